/-
  Pages, the program's: Write.
-/
import Derived.Test.YtliileemelcllaaPgPD
import Derived.Test.YtliileemelcllaaDPutP
namespace Go.Proofs.Ytliileemelcllaa
open Go.RowKit Go.Shelf
attribute [local go_sem] Oper.semAt_some
set_option linter.unusedVariables false

theorem dok_pwsK {d : Dsk} (h : DOk d) {at' : Int} {b : List UInt8} (hb : b.length = 256) (h0 : 0 ≤ at') (h1 : at' ≤ (d.1.length : Int) - 4) {k : Nat} (hk : k ≤ 4) (hc : d.2.length + k ≤ 4096) : DOk (d.1, d.2 ++ pws at' b k) := by
  refine ⟨h.1, h.2.1, ?_, h.2.2.2.1, ?_⟩
  · show (d.2 ++ _).length ≤ _
    rw [List.length_append, pws_len]; omega
  · intro y hy
    rcases List.mem_append.1 hy with hy | hy
    · exact h.2.2.2.2 y hy
    · obtain ⟨i, hi, rfl⟩ := pws_mem hy
      exact ⟨⟨by dsimp only; omega, by dsimp only; omega⟩, psec_len hb (by omega)⟩
theorem dput_pwsK {d : Dsk} (h : DOk d) {at' : Int} {b : List UInt8} (hb : b.length = 256) (h0 : 0 ≤ at') (h1 : at' ≤ (d.1.length : Int) - 4) {k : Nat} (hk : k < 4) (hc : d.2.length + k < 4096) : dput (d.1, d.2 ++ pws at' b k) (at' + k) (psec b k) = ((d.1, d.2 ++ pws at' b (k + 1)), 0) := by
  have hs : dsect (d.1, d.2 ++ pws at' b k) (at' + k) = 0 := dsect_zero.2 ⟨dok_pwsK h hb h0 h1 (by omega) (by omega), by show 0 ≤ at' + (k : Int) ∧ at' + (k : Int) < (d.1.length : Int); omega⟩
  have hl := psec_len hb hk
  unfold dput
  rw [if_neg (fun e => e hs), if_neg (by omega), if_neg (by show ¬ 4096 ≤ (d.2 ++ _).length; rw [List.length_append, pws_len]; omega), pad_id hl]
  show ((d.1, d.2 ++ pws at' b k ++ [(at' + k, psec b k)]), 0) = _
  rw [List.append_assoc]
  rfl
theorem dput_pws_full {d : Dsk} (h : DOk d) {at' : Int} {b : List UInt8} (hb : b.length = 256) (h0 : 0 ≤ at') (h1 : at' ≤ (d.1.length : Int) - 4) {k : Nat} (hk : k < 4) (hc : d.2.length + k = 4096) : dput (d.1, d.2 ++ pws at' b k) (at' + k) (psec b k) = (([], []), 51) := by
  have hs : dsect (d.1, d.2 ++ pws at' b k) (at' + k) = 0 := dsect_zero.2 ⟨dok_pwsK h hb h0 h1 (by omega) (by omega), by show 0 ≤ at' + (k : Int) ∧ at' + (k : Int) < (d.1.length : Int); omega⟩
  have hl := psec_len hb hk
  unfold dput
  rw [if_neg (fun e => e hs), if_neg (by omega), if_pos (by show 4096 ≤ (d.2 ++ _).length; rw [List.length_append, pws_len]; omega)]

/-- what is the call's own lies in cells -/
def OnCells {α : Type} (s : Shp α) : Prop := ∀ {F w cs x}, s.own F w cs x → ∀ b, b ∈ F → ∃ o, w.heap[b]? = some o ∧ o.isCells = true
theorem onCells_int (k : IntKind) : OnCells (Shp.int k) := by
  rintro F w cs x ⟨rfl, _⟩ b hb; cases hb
theorem onCells_octs : OnCells Shp.octs := by
  rintro F w cs x ⟨v, rfl, h, rfl⟩ b hb
  rcases h.2 with ⟨rfl, _⟩ | ⟨g, cap, cur, rfl, h0, hg, r⟩
  · cases hb
  · simp [Value.ownBlock] at hb; subst hb; exact ⟨_, hg, rfl⟩
theorem onCells_pair {α β : Type} {s : Shp α} {t : Shp β} (h1 : OnCells s) (h2 : OnCells t) : OnCells (s.pair t) := by
  rintro F w cs x ⟨c, d, G, H, rfl, rfl, k1, k2⟩ b hb
  rcases List.mem_append.1 hb with h | h
  · exact h1 k1 b h
  · exact h2 k2 b h
theorem onCells_each {α : Type} {s : Shp α} (h1 : OnCells s) {w : World} : ∀ {xs : List α} {F cc}, ownEach s w F cc xs → ∀ b, b ∈ F → ∃ o, w.heap[b]? = some o ∧ o.isCells = true
  | [], F, cc, h, b, hb => by rw [h.1] at hb; cases hb
  | x :: xs, F, cc, ⟨F1, F2, c1, c2, e1, e2, k1, k2⟩, b, hb => by
    rw [e1] at hb
    rcases List.mem_append.1 hb with h | h
    · exact h1 k1 b h
    · exact onCells_each h1 k2 b h
theorem onCells_list {α : Type} {s : Shp α} (T : Nat) (h1 : OnCells s) : OnCells (Shp.list T s) := by
  rintro F w cs xs ⟨v, cc, G, rfl, k1, k2, rfl⟩ b hb
  rcases List.mem_append.1 hb with h | h
  · rcases k1.2 with ⟨rfl, _⟩ | ⟨g, cap, cur, rfl, h0, hg, r⟩
    · cases h
    · simp [Value.ownBlock] at h; subst h; exact ⟨_, hg, rfl⟩
  · exact onCells_each h1 k2 b h
theorem onCells_state : OnCells SStP := onCells_pair (onCells_list _ onCells_octs) (onCells_list _ (onCells_pair (onCells_int _) onCells_octs))
theorem KpC.ownS {α : Type} {s : Shp α} (hs : OnCells s) {V V' : World} (h : KpC V V') {B : Nat} {cs : List Value} {x : α} (o : Own s B V cs x) : Own s B V' cs x := by
  obtain ⟨F, h1, h2, h3⟩ := o
  refine ⟨F, s.own_to h1 fun b hb => ?_, h2, h3⟩
  obtain ⟨o, e, hc⟩ := hs h1 b hb
  exact (h.2 b o e hc).trans e.symm
theorem KpC.rdSec {V V' : World} (h : KpC V V') {v : Value} {ss : List (List UInt8)} (hr : RdSec V v ss) : RdSec V' v ss := by
  obtain ⟨ao, cap, rfl, h1, h2, h3, h4⟩ := hr
  refine ⟨ao, cap, rfl, h1, h2, h3, ?_⟩
  rcases h4 with h4 | ⟨b, off, rfl, hc⟩
  · exact .inl h4
  · refine .inr ⟨b, off, rfl, fun i x hx => ?_⟩
    obtain ⟨c, ⟨v, e, hv⟩, hcell⟩ := hc i x hx
    exact ⟨c, ⟨v, e, h.rd hv⟩, fun j u hj => h.cell (hcell j u hj)⟩
theorem rd_at {w V : World} {g o n c : Nat} {b : List UInt8} (h : Rd w (.slice (some ⟨g, o, none⟩) n c) b) (hg : V.heap[g]? = w.heap[g]?) : Rd V (.slice (some ⟨g, o, none⟩) n c) b := by
  obtain ⟨ao, cap, e, h1, h2, h3, h4⟩ := h
  refine ⟨ao, cap, e, h1, h2, h3, ?_⟩
  rcases h4 with h4 | ⟨b', off, rfl, hc⟩
  · exact .inl h4
  · simp only [Value.slice.injEq, Option.some.injEq, Addr.mk.injEq, and_true] at e
    obtain ⟨⟨rfl, rfl⟩, _, _⟩ := e
    exact .inr ⟨_, _, rfl, fun i hi => (World.cell?_of_block hg).trans (hc i hi)⟩
theorem results_rowbox {P : Program} {fn : Func} {p q : Tmp} {t1 t2 : TypeId} (h : fn.results = #[.cell p t1, .cell q t2]) (tmps : Array Value) (w : World) (g1 g2 : Nat) (x y v2 : Value) (t : TypeId) (fr : Nat × Nat) (d1 d2 : TypeDesc)
    (hu1 : P.underlying t1 = some d1) (hd1 : (match d1 with | .struct _ | .array _ _ => true | _ => false) = true) (hd2 : (match d2 with | .struct _ | .array _ _ => true | _ => false) = false) (hi : (P.info? t1).map (·.size) = some 2) (hu2 : P.underlying t2 = some d2) (hp : tmps.getD p undef = .pointer (some ⟨g1, 0, none⟩)) (hq : tmps.getD q undef = .pointer (some ⟨g2, 0, none⟩))
    (c1 : w.heap[g1]? = some (.cells #[x, y] t fr)) (c2 : w.cell? ⟨g2, 0, none⟩ = some v2) : (results fn tmps).run P w = .ok (.tuple #[.agg #[x, y], v2]) w := by
  have hp' : tmps[p]?.getD undef = .pointer (some ⟨g1, 0, none⟩) := by simpa using hp
  have hq' : tmps[q]?.getD undef = .pointer (some ⟨g2, 0, none⟩) := by simpa using hq
  simp [results, h, hp', hq', asAddr, run_loadVar_row w g1 t t1 #[x, y] fr d1 c1 hu1 hd1 hi, run_loadVar_one d2 hd2 hu2 c2]

def putRes (U : World) (g : Nat) (p q r : Value) : World := ((U.setCell ⟨g + 1, 0, none⟩ p).setCell ⟨g + 1, 1, none⟩ q).setCell ⟨g + 1 + 1, 0, none⟩ r
theorem putRes_row {U : World} {g : Nat} {x y : Value} {t : TypeId} {fr : Nat × Nat} (h : U.heap[g + 1]? = some (.cells #[x, y] t fr)) (p q r : Value) : (putRes U g p q r).heap[g + 1]? = some (.cells #[p, q] t fr) := by
  unfold putRes
  rw [Below.heap_setCell _ _ _ _ (by show g + 1 ≠ g + 1 + 1; omega)]
  exact heap_set2 h p q
theorem putRes_box {U : World} {g : Nat} {v : Value} {t : TypeId} (h : Boxed U (g + 1 + 1) t v) (p q r : Value) : Boxed (putRes U g p q r) (g + 1 + 1) t r := by
  unfold putRes
  have : Boxed ((U.setCell ⟨g + 1, 0, none⟩ p).setCell ⟨g + 1, 1, none⟩ q) (g + 1 + 1) t v := by
    show (_ : Option Obj) = _
    rw [Below.heap_setCell _ _ _ _ (by show g + 1 + 1 ≠ g + 1; omega), Below.heap_setCell _ _ _ _ (by show g + 1 + 1 ≠ g + 1; omega)]; exact h
  exact this.set r
theorem putRes_below {B : Nat} {w U : World} (h : Below B w U) {g : Nat} (hg : B ≤ g) (p q r : Value) : Below B w (putRes U g p q r) :=
  (below_set2 h (show B ≤ g + 1 by omega) p q).setCell (p := ⟨g + 1 + 1, 0, none⟩) (show B ≤ g + 1 + 1 by omega) r
theorem putRes_own {α : Type} {s : Shp α} {B : Nat} {U : World} {cs : List Value} {x : α} (h : Own s B U cs x) {g : Nat} (hg : g + 1 + 1 < B) (p q r : Value) : Own s B (putRes U g p q r) cs x :=
  ((h.set (a := ⟨g + 1, 0, none⟩) (show g + 1 < B by omega) p).set (a := ⟨g + 1, 1, none⟩) (show g + 1 < B by omega) q).set (a := ⟨g + 1 + 1, 0, none⟩) hg r
theorem putRes_other {U : World} {g k : Nat} (h1 : k ≠ g + 1) (h2 : k ≠ g + 1 + 1) (p q r : Value) : (putRes U g p q r).heap[k]? = U.heap[k]? := by
  unfold putRes
  rw [Below.heap_setCell _ _ _ _ h2, Below.heap_setCell _ _ _ _ h1, Below.heap_setCell _ _ _ _ h1]
theorem putRes_keeps (U : World) (g : Nat) (p q r : Value) : KeepsOthers U (putRes U g p q r) := ((KeepsOthers.setCell _ _ _).trans (KeepsOthers.setCell _ _ _)).trans (KeepsOthers.setCell _ _ _)
/-- the disk and the error behind a sector that was put -/
def putSec (U : World) (g ge : Nat) (p q r : Value) : World := ((U.setCell ⟨g, 0, none⟩ p).setCell ⟨g, 1, none⟩ q).setCell ⟨ge, 0, none⟩ r
theorem putSec_other {U : World} {g ge k : Nat} (h1 : k ≠ g) (h2 : k ≠ ge) (p q r : Value) : (putSec U g ge p q r).heap[k]? = U.heap[k]? := by
  unfold putSec
  rw [Below.heap_setCell _ _ _ _ h2, Below.heap_setCell _ _ _ _ h1, Below.heap_setCell _ _ _ _ h1]
theorem putSec_keeps (U : World) (g ge : Nat) (p q r : Value) : KeepsOthers U (putSec U g ge p q r) := ((KeepsOthers.setCell _ _ _).trans (KeepsOthers.setCell _ _ _)).trans (KeepsOthers.setCell _ _ _)

/-- between two rounds: the disk in its box, the answer's boxes, the error's, the page's octets -/
def IW (w : World) (d : Dsk) (at' : Int) (b : List UInt8) (w2 : World) (gb : Nat) (pre : List Nat) (V : World) : Prop :=
  ∃ s c, Below w.heap.size w V ∧ V.heap[w.heap.size]? = some (.cells #[s, c] 43 (0, 0)) ∧ V.heap[w.heap.size + 1]? = some (.cells #[.slice none 0 0, .slice none 0 0] 43 (0, 0)) ∧ Boxed V (w.heap.size + 1 + 1) 24 (.int .i64 0) ∧ Boxed V w2.heap.size 24 (.int .i64 0) ∧
    V.heap[gb]? = w2.heap[gb]? ∧ RdSec V s d.1 ∧ RdC V c (d.2 ++ pws at' b pre.length) ∧ (1 ≤ pre.length → Own SStP (w2.heap.size + 1) V [s, c] (d.1, d.2 ++ pws at' b pre.length)) ∧ d.2.length + pre.length ≤ 4096
def XW (w : World) (d : Dsk) (c : Code) (pre : List Nat) (V : World) : Prop :=
  c = .ret ∧ 4092 < d.2.length ∧ Below w.heap.size w V ∧ V.heap[w.heap.size + 1]? = some (.cells #[.slice none 0 0, .slice none 0 0] 43 (0, 0)) ∧ Boxed V (w.heap.size + 1 + 1) 24 (.int .i64 51)
def actW (w w2 : World) (s1 s2 s3 : Value) (at' id : Int) (gb go gc : Nat) (x : Nat) : Act := { tmps := #[.agg #[s1, s2], .int .i64 at', .int .i64 id, s3, .pointer (some ⟨w.heap.size, 0, none⟩), undef, undef, undef, .pointer (some ⟨w.heap.size + 1, 0, none⟩), .pointer (some ⟨w.heap.size + 1 + 1, 0, none⟩), .int .i64 0, .slice (some ⟨gb, go, none⟩) 256 gc, .pointer (some ⟨w2.heap.size, 0, none⟩), .int .i64 (at' + (x : Int)), .slice (some ⟨gb, go + 64 * x, none⟩) 64 (gc - 64 * x), .agg #[s1, s2], .int .i64 at', .int .i64 0, .int .i64 0, .bool false, undef, undef, .tuple #[.slice (some ⟨gb, go, none⟩) 256 gc, .int .i64 0], .int .i64 id, s3, .tuple #[.slice (some ⟨gb, go, none⟩) 256 gc, .int .i64 0], .slice (some ⟨gb, go, none⟩) 256 gc, .int .i64 0, .int .i64 0, .bool false, undef, undef, .int .i64 at', .slice (some ⟨gb, go, none⟩) 256 gc, .func (.func 61) #[] #[.pointer (some ⟨w2.heap.size + 1, 0, none⟩), .pointer (some ⟨w2.heap.size + 1 + 1, 0, none⟩)], .int .i64 (at' + (x : Int)), .slice (some ⟨gb, go + 64 * x, none⟩) 64 (gc - 64 * x), undef, undef, undef, undef, undef, undef, undef, undef, undef, undef, undef, undef], defers := [] }
def AW (w : World) (d : Dsk) (at' : Int) (b : List UInt8) (w2 : World) (s1 s2 s3 : Value) (id : Int) (gb go gc : Nat) (pre : List Nat) (x : Nat) (a : Act) (V : World) : Prop :=
  IW w d at' b w2 gb pre V ∧ RP pre x V ∧ a = actW w w2 s1 s2 s3 at' id gb go gc x
theorem IW_kpc {w : World} {d : Dsk} {at' : Int} {b : List UInt8} {w2 : World} {gb : Nat} {pre : List Nat} {X Y : World} (k : KpC X Y) (hb : Below w.heap.size w Y) (hgb : ∃ o, w2.heap[gb]? = some o ∧ o.isCells = true) (h : IW w d at' b w2 gb pre X) : IW w d at' b w2 gb pre Y := by
  obtain ⟨s, c, h1, h2, h3, h4, h5, h6, h7, h8, h9, h10⟩ := h
  obtain ⟨o, ho, hc⟩ := hgb
  exact ⟨s, c, hb, k.2 _ _ h2 rfl, k.2 _ _ h3 rfl, k.2 _ _ h4 rfl, k.2 _ _ h5 rfl, (k.2 _ _ (h6.trans ho) hc).trans ho.symm, k.rdSec h7, k.rdC h8, fun q => k.ownS onCells_state (h9 q), h10⟩
theorem IW_own (w : World) (d : Dsk) (at' : Int) (b : List UInt8) (w2 : World) (gb B : Nat) (hB : w.heap.size ≤ B) (hgb : ∃ o, w2.heap[gb]? = some o ∧ o.isCells = true) : OwnFrom B (IW w d at' b w2 gb) := by
  rintro pre X Y row h hg hr
  have hb : Below w.heap.size w X := by obtain ⟨s, c, h1, _⟩ := h; exact h1
  exact IW_kpc (KpC.of_grown hg hr) (hb.grown hg hb.size (fun k e => by have := (hr k e).1; omega)) hgb h
theorem XW_own (w : World) (d : Dsk) (B : Nat) (hB : w.heap.size ≤ B) (c : Code) : OwnFrom B (XW w d c) := by
  rintro pre X Y row ⟨rfl, h0, hb, h2, h3⟩ hg hr
  have kp := KpC.of_grown hg hr
  exact ⟨rfl, h0, hb.grown hg hb.size (fun k e => by have := (hr k e).1; omega), kp.2 _ _ h2 rfl, kp.2 _ _ h3 rfl⟩

set_option maxHeartbeats 4000000 in
set_option maxRecDepth 100000 in
theorem ppgwrite_any (w : World) (sv cv v : Value) (d : Dsk) (at' id : Int) (x : List UInt8) (h1 : RdSec w sv d.1) (h2 : RdC w cv d.2) (hx : Rd w v x) :
    Calls Try.prog 18 #[.agg #[sv, cv], .int .i64 at', .int .i64 id, v] w fun e w' => ∃ sv' cv', e = .returned (.tuple #[.agg #[sv', cv'], .int .i64 (pgwrite d at' id x).2]) ∧ Own SStP w.heap.size w' [sv', cv'] (pgwrite d at' id x).1 ∧ Below w.heap.size w w' := by
  refine (callsIn_wide (n := 5)).1 ?_
  have sD := hide (fun h => @pgwrite_sect d at' id x h)
  have sE := hide (fun h h2 => @pgwrite_enc d at' id x h h2)
  have sF := hide (fun h h2 h3 => @pgwrite_full d at' id x h h2 h3)
  have sY := hide (fun h h2 h3 => @pgwrite_0 d at' id x h h2 h3)
  have KE := hide (fun u h => pgencP_any u id v x h)
  have hbl := hide (fun (h : (pgenc id x).2 = 0) => show (pgenc id x).1.length = 256 by rw [(pgenc_zero h).2.2]; exact pgenc_len _ (pgenc_zero h).2.1)
  obtain ⟨bb, er, hb⟩ : ∃ bb er, pgenc id x = (bb, er) := ⟨_, _, rfl⟩
  rw [hb] at sE sF sY KE hbl
  dsimp only at sE sF sY KE hbl
  generalize hST : pgwrite d at' id x = ST at *
  clear hb hST
  obtain ⟨a1, c1, rfl⟩ := h1.slice
  obtain ⟨a2, c2, rfl⟩ := h2.slice
  obtain ⟨a3, c3, rfl⟩ := hx.slice
  obtain ⟨W, hW⟩ : ∃ W, W = ((w.alloc (.cells #[.slice a1 d.1.length c1, .slice a2 d.2.length c2] 43)).alloc (.cells #[.slice none 0 0, .slice none 0 0] 43)).alloc (.cells #[.int .i64 0] 24) := ⟨_, rfl⟩
  have sW : W.heap.size = w.heap.size + 1 + 1 + 1 := by rw [hW]; simp
  have bW : Below w.heap.size w W := by rw [hW]; exact (((Below.refl _ _).alloc (Nat.le_refl _) _).alloc (by simp) _).alloc (by simp <;> omega) _
  have hA : W.heap[w.heap.size]? = some (.cells #[.slice a1 d.1.length c1, .slice a2 d.2.length c2] 43 (0, 0)) := by
    rw [hW, Below.heap_alloc _ _ _ (by simp <;> omega), Below.heap_alloc _ _ _ (by simp)]; exact heap_alloc_last w _
  have hB : W.heap[w.heap.size + 1]? = some (.cells #[.slice none 0 0, .slice none 0 0] 43 (0, 0)) := by
    rw [hW, Below.heap_alloc _ _ _ (by simp)]
    have := heap_alloc_last (w.alloc (.cells #[.slice a1 d.1.length c1, .slice a2 d.2.length c2] 43)) (.cells #[.slice none 0 0, .slice none 0 0] 43); simpa using this
  have hC : Boxed W (w.heap.size + 1 + 1) 24 (.int .i64 0) := by
    show W.heap[_]? = _
    rw [hW]
    have := heap_alloc_last ((w.alloc (.cells #[.slice a1 d.1.length c1, .slice a2 d.2.length c2] 43)).alloc (.cells #[.slice none 0 0, .slice none 0 0] 43)) (.cells #[.int .i64 0] 24); simpa using this
  obtain ⟨A0, A1, _, _⟩ := row2_cells hA
  have KC := hide (ppgsect_any W _ _ d at' (h1.to0 bW) (h2.to0 bW))
  obtain ⟨E, hE⟩ : ∃ E, E = pgsect d at' := ⟨_, rfl⟩
  rw [← hE] at KC
  refine callsIn_of_wp_marks Try.func18 rfl trivial ?_ rfl
  simp only [Try.ntmps18, List.size_toArray, List.length_cons, List.length_nil, Nat.reduceAdd, Nat.reduceSub, Array.replicate_succ, Array.replicate_zero, List.push_toArray, List.append_toArray, List.nil_append, List.cons_append]
  gi_wp2_with fail
  rw [← hW]
  replace hW := hide hW
  refine ⟨trivial, ?_⟩
  refine (callsIn_wide.2 KC.out).mono ?_
  rintro e w1 ⟨rfl, b1⟩
  clear KC
  have c1w := bW.trans (b1.mono bW.size)
  have hA1 := (b1.block w.heap.size (by omega)).trans hA
  have hB1 := (b1.block (w.heap.size + 1) (by omega)).trans hB
  have hC1 : Boxed w1 (w.heap.size + 1 + 1) 24 (.int .i64 0) := (b1.block _ (by omega)).trans hC
  have hs1 : w.heap.size + 1 + 1 + 1 ≤ w1.heap.size := by have := b1.size; omega
  clear hA hB hC A0 A1 b1 bW
  by_cases h0 : E = 0
  · have hsec : Hid (pgsect d at' = 0) := by show _ = _; rw [← hE]; exact h0
    subst h0
    replace hE := hide hE
    have KE1 := hide (KE.out w1 (hx.to c1w))
    clear KE
    gi_wp2_with fail
    refine ⟨trivial, ?_⟩
    refine (callsIn_wide.2 KE1.out).mono ?_
    rintro e w2 ⟨v2, rfl, o2, b2⟩
    clear KE1
    have c2w := c1w.trans (b2.mono c1w.size)
    have hA2 := (b2.block w.heap.size (by omega)).trans hA1
    have hB2 := (b2.block (w.heap.size + 1) (by omega)).trans hB1
    have hC2 : Boxed w2 (w.heap.size + 1 + 1) 24 (.int .i64 0) := (b2.block _ (by omega)).trans hC1
    have hs2 := b2.size
    obtain ⟨w4, hw4⟩ : ∃ u, u = w2.alloc (.cells #[.int .i64 er] 24) := ⟨_, rfl⟩
    have s4 : w4.heap.size = w2.heap.size + 1 := by rw [hw4]; simp
    have b4 : Below w2.heap.size w2 w4 := by rw [hw4]; exact (Below.refl _ _).alloc (Nat.le_refl _) _
    have hD4 : Boxed w4 w2.heap.size 24 (.int .i64 er) := by rw [hw4]; exact Boxed.new w2 _ _
    have hk4 : ∀ k, k < w2.heap.size → w4.heap[k]? = w2.heap[k]? := fun k hk => b4.block k hk
    have c4w := c2w.trans (b4.mono c2w.size)
    have hA4 := (hk4 w.heap.size (by omega)).trans hA2
    have hB4 := (hk4 (w.heap.size + 1) (by omega)).trans hB2
    have hC4 : Boxed w4 (w.heap.size + 1 + 1) 24 (.int .i64 0) := (hk4 _ (by omega)).trans hC2
    clear hA1 hB1 hC1 hA2 hB2 hC2 b2 b4
    by_cases he : er = 0
    · have hbL := hide (hbl.out he)
      obtain ⟨gb, go, gc, hv2, hgc, hgm, _, _⟩ := rdN o2.rd hbL.out (by decide)
      subst hv2
      have hgo : ∃ o, w2.heap[gb]? = some o ∧ o.isCells = true := by
        rcases o2.2 with ⟨e, _⟩ | ⟨g, cap, cur, e, _, hg, _⟩
        · cases e
        · simp only [Value.slice.injEq, Option.some.injEq, Addr.mk.injEq, and_true] at e
          obtain ⟨⟨rfl, rfl⟩, _, _⟩ := e
          exact ⟨_, hg, rfl⟩
      have hgb : gb < w2.heap.size := by obtain ⟨o, ho, _⟩ := hgo; exact lt_of_block ho
      have hgw : w1.heap.size ≤ gb := o2.from gb rfl
      have r4 := rd_at o2.rd (hk4 gb hgb)
      have r2 := hide o2.rd
      subst he
      gi_wp2_with fail
      rw [← hw4]
      replace hw4 := hide hw4
      refine ⟨trivial, ?_⟩
      refine (callsIn_wide.2 (sectorsFrom_any w4 at' _ bb r4)).mono ?_
      rintro e w' ⟨rfl, rfl⟩
      gi_wp2
      obtain ⟨w5, hw5⟩ : ∃ u, u = (w4.alloc (.cells #[.int .i64 at'] 3)).alloc (.cells #[.slice (some ⟨gb, go, none⟩) 256 gc] 22) := ⟨_, rfl⟩
      have s5 : w5.heap.size = w2.heap.size + 1 + 1 + 1 := by rw [hw5]; simp [s4]
      have b5 : Below w4.heap.size w4 w5 := by rw [hw5]; exact ((Below.refl _ _).alloc (Nat.le_refl _) _).alloc (by simp) _
      have ba : Boxed w5 (w2.heap.size + 1) 3 (.int .i64 at') := by
        rw [hw5, ← s4]; exact (Boxed.new w4 _ _).alloc _
      have bp : Boxed w5 (w2.heap.size + 1 + 1) 22 (.slice (some ⟨gb, go, none⟩) 256 gc) := by
        rw [hw5, ← s4]
        have := Boxed.new (w4.alloc (.cells #[.int .i64 at'] 3)) 22 (.slice (some ⟨gb, go, none⟩) 256 gc)
        simpa using this
      have k5 : ∀ k, k < w4.heap.size → w5.heap[k]? = w4.heap[k]? := fun k hk => b5.block k hk
      have c5w := c4w.trans (b5.mono c4w.size)
      obtain ⟨hok, hp0, hp1⟩ := pgsect_0.1 hsec.out
      have hsl := hok.2.1
      have hcl := hok.2.2.1
      have i5 : IW w d at' bb w2 gb [] w5 := ⟨_, _, c5w, (k5 _ (by omega)).trans hA4, (k5 _ (by omega)).trans hB4, (k5 _ (by omega)).trans hC4, (k5 _ (by omega)).trans hD4, (k5 _ (by omega)).trans (hk4 _ hgb), h1.to0 c5w, by simpa [pws] using h2.to0 c5w, fun h => by simp at h, by simpa using hcl⟩
      rw [← hw5]
      replace hw5 := hide hw5
      refine wpIn_range_hands rfl (by decide) (gf := 61) (lb := #[.pointer (some ⟨w2.heap.size + 1, 0, none⟩), .pointer (some ⟨w2.heap.size + 1 + 1, 0, none⟩)]) rfl trivial (enters_of Try.func61 (by kernel_rfl) rfl)
        (sectors1_hands at' hp0 (by omega) gb go gc hgc w5 _ _ ba bp (5 - 1)) KpP.trans (fun X l o o' _ h1 h2 _ => KpP.put X l o o' h1 h2) (fun _ => rfl) (IW w d at' bb w2 gb) (XW w d) (AW w d at' bb w2 (.slice a1 d.1.length c1) (.slice a2 d.2.length c2) (.slice a3 x.length c3) id gb go gc)
        (IW_own w d at' bb w2 gb _ (by omega) hgo) (XW_own w d _ (by omega)) (fun _ _ _ _ h _ _ => h) (fun pre y a _ X Y row h hg hr => ⟨IW_own w d at' bb w2 gb _ (by omega) hgo pre X Y row h.1 hg hr, h.2⟩) i5 ?assign ?body ?done ?stop
      case assign =>
        rintro l pre y W' K hI hRW hK
        have hk := hK (actW w w2 (.slice a1 d.1.length c1) (.slice a2 d.2.length c2) (.slice a3 x.length c3) at' id gb go gc y) W' (KeepsFrom.refl _ _) (fun _ _ _ h _ => h) ⟨hI, hRW, rfl⟩
        have HK := hide hk
        clear hk hK hI hRW
        dsimp only [encPG]
        gi_wp2
        exact HK.out
      case body =>
        rintro l pre y a' W' hl ⟨⟨s, c, i1, i2, i3, i4, i5', i6, i7, i8, i9, i10⟩, ⟨hy, hy4⟩, rfl⟩
        rw [← hy] at i8 i9 i10
        obtain ⟨sa, sc, hs⟩ := i7.slice
        obtain ⟨ca, cc, hcv⟩ := i8.slice
        obtain ⟨L, hL⟩ : ∃ L, L = (d.2 ++ pws at' bb y).length := ⟨_, rfl⟩
        rw [← hL] at hcv
        subst hs hcv
        obtain ⟨gb', go', gc', hv', _, _, hR, _⟩ := rdN (rd_at r2.out i6) hbL.out (by decide)
        simp only [Value.slice.injEq, Option.some.injEq, Addr.mk.injEq, and_true, true_and] at hv'
        obtain ⟨⟨rfl, rfl⟩, rfl⟩ := hv'
        have rP : Rd W' (.slice (some ⟨gb, go + 64 * y, none⟩) 64 (gc - 64 * y)) (psec bb y) := by
          have := hR (64 * y) (64 * y + 64) (by omega) (by omega)
          rwa [show 64 * y + 64 - 64 * y = 64 by omega] at this
        have KP := hide (dput_any W' _ _ _ (d.1, d.2 ++ pws at' bb y) (at' + (y : Int)) (psec bb y) i7 i8 rP)
        obtain ⟨q0, q1, _, _⟩ := row2_cells i2
        have hWs : w2.heap.size + 1 ≤ W'.heap.size := i5'.lt
        have hgw1 : w.heap.size + 1 + 1 < w2.heap.size := by omega
        have HI := hide (And.intro i1 (And.intro i2 (And.intro i3 (And.intro i4 (And.intro i5' i6)))))
        have hyl : Hid ((pre ++ [y]).length = y + 1) := by show _ = _; rw [List.length_append, ← hy]; rfl
        have hi10 := hide i10
        have HOK := hide hok
        replace hL := hide hL
        replace hy := hide hy
        clear i1 i2 i3 i4 i5' i6 i7 i8 i9 i10 hR rP hok hA4 hB4 hC4 hD4 ba bp
        by_cases hf : d.2.length + y < 4096
        · rw [dput_pwsK HOK.out hbL.out hp0 hp1 hy4 hf] at KP
          dsimp only at KP
          dsimp only [actW]
          gi_wp2_with fail
          refine ⟨trivial, ?_⟩
          refine (callsIn_wide.2 KP.out).mono ?_
          rintro e w6 ⟨ys, yc, rfl, o6, b6⟩
          clear KP q0 q1
          obtain ⟨P1, P2⟩ := Own.fst (c := [ys]) (d := [yc]) o6 rfl
          obtain ⟨ya, yx, hs⟩ := P1.rdS.slice
          obtain ⟨yb, yy, hcv⟩ := P2.rdS.slice
          obtain ⟨L2, hL2⟩ : ∃ L, L = (d.2 ++ pws at' bb (y + 1)).length := ⟨_, rfl⟩
          rw [← hL2] at hcv
          replace hL2 := hide hL2
          dsimp only at hs
          subst hs hcv
          clear P1 P2
          obtain ⟨i1, i2, i3, i4, i5', i6⟩ := HI.out
          have A6 := (b6.block _ (lt_of_block i2)).trans i2
          obtain ⟨y0, y1, y2, y3⟩ := row2_cells A6
          have D6 : Boxed ((w6.setCell ⟨w.heap.size, 0, none⟩ (.slice ya d.1.length yx)).setCell ⟨w.heap.size, 1, none⟩ (.slice yb L2 yy)) w2.heap.size 24 (.int .i64 0) := by
            show (_ : Option Obj) = _
            rw [Below.heap_setCell _ _ _ _ (by show w2.heap.size ≠ w.heap.size; omega), Below.heap_setCell _ _ _ _ (by show w2.heap.size ≠ w.heap.size; omega)]
            exact (b6.block _ i5'.lt).trans i5'
          have p1 := D6.cell
          have p2 := D6.frozen
          have p3 := (D6.set (.int .i64 0)).cell
          have FIN : Hid (KeepsFrom w5.heap.size W' (putSec w6 w.heap.size w2.heap.size (.slice ya d.1.length yx) (.slice yb L2 yy) (.int .i64 0)) ∧ KpP (w2.heap.size + 1) (w2.heap.size + 1 + 1) W' (putSec w6 w.heap.size w2.heap.size (.slice ya d.1.length yx) (.slice yb L2 yy) (.int .i64 0)) ∧
              IW w d at' bb w2 gb (pre ++ [y]) (putSec w6 w.heap.size w2.heap.size (.slice ya d.1.length yx) (.slice yb L2 yy) (.int .i64 0))) := by
            have k1 : KeepsOthers W' w6 := ⟨b6.size, fun k o h _ => (b6.block k (Array.getElem?_eq_some_iff.1 h).1).trans h⟩
            have oN : Own SStP (w2.heap.size + 1) (putSec w6 w.heap.size w2.heap.size (.slice ya d.1.length yx) (.slice yb L2 yy) (.int .i64 0)) [.slice ya d.1.length yx, .slice yb L2 yy] (d.1, d.2 ++ pws at' bb (y + 1)) :=
              (((o6.set (a := ⟨w.heap.size, 0, none⟩) (by show w.heap.size < W'.heap.size; omega) _).set (a := ⟨w.heap.size, 1, none⟩) (by show w.heap.size < W'.heap.size; omega) _).set (a := ⟨w2.heap.size, 0, none⟩) (by show w2.heap.size < W'.heap.size; omega) _).mono hWs
            obtain ⟨P1, P2⟩ := Own.fst (c := [.slice ya d.1.length yx]) (d := [.slice yb L2 yy]) oN rfl
            refine ⟨(k1.trans (putSec_keeps _ _ _ _ _ _)).from _, ?_, _, _, ?_, ?_, ?_, ?_, D6.set _, ?_, P1.rdS, by rw [hyl.out]; exact P2.rdS, fun _ => by rw [hyl.out]; exact oN, by rw [hyl.out]; omega⟩
            · intro k o hk h1 _
              rw [putSec_other (by rcases hk with rfl | rfl <;> omega) (by rcases hk with rfl | rfl <;> omega)]
              exact (b6.block k (Array.getElem?_eq_some_iff.1 h1).1).trans h1
            · exact (below_set2 (i1.trans (b6.mono i1.size)) (Nat.le_refl _) _ _).setCell (p := ⟨w2.heap.size, 0, none⟩) (by show w.heap.size ≤ w2.heap.size; omega) _
            · unfold putSec
              rw [Below.heap_setCell _ _ _ _ (by show w.heap.size ≠ w2.heap.size; omega)]
              exact heap_set2 A6 _ _
            · rw [putSec_other (by omega) (by omega)]; exact (b6.block _ (lt_of_block i3)).trans i3
            · show (_ : Option Obj) = _
              rw [putSec_other (by omega) (by omega)]; exact (b6.block _ i4.lt).trans i4
            · rw [putSec_other (by omega) (by omega)]; exact (b6.block _ (by omega)).trans i6
          clear A6 D6 i1 i2 i3 i4 i5' i6 o6 b6 HI
          gi_wp2
          exact FIN.out
        · have hf' : d.2.length + y = 4096 := by have := hi10.out; omega
          rw [dput_pws_full HOK.out hbL.out hp0 hp1 hy4 hf'] at KP
          dsimp only at KP
          dsimp only [actW]
          replace hf := hide hf
          replace hf' := hide hf'
          gi_wp2_with fail
          refine ⟨trivial, ?_⟩
          refine (callsIn_wide.2 KP.out).mono ?_
          rintro e w6 ⟨ys, yc, rfl, o6, b6⟩
          clear KP q0 q1
          obtain ⟨P1, P2⟩ := Own.fst (c := [ys]) (d := [yc]) o6 rfl
          obtain ⟨ya, yx, hs⟩ := P1.rdS.slice
          obtain ⟨yb, yy, hcv⟩ := P2.rdS.slice
          dsimp only [List.length_nil] at hs hcv
          subst hs hcv
          clear P1 P2
          obtain ⟨i1, i2, i3, i4, i5', i6⟩ := HI.out
          have A6 := (b6.block _ (lt_of_block i2)).trans i2
          obtain ⟨y0, y1, y2, y3⟩ := row2_cells A6
          have D6 : Boxed ((w6.setCell ⟨w.heap.size, 0, none⟩ (.slice ya 0 yx)).setCell ⟨w.heap.size, 1, none⟩ (.slice yb 0 yy)) w2.heap.size 24 (.int .i64 0) := by
            show (_ : Option Obj) = _
            rw [Below.heap_setCell _ _ _ _ (by show w2.heap.size ≠ w.heap.size; omega), Below.heap_setCell _ _ _ _ (by show w2.heap.size ≠ w.heap.size; omega)]
            exact (b6.block _ i5'.lt).trans i5'
          have p1 := D6.cell
          have p2 := D6.frozen
          have p3 := (D6.set (.int .i64 51)).cell
          obtain ⟨U, hU⟩ : ∃ U, U = putSec w6 w.heap.size w2.heap.size (.slice ya 0 yx) (.slice yb 0 yy) (.int .i64 51) := ⟨_, rfl⟩
          have B6 : U.heap[w.heap.size + 1]? = some (.cells #[.slice none 0 0, .slice none 0 0] 43 (0, 0)) := by rw [hU, putSec_other (by omega) (by omega)]; exact (b6.block _ (lt_of_block i3)).trans i3
          have C6 : Boxed U (w.heap.size + 1 + 1) 24 (.int .i64 0) := by
            show (_ : Option Obj) = _
            rw [hU, putSec_other (by omega) (by omega)]; exact (b6.block _ i4.lt).trans i4
          have bU : Below w.heap.size w U := by
            rw [hU]; exact (below_set2 (i1.trans (b6.mono i1.size)) (Nat.le_refl _) _ _).setCell (p := ⟨w2.heap.size, 0, none⟩) (by show w.heap.size ≤ w2.heap.size; omega) _
          have kU : KeepsOthers W' U := by
            have k1 : KeepsOthers W' w6 := ⟨b6.size, fun k o h _ => (b6.block k (Array.getElem?_eq_some_iff.1 h).1).trans h⟩
            rw [hU]; exact k1.trans (putSec_keeps _ _ _ _ _ _)
          have pU : U.cell? ⟨w2.heap.size, 0, none⟩ = some (.int .i64 51) := by rw [hU]; exact p3
          obtain ⟨r0, r1, f0, f1⟩ := row2_cells B6
          have e0 := C6.cell
          have e1 := C6.frozen
          have FIN : Hid (KeepsFrom w5.heap.size W' (putRes U w.heap.size (.slice none 0 0) (.slice none 0 0) (.int .i64 51)).drew ∧ XW w d .ret (pre ++ [y]) (putRes U w.heap.size (.slice none 0 0) (.slice none 0 0) (.int .i64 51)).drew) :=
            ⟨((kU.trans (putRes_keeps _ _ _ _ _)).trans (KeepsOthers.drew _)).from _, rfl, by have := hf'.out; omega, below_drew (putRes_below bU (Nat.le_refl _) _ _ _), putRes_row B6 _ _ _, putRes_box C6 _ _ _⟩
          replace hU : ((w6.setCell ⟨w.heap.size, 0, none⟩ (.slice ya 0 yx)).setCell ⟨w.heap.size, 1, none⟩ (.slice yb 0 yy)).setCell ⟨w2.heap.size, 0, none⟩ (.int .i64 51) = U := hU.symm
          clear A6 D6 i1 i2 i3 i4 i5' i6 o6 b6 HI B6 C6 bU kU
          gi_wp2_with fail
          replace hU := hide hU
          have hmx : Try.prog.follows .mixedOrders = true := mixed
          gi_region_with_o (fail)
          all_goals
            gi_wp2
            exact FIN.out
      case done =>
        rintro D xs W' hD hSP ⟨s, c, i1, i2, i3, i4, i5', i6, i7, i8, i9, i10⟩ hK
        have hx4 : xs.length = 4 := hSP
        rw [hx4] at i8 i9 i10
        have hS := hide (sY.out hsec.out (by trivial) (by omega))
        obtain ⟨sa, sc, hs⟩ := i7.slice
        obtain ⟨ca, cc, hcv⟩ := i8.slice
        obtain ⟨L, hL⟩ : ∃ L, L = (d.2 ++ pws at' bb 4).length := ⟨_, rfl⟩
        rw [← hL] at hcv
        replace hL := hide hL
        subst hs hcv
        obtain ⟨q0, q1, _, _⟩ := row2_cells i2
        obtain ⟨r0, r1, f0, f1⟩ := row2_cells i3
        have e0 := i4.cell
        have e1 := i4.frozen
        have hK6 : (putRes W' w.heap.size (.slice sa d.1.length sc) (.slice ca L cc) (.int .i64 0)).heap[D]? = some (.deferred (some [])) := by rw [putRes_other (by omega) (by omega)]; exact hK
        have FIN := hide (And.intro hK6 (And.intro (putRes_row i3 (.slice sa d.1.length sc) (.slice ca L cc) (.int .i64 0)) (And.intro (putRes_box i4 (.slice sa d.1.length sc) (.slice ca L cc) (.int .i64 0)) (And.intro (putRes_own (g := w.heap.size) (i9 (by decide)) (by omega) (.slice sa d.1.length sc) (.slice ca L cc) (.int .i64 0)) (putRes_below i1 (Nat.le_refl _) (.slice sa d.1.length sc) (.slice ca L cc) (.int .i64 0))))))
        clear i1 i2 i3 i4 i5' i6 i7 i8 i9 i10 hK6 hx4 hSP hA4 hB4 hC4 hD4 ba bp
        gi_wp2
        obtain ⟨hK6, e1', e2', e3', e4'⟩ := FIN.out
        have kp := KpC.put _ D _ (.deferred none) hK6 rfl
        refine ⟨by simp, .inl ⟨_, _, rfl, run_takeDeferred hK6, ?_⟩⟩
        refine ⟨_, results_rowbox rfl _ _ _ _ _ _ _ _ _ _ _ Try.underlying43 rfl rfl info_stP Try.underlying24 rfl rfl (kp.2 _ _ e1' rfl) (kp.cell e2'.cell), ?_⟩
        rw [hS.out]
        exact ⟨_, _, rfl, (kp.ownS onCells_state e3').mono (by omega), e4'.trans ⟨rfl, rfl, rfl, by simp [World.putObj, putRes], fun k hk => World.putObj_heap_other (by omega)⟩⟩
      case stop =>
        rintro D c pre W' hD ⟨rfl, hf, hb, e1, e2⟩ hK
        have hS := hide (sF.out hsec.out (by trivial) hf)
        gi_wp2
        have kp := KpC.put _ D _ (.deferred none) hK rfl
        refine ⟨by simp, .inl ⟨_, _, rfl, run_takeDeferred hK, ?_⟩⟩
        refine ⟨_, results_rowbox rfl _ _ _ _ _ _ _ _ _ _ _ Try.underlying43 rfl rfl info_stP Try.underlying24 rfl rfl (kp.2 _ _ e1 rfl) (kp.cell e2.cell), ?_⟩
        rw [hS.out]
        exact ⟨_, _, rfl, own_none _ _ _, hb.trans ⟨rfl, rfl, rfl, by simp [World.putObj], fun k hk => World.putObj_heap_other (by omega)⟩⟩
    · have hS := hide (sE.out hsec.out he)
      have hee : (er != 0) = true := by simpa using he
      replace he := hide he
      obtain ⟨s2', t2', hv2⟩ := o2.rd.slice
      subst hv2
      obtain ⟨r0, r1, f0, f1⟩ := row2_cells hB4
      have e0 := hC4.cell
      have e1 := hC4.frozen
      have d4 := hD4.cell
      rw [hw4] at d4
      clear o2
      gi_wp2_with fail
      rw [← hw4]
      rw [← hw4] at d4
      replace hw4 := hide hw4
      have HX : Hid (Below w.heap.size w w4 ∧ _ ∧ _) := ⟨c4w, hB4, hC4⟩
      clear hA4 hB4 hC4
      gi_region
      gi_wp2
      refine ⟨_, results_rowbox rfl _ _ _ _ _ _ _ _ _ _ _ Try.underlying43 rfl rfl info_stP Try.underlying24 rfl rfl (putRes_row HX.out.2.1 _ _ _) (putRes_box HX.out.2.2 _ _ _).cell, ?_⟩
      rw [hS.out]
      exact ⟨_, _, rfl, own_none _ _ _, below_drew (putRes_below HX.out.1 (Nat.le_refl _) _ _ _)⟩
  · have hS := hide (sD.out (by rw [← hE]; exact h0))
    have hbe : (E != 0) = true := by simpa using h0
    replace h0 := hide h0
    replace hE := hide hE
    obtain ⟨r0, r1, f0, f1⟩ := row2_cells hB1
    have cc := (hC1.other (by omega : w.heap.size + 1 + 1 ≠ w.heap.size + 1) (.slice none 0 0)).cell
    have cf := hC1.frozen
    have HX : Hid (Below w.heap.size w w1 ∧ _ ∧ _) := ⟨c1w, hB1, hC1⟩
    clear hA1 hB1 hC1
    gi_wp2
    refine ⟨_, results_rowbox rfl _ _ _ _ _ _ _ _ _ _ _ Try.underlying43 rfl rfl info_stP Try.underlying24 rfl rfl (putRes_row HX.out.2.1 _ _ _) (putRes_box HX.out.2.2 _ _ _).cell, ?_⟩
    rw [hS.out]
    exact ⟨_, _, by rw [← hE.out], own_none _ _ _, putRes_below HX.out.1 (Nat.le_refl _) _ _ _⟩

end Go.Proofs.Ytliileemelcllaa
