/- Several texts in one. -/
import Derived.Deep.QuietTactic
import Derived.BigQuiet
import Derived.Laws.Cover1
import Derived.Test.YtgmkknonnidgaaaMergeW
import Derived.Test.YtgmkknonnidgaaaNPF
import Derived.Test.YtgmkknonnidgaaaMergeA
import Derived.Test.YtgmkknonnidgaaaMergeD
import Derived.Test.YtgmkknonnidgaaaRSched
import Derived.Test.YtgmkknonnidgaaaNPH
/-
  The program's walk, as it lies in memory: a box of six cells and a map; count.
-/
namespace Go.Proofs.Ytgmkknonnidgaaa
open Go.RowKit
set_option linter.unusedVariables false
set_option linter.unusedSimpArgs false

/-- all blocks but two are kept -/
def KpM (g m : Nat) (w U : World) : Prop := (∀ b, b < w.heap.size → b ≠ g → b ≠ m → U.heap[b]? = w.heap[b]?) ∧ w.heap.size ≤ U.heap.size ∧ ∀ B, B ≤ g → B ≤ m → B ≤ w.heap.size → Below B w U
theorem KpM.of {g m : Nat} {w U : World} (h : Below w.heap.size w U) : KpM g m w U := ⟨fun b hb _ _ => h.block b hb, h.size, fun B _ _ hB => h.mono hB⟩
theorem KpM.refl (g m : Nat) (w : World) : KpM g m w w := KpM.of (Below.refl _ _)
theorem KpM.trans {g m : Nat} {w U V : World} (h : KpM g m w U) (k : KpM g m U V) : KpM g m w V :=
  ⟨fun b hb h1 h2 => (k.1 b (Nat.lt_of_lt_of_le hb h.2.1) h1 h2).trans (h.1 b hb h1 h2), Nat.le_trans h.2.1 k.2.1, fun B h1 h2 h3 => (h.2.2 B h1 h2 h3).trans (k.2.2 B h1 h2 (Nat.le_trans h3 h.2.1))⟩
theorem KpM.set {g m : Nat} {w U : World} (h : KpM g m w U) (i : Nat) (v : Value) : KpM g m w (U.setCell ⟨g, i, none⟩ v) :=
  ⟨fun b hb h1 h2 => (Below.heap_setCell _ _ _ _ h1).trans (h.1 b hb h1 h2), by simpa using h.2.1, fun B h1 h2 h3 => (h.2.2 B h1 h2 h3).setCell h1 _⟩
theorem KpM.map {g m : Nat} {w U V : World} (h : KpM g m w U) (k : U.grownBy V (some m)) : KpM g m w V :=
  ⟨fun b hb h1 h2 => (k.block b (Nat.lt_of_lt_of_le hb h.2.1) (fun e => h2 (by simpa using e))).trans (h.1 b hb h1 h2), Nat.le_trans h.2.1 k.size, fun B h1 h2 h3 => (h.2.2 B h1 h2 h3).grown k (Nat.le_trans h3 h.2.1) (fun j hj => by simp only [Option.some.injEq] at hj; omega)⟩
theorem KpM.row {g m : Nat} {w U : World} (h : KpM g m w U) {B T n : Nat} {v : Value} {k : Nat} {cc : List Value} (ho : w.ownsRow B T n v k cc) (hg : g < B) (hm : m < B) : U.ownsRow B T n v k cc := by
  refine ⟨ho.1, ?_⟩
  rcases ho.2 with hn | ⟨b, cap, cur, hv, hgb, hb, r⟩
  · exact .inl hn
  · exact .inr ⟨b, cap, cur, hv, hgb, (h.1 b (lt_of_block hb) (by omega) (by omega)).trans hb, r⟩
theorem KpM.node {g m : Nat} {w U : World} (h : KpM g m w U) {B : Nat} {kv vv dv : Value} {nd : Nd} (ho : OwnN B w kv vv dv nd) (hg : g < B) (hm : m < B) : OwnN B U kv vv dv nd := ⟨h.row ho.keys hg hm, h.row ho.vals hg hm, h.row ho.kids hg hm⟩
/-- what the map has at a number: the node of that page -/
def NdOf (l : List Wrt) (B : Nat) (w : World) (i : Int) (v : Value) : Prop := ∃ x nd kv vv dv, tpage l i = some x ∧ ndec x = (nd, 0) ∧ v = nv nd kv vv dv ∧ OwnN B w kv vv dv nd ∧ Dj kv vv dv
abbrev pcl6 (t : Tr) (pv : Value) (bm : Nat) (s : Sw) : Array Value := #[.int .i64 t.root, .int .i64 t.next, pv, .map (some bm), .int .i64 s.prs.length, .int .i64 (sdep s)]
structure PWk (w0 w : World) (B g bm : Nat) (t : Tr) (pv : Value) (s : Sw) (m : Int → Option Value) : Prop where
  box : w.heap[g]? = some (.cells (pcl6 t pv bm s) 92 (0, 0))
  map : MapI w bm s.seen.length m
  has : ∀ i, (m i).isSome = decide (i ∈ s.seen)
  nds : ∀ i v, m i = some v → NdOf t.pages B w i v
  pg : RdC w0 pv t.pages
  ok : SwOk t.next s
  dep : s.dep = none ↔ s.prs = []
  bel : Below w0.heap.size w0 w
  hg : w0.heap.size ≤ g ∧ g < B
  hm : w0.heap.size ≤ bm ∧ bm < B
theorem PWk.to {w0 w w' : World} {B g bm : Nat} {t : Tr} {pv : Value} {s : Sw} {m : Int → Option Value} (h : PWk w0 w B g bm t pv s m) (hb : Below w.heap.size w w') : PWk w0 w' B g bm t pv s m := by
  refine ⟨(hb.block _ (lt_of_block h.box)).trans h.box, h.map.kept (hb.block _ h.map.lt), h.has, fun i v hv => ?_, h.pg, h.ok, h.dep, h.bel.trans (hb.mono h.bel.size), h.hg, h.hm⟩
  obtain ⟨x, nd, kv, vv, dv, h1, h2, h3, h4, h5⟩ := h.nds i v hv
  exact ⟨x, nd, kv, vv, dv, h1, h2, h3, h4.to hb, h5⟩
theorem PWk.cell {w0 w : World} {B g bm : Nat} {t : Tr} {pv : Value} {s : Sw} {m : Int → Option Value} (h : PWk w0 w B g bm t pv s m) :
    (w.cell? ⟨g, 0, none⟩ = some (.int .i64 t.root) ∧ w.cell? ⟨g, 1, none⟩ = some (.int .i64 t.next) ∧ w.cell? ⟨g, 2, none⟩ = some pv ∧ w.cell? ⟨g, 3, none⟩ = some (.map (some bm))) ∧
    (w.cell? ⟨g, 4, none⟩ = some (.int .i64 s.prs.length) ∧ w.cell? ⟨g, 5, none⟩ = some (.int .i64 (sdep s))) ∧ ∀ i, w.frozen? ⟨g, i, none⟩ = false :=
  ⟨⟨cellN h.box rfl, cellN h.box rfl, cellN h.box rfl, cellN h.box rfl⟩, ⟨cellN h.box rfl, cellN h.box rfl⟩, frozN h.box⟩
/-- blocks but the box and the map may change only by growing -/
theorem NdOf.keep {l : List Wrt} {B g bm : Nat} {w U : World} {i : Int} {v : Value} (h : NdOf l B w i v) (k : KpM g bm w U) (hg : g < B) (hm : bm < B) : NdOf l B U i v := by
  obtain ⟨x, nd, kv, vv, dv, h1, h2, h3, h4, h5⟩ := h
  exact ⟨x, nd, kv, vv, dv, h1, h2, h3, k.node h4 hg hm, h5⟩
theorem PWk.see {w0 w w5 : World} {B g bm : Nat} {t : Tr} {pv : Value} {s : Sw} {m : Int → Option Value} (h : PWk w0 w B g bm t pv s m) {id : Int} {v : Value} (hgr : w.grownBy w5 (some bm)) (hmap : MapI w5 bm (s.seen.length + 1) (fun j => if j = id then some v else m j))
    (hi : 1 ≤ id ∧ id < t.next) (hn : id ∉ s.seen) (hnd : NdOf t.pages B w id v) : PWk w0 w5 B g bm t pv ⟨id :: s.seen, s.dep, s.prs⟩ (fun j => if j = id then some v else m j) ∧ KpM g bm w w5 := by
  have k : KpM g bm w w5 := (KpM.refl g bm w).map hgr
  have hne := h.map.ne h.box
  refine ⟨⟨(hgr.block g (lt_of_block h.box) (fun e => hne (by simpa using e.symm))).trans h.box, hmap, fun i => ?_, fun i u hu => ?_, h.pg, ?_, h.dep, h.bel.trans (k.2.2 _ h.hg.1 h.hm.1 h.bel.size), h.hg, h.hm⟩, k⟩
  · dsimp only
    by_cases e : i = id
    · subst e; simp
    · rw [if_neg e, h.has]; simp [e]
  · by_cases e : i = id
    · subst e
      rw [if_pos rfl] at hu
      simp only [Option.some.injEq] at hu
      subst hu
      exact hnd.keep k h.hg.2 h.hm.2
    · rw [if_neg e] at hu
      exact (h.nds i u hu).keep k h.hg.2 h.hm.2
  · have := h.ok.see hi hn s.dep (l := []) (by simp)
    simpa using this
theorem PWk.leaf {w0 w w6 : World} {B g bm : Nat} {t : Tr} {pv : Value} {s : Sw} {m : Int → Option Value} (h : PWk w0 w B g bm t pv s m) {f : Nat} {l : List Pr} (kg : KpG g w w6)
    (hb : w6.heap[g]? = some (.cells #[.int .i64 t.root, .int .i64 t.next, pv, .map (some bm), .int .i64 ((s.prs.length + l.length : Nat) : Int), .int .i64 (16 - (f : Int))] 92 (0, 0))) (hl : l ≠ []) (ok : SwOk t.next ⟨s.seen, some f, s.prs ++ l⟩) :
    PWk w0 w6 B g bm t pv ⟨s.seen, some f, s.prs ++ l⟩ m := by
  have k : KpM g bm w w6 := ⟨fun b h1 h2 _ => kg.1 b h1 h2, kg.2.1, fun C h1 _ h3 => kg.2.2 C h1 h3⟩
  have hne := h.map.ne h.box
  refine ⟨?_, h.map.kept (kg.1 bm h.map.lt hne), h.has, fun i u hu => (h.nds i u hu).keep k h.hg.2 h.hm.2, h.pg, ok, ?_, h.bel.trans (k.2.2 _ h.hg.1 h.hm.1 h.bel.size), h.hg, h.hm⟩
  · rw [hb]; simp [pcl6, sdep]
  · simp [hl]
theorem zeroNd (w : World) : (zeroValue 83).run Try.prog w = .ok (.agg #[.bool false, .slice none 0 0, .slice none 0 0, .slice none 0 0]) w := by kernel_rfl

def CntR (w w' : World) (g : Nat) (c0 c1 c2 c3 : Value) (L n : Nat) (D d : Int) (e : Ending) : Prop := ∃ R : Bool, e = .returned (.bool R) ∧ KpG g w w' ∧
  w'.heap[g]? = some (.cells #[c0, c1, c2, c3, .int .i64 ((L + n : Nat) : Int), .int .i64 (if L = 0 then d else D)] 92 (0, 0)) ∧ (R = true ↔ (0 < n ∧ d = (if L = 0 then d else D) ∧ L + n ≤ 4096))
theorem CntR.no {w w' : World} {g : Nat} {c0 c1 c2 c3 : Value} {L n : Nat} {D d : Int} (h1 : KpG g w w') (h2 : w'.heap[g]? = some (.cells #[c0, c1, c2, c3, .int .i64 ((L + n : Nat) : Int), .int .i64 (if L = 0 then d else D)] 92 (0, 0))) (h3 : ¬ (0 < n ∧ d = (if L = 0 then d else D) ∧ L + n ≤ 4096)) {b : Bool} (hb : b = false) : CntR w w' g c0 c1 c2 c3 L n D d (.returned (.bool b)) := ⟨false, by rw [hb], h1, h2, ⟨fun h => (by cases h), fun h => absurd h h3⟩⟩
theorem CntR.yes {w w' : World} {g : Nat} {c0 c1 c2 c3 : Value} {L n : Nat} {D d : Int} (h1 : KpG g w w') (h2 : w'.heap[g]? = some (.cells #[c0, c1, c2, c3, .int .i64 ((L + n : Nat) : Int), .int .i64 (if L = 0 then d else D)] 92 (0, 0))) (h3 : (0 < n ∧ d = (if L = 0 then d else D) ∧ L + n ≤ 4096)) {b : Bool} (hb : b = true) : CntR w w' g c0 c1 c2 c3 L n D d (.returned (.bool b)) := ⟨true, by rw [hb], h1, h2, ⟨fun _ => h3, fun _ => rfl⟩⟩
set_option maxRecDepth 100000 in
set_option maxHeartbeats 2000000 in
theorem pcount_any (w : World) (g : Nat) (c0 c1 c2 c3 : Value) (L n : Nat) (D d : Int) (h : w.heap[g]? = some (.cells #[c0, c1, c2, c3, .int .i64 (L : Int), .int .i64 D] 92 (0, 0))) (hL : L ≤ 100000000) (hn : n ≤ 1000) :
    Calls Try.prog 64 #[.pointer (some ⟨g, 0, none⟩), .int .i64 (n : Int), .int .i64 d] w fun e w' => CntR w w' g c0 c1 c2 c3 L n D d e := by
  obtain ⟨E, hE⟩ : ∃ E : Int, E = if L = 0 then d else D := ⟨_, rfl⟩
  obtain ⟨S, hS⟩ : ∃ S : Nat, (L : Int) + (n : Int) = (S : Int) := ⟨L + n, by omega⟩
  have hS2 : IntKind.i64.wrap (S : Int) = (S : Int) := IntWalk.i64_in _ (by omega)
  have C4 : w.cell? ⟨g, 4, none⟩ = some (.int .i64 (L : Int)) := cellN h rfl
  have C5 : w.cell? ⟨g, 5, none⟩ = some (.int .i64 D) := cellN h rfl
  have CF := frozN h
  have HH := hide h
  clear h
  go_enter Try.func64, Try.ntmps64
  go_upto_if 11 with fail
  go_cut [] from 11 to 15 (fun wx => Hid (KpG g w wx ∧ wx.heap[g]? = some (.cells #[c0, c1, c2, c3, .int .i64 (L : Int), .int .i64 E] 92 (0, 0))))
  case first =>
    by_cases h0 : L = 0
    · have hq : ((L : Int) == 0) = true := by simp [h0]
      have FF : Hid (KpG g w (w.setCell ⟨g, 5, none⟩ (.int .i64 d)) ∧ (w.setCell ⟨g, 5, none⟩ (.int .i64 d)).heap[g]? = some (.cells #[c0, c1, c2, c3, .int .i64 (L : Int), .int .i64 E] 92 (0, 0))) := by
        refine ⟨(KpG.refl g w).set 5 _, ?_⟩
        rw [hE, if_pos h0]
        have := heap_setN HH.out 5 (.int .i64 d)
        simpa using this
      replace h0 := hide h0
      go_wp2_with fail
      go_meet
      case rel => exact FF
    · have hq : ((L : Int) == 0) = false := by simp [h0]
      have FF : Hid (KpG g w w ∧ w.heap[g]? = some (.cells #[c0, c1, c2, c3, .int .i64 (L : Int), .int .i64 E] 92 (0, 0))) := by
        refine ⟨KpG.refl g w, ?_⟩
        rw [hE, if_neg h0]
        exact HH.out
      replace h0 := hide h0
      go_wp2_with fail
      go_meet
      case rel => exact FF
  case rest =>
    clear C4 C5 CF HH
    have C4 : wc.cell? ⟨g, 4, none⟩ = some (.int .i64 (L : Int)) := cellN hcut.out.2 rfl
    have C5 : wc.cell? ⟨g, 5, none⟩ = some (.int .i64 E) := cellN hcut.out.2 rfl
    have CF := frozN hcut.out.2
    obtain ⟨X, hX⟩ : ∃ X, X = wc.setCell ⟨g, 4, none⟩ (.int .i64 (S : Int)) := ⟨_, rfl⟩
    have HX : Hid (KpG g w X ∧ X.heap[g]? = some (.cells #[c0, c1, c2, c3, .int .i64 ((L + n : Nat) : Int), .int .i64 (if L = 0 then d else D)] 92 (0, 0))) := by
      rw [hX]
      refine ⟨hcut.out.1.set 4 _, ?_⟩
      have := heap_setN hcut.out.2 4 (.int .i64 (S : Int))
      rw [← hE, show ((L + n : Nat) : Int) = (S : Int) from by omega]
      simpa using this
    have X4 : X.cell? ⟨g, 4, none⟩ = some (.int .i64 (S : Int)) := by rw [show (S : Int) = ((L + n : Nat) : Int) from by omega]; exact cellN HX.out.2 rfl
    have X5 : X.cell? ⟨g, 5, none⟩ = some (.int .i64 E) := by rw [hE]; exact cellN HX.out.2 rfl
    replace hE := hide hE
    go_upto_region 4 with fail
    rw [← hX]
    clear hX C4 C5 CF
    by_cases c1 : (n : Int) > 0
    · by_cases c2 : d = E
      · have hq : (d == E) = true := by simp [c2]
        by_cases c4 : (S : Int) ≤ 4096
        · have hz : Hid (0 < n ∧ d = (if L = 0 then d else D) ∧ L + n ≤ 4096) := ⟨by omega, by rw [← hE.out]; exact c2, by omega⟩
          replace c2 := hide c2
          go_wp2
          go_ret
          exact CntR.yes HX.out.1 HX.out.2 hz.out (by first | rfl | simp [c4] | (simp; omega))
        · have hz : Hid (¬ (0 < n ∧ d = (if L = 0 then d else D) ∧ L + n ≤ 4096)) := fun h => by have := h.2.2; omega
          replace c2 := hide c2
          go_wp2
          go_ret
          exact CntR.no HX.out.1 HX.out.2 hz.out (by first | rfl | simp [c4] | (simp; omega))
      · have hq : (d == E) = false := by simp [c2]
        have hz : Hid (¬ (0 < n ∧ d = (if L = 0 then d else D) ∧ L + n ≤ 4096)) := fun h => by have := h.2.1; rw [← hE.out] at this; exact c2 this
        replace c2 := hide c2
        go_wp2
        go_ret
        exact CntR.no HX.out.1 HX.out.2 hz.out (by first | rfl | simp)
    · have hz : Hid (¬ (0 < n ∧ d = (if L = 0 then d else D) ∧ L + n ≤ 4096)) := fun h => by have := h.1; omega
      go_wp2
      go_ret
      exact CntR.no HX.out.1 HX.out.2 hz.out (by first | rfl | simp)

end Go.Proofs.Ytgmkknonnidgaaa

/-
  The page's go1: a walk below a page.
-/
namespace Go.Proofs.Ytgmkknonnidgaaa
open Go.RowKit
set_option linter.unusedVariables false
set_option linter.unusedSimpArgs false

theorem tpage_in : ∀ {l : List Wrt} {id : Int} {x : List UInt8}, tpage l id = some x → ∃ (i : Nat) (y : Wrt), l[i]? = some y ∧ y.1 = id ∧ y.2 = x
  | [], _, _, h => by cases h
  | y :: r, id, x, h => by
    unfold tpage at h
    split at h
    · rename_i e
      exact ⟨0, y, rfl, e, by simpa using h⟩
    · obtain ⟨i, z, h1, h2⟩ := tpage_in h
      exact ⟨i + 1, z, by simpa using h1, h2⟩
theorem tpage_bd {next : Int} {l : List Wrt} (hu : tups next l l.length) {id : Int} {x : List UInt8} (h : tpage l id = some x) : 1 ≤ id ∧ id < next := by
  obtain ⟨i, y, h1, rfl, _⟩ := tpage_in h
  have hi := (List.getElem?_eq_some_iff.1 h1).1
  have h2 := (hu i hi).2
  have h3 := tups_ge hu i hi
  rw [tid_at h1] at h2 h3
  omega

theorem cellAl {w : World} {b i : Nat} {v : Value} (h : w.cell? ⟨b, i, none⟩ = some v) (o : Obj) : (w.alloc o).cell? ⟨b, i, none⟩ = some v :=
  (((Below.refl w.heap.size w).alloc (Nat.le_refl _) o).cell (p := ⟨b, i, none⟩) (cell_lt h)).trans h
set_option maxRecDepth 100000 in
set_option maxHeartbeats 2000000 in
theorem rgo_any (w0 : World) (t : Tr) (pv : Value) (g bs n : Nat) (hn : (n : Int) = t.next + 1) (hN : 1 ≤ t.next ∧ t.next ≤ 65536) (hU : tups t.next t.pages t.pages.length) :
    ∀ (f : Nat), f ≤ 16 → ∀ (w : World) (prv : Value) (s : Sw) (bad : Bool) (id : Int) (lo : Str) (hi : Option Str), RWk w0 w g bs n t pv prv s bad →
    Calls Try.prog 61 #[.pointer (some ⟨g, 0, none⟩), .int .i64 id, .int .i64 (17 - (f : Int)), st lo, st (hi.getD []), .bool hi.isSome] w fun e w' =>
      e = .returned (.tuple #[]) ∧ WkRes w0 w w' g bs n t pv (wk t.pages f id lo hi s) bad := by
  intro f
  induction f with
  | zero =>
    intro hf w prv s bad id lo hi H
    obtain ⟨root, next, ps⟩ := t
    obtain ⟨a, c, rfl⟩ := H.pg.slice
    have lp : ps.length ≤ 65536 := by have := tups_len hU hN.1; dsimp only at this hN; omega
    have KP := hide (rpage_at w0 w _ ⟨root, next, ps⟩ id H.pg H.bel (tups_up hU) lp)
    obtain ⟨dep, hdep⟩ : ∃ d : Int, d = 17 - ((0 : Nat) : Int) := ⟨_, rfl⟩
    obtain ⟨hs, hhs⟩ : ∃ x, x = hi.getD [] := ⟨_, rfl⟩
    obtain ⟨hb, hhb⟩ : ∃ x, x = hi.isSome := ⟨_, rfl⟩
    rw [← hdep, ← hhs, ← hhb]
    have hd16 : dep > 16 := by omega
    replace hdep := hide hdep
    replace hhs := hide hhs
    replace hhb := hide hhb
    obtain ⟨⟨C0, C1, C2, C3⟩, ⟨C4, C5, C6, C7⟩, CF⟩ := H.cell
    have hsok := hide H.ok
    replace H := hide H
    replace hU := hide hU
    dsimp only at C0 C1 C2 C3 C4 C5 C6 C7 hn hN
    replace lp := hide lp
    replace hn := hide hn
    replace hN := hide hN
    go_enter Try.func61, Try.ntmps61
    go_wp2_with fail
    refine KP.out.mono ?_
    rintro e w1 ⟨bv, ok, rfl, hp, b1⟩
    clear C0 C1 C2 C3 C4 C5 C6 C7 CF
    have H1 := H.out.to b1
    have k1 := KeepW.below b1
    obtain ⟨⟨C0, C1, C2, C3⟩, ⟨C4, C5, C6, C7⟩, CF⟩ := H1.cell
    replace H1 := hide (And.intro H1 k1)
    dsimp only at C0 C1 C2 C3 C4 C5 C6 C7
    clear KP H b1 k1
    cases bad with
    | true =>
      replace hp := hide hp
      go_wp2
      (try simp only [Exit.inBlock, Exit.then])
      refine bodyPost_ret (results_none rfl _ _ _) rfl ?_
      obtain ⟨r1, r2⟩ := H1.out.1.bad
      exact ⟨rfl, WkRes.no r1 (H1.out.2.trans r2) (fun h => by cases h)⟩
    | false =>
      cases ok with
      | false =>
        have hx : Hid (tpage ps id = none) := by
          rcases hp with ⟨o, _⟩ | ⟨_, o, _⟩
          · cases o
          · exact o
        clear hp
        go_wp2
        (try simp only [Exit.inBlock, Exit.then])
        refine bodyPost_ret (results_none rfl _ _ _) rfl ?_
        obtain ⟨r1, r2⟩ := H1.out.1.bad
        exact ⟨rfl, WkRes.no r1 (H1.out.2.trans r2) (fun _ => wk_none hx.out)⟩
      | true =>
        replace hp := hide hp
        go_wp2
        (try simp only [Exit.inBlock, Exit.then])
        refine bodyPost_ret (results_none rfl _ _ _) rfl ?_
        obtain ⟨r1, r2⟩ := H1.out.1.bad
        exact ⟨rfl, WkRes.no r1 (H1.out.2.trans r2) (fun _ => rfl)⟩
  | succ f ih =>
    intro hf w prv s bad id lo hi H
    obtain ⟨root, next, ps⟩ := t
    obtain ⟨a, c, rfl⟩ := H.pg.slice
    have lp : ps.length ≤ 65536 := by have := tups_len hU hN.1; dsimp only at this hN; omega
    have KP := hide (rpage_at w0 w _ ⟨root, next, ps⟩ id H.pg H.bel (tups_up hU) lp)
    obtain ⟨dep, hdep⟩ : ∃ d : Int, d = 17 - ((f + 1 : Nat) : Int) := ⟨_, rfl⟩
    obtain ⟨hs, hhs⟩ : ∃ x, x = hi.getD [] := ⟨_, rfl⟩
    obtain ⟨hb, hhb⟩ : ∃ x, x = hi.isSome := ⟨_, rfl⟩
    rw [← hdep, ← hhs, ← hhb]
    have hd16 : ¬ dep > 16 := by omega
    replace hdep := hide hdep
    replace hhs := hide hhs
    replace hhb := hide hhb
    obtain ⟨⟨C0, C1, C2, C3⟩, ⟨C4, C5, C6, C7⟩, CF⟩ := H.cell
    have hsok := hide H.ok
    replace H := hide H
    replace hU := hide hU
    dsimp only at C0 C1 C2 C3 C4 C5 C6 C7 hn hN
    replace ih := hide ih
    replace lp := hide lp
    replace hn := hide hn
    replace hN := hide hN
    go_enter Try.func61, Try.ntmps61
    go_wp2_with fail
    refine KP.out.mono ?_
    rintro e w1 ⟨bv, ok, rfl, hp, b1⟩
    clear C0 C1 C2 C3 C4 C5 C6 C7 CF
    have H1 := H.out.to b1
    have k1 := KeepW.below b1
    obtain ⟨⟨C0, C1, C2, C3⟩, ⟨C4, C5, C6, C7⟩, CF⟩ := H1.cell
    replace H1 := hide (And.intro H1 k1)
    dsimp only at C0 C1 C2 C3 C4 C5 C6 C7
    clear KP H b1 k1
    cases bad with
    | true =>
      replace hp := hide hp
      go_wp2
      (try simp only [Exit.inBlock, Exit.then])
      refine bodyPost_ret (results_none rfl _ _ _) rfl ?_
      obtain ⟨r1, r2⟩ := H1.out.1.bad
      exact ⟨rfl, WkRes.no r1 (H1.out.2.trans r2) (fun h => by cases h)⟩
    | false =>
      cases ok with
      | false =>
        have hx : Hid (tpage ps id = none) := by
          rcases hp with ⟨o, _⟩ | ⟨_, o, _⟩
          · cases o
          · exact o
        clear hp
        go_wp2
        (try simp only [Exit.inBlock, Exit.then])
        refine bodyPost_ret (results_none rfl _ _ _) rfl ?_
        obtain ⟨r1, r2⟩ := H1.out.1.bad
        exact ⟨rfl, WkRes.no r1 (H1.out.2.trans r2) (fun _ => wk_none hx.out)⟩
      | true =>
        obtain ⟨x, hx, hr⟩ : ∃ x, tpage ps id = some x ∧ Rd w0 bv x := by
          rcases hp with ⟨_, o⟩ | ⟨o, _⟩
          · exact o
          · cases o
        clear hp
        have hb1 := tpage_bd hU.out hx
        obtain ⟨ni, hni⟩ : ∃ ni : Nat, id = (ni : Int) := ⟨id.toNat, by omega⟩
        subst hni
        have hnn : ni < n := by have := hn.out; omega
        obtain ⟨S1, S2⟩ := H1.out.1.seenAt hnn
        have hin : (ni : Int) < (n : Int) := by omega
        replace hx := hide hx
        replace hr := hide hr
        by_cases hs1 : (ni : Int) ∈ s.seen
        · rw [decide_eq_true hs1] at S1
          have hz : Hid (wk ps (f + 1) (ni : Int) lo hi s = none) := wk_seen hs1
          replace hs1 := hide hs1
          go_wp2
          (try simp only [Exit.inBlock, Exit.then])
          refine bodyPost_ret (results_none rfl _ _ _) rfl ?_
          obtain ⟨r1, r2⟩ := H1.out.1.bad
          exact ⟨rfl, WkRes.no r1 (H1.out.2.trans r2) (fun _ => hz.out)⟩
        · rw [decide_eq_false hs1] at S1
          replace hs1 := hide hs1
          obtain ⟨r1, r2⟩ := H1.out.1.see hb1 hs1.out
          have H2 := hide (And.intro r1 (H1.out.2.trans r2))
          have KD := hide (rdec9_any _ bv x (hr.out.to H2.out.1.bel))
          clear r1 r2
          go_wp2_with fail
          refine KD.out.mono ?_
          rintro e w3 ⟨nd, err, kv, vv, dv, rfl, hd, hon, b3⟩
          obtain ⟨U, hUU, DU, bU, sU⟩ := boxedN w3 #[.bool nd.leaf, kv, vv, dv] 147
          have bb := b3.trans (bU.mono b3.size)
          have H3 := hide (And.intro (H2.out.1.to bb) (H2.out.2.trans (KeepW.below bb)))
          have HN : Hid (NdAt U w3.heap.size kv vv dv nd) := ⟨DU, (hon.to bU).mono (Nat.zero_le _)⟩
          obtain ⟨⟨C0, C1, C2, C3⟩, ⟨C4, C5, C6, C7⟩, CF⟩ := H3.out.1.cell
          obtain ⟨E0, E1, E2, E3⟩ := HN.out.cell
          obtain ⟨ka, kc, va, vc, da, dc, rfl, rfl, rfl⟩ := hon.rd.slices
          rw [hUU] at C0 C1 C2 C3 C4 C5 C6 C7 CF E0 E1 E2 E3
          dsimp only at C0 C1 C2 C3 C4 C5 C6 C7
          clear KD bb b3 bU hon H2 H1 DU sU S1 S2 hr
          rcases hd with ⟨rfl, hd⟩ | ⟨he, rfl, hd⟩
          rotate_left
          · have hz : Hid (wk ps (f + 1) (ni : Int) lo hi s = none) := wk_bad hx.out hd
            have hq : (err != 0) = true := by simpa using he
            replace he := hide he
            replace hd := hide hd
            go_wp2
            (try simp only [Exit.inBlock, Exit.then])
            refine bodyPost_ret (results_none rfl _ _ _) rfl ?_
            rw [← hUU]
            obtain ⟨r1, r2⟩ := H3.out.1.bad
            exact ⟨rfl, WkRes.no r1 (H3.out.2.trans r2) (fun _ => hz.out)⟩
          have hok : NOk nd := by have := (ndec_back (xs := x) (by rw [hd])).1; rw [hd] at this; exact this
          replace hd := hide hd
          replace hok := hide hok
          go_wp2
          rw [← hUU]
          replace hUU := hide hUU
          clear C0 C1 C2 C3 C4 C5 C6 C7 CF E0 E1 E2 E3
          obtain ⟨E0, E1, E2, E3⟩ := HN.out.cell
          obtain ⟨⟨C0, C1, C2, C3⟩, ⟨C4, C5, C6, C7⟩, CF⟩ := H3.out.1.cell
          dsimp only at C0 C1 C2 C3 C4 C5 C6 C7
          obtain ⟨K, hK⟩ : ∃ K, K = nd.keys.length := ⟨_, rfl⟩
          obtain ⟨V, hV⟩ : ∃ V, V = nd.vals.length := ⟨_, rfl⟩
          obtain ⟨D, hD⟩ : ∃ D, D = nd.kids.length := ⟨_, rfl⟩
          rw [← hK] at E1 HN
          rw [← hV] at E2 HN
          rw [← hD] at E3 HN
          have hK3 : K ≤ 300 := by have := (npr_len hok.out).2; omega
          replace hK := hide hK
          replace hV := hide hV
          replace hD := hide hD
          obtain ⟨nb, hnb⟩ : ∃ nb, nb = w3.heap.size := ⟨_, rfl⟩
          rw [← hnb] at HN E0 E1 E2 E3 ⊢
          clear hnb
          have hkf : Hid (∀ x, kin lo hi x = (!slt x lo && (!hb || slt x hs))) := fun x => by
            rw [hhb.out, hhs.out]
            cases hi <;> simp [kin]
          go_loopw [16] (fun p wr => ∃ i : Nat, i ≤ K ∧ p = .int .i64 i ∧ U = wr ∧ Hid (∀ j k, j < i → nd.keys[j]? = some k → kin lo hi k = true)) (fun p _ => K - (intOf p).toNat)
          case atStart => exact ⟨0, Nat.zero_le _, rfl, rfl, hide fun j k h => by omega⟩
          case round =>
            obtain ⟨i, hi2, rfl, rfl, hI⟩ := hrel
            by_cases hlt : i < K
            · have hq : (i : Int) < (K : Int) := by omega
              obtain ⟨y, hy⟩ := some_el nd.keys (k := i) (by rw [← hK.out]; exact hlt)
              obtain ⟨b, off, rfl, hc⟩ := HN.out.own.keys.rd.strAt hy
              replace hy := hide hy
              go_upto_region 10 with fail
              go_cut [96] from 71 to 99 (fun s wx => s = .bool (!kin lo hi y) ∧ U = wx)
              case first =>
                cases hl : Op.bytesLess y lo with
                | true =>
                  have hkv : Hid (kin lo hi y = false) := by show _ = _; rw [hkf.out y, show slt y lo = true from hl]; rfl
                  go_wp2_with fail
                  go_meet
                  case rel => exact ⟨by rw [hkv.out]; rfl, rfl⟩
                | false =>
                  cases hb with
                  | false =>
                    have hkv : Hid (kin lo hi y = true) := by show _ = _; rw [hkf.out y, show slt y lo = false from hl]; rfl
                    go_wp2_with fail
                    go_meet
                    case rel => exact ⟨by rw [hkv.out]; rfl, rfl⟩
                  | true =>
                    have hkv : Hid (kin lo hi y = Op.bytesLess y hs) := by show _ = _; rw [hkf.out y, show slt y lo = false from hl]; rfl
                    go_wp2_with fail
                    go_meet
                    case rel => exact ⟨by rw [hkv.out], rfl⟩
              case rest =>
                obtain ⟨rfl, rfl⟩ := hcut
                cases hkv : kin lo hi y with
                | false =>
                  have hz : Hid (wk ps (f + 1) (ni : Int) lo hi s = none) := wk_out hx.out (by rw [hd.out]; exact hy.out) hkv
                  go_wp2
                  (try simp only [Exit.inBlock, Exit.then])
                  refine bodyPost_ret (results_none rfl _ _ _) rfl ?_
                  obtain ⟨r1, r2⟩ := H3.out.1.bad
                  exact ⟨rfl, WkRes.no r1 (H3.out.2.trans r2) (fun _ => hz.out)⟩
                | true =>
                  have hI' : Hid (∀ j k, j < i + 1 → nd.keys[j]? = some k → kin lo hi k = true) := fun j k hj hk => by
                    by_cases e : j = i
                    · subst e
                      rw [hy.out] at hk
                      simp only [Option.some.injEq] at hk
                      subst hk; exact hkv
                    · exact hI.out j k (by omega) hk
                  replace hkv := hide hkv
                  go_wp2
                  go_roundw
                  case rel => exact ⟨i + 1, by omega, by go_num, trivial, hI'⟩
                  case measure => simp [intOf]; omega
            · have hq : ¬ (i : Int) < (K : Int) := by omega
              have hall : Hid (nd.keys.all (kin lo hi) = true) := all_kin fun j k hk => hI.out j k (by have := (List.getElem?_eq_some_iff.1 hk).1; rw [← hK.out] at this; omega) hk
              clear hI hkf
              cases hlf : nd.leaf with
              | true =>
                have hW := hide (wk_leaf (f := f) hx.out hs1.out hd.out hall.out hlf)
                obtain ⟨s1, hs1'⟩ : ∃ s1 : Sw, s1 = ⟨(ni : Int) :: s.seen, s.dep, s.prs⟩ := ⟨_, rfl⟩
                rw [hlf] at E0
                rw [← hs1'] at H3 C5
                obtain ⟨sd, hsd⟩ : ∃ d : Int, d = sdep s1 := ⟨_, rfl⟩
                obtain ⟨sa, hsa⟩ : ∃ b : Bool, b = s.dep.isSome := ⟨_, rfl⟩
                rw [← hsd] at C5
                rw [← hsa] at C6
                obtain ⟨cnd, hcnd⟩ : ∃ c : Bool, c = decide (nd.keys = [] ∨ (s.dep ≠ none ∧ s.dep ≠ some f)) := ⟨_, rfl⟩
                have hde : Hid (s1.dep = s.dep) := by show _ = _; rw [hs1']
                replace hsd : Hid (sd = match s.dep with | none => 0 | some f => 16 - (f : Int)) := by show _ = _; rw [hsd, sdep, hde.out]; cases s.dep <;> rfl
                replace hlf := hide hlf
                replace hsa := hide hsa
                replace hs1' := hide hs1'
                replace hcnd := hide hcnd
                replace hall := hide hall
                go_upto_region 13 with fail
                go_cut [119] from 71 to 99 (fun s wx => s = .bool cnd ∧ U = wx)
                case first =>
                  by_cases hK0 : K = 0
                  · have hq2 : ((K : Int) == 0) = true := by simp [hK0]
                    have hc1 : Hid (cnd = true) := by
                      show _ = _
                      rw [hcnd.out]
                      exact decide_eq_true (.inl (List.eq_nil_of_length_eq_zero (by rw [← hK.out]; exact hK0)))
                    replace hK0 := hide hK0
                    go_wp2_with fail
                    go_meet
                    case rel => exact ⟨by rw [hc1.out], rfl⟩
                  · have hq2 : ((K : Int) == 0) = false := by simp [hK0]
                    have hne : Hid (nd.keys ≠ []) := fun h => hK0 (by rw [hK.out, h]; rfl)
                    replace hK0 := hide hK0
                    cases sa with
                    | false =>
                      have hc1 : Hid (cnd = false) := by
                        show _ = _
                        rw [hcnd.out]
                        refine decide_eq_false fun h => ?_
                        rcases h with h | ⟨h, _⟩
                        · exact hne.out h
                        · have := hsa.out; cases hd2 : s.dep <;> simp [hd2] at h this
                      go_wp2_with fail
                      go_meet
                      case rel => exact ⟨by rw [hc1.out], rfl⟩
                    | true =>
                      have hc1 : Hid (cnd = (sd != dep)) := by
                        show _ = _
                        have e1 := hsa.out
                        have e2 := hsd.out
                        have e3 := hdep.out
                        rw [hcnd.out]
                        cases hd2 : s.dep with
                        | none => rw [hd2] at e1; cases e1
                        | some f' =>
                          rw [hd2] at e2
                          dsimp only at e2
                          have hn := hne.out
                          by_cases ef : f' = f
                          · subst ef
                            have : sd = dep := by omega
                            simp [hn, this]
                          · have : sd ≠ dep := by omega
                            simp [hn, this, ef]
                      go_wp2_with fail
                      go_meet
                      case rel => exact ⟨by rw [hc1.out], rfl⟩
                case rest =>
                  obtain ⟨rfl, rfl⟩ := hcut
                  go_upto_if 119 with fail
                  clear C5 C6 C7
                  go_cut [] from 71 to 99 (fun wx => Hid (RWk w0 wx g bs n ⟨root, next, ps⟩ (.slice a ps.length c) prv s1 cnd ∧ KeepW U wx))
                  case first =>
                    cases cnd with
                    | true =>
                      go_wp2_with fail
                      go_meet
                      case rel => exact H3.out.1.bad
                    | false =>
                      go_wp2_with fail
                      go_meet
                      case rel => exact ⟨H3.out.1, KeepW.refl _⟩
                  case rest =>
                    replace H3 := hide H3.out.2
                    obtain ⟨⟨C0, C1, C2, C3⟩, ⟨C4, C5, C6, C7⟩, CF⟩ := hcut.out.1.cell
                    dsimp only at C0 C1 C2 C3 C4 C5 C6 C7
                    have hX : Hid (RWk w0 ((wc.setCell ⟨g, 6, none⟩ (.bool true)).setCell ⟨g, 5, none⟩ (.int .i64 dep)) g bs n ⟨root, next, ps⟩ (.slice a ps.length c) prv ⟨s1.seen, some f, s1.prs ++ (npr nd).take 0⟩ cnd ∧
                        KeepW U ((wc.setCell ⟨g, 6, none⟩ (.bool true)).setCell ⟨g, 5, none⟩ (.int .i64 dep))) := by
                      have e : dep = 16 - (f : Int) := by have := hdep.out; omega
                      obtain ⟨a1, a2⟩ := hcut.out.1.deep f
                      rw [e]
                      exact ⟨by simpa using a1, hcut.out.2.trans a2⟩
                    go_wp2
                    clear C0 C1 C2 C3 C4 C5 C6 C7 CF hcut
                    generalize (wc.setCell ⟨g, 6, none⟩ (.bool true)).setCell ⟨g, 5, none⟩ (.int .i64 dep) = W6 at *
                    have hlv : Hid (V = K) := by
                      have h1 := hok.out.2.1
                      have h2 := hlf.out
                      show V = K
                      rw [hV.out, hK.out]
                      unfold ncount at h1
                      rw [if_pos h2] at h1
                      exact h1.1
                    go_loopw [17] (fun p wr => ∃ k : Nat, k ≤ K ∧ p = .int .i64 k ∧ Hid (∃ prv', RWk w0 wr g bs n ⟨root, next, ps⟩ (.slice a ps.length c) prv' ⟨s1.seen, some f, s1.prs ++ (npr nd).take k⟩ cnd ∧ KeepW U wr)) (fun p _ => K - (intOf p).toNat)
                    case atStart => exact ⟨0, Nat.zero_le _, rfl, hide ⟨_, hX.out⟩⟩
                    case round =>
                      obtain ⟨k, hk, rfl, hI⟩ := hrel
                      obtain ⟨pv2, r1, r2⟩ := hI.out
                      clear hI
                      have HN2 := HN.out.keep r2
                      obtain ⟨E0, E1, E2, E3⟩ := HN2.cell
                      obtain ⟨pa, pc, hpv⟩ := r1.prs.rd.slice
                      subst hpv
                      obtain ⟨⟨_, _, _, _⟩, ⟨_, _, _, C7⟩, CF⟩ := r1.cell
                      dsimp only at C7
                      by_cases hlt : k < K
                      · have hq : (k : Int) < (K : Int) := by omega
                        obtain ⟨y1, hy1⟩ := some_el nd.keys (k := k) (by rw [← hK.out]; exact hlt)
                        obtain ⟨y2, hy2⟩ := some_el nd.vals (k := k) (by rw [← hV.out, hlv.out]; exact hlt)
                        obtain ⟨b, off, rfl, hc⟩ := HN2.own.keys.rd.strAt hy1
                        obtain ⟨b2, off2, rfl, hc2⟩ := HN2.own.vals.rd.strAt hy2
                        have hq2 : (k : Int) < (V : Int) := by have := hlv.out; omega
                        have hpr : Hid ((npr nd).take (k + 1) = (npr nd).take k ++ [(y1, y2)]) := by
                          show _ = _
                          rw [List.take_add_one]
                          congr 1
                          simp [npr, List.getElem?_zip_eq_some, hy1, hy2]
                        replace hy1 := hide hy1
                        replace hy2 := hide hy2
                        have R1 := hide (And.intro r1 r2)
                        obtain ⟨lp2, hlp2⟩ : ∃ m, m = (s1.prs ++ (npr nd).take k).length := ⟨_, rfl⟩
                        rw [← hlp2] at C7
                        clear HN2 r2 r1
                        have hok2 : Hid (SwOk next ⟨s1.seen, some f, s1.prs ++ (npr nd).take k ++ [(y1, y2)]⟩) := by
                          have e := hs1'.out
                          rw [List.append_assoc, ← hpr.out, e]
                          exact hsok.out.see hb1 hs1.out (some f) (by have := (npr_len hok.out).1; rw [List.length_take]; omega)
                        have hbd : (lp2 + 1) * 32 ≤ 140737488355328 := by
                          have h1 := R1.out.1.ok.len hN.out.2
                          dsimp only at h1
                          omega
                        obtain ⟨WA, hWA⟩ : ∃ WA, WA = (wr.alloc (.cells #[st y1, st y2] 74)).drew := ⟨_, rfl⟩
                        obtain ⟨wa, hwa, DA, bA0, sA⟩ := boxedN wr #[st y1, st y2] 74
                        have bA : Below wr.heap.size wr WA := by rw [hWA, ← hwa]; exact bA0.trans (below_drewN' wa 1 _)
                        have nc0 : WA.cell? ⟨wr.heap.size, 0, none⟩ = some (st y1) := by rw [hWA, ← hwa]; exact ((below_drewN' wa 1 wa.heap.size).cell (p := ⟨wr.heap.size, _, none⟩) (lt_of_block DA)).trans (cellN DA rfl)
                        have nc1 : WA.cell? ⟨wr.heap.size, 1, none⟩ = some (st y2) := by rw [hWA, ← hwa]; exact ((below_drewN' wa 1 wa.heap.size).cell (p := ⟨wr.heap.size, _, none⟩) (lt_of_block DA)).trans (cellN DA rfl)
                        have hOW : OwnP w0.heap.size WA (.slice pa lp2 pc) (s1.prs ++ (npr nd).take k) := by
                          rw [hlp2]
                          exact rows_to R1.out.1.prs bA
                        have hsz : w0.heap.size ≤ WA.heap.size := (R1.out.1.to bA).bel.size
                        have hbd2 : ((s1.prs ++ (npr nd).take k).length + 1) * 32 ≤ 140737488355328 := by rw [← hlp2]; exact hbd
                        have FIN : ∀ v5 w5, OwnP w0.heap.size w5 v5 (s1.prs ++ (npr nd).take k ++ [(y1, y2)]) → Below w0.heap.size WA w5 → (∀ e, e ≠ 74 → KeepT e WA w5) →
                            Hid (∃ prv', RWk w0 (w5.setCell ⟨g, 7, none⟩ v5) g bs n ⟨root, next, ps⟩ (.slice a ps.length c) prv' ⟨s1.seen, some f, s1.prs ++ (npr nd).take (k + 1)⟩ cnd ∧ KeepW U (w5.setCell ⟨g, 7, none⟩ v5)) ∧ w5.frozen? ⟨g, 7, none⟩ = false ∧ w5.cell? ⟨g, 7, none⟩ = some (.slice pa lp2 pc) ∧ w5.cell? ⟨nb, 1, none⟩ = some (.slice (some ⟨b, off, none⟩) K kc) ∧ w5.cell? ⟨b, off + k, none⟩ = some (st y1) ∧ w5.cell? ⟨nb, 2, none⟩ = some (.slice (some ⟨b2, off2, none⟩) V vc) ∧ w5.cell? ⟨b2, off2 + k, none⟩ = some (st y2) := fun v5 w5 o5 b5 k5 => by
                          have N5 := HN.out.keep (R1.out.2.trans ((KeepW.below bA).trans fun e _ _ h3 => k5 e h3))
                          obtain ⟨_, n1, n2, _⟩ := N5.cell
                          obtain ⟨b', off', e', hc'⟩ := N5.own.keys.rd.strAt hy1.out
                          obtain ⟨b2', off2', e2', hc2'⟩ := N5.own.vals.rd.strAt hy2.out
                          simp only [Option.some.injEq, Addr.mk.injEq, and_true] at e' e2'
                          obtain ⟨rfl, rfl⟩ := e'
                          obtain ⟨rfl, rfl⟩ := e2'
                          obtain ⟨a1, a2⟩ := R1.out.1.app bA o5 b5 k5 hok2.out
                          have hbx := k5 _ (by decide) _ _ _ (R1.out.1.to bA).box
                          refine ⟨⟨v5, ?_, R1.out.2.trans a2⟩, frozN hbx 7, ?_, n1, hc', n2, hc2'⟩
                          · rw [hpr.out, ← List.append_assoc]; exact a1
                          · rw [hlp2]; exact cellN hbx rfl
                        rw [hWA] at nc0 nc1 hOW hsz FIN
                        replace nc0 := hide nc0
                        replace nc1 := hide nc1
                        replace hOW := hide hOW
                        replace hsz := hide hsz
                        replace FIN := hide FIN
                        replace hbd2 := hide hbd2
                        clear hWA hwa DA bA0 sA bA hbd
                        replace hlp2 := hide hlp2
                        go_wp2
                        refine wp_region_mid (fun w' => w'.cell? ⟨g, 7, none⟩ = some (.slice pa lp2 pc) ∧ w'.cell? ⟨nb, 1, none⟩ = some (.slice (some ⟨b, off, none⟩) K kc) ∧ w'.cell? ⟨b, off + k, none⟩ = some (st y1) ∧ w'.cell? ⟨nb, 2, none⟩ = some (.slice (some ⟨b2, off2, none⟩) V vc) ∧ w'.cell? ⟨b2, off2 + k, none⟩ = some (st y2)) 15 18 mixed (by kernel_rfl) (fun _ _ _ _ h => h) ⟨C7, E1, hc, E2, hc2⟩ ?_
                        dsimp only [List.take, List.drop]
                        iterate 15
                          refine take_one (v := ?_) (by rfl) ?_ ?_
                          rotate_left
                          · rintro w' ⟨s1, s2, s3, s4, s5⟩
                            go_simp
                            try with_reducible rfl
                          try simp only [Act.put, List.setIfInBounds_toArray, List.set_cons_zero, List.set_cons_succ]
                        refine mid_one fun K hK => ?_
                        rw [if_pos (by rfl)]
                        go_simp
                        refine hK _ _ ⟨C7, E1, hc, E2, hc2⟩ ?_
                        clear hK K
                        refine mid_one fun K hK => ?_
                        rw [if_pos (by rfl)]
                        go_simp
                        refine hK _ _ ⟨cellAl C7 _, cellAl E1 _, cellAl hc _, cellAl E2 _, cellAl hc2 _⟩ ?_
                        clear hK K
                        refine mid_one fun K hK => ?_
                        refine step_appP rfl _ _ rfl w0.heap.size (.slice pa lp2 pc) (s1.prs ++ (npr nd).take k) (y1, y2) wr.heap.size rfl rfl hOW.out nc0.out nc1.out hbd2.out hsz.out ?_
                        intro v5 w5 o5 b5 k5
                        obtain ⟨a5, c5, h5⟩ := (OwnP.rd o5).slice
                        subst h5
                        obtain ⟨F1, F2, F3, F4, F5, F6, F7⟩ := FIN.out _ w5 o5 b5 k5
                        generalize (s1.prs ++ (npr nd).take k ++ [(y1, y2)]).length = m5 at *
                        refine hK _ _ ⟨F3, F4, F5, F6, F7⟩ ?_
                        clear hK K o5 b5 k5 FIN
                        show wpList _ _ _ _ _ _
                        go_wp2
                        go_roundw
                        case rel => exact ⟨k + 1, by omega, by go_num, F1⟩
                        case measure => simp [intOf]; omega
                      · have hq : ¬ (k : Int) < (K : Int) := by omega
                        have ht : (npr nd).take k = npr nd := List.take_of_length_le (by unfold npr; rw [List.length_zip, ← hK.out]; omega)
                        rw [ht] at r1
                        have R1 := hide (And.intro r1 r2)
                        clear ht r1 r2 HN2
                        go_wp2
                        (try simp only [Exit.inBlock, Exit.then])
                        refine bodyPost_ret (results_none rfl _ _ _) rfl ?_
                        refine ⟨rfl, _, _, _, R1.out.1, H3.out.trans R1.out.2, (fun h => by cases h), fun _ => ?_⟩
                        rw [hW.out, hs1'.out]
                        cases hcc : cnd with
                        | true => exact .inr ⟨if_pos (of_decide_eq_true (hcnd.out.symm.trans hcc)), rfl⟩
                        | false => exact .inl ⟨if_neg (of_decide_eq_false (hcnd.out.symm.trans hcc)), rfl⟩
              | false =>
                have hW := hide (wk_inner (f := f) hx.out hs1.out hd.out hall.out hlf)
                obtain ⟨s1, hs1'⟩ : ∃ s1 : Sw, s1 = ⟨(ni : Int) :: s.seen, s.dep, s.prs⟩ := ⟨_, rfl⟩
                rw [hlf] at E0
                rw [← hs1'] at H3 hW
                have hDK : Hid (D = K + 1 ∧ 1 ≤ K) := by
                  have h1 := hok.out.2.1
                  unfold ncount at h1
                  rw [hlf, if_neg (by decide), ← hK.out, ← hD.out] at h1
                  exact ⟨h1.2.2, h1.2.1⟩
                have hD3 : D ≤ 301 := by have := hDK.out; omega
                obtain ⟨dp, hdp⟩ : ∃ d : Int, dep + 1 = d := ⟨_, rfl⟩
                have hdw : IntKind.i64.wrap dp = dp := IntWalk.i64_in _ (by have := hdep.out; omega)
                have hde : Hid (dp = 17 - (f : Int)) := by show _ = _; have := hdep.out; omega
                replace hlf := hide hlf
                replace hs1' := hide hs1'
                replace hall := hide hall
                clear C0 C1 C2 C3 C4 C5 C6 C7 CF
                go_wp2
                go_loopw [18] (fun p wr => ∃ k : Nat, k ≤ D ∧ p = .int .i64 k ∧ Hid (∃ prv' s' bad', RWk w0 wr g bs n ⟨root, next, ps⟩ (.slice a ps.length c) prv' s' bad' ∧ KeepW U wr ∧ WkR (wkK (wk ps f) nd lo hi 0 (nd.kids.take k) s1) false s' bad')) (fun p _ => D - (intOf p).toNat)
                case atStart => exact ⟨0, Nat.zero_le _, rfl, hide ⟨_, _, _, H3.out.1, KeepW.refl _, ⟨(fun h => by cases h), fun _ => .inl ⟨rfl, rfl⟩⟩⟩⟩
                case round =>
                  obtain ⟨k, hk, rfl, hI⟩ := hrel
                  obtain ⟨pv2, s2, bad2, r1, r2, r3⟩ := hI.out
                  clear hI
                  have HN2 := HN.out.keep r2
                  clear E0 E1 E2 E3
                  obtain ⟨E0, E1, E2, E3⟩ := HN2.cell
                  by_cases hlt : k < D
                  · have hq : (k : Int) < (D : Int) := by omega
                    obtain ⟨kid, hkid⟩ := some_el nd.kids (k := k) (by rw [← hD.out]; exact hlt)
                    obtain ⟨b3, off3, rfl, hc3⟩ := HN2.own.kids.rd.intAt hkid
                    have KC := hide (ih.out (by omega) wr pv2 s2 bad2 kid (kidLo nd lo k) (kidHi nd hi k) r1)
                    have hst : Hid (wkK (wk ps f) nd lo hi 0 (nd.kids.take (k + 1)) s1 = (wkK (wk ps f) nd lo hi 0 (nd.kids.take k) s1).bind (wk ps f kid (kidLo nd lo k) (kidHi nd hi k))) := wkK_take _ _ _ _ _ _ hkid
                    replace hkid := hide hkid
                    have R3 := hide (And.intro r2 r3)
                    have HN2' := hide HN2
                    clear r1 r2 r3 HN2
                    go_upto_if 168 with fail
                    go_cut [19] from 157 to 196 (fun v wx => v = st (kidLo nd lo k) ∧ wr = wx)
                    case first =>
                      by_cases hk0 : k = 0
                      · have hq2 : ¬ (0 : Int) < (k : Int) := by omega
                        have hl : Hid (kidLo nd lo k = lo) := by show _ = _; rw [kidLo, if_pos hk0]
                        replace hk0 := hide hk0
                        go_wp2_with fail
                        go_meet
                        case rel => exact ⟨by rw [hl.out], rfl⟩
                      · have hq2 : (0 : Int) < (k : Int) := by omega
                        obtain ⟨j, hj⟩ : ∃ j, k = j + 1 := ⟨k - 1, by omega⟩
                        obtain ⟨y, hy⟩ := some_el nd.keys (k := j) (by have := hDK.out; rw [← hK.out]; omega)
                        obtain ⟨b4, off4, rfl, hc4⟩ := HN2'.out.own.keys.rd.strAt hy
                        have hl : Hid (kidLo nd lo k = y) := by show _ = _; rw [kidLo, if_neg hk0, hj, Nat.add_sub_cancel, List.getD_eq_getElem?_getD, hy]; rfl
                        have hj1 : (k : Int) - 1 = (j : Int) := by omega
                        have hj2 : IntKind.i64.wrap (j : Int) = (j : Int) := IntWalk.i64_in _ (by have := hDK.out; omega)
                        have hj3 : (j : Int) < (K : Int) := by have := hDK.out; omega
                        replace hk0 := hide hk0
                        replace hj := hide hj
                        replace hy := hide hy
                        go_wp2_with fail
                        go_meet
                        case rel => exact ⟨by rw [hl.out], rfl⟩
                    case rest =>
                      obtain ⟨rfl, rfl⟩ := hcut
                      go_upto_if 179 with fail
                      go_cut [20, 21] from 157 to 196 (fun v v2 wx => v = st ((kidHi nd hi k).getD []) ∧ v2 = .bool (kidHi nd hi k).isSome ∧ wr = wx)
                      case first =>
                        by_cases hkK : k < K
                        · have hq2 : (k : Int) < (K : Int) := by omega
                          obtain ⟨y, hy⟩ := some_el nd.keys (k := k) (by rw [← hK.out]; exact hkK)
                          obtain ⟨b4, off4, rfl, hc4⟩ := HN2'.out.own.keys.rd.strAt hy
                          have hl : Hid (kidHi nd hi k = some y) := by show _ = _; rw [kidHi, if_pos (by rw [← hK.out]; exact hkK), List.getD_eq_getElem?_getD, hy]; rfl
                          replace hy := hide hy
                          go_wp2_with fail
                          go_meet
                          case rel => exact ⟨by rw [hl.out]; rfl, by rw [hl.out]; rfl, rfl⟩
                        · have hq2 : ¬ (k : Int) < (K : Int) := by omega
                          have hl : Hid (kidHi nd hi k = hi) := by show _ = _; rw [kidHi, if_neg (by rw [← hK.out]; exact hkK)]
                          go_wp2_with fail
                          go_meet
                          case rel => exact ⟨by rw [hl.out, hhs.out], by rw [hl.out, hhb.out], rfl⟩
                      case rest =>
                        obtain ⟨rfl, rfl, rfl⟩ := hcut
                        rw [← hde.out] at KC
                        go_wp2_with fail
                        refine KC.out.mono ?_
                        rintro e w7 ⟨rfl, pv7, s7, bad7, r1, r2, r3⟩
                        have hI' : Hid (∃ prv' s' bad', RWk w0 w7 g bs n ⟨root, next, ps⟩ (.slice a ps.length c) prv' s' bad' ∧ KeepW U w7 ∧ WkR (wkK (wk ps f) nd lo hi 0 (nd.kids.take (k + 1)) s1) false s' bad') := by
                          refine ⟨_, _, _, r1, R3.out.1.trans r2, fun h => (by cases h), fun _ => ?_⟩
                          rw [hst.out]
                          rcases R3.out.2.2 rfl with ⟨h1, h2⟩ | ⟨h1, h2⟩
                          · rw [h1]; exact r3.2 h2
                          · rw [h1]; exact .inr ⟨rfl, r3.1 h2⟩
                        clear r1 r2 r3 KC
                        go_wp2
                        go_roundw
                        case rel => exact ⟨k + 1, by omega, by go_num, hI'⟩
                        case measure => simp [intOf]; omega
                  · have hq : ¬ (k : Int) < (D : Int) := by omega
                    have ht : nd.kids.take k = nd.kids := List.take_of_length_le (by rw [← hD.out]; omega)
                    rw [ht, ← hW.out] at r3
                    have R1 := hide (And.intro r1 (And.intro r2 r3))
                    clear r1 r2 r3 ht HN2
                    go_wp2
                    (try simp only [Exit.inBlock, Exit.then])
                    first
                      | refine bodyPost_ret (results_none rfl _ _ _) rfl ?_
                      | refine bodyPost_end (results_none rfl _ _ _) rfl ?_
                    exact ⟨rfl, _, _, _, R1.out.1, H3.out.2.trans R1.out.2.1, R1.out.2.2⟩

end Go.Proofs.Ytgmkknonnidgaaa

/-
  The program's reach: a walk below a page.
-/
namespace Go.Proofs.Ytgmkknonnidgaaa
open Go.RowKit
set_option linter.unusedVariables false
set_option linter.unusedSimpArgs false

/-- how reach ends -/
def RchR (w0 w w' : World) (B g bm : Nat) (t : Tr) (pv : Value) (o : Option Sw) (e : Ending) : Prop := ∃ R : Bool, e = .returned (.bool R) ∧ KpM g bm w w' ∧
  ((R = true ∧ ∃ s' m', o = some s' ∧ s'.prs.length ≤ 4096 ∧ PWk w0 w' B g bm t pv s' m') ∨ (R = false ∧ ∀ s', o = some s' → 4096 < s'.prs.length))
theorem RchR.no {w0 w w' : World} {B g bm : Nat} {t : Tr} {pv : Value} {o : Option Sw} {b : Bool} (hb : b = false) (h : KpM g bm w w') (ho : o = none) : RchR w0 w w' B g bm t pv o (.returned (.bool b)) :=
  ⟨false, by rw [hb], h, .inr ⟨rfl, fun s' e => by rw [ho] at e; cases e⟩⟩

theorem leaf_fin {o : Option Sw} {s : Sw} {nd : Nd} {f : Nat} {id d : Int} (hW : o = if nd.keys = [] ∨ (s.dep ≠ none ∧ s.dep ≠ some f) then none else some ⟨id :: s.seen, some f, s.prs ++ npr nd⟩) (hlv : nd.vals.length = nd.keys.length) (hdep : s.dep = none ↔ s.prs = [])
    (hd : d = 16 - (f : Int)) {D : Int} (hD : D = match s.dep with | none => 0 | some f => 16 - (f : Int)) :
    ((0 < nd.keys.length ∧ d = (if s.prs.length = 0 then d else D) ∧ s.prs.length + nd.keys.length ≤ 4096) → o = some ⟨id :: s.seen, some f, s.prs ++ npr nd⟩ ∧ (s.prs ++ npr nd).length ≤ 4096) ∧
    (¬ (0 < nd.keys.length ∧ d = (if s.prs.length = 0 then d else D) ∧ s.prs.length + nd.keys.length ≤ 4096) → ∀ s', o = some s' → 4096 < s'.prs.length) := by
  have hl : (s.prs ++ npr nd).length = s.prs.length + nd.keys.length := by rw [List.length_append, npr, List.length_zip, hlv, Nat.min_self]
  refine ⟨fun ⟨h1, h2, h3⟩ => ?_, fun h s' hs' => ?_⟩
  · refine ⟨?_, by omega⟩
    rw [hW, if_neg]
    rintro (h4 | ⟨h4, h5⟩)
    · rw [h4] at h1; simp at h1
    · by_cases h0 : s.prs.length = 0
      · exact h4 (hdep.2 (List.eq_nil_of_length_eq_zero h0))
      · rw [if_neg h0] at h2
        cases hd2 : s.dep with
        | none => exact h4 hd2
        | some f' =>
          rw [hd2] at hD
          dsimp only at hD
          exact h5 (by rw [hd2]; congr 1; omega)
  · rw [hW] at hs'
    split at hs'
    · cases hs'
    · rename_i hc
      simp only [Option.some.injEq] at hs'
      subst hs'
      show 4096 < (s.prs ++ npr nd).length
      rw [hl]
      apply Nat.lt_of_not_le
      intro h5
      refine h ⟨?_, ?_, h5⟩
      · apply Nat.pos_of_ne_zero
        intro h6
        exact hc (.inl (List.eq_nil_of_length_eq_zero h6))
      · by_cases h0 : s.prs.length = 0
        · rw [if_pos h0]
        · rw [if_neg h0]
          cases hd2 : s.dep with
          | none => exact absurd (by rw [hdep.1 hd2]; rfl) h0
          | some f' =>
            rw [hd2] at hD
            dsimp only at hD
            by_cases ef : f' = f
            · subst ef; omega
            · exact absurd (.inr ⟨by rw [hd2]; simp, by rw [hd2]; simpa using ef⟩) hc
theorem wk_outs {l : List Wrt} {f : Nat} {id : Int} {lo : Str} {hi : Option Str} {s : Sw} {x : List UInt8} (hx : tpage l id = some x) (h : (ndec x).1.keys.all (kin lo hi) = false) : wk l f id lo hi s = none := by
  cases f with
  | zero => rfl
  | succ f => unfold wk; rw [hx]; simp [h]
set_option maxRecDepth 100000 in
set_option maxHeartbeats 4000000 in
theorem preach_any (w0 : World) (t : Tr) (pv : Value) (B g bm : Nat) (hN : 1 ≤ t.next ∧ t.next ≤ 65536) (hU : tups t.next t.pages t.pages.length) :
    ∀ (f : Nat), f ≤ 16 → ∀ (w : World) (s : Sw) (m : Int → Option Value) (id : Int) (lo : Str) (hi : Option Str), PWk w0 w B g bm t pv s m → s.prs.length ≤ 4096 → B ≤ w.heap.size → HiOk hi → (Lit.int .i64 id).wf = true →
    Calls Try.prog 49 #[.pointer (some ⟨g, 0, none⟩), .int .i64 id, .int .i64 (17 - (f : Int)), sv lo hi] w fun e w' => RchR w0 w w' B g bm t pv (wk t.pages f id lo hi s) e := by
  intro f
  induction f with
  | zero =>
    intro hf w s m id lo hi H hs4 hBw hh hid
    obtain ⟨root, next, ps⟩ := t
    obtain ⟨a, c, rfl⟩ := H.pg.slice
    have lp : ps.length ≤ 65536 := by have := tups_len hU hN.1; dsimp only at this hN; omega
    obtain ⟨dep, hdep⟩ : ∃ d : Int, d = 17 - ((0 : Nat) : Int) := ⟨_, rfl⟩
    dsimp only [sv]
    obtain ⟨hs, hhs⟩ : ∃ x, x = hi.getD [] := ⟨_, rfl⟩
    rw [← hdep, ← hhs]
    have hd16 : dep > 16 := by omega
    replace hdep := hide hdep
    replace hhs := hide hhs
    obtain ⟨W, hW, DW, bW, sW⟩ := boxedN w #[st lo, st hs] 79
    have HW := H.to bW
    have KP := hide (pdata_at w0 W _ ⟨root, next, ps⟩ id HW.pg HW.bel (tups_up hU) lp)
    obtain ⟨⟨C0, C1, C2, C3⟩, ⟨C4, C5⟩, CF⟩ := HW.cell
    dsimp only at C0 C1 C2 C3 C4 C5 hN
    rw [hW] at C0 C1 C2 C3 C4 C5 CF KP
    replace H := hide H
    replace HW := hide HW
    replace hU := hide hU
    replace lp := hide lp
    replace hN := hide hN
    replace hh := hide hh
    replace hid := hide hid
    replace hBw := hide hBw
    replace hs4 := hide hs4
    have BW := hide bW
    have DW' := hide DW
    clear bW DW
    go_enter Try.func49, Try.ntmps49
    go_wp2_with fail
    refine KP.out.mono ?_
    rintro e w1 ⟨bv, ok, rfl, hp, b1⟩
    rw [← hW] at b1
    clear C0 C1 C2 C3 C4 C5 CF KP
    replace hW := hide hW
    have H1 := HW.out.to b1
    have K1 := hide (KpM.of (g := g) (m := bm) (BW.out.trans (b1.mono BW.out.size)))
    have S1 := hide ((b1.block _ (lt_of_block DW'.out)).trans DW'.out)
    obtain ⟨⟨C0, C1, C2, C3⟩, ⟨C4, C5⟩, CF⟩ := H1.cell
    dsimp only at C0 C1 C2 C3 C4 C5
    have hlk := H1.map.look Try.underlying90 (zeroNd w1) hid.out true
    simp only [if_true] at hlk
    by_cases hin : id ∈ s.seen
    · have hs2 : (m id).isSome = true := by rw [H1.has]; exact decide_eq_true hin
      obtain ⟨v, hv⟩ := Option.isSome_iff_exists.1 hs2
      obtain ⟨x, nd, kv, vv, dv, _, _, rfl, ho, _⟩ := H1.nds id v hv
      rw [hv] at hlk
      have hz : Hid (wk ps 0 id lo hi s = none) := wk_seen hin
      dsimp only [Option.getD, Option.isSome, nv] at hlk
      obtain ⟨ka, kc, va, vc, da, dc, rfl, rfl, rfl⟩ := ho.rd.slices
      replace hin := hide hin
      replace hp := hide hp
      replace hv := hide hv
      obtain ⟨V, hV, DV, bV, sV⟩ := boxedN w1 #[.bool nd.leaf, .slice ka nd.keys.length kc, .slice va nd.vals.length vc, .slice da nd.kids.length dc] 83
      have KV := hide (K1.out.trans (KpM.of bV))
      rw [hV] at KV
      clear hs2 ho DV bV sV hV
      go_wp2
      go_ret
      exact RchR.no rfl KV.out hz.out
    · have hs2 : m id = none := by
        have h1 := H1.has id
        rw [decide_eq_false hin] at h1
        cases hm : m id with
        | none => rfl
        | some v => rw [hm] at h1; cases h1
      rw [hs2] at hlk
      dsimp only [Option.getD, Option.isSome] at hlk
      obtain ⟨V, hV, DV, bV, sV⟩ := boxedN w1 #[.bool false, .slice none 0 0, .slice none 0 0, .slice none 0 0] 83
      have KV := hide (K1.out.trans (KpM.of bV))
      have HV := hide (H1.to bV)
      have SV := hide ((bV.block _ (lt_of_block S1.out)).trans S1.out)
      replace hs2 := hide hs2
      clear DV bV H1 K1 S1
      cases ok with
      | false =>
        have hz : Hid (wk ps 0 id lo hi s = none) := by
          refine wk_none ?_
          rcases hp with ⟨o, _⟩ | ⟨_, o, _⟩
          · cases o
          · exact o
        rw [hV] at KV
        clear hp
        replace hin := hide hin
        go_wp2
        go_ret
        exact RchR.no rfl KV.out hz.out
      | true =>
        replace hp := hide hp
        replace hin := hide hin
        rw [hV] at KV
        go_wp2
        go_ret
        exact RchR.no rfl KV.out rfl
  | succ f ih =>
    intro hf w s m id lo hi H hs4 hBw hh hid
    obtain ⟨root, next, ps⟩ := t
    obtain ⟨a, c, rfl⟩ := H.pg.slice
    have lp : ps.length ≤ 65536 := by have := tups_len hU hN.1; dsimp only at this hN; omega
    obtain ⟨dep, hdep⟩ : ∃ d : Int, d = 17 - ((f + 1 : Nat) : Int) := ⟨_, rfl⟩
    dsimp only [sv]
    obtain ⟨hs, hhs⟩ : ∃ x, x = hi.getD [] := ⟨_, rfl⟩
    rw [← hdep, ← hhs]
    have hd16 : ¬ dep > 16 := by omega
    replace hdep := hide hdep
    replace hhs := hide hhs
    obtain ⟨W, hW, DW, bW, sW⟩ := boxedN w #[st lo, st hs] 79
    have HW := H.to bW
    have KP := hide (pdata_at w0 W _ ⟨root, next, ps⟩ id HW.pg HW.bel (tups_up hU) lp)
    obtain ⟨⟨C0, C1, C2, C3⟩, ⟨C4, C5⟩, CF⟩ := HW.cell
    dsimp only at C0 C1 C2 C3 C4 C5 hN
    rw [hW] at C0 C1 C2 C3 C4 C5 CF KP
    replace H := hide H
    replace HW := hide HW
    replace hU := hide hU
    replace ih := hide ih
    replace lp := hide lp
    replace hN := hide hN
    replace hh := hide hh
    replace hid := hide hid
    replace hBw := hide hBw
    replace hs4 := hide hs4
    have BW := hide bW
    have DW' := hide DW
    clear bW DW
    go_enter Try.func49, Try.ntmps49
    go_wp2_with fail
    refine KP.out.mono ?_
    rintro e w1 ⟨bv, ok, rfl, hp, b1⟩
    rw [← hW] at b1
    clear C0 C1 C2 C3 C4 C5 CF KP
    replace hW := hide hW
    have H1 := HW.out.to b1
    have K1 := hide (KpM.of (g := g) (m := bm) (BW.out.trans (b1.mono BW.out.size)))
    have S1 := hide ((b1.block _ (lt_of_block DW'.out)).trans DW'.out)
    obtain ⟨⟨C0, C1, C2, C3⟩, ⟨C4, C5⟩, CF⟩ := H1.cell
    dsimp only at C0 C1 C2 C3 C4 C5
    have hlk := H1.map.look Try.underlying90 (zeroNd w1) hid.out true
    simp only [if_true] at hlk
    by_cases hin : id ∈ s.seen
    · have hs2 : (m id).isSome = true := by rw [H1.has]; exact decide_eq_true hin
      obtain ⟨v, hv⟩ := Option.isSome_iff_exists.1 hs2
      obtain ⟨x, nd, kv, vv, dv, _, _, rfl, ho, _⟩ := H1.nds id v hv
      rw [hv] at hlk
      have hz : Hid (wk ps (f + 1) id lo hi s = none) := wk_seen hin
      dsimp only [Option.getD, Option.isSome, nv] at hlk
      obtain ⟨ka, kc, va, vc, da, dc, rfl, rfl, rfl⟩ := ho.rd.slices
      replace hin := hide hin
      replace hp := hide hp
      replace hv := hide hv
      obtain ⟨V, hV, DV, bV, sV⟩ := boxedN w1 #[.bool nd.leaf, .slice ka nd.keys.length kc, .slice va nd.vals.length vc, .slice da nd.kids.length dc] 83
      have KV := hide (K1.out.trans (KpM.of bV))
      rw [hV] at KV
      clear hs2 ho DV bV sV hV
      go_wp2
      go_ret
      exact RchR.no rfl KV.out hz.out
    · have hs2 : m id = none := by
        have h1 := H1.has id
        rw [decide_eq_false hin] at h1
        cases hm : m id with
        | none => rfl
        | some v => rw [hm] at h1; cases h1
      rw [hs2] at hlk
      dsimp only [Option.getD, Option.isSome] at hlk
      obtain ⟨V, hV, DV, bV, sV⟩ := boxedN w1 #[.bool false, .slice none 0 0, .slice none 0 0, .slice none 0 0] 83
      have KV := hide (K1.out.trans (KpM.of bV))
      have HV := hide (H1.to bV)
      have SV := hide ((bV.block _ (lt_of_block S1.out)).trans S1.out)
      replace hs2 := hide hs2
      clear DV bV H1 K1 S1
      cases ok with
      | false =>
        have hz : Hid (wk ps (f + 1) id lo hi s = none) := by
          refine wk_none ?_
          rcases hp with ⟨o, _⟩ | ⟨_, o, _⟩
          · cases o
          · exact o
        rw [hV] at KV
        clear hp
        replace hin := hide hin
        go_wp2
        go_ret
        exact RchR.no rfl KV.out hz.out
      | true =>
        obtain ⟨x, hx, hr⟩ : ∃ x, tpage ps id = some x ∧ Rd w0 bv x := by
          rcases hp with ⟨_, o⟩ | ⟨o, _⟩
          · exact o
          · cases o
        clear hp
        replace hin := hide hin
        have KD := hide (pdecD_any V bv x (hr.to HV.out.bel))
        replace hx := hide hx
        clear hr
        rw [hV] at KD
        go_wp2_with fail
        refine KD.out.mono ?_
        rintro e w3 ⟨kv, vv, dv, rfl, hon, b3, hdj⟩
        replace hdj := hide hdj
        rw [← hV] at b3 hon
        clear C0 C1 C2 C3 C4 C5 CF hlk KD
        replace hV := hide hV
        obtain ⟨nd, hnd⟩ : ∃ nd, nd = (ndec x).1 := ⟨_, rfl⟩
        obtain ⟨err, herr⟩ : ∃ err, err = (ndec x).2 := ⟨_, rfl⟩
        rw [← hnd] at hon ⊢
        rw [← herr]
        obtain ⟨U, hUU, DU, bU, sU⟩ := boxedN w3 #[.bool nd.leaf, kv, vv, dv] 83
        have bb := b3.trans (bU.mono b3.size)
        have HU1 := hide (HV.out.to bb)
        have KU := hide (KV.out.trans (KpM.of bb))
        have SU := hide ((bb.block _ (lt_of_block SV.out)).trans SV.out)
        have hBV : B ≤ V.heap.size := Nat.le_trans hBw.out KV.out.2.1
        have ON := hide ((hon.to bU).mono hBV)
        have hnb : Hid (B ≤ w3.heap.size ∧ B ≤ w.heap.size) := ⟨Nat.le_trans hBV b3.size, hBw.out⟩
        obtain ⟨⟨E0, E1, E2, E3⟩, EF⟩ := cells4 DU
        obtain ⟨ka, kc, va, vc, da, dc, rfl, rfl, rfl⟩ := hon.rd.slices
        obtain ⟨⟨S0, S1⟩, _⟩ := cells2r SU.out
        obtain ⟨⟨C0, C1, C2, C3⟩, ⟨C4, C5⟩, CF⟩ := HU1.out.cell
        dsimp only at C0 C1 C2 C3 C4 C5
        have KC := hide (pcont_any U lo hi hh.out _ nd.keys ON.out.rd.keys)
        dsimp only [sv] at KC
        rw [← hhs.out, hUU] at KC
        have DU' := hide DU
        rw [hUU] at E0 E1 E2 E3 S0 S1 C0 C1 C2 C3 C4 C5 CF
        clear DU b3 bU bb hon KV HV SV hBV
        by_cases he : err = 0
        · subst he
          have hd : Hid (ndec x = (nd, 0)) := by show _ = _; rw [hnd, herr]
          replace hnd := hide hnd
          replace herr := hide herr
          go_wp2_with fail
          refine KC.out.mono ?_
          rintro e w4 ⟨R, rfl, hR, b4⟩
          rw [← hUU] at b4
          clear E0 E1 E2 E3 S0 S1 C0 C1 C2 C3 C4 C5 CF KC
          replace hUU := hide hUU
          have H4 := hide (HU1.out.to b4)
          have K4 := hide (KU.out.trans (KpM.of b4))
          have N4 := hide (ON.out.to b4)
          have D4 := hide ((b4.block _ (lt_of_block DU'.out)).trans DU'.out)
          have S4 := hide ((b4.block _ (lt_of_block SU.out)).trans SU.out)
          clear HU1 KU ON DU' SU b4
          cases R with
          | true =>
            have hz : Hid (wk ps (f + 1) id lo hi s = none) := wk_outs hx.out (by rw [← hnd.out]; exact hR.1 rfl)
            clear hR
            go_wp2
            go_ret
            exact RchR.no rfl K4.out hz.out
          | false =>
            have hall : Hid (nd.keys.all (kin lo hi) = true) := by
              show _ = _
              cases hq : nd.keys.all (kin lo hi) with
              | true => rfl
              | false => have := hR.2 hq; cases this
            clear hR
            have hb1 := hide (tpage_bd hU.out hx.out)
            have hlen : Hid (s.seen.length < maxLen) := by
              have := nodup_len 65536 s.seen H4.out.ok.1 (fun i hi => by have h1 := H4.out.ok.2.1 i hi; have h2 := hN.out; dsimp only at h1; omega)
              show _ < _
              unfold maxLen; omega
            have bD : Below w4.heap.size w4 w4.drew := below_drewN' w4 1 _
            have HD := H4.out.to bD
            obtain ⟨w5, hrun, hmap, hgr⟩ := HD.map.store Try.underlying90 hlen.out hid.out (nv nd (.slice ka nd.keys.length kc) (.slice va nd.vals.length vc) (.slice da nd.kids.length dc))
            have ND : NdOf ps B w4.drew id (nv nd (.slice ka nd.keys.length kc) (.slice va nd.vals.length vc) (.slice da nd.kids.length dc)) := ⟨x, nd, _, _, _, hx.out, hd.out, rfl, N4.out.to bD, hdj.out⟩
            obtain ⟨P5, k5⟩ := HD.see hgr hmap hb1.out hin.out ND
            have DD := (bD.block _ (lt_of_block D4.out)).trans D4.out
            obtain ⟨⟨E0, E1, E2, E3⟩, EF⟩ := cells4 DD
            obtain ⟨⟨C0, C1, C2, C3⟩, ⟨C4, C5⟩, CF⟩ := HD.cell
            have hgn : Hid (g < B ∧ bm < B) := ⟨H4.out.hg.2, H4.out.hm.2⟩
            have N5 := hide (k5.node (N4.out.to bD) hgn.out.1 hgn.out.2)
            have D5 := hide ((k5.1 _ (lt_of_block DD) (by have := hgn.out; have := hnb.out; omega) (by have := hgn.out; have := hnb.out; omega)).trans DD)
            have SD := (bD.block _ (lt_of_block S4.out)).trans S4.out
            have S5 := hide ((k5.1 _ (lt_of_block SD) (by have := hgn.out; have := hnb.out; omega) (by have := hgn.out; have := hnb.out; omega)).trans SD)
            have K5 := hide ((K4.out.trans (KpM.of bD)).trans k5)
            obtain ⟨m5, P5⟩ : ∃ m5, PWk w0 w5 B g bm ⟨root, next, ps⟩ (.slice a ps.length c) ⟨id :: s.seen, s.dep, s.prs⟩ m5 := ⟨_, P5⟩
            replace P5 := hide P5
            dsimp only [nv] at hrun
            have hrun' := hide hrun
            clear HD hmap hgr ND k5 DD SD bD hrun H4 K4 N4 D4 S4
            go_wp2
            refine wp_region_mid (fun w' => w'.cell? ⟨g, 3, none⟩ = some (.map (some bm)) ∧ w'.cell? ⟨w3.heap.size, 0, none⟩ = some (.bool nd.leaf) ∧ w'.cell? ⟨w3.heap.size, 1, none⟩ = some (.slice ka nd.keys.length kc) ∧ w'.cell? ⟨w3.heap.size, 2, none⟩ = some (.slice va nd.vals.length vc) ∧ w'.cell? ⟨w3.heap.size, 3, none⟩ = some (.slice da nd.kids.length dc)) 6 6 mixed (by kernel_rfl) (fun _ _ _ _ h => h) ⟨C3, E0, E1, E2, E3⟩ ?_
            dsimp only [List.take, List.drop]
            iterate 6
              refine take_one (v := ?_) (by rfl) ?_ ?_
              rotate_left
              · rintro w' ⟨s1, s2, s3, s4, s5⟩
                go_simp
                try with_reducible rfl
              try simp only [Act.put, List.setIfInBounds_toArray, List.set_cons_zero, List.set_cons_succ]
            show wpList _ _ _ _ _ _
            have hrun := hrun'.out
            clear C0 C1 C2 C3 C4 C5 CF E0 E1 E2 E3 EF
            obtain ⟨⟨E0, E1, E2, E3⟩, EF⟩ := cells4 D5.out
            have hok : NOk nd := by have := (ndec_back (xs := x) (by rw [hd.out])).1; rw [hd.out] at this; exact this
            have hK3 : nd.keys.length ≤ 300 := (npr_len hok).2
            replace hok := hide hok
            cases hlf : nd.leaf with
            | true =>
              rw [hlf] at E0 hrun
              have hlv : Hid (nd.vals.length = nd.keys.length) := by
                have h1 := hok.out.2.1
                unfold ncount at h1
                rw [if_pos hlf] at h1
                exact h1.1
              have hW := wk_leaf (f := f) hx.out hin.out hd.out hall.out hlf
              have hL : s.prs.length ≤ 100000000 := by have := P5.out.ok.len hN.out.2; dsimp only at this; omega
              have hdep' : dep = 16 - (f : Int) := by have := hdep.out; omega
              have FIN := hide (leaf_fin hW hlv.out P5.out.dep hdep' (D := sdep s) (by unfold sdep; rfl))
              have KCt := hide (pcount_any w5 g _ _ _ _ s.prs.length nd.keys.length _ dep P5.out.box hL (by omega))
              replace hlf := hide hlf
              clear hW hL
              replace hdep' := hide hdep'
              go_wp2_with fail
              refine KCt.out.mono ?_
              rintro e w6 ⟨R2, rfl, kg, hbx, hR2⟩
              have K6 : KpM g bm w5 w6 := ⟨fun b h1 h2 _ => kg.1 b h1 h2, kg.2.1, fun C h1 _ h3 => kg.2.2 C h1 h3⟩
              have RR : Hid (RchR w0 w w6 B g bm ⟨root, next, ps⟩ (.slice a ps.length c) (wk ps (f + 1) id lo hi s) (.returned (.bool R2))) := by
                refine ⟨R2, rfl, K5.out.trans K6, ?_⟩
                cases hr : R2 with
                | true =>
                  have hc := hR2.1 hr
                  obtain ⟨f1, f2⟩ := FIN.out.1 hc
                  refine .inl ⟨rfl, _, m5, f1, f2, ?_⟩
                  have hnl : (npr nd).length = nd.keys.length := by rw [npr, List.length_zip, hlv.out, Nat.min_self]
                  refine P5.out.leaf kg ?_ (fun h => by rw [h] at hnl; have := hc.1; simp at hnl; omega) ?_
                  · rw [hnl, ← hdep'.out, hc.2.1]
                    exact hbx
                  · exact H.out.ok.see hb1.out hin.out (some f) (npr_len hok.out).1
                | false => exact .inr ⟨rfl, FIN.out.2 (fun h => by have := hR2.2 h; rw [hr] at this; cases this)⟩
              clear kg hbx hR2 K6 KCt FIN
              go_wp2
              go_ret
              exact RR.out
            | false =>
              rw [hlf] at E0 hrun
              have hW := hide (wk_inner (f := f) hx.out hin.out hd.out hall.out hlf)
              obtain ⟨s1, hs1'⟩ : ∃ s1 : Sw, s1 = ⟨id :: s.seen, s.dep, s.prs⟩ := ⟨_, rfl⟩
              rw [← hs1'] at P5 hW
              have hDK : nd.kids.length = nd.keys.length + 1 := by
                have h1 := hok.out.2.1
                unfold ncount at h1
                rw [hlf, if_neg (by decide)] at h1
                exact h1.2.2
              obtain ⟨D, hD⟩ : ∃ D, D = nd.kids.length := ⟨_, rfl⟩
              obtain ⟨KK, hKK⟩ : ∃ K, K = nd.keys.length := ⟨_, rfl⟩
              have hD3 : D ≤ 301 := by omega
              have hDK' : Hid (D = KK + 1) := by show _ = _; omega
              rw [← hD] at hrun E3 D5 N5
              rw [← hKK] at hrun E1 D5 N5
              rw [← hD, ← hKK]
              replace hDK := hide hDK
              replace hD := hide hD
              replace hKK := hide hKK
              obtain ⟨dp, hdp⟩ : ∃ d : Int, dep + 1 = d := ⟨_, rfl⟩
              have hdw : IntKind.i64.wrap dp = dp := IntWalk.i64_in _ (by have := hdep.out; omega)
              have hde : Hid (dp = 17 - (f : Int)) := by show _ = _; have := hdep.out; omega
              replace hlf := hide hlf
              replace hs1' := hide hs1'
              go_wp2
              clear hrun E0 E1 E2 E3 EF
              go_loopw [75] (fun p wr => ∃ k : Nat, k ≤ D ∧ p = .int .i64 k ∧ Hid (∃ s' m', wkK (wk ps f) nd lo hi 0 (nd.kids.take k) s1 = some s' ∧ s'.prs.length ≤ 4096 ∧ PWk w0 wr B g bm ⟨root, next, ps⟩ (.slice a ps.length c) s' m' ∧ KpM g bm w5 wr)) (fun p _ => D - (intOf p).toNat)
              case atStart => exact ⟨0, Nat.zero_le _, rfl, hide ⟨s1, m5, rfl, by rw [hs1'.out]; exact hs4.out, P5.out, KpM.refl _ _ _⟩⟩
              case round =>
                obtain ⟨k, hk, rfl, hI⟩ := hrel
                obtain ⟨s2, m2, q1, q2, q3, q4⟩ := hI.out
                clear hI
                have N6 := q4.node N5.out hgn.out.1 hgn.out.2
                have D6 := (q4.1 _ (lt_of_block D5.out) (by have := hgn.out; have := hnb.out; omega) (by have := hgn.out; have := hnb.out; omega)).trans D5.out
                have S6 := (q4.1 _ (lt_of_block S5.out) (by have := hgn.out; have := hnb.out; omega) (by have := hgn.out; have := hnb.out; omega)).trans S5.out
                obtain ⟨⟨E0, E1, E2, E3⟩, EF⟩ := cells4 D6
                obtain ⟨⟨T0, T1⟩, _⟩ := cells2r S6
                by_cases hlt : k < D
                · have hq : (k : Int) < (D : Int) := by omega
                  obtain ⟨kid, hkid⟩ := some_el nd.kids (k := k) (by rw [← hD.out]; exact hlt)
                  obtain ⟨b3, off3, e3, hc3⟩ := N6.rd.kids.intAt hkid
                  have KO := hide (pofkid_any wr lo hi (.slice ka KK kc) nd k N6.rd.keys (by have := hDK'.out; rw [← hKK.out]; omega))
                  have hst : Hid (wkK (wk ps f) nd lo hi 0 (nd.kids.take (k + 1)) s1 = wk ps f kid (kidLo nd lo k) (kidHi nd hi k) s2) := by show _ = _; rw [wkK_take _ _ _ _ _ _ hkid, q1]; rfl
                  have hkw : Hid ((Lit.int .i64 kid).wf = true) := by
                    have := hok.out.2.2.2.1 k (by rw [← hD.out]; exact hlt)
                    rw [hkid] at this
                    simp only [Option.getD_some] at this
                    exact WalkArith.wf_i64 (by omega)
                  have hho : Hid (HiOk (kidHi nd hi k)) := by
                    unfold kidHi
                    split
                    · rename_i hlk
                      have := (hok.out.1 k hlk).1
                      unfold nkey at this
                      intro h9
                      simp only [Option.some.injEq, List.getD_eq_getElem?_getD] at h9
                      rw [h9] at this
                      simp at this
                    · exact hh.out
                  have R3 := hide (And.intro q1 (And.intro q2 (And.intro q3 q4)))
                  have hBr : Hid (B ≤ wr.heap.size) := Nat.le_trans hBw.out (Nat.le_trans K5.out.2.1 q4.2.1)
                  replace hkid := hide hkid
                  dsimp only [sv] at KO
                  rw [← hhs.out] at KO
                  clear q1 q2 q3 q4 N6 D6 S6
                  subst e3
                  go_wp2_with fail
                  refine KO.out.mono ?_
                  rintro e w7 ⟨rfl, b7⟩
                  have KR := hide (ih.out (by omega) w7 s2 m2 kid (kidLo nd lo k) (kidHi nd hi k) (R3.out.2.2.1.to b7) R3.out.2.1 (Nat.le_trans hBr.out b7.size) hho.out hkw.out)
                  rw [← hde.out] at KR
                  have K7 := hide (R3.out.2.2.2.trans (KpM.of b7))
                  clear b7 KO
                  go_wp2_with fail
                  refine KR.out.mono ?_
                  rintro e w8 ⟨R8, rfl, k8, h8⟩
                  cases R8 with
                  | true =>
                    have hI' : Hid (∃ s' m', wkK (wk ps f) nd lo hi 0 (nd.kids.take (k + 1)) s1 = some s' ∧ s'.prs.length ≤ 4096 ∧ PWk w0 w8 B g bm ⟨root, next, ps⟩ (.slice a ps.length c) s' m' ∧ KpM g bm w5 w8) := by
                      rcases h8 with ⟨_, s', m', p1, p2, p3⟩ | ⟨p, _⟩
                      · exact ⟨s', m', by rw [hst.out]; exact p1, p2, p3, K7.out.trans k8⟩
                      · cases p
                    clear h8 k8 KR
                    go_wp2
                    go_roundw
                    case rel => exact ⟨k + 1, by omega, by go_num, hI'⟩
                    case measure => simp [intOf]; omega
                  | false =>
                    have RR : Hid (RchR w0 w w8 B g bm ⟨root, next, ps⟩ (.slice a ps.length c) (wk ps (f + 1) id lo hi s) (.returned (.bool false))) := by
                      refine ⟨false, rfl, K5.out.trans (K7.out.trans k8), .inr ⟨rfl, fun s' hs' => ?_⟩⟩
                      rw [hW.out] at hs'
                      obtain ⟨sk, z1, z2⟩ := wkK_at (wk_mono ps f) nd lo hi nd.kids s1 s' hs' (nd.kids.length - (k + 1)) (k + 1) (by rw [← hD.out]; omega)
                      rw [hst.out] at z1
                      rcases h8 with ⟨p, _⟩ | ⟨_, p⟩
                      · cases p
                      · have := p sk z1; omega
                    clear h8 k8 KR
                    go_wp2
                    go_ret
                    exact RR.out
                · have hq : ¬ (k : Int) < (D : Int) := by omega
                  have ht : nd.kids.take k = nd.kids := List.take_of_length_le (by rw [← hD.out]; omega)
                  rw [ht, ← hW.out] at q1
                  have RR : Hid (RchR w0 w wr B g bm ⟨root, next, ps⟩ (.slice a ps.length c) (wk ps (f + 1) id lo hi s) (.returned (.bool true))) := ⟨true, rfl, K5.out.trans q4, .inl ⟨rfl, s2, m2, q1, q2, q3⟩⟩
                  clear q1 q2 q3 q4 ht N6 D6 S6
                  go_wp2
                  go_ret
                  exact RR.out
        · have hq : (err != 0) = true := by simpa using he
          have hz : Hid (wk ps (f + 1) id lo hi s = none) := wk_bad hx.out (by rw [← herr]; exact he)
          replace he := hide he
          replace hnd := hide hnd
          replace herr := hide herr
          rw [hUU] at KU
          go_wp2
          go_ret
          exact RchR.no rfl KU.out hz.out

end Go.Proofs.Ytgmkknonnidgaaa

/-
  The page's Walks, Pairs, Check, Get, Scan.
-/
namespace Go.Proofs.Ytgmkknonnidgaaa
open Go.RowKit
set_option linter.unusedVariables false
set_option linter.unusedSimpArgs false

theorem infoBoolT : (Try.prog.info? 4).map (fun i => (i.zero, i.size, i.bytes)) = some (some (.bool false), 1, 1) := by kernel_rfl
theorem make_boolsT {n : Nat} (hn : n ≤ 281474976710656) (u : World) : (Instr.makeSlice 103 (.int .i64 (n : Int)) (.int .i64 (n : Int))).run Try.prog u =
      .ok (.slice (some ⟨u.heap.size, 0, none⟩) n n) (u.alloc (.cells (madeCells #[.bool false] n) 4)) := by
  obtain ⟨i0, hi, hz0, hz1, hz2⟩ := info_parts infoBoolT
  have h := run_make (P := Try.prog) u 103 4 i0 (.bool false) Try.underlying103 hi hz0 .i64 .i64 (n : Int) (n : Int) (by omega) (Int.le_refl _) (by rw [hz2]; omega) (by omega)
  simpa [hz1, Value.cells] using h
theorem SeenW.made (w : World) (n : Nat) (h : n ≤ 281474976710656) : SeenW w.heap.size n [] (w.alloc (.cells (madeCells #[.bool false] n) 4)) := by
  have := World.ownsRow_lit (base := w.heap.size) (e := 4) (size := 1) w (madeCells #[.bool false] n) n (Nat.le_refl _) (by unfold maxLen; omega) (by simp [madeCells])
  rw [toList_madeCells_one] at this
  show World.ownsRow _ _ _ _ _ _ _
  rw [useen_nil, List.map_replicate]
  exact this

/-- how a whole walk ends -/
def WksR (w w' : World) (t : Tr) (pv : Value) (n : Nat) (e : Ending) : Prop :=
  ∃ g bs prv s bad, e = .returned (.pointer (some ⟨g, 0, none⟩)) ∧ RWk w w' g bs n t pv prv s bad ∧ ((twalk t = some s ∧ bad = false) ∨ (twalk t = none ∧ bad = true))
set_option maxRecDepth 100000 in
set_option maxHeartbeats 2000000 in
theorem rwalks_any (w : World) (t : Tr) (pv : Value) (n : Nat) (hn : (n : Int) = t.next + 1) (hN : 1 ≤ t.next ∧ t.next ≤ 65536) (hU : tups t.next t.pages t.pages.length) (h : RdC w pv t.pages) :
    Calls Try.prog 46 #[tv t pv] w fun e w' => WksR w w' t pv n e := by
  have hmk := fun u => make_boolsT (n := n) (by omega) u
  have KG := hide (rgo_any w t pv)
  obtain ⟨root, next, ps⟩ := t
  obtain ⟨a, c, rfl⟩ := h.slice
  obtain ⟨W, hW, D, bW, sW⟩ := boxedN w #[.int .i64 root, .int .i64 next, .slice a ps.length c] 50
  obtain ⟨⟨D0, D1, D2⟩, _⟩ := cells3p D
  dsimp only [tv] at *
  have hnw : IntKind.i64.wrap (n : Int) = (n : Int) := IntWalk.i64_in _ (by omega)
  have hE := hide (And.intro D0 (And.intro D1 D2))
  rw [hW] at D0 D1 D2
  have hn2 : next + 1 = (n : Int) := hn.symm
  replace hn := hide hn
  go_enter Try.func46, Try.ntmps46
  go_wp2
  rw [← hW]
  replace hW := hide hW
  obtain ⟨D0, D1, D2⟩ := hE.out
  go_region
  obtain ⟨X1, hX1⟩ : ∃ X, X = W.alloc (.cells (madeCells #[.bool false] n) 4) := ⟨_, rfl⟩
  obtain ⟨X2, hX2, DX, bX2, sX2⟩ := boxedN X1 #[.int .i64 root, .int .i64 next, .slice a ps.length c, .slice (some ⟨w.heap.size + 1, 0, none⟩) n n, .bool false, .int .i64 0, .bool false, .slice none 0 0] 105
  have s1 : X1.heap.size = w.heap.size + 1 + 1 := by rw [hX1]; simp [sW]
  have b1 : Below W.heap.size W X1 := by rw [hX1]; exact (Below.refl _ _).alloc (Nat.le_refl _) _
  have sw0 : SeenW (w.heap.size + 1) n [] X1 := by rw [hX1, ← sW]; exact SeenW.made W n (by have := hn.out; omega)
  have bw := bW.trans ((b1.mono bW.size).trans (bX2.mono (by omega)))
  have R0 : RWk w X2 (w.heap.size + 1 + 1) (w.heap.size + 1) n ⟨root, next, ps⟩ (.slice a ps.length c) (.slice none 0 0) ⟨[], none, []⟩ false :=
    ⟨by rw [← s1]; exact DX, rows_to sw0 bX2, World.ownsRow_nil _ _ _ _, h, ⟨List.nodup_nil, (fun i hi => by cases hi), Nat.zero_le _⟩, bw, by omega, by omega⟩
  have bd : Below X2.heap.size X2 X2.drew := below_drewN' X2 1 _
  replace R0 := R0.to bd
  have HB := hide (bw.trans (bd.mono bw.size))
  have e0 := (HB.out.cell (p := ⟨w.heap.size, 0, none⟩))
  have E0 : X2.drew.cell? ⟨w.heap.size, 0, none⟩ = some (.int .i64 root) := by
    have q : Below W.heap.size W X2.drew := (b1.trans (bX2.mono b1.size)).trans (bd.mono (b1.trans (bX2.mono b1.size)).size)
    exact (q.cell (cell_lt D0)).trans D0
  rw [← hX1]
  rw [← hX2]
  clear e0 D0 D1 D2 hE
  have RR := hide R0
  have KC := hide (KG.out (w.heap.size + 1 + 1) (w.heap.size + 1) n hn.out hN hU 16 (Nat.le_refl _) X2.drew _ _ false root [] none R0)
  clear R0 bw bd DX bX2 sX2 s1 b1 sw0 hX1 hX2 KG hmk D bW sW hn2 hnw
  generalize X2.drew = Y at *
  replace hU := hide hU
  replace h := hide h
  replace hN := hide hN
  by_cases r0 : root = 0
  · have hr : Hid (twalk ⟨root, next, ps⟩ = some ⟨[], none, []⟩) := by show _ = _; unfold twalk; rw [if_pos r0]
    have r1 : (root != 0) = false := by simp [r0]
    replace r0 := hide r0
    go_wp2
    go_ret
    exact ⟨_, _, _, _, _, rfl, RR.out, .inl ⟨hr.out, rfl⟩⟩
  · have hr : Hid (twalk ⟨root, next, ps⟩ = wk ps 16 root [] none ⟨[], none, []⟩) := by show _ = _; unfold twalk; rw [if_neg r0]
    have r1 : (root != 0) = true := by simp [r0]
    replace r0 := hide r0
    go_wp2_with fail
    refine KC.out.mono ?_
    rintro e w7 ⟨rfl, pv7, s7, bad7, q1, q2, q3⟩
    have Q := hide (And.intro q1 q3)
    clear q1 q2 q3 KC
    go_wp2
    go_ret
    refine ⟨_, _, _, _, _, rfl, Q.out.1, ?_⟩
    rw [hr.out]
    exact Q.out.2.2 rfl

/-- what a store holds, or its error -/
def PrsR (B : Nat) (w' : World) (o : Option (List Pr)) (v : Value) (err : Int) : Prop := (∃ l, o = some l ∧ err = 0 ∧ OwnP B w' v l) ∨ (o = none ∧ err = 9 ∧ v = .slice none 0 0)
set_option maxRecDepth 100000 in
set_option maxHeartbeats 2000000 in
theorem rprs_any (w : World) (t : Tr) (pv : Value) (h : RdC w pv t.pages) :
    Calls Try.prog 22 #[tv t pv] w fun e w' => ∃ v err, e = .returned (.tuple #[v, .int .i64 err]) ∧ PrsR w.heap.size w' (tprs t) v err ∧ Below w.heap.size w w' := by
  obtain ⟨root, next, ps⟩ := t
  obtain ⟨a, c, rfl⟩ := h.slice
  obtain ⟨W, hW, D, bW, sW⟩ := boxedN w #[.int .i64 root, .int .i64 next, .slice a ps.length c] 50
  dsimp only [tv] at *
  have KN := hide (rnumbers_any W (.slice a ps.length c) ⟨root, next, ps⟩ (h.to0 bW))
  obtain ⟨⟨D0, D1, D2⟩, _⟩ := cells3p D
  have hE := hide (And.intro D0 (And.intro D1 D2))
  have HB := hide bW
  have HH := hide h
  rw [hW] at D0 D1 D2 KN
  dsimp only [tv] at KN
  clear h bW D sW
  go_enter Try.func22, Try.ntmps22
  go_wp2_with fail
  refine KN.out.mono ?_
  rintro e w1 ⟨rfl, b1⟩
  rw [← hW] at b1
  replace hW := hide hW
  have B1 := hide (HB.out.trans (b1.mono HB.out.size))
  have E1 : Hid (w1.cell? ⟨w.heap.size, 0, none⟩ = some (.int .i64 root) ∧ w1.cell? ⟨w.heap.size, 1, none⟩ = some (.int .i64 next) ∧ w1.cell? ⟨w.heap.size, 2, none⟩ = some (.slice a ps.length c)) :=
    ⟨(b1.cell (cell_lt hE.out.1)).trans hE.out.1, (b1.cell (cell_lt hE.out.2.1)).trans hE.out.2.1, (b1.cell (cell_lt hE.out.2.2)).trans hE.out.2.2⟩
  clear b1 KN hE D0 D1 D2
  by_cases hT : TNum ⟨root, next, ps⟩
  · have q1 : decide (TNum ⟨root, next, ps⟩) = true := decide_eq_true hT
    have hr : Hid (tprs ⟨root, next, ps⟩ = (twalk ⟨root, next, ps⟩).bind fun s => if s.prs.length ≤ 4096 then some s.prs else none) := by show _ = _; unfold tprs; rw [if_pos hT]
    obtain ⟨n, hn⟩ : ∃ n : Nat, (n : Int) = next + 1 := ⟨(next + 1).toNat, by have := hT.1; dsimp only at this; omega⟩
    have KW := hide (rwalks_any w1 ⟨root, next, ps⟩ (.slice a ps.length c) n hn ⟨hT.1, hT.2.1⟩ hT.2.2.1 (HH.out.to0 B1.out))
    dsimp only [tv] at KW
    replace hT := hide hT
    replace hn := hide hn
    obtain ⟨D0, D1, D2⟩ := E1.out
    rw [q1]
    clear q1
    go_wp2_with fail
    refine KW.out.mono ?_
    rintro e w2 ⟨g, bs, prv, s, bad, rfl, q1, q2⟩
    have Q := hide (And.intro q1 q2)
    have B2 := hide (B1.out.trans (q1.bel.mono B1.out.size))
    obtain ⟨⟨_, _, _, _⟩, ⟨C4, _, _, C7⟩, CF⟩ := q1.cell
    obtain ⟨pa, pc, hpv⟩ := q1.prs.rd.slice
    subst hpv
    clear q1 q2 KW
    cases bad with
    | true =>
      have hz : Hid (tprs ⟨root, next, ps⟩ = none) := by
        show _ = _
        rw [hr.out]
        rcases Q.out.2 with ⟨_, q⟩ | ⟨q, _⟩
        · cases q
        · rw [q]; rfl
      go_wp2
      go_ret2
      exact ⟨_, _, rfl, .inr ⟨hz.out, rfl, rfl⟩, B2.out⟩
    | false =>
      have hs : Hid (twalk ⟨root, next, ps⟩ = some s) := by
        rcases Q.out.2 with ⟨q, _⟩ | ⟨_, q⟩
        · exact q
        · cases q
      obtain ⟨m, hm⟩ : ∃ m, m = s.prs.length := ⟨_, rfl⟩
      rw [← hm] at C7
      replace hm := hide hm
      by_cases hgt : (m : Int) > 4096
      · have hz : Hid (tprs ⟨root, next, ps⟩ = none) := by
          show _ = _
          rw [hr.out, hs.out]
          show (if s.prs.length ≤ 4096 then _ else _) = _
          rw [if_neg (by rw [← hm.out]; omega)]
        go_wp2
        go_ret2
        exact ⟨_, _, rfl, .inr ⟨hz.out, rfl, rfl⟩, B2.out⟩
      · have hz : Hid (tprs ⟨root, next, ps⟩ = some s.prs) := by
          show _ = _
          rw [hr.out, hs.out]
          show (if s.prs.length ≤ 4096 then _ else _) = _
          rw [if_pos (by rw [← hm.out]; omega)]
        have O2 : Hid (OwnP w.heap.size w2 (.slice pa m pc) s.prs) := by rw [hm.out]; exact rows_mono Q.out.1.prs B1.out.size
        go_wp2
        go_ret2
        exact ⟨_, _, rfl, .inl ⟨_, hz.out, rfl, O2.out⟩, B2.out⟩
  · have q1 : decide (TNum ⟨root, next, ps⟩) = false := decide_eq_false hT
    have hr : Hid (tprs ⟨root, next, ps⟩ = none) := by show _ = _; unfold tprs; rw [if_neg hT]
    replace hT := hide hT
    rw [q1]
    clear q1
    go_wp2
    go_ret2
    exact ⟨_, _, rfl, .inr ⟨hr.out, rfl, rfl⟩, B1.out⟩

end Go.Proofs.Ytgmkknonnidgaaa

/-
  The page's Check, Get, Scan.
-/
namespace Go.Proofs.Ytgmkknonnidgaaa
open Go.RowKit
set_option linter.unusedVariables false
set_option linter.unusedSimpArgs false

/-- a key's value -/
def pget (l : List Pr) (k : Str) : Option Str := (l.find? fun y => y.1 == k).map (·.2)
def pin (a b : Str) (y : Pr) : Bool := !slt y.1 a && (b == [] || slt y.1 b)
def pscan (l : List Pr) (a b : Str) : List Pr := l.filter (pin a b)
def tget (t : Tr) (k : Str) : Str × Bool × Int := match tprs t with
  | none => ([], false, 9)
  | some l => if tkey k = true then (match pget l k with | some v => (v, true, 0) | none => ([], false, 0)) else ([], false, 91)
def tscan (t : Tr) (a b : Str) : List Pr × Int := match tprs t with
  | none => ([], 9)
  | some l => (pscan l a b, 0)
def tcheck (t : Tr) : Int := match tprs t with
  | none => 9
  | some _ => 0
theorem ret_i {a b : Int} (h : a = b) : Ending.returned (.int .i64 a) = .returned (.int .i64 b) := by rw [h]
theorem ret_sbi {a b c x y z : Value} (h1 : a = x) (h2 : b = y) (h3 : c = z) : Ending.returned (.tuple #[a, b, c]) = .returned (.tuple #[x, y, z]) := by rw [h1, h2, h3]
theorem rdp_nil (w : World) : RdP w (.slice none 0 0) [] := (OwnP.rd (World.ownsRow_nil w 0 74 2 : OwnP 0 w (.slice none 0 0) []))
theorem pget_hit {l : List Pr} {i : Nat} {y : Pr} {k : Str} (hy : l[i]? = some y) (h : (y.1 == k) = true) (hb : ∀ t z, t < i → l[t]? = some z → (z.1 == k) = false) : pget l k = some y.2 := by
  unfold pget
  have : l.find? (fun y => y.1 == k) = some y := by
    induction l generalizing i with
    | nil => simp at hy
    | cons x r ih =>
      cases i with
      | zero =>
        have : x = y := by simpa using hy
        subst this
        simp [List.find?, h]
      | succ i =>
        have h0 := hb 0 x (by omega) rfl
        rw [List.find?_cons, h0]
        exact ih (i := i) (by simpa using hy) (fun t z ht hz => hb (t + 1) z (by omega) (by simpa using hz))
  rw [this]; rfl
theorem pget_none {l : List Pr} {k : Str} (hb : ∀ (t : Nat) z, l[t]? = some z → (z.1 == k) = false) : pget l k = none := by
  unfold pget
  have : l.find? (fun y => y.1 == k) = none := by
    rw [List.find?_eq_none]
    intro z hz
    obtain ⟨t, ht, e⟩ := List.getElem_of_mem hz
    simp [hb t z (by rw [List.getElem?_eq_getElem ht, e])]
  rw [this]; rfl
theorem pscan_snoc (l : List Pr) (a b : Str) {i : Nat} {y : Pr} (h : l[i]? = some y) : pscan (l.take (i + 1)) a b = if pin a b y = true then pscan (l.take i) a b ++ [y] else pscan (l.take i) a b := by
  unfold pscan
  rw [List.take_add_one, h, List.filter_append]
  cases hp : pin a b y <;> simp [hp]

set_option maxRecDepth 100000 in
set_option maxHeartbeats 2000000 in
theorem rcheck10_any (w : World) (t : Tr) (pv : Value) (h : RdC w pv t.pages) : Calls Try.prog 21 #[tv t pv] w fun e w' => e = .returned (.int .i64 (tcheck t)) ∧ Below w.heap.size w w' := by
  obtain ⟨W, hW, D, bW, sW⟩ := boxedN w #[.int .i64 t.root, .int .i64 t.next, pv] 50
  have KN := hide (rprs_any W t pv (h.to0 bW))
  obtain ⟨a, c, rfl⟩ := h.slice
  obtain ⟨⟨D0, D1, D2⟩, _⟩ := cells3p D
  have HB := hide bW
  rw [hW] at D0 D1 D2 KN
  dsimp only [tv] at KN ⊢
  clear h bW D sW
  generalize t.root = root at *
  generalize t.next = next at *
  generalize t.pages.length = L at *
  go_enter Try.func21, Try.ntmps21
  go_wp2_with fail
  refine KN.out.mono ?_
  rintro e w1 ⟨v, err, rfl, hp, b1⟩
  rw [← hW] at b1
  have B1 := hide (HB.out.trans (b1.mono HB.out.size))
  have hc : Hid (err = tcheck t) := by
    show _ = _
    unfold tcheck
    rcases hp with ⟨l, h1, h2, _⟩ | ⟨h1, h2, _⟩
    · rw [h1, h2]
    · rw [h1, h2]
  clear b1 hp KN HB hW D0 D1 D2
  go_wp2
  go_ret
  exact ⟨ret_i hc.out, B1.out⟩

set_option maxRecDepth 100000 in
set_option maxHeartbeats 2000000 in
theorem rget10_any (w : World) (t : Tr) (pv : Value) (k : Str) (hk : k.length ≤ 9223372036854775807) (h : RdC w pv t.pages) : Calls Try.prog 18 #[tv t pv, st k] w fun e w' =>
    e = .returned (.tuple #[st (tget t k).1, .bool (tget t k).2.1, .int .i64 (tget t k).2.2]) ∧ Below w.heap.size w w' := by
  obtain ⟨W, hW, D, bW, sW⟩ := boxedN w #[.int .i64 t.root, .int .i64 t.next, pv] 50
  have KN := hide (rprs_any W t pv (h.to0 bW))
  obtain ⟨a, c, rfl⟩ := h.slice
  obtain ⟨⟨D0, D1, D2⟩, _⟩ := cells3p D
  have HB := hide bW
  rw [hW] at D0 D1 D2 KN
  dsimp only [tv] at KN ⊢
  clear h bW D sW
  generalize t.root = root at *
  generalize t.next = next at *
  generalize t.pages.length = L at *
  obtain ⟨R, hR⟩ : ∃ R, R = tget t k := ⟨_, rfl⟩
  rw [← hR]
  replace hR := hide hR
  go_enter Try.func18, Try.ntmps18
  go_wp2_with fail
  refine KN.out.mono ?_
  rintro e w1 ⟨v, err, rfl, hp, b1⟩
  rw [← hW] at b1
  have B1 := hide (HB.out.trans (b1.mono HB.out.size))
  clear b1 KN HB hW D0 D1 D2
  rcases hp with ⟨l, h1, rfl, h3⟩ | ⟨h1, rfl, rfl⟩
  · have KK := hide (rkey_any w1 k hk)
    have H3 := hide (OwnP.rd h3)
    obtain ⟨pa, pc, rfl⟩ := (OwnP.rd h3).slice
    have lb := (OwnP.rd h3).bd
    obtain ⟨M, hM⟩ : ∃ M, M = l.length := ⟨_, rfl⟩
    rw [← hM] at H3 lb ⊢
    replace hM := hide hM
    replace h1 := hide h1
    clear h3
    go_wp2_with fail
    refine KK.out.mono ?_
    rintro e w2 ⟨rfl, rfl⟩
    cases ht : tkey k with
    | false =>
      have hr : Hid (R = ([], false, 91)) := by show _ = _; rw [hR.out]; unfold tget; rw [h1.out]; simp [ht]
      go_wp2
      go_ret3
      rw [hr.out]
      exact ⟨rfl, B1.out⟩
    | true =>
      have hr : Hid (R = (match pget l k with | some v => (v, true, 0) | none => ([], false, 0))) := by show _ = _; rw [hR.out]; unfold tget; rw [h1.out]; simp only [ht, if_true]
      replace ht := hide ht
      go_wp2
      go_loopw [9] (fun p wr => ∃ i : Nat, i ≤ M ∧ p = .int .i64 i ∧ w1 = wr ∧ Hid (∀ t y, t < i → l[t]? = some y → (y.1 == k) = false)) (fun p _ => M - (intOf p).toNat)
      case atStart => exact ⟨0, Nat.zero_le _, rfl, rfl, hide fun t y h => by omega⟩
      case round =>
        obtain ⟨i, hi, rfl, rfl, hI⟩ := hrel
        by_cases hlt : i < M
        · have hq : (i : Int) < (M : Int) := by omega
          obtain ⟨y, hy⟩ := some_el l (k := i) (by rw [← hM.out]; exact hlt)
          obtain ⟨b, off, rfl, hc1, hc2⟩ := H3.out.prAt hy
          replace hy := hide hy
          obtain ⟨y1, y2⟩ := y
          dsimp only at hc1 hc2
          cases he : (y1 == k) with
          | true =>
            have hz : Hid (R = (y2, true, 0)) := by show _ = _; rw [hr.out, pget_hit hy.out he hI.out]
            go_wp2
            go_ret3
            rw [hz.out]
            exact ⟨rfl, B1.out⟩
          | false =>
            have hI' : Hid (∀ t y, t < i + 1 → l[t]? = some y → (y.1 == k) = false) := fun t z ht hz => by
              by_cases e : t = i
              · subst e
                have := hz.symm.trans hy.out
                simp at this; subst this
                exact he
              · exact hI.out t z (by omega) hz
            go_wp2
            go_roundw
            case rel => exact ⟨i + 1, by omega, by go_num, trivial, hI'⟩
            case measure => simp [intOf]; omega
        · have hq : ¬ (i : Int) < (M : Int) := by omega
          have hz : Hid (R = ([], false, 0)) := by
            show _ = _
            rw [hr.out, pget_none fun t z hz => hI.out t z (by have := (List.getElem?_eq_some_iff.1 hz).1; rw [← hM.out] at this; omega) hz]
          go_wp2
          go_ret3
          rw [hz.out]
          exact ⟨rfl, B1.out⟩
  · have hr : Hid (R = ([], false, 9)) := by show _ = _; rw [hR.out]; unfold tget; rw [h1]
    go_wp2
    go_ret3
    rw [hr.out]
    exact ⟨rfl, B1.out⟩

set_option maxRecDepth 100000 in
set_option maxHeartbeats 2000000 in
theorem rscan10_any (w : World) (t : Tr) (pv : Value) (fr tw : Str) (h : RdC w pv t.pages) : Calls Try.prog 19 #[tv t pv, st fr, st tw] w fun e w' =>
    ∃ v, e = .returned (.tuple #[v, .int .i64 (tscan t fr tw).2]) ∧ OwnP w.heap.size w' v (tscan t fr tw).1 ∧ Below w.heap.size w w' := by
  obtain ⟨W, hW, D, bW, sW⟩ := boxedN w #[.int .i64 t.root, .int .i64 t.next, pv] 50
  have KN := hide (rprs_any W t pv (h.to0 bW))
  obtain ⟨a, c, rfl⟩ := h.slice
  obtain ⟨⟨D0, D1, D2⟩, _⟩ := cells3p D
  have HB := hide bW
  rw [hW] at D0 D1 D2 KN
  dsimp only [tv] at KN ⊢
  clear h bW D sW
  generalize t.root = root at *
  generalize t.next = next at *
  generalize t.pages.length = L at *
  obtain ⟨R, hR⟩ : ∃ R, R = tscan t fr tw := ⟨_, rfl⟩
  rw [← hR]
  replace hR := hide hR
  go_enter Try.func19, Try.ntmps19
  go_wp2_with fail
  refine KN.out.mono ?_
  rintro e w1 ⟨v, err, rfl, hp, b1⟩
  rw [← hW] at b1
  have B1 := hide (HB.out.trans (b1.mono HB.out.size))
  clear b1 KN HB hW D0 D1 D2
  rcases hp with ⟨l, h1, rfl, h3⟩ | ⟨h1, rfl, rfl⟩
  · have hl : l.length ≤ 4096 := by
      unfold tprs at h1
      split at h1
      · cases hw : twalk t with
        | none => rw [hw] at h1; cases h1
        | some s =>
          rw [hw] at h1
          simp only [Option.bind_some] at h1
          split at h1
          · simp only [Option.some.injEq] at h1; subst h1; assumption
          · cases h1
      · cases h1
    have hr : Hid (R = (pscan l fr tw, 0)) := by show _ = _; rw [hR.out]; unfold tscan; rw [h1]
    have H3 := hide (OwnP.rd h3)
    obtain ⟨pa, pc, rfl⟩ := (OwnP.rd h3).slice
    obtain ⟨M, hM⟩ : ∃ M, M = l.length := ⟨_, rfl⟩
    rw [← hM] at H3 hl ⊢
    replace hM := hide hM
    replace h1 := hide h1
    clear h3
    go_wp2
    go_loopw [10, 11] (fun o p wr => ∃ i : Nat, i ≤ M ∧ p = .int .i64 i ∧ Hid (OwnP w1.heap.size wr o (pscan (l.take i) fr tw) ∧ Below w1.heap.size w1 wr)) (fun _ p _ => M - (intOf p).toNat)
    case atStart => exact ⟨0, Nat.zero_le _, rfl, hide ⟨World.ownsRow_nil _ _ _ _, Below.refl _ _⟩⟩
    case round =>
      obtain ⟨i, hi, rfl, hI⟩ := hrel
      by_cases hlt : i < M
      · have hq : (i : Int) < (M : Int) := by omega
        obtain ⟨y, hy⟩ := some_el l (k := i) (by rw [← hM.out]; exact hlt)
        obtain ⟨b, off, rfl, hc1, hc2⟩ := (H3.out.to0 hI.out.2).prAt hy
        have hS := hide (pscan_snoc l fr tw hy)
        have hN : Hid ((pscan (l.take i) fr tw).length ≤ M) := by
          show _ ≤ _
          have h1 := List.length_filter_le (pin fr tw) (l.take i)
          have h2 := List.length_take_le' i l
          rw [← hM.out] at h2
          unfold pscan; omega
        obtain ⟨out, hs⟩ : ∃ s, s = pscan (l.take i) fr tw := ⟨_, rfl⟩
        rw [← hs] at hI hS hN
        replace hs := hide hs
        replace hy := hide hy
        obtain ⟨y1, y2⟩ := y
        dsimp only at hc1 hc2
        go_upto_region 8 with fail
        go_cut [45] from 20 to 52 (fun s wx => s = .bool (pin fr tw (y1, y2)) ∧ wr = wx)
        case first =>
          have hp0 : Hid (pin fr tw (y1, y2) = (!Op.bytesLess y1 fr && (tw == [] || Op.bytesLess y1 tw))) := (rfl : _ = _)
          cases h1 : Op.bytesLess y1 fr with
          | true =>
            have hpv : Hid (pin fr tw (y1, y2) = false) := by show _ = _; rw [hp0.out, h1]; rfl
            go_wp2_with fail
            go_meet
            case rel => exact ⟨by rw [hpv.out], rfl⟩
          | false =>
            by_cases h2 : tw = []
            · have hpv : Hid (pin fr tw (y1, y2) = true) := by show _ = _; rw [hp0.out, h1, h2]; rfl
              subst h2
              go_wp2_with fail
              go_meet
              case rel => exact ⟨by rw [hpv.out], rfl⟩
            · have h3 : (tw == []) = false := by simpa using h2
              have hpv : Hid (pin fr tw (y1, y2) = Op.bytesLess y1 tw) := by show _ = _; rw [hp0.out, h1, h3]; rfl
              replace h2 := hide h2
              go_wp2_with fail
              go_meet
              case rel => exact ⟨by rw [hpv.out], rfl⟩
        case rest =>
          obtain ⟨rfl, rfl⟩ := hcut
          cases hp : pin fr tw (y1, y2) with
          | false =>
            rw [hp, if_neg (by simp)] at hS
            replace hp := hide hp
            go_wp2
            go_roundw
            case rel => exact ⟨i + 1, by omega, by go_num, by rw [hS.out]; exact hI⟩
            case measure => simp [intOf]; omega
          | true =>
            rw [hp, if_pos rfl] at hS
            replace hp := hide hp
            obtain ⟨V, hV, D, bV, sV⟩ := boxedN wr #[st y1, st y2] 74
            obtain ⟨⟨C0, C1⟩, _⟩ := cells2r D
            have OW := rows_to hI.out.1 bV
            have BB := hide (hI.out.2.trans (bV.mono hI.out.2.size))
            have hn : (out.length + 1) * 32 ≤ 140737488355328 := by have := hN.out; omega
            have hB2 : w1.heap.size ≤ V.heap.size := BB.out.size
            rw [hV] at C0 C1 OW hB2
            replace C0 := hide C0
            replace C1 := hide C1
            replace OW := hide OW
            clear D bV
            go_wp2_with (at_builtin; refine wpList_appP rfl _ _ rfl w1.heap.size _ out (y1, y2) wr.heap.size rfl rfl OW.out C0.out C1.out hn hB2 ?_; intro v1 w3 o1 b1 _)
            replace o1 := hide o1
            rw [← hV] at b1
            have B3 := hide (BB.out.trans b1)
            clear b1
            go_wp2
            go_roundw
            case rel => exact ⟨i + 1, by omega, by go_num, by rw [hS.out]; exact ⟨o1.out, B3.out⟩⟩
            case measure => simp [intOf]; omega
      · have hq : ¬ (i : Int) < (M : Int) := by omega
        have ht : l.take i = l := List.take_of_length_le (by rw [← hM.out]; omega)
        rw [ht] at hI
        go_wp2
        go_ret2
        rw [hr.out]
        exact ⟨_, rfl, rows_mono hI.out.1 B1.out.size, B1.out.trans (hI.out.2.mono B1.out.size)⟩
  · have hr : Hid (R = ([], 9)) := by show _ = _; rw [hR.out]; unfold tscan; rw [h1]
    go_wp2
    go_ret2
    rw [hr.out]
    exact ⟨_, rfl, World.ownsRow_nil _ _ _ _, B1.out⟩

end Go.Proofs.Ytgmkknonnidgaaa

/-
  The program's walkOf, walkFor, Check.
-/
namespace Go.Proofs.Ytgmkknonnidgaaa
open Go.RowKit
set_option linter.unusedVariables false
set_option linter.unusedSimpArgs false

theorem TNum.p {t : Tr} (h : TNum t) : PNum t := ⟨h.1, h.2.1, h.2.2.1⟩
theorem twalk_num {t : Tr} {s : Sw} (h : twalk t = some s) : t.root = 0 ∨ tpage t.pages t.root ≠ none := by
  unfold twalk at h
  by_cases e : t.root = 0
  · exact .inl e
  · rw [if_neg e] at h
    refine .inr fun h1 => ?_
    rw [wk_none h1] at h
    cases h
theorem tprs_of {t : Tr} {s : Sw} (hp : PNum t) (h : twalk t = some s) (hl : s.prs.length ≤ 4096) : tprs t = some s.prs := by
  unfold tprs
  rw [if_pos (show TNum t from ⟨hp.1, hp.2.1, hp.2.2, twalk_num h⟩), h]
  simp [hl]
theorem tprs_no {t : Tr} (h : ¬ PNum t) : tprs t = none := by
  unfold tprs
  rw [if_neg fun h1 => h h1.p]
theorem tprs_no2 {t : Tr} (h : ∀ s, twalk t = some s → 4096 < s.prs.length) : tprs t = none := by
  unfold tprs
  split
  · cases hw : twalk t with
    | none => rfl
    | some s =>
      have := h s hw
      simp [show ¬ s.prs.length ≤ 4096 by omega]
  · rfl
/-- what walkOf answers -/
def WofR (w w' : World) (t : Tr) (pv : Value) (e : Ending) : Prop :=
  (∃ g bm B s m, e = .returned (.tuple #[.pointer (some ⟨g, 0, none⟩), .int .i64 0]) ∧ PNum t ∧ twalk t = some s ∧ s.prs.length ≤ 4096 ∧ PWk w w' B g bm t pv s m ∧ B ≤ w'.heap.size) ∨
  (e = .returned (.tuple #[.pointer none, .int .i64 9]) ∧ tprs t = none ∧ Below w.heap.size w w')
set_option maxRecDepth 100000 in
set_option maxHeartbeats 2000000 in
theorem pwalkof_any (w : World) (t : Tr) (pv : Value) (h : RdC w pv t.pages) (hroot : (Lit.int .i64 t.root).wf = true) : Calls Try.prog 29 #[tv t pv] w fun e w' => WofR w w' t pv e := by
  have hmm := @run_makeMap Try.prog
  obtain ⟨root, next, ps⟩ := t
  obtain ⟨a, c, rfl⟩ := h.slice
  obtain ⟨W, hW, DW, bW, sW⟩ := boxedN w #[.int .i64 root, .int .i64 next, .slice a ps.length c] 26
  obtain ⟨⟨D0, D1, D2⟩, _⟩ := cells3p DW
  dsimp only [tv] at *
  obtain ⟨M, hM⟩ : ∃ M, M = W.alloc (.map #[] 0) := ⟨_, rfl⟩
  have sM : M.heap.size = w.heap.size + 1 + 1 := by rw [hM]; simp [sW]
  have bM : Below W.heap.size W M := by rw [hM]; exact (Below.refl _ _).alloc (Nat.le_refl _) _
  obtain ⟨X, hX, DX, bX, sX⟩ := boxedN M #[.int .i64 root, .int .i64 next, .slice a ps.length c, .map (some (w.heap.size + 1)), .int .i64 0, .int .i64 0] 92
  have mI : MapI M (w.heap.size + 1) 0 fun _ => none := by rw [hM, ← sW]; exact MapI.made W
  have bw := bW.trans ((bM.mono bW.size).trans (bX.mono (by omega)))
  have P0 : PWk w X (w.heap.size + 1 + 1 + 1) (w.heap.size + 1 + 1) (w.heap.size + 1) ⟨root, next, ps⟩ (.slice a ps.length c) ⟨[], none, []⟩ (fun _ => none) :=
    ⟨by rw [← sM]; exact DX, mI.kept (bX.block _ mI.lt), (fun i => by simp), (fun i v hv => by cases hv), h, ⟨List.nodup_nil, (fun i hi => by cases hi), Nat.zero_le _⟩, by simp, bw, by omega, by omega⟩
  have KN := hide (pnumd_any X (.slice a ps.length c) ⟨root, next, ps⟩ (h.to0 bw))
  obtain ⟨⟨C0, C1, C2, C3⟩, ⟨C4, C5⟩, CF⟩ := P0.cell
  dsimp only [tv] at KN C0 C1 C2 C3 C4 C5
  rw [hW] at D0 D1 D2
  have HP := hide P0
  rw [hX, hM, hW] at KN C0 C1 C2 C3 C4 C5 CF
  clear h DW bW DX bX bM mI bw P0
  go_enter Try.func29, Try.ntmps29
  go_wp2_with fail
  refine KN.out.mono ?_
  rintro e w1 ⟨R, rfl, hR, b1⟩
  rw [← hW, ← hM, ← hX] at b1
  clear KN C0 C1 C2 C3 C4 C5 CF D0 D1 D2
  replace hX := hide hX
  replace hM := hide hM
  replace hW := hide hW
  have P1 := HP.out.to b1
  have hBs : Hid (w.heap.size + 1 + 1 + 1 ≤ w1.heap.size) := by have := b1.size; show _ ≤ _; omega
  obtain ⟨⟨C0, C1, C2, C3⟩, ⟨C4, C5⟩, CF⟩ := P1.cell
  dsimp only at C0 C1 C2 C3 C4 C5
  clear HP b1
  cases R with
  | false =>
    have hz : Hid (tprs ⟨root, next, ps⟩ = none) := tprs_no fun h => by have := hR.2 h; cases this
    have PB := hide P1.bel
    clear hR P1
    go_wp2
    go_ret2
    exact .inr ⟨rfl, hz.out, PB.out⟩
  | true =>
    have hp : Hid (PNum ⟨root, next, ps⟩) := hR.1 rfl
    have HP1 := hide P1
    have KR := hide (preach_any w ⟨root, next, ps⟩ (.slice a ps.length c) (w.heap.size + 1 + 1 + 1) (w.heap.size + 1 + 1) (w.heap.size + 1) ⟨hp.out.1, hp.out.2.1⟩ hp.out.2.2 16 (Nat.le_refl _) w1 _ _ root [] none P1 (Nat.zero_le _) hBs.out (fun h => by cases h) hroot)
    rw [show (17 - ((16 : Nat) : Int)) = 1 from rfl] at KR
    replace hroot := hide hroot
    clear hR P1
    by_cases r0 : root = 0
    · have hr : Hid (twalk ⟨root, next, ps⟩ = some ⟨[], none, []⟩) := by show _ = _; unfold twalk; rw [if_pos r0]
      have r1 : (root != 0) = false := by simp [r0]
      replace r0 := hide r0
      go_wp2
      go_ret2
      exact .inl ⟨_, _, _, _, _, rfl, hp.out, hr.out, Nat.zero_le _, HP1.out, hBs.out⟩
    · have hr : Hid (twalk ⟨root, next, ps⟩ = wk ps 16 root [] none ⟨[], none, []⟩) := by show _ = _; unfold twalk; rw [if_neg r0]
      have r1 : (root != 0) = true := by simp [r0]
      replace r0 := hide r0
      go_wp2_with fail
      refine KR.out.mono ?_
      rintro e w7 ⟨R7, rfl, k7, h7⟩
      clear KR
      cases R7 with
      | true =>
        obtain ⟨s', m', q1, q2, q3⟩ : ∃ s' m', wk ps 16 root [] none ⟨[], none, []⟩ = some s' ∧ s'.prs.length ≤ 4096 ∧ PWk w w7 (w.heap.size + 1 + 1 + 1) (w.heap.size + 1 + 1) (w.heap.size + 1) ⟨root, next, ps⟩ (.slice a ps.length c) s' m' := by
          rcases h7 with ⟨_, p⟩ | ⟨p, _⟩
          · exact p
          · cases p
        have Q := hide (And.intro (hr.out.trans q1) (And.intro q2 (And.intro q3 (Nat.le_trans hBs.out k7.2.1))))
        clear h7 k7 q1 q2 q3
        go_wp2
        go_ret2
        exact .inl ⟨_, _, _, _, _, rfl, hp.out, Q.out.1, Q.out.2.1, Q.out.2.2.1, Q.out.2.2.2⟩
      | false =>
        have hz : Hid (tprs ⟨root, next, ps⟩ = none) := tprs_no2 fun s hs => by
          rw [hr.out] at hs
          rcases h7 with ⟨p, _⟩ | ⟨_, p⟩
          · cases p
          · exact p s hs
        have PB := hide (HP1.out.bel.trans (k7.2.2 w.heap.size (by omega) (by omega) HP1.out.bel.size))
        clear h7 k7
        go_wp2
        go_ret2
        exact .inr ⟨rfl, hz.out, PB.out⟩

set_option maxRecDepth 100000 in
set_option maxHeartbeats 2000000 in
theorem pcheck10_any (w : World) (t : Tr) (pv : Value) (h : RdC w pv t.pages) (hroot : (Lit.int .i64 t.root).wf = true) : Calls Try.prog 20 #[tv t pv] w fun e w' => e = .returned (.int .i64 (tcheck t)) ∧ Below w.heap.size w w' := by
  obtain ⟨W, hW, D, bW, sW⟩ := boxedN w #[.int .i64 t.root, .int .i64 t.next, pv] 26
  have KN := hide (pwalkof_any W t pv (h.to0 bW) hroot)
  obtain ⟨a, c, rfl⟩ := h.slice
  obtain ⟨⟨D0, D1, D2⟩, _⟩ := cells3p D
  have HB := hide bW
  rw [hW] at D0 D1 D2 KN
  dsimp only [tv] at KN ⊢
  clear h bW D sW hroot
  generalize t.root = root at *
  generalize t.next = next at *
  generalize t.pages.length = L at *
  go_enter Try.func20, Try.ntmps20
  go_wp2_with fail
  refine KN.out.mono ?_
  rintro e w1 hp
  rw [← hW] at hp
  rcases hp with ⟨g, bm, B, s, m, rfl, p1, p2, p3, p4, _⟩ | ⟨rfl, p1, p2⟩
  · have hc : Hid (tcheck t = 0) := by show _ = _; unfold tcheck; rw [tprs_of p1 p2 p3]
    have B1 := hide (HB.out.trans (p4.bel.mono HB.out.size))
    clear p1 p2 p3 p4 KN HB hW D0 D1 D2
    go_wp2
    go_ret
    exact ⟨ret_i9 hc.out.symm, B1.out⟩
  · have hc : Hid (tcheck t = 9) := by show _ = _; unfold tcheck; rw [p1]
    have B1 := hide (HB.out.trans (p2.mono HB.out.size))
    clear p1 p2 KN HB hW D0 D1 D2
    go_wp2
    go_ret
    exact ⟨ret_i9 hc.out.symm, B1.out⟩

/-- what walkFor answers -/
def WforR (w w' : World) (t : Tr) (pv : Value) (k : Str) (e : Ending) : Prop :=
  (∃ g bm B s m, e = .returned (.tuple #[.pointer (some ⟨g, 0, none⟩), .int .i64 0]) ∧ tkey k = true ∧ PNum t ∧ twalk t = some s ∧ s.prs.length ≤ 4096 ∧ PWk w w' B g bm t pv s m ∧ B ≤ w'.heap.size) ∨
  (∃ err, e = .returned (.tuple #[.pointer none, .int .i64 err]) ∧ ((tprs t = none ∧ err = 9) ∨ (∃ l, tprs t = some l ∧ tkey k = false ∧ err = 91)) ∧ Below w.heap.size w w')
theorem PWk.from {w0 w v : World} {B g bm : Nat} {t : Tr} {pv : Value} {s : Sw} {m : Int → Option Value} (h : PWk w0 w B g bm t pv s m) (hb : Below v.heap.size v w0) (hr : RdC v pv t.pages) : PWk v w B g bm t pv s m :=
  ⟨h.box, h.map, h.has, h.nds, hr, h.ok, h.dep, hb.trans (h.bel.mono hb.size), ⟨Nat.le_trans hb.size h.hg.1, h.hg.2⟩, ⟨Nat.le_trans hb.size h.hm.1, h.hm.2⟩⟩
set_option maxRecDepth 100000 in
set_option maxHeartbeats 2000000 in
theorem pwalkfor_any (w : World) (t : Tr) (pv : Value) (k : Str) (hk : k.length ≤ 9223372036854775807) (h : RdC w pv t.pages) (hroot : (Lit.int .i64 t.root).wf = true) : Calls Try.prog 34 #[tv t pv, st k] w fun e w' => WforR w w' t pv k e := by
  obtain ⟨W, hW, D, bW, sW⟩ := boxedN w #[.int .i64 t.root, .int .i64 t.next, pv] 26
  have KN := hide (pwalkof_any W t pv (h.to0 bW) hroot)
  have HH := hide h
  obtain ⟨a, c, rfl⟩ := h.slice
  obtain ⟨⟨D0, D1, D2⟩, _⟩ := cells3p D
  have HB := hide bW
  rw [hW] at D0 D1 D2 KN
  dsimp only [tv] at KN ⊢
  clear h bW D sW hroot
  go_enter Try.func34, Try.ntmps34
  go_wp2_with fail
  refine KN.out.mono ?_
  rintro e w1 hp
  rw [← hW] at hp
  rcases hp with ⟨g, bm, B, s, m, rfl, p1, p2, p3, p4, p5⟩ | ⟨rfl, p1, p2⟩
  · have ht : Hid (tprs t = some s.prs) := tprs_of p1 p2 p3
    have P4 := hide (p4.from HB.out HH.out)
    have QQ := hide (And.intro p1 (And.intro p2 (And.intro p3 p5)))
    have hkd : Hid (tkey k = decide (1 ≤ k.length ∧ k.length ≤ 32)) := (rfl : _ = _)
    clear p1 p2 p3 p4 p5 KN hW D0 D1 D2
    by_cases c1 : (k.length : Int) < 1
    · have hz : Hid (tkey k = false) := by show _ = _; rw [hkd.out]; exact decide_eq_false (by omega)
      go_wp2
      go_ret2
      exact .inr ⟨_, rfl, .inr ⟨_, ht.out, hz.out, rfl⟩, P4.out.bel⟩
    · by_cases c2 : (k.length : Int) > 32
      · have hz : Hid (tkey k = false) := by show _ = _; rw [hkd.out]; exact decide_eq_false (by omega)
        go_wp2
        go_ret2
        exact .inr ⟨_, rfl, .inr ⟨_, ht.out, hz.out, rfl⟩, P4.out.bel⟩
      · have hz : Hid (tkey k = true) := by show _ = _; rw [hkd.out]; exact decide_eq_true (by omega)
        go_wp2
        go_ret2
        exact .inl ⟨_, _, _, _, _, rfl, hz.out, QQ.out.1, QQ.out.2.1, QQ.out.2.2.1, P4.out, QQ.out.2.2.2⟩
  · have B1 := hide (HB.out.trans (p2.mono HB.out.size))
    replace p1 := hide p1
    clear p2 KN HB hW D0 D1 D2
    go_wp2
    go_ret2
    exact .inr ⟨_, rfl, .inl ⟨p1.out, rfl⟩, B1.out⟩

end Go.Proofs.Ytgmkknonnidgaaa
