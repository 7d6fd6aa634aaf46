/- Several texts in one. -/
import Derived.Test.YtgmkknonnidgaaaShp
import Derived.Test.YtgmkknonnidgaaaDMath
import Derived.Test.YtgmkknonnidgaaaOwn
import Derived.Laws.IdiomStrings
import Derived.Lib.SliceRun
import Derived.Test.YtgmkknonnidgaaaBx
import Derived.Test.YtgmkknonnidgaaaApp
import Derived.Deep.QuietTactic
import Derived.BigQuiet
import Derived.Laws.Cover1
import Derived.OwnWalkIn
import Derived.Deep.CutRange
import Derived.Test.YtgmkknonnidgaaaMergeI
import Derived.Test.YtgmkknonnidgaaaStep
import Derived.Test.YtgmkknonnidgaaaRMid
import Derived.Test.YtgmkknonnidgaaaTail
/-
  Rows told apart by their types: what is kept where a row of another type, or a box, is written.
-/
namespace Go.Proofs.Ytgmkknonnidgaaa
open Go.RowKit
set_option linter.unusedVariables false

/-- each block of the type e is kept -/
def KeepT (e : Nat) (w w' : World) : Prop := ∀ (b : Nat) (cur : Array Value) (fr : Nat × Nat), w.heap[b]? = some (Obj.cells cur e fr) → w'.heap[b]? = some (Obj.cells cur e fr)
theorem KeepT.refl (e : Nat) (w : World) : KeepT e w w := fun _ _ _ h => h
theorem KeepT.trans {e : Nat} {a b c : World} (h : KeepT e a b) (k : KeepT e b c) : KeepT e a c := fun i cur fr x => k i cur fr (h i cur fr x)
theorem KeepT.below {e : Nat} {w w' : World} (h : Below w.heap.size w w') : KeepT e w w' := fun b cur fr x => (h.block b (lt_of_block x)).trans x
theorem KeepT.grown {e e' B s n : Nat} {w w' : World} {v : Value} {xs : List Value} (hr : w.ownsRow B e' s v n xs) (hg : w.grownBy w' v.ownBlock) (hne : e ≠ e') : KeepT e w w' := fun b cur fr x => by
  refine (hg.block b (lt_of_block x) fun h => ?_).trans x
  rcases hr.2 with ⟨rfl, _⟩ | ⟨g, cap, cur', rfl, _, hg', _⟩
  · cases h
  · simp only [Value.ownBlock, Option.some.injEq] at h
    subst h
    rw [x] at hg'
    simp only [Option.some.injEq, Obj.cells.injEq] at hg'
    exact hne hg'.2.1
theorem KeepT.set {e t : Nat} {w : World} {a : Addr} {cs : Array Value} {fr : Nat × Nat} (h : w.heap[a.block]? = some (.cells cs t fr)) (hne : e ≠ t) (u : Value) : KeepT e w (w.setCell a u) := fun b cur fr' x => by
  refine (Below.heap_setCell _ _ _ _ fun h' => ?_).trans x
  rw [h', h] at x
  simp only [Option.some.injEq, Obj.cells.injEq] at x
  exact hne x.2.1.symm
theorem rows_keepT {w w' : World} {B e s n : Nat} {v : Value} {xs : List Value} (h : w.ownsRow B e s v n xs) (k : KeepT e w w') : w'.ownsRow B e s v n xs := by
  refine ⟨h.1, ?_⟩
  rcases h.2 with hn | ⟨g, cap, cur, hv, hgb, hg, r⟩
  · exact .inl hn
  · exact .inr ⟨g, cap, cur, hv, hgb, k _ _ _ hg, r⟩
theorem rows_lt {w : World} {B e s n : Nat} {v : Value} {xs : List Value} (h : w.ownsRow B e s v n xs) : ∀ k, v.ownBlock = some k → k < w.heap.size := by
  intro k hk
  rcases h.2 with ⟨rfl, _⟩ | ⟨g, cap, cur, rfl, hb, hg, _⟩
  · cases hk
  · simp only [Value.ownBlock, Option.some.injEq] at hk
    subst hk
    exact lt_of_block hg
/-- a cell of a block -/
theorem cellN {w : World} {g : Nat} {cs : Array Value} {t : TypeId} (h : w.heap[g]? = some (.cells cs t (0, 0))) {i : Nat} {v : Value} (hv : cs[i]? = some v) : w.cell? ⟨g, i, none⟩ = some v := by
  rw [cell_of_row _ _ i _ _ (0, 0) h]; exact hv
theorem frozN {w : World} {g : Nat} {cs : Array Value} {t : TypeId} (h : w.heap[g]? = some (.cells cs t (0, 0))) (i : Nat) : w.frozen? ⟨g, i, none⟩ = false := by simp [World.frozen?, h]
theorem heap_setN {u : World} {g : Nat} {cs : Array Value} {t : TypeId} {fr : Nat × Nat} (h : u.heap[g]? = some (.cells cs t fr)) (i : Nat) (x : Value) : (u.setCell ⟨g, i, none⟩ x).heap[g]? = some (.cells (cs.setIfInBounds i x) t fr) := by
  simp [World.setCell, Array.getElem?_modify, h]

end Go.Proofs.Ytgmkknonnidgaaa

/-
  Lists of numbers with octets, of the call's own (OwnW): read, kept, appended to.
-/
namespace Go.Proofs.Ytgmkknonnidgaaa
open Go.RowKit
set_option linter.unusedVariables false

/-- the cells of a list of segments, their data at 'svs' -/
def wcells : List Wrt → List Value → List Value
  | f :: fs, sv :: svs => .int .i64 f.1 :: sv :: wcells fs svs
  | _, _ => []
theorem wcells_snoc : ∀ (fs : List Wrt) (svs : List Value) (f : Wrt) (sv : Value), svs.length = fs.length → wcells (fs ++ [f]) (svs ++ [sv]) = wcells fs svs ++ [.int .i64 f.1, sv]
  | [], svs, f, sv, h => by
    have : svs = [] := List.eq_nil_of_length_eq_zero (by simpa using h)
    subst this; rfl
  | g :: fs, [], f, sv, h => by simp at h
  | g :: fs, s :: svs, f, sv, h => by
    have := wcells_snoc fs svs f sv (by simpa using h)
    simp only [List.cons_append, wcells, this]
theorem wcells_at : ∀ (fs : List Wrt) (svs : List Value) (i : Nat), svs.length = fs.length → i < fs.length →
    (wcells fs svs)[i * 2]? = some (.int .i64 (fs.getD i (0, [])).1) ∧ (wcells fs svs)[i * 2 + 1]? = some (svs.getD i undef)
  | [], _, i, _, hi => by simp at hi
  | f :: fs, [], i, h, hi => by simp at h
  | f :: fs, sv :: svs, 0, h, hi => by simp [wcells]
  | f :: fs, sv :: svs, i + 1, h, hi => by
    have := wcells_at fs svs i (by simpa using h) (by simpa using hi)
    rw [show (i + 1) * 2 = i * 2 + 1 + 1 from by omega, show i * 2 + 1 + 1 + 1 = (i * 2 + 1) + 1 + 1 from rfl]
    simpa [wcells] using this
def OwnW (T B : Nat) (w : World) (v : Value) (ws : List Wrt) : Prop :=
  ∃ svs : List Value, svs.length = ws.length ∧ w.ownsRow B T 2 v ws.length (wcells ws svs) ∧ ∀ i, i < ws.length → OwnB 0 w (svs.getD i undef) (ws.getD i (0, [])).2
theorem OwnW.nil (T B : Nat) (w : World) : OwnW T B w (.slice none 0 0) [] := ⟨[], rfl, World.ownsRow_nil _ _ _ _, fun i hi => by simp at hi⟩
theorem OwnW.keepT {T B : Nat} {w w' : World} {v : Value} {ws : List Wrt} (h : OwnW T B w v ws) (k1 : KeepT 5 w w') (k2 : KeepT T w w') : OwnW T B w' v ws := by
  obtain ⟨vs, h1, h2, h3⟩ := h
  exact ⟨vs, h1, rows_keepT h2 k2, fun i hi => rows_keepT (h3 i hi) k1⟩
theorem OwnW.snoc {T B : Nat} {w w' : World} {v v' : Value} {ws : List Wrt} {f : Wrt} {sv : Value} (hT : T ≠ 5) {svs : List Value} (h1 : svs.length = ws.length) (h2 : w.ownsRow B T 2 v ws.length (wcells ws svs))
    (h3 : ∀ i, i < ws.length → OwnB 0 w (svs.getD i undef) (ws.getD i (0, [])).2) (hs : OwnB 0 w sv f.2)
    (hg : w.grownBy w' v.ownBlock) (hw : w'.ownsRow B T 2 v' (ws.length + 1) (wcells ws svs ++ [.int .i64 f.1, sv])) : OwnW T B w' v' (ws ++ [f]) := by
  refine ⟨svs ++ [sv], by simp [h1], ?_, ?_⟩
  · rw [wcells_snoc ws svs f sv h1, List.length_append]
    exact hw
  · intro i hi
    simp only [List.length_append, List.length_cons, List.length_nil] at hi
    by_cases hlt : i < ws.length
    · have e1 : (svs ++ [sv]).getD i undef = svs.getD i undef := by simp [List.getD_eq_getElem?_getD, List.getElem?_append_left (show i < svs.length by omega)]
      have e2 : (ws ++ [f]).getD i (0, []) = ws.getD i (0, []) := by simp [List.getD_eq_getElem?_getD, List.getElem?_append_left hlt]
      rw [e1, e2]
      exact rows_keepT (h3 i hlt) (KeepT.grown h2 hg (Ne.symm hT))
    · obtain rfl : i = ws.length := by omega
      have e1 : (svs ++ [sv]).getD ws.length undef = sv := by rw [← h1]; simp [List.getD_eq_getElem?_getD]
      have e2 : (ws ++ [f]).getD ws.length (0, []) = f := by simp [List.getD_eq_getElem?_getD]
      rw [e1, e2]
      exact rows_keepT hs (KeepT.grown h2 hg (Ne.symm hT))
theorem OwnW.rd {T B : Nat} {w : World} {v : Value} {ws : List Wrt} (h : OwnW T B w v ws) : RdC w v ws := by
  obtain ⟨svs, h1, h2, h3⟩ := h
  rcases h2.2 with ⟨rfl, h0⟩ | ⟨g, cap, cur, rfl, hgb, hg, hn, hm, hs, ht⟩
  · have : ws = [] := List.eq_nil_of_length_eq_zero h0
    subst this
    exact RdS.nil _ _
  · refine ⟨_, cap, rfl, hn, hm, (fun h => by cases h), .inr ⟨g, 0, rfl, fun i x hx => ?_⟩⟩
    have hi : i < ws.length := (List.getElem?_eq_some_iff.1 hx).1
    obtain ⟨c1, c2⟩ := wcells_at ws svs i h1 hi
    have hr := (h3 i hi).rd
    rw [getD_some hx] at c1 hr
    refine ⟨[.int .i64 x.1, svs.getD i undef], ⟨[_], [_], rfl, rfl, _, rfl, hr⟩, fun j u hj => ?_⟩
    match j, hj with
    | 0, hj =>
      simp only [List.getElem?_cons_zero, Option.some.injEq] at hj
      subst hj
      show w.cell? ⟨g, 0 + i * 2 + 0, none⟩ = _
      rw [Nat.zero_add, Nat.add_zero, h2.cellAt (i * 2) (by omega)]; exact c1
    | 1, hj =>
      simp only [List.getElem?_cons_succ, List.getElem?_cons_zero, Option.some.injEq] at hj
      subst hj
      show w.cell? ⟨g, 0 + i * 2 + 1, none⟩ = _
      rw [Nat.zero_add, h2.cellAt (i * 2 + 1) (by omega)]; exact c2
    | j + 2, hj => simp at hj

end Go.Proofs.Ytgmkknonnidgaaa

/-
  bytes.Equal and bytes.Clone. General.
-/
namespace Go.Proofs.Ytgmkknonnidgaaa
open Go.RowKit
set_option linter.unusedVariables false

/-- string(b) of octets that have a place, even of none -/
theorem conv_at {w : World} {b o c n : Nat} {xs : List UInt8} (hn : xs.length = n) (h : Rd w (.slice (some ⟨b, o, none⟩) n c) xs) : (convert 41 9 (.slice (some ⟨b, o, none⟩) n c)).run Try.prog w = .ok (.string ⟨xs.toArray⟩) w := by
  subst hn
  obtain ⟨ao, cap, e, h1, h2, h3, h4⟩ := h
  simp only [Value.slice.injEq, true_and] at e
  obtain ⟨rfl, rfl⟩ := e
  refine run_convert_bytes_back w 41 9 5 ⟨b, o, none⟩ c xs Try.underlying41 Try.underlying5 Try.underlying9 fun j hj => ?_
  rcases h4 with h4 | ⟨b', off, e, hc⟩
  · subst h4; simp at hj
  · simp only [Option.some.injEq, Addr.mk.injEq, and_true] at e
    obtain ⟨rfl, rfl⟩ := e
    have := hc j hj
    rw [show (⟨b, o, none⟩ : Addr).add j = ⟨b, o + j, none⟩ by simp [Addr.add], this]
    unfold bt
    simp [List.getD_eq_getElem?_getD, hj]
set_option maxRecDepth 100000 in
theorem bclone_at (w : World) (b o n c : Nat) (xs : List UInt8) (h : Rd w (.slice (some ⟨b, o, none⟩) n c) xs) (hm : xs.length ≤ 140737488351232) :
    Calls Try.prog 56 #[.slice (some ⟨b, o, none⟩) n c] w fun e w' => ∃ v', e = .returned v' ∧ OwnB w.heap.size w' v' xs ∧ Below w.heap.size w w' := by
  obtain ⟨X, hX⟩ : ∃ u, u = w.alloc (.cells #[] 5) := ⟨_, rfl⟩
  have oX : OwnB w.heap.size X (.slice (some ⟨w.heap.size, 0, none⟩) 0 0) [] := by rw [hX]; exact own_lit w [] (by decide)
  have bX : Below w.heap.size w X := by rw [hX]; exact (Below.refl _ _).alloc (Nat.le_refl _) _
  have rX := h.to bX
  have hl : ([] : List UInt8).length + xs.length ≤ 140737488355328 := by simp; omega
  have hsz := bX.size
  have hnil : (binOp .eql 41 (.slice (some ⟨b, o, none⟩) n c) (.slice none 0 0)).run Try.prog w = .ok (.bool false) w := Lib.run_eql_slice_nil w 41 5 _ n c 0 0 Try.underlying41
  clear h
  go_enter Try.func56, Try.ntmps56
  go_wp2_with (at_builtin; rw [← hX]; refine wpList_append_octs rfl _ _ rfl w.heap.size _ _ _ _ rfl rfl oX rX hl hsz ?_; intro v6 w6 o6 b6 _)
  go_ret
  exact ⟨_, rfl, by simpa using o6, bX.trans b6⟩

end Go.Proofs.Ytgmkknonnidgaaa

/-
  The program's copied, New.
-/
namespace Go.Proofs.Ytgmkknonnidgaaa
open Go.RowKit
set_option linter.unusedVariables false
set_option linter.unusedSimpArgs false

abbrev OwnPg (B : Nat) (w : World) (v : Value) (ws : List Wrt) : Prop := OwnW 43 B w v ws
theorem infoPg : (Try.prog.info? 43).map (fun i => (i.zero, i.size, i.bytes)) = some (some (.agg #[.int .i64 0, .slice none 0 0]), 2, 32) := by kernel_rfl
theorem OwnW.shape {T B : Nat} {w : World} {v : Value} {ws : List Wrt} (h : OwnW T B w v ws) : ∃ a c, v = .slice a ws.length c := by
  obtain ⟨svs, h1, h2, h3⟩ := h
  rcases h2.2 with ⟨rfl, e⟩ | ⟨g, cap, cur, rfl, _⟩
  · exact ⟨none, 0, by rw [e]⟩
  · exact ⟨_, _, rfl⟩
theorem OwnW.to9 {T B : Nat} {w w' : World} {v : Value} {ws : List Wrt} (h : OwnW T B w v ws) (b : Below w.heap.size w w') : OwnW T B w' v ws := h.keepT (KeepT.below b) (KeepT.below b)
/-- a page is appended -/
theorem wpList_appPg {ops : Array Oper} {rest : List Oper} {o : Oper} {a : Act} {w : World} {Q : Exit → Act → World → Prop} (hgd : o.guard = none) (s x : Operand)
    (ho : o.op = .call { callee := .builtin .append, args := #[s, x], argTypes := #[24, 24] }) (B : Nat) (v : Value) (ws : List Wrt) (f : Wrt) (sv : Value) (g : Nat) (hs : a.eval s = v) (hx : a.eval x = .slice (some ⟨g, 0, none⟩) 1 1)
    (hown : OwnPg B w v ws) (hsv : OwnB 0 w sv f.2) (hone : sv.oneCell' = true) (hc1 : w.cell? ⟨g, 0, none⟩ = some (.int .i64 f.1)) (hc2 : w.cell? ⟨g, 1, none⟩ = some sv) (hlen : (ws.length + 1) * 32 ≤ 140737488355328) (hB : B ≤ w.heap.size)
    (h : ∀ v' w', OwnPg B w' v' (ws ++ [f]) → w.grownBy w' v.ownBlock → Below B w w' → (∀ e, e ≠ 43 → KeepT e w w') → wpList Try.prog ops Q rest (a.put o.dst v') w') : wpList Try.prog ops Q (o :: rest) a w := by
  obtain ⟨i0, hi, hz0, hz1, hz2⟩ := info_parts infoPg
  obtain ⟨svs, h1, h2, h3⟩ := hown
  have n2 : ∀ j u, [Value.int .i64 f.1, sv][j]? = some u → w.cell? ((⟨g, 0, none⟩ : Addr).add j) = some u := by
    intro j u hj
    match j, hj with
    | 0, hj => simp at hj; subst hj; simpa [Addr.add] using hc1
    | 1, hj => simp at hj; subst hj; simpa [Addr.add] using hc2
    | j + 2, hj => simp at hj
  refine wpList_append_own _ hgd s x 24 ho B 43 i0 (.agg #[.int .i64 0, .slice none 0 0]) 2 32 Try.underlying24 hi hz0 hz1 hz2 rfl (by decide) v ws.length (wcells ws svs) hs h2 ⟨g, 0, none⟩ 1 1 [.int .i64 f.1, sv] hx rfl n2
    (fun u hu => by simp at hu; rcases hu with rfl | rfl; rfl; exact hone) (by rw [show maxLen = 9223372036854775807 from rfl]; omega) hlen hB ?_
  intro v' w' q1 q2 _
  exact h v' w' (OwnW.snoc (by decide) h1 h2 h3 hsv q2 (by simpa using q1)) q2 ((Below.refl _ _).grown q2 hB (fun k hk => (World.ownsRow.lt h2 k hk).1)) (fun e he => KeepT.grown h2 q2 he)
set_option maxRecDepth 100000 in
theorem bclone10 (w : World) (v : Value) (xs : List UInt8) (h : Rd w v xs) (hm : xs.length ≤ 140737488351232) :
    Calls Try.prog 56 #[v] w fun e w' => ∃ v', e = .returned v' ∧ OwnB w.heap.size w' v' xs ∧ Below w.heap.size w w' := by
  have h' := h
  obtain ⟨ao, cap, rfl, h1, h2, h3, h4⟩ := h
  cases ao with
  | none =>
    have : xs = [] := by
      rcases h4 with h4 | ⟨b, off, e, _⟩
      · exact h4
      · cases e
    subst this
    obtain rfl : cap = 0 := h3 rfl
    clear h' h1 h2 h3 h4
    have hnil : (binOp .eql 41 (.slice none 0 0) (.slice none 0 0)).run Try.prog w = .ok (.bool true) w := Lib.run_eql_slice_nil w 41 5 _ 0 0 0 0 Try.underlying41
    go_enter Try.func56, Try.ntmps56
    go_wp2
    go_ret
    exact ⟨_, rfl, World.ownsRow_nil _ _ _ _, Below.refl _ _⟩
  | some ad =>
    rcases h4 with h4 | ⟨b, off, e, _⟩
    · subst h4
      obtain ⟨X, hX⟩ : ∃ u, u = w.alloc (.cells #[] 5) := ⟨_, rfl⟩
      have oX : OwnB w.heap.size X (.slice (some ⟨w.heap.size, 0, none⟩) 0 0) [] := by rw [hX]; exact own_lit w [] (by decide)
      have bX : Below w.heap.size w X := by rw [hX]; exact (Below.refl _ _).alloc (Nat.le_refl _) _
      have rX := h'.to bX
      have hl : ([] : List UInt8).length + ([] : List UInt8).length ≤ 140737488355328 := by simp
      have hsz := bX.size
      have hnil : (binOp .eql 41 (.slice (some ad) 0 cap) (.slice none 0 0)).run Try.prog w = .ok (.bool false) w := Lib.run_eql_slice_nil w 41 5 _ 0 cap 0 0 Try.underlying41
      clear h' h1 h2 h3
      go_enter Try.func56, Try.ntmps56
      go_wp2_with (at_builtin; rw [← hX]; refine wpList_append_octs rfl _ _ rfl w.heap.size _ _ _ _ rfl rfl oX rX hl hsz ?_; intro v6 w6 o6 b6 _)
      go_ret
      exact ⟨_, rfl, by simpa using o6, bX.trans b6⟩
    · simp only [Option.some.injEq] at e
      subst e
      exact bclone_at w b off _ cap xs h' hm

theorem heap_set3t {u : World} {g : Nat} {a b c : Value} {t : TypeId} {fr : Nat × Nat} (h : u.heap[g]? = some (.cells #[a, b, c] t fr)) (x y z : Value) : (((u.setCell ⟨g, 0, none⟩ x).setCell ⟨g, 1, none⟩ y).setCell ⟨g, 2, none⟩ z).heap[g]? = some (.cells #[x, y, z] t fr) := by
  have := heap_setN (heap_setN (heap_setN h 0 x) 1 y) 2 z
  simpa using this
theorem below_set3t {B : Nat} {w u : World} (h : Below B w u) {g : Nat} (hg : B ≤ g) (x y z : Value) : Below B w (((u.setCell ⟨g, 0, none⟩ x).setCell ⟨g, 1, none⟩ y).setCell ⟨g, 2, none⟩ z) := ((h.setCell hg _).setCell hg _).setCell hg _
theorem s3_keep9 {g : Nat} {u : World} {a b c : Value} {T : TypeId} (h : u.heap[g]? = some (.cells #[a, b, c] T (0, 0))) (x y z : Value) {e : Nat} (he : e ≠ T) : KeepT e u (((u.setCell ⟨g, 0, none⟩ x).setCell ⟨g, 1, none⟩ y).setCell ⟨g, 2, none⟩ z) :=
  ((KeepT.set (a := ⟨g, 0, none⟩) h he x).trans (KeepT.set (a := ⟨g, 1, none⟩) (heap_setN h 0 x) he y)).trans (KeepT.set (a := ⟨g, 2, none⟩) (heap_setN (heap_setN h 0 x) 1 y) he z)
theorem wpList_make_run9 {P : Program} (w : World) {ops : Array Oper} {rest : List Oper} {o : Oper} {a : Act} {Q : Exit → Act → World → Prop} (hg : o.guard = none) (l c : Operand) (t : TypeId) (hop : o.op = Op.makeSlice t l c)
    (kl kc : IntKind) (C : Int) (n : Nat) (hl : a.eval l = .int kl 0) (hc : a.eval c = .int kc C) (hC : C = (n : Int)) (v : Value) (w' : World) (hr : (Instr.makeSlice t (.int kl 0) (.int kc (n : Int))).run P w = .ok v w') (h : wpList P ops Q rest (a.put o.dst v) w') : wpList P ops Q (o :: rest) a w := by
  refine wpList_plain hg fun K hK' => ?_
  subst hC
  unfold Oper.wp
  simp [execOp, hop, hl, hc, hr, Result.andThen]
  exact hK' _ _ h
theorem info_tr : (Try.prog.info? 26).map (·.size) = some 3 := by kernel_rfl
theorem take_snoc9 {l : List Wrt} {k : Nat} {y : Wrt} (h : l[k]? = some y) : l.take (k + 1) = l.take k ++ [y] := by rw [List.take_add_one, h]; rfl
theorem cellAl9 {w : World} {b i : Nat} {v : Value} (h : w.cell? ⟨b, i, none⟩ = some v) (o : Obj) : (w.alloc o).cell? ⟨b, i, none⟩ = some v :=
  (((Below.refl w.heap.size w).alloc (Nat.le_refl _) o).cell (p := ⟨b, i, none⟩) (cell_lt h)).trans h
set_option maxRecDepth 100000 in
set_option maxHeartbeats 4000000 in
theorem pcopied_any (w : World) (t : Tr) (pv : Value) (h : RdC w pv t.pages) (hl : t.pages.length ≤ 65536) (hx : ∀ x ∈ t.pages, x.2.length ≤ 140737488351232) :
    Calls Try.prog 39 #[tv t pv] w fun e w' => ∃ pv', e = .returned (tv t pv') ∧ OwnPg w.heap.size w' pv' t.pages ∧ Below w.heap.size w w' := by
  obtain ⟨j0, ji, jz0, jz1, jz2⟩ := info_parts infoPg
  obtain ⟨root, next, ps⟩ := t
  obtain ⟨a, c, rfl⟩ := h.slice
  dsimp only [tv] at *
  obtain ⟨W, hW, DW, bW, sW⟩ := boxedN w #[.int .i64 root, .int .i64 next, .slice a ps.length c] 26
  obtain ⟨X, hX, DX, bX, sX⟩ := boxedN W #[.int .i64 0, .int .i64 0, .slice none 0 0] 26
  obtain ⟨w1, hmk, own1, gr1⟩ := run_make_own (P := Try.prog) X X.heap.size 24 43 j0 _ 2 Try.underlying24 ji jz0 jz1 .i64 .i64 ps.length (by rw [jz2]; omega) (by unfold maxLen; omega) (Nat.le_refl _)
  have b1 : Below X.heap.size X w1 := (Below.refl _ _).grown gr1 (Nat.le_refl _) (fun k h => by cases h)
  have bWX := bW.trans (bX.mono bW.size)
  have D1 := (b1.block _ (by rw [sX, sW]; omega)).trans ((bX.block _ (lt_of_block DW)).trans DW)
  have X1 := (b1.block _ (lt_of_block DX)).trans DX
  have O1 : OwnPg X.heap.size w1 (.slice (some ⟨X.heap.size, 0, none⟩) 0 ps.length) [] := ⟨[], rfl, own1, fun i hi => by simp at hi⟩
  obtain ⟨⟨E0, E1, E2⟩, EF⟩ := cells3p ((bX.block _ (lt_of_block DW)).trans DW)
  obtain ⟨⟨F0, F1, F2⟩, FF⟩ := cells3p D1
  have HH := hide h
  have HX := hide bWX
  have hBX := hide ((bX.block _ (lt_of_block DW)).trans DW)
  have hRX := hide DX
  have hsl : (Value.slice (some ⟨X.heap.size, 0, none⟩) 0 ps.length) = .slice (some ⟨w.heap.size + 1 + 1, 0, none⟩) 0 ps.length := by rw [sX, sW]
  have HI : Hid (OwnPg X.heap.size w1 (.slice (some ⟨w.heap.size + 1 + 1, 0, none⟩) 0 ps.length) [] ∧ Below X.heap.size X w1) := by rw [← hsl]; exact ⟨O1, b1⟩
  have hsz : Hid (X.heap.size = w.heap.size + 1 + 1) := by show _ = _; rw [sX, sW]
  obtain ⟨L, hL⟩ : ∃ L, L = ps.length := ⟨_, rfl⟩
  rw [sW] at hRX
  rw [hX, hW] at hmk E0 E1 E2 EF
  clear h bW bX DW DX D1 X1 O1 own1 gr1 b1 bWX
  go_enter Try.func39, Try.ntmps39
  go_wp2_with (at_make; refine wpList_make_run9 _ rfl _ _ 24 rfl _ _ _ ps.length rfl rfl rfl _ _ hmk ?_)
  clear hmk E0 E1 E2 EF F0 F1 F2 FF
  replace hX := hide hX
  replace hW := hide hW
  go_loopw [3, 13] (fun o p wr => ∃ k : Nat, k ≤ ps.length ∧ p = .int .i64 k ∧ Hid (OwnPg X.heap.size wr o (ps.take k) ∧ Below X.heap.size X wr)) (fun _ p _ => ps.length - (intOf p).toNat)
  case atStart => exact ⟨0, Nat.zero_le _, rfl, HI⟩
  case round =>
    obtain ⟨k, hk, rfl, hI⟩ := hrel
    clear HI
    have BW := hide (HX.out.trans (hI.out.2.mono HX.out.size))
    by_cases hlt : k < ps.length
    · have hq : (k : Int) < (ps.length : Int) := by omega
      obtain ⟨y, hy⟩ : ∃ y, ps[k]? = some y := ⟨_, List.getElem?_eq_getElem hlt⟩
      have hxl := hx y (List.mem_of_getElem? hy)
      have hsn := hide (take_snoc9 hy)
      obtain ⟨b, off, u, e1, hc1, hc2, hr⟩ := HH.out.wrt hy
      subst e1
      obtain ⟨z, x⟩ := y
      dsimp only at hc1 hc2 hr hxl
      obtain ⟨au, cu, rfl⟩ := hr.slice
      replace hc1 := (BW.out.cell (cell_lt hc1)).trans hc1
      replace hc2 := (BW.out.cell (cell_lt hc2)).trans hc2
      obtain ⟨V, hV, DV, bV, sV⟩ := boxedN wr #[.int .i64 z, .slice au x.length cu] 43
      have VD := DV
      obtain ⟨⟨V0, V1⟩, _⟩ := cells2r DV
      have bVd : Below V.heap.size V V.drew := below_drewN' V 1 _
      have bwV := bV.trans (bVd.mono bV.size)
      have V0d := (bVd.cell (cell_lt V0)).trans V0
      have V1d := (bVd.cell (cell_lt V1)).trans V1
      have KC := hide (bclone10 V.drew _ x (hr.to (BW.out.trans (bwV.mono BW.out.size))) hxl)
      have II := hide (And.intro (hI.out.1.to9 bwV) (hI.out.2.trans (bwV.mono hI.out.2.size)))
      obtain ⟨oa, oc, ho⟩ := hI.out.1.shape
      rw [List.length_take, Nat.min_eq_left hk] at ho
      subst ho
      have hn : (k + 1) * 32 ≤ 140737488355328 := by omega
      have hlk : Hid ((ps.take k).length = k) := by show _ = _; rw [List.length_take, Nat.min_eq_left hk]
      obtain ⟨XL, hXL⟩ : ∃ XL, XL = x.length := ⟨_, rfl⟩
      rw [← hXL] at KC hV V1 V1d hc2
      replace hXL := hide hXL
      rw [hV] at V0 V1
      clear hr bwV bVd bV DV VD hI hy
      go_upto_region 5 with fail
      rw [← hV]
      replace hV := hide hV
      clear V0 V1 hc1 hc2
      refine wp_region_mid (fun w' => w'.cell? ⟨wr.heap.size, 0, none⟩ = some (.int .i64 z) ∧ w'.cell? ⟨wr.heap.size, 1, none⟩ = some (.slice au XL cu)) 5 8 mixed (by kernel_rfl) (fun _ _ _ _ h => h) ⟨V0d, V1d⟩ ?_
      dsimp only [List.take, List.drop]
      iterate 5
        refine take_one (v := ?_) (by rfl) ?_ ?_
        rotate_left
        · rintro w' ⟨s1, s2⟩
          go_simp
          try with_reducible rfl
        try simp only [Act.put, List.setIfInBounds_toArray, List.set_cons_zero, List.set_cons_succ]
      refine mid_one fun K hK => ?_
      refine step_call (by rfl) 56 _ _ (by rfl) #[.slice au XL cu] (by simp [Act.eval]) (Try.call56 _ _) KC.out ?_
      rintro e w2 ⟨v2, rfl, o2, b2⟩
      obtain ⟨va, vc, hv2⟩ := o2.rd.slice
      rw [← hXL.out] at hv2
      subst hv2
      have U0 := (b2.cell (cell_lt V0d)).trans V0d
      have U1 := (b2.cell (cell_lt V1d)).trans V1d
      refine ⟨_, rfl, hK _ _ ⟨U0, U1⟩ ?_⟩
      clear hK K
      have I2 := hide (And.intro (II.out.1.to9 b2) (II.out.2.trans (b2.mono II.out.2.size)))
      have O2 := hide o2
      clear b2 o2 KC V0d V1d II
      try simp only [Act.put, List.setIfInBounds_toArray, List.set_cons_zero, List.set_cons_succ]
      refine mid_one fun K hK => ?_
      rw [if_pos (by rfl)]
      go_simp
      refine hK _ _ ⟨U0, U1⟩ ?_
      clear hK K
      refine mid_one fun K hK => ?_
      rw [if_pos (by rfl)]
      go_simp
      refine hK _ _ ⟨cellAl9 U0 _, cellAl9 U1 _⟩ ?_
      clear hK K
      show wpList _ _ _ _ _ _
      obtain ⟨Z, hZ, DZ, bZ, sZ⟩ := boxedN w2 #[.int .i64 z, .slice va XL vc] 43
      obtain ⟨⟨Z0, Z1⟩, _⟩ := cells2r DZ
      have OZ : OwnPg X.heap.size Z (.slice oa k oc) (ps.take k) := I2.out.1.to9 bZ
      have SZ : OwnB 0 Z (.slice va XL vc) x := rows_to (rows_base O2.out fun _ _ => Nat.zero_le _) bZ
      have BZ := hide (I2.out.2.trans (bZ.mono I2.out.2.size))
      have hB : X.heap.size ≤ Z.heap.size := BZ.out.size
      rw [hZ] at Z0 Z1 OZ SZ hB
      refine wpList_appPg rfl _ _ rfl X.heap.size (.slice oa k oc) (ps.take k) (z, x) (.slice va XL vc) w2.heap.size rfl rfl OZ SZ rfl Z0 Z1 (by rw [hlk.out]; exact hn) hB ?_
      intro v5 w5 o5 g5 b5 _
      rw [← hZ] at b5
      rw [← hsn.out] at o5
      have I5 := hide (And.intro o5 (BZ.out.trans b5))
      clear o5 g5 b5 Z0 Z1 OZ SZ hB DZ bZ hZ I2 O2 U0 U1
      go_wp2
      go_roundw
      case rel => exact ⟨k + 1, by omega, by go_num, I5⟩
      case measure => simp [intOf]; omega
    · have hq : ¬ (k : Int) < (ps.length : Int) := by omega
      have htk : ps.take k = ps := List.take_of_length_le (by omega)
      rw [htk] at hI
      have D6 := (hI.out.2.block _ (lt_of_block hBX.out)).trans hBX.out
      have R6 := (hI.out.2.block _ (lt_of_block hRX.out)).trans hRX.out
      obtain ⟨⟨E0, E1, E2⟩, EF⟩ := cells3p D6
      obtain ⟨⟨F0, F1, F2⟩, FF⟩ := cells3p R6
      obtain ⟨oa, oc, ho⟩ := hI.out.1.shape
      subst ho
      have d0 := heap_setN D6 2 (.slice oa ps.length oc)
      have D7 : (wr.setCell ⟨w.heap.size, 2, none⟩ (.slice oa ps.length oc)).heap[w.heap.size]? = some (.cells #[.int .i64 root, .int .i64 next, .slice oa ps.length oc] 26 (0, 0)) := by simpa using d0
      have R7 : (wr.setCell ⟨w.heap.size, 2, none⟩ (.slice oa ps.length oc)).heap[w.heap.size + 1]? = _ := (Below.heap_setCell _ _ _ _ (show w.heap.size + 1 ≠ w.heap.size by omega)).trans R6
      obtain ⟨⟨G0, G1, G2⟩, GF⟩ := cells3p D7
      obtain ⟨⟨J0, J1, J2⟩, JF⟩ := cells3p R7
      have HR7 := hide R7
      have k1 : ∀ e, e ≠ 26 → KeepT e wr (((((wr.setCell ⟨w.heap.size, 2, none⟩ (.slice oa ps.length oc)).setCell ⟨w.heap.size + 1, 0, none⟩ (.int .i64 root)).setCell ⟨w.heap.size + 1, 1, none⟩ (.int .i64 next)).setCell ⟨w.heap.size + 1, 2, none⟩ (.slice oa ps.length oc))) := fun e he =>
        (KeepT.set (a := ⟨w.heap.size, 2, none⟩) D6 he _).trans (s3_keep9 R7 _ _ _ he)
      have OO := hide (hI.out.1.keepT (k1 _ (by decide)) (k1 _ (by decide)))
      have bb0 : Below w.heap.size w (wr.setCell ⟨w.heap.size, 2, none⟩ (.slice oa ps.length oc)) := BW.out.setCell (Nat.le_refl _) _
      have BB := hide (below_set3t bb0 (show w.heap.size ≤ w.heap.size + 1 by omega) (.int .i64 root) (.int .i64 next) (.slice oa ps.length oc))
      have hXw : Hid (w.heap.size ≤ X.heap.size) := HX.out.size
      clear D6 R6 D7 R7 d0 k1 hI bb0
      go_wp2
      refine retN rfl rfl (w.heap.size + 1) rfl _ _ (0, 0) (heap_set3t HR7.out _ _ _) _ Try.underlying26 rfl info_tr ?_
      refine ⟨_, rfl, ?_, BB.out⟩
      obtain ⟨svs, q1, q2, q3⟩ := OO.out
      exact ⟨svs, q1, rows_base q2 (fun b hb => Nat.le_trans hXw.out (World.ownsRow.lt q2 b hb).1), q3⟩

set_option maxRecDepth 100000 in
theorem pnew10_any (w : World) : Calls Try.prog 8 #[] w fun e w' => e = .returned (tv ⟨0, 1, []⟩ (.slice none 0 0)) ∧ Below w.heap.size w w' := by
  go_enter Try.func8, Try.ntmps8
  go_wp2
  refine retN rfl rfl w.heap.size rfl _ _ _ (heap_alloc_last w _) _ Try.underlying26 rfl info_tr ?_
  exact ⟨rfl, (Below.refl _ _).alloc (Nat.le_refl _) _⟩

end Go.Proofs.Ytgmkknonnidgaaa

/-
  The law's Of: a tree for the program, in memory of its own.
-/
namespace Go.Proofs.Ytgmkknonnidgaaa
open Go.RowKit
set_option linter.unusedVariables false
set_option linter.unusedSimpArgs false

set_option maxRecDepth 100000 in
set_option maxHeartbeats 4000000 in
theorem pof10_any (w : World) (t : Tr) (pv : Value) (h : RdC w pv t.pages) (hl : (t.pages.length + 1) * 32 ≤ 140737488355328) (hx : ∀ x ∈ t.pages, x.2.length ≤ 140737488351232) :
    Calls Try.prog 16 #[tv t pv] w fun e w' => ∃ pv', e = .returned (tv t pv') ∧ OwnPg w.heap.size w' pv' t.pages ∧ Below w.heap.size w w' := by
  obtain ⟨root, next, ps⟩ := t
  obtain ⟨a, c, rfl⟩ := h.slice
  dsimp only [tv] at *
  obtain ⟨W, hW, DW, bW, sW⟩ := boxedN w #[.int .i64 root, .int .i64 next, .slice a ps.length c] 50
  obtain ⟨X, hX, DX, bX, sX⟩ := boxedN W #[.int .i64 0, .int .i64 0, .slice none 0 0] 26
  obtain ⟨Y, hY, DY, bY, sY⟩ := boxedN X #[.int .i64 root, .int .i64 next, .slice none 0 0] 26
  have bWX := bW.trans (bX.mono bW.size)
  have bWY := bWX.trans (bY.mono bWX.size)
  have O1 : OwnPg Y.heap.size Y (.slice none 0 0) [] := ⟨[], rfl, World.ownsRow_nil _ _ _ _, fun i hi => by simp at hi⟩
  have D0 := (bX.block _ (lt_of_block DW)).trans DW
  obtain ⟨⟨E0, E1, E2⟩, EF⟩ := cells3p D0
  have D1 := (bY.block _ (lt_of_block D0)).trans D0
  have X1 := (bY.block _ (lt_of_block DX)).trans DX
  have HH := hide h
  have HY := hide bWY
  have hBX := hide D1
  have hRX := hide X1
  have hOX := hide DY
  rw [sW] at hRX
  rw [sX, sW] at hOX
  have hsz : Hid (Y.heap.size = w.heap.size + 1 + 1 + 1) := by show _ = _; rw [sY, sX, sW]
  have HI : Hid (OwnPg Y.heap.size Y (.slice none 0 0) (ps.take 0) ∧ Y.heap[w.heap.size + 1 + 1]? = some (.cells #[.int .i64 root, .int .i64 next, .slice none 0 0] 26 (0, 0)) ∧ Y.heap[w.heap.size]? = some (.cells #[.int .i64 root, .int .i64 next, .slice a ps.length c] 50 (0, 0)) ∧ Y.heap[w.heap.size + 1]? = some (.cells #[.int .i64 0, .int .i64 0, .slice none 0 0] 26 (0, 0)) ∧ Below w.heap.size w Y) := ⟨O1, hOX.out, hBX.out, hRX.out, bWY⟩
  rw [hX, hW] at E0 E1 E2 EF
  clear h bW bX DW DX D1 X1 O1 bWX bWY DY D0 bY
  go_enter Try.func16, Try.ntmps16
  go_wp2
  rw [← hW, ← hX, ← hY]
  replace hX := hide hX
  replace hW := hide hW
  replace hY := hide hY
  clear E0 E1 E2 EF hBX hRX hOX
  go_loopw [4] (fun p wr => ∃ k : Nat, k ≤ ps.length ∧ p = .int .i64 k ∧ ∃ v, Hid (OwnPg Y.heap.size wr v (ps.take k) ∧ wr.heap[w.heap.size + 1 + 1]? = some (.cells #[.int .i64 root, .int .i64 next, v] 26 (0, 0)) ∧ wr.heap[w.heap.size]? = some (.cells #[.int .i64 root, .int .i64 next, .slice a ps.length c] 50 (0, 0)) ∧ wr.heap[w.heap.size + 1]? = some (.cells #[.int .i64 0, .int .i64 0, .slice none 0 0] 26 (0, 0)) ∧ Below w.heap.size w wr)) (fun p _ => ps.length - (intOf p).toNat)
  case atStart => exact ⟨0, Nat.zero_le _, rfl, _, HI⟩
  case round =>
    obtain ⟨k, hk, rfl, v, hI⟩ := hrel
    clear HI
    obtain ⟨oa, oc, ho⟩ := hI.out.1.shape
    rw [List.length_take, Nat.min_eq_left hk] at ho
    subst ho
    obtain ⟨⟨A0, A1, A2⟩, AF⟩ := cells3p hI.out.2.2.1
    obtain ⟨⟨T0, T1, T2⟩, TF⟩ := cells3p hI.out.2.1
    by_cases hlt : k < ps.length
    · have hq : (k : Int) < (ps.length : Int) := by omega
      obtain ⟨y, hy⟩ : ∃ y, ps[k]? = some y := ⟨_, List.getElem?_eq_getElem hlt⟩
      have hxl := hx y (List.mem_of_getElem? hy)
      have hsn := hide (take_snoc9 hy)
      obtain ⟨b, off, u, e1, hc1, hc2, hr⟩ := HH.out.wrt hy
      subst e1
      obtain ⟨z, x⟩ := y
      dsimp only at hc1 hc2 hr hxl
      obtain ⟨au, cu, rfl⟩ := hr.slice
      replace hc1 := (hI.out.2.2.2.2.cell (cell_lt hc1)).trans hc1
      replace hc2 := (hI.out.2.2.2.2.cell (cell_lt hc2)).trans hc2
      have bd : Below wr.heap.size wr wr.drew := below_drewN' wr 1 _
      have KC := hide (copy_any wr.drew _ x ((hr.to hI.out.2.2.2.2).to bd) (by omega))
      have hn : (k + 1) * 32 ≤ 140737488355328 := by omega
      have hlk : Hid ((ps.take k).length = k) := by show _ = _; rw [List.length_take, Nat.min_eq_left hk]
      obtain ⟨XL, hXL⟩ : ∃ XL, XL = x.length := ⟨_, rfl⟩
      rw [← hXL] at KC hc2
      replace hXL := hide hXL
      have d1 := (bd.cell (cell_lt hc1)).trans hc1
      have d2 := (bd.cell (cell_lt hc2)).trans hc2
      have d3 := (bd.cell (cell_lt A2)).trans A2
      have d4 := (bd.cell (cell_lt T2)).trans T2
      clear hr hy A0 A1 T0 T1
      go_upto_region 5 with fail
      clear A2 AF T2 TF hc1 hc2
      refine wp_region_mid (fun w' => w'.cell? ⟨b, off + k * 2, none⟩ = some (.int .i64 z) ∧ w'.cell? ⟨b, off + k * 2 + 1, none⟩ = some (.slice au XL cu) ∧ w'.cell? ⟨w.heap.size, 2, none⟩ = some (.slice (some ⟨b, off, none⟩) ps.length c) ∧ w'.cell? ⟨w.heap.size + 1 + 1, 2, none⟩ = some (.slice oa k oc)) 14 17 mixed (by kernel_rfl) (fun _ _ _ _ h => h) ⟨d1, d2, d3, d4⟩ ?_
      dsimp only [List.take, List.drop]
      iterate 14
        refine take_one (v := ?_) (by rfl) ?_ ?_
        rotate_left
        · rintro w' ⟨s1, s2, s3, s4⟩
          go_simp
          try with_reducible rfl
        try simp only [Act.put, List.setIfInBounds_toArray, List.set_cons_zero, List.set_cons_succ]
      refine mid_one fun K hK => ?_
      refine step_call (by rfl) 43 _ _ (by rfl) #[.slice au XL cu] (by simp [Act.eval]) (Try.call43 _ _) KC.out ?_
      rintro e w2 ⟨v2, rfl, o2, b2⟩
      obtain ⟨va, vc, hv2⟩ := o2.rd.slice
      rw [← hXL.out] at hv2
      subst hv2
      have x1 := (b2.cell (cell_lt d1)).trans d1
      have x2 := (b2.cell (cell_lt d2)).trans d2
      have x3 := (b2.cell (cell_lt d3)).trans d3
      have x4 := (b2.cell (cell_lt d4)).trans d4
      refine ⟨_, rfl, hK _ _ ⟨x1, x2, x3, x4⟩ ?_⟩
      clear hK K
      have bw2 := bd.trans (b2.mono bd.size)
      have I2 := hide (And.intro (hI.out.1.to9 bw2) (And.intro ((bw2.block _ (lt_of_block hI.out.2.1)).trans hI.out.2.1) (And.intro ((bw2.block _ (lt_of_block hI.out.2.2.1)).trans hI.out.2.2.1) (And.intro ((bw2.block _ (lt_of_block hI.out.2.2.2.1)).trans hI.out.2.2.2.1) (hI.out.2.2.2.2.trans (bw2.mono hI.out.2.2.2.2.size))))))
      have O2 := hide o2
      have HS : Hid (Y.heap.size ≤ w2.heap.size) := by
        show _ ≤ _
        rw [hsz.out]
        have := lt_of_block hI.out.2.1
        have := bw2.size
        omega
      clear b2 o2 KC d1 d2 d3 d4 hI bw2 bd
      try simp only [Act.put, List.setIfInBounds_toArray, List.set_cons_zero, List.set_cons_succ]
      refine mid_one fun K hK => ?_
      rw [if_pos (by rfl)]
      go_simp
      refine hK _ _ ⟨x1, x2, x3, x4⟩ ?_
      clear hK K
      refine mid_one fun K hK => ?_
      rw [if_pos (by rfl)]
      go_simp
      refine hK _ _ ⟨cellAl9 x1 _, cellAl9 x2 _, cellAl9 x3 _, cellAl9 x4 _⟩ ?_
      clear hK K x1 x2 x3 x4
      show wpList _ _ _ _ _ _
      obtain ⟨Z, hZ, DZ, bZ, sZ⟩ := boxedN w2 #[.int .i64 z, .slice va XL vc] 43
      obtain ⟨⟨Z0, Z1⟩, _⟩ := cells2r DZ
      have OZ : OwnPg Y.heap.size Z (.slice oa k oc) (ps.take k) := I2.out.1.to9 bZ
      have SZ : OwnB 0 Z (.slice va XL vc) x := rows_to (rows_base O2.out fun _ _ => Nat.zero_le _) bZ
      have hB : Y.heap.size ≤ Z.heap.size := by have := HS.out; have := bZ.size; omega
      rw [hZ] at Z0 Z1 OZ SZ hB
      refine wpList_appPg rfl _ _ rfl Y.heap.size (.slice oa k oc) (ps.take k) (z, x) (.slice va XL vc) w2.heap.size rfl rfl OZ SZ rfl Z0 Z1 (by rw [hlk.out]; exact hn) hB ?_
      intro v5 w5 o5 g5 b5 _
      rw [← hZ] at b5
      rw [← hsn.out] at o5
      obtain ⟨na, nc, hv5⟩ := o5.shape
      generalize (ps.take (k + 1)).length = nl at hv5
      subst hv5
      have bZ2 := hide bZ
      have blk : ∀ j, j < Y.heap.size → ∀ o, w2.heap[j]? = some o → w5.heap[j]? = some o := fun j hj o ho => (b5.block j hj).trans ((bZ2.out.block j (lt_of_block ho)).trans ho)
      have T5 := blk _ (by rw [hsz.out]; omega) _ I2.out.2.1
      have A5 := blk _ (by rw [hsz.out]; omega) _ I2.out.2.2.1
      have R5 := blk _ (by rw [hsz.out]; omega) _ I2.out.2.2.2.1
      have bb5 : Below w.heap.size w w5 := (I2.out.2.2.2.2.trans (bZ2.out.mono I2.out.2.2.2.2.size)).trans (b5.mono (by rw [hsz.out]; omega))
      obtain ⟨⟨T0, T1, T2⟩, TF⟩ := cells3p T5
      have d0 := heap_setN T5 2 (.slice na nl nc)
      have D7 : (w5.setCell ⟨w.heap.size + 1 + 1, 2, none⟩ (.slice na nl nc)).heap[w.heap.size + 1 + 1]? = some (.cells #[.int .i64 root, .int .i64 next, (.slice na nl nc)] 26 (0, 0)) := by simpa using d0
      have A7 : (w5.setCell ⟨w.heap.size + 1 + 1, 2, none⟩ (.slice na nl nc)).heap[w.heap.size]? = _ := (Below.heap_setCell _ _ _ _ (show w.heap.size ≠ w.heap.size + 1 + 1 by omega)).trans A5
      have R7 : (w5.setCell ⟨w.heap.size + 1 + 1, 2, none⟩ (.slice na nl nc)).heap[w.heap.size + 1]? = _ := (Below.heap_setCell _ _ _ _ (show w.heap.size + 1 ≠ w.heap.size + 1 + 1 by omega)).trans R5
      have kk : ∀ e, e ≠ 26 → KeepT e w5 (w5.setCell ⟨w.heap.size + 1 + 1, 2, none⟩ (.slice na nl nc)) := fun e he => KeepT.set (a := ⟨w.heap.size + 1 + 1, 2, none⟩) T5 he _
      have I5 := hide (And.intro (o5.keepT (kk _ (by decide)) (kk _ (by decide))) (And.intro D7 (And.intro A7 (And.intro R7 (bb5.setCell (p := ⟨w.heap.size + 1 + 1, 2, none⟩) (show w.heap.size ≤ w.heap.size + 1 + 1 by omega) (.slice na nl nc))))))
      clear o5 g5 b5 Z0 Z1 OZ SZ hB DZ bZ hZ I2 O2 blk A5 R5 bb5 d0 D7 A7 R7 kk bZ2 T5 HS
      go_wp2
      go_roundw
      case rel => exact ⟨k + 1, by omega, by go_num, _, I5⟩
      case measure => simp [intOf]; omega
    · have hq : ¬ (k : Int) < (ps.length : Int) := by omega
      obtain rfl : k = ps.length := by omega
      have htk : ps.take ps.length = ps := List.take_of_length_le (by omega)
      rw [htk] at hI
      have R6 := hI.out.2.2.2.1
      obtain ⟨⟨F0, F1, F2⟩, FF⟩ := cells3p R6
      have HR := hide R6
      have OO := hide (hI.out.1.keepT (s3_keep9 R6 (.int .i64 root) (.int .i64 next) (.slice oa ps.length oc) (by decide)) (s3_keep9 R6 (.int .i64 root) (.int .i64 next) (.slice oa ps.length oc) (by decide)))
      have BB := hide (below_set3t hI.out.2.2.2.2 (show w.heap.size ≤ w.heap.size + 1 by omega) (.int .i64 root) (.int .i64 next) (.slice oa ps.length oc))
      have hYw : Hid (w.heap.size ≤ Y.heap.size) := HY.out.size
      clear hI R6
      go_wp2
      refine retN rfl rfl (w.heap.size + 1) rfl _ _ (0, 0) (heap_set3t HR.out _ _ _) _ Try.underlying26 rfl info_tr ?_
      refine ⟨_, rfl, ?_, BB.out⟩
      obtain ⟨svs, q1, q2, q3⟩ := OO.out
      exact ⟨svs, q1, rows_base q2 (fun b hb => Nat.le_trans hYw.out (World.ownsRow.lt q2 b hb).1), q3⟩

end Go.Proofs.Ytgmkknonnidgaaa
