/-
  The laws' num, of and same of extents.
-/
import Derived.Test.YtacfcgklncckiaaEProgD
namespace Go.Proofs.Ytacfcgklncckiaa
open Go.RowKit
set_option linter.unusedVariables false

set_option maxRecDepth 100000 in
theorem num5_any (w : World) (n : Int) : Calls Try.prog 21 #[.int .i64 n] w fun e w' => e = .returned (.int .i64 n) ∧ w = w' := by
  go_enter Try.func21, Try.ntmps21
  go_wp2
  go_ret
  exact ⟨rfl, rfl⟩
theorem ecells_of {w : World} : ∀ {l : List Ext} {G : List Nat} {cc : List Value}, ownEach SExt w G cc l → cc = ecells l
  | [], G, cc, h => h.2
  | x :: r, G, cc, ⟨F1, F2, c1, c2, _, e, h1, h2⟩ => by
    obtain ⟨c, d, G1, G2, e1, _, ⟨_, h3⟩, ⟨_, h4⟩⟩ := h1
    rw [e, ecells_of h2, ecells_cons, e1, h3, h4]
    rfl
theorem ownE_of {B : Nat} {w : World} {v : Value} {l : List Ext} (h : Own SExtL B w [v] l) : OwnE B w v l := by
  obtain ⟨F, ⟨v', cc, G, e, h1, h2, rfl⟩, _, hB⟩ := h
  simp at e; subst e
  unfold OwnE
  rw [← ecells_of h2]
  exact rows_base h1 fun b hb => hB b (by simp [hb])
theorem ownE_rd {B : Nat} {w : World} {v : Value} {l : List Ext} (h : OwnE B w v l) : RdE w v l := (own_ext h).rdS
theorem OwnE.to {B : Nat} {w w' : World} {v : Value} {l : List Ext} (h : OwnE B w v l) (hb : Below w.heap.size w w') : OwnE B w' v l := rows_to h hb
theorem copyE_any (w : World) (v : Value) (l : List Ext) (h : RdE w v l) (hm : l.length * 16 ≤ 140737488355328) :
    Calls Try.prog 26 #[v] w fun e w' => ∃ v', e = .returned v' ∧ OwnE w.heap.size w' v' l ∧ Below w.heap.size w w' :=
  (copyExt_any w v l h hm).mono fun _ _ ⟨v', e, o, b⟩ => ⟨v', e, ownE_of o, b⟩

set_option maxRecDepth 100000 in
set_option maxHeartbeats 1000000 in
theorem of5_any (w : World) (fv : Value) (m : EMap) (h : RdE w fv m.2) (hm : m.2.length * 16 ≤ 140737488355328) :
    Calls Try.prog 9 #[.agg #[.int .i64 m.1, fv]] w fun e w' => ∃ fv', e = .returned (.agg #[.int .i64 m.1, fv']) ∧ OwnE w.heap.size w' fv' m.2 ∧ Below w.heap.size w w' := by
  obtain ⟨a, c, rfl⟩ := h.slice
  obtain ⟨U, hU, U0, bU, sU⟩ := boxed2b w (.int .i64 m.1) (.slice a m.2.length c) 24
  obtain ⟨W, hW, W0, bW, sW⟩ := boxed2b U (.int .i64 0) (.slice none 0 0) 27
  rw [sU] at W0
  replace U0 := (bW.block w.heap.size (by omega)).trans U0
  have cW := bU.trans (bW.mono bU.size)
  obtain ⟨A0, A1, _, _⟩ := cells2 U0
  have KC := hide (copyE_any W.drew _ m.2 ((h.to0 cW).to0 (Below.refl _ _).drew) hm)
  have HA := hide (And.intro U0 W0)
  have HC := hide cW
  have a0 := A0
  have a1 := A1
  rw [hW, hU] at A0 A1
  clear h bU bW cW U0 W0
  go_enter Try.func9, Try.ntmps9
  go_wp2_with fail
  rw [← hU, ← hW]
  refine wp_region_mid (fun w' => w'.cell? ⟨w.heap.size, 0, none⟩ = some (.int .i64 m.1) ∧ w'.cell? ⟨w.heap.size, 1, none⟩ = some (.slice a m.2.length c)) 4 5 mixed (by kernel_rfl) (fun _ _ _ _ h => h) ⟨a0, a1⟩ ?_
  dsimp only [List.take, List.drop]
  replace hU := hide hU
  replace hW := hide hW
  clear A0 A1
  iterate 4
    refine take_one (v := ?_) (by rfl) ?_ ?_
    rotate_left
    · rintro w' ⟨q1, q2⟩
      go_simp
      try with_reducible rfl
    try simp only [Act.put, List.setIfInBounds_toArray, List.set_cons_zero, List.set_cons_succ]
  refine mid_one fun K hK => ?_
  refine step_call (by rfl) 26 _ _ (by rfl) #[.slice a m.2.length c] (by simp [Act.eval]) (Try.call26 _ _) KC.out ?_
  rintro e w2 ⟨v2, rfl, o2, b2⟩
  obtain ⟨a3, n3, c3, hv3⟩ := ownE_slice o2
  subst hv3
  have b2' : Below W.heap.size W w2 := (Below.refl _ _).drew.trans b2
  have Z2 := (b2'.block (w.heap.size + 1) (by omega)).trans HA.out.2
  obtain ⟨z0, z1, z2, z3⟩ := cells2 Z2
  refine ⟨_, rfl, hK _ _ ⟨(b2'.cell (p := ⟨w.heap.size, 0, none⟩) (cell_lt a0)).trans a0, (b2'.cell (p := ⟨w.heap.size, 1, none⟩) (cell_lt a1)).trans a1⟩ ?_⟩
  clear hK K
  have O := hide (And.intro o2 (And.intro Z2 (HC.out.trans (b2'.mono HC.out.size))))
  have q1 : w.heap.size + 1 < W.drew.heap.size := by show _ < W.heap.size; omega
  clear o2 Z2 b2 b2'
  show wpList _ _ _ _ _ _
  try simp only [Act.put, List.setIfInBounds_toArray, List.set_cons_zero, List.set_cons_succ]
  go_wp2
  refine ret_cell rfl rfl (w.heap.size + 1) rfl _ _ _ _ (heap_set2 O.out.2.1 _ _) _ Try.underlying27 rfl infoM ?_
  refine ⟨_, rfl, ?_, below_set2 O.out.2.2 (show w.heap.size ≤ w.heap.size + 1 by omega) _ _⟩
  have o := ownsRow_setCell_below (ownsRow_setCell_below O.out.1 (a := ⟨w.heap.size + 1, 0, none⟩) q1 (.int .i64 m.1)) (a := ⟨w.heap.size + 1, 1, none⟩) q1 (.slice a3 n3 c3)
  refine rows_base o (fun g hg => ?_)
  have := (World.ownsRow.lt o g hg).1
  have : w.heap.size + 1 < g := Nat.lt_of_lt_of_le q1 this
  omega

def sameM (a b : EMap) : Bool := decide (a.1 = b.1) && sameE a.2 b.2
theorem sameM_self (a : EMap) : sameM a a = true := by simp [sameM, sameE]
set_option maxRecDepth 100000 in
set_option maxHeartbeats 1000000 in
theorem same5_any (w : World) (v1 v2 : Value) (m1 m2 : EMap) (h1 : RdE w v1 m1.2) (h2 : RdE w v2 m2.2) :
    Calls Try.prog 20 #[.agg #[.int .i64 m1.1, v1], .agg #[.int .i64 m2.1, v2]] w fun e w' => e = .returned (.bool (sameM m1 m2)) ∧ Below w.heap.size w w' := by
  obtain ⟨a1, c1, rfl⟩ := h1.slice
  obtain ⟨a2, c2, rfl⟩ := h2.slice
  obtain ⟨U, hU, U0, bU, sU⟩ := boxed2b w (.int .i64 m1.1) (.slice a1 m1.2.length c1) 27
  obtain ⟨W, hW, W0, bW, sW⟩ := boxed2b U (.int .i64 m2.1) (.slice a2 m2.2.length c2) 24
  rw [sU] at W0
  replace U0 := (bW.block w.heap.size (by omega)).trans U0
  have cW := bU.trans (bW.mono bU.size)
  obtain ⟨A0, A1, _, _⟩ := cells2 U0
  obtain ⟨B0, B1, _, _⟩ := cells2 W0
  have KS := hide (sameExt_any W _ _ m1.2 m2.2 (h1.to0 cW) (h2.to0 cW))
  have HC := hide cW
  rw [hW, hU] at A0 A1 B0 B1
  clear h1 h2 bU bW cW U0 W0
  by_cases hq : m1.1 = m2.1
  · have hr : Hid (sameM m1 m2 = sameE m1.2 m2.2) := by show _ = _; unfold sameM; simp [hq]
    have hb : (m1.1 == m2.1) = true := by simpa using hq
    replace hq := hide hq
    go_enter Try.func20, Try.ntmps20
    go_wp2_with fail
    rw [← hU, ← hW]
    replace hU := hide hU
    replace hW := hide hW
    clear A0 A1 B0 B1
    refine KS.out.mono ?_
    rintro e w2 ⟨rfl, n, rfl⟩
    go_wp2
    go_ret
    exact ⟨ret_bool hr.out.symm, HC.out.trans ((below_drewN' W n _))⟩
  · have hr : Hid (sameM m1 m2 = false) := by show _ = _; unfold sameM; simp [hq]
    have hb : (m1.1 == m2.1) = false := by simpa using hq
    replace hq := hide hq
    go_enter Try.func20, Try.ntmps20
    go_wp2
    go_ret
    exact ⟨ret_bool hr.out.symm, by rw [← hU, ← hW]; exact HC.out⟩

end Go.Proofs.Ytacfcgklncckiaa
