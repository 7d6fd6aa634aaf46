/-
  The law's same: is a node the page's?
-/
import Derived.Test.YtjkpldmmijfebaaNOf
namespace Go.Proofs.Ytjkpldmmijfebaa
open Go.RowKit
set_option linter.unusedVariables false
set_option linter.unusedSimpArgs false

def sameN (m n : Nd) : Bool := (m.leaf == n.leaf) && decide (m.keys = n.keys) && decide (m.vals = n.vals) && decide (m.kids = n.kids)
theorem sameN_self (n : Nd) : sameN n n = true := by simp [sameN]
theorem sameN_iff (m n : Nd) : sameN m n = true ↔ m = n := by
  obtain ⟨a, b, c, d⟩ := m
  obtain ⟨a', b', c', d'⟩ := n
  simp [sameN, and_assoc]
theorem boxes4p (w : World) (x y z v x' y' z' v' : Value) (t t' : TypeId) : ∃ W, W = (w.alloc (.cells #[x, y, z, v] t)).alloc (.cells #[x', y', z', v'] t') ∧ W.heap[w.heap.size]? = some (.cells #[x, y, z, v] t (0, 0)) ∧ W.heap[w.heap.size + 1]? = some (.cells #[x', y', z', v'] t' (0, 0)) ∧ Below w.heap.size w W ∧ W.heap.size = w.heap.size + 2 := by
  refine ⟨_, rfl, ?_, ?_, ((Below.refl _ _).alloc (Nat.le_refl _) _).alloc (by simp) _, by simp⟩
  · rw [Below.heap_alloc _ _ _ (by simp)]; exact heap_alloc_last w _
  · have := heap_alloc_last (w.alloc (.cells #[x, y, z, v] t)) (.cells #[x', y', z', v'] t'); simpa using this

set_option maxRecDepth 100000 in
set_option maxHeartbeats 2000000 in
theorem same9_any (w : World) (kv vv dv kv' vv' dv' : Value) (m n : Nd) (h : RdN w kv vv dv m) (h' : RdN w kv' vv' dv' n) :
    Calls Try.prog 14 #[nv m kv vv dv, nv n kv' vv' dv'] w fun e w' => e = .returned (.bool (sameN m n)) ∧ Below w.heap.size w w' := by
  obtain ⟨a, c, a1, c1, a2, c2, rfl, rfl, rfl⟩ := h.slices
  obtain ⟨p, d, p1, d1, p2, d2, rfl, rfl, rfl⟩ := h'.slices
  obtain ⟨W, hW, hA, hZ, bW, sW⟩ := boxes4p w (.bool m.leaf) (.slice a m.keys.length c) (.slice a1 m.vals.length c1) (.slice a2 m.kids.length c2) (.bool n.leaf) (.slice p n.keys.length d) (.slice p1 n.vals.length d1) (.slice p2 n.kids.length d2) 26 25
  replace h := h.to bW
  replace h' := h'.to bW
  have K1 := hide (sameStr_any W _ _ _ _ h.keys h'.keys)
  have K2 := hide (fun k => sameStr_any (W.drewN k) _ _ _ _ (h.to (below_drewN' W k _)).vals (h'.to (below_drewN' W k _)).vals)
  have K3 := hide (fun k => sameInt_any (W.drewN k) _ _ _ _ (h.to (below_drewN' W k _)).kids (h'.to (below_drewN' W k _)).kids)
  obtain ⟨⟨A0, A1, A2, A3⟩, _⟩ := cells4 hA
  obtain ⟨⟨Z0, Z1, Z2, Z3⟩, _⟩ := cells4 hZ
  have HS : Hid (∀ k, ((W.drewN k).cell? ⟨w.heap.size, 0, none⟩ = some (.bool m.leaf) ∧ (W.drewN k).cell? ⟨w.heap.size, 1, none⟩ = some (.slice a m.keys.length c) ∧ (W.drewN k).cell? ⟨w.heap.size, 2, none⟩ = some (.slice a1 m.vals.length c1) ∧ (W.drewN k).cell? ⟨w.heap.size, 3, none⟩ = some (.slice a2 m.kids.length c2)) ∧
      ((W.drewN k).cell? ⟨w.heap.size + 1, 0, none⟩ = some (.bool n.leaf) ∧ (W.drewN k).cell? ⟨w.heap.size + 1, 1, none⟩ = some (.slice p n.keys.length d) ∧ (W.drewN k).cell? ⟨w.heap.size + 1, 2, none⟩ = some (.slice p1 n.vals.length d1) ∧ (W.drewN k).cell? ⟨w.heap.size + 1, 3, none⟩ = some (.slice p2 n.kids.length d2))) := fun k =>
    have b9 := below_drewN' W k W.heap.size
    ⟨⟨(b9.cell (p := ⟨w.heap.size, 0, none⟩) (cell_lt A0)).trans A0, (b9.cell (p := ⟨w.heap.size, 1, none⟩) (cell_lt A1)).trans A1, (b9.cell (p := ⟨w.heap.size, 2, none⟩) (cell_lt A2)).trans A2, (b9.cell (p := ⟨w.heap.size, 3, none⟩) (cell_lt A3)).trans A3⟩,
     (b9.cell (p := ⟨w.heap.size + 1, 0, none⟩) (cell_lt Z0)).trans Z0, (b9.cell (p := ⟨w.heap.size + 1, 1, none⟩) (cell_lt Z1)).trans Z1, (b9.cell (p := ⟨w.heap.size + 1, 2, none⟩) (cell_lt Z2)).trans Z2, (b9.cell (p := ⟨w.heap.size + 1, 3, none⟩) (cell_lt Z3)).trans Z3⟩
  have BW := hide bW
  clear h h' hA hZ bW
  rw [hW] at A0 A1 A2 A3 Z0 Z1 Z2 Z3
  obtain ⟨R, hR⟩ : ∃ R, R = sameN m n := ⟨_, rfl⟩
  rw [← hR]
  unfold sameN at hR
  dsimp only [nv]
  generalize m.leaf = l1 at *
  generalize n.leaf = l2 at *
  cases e0 : (l1 == l2)
  · rw [e0] at hR
    replace hR := hide hR
    go_enter Try.func14, Try.ntmps14
    go_wp2
    go_ret
    refine ⟨ret_bool (by rw [hR.out]; rfl), ?_⟩
    rw [← hW]; exact BW.out
  rw [e0] at hR
  cases e1 : (decide (m.keys = n.keys))
  · rw [e1] at hR K1
    replace hR := hide hR
    replace e1 := hide e1
    go_enter Try.func14, Try.ntmps14
    go_wp2_with fail
    rw [← hW]
    replace hW := hide hW
    clear A0 A1 A2 A3 Z0 Z1 Z2 Z3
    refine K1.out.mono ?_
    rintro e w1 ⟨rfl, k1, rfl⟩
    go_wp2
    go_ret
    exact ⟨ret_bool (by rw [hR.out]; rfl), BW.out.trans (below_drewN' W _ _)⟩
  rw [e1] at hR K1
  cases e2 : (decide (m.vals = n.vals))
  · have K2' := hide (fun k => (K2.out k))
    simp only [e2] at K2'
    rw [e2] at hR
    replace hR := hide hR
    replace e1 := hide e1
    replace e2 := hide e2
    go_enter Try.func14, Try.ntmps14
    go_wp2_with fail
    rw [← hW]
    replace hW := hide hW
    clear A0 A1 A2 A3 Z0 Z1 Z2 Z3
    refine K1.out.mono ?_
    rintro e w1 ⟨rfl, k1, rfl⟩
    obtain ⟨⟨A0, A1, A2, A3⟩, Z0, Z1, Z2, Z3⟩ := HS.out k1
    go_wp2_with fail
    refine (K2'.out k1).mono ?_
    rintro e w2 ⟨rfl, k2, rfl⟩
    go_wp2
    go_ret
    exact ⟨ret_bool (by rw [hR.out]; rfl), BW.out.trans (below_drewN' W _ _)⟩
  have K2' := hide (fun k => (K2.out k))
  simp only [e2] at K2'
  rw [e2] at hR
  have hR' := hide (show R = decide (m.kids = n.kids) by rw [hR]; rfl)
  generalize decide (m.kids = n.kids) = V at *
  clear hR
  replace e1 := hide e1
  replace e2 := hide e2
  go_enter Try.func14, Try.ntmps14
  go_wp2_with fail
  rw [← hW]
  replace hW := hide hW
  clear A0 A1 A2 A3 Z0 Z1 Z2 Z3
  refine K1.out.mono ?_
  rintro e w1 ⟨rfl, k1, rfl⟩
  obtain ⟨⟨A0, A1, A2, A3⟩, Z0, Z1, Z2, Z3⟩ := HS.out k1
  go_wp2_with fail
  refine (K2'.out k1).mono ?_
  rintro e w2 ⟨rfl, k2, hk⟩
  have hk' : w2 = W.drewN (k1 + k2) := by rw [hk, World.drewN_drewN]
  subst hk'
  clear hk A0 A1 A2 A3 Z0 Z1 Z2 Z3
  obtain ⟨⟨A0, A1, A2, A3⟩, Z0, Z1, Z2, Z3⟩ := HS.out (k1 + k2)
  go_wp2_with fail
  refine (K3.out (k1 + k2)).mono ?_
  rintro e w3 ⟨rfl, k3, rfl⟩
  go_wp2
  go_ret
  exact ⟨ret_bool hR'.out.symm, BW.out.trans (below_drewN' W _ _)⟩

end Go.Proofs.Ytjkpldmmijfebaa
