/-
  The page's New of extents.
-/
import Derived.Test.YtacfcgklncckiaaEWithoutR
namespace Go.Proofs.Ytacfcgklncckiaa
open Go.RowKit
set_option linter.unusedVariables false

theorem info_mapR : (Try.prog.info? 24).map (·.size) = some 2 := by kernel_rfl
theorem ownE_nil (B : Nat) (w : World) : OwnE B w (.slice none 0 0) [] := World.ownsRow_nil _ _ _ _
set_option maxRecDepth 100000 in
set_option maxHeartbeats 1000000 in
theorem rnew_any (w : World) (n : Int) :
    Calls Try.prog 19 #[.int .i64 n] w fun e w' => ∃ fv, e = .returned (.tuple #[.agg #[.int .i64 (enew n).1.1, fv], .int .i64 (enew n).2]) ∧ OwnE w.heap.size w' fv (enew n).1.2 ∧ Below w.heap.size w w' := by
  obtain ⟨W, hW⟩ : ∃ W, W = w.alloc (.cells #[.int .i64 0, .slice none 0 0] 24) := ⟨_, rfl⟩
  have hZ : W.heap[w.heap.size]? = some (.cells #[.int .i64 0, .slice none 0 0] 24 (0, 0)) := by rw [hW]; exact heap_alloc_last w _
  have bW : Below w.heap.size w W := by rw [hW]; exact (Below.refl _ _).alloc (Nat.le_refl _) _
  have sW : W.heap.size = w.heap.size + 1 := by rw [hW]; simp
  have z0 : W.cell? ⟨w.heap.size, 0, none⟩ = some (.int .i64 0) := by rw [cell_of_row _ _ 0 _ _ (0, 0) hZ]; rfl
  have z1 : W.cell? ⟨w.heap.size, 1, none⟩ = some (.slice none 0 0) := by rw [cell_of_row _ _ 1 _ _ (0, 0) hZ]; rfl
  have z2 : W.frozen? ⟨w.heap.size, 0, none⟩ = false := frozen_of_row _ _ 0 _ _ hZ
  have z3 : W.frozen? ⟨w.heap.size, 1, none⟩ = false := frozen_of_row _ _ 1 _ _ hZ
  rw [hW] at z0 z1 z2 z3
  by_cases hA : n < 0
  · have hR : Hid (enew n = ((0, []), 4)) := by show _ = _; unfold enew; rw [if_pos (.inl hA)]
    go_enter Try.func19, Try.ntmps19
    go_wp2
    rw [← hW]
    refine ret_cellT rfl rfl (w.heap.size) rfl _ _ _ _ hZ _ Try.underlying24 rfl info_mapR _ rfl ?_
    rw [hR.out]
    exact ⟨_, rfl, ownE_nil _ _, bW⟩
  by_cases hB : 1048576 < n
  · have hR : Hid (enew n = ((0, []), 4)) := by show _ = _; unfold enew; rw [if_pos (.inr hB)]
    go_enter Try.func19, Try.ntmps19
    go_wp2
    rw [← hW]
    refine ret_cellT rfl rfl (w.heap.size) rfl _ _ _ _ hZ _ Try.underlying24 rfl info_mapR _ rfl ?_
    rw [hR.out]
    exact ⟨_, rfl, ownE_nil _ _, bW⟩
  by_cases hC : n = 0
  · subst hC
    have hR : Hid (enew 0 = ((0, []), 0)) := by show _ = _; unfold enew; rw [if_neg (by omega), if_pos rfl]
    go_enter Try.func19, Try.ntmps19
    go_wp2
    rw [← hW]
    refine ret_cellT rfl rfl (w.heap.size) rfl _ _ _ _ hZ _ Try.underlying24 rfl info_mapR _ rfl ?_
    rw [hR.out]
    exact ⟨_, rfl, ownE_nil _ _, bW⟩
  · have hR : Hid (enew n = ((n, [(0, n)]), 0)) := by show _ = _; unfold enew; rw [if_neg (by omega), if_neg hC]
    have hC' : (n == 0) = false := by simpa using hC
    obtain ⟨V, hV, hA1, bV, sV⟩ : ∃ V, V = w.alloc (.cells #[.int .i64 n, .slice (some ⟨w.heap.size + 1, 0, none⟩) 1 1] 24) ∧ V.heap[w.heap.size]? = some (.cells #[.int .i64 n, .slice (some ⟨w.heap.size + 1, 0, none⟩) 1 1] 24 (0, 0)) ∧ Below w.heap.size w V ∧ V.heap.size = w.heap.size + 1 := ⟨_, rfl, heap_alloc_last w _, (Below.refl _ _).alloc (Nat.le_refl _) _, by simp⟩
    obtain ⟨X, hX⟩ : ∃ X, X = V.alloc (.cells #[.int .i64 0, .int .i64 n] 26) := ⟨_, rfl⟩
    have hX1 : X.heap[w.heap.size + 1]? = some (.cells #[.int .i64 0, .int .i64 n] 26 (0, 0)) := by rw [hX, ← sV]; exact heap_alloc_last V _
    have bX : Below V.heap.size V X := by rw [hX]; exact (Below.refl _ _).alloc (Nat.le_refl _) _
    have hZX := (bX.block w.heap.size (by omega)).trans hA1
    have cX := bV.trans (bX.mono bV.size)
    clear hC
    go_enter Try.func19, Try.ntmps19
    go_wp2
    rw [← hV, ← hX]
    refine ret_cellT rfl rfl (w.heap.size) rfl _ _ _ _ hZX _ Try.underlying24 rfl info_mapR _ rfl ?_
    rw [hR.out]
    exact ⟨_, rfl, ⟨rfl, .inr ⟨w.heap.size + 1, 1, _, rfl, by omega, hX1, Nat.le_refl _, by unfold maxLen; omega, rfl, rfl⟩⟩, cX⟩

end Go.Proofs.Ytacfcgklncckiaa
