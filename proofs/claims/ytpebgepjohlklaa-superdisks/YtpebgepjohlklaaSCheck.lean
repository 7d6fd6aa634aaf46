/-
  Check of a superblock: the program's and the page's.
-/
import Derived.Test.YtpebgepjohlklaaSBox
namespace Go.Proofs.Ytpebgepjohlklaa
open Go.RowKit
set_option linter.unusedVariables false

/-- the numbers ahead of the K-th may be -/
def fitTo (b : Blk) (K : Int) : Prop := ∀ (j : Nat) (n : Int), (j : Int) < K → (bls b)[j]? = some n → bfit n
theorem fitTo.zero (b : Blk) : fitTo b 0 := fun j n hj => by omega
theorem fitTo.next {b : Blk} {K : Nat} (h : fitTo b K) {n : Int} (hn : (bls b)[K]? = some n) (hf : bfit n) : fitTo b ((K + 1 : Nat) : Int) := fun j m hj hm => by
  by_cases e : j = K
  · subst e
    rw [hn] at hm
    simp only [Option.some.injEq] at hm
    subst hm
    exact hf
  · exact h j m (by omega) hm
theorem fitTo.all {b : Blk} (h : fitTo b 5) : bok b := fun n hn => by
  obtain ⟨j, hj⟩ := List.getElem?_of_mem hn
  exact h j n (by have := (List.getElem?_eq_some_iff.1 hj).1; have : (bls b).length = 5 := rfl; omega) hj
theorem bok_no {b : Blk} {K : Nat} {n : Int} (hn : (bls b)[K]? = some n) (hf : ¬ bfit n) : ¬ bok b := fun h => hf (h n (List.mem_of_getElem? hn))
theorem scheck_no {b : Blk} (h : ¬ bok b) : scheck b = 4 := if_neg h
theorem scheck_ok {b : Blk} (h : bok b) : scheck b = 0 := if_pos h

theorem idx0 (x0 x1 x2 x3 x4 : Value) (u : World) : (Instr.index 69 (.agg #[x0, x1, x2, x3, x4]) (.int .i64 0)).run Try.prog u = .ok x0 u := by kernel_rfl
theorem idx1 (x0 x1 x2 x3 x4 : Value) (u : World) : (Instr.index 69 (.agg #[x0, x1, x2, x3, x4]) (.int .i64 1)).run Try.prog u = .ok x1 u := by kernel_rfl
theorem idx2 (x0 x1 x2 x3 x4 : Value) (u : World) : (Instr.index 69 (.agg #[x0, x1, x2, x3, x4]) (.int .i64 2)).run Try.prog u = .ok x2 u := by kernel_rfl
theorem idx3 (x0 x1 x2 x3 x4 : Value) (u : World) : (Instr.index 69 (.agg #[x0, x1, x2, x3, x4]) (.int .i64 3)).run Try.prog u = .ok x3 u := by kernel_rfl
theorem idx4 (x0 x1 x2 x3 x4 : Value) (u : World) : (Instr.index 69 (.agg #[x0, x1, x2, x3, x4]) (.int .i64 4)).run Try.prog u = .ok x4 u := by kernel_rfl
set_option maxRecDepth 100000 in
set_option maxHeartbeats 2000000 in
theorem pcheck_any (w : World) (b : Blk) : Calls Try.prog 16 #[.agg #[.int .i64 b.1, .int .i64 b.2.1, .int .i64 b.2.2.1, .int .i64 b.2.2.2.1, .int .i64 b.2.2.2.2]] w fun e w' => e = .returned (.int .i64 (scheck b)) ∧ Below w.heap.size w w' := by
  obtain ⟨n0, n1, n2, n3, n4⟩ := b
  dsimp only
  obtain ⟨X, hX, X0, bX, sX⟩ := boxedN w #[.int .i64 n0, .int .i64 n1, .int .i64 n2, .int .i64 n3, .int .i64 n4] 28
  go_enter Try.func16, Try.ntmps16
  go_wp2_with fail
  rw [← hX]
  replace hX := hide hX
  refine (numbersOf_any X w.heap.size).mono ?_
  rintro e w1 ⟨rfl, b1⟩
  have c1 := bX.trans (b1.mono bX.size)
  have X1 : w1.heap[w.heap.size]? = _ := (b1.block _ (by omega)).trans X0
  obtain ⟨⟨d0, d1, d2, d3, d4⟩, _⟩ := cells5 X1
  clear X0 bX X1 b1
  have ix0 := fun u => idx0 (.pointer (some ⟨w.heap.size, 0, none⟩)) (.pointer (some ⟨w.heap.size, 1, none⟩)) (.pointer (some ⟨w.heap.size, 2, none⟩)) (.pointer (some ⟨w.heap.size, 3, none⟩)) (.pointer (some ⟨w.heap.size, 4, none⟩)) u
  have ix1 := fun u => idx1 (.pointer (some ⟨w.heap.size, 0, none⟩)) (.pointer (some ⟨w.heap.size, 1, none⟩)) (.pointer (some ⟨w.heap.size, 2, none⟩)) (.pointer (some ⟨w.heap.size, 3, none⟩)) (.pointer (some ⟨w.heap.size, 4, none⟩)) u
  have ix2 := fun u => idx2 (.pointer (some ⟨w.heap.size, 0, none⟩)) (.pointer (some ⟨w.heap.size, 1, none⟩)) (.pointer (some ⟨w.heap.size, 2, none⟩)) (.pointer (some ⟨w.heap.size, 3, none⟩)) (.pointer (some ⟨w.heap.size, 4, none⟩)) u
  have ix3 := fun u => idx3 (.pointer (some ⟨w.heap.size, 0, none⟩)) (.pointer (some ⟨w.heap.size, 1, none⟩)) (.pointer (some ⟨w.heap.size, 2, none⟩)) (.pointer (some ⟨w.heap.size, 3, none⟩)) (.pointer (some ⟨w.heap.size, 4, none⟩)) u
  have ix4 := fun u => idx4 (.pointer (some ⟨w.heap.size, 0, none⟩)) (.pointer (some ⟨w.heap.size, 1, none⟩)) (.pointer (some ⟨w.heap.size, 2, none⟩)) (.pointer (some ⟨w.heap.size, 3, none⟩)) (.pointer (some ⟨w.heap.size, 4, none⟩)) u
  go_wp2
  go_loopw [6] (fun i wr => ∃ K : Nat, K ≤ 5 ∧ i = .int .i64 K ∧ w1 = wr ∧ Hid (fitTo (n0, n1, n2, n3, n4) K)) (fun i _ => 5 - (intOf i).toNat)
  case atStart => exact ⟨0, by omega, rfl, rfl, hide (fitTo.zero _)⟩
  case round =>
    obtain ⟨K, hK, rfl, rfl, hF⟩ := hrel
    have hcases : K = 0 ∨ K = 1 ∨ K = 2 ∨ K = 3 ∨ K = 4 ∨ K = 5 := by omega
    rcases hcases with rfl | rfl | rfl | rfl | rfl | rfl
    · by_cases h0 : n0 < 0
      · go_wp2
        go_ret
        exact ⟨ret_int (scheck_no (bok_no (K := 0) (n := n0) rfl (fun h => by unfold bfit at h; omega))).symm, c1⟩
      · by_cases h1 : 1099511627776 < n0
        · go_wp2
          go_ret
          exact ⟨ret_int (scheck_no (bok_no (K := 0) (n := n0) rfl (fun h => by unfold bfit at h; omega))).symm, c1⟩
        · go_wp2
          go_roundw
          case rel => exact ⟨0 + 1, by omega, by go_num, trivial, hide (hF.out.next (n := n0) rfl (by unfold bfit; omega))⟩
          case measure => simp [intOf]
    · by_cases h0 : n1 < 0
      · go_wp2
        go_ret
        exact ⟨ret_int (scheck_no (bok_no (K := 1) (n := n1) rfl (fun h => by unfold bfit at h; omega))).symm, c1⟩
      · by_cases h1 : 1099511627776 < n1
        · go_wp2
          go_ret
          exact ⟨ret_int (scheck_no (bok_no (K := 1) (n := n1) rfl (fun h => by unfold bfit at h; omega))).symm, c1⟩
        · go_wp2
          go_roundw
          case rel => exact ⟨1 + 1, by omega, by go_num, trivial, hide (hF.out.next (n := n1) rfl (by unfold bfit; omega))⟩
          case measure => simp [intOf]
    · by_cases h0 : n2 < 0
      · go_wp2
        go_ret
        exact ⟨ret_int (scheck_no (bok_no (K := 2) (n := n2) rfl (fun h => by unfold bfit at h; omega))).symm, c1⟩
      · by_cases h1 : 1099511627776 < n2
        · go_wp2
          go_ret
          exact ⟨ret_int (scheck_no (bok_no (K := 2) (n := n2) rfl (fun h => by unfold bfit at h; omega))).symm, c1⟩
        · go_wp2
          go_roundw
          case rel => exact ⟨2 + 1, by omega, by go_num, trivial, hide (hF.out.next (n := n2) rfl (by unfold bfit; omega))⟩
          case measure => simp [intOf]
    · by_cases h0 : n3 < 0
      · go_wp2
        go_ret
        exact ⟨ret_int (scheck_no (bok_no (K := 3) (n := n3) rfl (fun h => by unfold bfit at h; omega))).symm, c1⟩
      · by_cases h1 : 1099511627776 < n3
        · go_wp2
          go_ret
          exact ⟨ret_int (scheck_no (bok_no (K := 3) (n := n3) rfl (fun h => by unfold bfit at h; omega))).symm, c1⟩
        · go_wp2
          go_roundw
          case rel => exact ⟨3 + 1, by omega, by go_num, trivial, hide (hF.out.next (n := n3) rfl (by unfold bfit; omega))⟩
          case measure => simp [intOf]
    · by_cases h0 : n4 < 0
      · go_wp2
        go_ret
        exact ⟨ret_int (scheck_no (bok_no (K := 4) (n := n4) rfl (fun h => by unfold bfit at h; omega))).symm, c1⟩
      · by_cases h1 : 1099511627776 < n4
        · go_wp2
          go_ret
          exact ⟨ret_int (scheck_no (bok_no (K := 4) (n := n4) rfl (fun h => by unfold bfit at h; omega))).symm, c1⟩
        · go_wp2
          go_roundw
          case rel => exact ⟨4 + 1, by omega, by go_num, trivial, hide (hF.out.next (n := n4) rfl (by unfold bfit; omega))⟩
          case measure => simp [intOf]
    · go_wp2
      go_ret
      exact ⟨ret_int (scheck_ok hF.out.all).symm, c1⟩

set_option maxRecDepth 100000 in
/-- a block's numbers as a list of one's own -/
theorem rnumbers_any (w : World) (b : Blk) : Calls Try.prog 32 #[.agg #[.int .i64 b.1, .int .i64 b.2.1, .int .i64 b.2.2.1, .int .i64 b.2.2.2.1, .int .i64 b.2.2.2.2]] w fun e w' => ∃ g, e = .returned (.slice (some ⟨g, 0, none⟩) 5 5) ∧ w'.heap[g]? = some (.cells #[.int .i64 b.1, .int .i64 b.2.1, .int .i64 b.2.2.1, .int .i64 b.2.2.2.1, .int .i64 b.2.2.2.2] 3 (0, 0)) ∧ Below w.heap.size w w' := by
  obtain ⟨n0, n1, n2, n3, n4⟩ := b
  dsimp only
  obtain ⟨X, hX, X0, bX, sX⟩ := boxedN w #[.int .i64 n0, .int .i64 n1, .int .i64 n2, .int .i64 n3, .int .i64 n4] 23
  obtain ⟨⟨d0, d1, d2, d3, d4⟩, _⟩ := cells5 X0
  obtain ⟨Y, hY, Y0, bY, sY⟩ := boxedN X #[.int .i64 n0, .int .i64 n1, .int .i64 n2, .int .i64 n3, .int .i64 n4] 3
  rw [sX] at Y0
  rw [hX] at d0 d1 d2 d3 d4
  go_enter Try.func32, Try.ntmps32
  go_wp2
  rw [← hX, ← hY]
  go_ret
  exact ⟨_, rfl, Y0, bX.trans (bY.mono bX.size)⟩
set_option maxRecDepth 100000 in
set_option maxHeartbeats 2000000 in
theorem rcheck6_any (w : World) (b : Blk) : Calls Try.prog 17 #[.agg #[.int .i64 b.1, .int .i64 b.2.1, .int .i64 b.2.2.1, .int .i64 b.2.2.2.1, .int .i64 b.2.2.2.2]] w fun e w' => e = .returned (.int .i64 (scheck b)) ∧ Below w.heap.size w w' := by
  obtain ⟨n0, n1, n2, n3, n4⟩ := b
  dsimp only
  obtain ⟨X, hX, X0, bX, sX⟩ := boxedN w #[.int .i64 n0, .int .i64 n1, .int .i64 n2, .int .i64 n3, .int .i64 n4] 23
  obtain ⟨⟨d0, d1, d2, d3, d4⟩, _⟩ := cells5 X0
  rw [hX] at d0 d1 d2 d3 d4
  go_enter Try.func17, Try.ntmps17
  go_wp2_with fail
  rw [← hX]
  clear d0 d1 d2 d3 d4
  replace hX := hide hX
  refine (rnumbers_any X (n0, n1, n2, n3, n4)).mono ?_
  rintro e w1 ⟨g, rfl, X1, b1⟩
  have c1 := bX.trans (b1.mono bX.size)
  obtain ⟨⟨d0, d1, d2, d3, d4⟩, _⟩ := cells5 X1
  dsimp only at d0 d1 d2 d3 d4
  clear X0 bX X1 b1
  go_wp2
  go_loopw [4] (fun i wr => ∃ K : Nat, K ≤ 5 ∧ i = .int .i64 K ∧ w1 = wr ∧ Hid (fitTo (n0, n1, n2, n3, n4) K)) (fun i _ => 5 - (intOf i).toNat)
  case atStart => exact ⟨0, by omega, rfl, rfl, hide (fitTo.zero _)⟩
  case round =>
    obtain ⟨K, hK, rfl, rfl, hF⟩ := hrel
    have hcases : K = 0 ∨ K = 1 ∨ K = 2 ∨ K = 3 ∨ K = 4 ∨ K = 5 := by omega
    rcases hcases with rfl | rfl | rfl | rfl | rfl | rfl
    · by_cases h0 : n0 < 0
      · go_wp2
        go_ret
        exact ⟨ret_int (scheck_no (bok_no (K := 0) (n := n0) rfl (fun h => by unfold bfit at h; omega))).symm, c1⟩
      · by_cases h1 : 1099511627776 < n0
        · go_wp2
          go_ret
          exact ⟨ret_int (scheck_no (bok_no (K := 0) (n := n0) rfl (fun h => by unfold bfit at h; omega))).symm, c1⟩
        · go_wp2
          go_roundw
          case rel => exact ⟨0 + 1, by omega, by go_num, trivial, hide (hF.out.next (n := n0) rfl (by unfold bfit; omega))⟩
          case measure => simp [intOf]
    · by_cases h0 : n1 < 0
      · go_wp2
        go_ret
        exact ⟨ret_int (scheck_no (bok_no (K := 1) (n := n1) rfl (fun h => by unfold bfit at h; omega))).symm, c1⟩
      · by_cases h1 : 1099511627776 < n1
        · go_wp2
          go_ret
          exact ⟨ret_int (scheck_no (bok_no (K := 1) (n := n1) rfl (fun h => by unfold bfit at h; omega))).symm, c1⟩
        · go_wp2
          go_roundw
          case rel => exact ⟨1 + 1, by omega, by go_num, trivial, hide (hF.out.next (n := n1) rfl (by unfold bfit; omega))⟩
          case measure => simp [intOf]
    · by_cases h0 : n2 < 0
      · go_wp2
        go_ret
        exact ⟨ret_int (scheck_no (bok_no (K := 2) (n := n2) rfl (fun h => by unfold bfit at h; omega))).symm, c1⟩
      · by_cases h1 : 1099511627776 < n2
        · go_wp2
          go_ret
          exact ⟨ret_int (scheck_no (bok_no (K := 2) (n := n2) rfl (fun h => by unfold bfit at h; omega))).symm, c1⟩
        · go_wp2
          go_roundw
          case rel => exact ⟨2 + 1, by omega, by go_num, trivial, hide (hF.out.next (n := n2) rfl (by unfold bfit; omega))⟩
          case measure => simp [intOf]
    · by_cases h0 : n3 < 0
      · go_wp2
        go_ret
        exact ⟨ret_int (scheck_no (bok_no (K := 3) (n := n3) rfl (fun h => by unfold bfit at h; omega))).symm, c1⟩
      · by_cases h1 : 1099511627776 < n3
        · go_wp2
          go_ret
          exact ⟨ret_int (scheck_no (bok_no (K := 3) (n := n3) rfl (fun h => by unfold bfit at h; omega))).symm, c1⟩
        · go_wp2
          go_roundw
          case rel => exact ⟨3 + 1, by omega, by go_num, trivial, hide (hF.out.next (n := n3) rfl (by unfold bfit; omega))⟩
          case measure => simp [intOf]
    · by_cases h0 : n4 < 0
      · go_wp2
        go_ret
        exact ⟨ret_int (scheck_no (bok_no (K := 4) (n := n4) rfl (fun h => by unfold bfit at h; omega))).symm, c1⟩
      · by_cases h1 : 1099511627776 < n4
        · go_wp2
          go_ret
          exact ⟨ret_int (scheck_no (bok_no (K := 4) (n := n4) rfl (fun h => by unfold bfit at h; omega))).symm, c1⟩
        · go_wp2
          go_roundw
          case rel => exact ⟨4 + 1, by omega, by go_num, trivial, hide (hF.out.next (n := n4) rfl (by unfold bfit; omega))⟩
          case measure => simp [intOf]
    · go_wp2
      go_ret
      exact ⟨ret_int (scheck_ok hF.out.all).symm, c1⟩

end Go.Proofs.Ytpebgepjohlklaa
