/-
  The contracts of transeptref01.Put and transeptref01.Get: they come to what octets.Put and octets.Get come to.
-/
import Derived.Test.YtgmkknonnidgaaaOwn
import Derived.Test.YtgmkknonnidgaaaNums
namespace Go.Proofs.Ytgmkknonnidgaaa
open Go.RowKit
set_option linter.unusedVariables false
set_option maxRecDepth 100000 in
set_option maxHeartbeats 400000 in
theorem refNumber_any (w : World) (v : Value) (xs : List UInt8) (h : Rd w v xs) (h8 : xs.length ≤ 8) :
    Calls Try.prog 107 #[v] w fun e w' => e = .returned (.int .u64 (numOf xs : Nat)) ∧ w = w' := by
  obtain ⟨a1, c1, rfl, l1, m1, n1, r1⟩ := h
  rw [show maxLen = 9223372036854775807 from rfl] at m1
  go_enter Try.func107, Try.ntmps107
  go_wp2
  go_loop [3, 4] (fun s i => ∃ k : Nat, k ≤ xs.length ∧ i = .int .i64 k ∧ s = .int .u64 (numTo xs k : Nat)) (fun _ i => xs.length - (intOf i).toNat)
  case atStart => exact ⟨0, Nat.zero_le _, rfl, rfl⟩
  case round =>
    obtain ⟨k, hk, rfl, rfl⟩ := hrel
    by_cases hlt : k < xs.length
    · rcases r1 with r1 | ⟨b1, o1, rfl, hc1⟩
      · rw [r1] at hlt; simp at hlt
      have g1 := hc1 k hlt
      have hq : (k : Int) < (xs.length : Int) := by omega
      have hb := bt_bd xs k
      have hnl : numTo xs k < 72057594037927936 := by
        have h1 := numTo_lt xs k
        have h2 : (2 : Nat) ^ (8 * k) ≤ 2 ^ 56 := Nat.pow_le_pow_right (by omega) (by omega)
        have h3 : (2 : Nat) ^ 56 = 72057594037927936 := by decide
        omega
      have HS : Hid (((numTo xs (k + 1) : Nat) : Int) = (numTo xs k : Nat) * 256 + bt xs k) := by
        show ((numTo xs k * 256 + (xs.getD k 0).toNat : Nat) : Int) = _
        rw [Int.natCast_add, Int.natCast_mul]; rfl
      generalize numTo xs k = z at *
      generalize bt xs k = y at *
      clear hc1
      go_wp2
      go_round
      case rel => exact ⟨k + 1, by omega, by go_num, by rw [HS.out]⟩
      case measure => simp [intOf]; omega
    · go_wp2
      go_ret
      exact ⟨by rw [show k = xs.length from by omega]; rfl, rfl⟩

end Go.Proofs.Ytgmkknonnidgaaa
