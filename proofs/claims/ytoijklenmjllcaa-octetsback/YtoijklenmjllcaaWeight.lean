/-
  The contract of octets.Weight: it tells how many bits are 1; it only reads.
-/
import Derived.Test.YtoijklenmjllcaaApart
namespace Go.Proofs.Ytoijklenmjllcaa
open Go.RowKit
set_option linter.unusedVariables false

set_option maxHeartbeats 400000 in
theorem weight_any (w : World) (v1 : Value) (xs : List UInt8) (h1 : Rd w v1 xs) (hm : xs.length ≤ 1000000000000000) :
    Calls Try.prog 16 #[v1] w fun e w' => e = .returned (.int .i64 (wt xs)) ∧ w' = w := by
  obtain ⟨a1, c1, rfl, l1, m1, n1, r1⟩ := h1
  unfold maxLen at m1
  go_enter Try.func16, Try.ntmps16
  go_wp2
  go_loop [3, 8] (fun s i => ∃ k : Nat, k ≤ xs.length ∧ i = .int .i64 k ∧ s = .int .i64 (wtTo xs k)) (fun _ i => xs.length - (intOf i).toNat)
  case atStart => exact ⟨0, Nat.zero_le _, rfl, rfl⟩
  case round =>
    obtain ⟨k, hk, rfl, rfl⟩ := hrel
    have hle := wtTo_le xs k
    by_cases hlt : k < xs.length
    · rcases r1 with r1 | ⟨b1, o1, rfl, hc1⟩
      · rw [r1] at hlt; simp at hlt
      have g1 := hc1 k hlt
      have hq : (k : Int) < (xs.length : Int) := by omega
      have hb := bt_bd xs k
      have hp := pc_le (xs.getD k 0)
      unfold pc at hp
      have HS : Hid (((wtTo xs (k + 1) : Nat) : Int) = (wtTo xs k : Int) + (Lib.onesCount (xs.getD k 0).toNat : Int)) := wtTo_step xs k
      have HB : Hid ((bt xs k).toNat = (xs.getD k 0).toNat) := by show (bt xs k).toNat = _; simp [bt]
      rw [← HB.out] at HS hp
      generalize bt xs k = z at *
      clear hc1
      go_wp2_with (go_at_call 24; refine (ones_any _ _ (by omega) (by omega)).mono ?_; rintro e w' ⟨rfl, rfl⟩)
      go_round
      case rel => exact ⟨k + 1, by omega, by go_num, by rw [HS.out]⟩
      case measure => simp [intOf]; omega
    · go_wp2
      go_ret
      exact ⟨by rw [show k = xs.length from by omega]; rfl, rfl⟩

end Go.Proofs.Ytoijklenmjllcaa
