/-
  The contract of octets.Apart: what it tells of two lists; it only reads.
-/
import Derived.Test.YtoijklenmjllcaaLeaf
namespace Go.Proofs.Ytoijklenmjllcaa
open Go.RowKit
set_option linter.unusedVariables false

theorem apTo_step (xs ys : List UInt8) (k : Nat) : ((apTo xs ys (k + 1) : Nat) : Int) = (apTo xs ys k : Int) + (Lib.onesCount (xs.getD k 0 ^^^ ys.getD k 0).toNat : Int) := by
  simp [apTo, pc]
theorem wtTo_step (xs : List UInt8) (k : Nat) : ((wtTo xs (k + 1) : Nat) : Int) = (wtTo xs k : Int) + (Lib.onesCount (xs.getD k 0).toNat : Int) := by
  simp [wtTo, pc]

set_option maxHeartbeats 400000 in
theorem apart_any (w : World) (v1 v2 : Value) (xs ys : List UInt8) (h1 : Rd w v1 xs) (h2 : Rd w v2 ys) (hl : xs.length = ys.length) (hm : xs.length ≤ 1000000000000000) :
    Calls Try.prog 9 #[v1, v2] w fun e w' => e = .returned (.tuple #[.int .i64 (ap xs ys), .int .i64 0]) ∧ ∃ n, w' = w.drewN n := by
  obtain ⟨a1, c1, rfl, l1, m1, n1, r1⟩ := h1
  obtain ⟨a2, c2, rfl, l2, m2, n2, r2⟩ := h2
  unfold maxLen at m1 m2
  have hne : ((xs.length : Int) != (ys.length : Int)) = false := by simp; omega
  have HL : Hid (xs.length = ys.length) := hl
  clear hl
  go_enter Try.func9, Try.ntmps9
  go_wp2
  go_loopw [6, 15] (fun s i wr => ∃ k n : Nat, k ≤ xs.length ∧ i = .int .i64 k ∧ s = .int .i64 (apTo xs ys k) ∧ wr = w.drewN n) (fun _ i _ => xs.length - (intOf i).toNat)
  case atStart => exact ⟨0, 0, Nat.zero_le _, rfl, rfl, rfl⟩
  case round =>
    obtain ⟨k, n, hk, rfl, rfl, hwr⟩ := hrel
    have HW : Hid (wr = w.drewN n) := hwr
    clear hwr
    have hle := apTo_le xs ys k
    by_cases hlt : k < xs.length
    · rcases r1 with r1 | ⟨b1, o1, rfl, hc1⟩
      · rw [r1] at hlt; simp at hlt
      rcases r2 with r2 | ⟨b2, o2, rfl, hc2⟩
      · rw [HL.out, r2] at hlt; simp at hlt
      have g1 : wr.cell? ⟨b1, o1 + k, none⟩ = some (.int .u8 (bt xs k)) := by rw [HW.out]; exact hc1 k hlt
      have g2 : wr.cell? ⟨b2, o2 + k, none⟩ = some (.int .u8 (bt ys k)) := by rw [HW.out]; exact hc2 k (by have := HL.out; omega)
      have hq : (k : Int) < (xs.length : Int) := by omega
      have hq2 : (k : Int) < (ys.length : Int) := by have := HL.out; omega
      have hx := bt_xor xs ys k
      have hb := (xs.getD k 0 ^^^ ys.getD k 0).toNat_lt
      have hp := pc_le (xs.getD k 0 ^^^ ys.getD k 0)
      unfold pc at hp
      have HS : Hid (((apTo xs ys (k + 1) : Nat) : Int) = (apTo xs ys k : Int) + (Lib.onesCount (xs.getD k 0 ^^^ ys.getD k 0).toNat : Int)) := apTo_step xs ys k
      generalize xs.getD k 0 ^^^ ys.getD k 0 = z at *
      clear hc1 hc2
      go_wp2
      go_quiet ((go_at_call 24; exact Calls.quiet_of_same (ones_any _ _ (by omega) (by omega))))
      go_wp2
      go_roundw
      case rel => exact ⟨k + 1, n + nq, by omega, by go_num, by rw [HS.out], by rw [HW.out, World.drewN_drewN]⟩
      case measure => simp [intOf]; omega
    · go_wp2
      go_ret2
      exact ⟨by rw [show k = xs.length from by omega]; rfl, n, HW.out⟩

set_option maxHeartbeats 400000 in
theorem apart_unlike (w : World) (v1 v2 : Value) (xs ys : List UInt8) (h1 : Rd w v1 xs) (h2 : Rd w v2 ys) (hl : xs.length ≠ ys.length) :
    Calls Try.prog 9 #[v1, v2] w fun e w' => e = .returned (.tuple #[.int .i64 0, .int .i64 3]) ∧ ∃ n, w' = w.drewN n := by
  obtain ⟨a1, c1, rfl, l1, m1, n1, r1⟩ := h1
  obtain ⟨a2, c2, rfl, l2, m2, n2, r2⟩ := h2
  unfold maxLen at m1 m2
  have hne : ((xs.length : Int) != (ys.length : Int)) = true := by simp; omega
  clear hl
  go_enter Try.func9, Try.ntmps9
  go_wp2
  go_ret2
  exact ⟨rfl, 0, rfl⟩

end Go.Proofs.Ytoijklenmjllcaa
