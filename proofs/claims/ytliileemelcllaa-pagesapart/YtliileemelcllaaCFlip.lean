/-
  One bit of octets turned ('fl'), and bits in a row: the sum tells. Nothing of the program is named.
-/
import Derived.Test.YtliileemelcllaaCMath
namespace Go.Proofs.Ytliileemelcllaa
set_option linter.unusedVariables false

theorem mul_xor (k a b : Nat) : 2 ^ k * (a ^^^ b) = 2 ^ k * a ^^^ 2 ^ k * b := by
  apply Nat.eq_of_testBit_eq; intro i
  simp only [Nat.testBit_two_pow_mul, Nat.testBit_xor]
  cases decide (i ≥ k) <;> simp

/-- one bit of the octets turned -/
def fl (xs : List UInt8) (p : Nat) : List UInt8 := xs.set (p / 8) (xs.getD (p / 8) 0 ^^^ UInt8.ofNat (2 ^ (p % 8)))
theorem fl_len (xs : List UInt8) (p : Nat) : (fl xs p).length = xs.length := by simp [fl]
theorem fl_num (xs : List UInt8) : ∀ p, p / 8 < xs.length → num (fl xs p) = num xs ^^^ 2 ^ p := by
  induction xs with
  | nil => intro p h; simp at h
  | cons x xs ih =>
    intro p h
    by_cases hp : p < 8
    · have e1 : p / 8 = 0 := by omega
      have e2 : p % 8 = p := by omega
      have e3 : 2 ^ p < 256 := Nat.pow_lt_pow_right (a := 2) (n := 8) (by decide) hp
      unfold fl
      rw [e1, e2]
      show num ((x ^^^ UInt8.ofNat (2 ^ p)) :: xs) = _
      rw [num, num, UInt8.toNat_xor, UInt8.toNat_ofNat_of_lt' e3, Nat.xor_assoc, Nat.xor_comm (2 ^ p), ← Nat.xor_assoc]
    · obtain ⟨q, rfl⟩ : ∃ q, p = 8 + q := ⟨p - 8, by omega⟩
      have e1 : (8 + q) / 8 = q / 8 + 1 := by omega
      have e2 : (8 + q) % 8 = q % 8 := by omega
      have := ih q (by rw [e1] at h; simpa using h)
      unfold fl at this ⊢
      rw [e1, e2]
      show num (x :: xs.set (q / 8) (xs.getD (q / 8) 0 ^^^ UInt8.ofNat (2 ^ (q % 8)))) = _
      rw [num, num, this, mul_xor, ← Nat.xor_assoc, Nat.pow_add]

set_option maxRecDepth 100000 in
theorem turned {xs ys : List UInt8} {at_ t : Nat} (hl : ys.length = xs.length) (h : num ys = num xs ^^^ 2 ^ at_ * t) (ha : at_ ≤ 8 * xs.length) (ht : t < M32) (h0 : t ≠ 0) : sum ys ≠ sum xs := by
  intro e
  have e2 : reg (inv 0) ys = reg (inv 0) xs := inv_inj e
  rw [reg_num, reg_num, hl, h, ← Nat.xor_assoc, stn_xor] at e2
  have e3 : stn (8 * xs.length) (2 ^ at_ * t) = 0 := by
    have := congrArg (stn (8 * xs.length) (inv 0 ^^^ num xs) ^^^ ·) e2
    simp only [xor_back, Nat.xor_self] at this
    exact this
  rw [show 8 * xs.length = (8 * xs.length - at_) + at_ from by omega, stn_add, stn_pow] at e3
  exact stn_ne _ ht h0 e3

end Go.Proofs.Ytliileemelcllaa
