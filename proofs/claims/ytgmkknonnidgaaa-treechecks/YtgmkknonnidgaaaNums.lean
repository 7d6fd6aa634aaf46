/-
  A number as octets, the highest first ('oc'), and back ('numOf'): plain. Nothing of the program is named.
-/
import Derived.Test.YtgmkknonnidgaaaOwn
namespace Go.Proofs.Ytgmkknonnidgaaa
open Go.RowKit
set_option linter.unusedVariables false

/-- the octet of n that lies k octets above the lowest -/
def ob (n k : Nat) : UInt8 := UInt8.ofNat (n / 2 ^ (8 * k))
/-- n as s octets, the highest first -/
def oc (n s : Nat) : List UInt8 := (List.range s).map fun j => ob n (s - 1 - j)
theorem oc_length (n s : Nat) : (oc n s).length = s := by simp [oc]
theorem enc_ob (n k : Nat) : enc (ob n k) = .int .u8 ((n : Int) / 2 ^ (8 * k) % 256) := by
  unfold enc ob
  congr 1

/-- the number that the first k octets are -/
def numTo (xs : List UInt8) : Nat → Nat
  | 0 => 0
  | k + 1 => numTo xs k * 256 + (xs.getD k 0).toNat
def numOf (xs : List UInt8) : Nat := numTo xs xs.length
theorem numTo_lt (xs : List UInt8) (k : Nat) : numTo xs k < 2 ^ (8 * k) := by
  induction k with
  | zero => simp [numTo]
  | succ k ih =>
    have := (xs.getD k 0).toNat_lt
    simp only [numTo]
    rw [show 8 * (k + 1) = 8 * k + 8 from by omega, Nat.pow_add]
    omega
theorem ob_toNat (n k : Nat) : (ob n k).toNat = n / 2 ^ (8 * k) % 256 := by
  unfold ob; rw [UInt8.toNat_ofNat']
theorem numTo_oc (n s k : Nat) (hk : k ≤ s) (hn : n < 2 ^ (8 * s)) : numTo (oc n s) k = n / 2 ^ (8 * (s - k)) := by
  induction k with
  | zero => simp [numTo, Nat.div_eq_of_lt hn]
  | succ k ih =>
    simp only [numTo]
    rw [ih (by omega)]
    have e : (oc n s).getD k 0 = ob n (s - 1 - k) := by simp [oc, show k < s from by omega]
    rw [e, ob_toNat, show s - 1 - k = s - (k + 1) from by omega, show s - k = (s - (k + 1)) + 1 from by omega, show 8 * (s - (k + 1) + 1) = 8 * (s - (k + 1)) + 8 from by omega, Nat.pow_add, ← Nat.div_div_eq_div_mul]
    omega
theorem numOf_oc (n s : Nat) (hn : n < 2 ^ (8 * s)) : numOf (oc n s) = n := by
  unfold numOf
  rw [oc_length, numTo_oc n s s (Nat.le_refl _) hn]
  simp

end Go.Proofs.Ytgmkknonnidgaaa
