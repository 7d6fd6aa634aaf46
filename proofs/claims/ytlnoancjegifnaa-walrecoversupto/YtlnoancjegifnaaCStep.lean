/-
  The contracts of crc's inner functions step, product, octetsLong, and of Join; and of the page's turn and Join.
-/
import Derived.Test.YtlnoancjegifnaaBase
import Derived.Test.YtlnoancjegifnaaCMath
import Derived.Test.YtlnoancjegifnaaChecked
namespace Go.Proofs.Ytlnoancjegifnaa
open Go.RowKit
set_option linter.unusedVariables false

theorem st_int (r : Nat) (h : r < M32) : (r % 2 = 1 → bits .xor .u32 ((r : Int) / 2) 2197175160 = (st r : Int)) ∧ (r % 2 ≠ 1 → (r : Int) / 2 = (st r : Int)) := by
  unfold M32 at h
  refine ⟨fun h1 => ?_, fun h1 => ?_⟩
  · rw [show (r : Int) / 2 = ((r / 2 : Nat) : Int) from by omega, show (2197175160 : Int) = ((2197175160 : Nat) : Int) from rfl, u32_xor_nat _ _ (by omega) (by omega)]
    unfold st; rw [if_pos h1]; rfl
  · unfold st; rw [if_neg h1]; simp

theorem and1_int (r : Nat) (h : r < M32) : bits .and .u32 (r : Int) 1 = ((r % 2 : Nat) : Int) := by
  unfold M32 at h
  rw [show (1 : Int) = ((1 : Nat) : Int) from rfl, u32_and_nat _ _ (by omega) (by omega), nat_mask1]

set_option maxRecDepth 100000 in
theorem step_any (w : World) (r : Nat) (h : r < M32) :
    Calls Try.prog 70 #[.int .u32 r] w fun e w' => e = .returned (.int .u32 (st r : Nat)) ∧ w = w' := by
  obtain ⟨h1, h2⟩ := st_int r h
  have ha := and1_int r h
  by_cases hr : r % 2 = 1
  · have hb : (bits .and .u32 (r : Int) 1 != 0) = true := by rw [ha, hr]; rfl
    replace h1 := hide (h1 hr)
    clear h2 ha hr
    go_enter Try.func70, Try.ntmps70
    go_wp2
    go_ret
    exact ⟨ret_int h1.out, rfl⟩
  · have hb : (bits .and .u32 (r : Int) 1 != 0) = false := by rw [ha, show r % 2 = 0 by omega]; rfl
    replace h2 := hide (h2 hr)
    clear h1 ha hr
    go_enter Try.func70, Try.ntmps70
    go_wp2
    go_ret
    exact ⟨ret_int h2.out, rfl⟩
theorem top_int (k : Nat) (hk : k < 32) : (2147483648 : Int) / 2 ^ k = ((2 ^ (31 - k) : Nat) : Int) := by
  have e : (2147483648 : Nat) = 2 ^ (31 - k) * 2 ^ k := by rw [← Nat.pow_add, show 31 - k + k = 31 by omega]
  rw [show (2147483648 : Int) = ((2147483648 : Nat) : Int) from rfl, e]
  push_cast
  exact Int.mul_ediv_cancel _ (Int.pow_ne_zero (by decide))
theorem topbit_int (a k : Nat) (ha : a < M32) (hk : k < 32) : (bits .and .u32 (a : Int) (2147483648 / 2 ^ k) != 0) = a.testBit (31 - k) := by
  have hp : 2 ^ (31 - k) < 2 ^ 32 := Nat.pow_lt_pow_right (by decide) (by omega)
  rw [top_int k hk, u32_and_nat _ _ ha hp, nat_bit, Nat.testBit_eq_decide_div_mod_eq]
  have h0 := Nat.two_pow_pos (31 - k)
  rcases Nat.mod_two_eq_zero_or_one (a / 2 ^ (31 - k)) with h | h
  · rw [h]; simp
  · rw [h]
    have : ((1 * 2 ^ (31 - k) : Nat) : Int) ≠ 0 := by omega
    simp only [bne, decide_true, Bool.not_eq_true', beq_eq_false_iff_ne]
    exact this

theorem and1_i64 (n : Nat) : bits .and .i64 (n : Int) 1 = ((n % 2 : Nat) : Int) := by
  have h1 : (BitVec.ofInt 64 1).toNat = 2 ^ 1 - 1 := by decide
  have key : (BitVec.ofInt 64 (n : Int) &&& BitVec.ofInt 64 1).toNat = n % 2 ^ 64 % 2 ^ 1 := by
    rw [BitVec.toNat_and, BitVec.ofInt_natCast, BitVec.toNat_ofNat, h1, Nat.and_two_pow_sub_one_eq_mod]
  show IntKind.i64.wrap ((BitVec.ofInt 64 (n : Int) &&& BitVec.ofInt 64 1).toNat : Nat) = _
  rw [key, IntKind.wrap_i64]
  omega

theorem prTo_pos {a b k : Nat} (h : a.testBit (31 - k) = true) : prTo a b (k + 1) = prTo a b k ^^^ stn k b := by
  show _ ^^^ _ = _; rw [if_pos h]
theorem prTo_neg {a b k : Nat} (h : a.testBit (31 - k) = false) : prTo a b (k + 1) = prTo a b k := by
  show _ ^^^ _ = _; rw [if_neg (by simp [h])]; simp
theorem xor_int (a b : Nat) (ha : a < M32) (hb : b < M32) : bits .xor .u32 (a : Int) (b : Int) = ((a ^^^ b : Nat) : Int) := u32_xor_nat a b ha hb

def outJ (n : Int) : Bool := decide (n < 0 ∨ 1048576 < n)
def jn (a b : Nat) (n : Int) : Nat := if outJ n then 0 else stn (8 * n.toNat) a ^^^ b
def je (n : Int) : Int := if outJ n then 4 else 0

/-! the page's own -/
set_option maxRecDepth 100000 in
set_option maxHeartbeats 400000 in
theorem turn_any (w : World) (r o : Nat) (hr : r < M32) (ho : o < 256) :
    Calls Try.prog 64 #[.int .u32 r, .int .u8 o] w fun e w' => e = .returned (.int .u32 (tn r o : Nat)) ∧ w = w' := by
  have ho2 : o < M32 := by unfold M32; omega
  have HX := hide (xor_int r o hr ho2)
  go_enter Try.func64, Try.ntmps64
  go_wp2
  go_loop [0, 5] (fun s i => ∃ k : Nat, k ≤ 8 ∧ i = .int .i64 k ∧ s = .int .u32 (stn k (r ^^^ o) : Nat)) (fun _ i => 8 - (intOf i).toNat)
  case atStart => exact ⟨0, Nat.zero_le _, rfl, by first | exact congrArg _ HX.out | (simp; exact HX.out)⟩
  case round =>
    obtain ⟨k, hk, rfl, rfl⟩ := hrel
    by_cases hlt : k < 8
    · have hq : (k : Int) < 8 := by omega
      have hs := stn_lt k (xor_lt hr ho2)
      have HS := hide (stn_succ k (r ^^^ o))
      generalize stn k (r ^^^ o) = s at *
      obtain ⟨h1, h2⟩ := st_int s hs
      have ha := and1_int s hs
      by_cases hr : s % 2 = 1
      · have hb : bits .and .u32 (s : Int) 1 = 1 := by rw [ha, hr]; rfl
        replace h1 := hide (h1 hr)
        clear h2 ha hr
        go_wp2
        go_round
        case rel => exact ⟨k + 1, by omega, by go_num, by rw [HS.out, h1.out]⟩
        case measure => simp [intOf]; omega
      · have hb : bits .and .u32 (s : Int) 1 = 0 := by rw [ha, show s % 2 = 0 by omega]; rfl
        replace h2 := hide (h2 hr)
        clear h1 ha hr
        go_wp2
        go_round
        case rel => exact ⟨k + 1, by omega, by go_num, by rw [HS.out, h2.out]⟩
        case measure => simp [intOf]; omega
    · go_wp2
      go_ret
      exact ⟨ret_int (by rw [show k = 8 from by omega]; rfl), rfl⟩

theorem inv_int (r : Nat) (h : r < M32) : bits .xor .u32 IntKind.u32.max (r : Int) = ((inv r : Nat) : Int) := by
  show bits .xor .u32 4294967295 (r : Int) = _
  unfold inv; rw [ff_eq, show (4294967295 : Int) = ((4294967295 : Nat) : Int) from rfl]
  exact xor_int _ _ (by decide) h

theorem tn_zero (r : Nat) : tn r 0 = stn 8 r := by unfold tn; rw [Nat.xor_zero]

end Go.Proofs.Ytlnoancjegifnaa
