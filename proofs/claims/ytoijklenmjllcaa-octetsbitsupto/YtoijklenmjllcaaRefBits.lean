/-
  The document's answers, bit by bit: the contracts of transeptref01.bit, Weight and Apart; they come to what octets.Weight and octets.Apart come to.
-/
import Derived.Deep.RegionHeld3
import Derived.Test.YtoijklenmjllcaaApart
namespace Go.Proofs.Ytoijklenmjllcaa
open Go.RowKit
set_option linter.unusedVariables false

/-- the i-th bit of an octet, from the highest on -/
def ob8 (x : UInt8) (t : Nat) : Nat := x.toNat / 2 ^ (7 - t) % 2
theorem ob8_le (x : UInt8) (t : Nat) : ob8 x t ≤ 1 := by unfold ob8; omega
/-- the i-th bit of octets -/
def bn (xs : List UInt8) (i : Nat) : Nat := ob8 (xs.getD (i / 8) 0) (i % 8)
theorem bn_le (xs : List UInt8) (i : Nat) : bn xs i ≤ 1 := ob8_le _ _

/-- how many of the first i bits are 1, octet k being f k -/
def sumB (f : Nat → UInt8) : Nat → Nat
  | 0 => 0
  | i + 1 => sumB f i + ob8 (f (i / 8)) (i % 8)
def sumP (f : Nat → UInt8) : Nat → Nat
  | 0 => 0
  | k + 1 => sumP f k + pc (f k)
theorem pc_bits_fin : ∀ n : Fin 256, Lib.onesCount n.val = n.val / 2 ^ 7 % 2 + n.val / 2 ^ 6 % 2 + n.val / 2 ^ 5 % 2 + n.val / 2 ^ 4 % 2 + n.val / 2 ^ 3 % 2 + n.val / 2 ^ 2 % 2 + n.val / 2 ^ 1 % 2 + n.val / 2 ^ 0 % 2 := by decide +kernel
theorem pc_bits (x : UInt8) : pc x = ob8 x 0 + ob8 x 1 + ob8 x 2 + ob8 x 3 + ob8 x 4 + ob8 x 5 + ob8 x 6 + ob8 x 7 := pc_bits_fin ⟨x.toNat, x.toNat_lt⟩
theorem sumB_eight (f : Nat → UInt8) (k : Nat) : sumB f (8 * k) = sumP f k := by
  induction k with
  | zero => rfl
  | succ k ih =>
    rw [show 8 * (k + 1) = 8 * k + 1 + 1 + 1 + 1 + 1 + 1 + 1 + 1 from by omega]
    simp only [sumB]
    rw [ih]
    simp only [sumP]
    rw [pc_bits]
    rw [show 8 * k / 8 = k from by omega, show (8 * k + 1) / 8 = k from by omega, show (8 * k + 1 + 1) / 8 = k from by omega, show (8 * k + 1 + 1 + 1) / 8 = k from by omega, show (8 * k + 1 + 1 + 1 + 1) / 8 = k from by omega, show (8 * k + 1 + 1 + 1 + 1 + 1) / 8 = k from by omega, show (8 * k + 1 + 1 + 1 + 1 + 1 + 1) / 8 = k from by omega, show (8 * k + 1 + 1 + 1 + 1 + 1 + 1 + 1) / 8 = k from by omega]
    rw [show 8 * k % 8 = 0 from by omega, show (8 * k + 1) % 8 = 1 from by omega, show (8 * k + 1 + 1) % 8 = 2 from by omega, show (8 * k + 1 + 1 + 1) % 8 = 3 from by omega, show (8 * k + 1 + 1 + 1 + 1) % 8 = 4 from by omega, show (8 * k + 1 + 1 + 1 + 1 + 1) % 8 = 5 from by omega, show (8 * k + 1 + 1 + 1 + 1 + 1 + 1) % 8 = 6 from by omega, show (8 * k + 1 + 1 + 1 + 1 + 1 + 1 + 1) % 8 = 7 from by omega]
    omega
theorem sumB_le (f : Nat → UInt8) (i : Nat) : sumB f i ≤ i := by
  induction i with
  | zero => simp [sumB]
  | succ i ih => have := ob8_le (f (i / 8)) (i % 8); simp only [sumB]; omega
def gx (xs : List UInt8) (j : Nat) : UInt8 := xs.getD j 0
def gxy (xs ys : List UInt8) (j : Nat) : UInt8 := xs.getD j 0 ^^^ ys.getD j 0
theorem sumP_wt (xs : List UInt8) (k : Nat) : sumP (gx xs) k = wtTo xs k := by
  induction k with
  | zero => rfl
  | succ k ih => simp only [sumP, wtTo, ih, gx]
theorem sumP_ap (xs ys : List UInt8) (k : Nat) : sumP (gxy xs ys) k = apTo xs ys k := by
  induction k with
  | zero => rfl
  | succ k ih => simp only [sumP, apTo, ih, gxy]

set_option maxHeartbeats 400000 in
theorem bit_any (w : World) (v : Value) (xs : List UInt8) (h : Rd w v xs) (i : Int) (h0 : 0 ≤ i) (h1 : i < 8 * (xs.length : Int)) (hm : xs.length ≤ 140737488355328) :
    Calls Try.prog 25 #[v, .int .i64 i] w fun e w' => e = .returned (.int .u8 (bn xs i.toNat : Nat)) ∧ w = w' := by
  obtain ⟨n, rfl⟩ := Int.eq_ofNat_of_zero_le h0
  obtain ⟨a, c, rfl, l1, m1, n1, r1⟩ := h
  rcases r1 with r1 | ⟨b, off, rfl, hc⟩
  · rw [r1] at h1; simp at h1; omega
  have hk : n / 8 < xs.length := by omega
  have g := hc (n / 8) hk
  have hb := bt_bd xs (n / 8)
  have e : bits BinOp.and IntKind.u8 (bt xs (n / 8) / 2 ^ (7 - n % 8)) 1 = (bn xs n : Int) := by
    have e1 : bt xs (n / 8) / 2 ^ (7 - n % 8) = (((xs.getD (n / 8) 0).toNat / 2 ^ (7 - n % 8) : Nat) : Int) := by
      unfold bt; rw [Int.natCast_ediv, Int.natCast_pow]; rfl
    rw [e1, show (1 : Int) = ((1 : Nat) : Int) from rfl, u8_and_nat _ _ (Nat.lt_of_le_of_lt (Nat.div_le_self _ _) (UInt8.toNat_lt _)) (by omega), nat_mask1]
    rfl
  have E := hide e
  have hq : ((n / 8 : Nat) : Int) < (xs.length : Int) := by omega
  clear e hc
  go_enter Try.func25, Try.ntmps25
  go_wp2
  go_ret
  refine ⟨?_, rfl⟩
  refine ret_int ?_
  rw [Int.toNat_natCast]
  exact E.out

set_option maxHeartbeats 400000 in
theorem refWeight_any (w : World) (v1 : Value) (xs : List UInt8) (h1 : Rd w v1 xs) (hm : xs.length ≤ 140737488355328) :
    Calls Try.prog 17 #[v1] w fun e w' => e = .returned (.int .i64 (wt xs)) ∧ w = w' := by
  have KB := hide (fun i h0 h1' => bit_any w v1 xs h1 i h0 h1' hm)
  obtain ⟨a1, c1, rfl, l1, m1, n1, r1⟩ := h1
  rw [show maxLen = 9223372036854775807 from rfl] at m1
  clear n1 r1
  go_enter Try.func17, Try.ntmps17
  go_wp2
  go_loop [3, 4] (fun s i => ∃ k : Nat, k ≤ 8 * xs.length ∧ i = .int .i64 k ∧ s = .int .i64 (sumB (gx xs) k : Nat)) (fun _ i => 8 * xs.length - (intOf i).toNat)
  case atStart => exact ⟨0, Nat.zero_le _, rfl, rfl⟩
  case round =>
    obtain ⟨k, hk, rfl, rfl⟩ := hrel
    have hle := sumB_le (gx xs) k
    by_cases hlt : k < 8 * xs.length
    · have hb := bn_le xs k
      have HS : Hid (((sumB (gx xs) (k + 1) : Nat) : Int) = (sumB (gx xs) k : Nat) + (bn xs k : Nat)) := by
        show ((sumB _ k + ob8 _ _ : Nat) : Int) = _
        rw [Int.natCast_add]; rfl
      have hq : (k : Int) < 8 * (xs.length : Int) := by omega
      have KB' := KB.out (k : Int) (by omega) (by omega)
      rw [Int.toNat_natCast] at KB'
      have KK := hide KB'
      clear KB'
      generalize sumB (gx xs) k = z at *
      generalize bn xs k = y at *
      go_wp2_with (go_at_call 25; refine KK.out.mono ?_; rintro e w' ⟨rfl, rfl⟩)
      go_round
      case rel => exact ⟨k + 1, by omega, by go_num, by rw [HS.out]⟩
      case measure => simp [intOf]; omega
    · go_wp2
      go_ret
      refine ⟨ret_int ?_, rfl⟩
      rw [show k = 8 * xs.length from by omega, sumB_eight, sumP_wt]
      rfl

theorem xor_div_mod (x y m : Nat) : (x ^^^ y) / 2 ^ m % 2 = (x / 2 ^ m % 2 + y / 2 ^ m % 2) % 2 := by
  rw [Nat.xor_div_two_pow, xor_mod2]
  omega
theorem ob8_xor (x y : UInt8) (t : Nat) : ob8 (x ^^^ y) t = if ob8 x t = ob8 y t then 0 else 1 := by
  unfold ob8
  rw [UInt8.toNat_xor, xor_div_mod]
  split <;> omega

set_option maxHeartbeats 400000 in
theorem refApart_any (w : World) (v1 v2 : Value) (xs ys : List UInt8) (h1 : Rd w v1 xs) (h2 : Rd w v2 ys) (hl : xs.length = ys.length) (hm : xs.length ≤ 140737488355328) :
    Calls Try.prog 10 #[v1, v2] w fun e w' => e = .returned (.tuple #[.int .i64 (ap xs ys), .int .i64 0]) ∧ w = w' := by
  have KA := hide (fun i h0 h1' => bit_any w v1 xs h1 i h0 h1' hm)
  have KB := hide (fun i h0 h1' => bit_any w v2 ys h2 i h0 h1' (by rw [← hl]; exact hm))
  obtain ⟨a1, c1, rfl, l1, m1, n1, r1⟩ := h1
  obtain ⟨a2, c2, rfl, l2, m2, n2, r2⟩ := h2
  rw [show maxLen = 9223372036854775807 from rfl] at m1 m2
  have hne : ((xs.length : Int) != (ys.length : Int)) = false := by simp; omega
  have HL := hide hl
  clear n1 r1 n2 r2 hl
  go_enter Try.func10, Try.ntmps10
  go_wp2
  go_loop [6, 7] (fun s i => ∃ k : Nat, k ≤ 8 * xs.length ∧ i = .int .i64 k ∧ s = .int .i64 (sumB (gxy xs ys) k : Nat)) (fun _ i => 8 * xs.length - (intOf i).toNat)
  case atStart => exact ⟨0, Nat.zero_le _, rfl, rfl⟩
  case round =>
    obtain ⟨k, hk, rfl, rfl⟩ := hrel
    have hle := sumB_le (gxy xs ys) k
    by_cases hlt : k < 8 * xs.length
    · have hb := bn_le xs k
      have hb' := bn_le ys k
      have HS : Hid (((sumB (gxy xs ys) (k + 1) : Nat) : Int) = (sumB (gxy xs ys) k : Nat) + (if bn xs k = bn ys k then 0 else 1)) := by
        show ((sumB _ k + ob8 _ _ : Nat) : Int) = _
        rw [Int.natCast_add]
        unfold gxy
        rw [ob8_xor]
        congr 1
        show ((if bn xs k = bn ys k then 0 else 1 : Nat) : Int) = _
        split <;> rfl
      have hq : (k : Int) < 8 * (xs.length : Int) := by omega
      have KA' := KA.out (k : Int) (by omega) (by omega)
      have KB' := KB.out (k : Int) (by omega) (by have := HL.out; omega)
      rw [Int.toNat_natCast] at KA' KB'
      have KKA := hide KA'
      have KKB := hide KB'
      clear KA' KB'
      generalize sumB (gxy xs ys) k = z at *
      generalize bn xs k = y at *
      generalize bn ys k = y' at *
      by_cases he : y = y'
      · subst he
        rw [if_pos rfl] at HS
        go_wp2_with fail
        refine KKA.out.mono ?_
        rintro e w' ⟨rfl, rfl⟩
        go_wp2_with fail
        refine KKB.out.mono ?_
        rintro e w' ⟨rfl, rfl⟩
        go_wp2
        go_round
        case rel => exact ⟨k + 1, by omega, by go_num, by rw [HS.out]; simp⟩
        case measure => simp [intOf]; omega
      · rw [if_neg he] at HS
        have hn : ((y : Int) != (y' : Int)) = true := by simp; omega
        go_wp2_with fail
        refine KKA.out.mono ?_
        rintro e w' ⟨rfl, rfl⟩
        go_wp2_with fail
        refine KKB.out.mono ?_
        rintro e w' ⟨rfl, rfl⟩
        go_wp2
        go_round
        case rel => exact ⟨k + 1, by omega, by go_num, by rw [HS.out]⟩
        case measure => simp [intOf]; omega
    · go_wp2
      go_ret2
      refine ⟨?_, rfl⟩
      rw [show k = 8 * xs.length from by omega, sumB_eight, sumP_ap]
      rfl

set_option maxHeartbeats 400000 in
theorem refApart_unlike (w : World) (v1 v2 : Value) (xs ys : List UInt8) (h1 : Rd w v1 xs) (h2 : Rd w v2 ys) (hl : xs.length ≠ ys.length) :
    Calls Try.prog 10 #[v1, v2] w fun e w' => e = .returned (.tuple #[.int .i64 0, .int .i64 3]) ∧ w = w' := by
  obtain ⟨a1, c1, rfl, l1, m1, n1, r1⟩ := h1
  obtain ⟨a2, c2, rfl, l2, m2, n2, r2⟩ := h2
  rw [show maxLen = 9223372036854775807 from rfl] at m1 m2
  have hne : ((xs.length : Int) != (ys.length : Int)) = true := by simp; omega
  clear hl
  go_enter Try.func10, Try.ntmps10
  go_wp2
  go_ret2
  exact ⟨rfl, rfl⟩

end Go.Proofs.Ytoijklenmjllcaa
