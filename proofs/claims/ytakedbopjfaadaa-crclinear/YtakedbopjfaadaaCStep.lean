/-
  The contracts of crc's inner functions step, product, octetsLong, and of Join; and of the page's turn and Join.
-/
import Derived.Test.YtakedbopjfaadaaBase
import Derived.Test.YtakedbopjfaadaaCMath
import Derived.Test.YtakedbopjfaadaaChecked
namespace Go.Proofs.Ytakedbopjfaadaa
open Go.RowKit
set_option linter.unusedVariables false

theorem st_int (r : Nat) (h : r < M32) : (r % 2 = 1 → bits .xor .u32 ((r : Int) / 2) 2197175160 = (st r : Int)) ∧ (r % 2 ≠ 1 → (r : Int) / 2 = (st r : Int)) := by
  unfold M32 at h
  refine ⟨fun h1 => ?_, fun h1 => ?_⟩
  · rw [show (r : Int) / 2 = ((r / 2 : Nat) : Int) from by omega, show (2197175160 : Int) = ((2197175160 : Nat) : Int) from rfl, u32_xor_nat _ _ (by omega) (by omega)]
    unfold st; rw [if_pos h1]; rfl
  · unfold st; rw [if_neg h1]; simp

theorem and1_int (r : Nat) (h : r < M32) : bits .and .u32 (r : Int) 1 = ((r % 2 : Nat) : Int) := by
  unfold M32 at h
  rw [show (1 : Int) = ((1 : Nat) : Int) from rfl, u32_and_nat _ _ (by omega) (by omega), nat_mask1]

theorem step_any (w : World) (r : Nat) (h : r < M32) :
    Calls Try.prog 22 #[.int .u32 r] w fun e w' => e = .returned (.int .u32 (st r : Nat)) ∧ w = w' := by
  obtain ⟨h1, h2⟩ := st_int r h
  have ha := and1_int r h
  by_cases hr : r % 2 = 1
  · have hb : (bits .and .u32 (r : Int) 1 != 0) = true := by rw [ha, hr]; rfl
    replace h1 := hide (h1 hr)
    clear h2 ha hr
    go_enter Try.func22, Try.ntmps22
    go_wp2
    go_ret
    exact ⟨ret_int h1.out, rfl⟩
  · have hb : (bits .and .u32 (r : Int) 1 != 0) = false := by rw [ha, show r % 2 = 0 by omega]; rfl
    replace h2 := hide (h2 hr)
    clear h1 ha hr
    go_enter Try.func22, Try.ntmps22
    go_wp2
    go_ret
    exact ⟨ret_int h2.out, rfl⟩

theorem top_int (k : Nat) (hk : k < 32) : (2147483648 : Int) / 2 ^ k = ((2 ^ (31 - k) : Nat) : Int) := by
  have e : (2147483648 : Nat) = 2 ^ (31 - k) * 2 ^ k := by rw [← Nat.pow_add, show 31 - k + k = 31 by omega]
  rw [show (2147483648 : Int) = ((2147483648 : Nat) : Int) from rfl, e]
  push_cast
  exact Int.mul_ediv_cancel _ (Int.pow_ne_zero (by decide))
theorem topbit_int (a k : Nat) (ha : a < M32) (hk : k < 32) : (bits .and .u32 (a : Int) (2147483648 / 2 ^ k) != 0) = a.testBit (31 - k) := by
  have hp : 2 ^ (31 - k) < 2 ^ 32 := Nat.pow_lt_pow_right (by decide) (by omega)
  rw [top_int k hk, u32_and_nat _ _ ha hp, nat_bit, Nat.testBit_eq_decide_div_mod_eq]
  have h0 := Nat.two_pow_pos (31 - k)
  rcases Nat.mod_two_eq_zero_or_one (a / 2 ^ (31 - k)) with h | h
  · rw [h]; simp
  · rw [h]
    have : ((1 * 2 ^ (31 - k) : Nat) : Int) ≠ 0 := by omega
    simp only [bne, decide_true, Bool.not_eq_true', beq_eq_false_iff_ne]
    exact this

theorem and1_i64 (n : Nat) : bits .and .i64 (n : Int) 1 = ((n % 2 : Nat) : Int) := by
  have h1 : (BitVec.ofInt 64 1).toNat = 2 ^ 1 - 1 := by decide
  have key : (BitVec.ofInt 64 (n : Int) &&& BitVec.ofInt 64 1).toNat = n % 2 ^ 64 % 2 ^ 1 := by
    rw [BitVec.toNat_and, BitVec.ofInt_natCast, BitVec.toNat_ofNat, h1, Nat.and_two_pow_sub_one_eq_mod]
  show IntKind.i64.wrap ((BitVec.ofInt 64 (n : Int) &&& BitVec.ofInt 64 1).toNat : Nat) = _
  rw [key, IntKind.wrap_i64]
  omega

theorem prTo_pos {a b k : Nat} (h : a.testBit (31 - k) = true) : prTo a b (k + 1) = prTo a b k ^^^ stn k b := by
  show _ ^^^ _ = _; rw [if_pos h]
theorem prTo_neg {a b k : Nat} (h : a.testBit (31 - k) = false) : prTo a b (k + 1) = prTo a b k := by
  show _ ^^^ _ = _; rw [if_neg (by simp [h])]; simp
theorem xor_int (a b : Nat) (ha : a < M32) (hb : b < M32) : bits .xor .u32 (a : Int) (b : Int) = ((a ^^^ b : Nat) : Int) := u32_xor_nat a b ha hb

set_option maxHeartbeats 400000 in
theorem prod_any (w : World) (a b : Nat) (ha : a < M32) (hb : b < M32) :
    Calls Try.prog 18 #[.int .u32 a, .int .u32 b] w fun e w' => e = .returned (.int .u32 (pr a b : Nat)) ∧ w = w' := by
  go_enter Try.func18, Try.ntmps18
  go_wp2
  go_loop [1, 5, 7] (fun s r i => ∃ k : Nat, k ≤ 32 ∧ i = .int .i64 k ∧ s = .int .u32 (stn k b : Nat) ∧ r = .int .u32 (prTo a b k : Nat)) (fun _ _ i => 32 - (intOf i).toNat)
  case atStart => exact ⟨0, Nat.zero_le _, rfl, rfl, rfl⟩
  case round =>
    obtain ⟨k, hk, rfl, rfl, rfl⟩ := hrel
    by_cases hlt : k < 32
    · have hq : (k : Int) < 32 := by omega
      have hs := stn_lt k hb
      have hp := prTo_lt (a := a) hb k
      have hbit := topbit_int a k ha hlt
      have HX := hide (xor_int (prTo a b k) (stn k b) hp hs)
      have HS := hide (stn_succ k b)
      cases ht : a.testBit (31 - k)
      · have HP := hide (prTo_neg (b := b) ht)
        rw [ht] at hbit
        clear ht
        generalize stn k b = s at *
        generalize prTo a b k = p at *
        go_wp2_with (go_at_call 22; refine (step_any _ _ (by assumption)).mono ?_; rintro e w' ⟨rfl, rfl⟩)
        go_round
        case rel => exact ⟨k + 1, by omega, by go_num, by rw [HS.out], by rw [HP.out]⟩
        case measure => simp [intOf]; omega
      · have HP := hide (prTo_pos (b := b) ht)
        rw [ht] at hbit
        clear ht
        generalize stn k b = s at *
        generalize prTo a b k = p at *
        go_wp2_with (go_at_call 22; refine (step_any _ _ (by assumption)).mono ?_; rintro e w' ⟨rfl, rfl⟩)
        go_round
        case rel => exact ⟨k + 1, by omega, by go_num, by rw [HS.out], by rw [HP.out, HX.out]⟩
        case measure => simp [intOf]; omega
    · go_wp2
      go_ret
      exact ⟨ret_int (by rw [show k = 32 from by omega]; rfl), rfl⟩

set_option maxHeartbeats 400000 in
theorem long_any (w : World) (n : Nat) (hn : n < 4294967296) :
    Calls Try.prog 19 #[.int .i64 n] w fun e w' => ∃ p, Long p n ∧ e = .returned (.int .u32 (p : Nat)) ∧ w = w' := by
  go_enter Try.func19, Try.ntmps19
  go_wp2
  go_loop [0, 3, 4] (fun m f s => ∃ M p q a b : Nat, m = .int .i64 M ∧ M < 4294967296 ∧ f = .int .u32 (p : Nat) ∧ s = .int .u32 (q : Nat) ∧ Long p a ∧ Long q b ∧ Hid (a + b * M = n)) (fun m _ _ => (intOf m).toNat)
  case atStart => exact ⟨n, _, _, 0, 1, rfl, hn, rfl, rfl, long_zero, long_one, hide (by omega)⟩
  case round =>
    obtain ⟨M, p, q, a, b, rfl, hM, rfl, rfl, hp, hq, hab⟩ := hrel
    have hpl := hp.1
    have hql := hq.1
    by_cases h0 : M = 0
    · subst h0
      go_wp2
      go_ret
      exact ⟨p, by have := hab.out; simp at this; rw [← this]; exact hp, rfl, rfl⟩
    · have hc : (M : Int) > 0 := by omega
      have hd : (M : Int) / 2 = ((M / 2 : Nat) : Int) := by omega
      have ha1 := and1_i64 M
      by_cases hr : M % 2 = 1
      · have hb : (bits .and .i64 (M : Int) 1 != 0) = true := by rw [ha1, hr]; rfl
        have H1 := hide (hp.mul hq)
        have H2 := hide (hq.mul hq)
        have H3 : Hid (a + b + (b + b) * (M / 2) = n) := by
          show _ = _
          have := hab.out
          have e : M = 2 * (M / 2) + 1 := by omega
          rw [← this]
          conv => rhs; rw [e]
          rw [Nat.mul_add, Nat.add_mul, Nat.mul_one, Nat.mul_comm 2, ← Nat.mul_assoc]; omega
        clear ha1 hr
        replace hd := hide hd
        go_wp2_with (go_at_call 18; refine (prod_any _ _ _ (by assumption) (by assumption)).mono ?_; rintro e w' ⟨rfl, rfl⟩)
        go_round
        case rel => exact ⟨M / 2, _, _, a + b, b + b, by rw [← hd.out], by omega, rfl, rfl, H1.out, H2.out, H3⟩
        case measure => simp [intOf]; omega
      · have hb : (bits .and .i64 (M : Int) 1 != 0) = false := by rw [ha1, show M % 2 = 0 by omega]; rfl
        have H2 := hide (hq.mul hq)
        have H3 : Hid (a + (b + b) * (M / 2) = n) := by
          show _ = _
          have := hab.out
          have e : M = 2 * (M / 2) := by omega
          rw [← this]
          conv => rhs; rw [e]
          rw [Nat.add_mul, Nat.mul_comm 2, ← Nat.mul_assoc]; omega
        clear ha1 hr
        replace hd := hide hd
        go_wp2_with (go_at_call 18; refine (prod_any _ _ _ (by assumption) (by assumption)).mono ?_; rintro e w' ⟨rfl, rfl⟩)
        go_round
        case rel => exact ⟨M / 2, _, _, a, b + b, by rw [← hd.out], by omega, rfl, rfl, hp, H2.out, H3⟩
        case measure => simp [intOf]; omega

def outJ (n : Int) : Bool := decide (n < 0 ∨ 1048576 < n)
def jn (a b : Nat) (n : Int) : Nat := if outJ n then 0 else stn (8 * n.toNat) a ^^^ b
def je (n : Int) : Int := if outJ n then 4 else 0

theorem join_any (w : World) (a b : Nat) (n : Int) (ha : a < M32) (hb : b < M32) :
    Calls Try.prog 9 #[.int .u32 a, .int .u32 b, .int .i64 n] w fun e w' => e = .returned (.tuple #[.int .u32 (jn a b n : Nat), .int .i64 (je n)]) ∧ w = w' := by
  by_cases h1 : n < 0
  · have ho : Hid (outJ n = true) := by show outJ n = true; simp [outJ, h1]
    go_enter Try.func9, Try.ntmps9
    go_wp2
    go_ret2
    exact ⟨by simp [jn, je, ho.out], rfl⟩
  by_cases h2 : 1048576 < n
  · have ho : Hid (outJ n = true) := by show outJ n = true; simp [outJ, h2]
    go_enter Try.func9, Try.ntmps9
    go_wp2
    go_ret2
    exact ⟨by simp [jn, je, ho.out], rfl⟩
  · have ho : Hid (outJ n = false) := by show outJ n = false; simp [outJ, h1, h2]
    obtain ⟨m, rfl⟩ : ∃ m : Nat, n = (m : Int) := ⟨n.toNat, by omega⟩
    have hx : ∀ p, Long p m → Hid (bits .xor .u32 ((pr p a : Nat) : Int) (b : Int) = ((jn a b m : Nat) : Int)) := by
      intro p hp
      show _ = _
      rw [xor_int _ _ (pr_lt ha) hb, hp.2 a ha]
      unfold jn; rw [ho.out]; simp
    go_enter Try.func9, Try.ntmps9
    go_wp2_with (go_at_call 19; refine (long_any _ _ (by omega)).mono ?_; rintro e w' ⟨p, hp, rfl, rfl⟩; have HP := hide hp.1)
    go_wp2_with (go_at_call 18; refine (prod_any _ _ _ HP.out ha).mono ?_; rintro e w' ⟨rfl, rfl⟩; have HX := hx p hp)
    go_ret2
    exact ⟨by rw [HX.out]; simp [je, ho.out], rfl⟩

/-! the page's own -/
set_option maxHeartbeats 400000 in
theorem turn_any (w : World) (r o : Nat) (hr : r < M32) (ho : o < 256) :
    Calls Try.prog 20 #[.int .u32 r, .int .u8 o] w fun e w' => e = .returned (.int .u32 (tn r o : Nat)) ∧ w = w' := by
  have ho2 : o < M32 := by unfold M32; omega
  have HX := hide (xor_int r o hr ho2)
  go_enter Try.func20, Try.ntmps20
  go_wp2
  go_loop [0, 5] (fun s i => ∃ k : Nat, k ≤ 8 ∧ i = .int .i64 k ∧ s = .int .u32 (stn k (r ^^^ o) : Nat)) (fun _ i => 8 - (intOf i).toNat)
  case atStart => exact ⟨0, Nat.zero_le _, rfl, by first | exact congrArg _ HX.out | (simp; exact HX.out)⟩
  case round =>
    obtain ⟨k, hk, rfl, rfl⟩ := hrel
    by_cases hlt : k < 8
    · have hq : (k : Int) < 8 := by omega
      have hs := stn_lt k (xor_lt hr ho2)
      have HS := hide (stn_succ k (r ^^^ o))
      generalize stn k (r ^^^ o) = s at *
      obtain ⟨h1, h2⟩ := st_int s hs
      have ha := and1_int s hs
      by_cases hr : s % 2 = 1
      · have hb : bits .and .u32 (s : Int) 1 = 1 := by rw [ha, hr]; rfl
        replace h1 := hide (h1 hr)
        clear h2 ha hr
        go_wp2
        go_round
        case rel => exact ⟨k + 1, by omega, by go_num, by rw [HS.out, h1.out]⟩
        case measure => simp [intOf]; omega
      · have hb : bits .and .u32 (s : Int) 1 = 0 := by rw [ha, show s % 2 = 0 by omega]; rfl
        replace h2 := hide (h2 hr)
        clear h1 ha hr
        go_wp2
        go_round
        case rel => exact ⟨k + 1, by omega, by go_num, by rw [HS.out, h2.out]⟩
        case measure => simp [intOf]; omega
    · go_wp2
      go_ret
      exact ⟨ret_int (by rw [show k = 8 from by omega]; rfl), rfl⟩

theorem inv_int (r : Nat) (h : r < M32) : bits .xor .u32 IntKind.u32.max (r : Int) = ((inv r : Nat) : Int) := by
  show bits .xor .u32 4294967295 (r : Int) = _
  unfold inv; rw [ff_eq, show (4294967295 : Int) = ((4294967295 : Nat) : Int) from rfl]
  exact xor_int _ _ (by decide) h

theorem tn_zero (r : Nat) : tn r 0 = stn 8 r := by unfold tn; rw [Nat.xor_zero]

set_option maxHeartbeats 400000 in
theorem pjoin_any (w : World) (a b : Nat) (n : Int) (ha : a < M32) (hb : b < M32) :
    Calls Try.prog 10 #[.int .u32 a, .int .u32 b, .int .i64 n] w fun e w' => e = .returned (.tuple #[.int .u32 (jn a b n : Nat), .int .i64 (je n)]) ∧ w = w' := by
  by_cases h1 : n < 0
  · have ho : Hid (outJ n = true) := by show outJ n = true; simp [outJ, h1]
    go_enter Try.func10, Try.ntmps10
    go_wp2
    go_ret2
    exact ⟨by simp [jn, je, ho.out], rfl⟩
  by_cases h2 : 1048576 < n
  · have ho : Hid (outJ n = true) := by show outJ n = true; simp [outJ, h2]
    go_enter Try.func10, Try.ntmps10
    go_wp2
    go_ret2
    exact ⟨by simp [jn, je, ho.out], rfl⟩
  · have ho : Hid (outJ n = false) := by show outJ n = false; simp [outJ, h1, h2]
    obtain ⟨m, rfl⟩ : ∃ m : Nat, n = (m : Int) := ⟨n.toNat, by omega⟩
    have hia := inv_lt ha
    have HA := hide (inv_int a ha)
    have HB := hide (inv_int b hb)
    have hff : ff < M32 := by rw [ff_eq]; decide
    go_enter Try.func10, Try.ntmps10
    go_wp2
    go_loop [8, 9, 10] (fun x y i => ∃ k : Nat, k ≤ m ∧ i = .int .i64 k ∧ x = .int .u32 (stn (8 * k) (inv a) : Nat) ∧ y = .int .u32 (stn (8 * k) ff : Nat)) (fun _ _ i => m - (intOf i).toNat)
    case atStart => exact ⟨0, Nat.zero_le _, rfl, congrArg _ HA.out, by show _ = Value.int .u32 ((ff : Nat) : Int); rw [ff_eq]; rfl⟩
    case round =>
      obtain ⟨k, hk, rfl, rfl, rfl⟩ := hrel
      have hx := stn_lt (8 * k) hia
      have hy := stn_lt (8 * k) hff
      by_cases hlt : k < m
      · have hq : (k : Int) < m := by omega
        have HX : Hid (stn (8 * (k + 1)) (inv a) = tn (stn (8 * k) (inv a)) 0) := by
          show _ = _; rw [tn_zero, ← stn_add]; congr 1; omega
        have HY : Hid (stn (8 * (k + 1)) ff = tn (stn (8 * k) ff) 0) := by
          show _ = _; rw [tn_zero, ← stn_add]; congr 1; omega
        generalize stn (8 * k) (inv a) = x at *
        generalize stn (8 * k) ff = y at *
        go_wp2_with (go_at_call 20; refine (turn_any _ _ 0 (by assumption) (by decide)).mono ?_; rintro e w' ⟨rfl, rfl⟩)
        go_round
        case rel => exact ⟨k + 1, by omega, by go_num, by rw [HX.out], by rw [HY.out]⟩
        case measure => simp [intOf]; omega
      · obtain rfl : k = m := by omega
        have H1 := hide (xor_int _ _ hx hy)
        have H2 := hide (xor_int _ _ (xor_lt hx hy) (inv_lt hb))
        have H3 := hide (inv_int _ (xor_lt (xor_lt hx hy) (inv_lt hb)))
        go_wp2
        go_ret2
        refine ⟨?_, rfl⟩
        rw [HB.out, H1.out, H2.out, H3.out, page_join]
        simp [jn, je, ho.out]

end Go.Proofs.Ytakedbopjfaadaa
