/-
  An int up to 2^30 comes back from the double that is nearest to it; the program's spans (a complex number: where an extent begins, and where it ends).
-/
import Derived.WalkLawsBesides
import Derived.Test.YtacfcgklncckiaaESame
namespace Go.Proofs.Ytacfcgklncckiaa
open Go.RowKit
set_option linter.unusedVariables false

/-- what the nearest double of a whole number above 0 is read as -/
theorem read_nearest (m L : Nat) (h1 : 2 ^ L ≤ m) (h2 : m < 2 ^ (L + 1)) (hL : L ≤ 40) :
    Ieee.double.read (Ieee.double.nearest false m 0) = .number false (m * 2 ^ (52 - L)) ((L : Int) - 52) := by
  have hm0 : m ≠ 0 := by have := Nat.two_pow_pos L; omega
  have hlog : m.log2 = L := (Nat.log2_eq_iff hm0).2 ⟨h1, h2⟩
  have hK : 2 ^ L * 2 ^ (52 - L) = 4503599627370496 := by rw [← Nat.pow_add, show L + (52 - L) = 52 by omega]
  have k1 : 4503599627370496 ≤ m * 2 ^ (52 - L) := by rw [← hK]; exact Nat.mul_le_mul_right _ h1
  have k2 : m * 2 ^ (52 - L) < 9007199254740992 := by
    have h3 : m * 2 ^ (52 - L) < 2 ^ (L + 1) * 2 ^ (52 - L) := Nat.mul_lt_mul_of_pos_right h2 (Nat.two_pow_pos _)
    rw [Nat.pow_succ, Nat.mul_right_comm, hK] at h3
    omega
  have hn : Ieee.double.nearest false m 0 = (L + 1022) * 4503599627370496 + m * 2 ^ (52 - L) := by
    unfold Ieee.Format.nearest
    rw [if_neg hm0, hlog]
    dsimp only
    have e1 : max ((0 : Int) + (L : Int) - ((Ieee.double.fractionBits : Nat) : Int)) Ieee.double.leastPlace = (L : Int) - 52 := by
      rw [show Ieee.double.leastPlace = -1074 by decide, show Ieee.double.fractionBits = 52 from rfl]; omega
    rw [e1, show ((0 : Int) - ((L : Int) - 52)).toNat = 52 - L by omega, show ((L : Int) - 52 - 0).toNat = 0 by omega, Nat.shiftLeft_eq]
    generalize m * 2 ^ (52 - L) = K at *
    have e2 : Ieee.Toward.even.cut false K 0 = K := by
      unfold Ieee.Toward.cut
      simp
      have := Nat.mod_one K
      omega
    rw [e2, show Ieee.double.leastPlace = -1074 by decide, show ((L : Int) - 52 - -1074).toNat = L + 1022 by omega, show Ieee.double.binade = 4503599627370496 by decide, show Ieee.double.infRung = 9218868437227405312 by decide]
    unfold Ieee.Format.word
    rw [if_neg (by simp), Nat.min_eq_left (by omega)]
  rw [hn]
  generalize m * 2 ^ (52 - L) = K at *
  unfold Ieee.Format.read
  dsimp only
  rw [show Ieee.double.signWeight = 9223372036854775808 by decide, show Ieee.double.binade = 4503599627370496 by decide, show Ieee.double.infRung = 9218868437227405312 by decide, show Ieee.double.leastPlace = -1074 by decide]
  have e1 : ((L + 1022) * 4503599627370496 + K) % 9223372036854775808 = (L + 1022) * 4503599627370496 + K := Nat.mod_eq_of_lt (by omega)
  have e2 : ((L + 1022) * 4503599627370496 + K) / 9223372036854775808 = 0 := Nat.div_eq_of_lt (by omega)
  rw [e1, e2, if_neg (by omega), if_pos (by omega)]
  have e3 : ((L + 1022) * 4503599627370496 + K) % 4503599627370496 = K - 4503599627370496 := by omega
  have e4 : ((L + 1022) * 4503599627370496 + K) / 4503599627370496 = L + 1023 := by omega
  have e5 : 4503599627370496 + (K - 4503599627370496) = K := by omega
  have e6 : (-1074 : Int) + ((L + 1023 - 1 : Nat) : Int) = (L : Int) - 52 := by omega
  rw [e3, e4, e5, e6]
  rfl

/-- there and back -/
theorem float_back (n : Int) (h0 : 0 ≤ n) (h1 : n ≤ 1073741824) : floatToIntVal .f64 (floatOfInt .f64 n) .i64 = some n := by
  obtain ⟨m, rfl⟩ := Int.eq_ofNat_of_zero_le h0
  have key : (FloatKind.f64.decode (floatOfInt .f64 (m : Int))).toInt .zero = some (m : Int) := by
    by_cases hm : m = 0
    · subst hm; decide
    have hnn : floatOfInt .f64 (m : Int) = Ieee.double.nearest false m 0 := by
      unfold floatOfInt FloatKind.nearest FloatKind.encode Ieee.Format.write
      simp only [FloatKind.format, Int.natAbs_natCast]
      rw [show decide ((m : Int) < 0) = false by simp]
    rw [hnn]
    have l1 : 2 ^ m.log2 ≤ m := Nat.log2_self_le hm
    have l2 : m < 2 ^ (m.log2 + 1) := Nat.lt_log2_self
    have hL : m.log2 ≤ 40 := by
      have : m.log2 < 41 := (Nat.log2_lt hm).2 (by omega)
      omega
    generalize m.log2 = L at *
    show (Ieee.double.read _).toInt .zero = _
    rw [read_nearest m L l1 l2 hL]
    unfold Ieee.Datum.toInt Ieee.Datum.integral
    dsimp only
    rw [show ((L : Int) - 52).toNat = 0 by omega, show (-((L : Int) - 52)).toNat = 52 - L by omega]
    have hK0 : 52 - L ≤ (m * 2 ^ (52 - L)).log2 + 2 := by
      have : 52 - L ≤ (m * 2 ^ (52 - L)).log2 := (Nat.le_log2 (by have := Nat.two_pow_pos (52 - L); exact Nat.mul_ne_zero hm (by omega))).2 (by have := Nat.mul_le_mul_right (2 ^ (52 - L)) (show 1 ≤ m by omega); omega)
      omega
    have hc : Ieee.Toward.zero.cut false ((m * 2 ^ (52 - L)) <<< 0) (52 - L) = m := by
      unfold Ieee.Toward.cut
      simp only [Nat.shiftLeft_zero, Nat.min_eq_left hK0, Bool.toNat_false, Nat.add_zero]
      rw [Nat.shiftLeft_eq, Nat.one_mul, Nat.mul_div_cancel _ (Nat.two_pow_pos _)]
    rw [hc]
    simp [Ieee.signed]
  unfold floatToIntVal
  rw [key]
  simp only
  rw [if_pos]
  constructor
  · show (-9223372036854775808 : Int) ≤ _; omega
  · show _ ≤ (9223372036854775807 : Int); omega

/-- the span from a up to b -/
def sp (a b : Int) : Value := .complex .f64 (floatOfInt .f64 a) (floatOfInt .f64 b)

set_option maxRecDepth 100000 in
theorem spanFrom_any (w : World) (a b : Int) : Calls Try.prog 41 #[.int .i64 a, .int .i64 b] w fun e w' => e = .returned (sp a b) ∧ w = w' := by
  go_enter Try.func41, Try.ntmps41
  go_wp2
  go_ret
  exact ⟨rfl, rfl⟩
set_option maxRecDepth 100000 in
theorem begin_any (w : World) (a b : Int) (h0 : 0 ≤ a) (h1 : a ≤ 1073741824) : Calls Try.prog 35 #[sp a b] w fun e w' => e = .returned (.int .i64 a) ∧ w = w' := by
  have hf := float_back a h0 h1
  have hc : ∀ w : World, (convert 73 3 (.float .f64 (floatOfInt .f64 a))).run Try.prog w = .ok (.int .i64 a) w := fun w => run_convert_float_int w _ _ _ _ _ _ (by rw [Try.underlying73]; rfl) Try.underlying3 hf
  unfold sp
  go_enter Try.func35, Try.ntmps35
  go_wp2
  go_ret
  exact ⟨rfl, rfl⟩
set_option maxRecDepth 100000 in
theorem end_any (w : World) (a b : Int) (h0 : 0 ≤ b) (h1 : b ≤ 1073741824) : Calls Try.prog 36 #[sp a b] w fun e w' => e = .returned (.int .i64 b) ∧ w = w' := by
  have hf := float_back b h0 h1
  have hc : ∀ w : World, (convert 73 3 (.float .f64 (floatOfInt .f64 b))).run Try.prog w = .ok (.int .i64 b) w := fun w => run_convert_float_int w _ _ _ _ _ _ (by rw [Try.underlying73]; rfl) Try.underlying3 hf
  unfold sp
  go_enter Try.func36, Try.ntmps36
  go_wp2
  go_ret
  exact ⟨rfl, rfl⟩
/-- both ends are sectors -/
def spIn (a b : Int) : Prop := 0 ≤ a ∧ a ≤ 1073741824 ∧ 0 ≤ b ∧ b ≤ 1073741824
set_option maxRecDepth 100000 in
theorem size_any (w : World) (a b : Int) (h : spIn a b) : Calls Try.prog 29 #[sp a b] w fun e w' => e = .returned (.int .i64 (b - a)) ∧ w = w' := by
  obtain ⟨h0, h1, h2, h3⟩ := h
  have k1 := hide (end_any w a b h2 h3)
  have k2 := hide (begin_any w a b h0 h1)
  go_enter Try.func29, Try.ntmps29
  go_wp2_with fail
  refine k1.out.mono ?_
  rintro e w' ⟨rfl, rfl⟩
  go_wp2_with fail
  refine k2.out.mono ?_
  rintro e w' ⟨rfl, rfl⟩
  go_wp2
  go_ret
  exact ⟨rfl, rfl⟩
set_option maxRecDepth 100000 in
theorem spanOf_any (w : World) (a b : Int) (h : 0 ≤ a ∧ a ≤ 1073741824 ∧ 0 ≤ b ∧ b ≤ 1073741824) : Calls Try.prog 31 #[.agg #[.int .i64 a, .int .i64 b]] w fun e w' => e = .returned (sp a (a + b)) ∧ Below w.heap.size w w' := by
  obtain ⟨h0, h1, h2, h3⟩ := h
  obtain ⟨W, hW, D0, D1, bW, sW⟩ := boxed2 w (.int .i64 a) (.int .i64 b) 26
  have k1 := hide (spanFrom_any W a (a + b))
  rw [hW] at D0 D1
  go_enter Try.func31, Try.ntmps31
  go_wp2_with fail
  rw [← hW]
  refine k1.out.mono ?_
  rintro e w' ⟨rfl, rfl⟩
  go_wp2
  go_ret
  exact ⟨rfl, by first | exact bW | (rw [← hW]; exact bW)⟩

end Go.Proofs.Ytacfcgklncckiaa
