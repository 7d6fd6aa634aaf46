/-
  A frame with one bit turned, but of its length, is not opened: plain. Nothing of the program is named.
-/
import Derived.Test.YtmdbgmnohdeoeaaFMath
import Derived.Test.YtmdbgmnohdeoeaaCFlip
namespace Go.Proofs.Ytmdbgmnohdeoeaa
set_option linter.unusedVariables false

theorem fl_left (xs ys : List UInt8) (p : Nat) (h : p / 8 < xs.length) : fl (xs ++ ys) p = fl xs p ++ ys := by
  unfold fl
  rw [getD_app xs ys _ h, List.set_append_left _ _ h]
theorem fl_right (xs ys : List UInt8) (p : Nat) (h : xs.length ≤ p / 8) : fl (xs ++ ys) p = xs ++ fl ys (p - 8 * xs.length) := by
  unfold fl
  have e1 : (p - 8 * xs.length) / 8 = p / 8 - xs.length := by omega
  have e2 : (p - 8 * xs.length) % 8 = p % 8 := by omega
  rw [List.set_append_right _ _ h, e1, e2]
  congr 3
  simp [List.getD_eq_getElem?_getD, List.getElem?_append_right h]
theorem fl_ne (xs : List UInt8) (p : Nat) (h : p / 8 < xs.length) : fl xs p ≠ xs := by
  intro e
  have h1 := fl_num xs p h
  rw [e] at h1
  have h2 := congrArg (num xs ^^^ ·) h1
  simp only [Nat.xor_self, xor_back] at h2
  have := Nat.two_pow_pos p
  omega
theorem fl_sum (xs : List UInt8) (p : Nat) (h : p / 8 < xs.length) : sum (fl xs p) ≠ sum xs :=
  turned (at_ := p) (t := 1) (fl_len xs p) (by rw [Nat.mul_one]; exact fl_num xs p h) (by omega) (by decide) (by decide)

theorem numTo_inj (xs ys : List UInt8) (k : Nat) (h : numTo xs k = numTo ys k) : ∀ i, i < k → xs.getD i 0 = ys.getD i 0 := by
  induction k with
  | zero => intro i hi; omega
  | succ k ih =>
    simp only [numTo] at h
    have h1 := (xs.getD k 0).toNat_lt
    have h2 := (ys.getD k 0).toNat_lt
    intro i hi
    by_cases e : i = k
    · subst e; exact UInt8.toNat_inj.1 (by omega)
    · exact ih (by omega) i (by omega)
theorem numOf_inj {xs ys : List UInt8} (hl : xs.length = ys.length) (h : numOf xs = numOf ys) : xs = ys := by
  unfold numOf at h
  rw [hl] at h
  apply List.ext_getElem hl
  intro i h1 h2
  have := numTo_inj xs ys ys.length h i h2
  simpa [h1, h2] using this

theorem fl_getD (xs : List UInt8) (p i : Nat) (h : i ≠ p / 8) : (fl xs p).getD i 0 = xs.getD i 0 := by
  unfold fl
  simp [List.getD_eq_getElem?_getD, Ne.symm h]
theorem fl_mid (xs : List UInt8) (p i n : Nat) (h : p / 8 < i ∨ i + n ≤ p / 8) : ((fl xs p).drop i).take n = (xs.drop i).take n := by
  unfold fl
  rcases h with h | h
  · rw [List.drop_set_of_lt h]
  · rw [List.drop_set, if_neg (by omega), List.take_set_of_le (by omega)]

theorem fopen_flip (k : UInt8) (d : List UInt8) (h : d.length ≤ 4096) (p : Nat) (hp : p / 8 < d.length + 8) (h2 : p / 8 ≠ 2) (h3 : p / 8 ≠ 3) : (fopen (fl (fseal k d) p)).1 ≠ 0 := by
  intro h0
  have hl := fseal_len k d
  have hh := fhead_len k d
  have es : sum (fhead k d) < 2 ^ (8 * 4) := sum_lt _
  obtain ⟨_, q2, q3, q4, q5, _, _⟩ := fopen_ok h0
  have et : ftold (fl (fseal k d) p) = d.length := by
    unfold ftold
    rw [fl_mid _ _ _ _ (by omega)]
    have := fhead_told k d (oc (sum (fhead k d)) 4) h
    exact this
  rw [et] at q5
  by_cases hz : p / 8 = 0
  · have e1 : (fl (fseal k d) p).getD 0 0 = 167 ^^^ UInt8.ofNat (2 ^ (p % 8)) := by
      unfold fl
      rw [hz]
      rfl
    rw [e1] at q2
    have : ∀ j, j < 8 → (167 : UInt8) ^^^ UInt8.ofNat (2 ^ j) ≠ 167 := by decide +kernel
    exact this (p % 8) (by omega) q2
  by_cases hd : p / 8 < d.length + 4
  · have e1 : fl (fseal k d) p = fl (fhead k d) p ++ oc (sum (fhead k d)) 4 := by
      unfold fseal; exact fl_left _ _ _ (by omega)
    have hf : (fl (fhead k d) p).length = d.length + 4 := by rw [fl_len, hh]
    rw [e1, List.drop_append_of_le_length (by omega), List.drop_of_length_le (by omega), List.nil_append, List.take_of_length_le (by rw [oc_length]; exact Nat.le_refl _), numOf_oc _ _ es,
      take_app _ _ _ (by omega), List.take_of_length_le (by omega)] at q5
    exact fl_sum (fhead k d) p (by omega) q5.symm
  · have e1 : fl (fseal k d) p = fhead k d ++ fl (oc (sum (fhead k d)) 4) (p - 8 * (fhead k d).length) := by
      unfold fseal; exact fl_right _ _ _ (by omega)
    have hf : (fl (oc (sum (fhead k d)) 4) (p - 8 * (fhead k d).length)).length = 4 := by rw [fl_len, oc_length]
    rw [e1, List.drop_append_of_le_length (by omega), List.drop_of_length_le (by omega), List.nil_append, List.take_of_length_le (by omega),
      take_app _ _ _ (by omega), List.take_of_length_le (by omega)] at q5
    refine fl_ne (oc (sum (fhead k d)) 4) (p - 8 * (fhead k d).length) (by rw [oc_length, hh]; omega) (numOf_inj (by rw [fl_len]) ?_)
    rw [q5, numOf_oc _ _ es]

end Go.Proofs.Ytmdbgmnohdeoeaa
