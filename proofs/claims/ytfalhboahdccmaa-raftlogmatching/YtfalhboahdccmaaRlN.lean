/-
  Logs of entries, plainly: the log that follows may be.
-/
import Derived.Test.YtfalhboahdccmaaRlMath
namespace Go.Proofs.Ytfalhboahdccmaa
open Go.RowKit
set_option linter.unusedVariables false

theorem lup_mem {last : Int} {es : List Wrt} (h : lup last es) {x : Wrt} (hx : x ∈ es) : last ≤ x.1 ∧ x.1 ≤ 1099511627776 ∧ x.2.length ≤ 4096 := by
  induction es generalizing last with
  | nil => cases hx
  | cons y r ih =>
    obtain ⟨a1, a2, a3, a4⟩ := h
    rcases List.mem_cons.1 hx with rfl | hx
    · exact ⟨a1, a2, a3⟩
    · have := ih a4 hx
      exact ⟨by omega, this.2⟩
theorem lcut_base (t : Lg) (n : Int) : (lcut t n).base = t.base := by unfold lcut; split <;> rfl
theorem lcut_bt (t : Lg) (n : Int) : (lcut t n).bt = t.bt := by unfold lcut; split <;> rfl
theorem lcut_take (t : Lg) (n : Int) : ∃ k, (lcut t n).es = t.es.take k := by
  unfold lcut
  split
  · exact ⟨_, rfl⟩
  · exact ⟨t.es.length, by simp⟩
theorem lok_take {t : Lg} (h : LOk t) (k : Nat) : LOk ⟨t.base, t.bt, t.es.take k⟩ := by
  obtain ⟨⟨a1, a2, a3, a4, a5, a6, a7⟩, h2⟩ := h
  have : (t.es.take k).length ≤ t.es.length := by simp; omega
  exact ⟨⟨a1, a2, a3, a4, a5, by dsimp only; omega, by dsimp only; omega⟩, lup_take h2 k⟩
theorem lcut_ok {t : Lg} (h : LOk t) (n : Int) : LOk (lcut t n) := by
  unfold lcut
  split
  · exact lok_take h _
  · exact h
theorem lterm_end (l : Lg) : lterm l (lend l) = if l.es = [] then l.bt else lastT l.bt l.es l.es.length := by
  unfold lterm lend
  cases h : l.es with
  | nil => simp
  | cons x r =>
    have h1 : ¬ (l.base + ((x :: r).length : Int) = l.base) := by simp only [List.length_cons]; omega
    rw [if_neg h1, if_neg (by simp)]
    have h2 : (l.base + ((x :: r).length : Int) - l.base - 1).toNat = r.length := by simp only [List.length_cons]; omega
    rw [h2]
    unfold lastT
    rw [List.take_length, List.getD_eq_getElem?_getD]
    have : (x :: r).getLast? = (x :: r)[r.length]? := by rw [List.getLast?_eq_getElem?]; simp
    rw [this, List.getElem?_eq_getElem (by simp)]
    rfl
theorem lastT_any (a b : Int) {es : List Wrt} (h : es ≠ []) : lastT a es es.length = lastT b es es.length := by
  unfold lastT
  rw [List.take_length]
  cases h2 : es.getLast? with
  | none => exact absurd (List.getLast?_eq_none_iff.1 h2) h
  | some x => rfl
theorem lapp_zero {t : Lg} {y : Wrt} (h : (lapp t y).2 = 0) : LOk t ∧ ¬ (y.1 < 1 ∨ y.1 < lterm t (lend t) ∨ 1099511627776 < y.1) ∧ ¬ 4096 < y.2.length ∧ ¬ (4096 ≤ t.es.length ∨ 1099511627776 ≤ lend t) ∧ lapp t y = (⟨t.base, t.bt, t.es ++ [y]⟩, 0) := by
  unfold lapp at h ⊢
  by_cases q1 : LOk t
  · rw [if_pos q1] at h ⊢
    by_cases q2 : y.1 < 1 ∨ y.1 < lterm t (lend t) ∨ 1099511627776 < y.1
    · rw [if_pos q2] at h; exact absurd h (by decide)
    · rw [if_neg q2] at h ⊢
      by_cases q3 : 4096 < y.2.length
      · rw [if_pos q3] at h; exact absurd h (by decide)
      · rw [if_neg q3] at h ⊢
        by_cases q4 : 4096 ≤ t.es.length ∨ 1099511627776 ≤ lend t
        · rw [if_pos q4] at h; exact absurd h (by decide)
        · rw [if_neg q4]
          exact ⟨q1, q2, q3, q4, rfl⟩
  · rw [if_neg q1] at h; exact absurd h (by decide)
theorem lapp_ok {t : Lg} {y : Wrt} (h : (lapp t y).2 = 0) : LOk (lapp t y).1 ∧ (lapp t y).1.base = t.base := by
  obtain ⟨q1, q2, q3, q4, e⟩ := lapp_zero h
  rw [e]
  obtain ⟨⟨a1, a2, a3, a4, a5, a6, a7⟩, h2⟩ := q1
  have hl : lend t = t.base + t.es.length := rfl
  refine ⟨⟨⟨a1, a2, a3, a4, a5, by simp; omega, by simp; omega⟩, ?_⟩, rfl⟩
  refine lup_append.2 ⟨h2, ?_, by omega, by omega, trivial⟩
  have he := lterm_end t
  by_cases hn : t.es = []
  · rw [if_pos hn] at he
    have : lastT (max 1 t.bt) t.es t.es.length = max 1 t.bt := by rw [hn]; simp [lastT]
    rw [this]
    omega
  · rw [if_neg hn] at he
    rw [lastT_any (max 1 t.bt) t.bt hn]
    omega
theorem lacc_cons_same {t : Lg} {n : Int} {y : Wrt} {r : List Wrt} (h : n + 1 ≤ lend t ∧ lterm t (n + 1) = y.1) : lacc t n (y :: r) = lacc t (n + 1) r := if_pos h
theorem lacc_cons_put {t : Lg} {n : Int} {y : Wrt} {r : List Wrt} (h : ¬ (n + 1 ≤ lend t ∧ lterm t (n + 1) = y.1)) (h2 : (lapp (lcut t (n + 1)) y).2 = 0) : lacc t n (y :: r) = lacc (lapp (lcut t (n + 1)) y).1 (n + 1) r := (if_neg h).trans (if_pos h2)
theorem lacc_cons_no {t : Lg} {n : Int} {y : Wrt} {r : List Wrt} (h : ¬ (n + 1 ≤ lend t ∧ lterm t (n + 1) = y.1)) (h2 : (lapp (lcut t (n + 1)) y).2 ≠ 0) : lacc t n (y :: r) = (lnil, 0, (lapp (lcut t (n + 1)) y).2) := (if_neg h).trans (if_neg h2)
end Go.Proofs.Ytfalhboahdccmaa
