/-
  Logs of entries, plainly: what is left behind a snapshot.
-/
import Derived.Test.YtfalhboahdccmaaRlQ
namespace Go.Proofs.Ytfalhboahdccmaa
open Go.RowKit
set_option linter.unusedVariables false

theorem lcomp_zero {l : Lg} {i : Int} (h : (lcomp l i).2 = 0) : LOk l ∧ l.base ≤ i ∧ i ≤ lend l ∧ lcomp l i = (⟨i, lterm l i, l.es.drop (i - l.base).toNat⟩, 0) := by
  unfold lcomp at h ⊢
  by_cases a : LOk l
  · rw [if_pos a] at h ⊢
    by_cases b : i < l.base ∨ lend l < i
    · rw [if_pos b] at h; exact absurd h (by decide)
    · rw [if_neg b]
      exact ⟨a, by omega, by omega, rfl⟩
  · rw [if_neg a] at h; exact absurd h (by decide)
theorem lastT_at (last : Int) {es : List Wrt} {k : Nat} {y : Wrt} (h : es[k]? = some y) : lastT last (es.take (k + 1)) (es.take (k + 1)).length = y.1 := by
  have hk : k < es.length := (List.getElem?_eq_some_iff.1 h).1
  rw [lastT_take _ _ _ (by omega), lastT_snoc _ h]
theorem lcomp_ok {l : Lg} {i : Int} (ok : LOk l) (h1 : l.base ≤ i) (h2 : i ≤ lend l) : LOk ⟨i, lterm l i, l.es.drop (i - l.base).toNat⟩ := by
  have b := ok.bd
  have hl : lend l = l.base + l.es.length := rfl
  obtain ⟨⟨a1, a2, a3, a4, a5, a6, a7⟩, hu⟩ := ok
  by_cases q : i = l.base
  · have e : lterm l i = l.bt := if_pos q
    rw [e]
    subst q
    rw [show (l.base - l.base).toNat = 0 by omega, List.drop_zero]
    exact ⟨⟨a1, a2, a3, a4, a5, a6, a7⟩, hu⟩
  · obtain ⟨k, hk⟩ : ∃ k : Nat, i - l.base - 1 = k := ⟨(i - l.base - 1).toNat, by omega⟩
    have hlt : k < l.es.length := by omega
    have hy : l.es[k]? = some l.es[k] := List.getElem?_eq_getElem hlt
    have e : lterm l i = l.es[k].1 := by
      unfold lterm
      rw [if_neg q, hk, Int.toNat_natCast, List.getD_eq_getElem?_getD, hy]; rfl
    have hd : (i - l.base).toNat = k + 1 := by omega
    have hm := lup_mem hu (List.mem_of_getElem? hy)
    rw [e, hd]
    have hu2 := hu
    rw [← List.take_append_drop (k + 1) l.es] at hu2
    have hu3 := (lup_append.1 hu2).2
    rw [lastT_at _ hy] at hu3
    refine ⟨⟨by dsimp only; omega, by dsimp only; omega, by dsimp only; omega, by dsimp only; omega, fun z => by dsimp only at z ⊢; omega, by dsimp only; rw [List.length_drop]; omega, by dsimp only; rw [List.length_drop]; omega⟩, ?_⟩
    rw [show max 1 l.es[k].1 = l.es[k].1 by omega]
    exact hu3
theorem lcomp_end {l : Lg} {i : Int} (h1 : l.base ≤ i) (h2 : i ≤ lend l) : lend ⟨i, lterm l i, l.es.drop (i - l.base).toNat⟩ = lend l := by
  have hl : lend l = l.base + l.es.length := rfl
  unfold lend
  dsimp only
  rw [List.length_drop]
  omega
theorem lcomp_term {l : Lg} {i j : Int} (h1 : l.base ≤ i) (h2 : i ≤ lend l) (h3 : i ≤ j) : lterm ⟨i, lterm l i, l.es.drop (i - l.base).toNat⟩ j = lterm l j := by
  by_cases q : j = i
  · subst q; exact if_pos rfl
  · have e1 : lterm ⟨i, lterm l i, l.es.drop (i - l.base).toNat⟩ j = ((l.es.drop (i - l.base).toNat).getD (j - i - 1).toNat (0, [])).1 := if_neg q
    have e2 : lterm l j = (l.es.getD (j - l.base - 1).toNat (0, [])).1 := if_neg (by omega)
    rw [e1, e2, List.getD_eq_getElem?_getD, List.getD_eq_getElem?_getD, List.getElem?_drop, show (i - l.base).toNat + (j - i - 1).toNat = (j - l.base - 1).toNat by omega]
theorem llast_ok {l : Lg} (h : LOk l) : llast l = (lend l, lterm l (lend l), 0) := if_pos h
theorem ltold_ok {l : Lg} (h : LOk l) {i : Int} (h1 : l.base ≤ i) (h2 : i ≤ lend l) : ltold l i = (lterm l i, 0) := (if_pos h).trans (if_neg (by omega))
theorem ltold_no {l : Lg} (h : LOk l) {i : Int} (h1 : i < l.base) : ltold l i = (0, 71) := (if_pos h).trans (if_pos (.inl h1))
theorem lfrom_ok {l : Lg} (h : LOk l) {i n : Int} (h1 : l.base < i) (h2 : i ≤ lend l + 1) (h3 : 0 ≤ n) : lfrom l i n = ((l.es.drop (i - l.base - 1).toNat).take n.toNat, 0) := (if_pos h).trans ((if_neg (by omega)).trans (if_neg (by omega)))
theorem lcomp_from {l : Lg} {i n : Int} (ok : LOk l) (h1 : l.base ≤ i) (h2 : i ≤ lend l) (h3 : 0 ≤ n) : lfrom ⟨i, lterm l i, l.es.drop (i - l.base).toNat⟩ (i + 1) n = lfrom l (i + 1) n := by
  rw [lfrom_ok (lcomp_ok ok h1 h2) (show i < i + 1 by omega) (by rw [lcomp_end h1 h2]; omega) h3, lfrom_ok ok (by omega) (by omega) h3]
  dsimp only
  rw [show (i + 1 - i - 1).toNat = 0 by omega, List.drop_zero, show (i + 1 - l.base - 1).toNat = (i - l.base).toNat by congr 1; omega]
theorem mod_in15 (x : Int) {n : Nat} (h : 0 < n) : ∃ p : Nat, p < n ∧ x.tmod (n : Int) % (n : Int) = (p : Int) ∧ (x.tmod (n : Int) + (n : Int)) % (n : Int) = (p : Int) ∧ (x.tmod (n : Int) + (n : Int)).tmod (n : Int) = (p : Int) ∧ -(n : Int) < x.tmod (n : Int) ∧ x.tmod (n : Int) < (n : Int) := by
  have j3 : (0 : Int) < (n : Int) := by omega
  have y1 := Int.lt_tmod_of_pos x j3
  have y2 := Int.tmod_lt_of_pos x j3
  have y3 := Int.emod_nonneg (x.tmod n) (b := (n : Int)) (by omega)
  have y4 := Int.emod_lt_of_pos (x.tmod n) j3
  refine ⟨(x.tmod n % n).toNat, by omega, by omega, by rw [Int.add_emod_right]; omega, ?_, y1, y2⟩
  rw [Int.tmod_eq_emod_of_nonneg (by omega), Int.add_emod_right]; omega
/-- a piece of a log, accepted by a beginning of it -/
theorem laccept_piece {ld : List Wrt} (ok : LOk ⟨0, 0, ld⟩) {k f to : Nat} (hk : k ≤ ld.length) (hf : f ≤ k) (ht : f ≤ to) (hl : to ≤ ld.length) :
    laccept ⟨0, 0, ld.take k⟩ f (lterm ⟨0, 0, ld⟩ f) ((ld.take to).drop f) = ((⟨0, 0, ld.take (max k to)⟩ : Lg), (to : Int), (0 : Int)) := by
  have okk : LOk ⟨0, 0, ld.take k⟩ := lok_take (t := ⟨0, 0, ld⟩) ok k
  have b := ok.bd
  have hle : lend ⟨0, 0, ld.take k⟩ = k := by unfold lend; simp; omega
  have e : lterm ⟨0, 0, ld.take k⟩ f = lterm ⟨0, 0, ld⟩ f := lterm_congr rfl rfl (by dsimp only; omega) fun j hj => by dsimp only at hj ⊢; rw [List.getElem?_take, if_pos (by omega)]
  dsimp only at b
  unfold laccept
  rw [if_pos okk, if_neg (by omega), if_neg (by dsimp only; omega)]
  unfold lacg
  rw [if_neg (by rw [hle]; omega), if_neg (fun z => z e)]
  exact lacc_piece ok hl (to - f) rfl hf ht hk
theorem laccept_gap {ld : List Wrt} (ok : LOk ⟨0, 0, ld⟩) {k f : Nat} {t : Int} {es : List Wrt} (hk : k < f) (hf : f ≤ ld.length) : laccept ⟨0, 0, ld.take k⟩ f t es = (lnil, 0, 152) := by
  have okk : LOk ⟨0, 0, ld.take k⟩ := lok_take (t := ⟨0, 0, ld⟩) ok k
  have b := ok.bd
  have hle : lend ⟨0, 0, ld.take k⟩ = k := by unfold lend; simp; omega
  dsimp only at b
  unfold laccept
  rw [if_pos okk, if_neg (by omega), if_neg (by dsimp only; omega)]
  unfold lacg
  rw [if_pos (by rw [hle]; omega)]
theorem lfrom_piece {ld : List Wrt} (ok : LOk ⟨0, 0, ld⟩) {k n : Nat} (hk : k < ld.length) : lfrom ⟨0, 0, ld⟩ ((k : Int) + 1) n = ((ld.take (min (k + n) ld.length)).drop k, 0) := by
  have hl : lend ⟨0, 0, ld⟩ = ld.length := by unfold lend; simp
  rw [lfrom_ok ok (show (0 : Int) < k + 1 by omega) (by rw [hl]; omega) (by omega)]
  dsimp only
  rw [show ((k : Int) + 1 - 0 - 1).toNat = k by omega, Int.toNat_natCast]
  congr 1
  rw [List.drop_take]
  by_cases q : k + n ≤ ld.length
  · rw [show min (k + n) ld.length - k = n by omega]
  · rw [List.take_of_length_le (by rw [List.length_drop]; omega), List.take_of_length_le (by rw [List.length_drop]; omega)]
theorem mod_lit15 (x : Int) {n : Nat} {m : Int} (hm : m = (n : Int)) (h : 0 < n) (h2 : n ≤ 1000000) : ∃ p : Nat, p < n ∧ (x.tmod m + m).tmod m = (p : Int) ∧ wrap64 (x.tmod m + m) = x.tmod m + m ∧ IntKind.i64.wrap (x.tmod m + m) = x.tmod m + m ∧ (x.tmod m + m) % m = (p : Int) := by
  subst hm
  obtain ⟨p, h0, _, h4, h3, h5, h6⟩ := mod_in15 x h
  exact ⟨p, h0, h3, IntWalk.wrap64_in _ (by omega), IntWalk.i64_in _ (by omega), h4⟩
end Go.Proofs.Ytfalhboahdccmaa
