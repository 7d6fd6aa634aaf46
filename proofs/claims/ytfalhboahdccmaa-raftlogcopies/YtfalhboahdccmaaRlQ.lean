/-
  Logs of entries, plainly: what was accepted, accepted again; pieces of one log.
-/
import Derived.Test.YtfalhboahdccmaaRlN
namespace Go.Proofs.Ytfalhboahdccmaa
open Go.RowKit
set_option linter.unusedVariables false

theorem lterm_congr {t u : Lg} {i : Int} (hb : u.base = t.base) (ht : u.bt = t.bt) (hi : t.base ≤ i) (h : ∀ j : Nat, (j : Int) < i - t.base → u.es[j]? = t.es[j]?) : lterm u i = lterm t i := by
  unfold lterm
  rw [hb, ht]
  by_cases q : i = t.base
  · rw [if_pos q, if_pos q]
  · rw [if_neg q, if_neg q, List.getD_eq_getElem?_getD, List.getD_eq_getElem?_getD, h _ (by omega)]
/-- cut off behind the entry of number n -/
theorem lcut_end {t : Lg} {n : Int} (h1 : t.base ≤ n) (h2 : n ≤ lend t) : lend (lcut t (n + 1)) = n ∧ ∀ j : Nat, (j : Int) < n - t.base → (lcut t (n + 1)).es[j]? = t.es[j]? := by
  unfold lend at h2
  unfold lcut
  by_cases q : n + 1 ≤ lend t
  · rw [if_pos q]
    unfold lend at q ⊢
    dsimp only
    have e : (n + 1 - t.base - 1).toNat = (n - t.base).toNat := by congr 1; omega
    rw [e]
    refine ⟨by rw [List.length_take]; omega, fun j hj => ?_⟩
    rw [List.getElem?_take, if_pos (by omega)]
  · rw [if_neg q]
    unfold lend at q ⊢
    exact ⟨by omega, fun j hj => rfl⟩
theorem lapp_end {t : Lg} {y : Wrt} (h : (lapp t y).2 = 0) : lend (lapp t y).1 = lend t + 1 ∧ (lapp t y).1.base = t.base ∧ (lapp t y).1.bt = t.bt ∧ lterm (lapp t y).1 (lend t + 1) = y.1 ∧ ∀ j : Nat, (j : Int) < lend t - t.base → (lapp t y).1.es[j]? = t.es[j]? := by
  obtain ⟨q1, q2, q3, q4, e⟩ := lapp_zero h
  rw [e]
  have hl : lend t = t.base + t.es.length := rfl
  refine ⟨?_, rfl, rfl, ?_, fun j hj => ?_⟩
  · unfold lend; simp; omega
  · unfold lterm
    rw [if_neg (by dsimp only; omega)]
    dsimp only
    rw [show (lend t + 1 - t.base - 1).toNat = t.es.length by omega, List.getD_eq_getElem?_getD]
    simp
  · dsimp only
    rw [List.getElem?_append_left (by omega)]
/-- what is there behind entries that were accepted -/
theorem lacc_said {es : List Wrt} : ∀ {t u : Lg} {n m : Int}, lacc t n es = (u, m, 0) → LOk t → t.base ≤ n → n ≤ lend t →
    LOk u ∧ u.base = t.base ∧ u.bt = t.bt ∧ m = n + es.length ∧ m ≤ lend u ∧ (∀ i, t.base ≤ i → i ≤ n → lterm u i = lterm t i) ∧ ∀ (k : Nat) (y : Wrt), es[k]? = some y → lterm u (n + 1 + (k : Int)) = y.1 := by
  induction es with
  | nil =>
    intro t u n m h ok h1 h2
    simp only [lacc, Prod.mk.injEq] at h
    obtain ⟨rfl, rfl, -⟩ := h
    exact ⟨ok, rfl, rfl, by simp, h2, fun i _ _ => rfl, fun k y hy => by simp at hy⟩
  | cons e r ih =>
    intro t u n m h ok h1 h2
    by_cases q : n + 1 ≤ lend t ∧ lterm t (n + 1) = e.1
    · rw [lacc_cons_same q] at h
      obtain ⟨a1, a2, a3, a4, a5, a6, a7⟩ := ih h ok (by omega) q.1
      refine ⟨a1, a2, a3, by rw [a4]; simp; omega, a5, fun i hi hn => a6 i hi (by omega), fun k y hy => ?_⟩
      cases k with
      | zero =>
        obtain rfl : e = y := by simpa using hy
        rw [show n + 1 + ((0 : Nat) : Int) = n + 1 by omega, a6 (n + 1) (by omega) (by omega)]
        exact q.2
      | succ k =>
        rw [show n + 1 + ((k + 1 : Nat) : Int) = n + 1 + 1 + (k : Int) by omega]
        exact a7 k y (by simpa using hy)
    · by_cases z : (lapp (lcut t (n + 1)) e).2 = 0
      · rw [lacc_cons_put q z] at h
        obtain ⟨c1, c2⟩ := lcut_end h1 h2
        obtain ⟨d1, d2, d3, d4, d5⟩ := lapp_end z
        rw [c1] at d1 d4 d5
        rw [lcut_base] at d2 d5
        rw [lcut_bt] at d3
        obtain ⟨a1, a2, a3, a4, a5, a6, a7⟩ := ih h (lapp_ok z).1 (by omega) (by omega)
        refine ⟨a1, a2.trans d2, a3.trans d3, by rw [a4]; simp; omega, a5, fun i hi hn => ?_, fun k y hy => ?_⟩
        · rw [a6 i (by omega) (by omega)]
          exact lterm_congr d2 d3 hi fun j hj => (d5 j (by omega)).trans (c2 j (by omega))
        · cases k with
          | zero =>
            obtain rfl : e = y := by simpa using hy
            rw [show n + 1 + ((0 : Nat) : Int) = n + 1 by omega, a6 (n + 1) (by omega) (by omega)]
            exact d4
          | succ k =>
            rw [show n + 1 + ((k + 1 : Nat) : Int) = n + 1 + 1 + (k : Int) by omega]
            exact a7 k y (by simpa using hy)
      · rw [lacc_cons_no q z] at h
        simp only [Prod.mk.injEq] at h
        exact absurd h.2.2 z
theorem lacc_there {es : List Wrt} : ∀ {u : Lg} {n : Int}, n + es.length ≤ lend u → (∀ (k : Nat) (y : Wrt), es[k]? = some y → lterm u (n + 1 + (k : Int)) = y.1) → lacc u n es = (u, n + es.length, 0) := by
  induction es with
  | nil => intro u n _ _; simp [lacc]
  | cons e r ih =>
    intro u n h1 h2
    have e0 := h2 0 e rfl
    rw [show n + 1 + ((0 : Nat) : Int) = n + 1 by omega] at e0
    rw [lacc_cons_same ⟨by simp at h1; omega, e0⟩, ih (by simp at h1; omega) fun k y hy => ?_]
    · simp; omega
    · have := h2 (k + 1) y (by simpa using hy)
      rw [show n + 1 + ((k + 1 : Nat) : Int) = n + 1 + 1 + (k : Int) by omega] at this
      exact this
theorem lacc_bad {es : List Wrt} : ∀ {t : Lg} {n : Int}, (lacc t n es).2.2 ≠ 0 → lacc t n es = (lnil, 0, (lacc t n es).2.2) := by
  induction es with
  | nil => intro t n h; exact absurd rfl h
  | cons e r ih =>
    intro t n h
    by_cases q : n + 1 ≤ lend t ∧ lterm t (n + 1) = e.1
    · rw [lacc_cons_same q] at h ⊢
      exact ih h
    · by_cases z : (lapp (lcut t (n + 1)) e).2 = 0
      · rw [lacc_cons_put q z] at h ⊢
        exact ih h
      · rw [lacc_cons_no q z]
theorem lacg_bad {l : Lg} {p t : Int} {es : List Wrt} (h : (lacg l p t es).2.2 ≠ 0) : lacg l p t es = (lnil, 0, (lacg l p t es).2.2) := by
  unfold lacg at h ⊢
  by_cases q : lend l < p
  · rw [if_pos q]
  · rw [if_neg q] at h ⊢
    by_cases z : lterm l p ≠ t
    · rw [if_pos z]
    · rw [if_neg z] at h ⊢
      exact lacc_bad h
/-- refused: the nil log and no number -/
theorem laccept_bad {l : Lg} {p t : Int} {es : List Wrt} (h : (laccept l p t es).2.2 ≠ 0) : laccept l p t es = (lnil, 0, (laccept l p t es).2.2) := by
  unfold laccept at h ⊢
  by_cases ok : LOk l
  · rw [if_pos ok] at h ⊢
    by_cases q : p < 0 ∨ 1099511627776 < p
    · rw [if_pos q]
    · rw [if_neg q] at h ⊢
      by_cases z : p < l.base
      · rw [if_pos z] at h ⊢
        by_cases y : (es.length : Int) < l.base - p
        · rw [if_pos y] at h; exact absurd rfl h
        · rw [if_neg y] at h ⊢
          exact lacg_bad h
      · rw [if_neg z] at h ⊢
        exact lacg_bad h
  · rw [if_neg ok]
theorem lacg_again {l u : Lg} {p t m : Int} {es : List Wrt} (ok : LOk l) (hp : l.base ≤ p) (h : lacg l p t es = (u, m, 0)) : LOk u ∧ u.base = l.base ∧ u.bt = l.bt ∧ lacg u p t es = (u, m, 0) := by
  unfold lacg at h
  by_cases q : lend l < p
  · rw [if_pos q] at h; simp at h
  · rw [if_neg q] at h
    by_cases z : lterm l p ≠ t
    · rw [if_pos z] at h; simp at h
    · rw [if_neg z] at h
      obtain ⟨a1, a2, a3, a4, a5, a6, a7⟩ := lacc_said h ok hp (by omega)
      refine ⟨a1, a2, a3, ?_⟩
      unfold lacg
      rw [if_neg (by omega), a6 p hp (by omega), if_neg z, a4]
      exact lacc_there (by omega) a7
/-- what was accepted, accepted again -/
theorem laccept_again {l u : Lg} {p t m : Int} {es : List Wrt} (h : laccept l p t es = (u, m, 0)) : LOk u ∧ laccept u p t es = (u, m, 0) := by
  have h0 := h
  unfold laccept at h
  by_cases ok : LOk l
  · rw [if_pos ok] at h
    by_cases q : p < 0 ∨ 1099511627776 < p
    · rw [if_pos q] at h; simp at h
    · rw [if_neg q] at h
      by_cases z : p < l.base
      · rw [if_pos z] at h
        by_cases y : (es.length : Int) < l.base - p
        · rw [if_pos y] at h
          simp only [Prod.mk.injEq] at h
          obtain ⟨rfl, -, -⟩ := h
          exact ⟨ok, h0⟩
        · rw [if_neg y] at h
          obtain ⟨a1, a2, a3, a4⟩ := lacg_again ok (Int.le_refl _) h
          refine ⟨a1, ?_⟩
          unfold laccept
          rw [if_pos a1, if_neg q, a2, if_pos z, if_neg y, a3]
          exact a4
      · rw [if_neg z] at h
        obtain ⟨a1, a2, a3, a4⟩ := lacg_again ok (by omega) h
        refine ⟨a1, ?_⟩
        unfold laccept
        rw [if_pos a1, if_neg q, a2, if_neg z]
        exact a4
  · rw [if_neg ok] at h; simp at h
/-- a log without a snapshot, its first k entries of these -/
theorem lacc_piece {ld : List Wrt} (ok : LOk ⟨0, 0, ld⟩) {to : Nat} (ht : to ≤ ld.length) : ∀ (d : Nat) {k n : Nat}, to - n = d → n ≤ k → n ≤ to → k ≤ ld.length →
    lacc ⟨0, 0, ld.take k⟩ (n : Int) ((ld.take to).drop n) = ((⟨0, 0, ld.take (max k to)⟩ : Lg), (to : Int), (0 : Int)) := by
  intro d
  induction d with
  | zero =>
    intro k n h1 h2 h3 h4
    have hn : n = to := by omega
    subst hn
    rw [List.drop_of_length_le (by simp; omega), show max k n = k by omega]
    rfl
  | succ d ih =>
    intro k n h1 h2 h3 h4
    have hlt : n < (ld.take to).length := by rw [List.length_take]; omega
    have hnl : n < ld.length := by omega
    rw [List.drop_eq_getElem_cons hlt]
    have ey : (ld.take to)[n] = ld[n] := by rw [List.getElem_take]
    rw [ey]
    have hle : lend ⟨0, 0, ld.take k⟩ = k := by unfold lend; simp; omega
    by_cases q : n < k
    · have e1 : lterm ⟨0, 0, ld.take k⟩ ((n : Int) + 1) = ld[n].1 := by
        unfold lterm
        rw [if_neg (by dsimp only; omega)]
        dsimp only
        rw [show ((n : Int) + 1 - 0 - 1).toNat = n by omega, List.getD_eq_getElem?_getD, List.getElem?_take, if_pos q, List.getElem?_eq_getElem hnl]
        rfl
      rw [lacc_cons_same ⟨by rw [hle]; omega, e1⟩]
      exact ih (k := k) (n := n + 1) (by omega) (by omega) (by omega) h4
    · have hk : k = n := by omega
      subst hk
      have nq : ¬ ((k : Int) + 1 ≤ lend ⟨0, 0, ld.take k⟩ ∧ lterm ⟨0, 0, ld.take k⟩ ((k : Int) + 1) = ld[k].1) := by rw [hle]; omega
      have ec : lcut ⟨0, 0, ld.take k⟩ ((k : Int) + 1) = ⟨0, 0, ld.take k⟩ := if_neg (by rw [hle]; omega)
      have okk : LOk ⟨0, 0, ld.take k⟩ := lok_take (t := ⟨0, 0, ld⟩) ok k
      have e3 : ld.take (k + 1) = ld.take k ++ [ld[k]] := by rw [List.take_add_one, List.getElem?_eq_getElem hnl]; rfl
      have ok1 : LOk ⟨0, 0, ld.take (k + 1)⟩ := lok_take (t := ⟨0, 0, ld⟩) ok (k + 1)
      have l1 := ok1.bd
      have l2 : (ld.take (k + 1)).length = k + 1 := by rw [List.length_take]; omega
      rw [l2] at l1
      obtain ⟨u1, u2⟩ := lup_append.1 (by have := ok1.2; rw [e3] at this; exact this)
      obtain ⟨u3, u4, u5, -⟩ := u2
      have et := lterm_end ⟨0, 0, ld.take k⟩
      have ap : lapp ⟨0, 0, ld.take k⟩ ld[k] = (⟨0, 0, ld.take (k + 1)⟩, 0) := by
        unfold lapp
        have hbad : ¬ (ld[k].1 < 1 ∨ ld[k].1 < lterm ⟨0, 0, ld.take k⟩ (lend ⟨0, 0, ld.take k⟩) ∨ 1099511627776 < ld[k].1) := by
          have h1 : 1 ≤ ld[k].1 := by
            have := lup_mem ok1.2 (x := ld[k]) (show ld[k] ∈ ld.take (k + 1) by rw [e3]; exact List.mem_append_right _ (List.mem_singleton.2 rfl))
            omega
          by_cases hn : ld.take k = []
          · rw [if_pos hn] at et
            rw [et]
            dsimp only
            omega
          · rw [if_neg hn] at et
            rw [et, lastT_any _ (max 1 0) hn]
            dsimp only at u3 ⊢
            omega
        rw [if_pos okk, if_neg hbad, if_neg (by omega), if_neg (by rw [hle]; rw [List.length_take]; omega), e3]
      rw [lacc_cons_put nq (show (lapp (lcut _ _) _).2 = 0 by rw [ec, ap]), ec, ap]
      have := ih (k := k + 1) (n := k + 1) (by omega) (by omega) (by omega) (by omega)
      rw [show max (k + 1) to = max k to by omega] at this
      exact this
theorem lapp_bad {l : Lg} {y : Wrt} (h : (lapp l y).2 ≠ 0) : lapp l y = (lnil, (lapp l y).2) := by
  unfold lapp at h ⊢
  by_cases a : LOk l
  · rw [if_pos a] at h ⊢
    by_cases b : y.1 < 1 ∨ y.1 < lterm l (lend l) ∨ 1099511627776 < y.1
    · rw [if_pos b]
    · rw [if_neg b] at h ⊢
      by_cases c : 4096 < y.2.length
      · rw [if_pos c]
      · rw [if_neg c] at h ⊢
        by_cases d : 4096 ≤ l.es.length ∨ 1099511627776 ≤ lend l
        · rw [if_pos d]
        · rw [if_neg d] at h; exact absurd rfl h
  · rw [if_neg a]
theorem lcomp_bad {l : Lg} {i : Int} (h : (lcomp l i).2 ≠ 0) : lcomp l i = (lnil, (lcomp l i).2) := by
  unfold lcomp at h ⊢
  by_cases a : LOk l
  · rw [if_pos a] at h ⊢
    by_cases b : i < l.base ∨ lend l < i
    · rw [if_pos b]
    · rw [if_neg b] at h; exact absurd rfl h
  · rw [if_neg a]
end Go.Proofs.Ytfalhboahdccmaa
