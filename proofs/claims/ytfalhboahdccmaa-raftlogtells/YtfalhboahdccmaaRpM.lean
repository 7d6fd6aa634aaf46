/-
  What the program does to logs, plainly, and that it is what the document asks.
-/
import Derived.Test.YtfalhboahdccmaaRlR
namespace Go.Proofs.Ytfalhboahdccmaa
open Go.RowKit
set_option linter.unusedVariables false

/-- why an entry may not be the next one -/
def lref (t : Lg) (e : Wrt) : Int := if e.1 < max (lterm t (lend t)) 1 ∨ 1099511627776 < e.1 then 151 else if 4096 < e.2.length then 5 else if 4096 ≤ t.es.length ∨ 1099511627776 ≤ lend t then 51 else 0
/-- may its snapshot end so? -/
def lbm (l : Lg) : Prop := if l.base = 0 then l.bt = 0 else 0 < l.base ∧ l.base ≤ 1099511627776 ∧ 0 ≤ l.bt ∧ l.bt ≤ 1099511627776
instance (l : Lg) : Decidable (lbm l) := by unfold lbm; infer_instance
/-- the first n entries alone -/
def ltk (l : Lg) (n : Nat) : Lg := ⟨l.base, l.bt, l.es.take n⟩
/-- entries put behind it, as long as none is refused -/
def ljoin : Lg → List Wrt → Lg × Int
  | t, [] => (t, 0)
  | t, e :: r => if lref t e = 0 then ljoin ⟨t.base, t.bt, t.es ++ [e]⟩ r else (lnil, lref t e)
/-- with how many entries of the same terms two lists begin -/
def lalike : List Wrt → List Wrt → Nat
  | x :: a, y :: b => if x.1 = y.1 then lalike a b + 1 else 0
  | _, _ => 0
def laccs (l : Lg) (p : Int) (es : List Wrt) : Lg × Int × Int :=
  if lalike (l.es.drop (p - l.base).toNat) es = es.length then (l, p + es.length, 0) else
    if (ljoin (ltk l ((p - l.base).toNat + lalike (l.es.drop (p - l.base).toNat) es)) (es.drop (lalike (l.es.drop (p - l.base).toNat) es))).2 = 0 then
      ((ljoin (ltk l ((p - l.base).toNat + lalike (l.es.drop (p - l.base).toNat) es)) (es.drop (lalike (l.es.drop (p - l.base).toNat) es))).1, p + es.length, 0)
    else (l, 0, (ljoin (ltk l ((p - l.base).toNat + lalike (l.es.drop (p - l.base).toNat) es)) (es.drop (lalike (l.es.drop (p - l.base).toNat) es))).2)
def lacgP (l : Lg) (prev pt : Int) (es : List Wrt) : Lg × Int × Int :=
  if lend l < prev then (lnil, 0, 152) else if lterm l prev ≠ pt then (lnil, 0, 151) else laccs l prev es
/-- what the program's Accept answers -/
def lacceptP (l : Lg) (prev pt : Int) (es : List Wrt) : Lg × Int × Int :=
  if LOk l then (if prev < 0 ∨ 1099511627776 < prev then (lnil, 0, 4) else
    if prev < l.base then (if (es.length : Int) < l.base - prev then (l, prev + es.length, 0) else lacgP l l.base l.bt (es.drop (l.base - prev).toNat)) else lacgP l prev pt es) else (lnil, 0, 9)

theorem lref_of {t : Lg} {e : Wrt} (h1 : t.base = t.base) : lref t e = 0 ↔ (max (lterm t (lend t)) 1 ≤ e.1 ∧ e.1 ≤ 1099511627776 ∧ e.2.length ≤ 4096 ∧ t.es.length < 4096 ∧ lend t < 1099511627776) := by
  unfold lref
  constructor
  · intro h
    by_cases a : e.1 < max (lterm t (lend t)) 1 ∨ 1099511627776 < e.1
    · rw [if_pos a] at h; exact absurd h (by decide)
    · rw [if_neg a] at h
      by_cases b : 4096 < e.2.length
      · rw [if_pos b] at h; exact absurd h (by decide)
      · rw [if_neg b] at h
        by_cases c : 4096 ≤ t.es.length ∨ 1099511627776 ≤ lend t
        · rw [if_pos c] at h; exact absurd h (by decide)
        · omega
  · rintro ⟨h1, h2, h3, h4, h5⟩
    rw [if_neg (by omega), if_neg (by omega), if_neg (by omega)]
theorem lapp_ref {l : Lg} (ok : LOk l) (y : Wrt) : lapp l y = if lref l y = 0 then (⟨l.base, l.bt, l.es ++ [y]⟩, 0) else (lnil, lref l y) := by
  unfold lapp lref
  rw [if_pos ok]
  by_cases a : y.1 < max (lterm l (lend l)) 1 ∨ 1099511627776 < y.1
  · rw [if_pos (by omega), if_pos a, if_neg (by decide)]
  · rw [if_neg (by omega), if_neg a]
    by_cases b : 4096 < y.2.length
    · rw [if_pos b, if_pos b, if_neg (by decide)]
    · rw [if_neg b, if_neg b]
      by_cases c : 4096 ≤ l.es.length ∨ 1099511627776 ≤ lend l
      · rw [if_pos c, if_pos c, if_neg (by decide)]
      · rw [if_neg c, if_neg c, if_pos rfl]
theorem lend_tk (l : Lg) {k : Nat} (hk : k ≤ l.es.length) : lend (ltk l k) = l.base + k := by
  unfold lend ltk
  dsimp only
  rw [List.length_take]; omega
theorem lterm_tk (l : Lg) {k : Nat} (hk : k ≤ l.es.length) : lterm (ltk l k) (lend (ltk l k)) = lastT l.bt l.es k := by
  have h := lterm_end (ltk l k)
  rw [h]
  unfold ltk
  dsimp only
  split
  · rename_i q
    rcases List.take_eq_nil_iff.1 q with q | q
    · rw [q, lastT_zero]
    · rw [q]; simp [lastT]
  · exact lastT_take _ _ _ hk
theorem lbm_bd {l : Lg} (h : lbm l) : (0 ≤ l.base ∧ l.base ≤ 1099511627776) ∧ (0 ≤ l.bt ∧ l.bt ≤ 1099511627776) ∧ (l.base = 0 → l.bt = 0) := by
  unfold lbm at h
  split at h
  · exact ⟨by omega, by omega, fun _ => h⟩
  · exact ⟨by omega, by omega, fun q => by omega⟩
theorem lbm_of {l : Lg} (h : LOk l) : lbm l := by
  obtain ⟨⟨a1, a2, a3, a4, a5, a6, a7⟩, -⟩ := h
  unfold lbm
  split
  · rename_i q; exact a5 q
  · exact ⟨by omega, a2, a3, a4⟩
/-- the first k entries may be there -/
def LPre (l : Lg) (k : Nat) : Prop := LOk (ltk l k)
theorem lpre_zero {l : Lg} (h : lbm l) : LPre l 0 := by
  obtain ⟨h1, h2, h3⟩ := lbm_bd h
  exact ⟨⟨h1.1, h1.2, h2.1, h2.2, h3, by simp [ltk], by simp [ltk]; omega⟩, by simp [ltk, lup]⟩
theorem lpre_step {l : Lg} {k : Nat} {y : Wrt} (hy : l.es[k]? = some y) : LPre l (k + 1) ↔ LPre l k ∧ lref (ltk l k) y = 0 := by
  have hk : k < l.es.length := (List.getElem?_eq_some_iff.1 hy).1
  have e3 : ltk l (k + 1) = ⟨(ltk l k).base, (ltk l k).bt, (ltk l k).es ++ [y]⟩ := by
    unfold ltk
    dsimp only
    rw [List.take_add_one, hy]; rfl
  constructor
  · intro h
    have h1 : LOk (ltk l k) := by
      have := lok_take h k
      unfold ltk at this ⊢
      dsimp only at this
      rw [List.take_take, Nat.min_eq_left (by omega)] at this
      exact this
    refine ⟨h1, (lref_of rfl).2 ?_⟩
    have hb := h.bd
    obtain ⟨-, hu⟩ := h
    have hu2 := hu
    rw [e3] at hu2
    obtain ⟨u1, u2, u3, u4, -⟩ := lup_append.1 hu2
    have hl : (ltk l (k + 1)).es.length = k + 1 := by unfold ltk; dsimp only; rw [List.length_take]; omega
    have hl2 : (ltk l k).es.length = k := by unfold ltk; dsimp only; rw [List.length_take]; omega
    have hbe : (ltk l (k + 1)).base = l.base := rfl
    rw [hl, hbe] at hb
    have ht := lterm_end (ltk l k)
    have hm := lup_mem hu (x := y) (by rw [e3]; exact List.mem_append_right _ (List.mem_singleton.2 rfl))
    have hmt : lterm (ltk l k) (lend (ltk l k)) ≤ y.1 := by
      rw [ht]
      split
      · have : (ltk l (k + 1)).bt = l.bt := rfl
        rw [this] at hm
        show l.bt ≤ _
        omega
      · rename_i hn
        rw [lastT_any _ (max 1 (ltk l k).bt) hn]
        exact u2
    rw [lend_tk l (by omega), ← lend_tk l (by omega : k ≤ l.es.length), hl2]
    rw [lend_tk l (by omega)] at *
    refine ⟨?_, u3, u4, by omega, by omega⟩
    omega
  · rintro ⟨h1, h2⟩
    have := lapp_ref h1 y
    rw [if_pos h2] at this
    have h3 := (lapp_ok (t := ltk l k) (y := y) (by rw [this])).1
    rw [this] at h3
    unfold LPre
    rw [e3]
    exact h3
theorem lpre_all {l : Lg} : LPre l l.es.length ↔ LOk l := by
  unfold LPre ltk
  rw [List.take_length]
theorem lpre_no {l : Lg} {k : Nat} {y : Wrt} (hy : l.es[k]? = some y) (h : lref (ltk l k) y ≠ 0) : lcheck l = 9 := by
  refine lcheck_no fun ok => h ?_
  have hk : k < l.es.length := (List.getElem?_eq_some_iff.1 hy).1
  have : LPre l (k + 1) := lok_take ok (k + 1)
  exact ((lpre_step hy).1 this).2
theorem lbm_no {l : Lg} (h : ¬ lbm l) : lcheck l = 9 := lcheck_no fun ok => h (lbm_of ok)

/-- the error of entries that are joined -/
theorem ljoin_ok {t : Lg} {es : List Wrt} (ok : LOk t) : (ljoin t es).2 = 0 → LOk (ljoin t es).1 := by
  induction es generalizing t with
  | nil => intro _; exact ok
  | cons e r ih =>
    unfold ljoin
    by_cases h : lref t e = 0
    · rw [if_pos h]
      have := lapp_ref ok e
      rw [if_pos h] at this
      have h3 := (lapp_ok (t := t) (y := e) (by rw [this])).1
      rw [this] at h3
      exact ih h3
    · rw [if_neg h]
      exact fun q => absurd q h
theorem lacc_join {es : List Wrt} : ∀ {t : Lg} {n : Int}, LOk t → n = lend t → lacc t n es = if (ljoin t es).2 = 0 then ((ljoin t es).1, n + es.length, 0) else (lnil, 0, (ljoin t es).2) := by
  induction es with
  | nil => intro t n _ _; simp [lacc, ljoin]
  | cons e r ih =>
    intro t n ok hn
    have q : ¬ (n + 1 ≤ lend t ∧ lterm t (n + 1) = e.1) := by omega
    have ec : lcut t (n + 1) = t := if_neg (by omega)
    have hr := lapp_ref ok e
    by_cases h : lref t e = 0
    · rw [if_pos h] at hr
      have z : (lapp (lcut t (n + 1)) e).2 = 0 := by rw [ec, hr]
      rw [lacc_cons_put q z, ec, hr]
      have h3 := (lapp_ok (t := t) (y := e) (by rw [hr])).1
      rw [hr] at h3
      have he : lend ⟨t.base, t.bt, t.es ++ [e]⟩ = n + 1 := by
        rw [hn]; unfold lend; simp; omega
      rw [ih h3 he.symm]
      have ej : ljoin t (e :: r) = ljoin ⟨t.base, t.bt, t.es ++ [e]⟩ r := by
        show (if lref t e = 0 then _ else _) = _
        rw [if_pos h]
      rw [ej, show n + 1 + (r.length : Int) = n + ((e :: r).length : Int) by simp; omega]
    · rw [if_neg h] at hr
      have z : (lapp (lcut t (n + 1)) e).2 ≠ 0 := by rw [ec, hr]; exact h
      rw [lacc_cons_no q z, ec, hr]
      have ej : ljoin t (e :: r) = (lnil, lref t e) := by
        show (if lref t e = 0 then _ else _) = _
        rw [if_neg h]
      rw [ej, if_neg h]
theorem lalike_le (a b : List Wrt) : lalike a b ≤ a.length ∧ lalike a b ≤ b.length := by
  induction a generalizing b with
  | nil => simp [lalike]
  | cons x a ih =>
    cases b with
    | nil => simp [lalike]
    | cons y b =>
      unfold lalike
      split
      · have := ih b
        simp only [List.length_cons]
        omega
      · simp
theorem lalike_is {a b : List Wrt} {n : Nat} (h : ∀ i, i < n → ∃ x y, a[i]? = some x ∧ b[i]? = some y ∧ x.1 = y.1) (h2 : ∀ x y, a[n]? = some x → b[n]? = some y → x.1 ≠ y.1) : lalike a b = n := by
  induction n generalizing a b with
  | zero =>
    cases a with
    | nil => rfl
    | cons x a =>
      cases b with
      | nil => rfl
      | cons y b => exact if_neg (h2 x y rfl rfl)
  | succ n ih =>
    obtain ⟨x, y, hx, hy, he⟩ := h 0 (by omega)
    cases a with
    | nil => simp at hx
    | cons x' a =>
      cases b with
      | nil => simp at hy
      | cons y' b =>
        simp only [List.getElem?_cons_zero, Option.some.injEq] at hx hy
        subst hx hy
        unfold lalike
        rw [if_pos he, ih (fun i hi => by simpa using h (i + 1) (by omega)) (fun x y h3 h4 => h2 x y (by simpa using h3) (by simpa using h4))]
/-- entries are accepted entry by entry: those that are there, and the others -/
theorem lacc_accs {es : List Wrt} : ∀ {t : Lg} {n : Int}, LOk t → t.base ≤ n → n ≤ lend t →
    lacc t n es = if (laccs t n es).2.2 = 0 then laccs t n es else (lnil, 0, (laccs t n es).2.2) := by
  induction es with
  | nil =>
    intro t n ok h1 h2
    have : laccs t n [] = (t, n, 0) := by
      unfold laccs
      rw [if_pos (by have := (lalike_le (t.es.drop (n - t.base).toNat) []).2; simpa using this)]
      simp
    rw [this]
    rfl
  | cons e r ih =>
    intro t n ok h1 h2
    obtain ⟨k, hk⟩ : ∃ k : Nat, n - t.base = k := ⟨(n - t.base).toNat, by omega⟩
    have hl : lend t = t.base + t.es.length := rfl
    by_cases q : n + 1 ≤ lend t ∧ lterm t (n + 1) = e.1
    · rw [lacc_cons_same q, ih ok (by omega) q.1]
      have hlt : k < t.es.length := by omega
      have hx : t.es[k]? = some t.es[k] := List.getElem?_eq_getElem hlt
      have ht : t.es[k].1 = e.1 := by
        rw [← q.2]
        unfold lterm
        rw [if_neg (by omega), show (n + 1 - t.base - 1).toNat = k by omega, List.getD_eq_getElem?_getD, hx]; rfl
      have ea : lalike (t.es.drop (n - t.base).toNat) (e :: r) = lalike (t.es.drop (n + 1 - t.base).toNat) r + 1 := by
        rw [show (n - t.base).toNat = k by omega, show (n + 1 - t.base).toNat = k + 1 by omega, List.drop_eq_getElem_cons hlt]
        exact if_pos ht
      have es : laccs t n (e :: r) = laccs t (n + 1) r := by
        unfold laccs
        rw [ea]
        generalize lalike (t.es.drop (n + 1 - t.base).toNat) r = m
        rw [show (n - t.base).toNat + (m + 1) = (n + 1 - t.base).toNat + m by omega, List.drop_succ_cons, show n + ((e :: r).length : Int) = n + 1 + (r.length : Int) by simp; omega]
        by_cases z : m = r.length
        · rw [if_pos z, if_pos (by simp [z])]
        · rw [if_neg z, if_neg (by simp [z])]
      rw [es]
    · have ea : lalike (t.es.drop (n - t.base).toNat) (e :: r) = 0 := by
        rw [show (n - t.base).toNat = k by omega]
        refine lalike_is (fun i hi => absurd hi (by omega)) fun x y hx hy => ?_
        simp only [List.getElem?_cons_zero, Option.some.injEq] at hy
        subst hy
        rw [List.getElem?_drop, Nat.add_zero] at hx
        have hlt : k < t.es.length := (List.getElem?_eq_some_iff.1 hx).1
        intro he
        refine q ⟨by omega, ?_⟩
        unfold lterm
        rw [if_neg (by omega), show (n + 1 - t.base - 1).toNat = k by omega, List.getD_eq_getElem?_getD, hx]
        exact he
      have ec : lcut t (n + 1) = ltk t k := by
        unfold lcut ltk
        by_cases z : n + 1 ≤ lend t
        · rw [if_pos z, show (n + 1 - t.base - 1).toNat = k by omega]
        · rw [if_neg z, List.take_of_length_le (by omega)]
      have okk : LOk (ltk t k) := lok_take ok k
      have hj := lacc_join (es := e :: r) okk (n := n) (by rw [lend_tk t (by omega)]; omega)
      have hsame : lacc t n (e :: r) = lacc (ltk t k) n (e :: r) := by
        have q2 : ¬ (n + 1 ≤ lend (ltk t k) ∧ lterm (ltk t k) (n + 1) = e.1) := by rw [lend_tk t (by omega)]; omega
        have ec2 : lcut (ltk t k) (n + 1) = ltk t k := if_neg (by rw [lend_tk t (by omega)]; omega)
        by_cases z : (lapp (ltk t k) e).2 = 0
        · rw [lacc_cons_put q (by rw [ec]; exact z), lacc_cons_put q2 (by rw [ec2]; exact z), ec, ec2]
        · rw [lacc_cons_no q (by rw [ec]; exact z), lacc_cons_no q2 (by rw [ec2]; exact z), ec, ec2]
      rw [hsame, hj]
      unfold laccs
      rw [ea, if_neg (show ¬ (0 = (e :: r).length) by simp), List.drop_zero, show (n - t.base).toNat + 0 = k by omega]
      by_cases z : (ljoin (ltk t k) (e :: r)).2 = 0
      · rw [if_pos z, if_pos z, if_pos rfl]
      · rw [if_neg z, if_neg z, if_neg z]
theorem lacg_P {l : Lg} {prev pt : Int} {es : List Wrt} (ok : LOk l) (h : l.base ≤ prev) : lacg l prev pt es = if (lacgP l prev pt es).2.2 = 0 then lacgP l prev pt es else (lnil, 0, (lacgP l prev pt es).2.2) := by
  unfold lacg lacgP
  by_cases a : lend l < prev
  · rw [if_pos a, if_pos a, if_neg (by decide)]
  · rw [if_neg a, if_neg a]
    by_cases b : lterm l prev ≠ pt
    · rw [if_pos b, if_pos b, if_neg (by decide)]
    · rw [if_neg b, if_neg b]
      exact lacc_accs ok h (by omega)
theorem laccept_P (l : Lg) (prev pt : Int) (es : List Wrt) : laccept l prev pt es = if (lacceptP l prev pt es).2.2 = 0 then lacceptP l prev pt es else (lnil, 0, (lacceptP l prev pt es).2.2) := by
  unfold laccept lacceptP
  by_cases ok : LOk l
  · rw [if_pos ok, if_pos ok]
    by_cases a : prev < 0 ∨ 1099511627776 < prev
    · rw [if_pos a, if_pos a, if_neg (by decide)]
    · rw [if_neg a, if_neg a]
      by_cases b : prev < l.base
      · rw [if_pos b, if_pos b]
        by_cases c : (es.length : Int) < l.base - prev
        · rw [if_pos c, if_pos c, if_pos rfl]
        · rw [if_neg c, if_neg c]
          exact lacg_P ok (Int.le_refl _)
      · rw [if_neg b, if_neg b]
        exact lacg_P ok (by omega)
  · rw [if_neg ok, if_neg ok, if_neg (by decide)]
theorem lref_err (t : Lg) (e : Wrt) : lref t e = 151 ∨ lref t e = 5 ∨ lref t e = 51 ∨ lref t e = 0 := by
  unfold lref
  split
  · exact .inl rfl
  · split
    · exact .inr (.inl rfl)
    · split
      · exact .inr (.inr (.inl rfl))
      · exact .inr (.inr (.inr rfl))
theorem ljoin_err (t : Lg) (es : List Wrt) : (ljoin t es).2 ≠ 152 := by
  induction es generalizing t with
  | nil => exact (show ¬ ((0 : Int) = 152) by decide)
  | cons e r ih =>
    unfold ljoin
    split
    · exact ih _
    · have := lref_err t e
      dsimp only
      omega
/-- what is accepted, and what leaves a gap, is what the document says -/
theorem laccept_say {l : Lg} {prev pt : Int} {es : List Wrt} (h : (laccept l prev pt es).2.2 = 0 ∨ (laccept l prev pt es).2.2 = 152) : lacceptP l prev pt es = laccept l prev pt es := by
  have h0 := laccept_P l prev pt es
  by_cases z : (lacceptP l prev pt es).2.2 = 0
  · rw [h0, if_pos z]
  · rw [if_neg z] at h0
    rw [h0] at h ⊢
    rcases h with h | h
    · exact absurd h z
    · dsimp only at h
      clear h0 z
      unfold lacceptP at h ⊢
      by_cases ok : LOk l
      · rw [if_pos ok] at h ⊢
        by_cases a : prev < 0 ∨ 1099511627776 < prev
        · rw [if_pos a]
        · rw [if_neg a] at h ⊢
          have key : ∀ p q (es : List Wrt), (lacgP l p q es).2.2 = 152 → lacgP l p q es = (lnil, 0, (lacgP l p q es).2.2) := by
            intro p q es h
            unfold lacgP at h ⊢
            by_cases c : lend l < p
            · rw [if_pos c]
            · rw [if_neg c] at h ⊢
              by_cases d : lterm l p ≠ q
              · rw [if_pos d]
              · rw [if_neg d] at h ⊢
                unfold laccs at h
                split at h
                · exact absurd h (show ¬ ((0 : Int) = 152) by decide)
                · split at h
                  · exact absurd h (show ¬ ((0 : Int) = 152) by decide)
                  · exact absurd h (ljoin_err _ _)
          by_cases b : prev < l.base
          · rw [if_pos b] at h ⊢
            by_cases c : (es.length : Int) < l.base - prev
            · rw [if_pos c] at h; exact absurd h (show ¬ ((0 : Int) = 152) by decide)
            · rw [if_neg c] at h ⊢
              exact key _ _ _ h
          · rw [if_neg b] at h ⊢
            exact key _ _ _ h
      · rw [if_neg ok]
end Go.Proofs.Ytfalhboahdccmaa
