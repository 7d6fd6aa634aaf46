/-
  The plain layer of frames: a frame as octets ('fseal'), octets read as one ('fopen'), as far as they are frames ('stt', 'ScEnd'). Nothing of the program is named.
-/
import Derived.Test.YtlnoancjegifnaaNums
import Derived.Test.YtlnoancjegifnaaCMath
namespace Go.Proofs.Ytlnoancjegifnaa
set_option linter.unusedVariables false

abbrev Frm := UInt8 × List UInt8
def fhead (k : UInt8) (d : List UInt8) : List UInt8 := [167, k] ++ oc d.length 2 ++ d
noncomputable def fseal (k : UInt8) (d : List UInt8) : List UInt8 := fhead k d ++ oc (sum (fhead k d)) 4
theorem fhead_len (k : UInt8) (d : List UInt8) : (fhead k d).length = d.length + 4 := by simp [fhead, oc_length]; omega
theorem fseal_len (k : UInt8) (d : List UInt8) : (fseal k d).length = d.length + 8 := by simp [fseal, fhead_len, oc_length]

/-- the length that is told -/
def ftold (b : List UInt8) : Nat := numOf ((b.drop 2).take 2)
/-- the error, the frame, the octets it took -/
noncomputable def fopen (b : List UInt8) : Nat × Frm × Nat :=
  if b.length < 8 then (8, (0, []), 0)
  else if b.getD 0 0 ≠ 167 then (22, (0, []), 0)
  else if 4096 < ftold b then (5, (0, []), 0)
  else if b.length < ftold b + 8 then (8, (0, []), 0)
  else if numOf ((b.drop (ftold b + 4)).take 4) ≠ sum (b.take (ftold b + 4)) then (21, (0, []), 0)
  else (0, (b.getD 1 0, (b.drop 4).take (ftold b)), ftold b + 8)

theorem fopen_ok {b : List UInt8} (h : (fopen b).1 = 0) : 8 ≤ b.length ∧ b.getD 0 0 = 167 ∧ ftold b ≤ 4096 ∧ ftold b + 8 ≤ b.length ∧ numOf ((b.drop (ftold b + 4)).take 4) = sum (b.take (ftold b + 4)) ∧
    (fopen b).2.1 = (b.getD 1 0, (b.drop 4).take (ftold b)) ∧ (fopen b).2.2 = ftold b + 8 := by
  unfold fopen at *
  by_cases h1 : b.length < 8
  · simp [h1] at h
  rw [if_neg h1] at *
  by_cases h2 : b.getD 0 0 ≠ 167
  · rw [if_pos h2] at h; simp at h
  rw [if_neg h2] at *
  by_cases h3 : 4096 < ftold b
  · simp [h3] at h
  rw [if_neg h3] at *
  by_cases h4 : b.length < ftold b + 8
  · simp [h4] at h
  rw [if_neg h4] at *
  by_cases h5 : numOf ((b.drop (ftold b + 4)).take 4) ≠ sum (b.take (ftold b + 4))
  · rw [if_pos h5] at h; simp at h
  rw [if_neg h5] at *
  exact ⟨by omega, Decidable.not_not.1 h2, by omega, by omega, Decidable.not_not.1 h5, rfl, rfl⟩
theorem fopen_yes {b : List UInt8} (h1 : 8 ≤ b.length) (h2 : b.getD 0 0 = 167) (h3 : ftold b ≤ 4096) (h4 : ftold b + 8 ≤ b.length) (h5 : numOf ((b.drop (ftold b + 4)).take 4) = sum (b.take (ftold b + 4))) :
    fopen b = (0, (b.getD 1 0, (b.drop 4).take (ftold b)), ftold b + 8) := by
  unfold fopen
  rw [if_neg (by omega), if_neg (by simpa using h2), if_neg (by omega), if_neg (by omega), if_neg (by simpa using h5)]
theorem fopen_no {b : List UInt8} (h : (fopen b).1 ≠ 0) : (fopen b).2.1 = (0, []) ∧ (fopen b).2.2 = 0 := by
  unfold fopen at *
  by_cases h1 : b.length < 8
  · simp [h1]
  rw [if_neg h1] at *
  by_cases h2 : b.getD 0 0 ≠ 167
  · rw [if_pos h2]; exact ⟨rfl, rfl⟩
  rw [if_neg h2] at *
  by_cases h3 : 4096 < ftold b
  · simp [h3]
  rw [if_neg h3] at *
  by_cases h4 : b.length < ftold b + 8
  · simp [h4]
  rw [if_neg h4] at *
  by_cases h5 : numOf ((b.drop (ftold b + 4)).take 4) ≠ sum (b.take (ftold b + 4))
  · rw [if_pos h5]; simp
  rw [if_neg h5] at h
  exact absurd rfl h
theorem fopen_le (b : List UInt8) : (fopen b).2.2 ≤ b.length ∧ (fopen b).2.2 ≤ 4104 ∧ ((fopen b).1 = 0 → 8 ≤ (fopen b).2.2) := by
  by_cases h : (fopen b).1 = 0
  · obtain ⟨_, _, h3, h4, _, _, h7⟩ := fopen_ok h
    rw [h7]; exact ⟨h4, by omega, fun _ => by omega⟩
  · rw [(fopen_no h).2]; exact ⟨Nat.zero_le _, Nat.zero_le _, fun k => absurd k h⟩

/-- what stands behind is not looked at -/
theorem take_app {α : Type} (b c : List α) (n : Nat) (h : n ≤ b.length) : (b ++ c).take n = b.take n := List.take_append_of_le_length h
theorem mid_app {α : Type} (b c : List α) (i n : Nat) (h : i + n ≤ b.length) : ((b ++ c).drop i).take n = (b.drop i).take n := by
  rw [List.drop_append_of_le_length (by omega), take_app _ _ _ (by simp; omega)]
theorem getD_app (b c : List UInt8) (i : Nat) (h : i < b.length) : (b ++ c).getD i 0 = b.getD i 0 := by
  simp [List.getD_eq_getElem?_getD, List.getElem?_append_left h]
theorem ftold_app (b c : List UInt8) (h : 4 ≤ b.length) : ftold (b ++ c) = ftold b := by
  unfold ftold; rw [mid_app b c 2 2 h]
theorem fopen_more {b : List UInt8} (c : List UInt8) (h : (fopen b).1 = 0) : fopen (b ++ c) = fopen b := by
  obtain ⟨h1, h2, h3, h4, h5, h6, h7⟩ := fopen_ok h
  have e := ftold_app b c (by omega)
  rw [fopen_yes h1 h2 h3 h4 h5, fopen_yes (b := b ++ c) (by simp; omega) (by rw [getD_app _ _ _ (by omega)]; exact h2) (by rw [e]; exact h3) (by rw [e]; simp; omega)
    (by rw [e, mid_app b c _ 4 (by omega), take_app b c _ (by omega)]; exact h5), e, getD_app _ _ _ (by omega), mid_app b c 4 _ (by omega)]

/-! what Seal makes, read -/
theorem fhead_told (k : UInt8) (d c : List UInt8) (h : d.length ≤ 4096) : ftold (fhead k d ++ c) = d.length := by
  unfold ftold fhead
  have e : (([167, k] ++ oc d.length 2 ++ d ++ c).drop 2).take 2 = oc d.length 2 := by
    rw [List.append_assoc, List.append_assoc]
    show (oc d.length 2 ++ (d ++ c)).take 2 = _
    rw [take_app _ _ _ (by rw [oc_length]; exact Nat.le_refl _), List.take_of_length_le (by rw [oc_length]; exact Nat.le_refl _)]
  rw [e, numOf_oc _ _ (by omega)]
theorem fhead_data (k : UInt8) (d c : List UInt8) : ((fhead k d ++ c).drop 4).take d.length = d := by
  unfold fhead
  rw [List.append_assoc]
  have e : ([167, k] ++ oc d.length 2 : List UInt8).length = 4 := by simp [oc_length]
  rw [List.drop_append_of_le_length (by rw [e]; exact Nat.le_refl _), List.drop_of_length_le (by rw [e]; exact Nat.le_refl _), List.nil_append, take_app _ _ _ (Nat.le_refl _), List.take_of_length_le (Nat.le_refl _)]
theorem fopen_seal (k : UInt8) (d c : List UInt8) (h : d.length ≤ 4096) : fopen (fseal k d ++ c) = (0, (k, d), d.length + 8) := by
  have hl := fhead_len k d
  have e0 : fseal k d ++ c = fhead k d ++ (oc (sum (fhead k d)) 4 ++ c) := by unfold fseal; rw [List.append_assoc]
  have et : ftold (fseal k d ++ c) = d.length := by rw [e0]; exact fhead_told k d _ h
  have es : sum (fhead k d) < 2 ^ (8 * 4) := sum_lt _
  have e1 : ((fseal k d ++ c).drop (d.length + 4)).take 4 = oc (sum (fhead k d)) 4 := by
    rw [e0, List.drop_append_of_le_length (by omega), List.drop_of_length_le (by omega), List.nil_append, take_app _ _ _ (by rw [oc_length]; exact Nat.le_refl _), List.take_of_length_le (by rw [oc_length]; exact Nat.le_refl _)]
  have e2 : (fseal k d ++ c).take (d.length + 4) = fhead k d := by
    rw [e0, take_app _ _ _ (by omega), List.take_of_length_le (by omega)]
  have hL : (fseal k d ++ c).length = d.length + 8 + c.length := by rw [List.length_append, fseal_len]
  rw [fopen_yes (by omega) (by rw [e0]; rfl) (by rw [et]; exact h) (by rw [et]; omega) (by rw [et, e1, e2, numOf_oc _ _ es]), et]
  rw [e0, fhead_data]
  rfl
/-- cut off within a frame -/
theorem fopen_torn (k : UInt8) (d c : List UInt8) (h : d.length ≤ 4096) (m : Nat) (hm : m < d.length + 8) : (fopen ((fseal k d ++ c).take m)).1 ≠ 0 := by
  intro h0
  obtain ⟨h1, _, _, h4, _⟩ := fopen_ok h0
  have hl := fhead_len k d
  have hL : (fseal k d ++ c).length = d.length + 8 + c.length := by rw [List.length_append, fseal_len]
  have e : ftold ((fseal k d ++ c).take m) = d.length := by
    have e1 : (fseal k d ++ c).take m ++ (fseal k d ++ c).drop m = fseal k d ++ c := List.take_append_drop m _
    have e2 := ftold_app ((fseal k d ++ c).take m) ((fseal k d ++ c).drop m) (by rw [List.length_take] at h1 ⊢; omega)
    rw [e1] at e2
    rw [← e2]
    unfold fseal
    rw [List.append_assoc]
    exact fhead_told k d _ h
  rw [e, List.length_take, hL] at h4
  omega

/-! scanning: behind n frames -/
noncomputable def stt (b : List UInt8) : Nat → Option (List Frm × Nat)
  | 0 => some ([], 0)
  | n + 1 => (stt b n).bind fun s => if (fopen (b.drop s.2)).1 = 0 then some (s.1 ++ [(fopen (b.drop s.2)).2.1], s.2 + (fopen (b.drop s.2)).2.2) else none
theorem stt_len (b : List UInt8) : ∀ n {fs p}, stt b n = some (fs, p) → fs.length = n ∧ p ≤ b.length ∧ 8 * n ≤ p := by
  intro n
  induction n with
  | zero => intro fs p h; simp [stt] at h; obtain ⟨rfl, rfl⟩ := h; simp
  | succ n ih =>
    intro fs p h
    simp only [stt, Option.bind_eq_some_iff] at h
    obtain ⟨⟨fs', p'⟩, h1, h2⟩ := h
    obtain ⟨i1, i2, i3⟩ := ih h1
    by_cases h0 : (fopen (b.drop p')).1 = 0
    · rw [if_pos h0] at h2
      simp only [Option.some.injEq, Prod.mk.injEq] at h2
      obtain ⟨rfl, rfl⟩ := h2
      obtain ⟨j1, _, j3⟩ := fopen_le (b.drop p')
      rw [List.length_drop] at j1
      have := j3 h0
      refine ⟨by simp [i1], by omega, by omega⟩
    · rw [if_neg h0] at h2; cases h2
theorem stt_step {b : List UInt8} {n p : Nat} {fs : List Frm} (h : stt b n = some (fs, p)) (h0 : (fopen (b.drop p)).1 = 0) :
    stt b (n + 1) = some (fs ++ [(fopen (b.drop p)).2.1], p + (fopen (b.drop p)).2.2) := by
  simp only [stt, h, Option.bind_some, if_pos h0]
theorem stt_stop {b : List UInt8} {n p : Nat} {fs : List Frm} (h : stt b n = some (fs, p)) (h0 : (fopen (b.drop p)).1 ≠ 0) : stt b (n + 1) = none := by
  simp only [stt, h, Option.bind_some, if_neg h0]
theorem stt_none {b : List UInt8} {n : Nat} (h : stt b n = none) (m : Nat) (hm : n ≤ m) : stt b m = none := by
  induction m with
  | zero => rw [show n = 0 from by omega] at h; exact h
  | succ m ih =>
    by_cases e : n = m + 1
    · subst e; exact h
    · simp only [stt, ih (by omega), Option.bind_none]

/-- all frames from the beginning: what Scan answers -/
def ScEnd (b : List UInt8) (fs : List Frm) (p : Nat) : Prop := stt b fs.length = some (fs, p) ∧ (fopen (b.drop p)).1 ≠ 0
theorem ScEnd.le {b : List UInt8} {fs : List Frm} {p : Nat} (h : ScEnd b fs p) : p ≤ b.length ∧ 8 * fs.length ≤ p := (stt_len b _ h.1).2
theorem ScEnd.one {b : List UInt8} {fs gs : List Frm} {p q : Nat} (h : ScEnd b fs p) (k : ScEnd b gs q) : fs = gs ∧ p = q := by
  have aux : ∀ {fs gs : List Frm} {p q : Nat}, ScEnd b fs p → ScEnd b gs q → gs.length ≤ fs.length := by
    intro fs gs p q h k
    by_cases hl : gs.length ≤ fs.length
    · exact hl
    · have := stt_none (stt_stop h.1 h.2) gs.length (by omega)
      rw [k.1] at this; cases this
  have hl : fs.length = gs.length := Nat.le_antisymm (aux k h) (aux h k)
  have := h.1
  rw [hl, k.1] at this
  simp only [Option.some.injEq, Prod.mk.injEq] at this
  exact ⟨this.1.symm, this.2.symm⟩

theorem drop_app' {α : Type} (b c : List α) (p : Nat) (h : p ≤ b.length) : (b ++ c).drop p = b.drop p ++ c := List.drop_append_of_le_length h
/-- the frames of a text are those of the text with more behind it -/
theorem stt_more {b : List UInt8} (c : List UInt8) (n : Nat) : ∀ {fs p}, stt b n = some (fs, p) → stt (b ++ c) n = some (fs, p) := by
  induction n with
  | zero => intro fs p h; exact h
  | succ n ih =>
    intro fs p h
    simp only [stt, Option.bind_eq_some_iff] at h
    obtain ⟨⟨fs', p'⟩, h1, h2⟩ := h
    have hp := (stt_len b n h1).2.1
    by_cases h0 : (fopen (b.drop p')).1 = 0
    · rw [if_pos h0] at h2
      have e := fopen_more c h0
      rw [← drop_app' b c p' hp] at e
      have := stt_step (ih h1) (by rw [e]; exact h0)
      rw [e] at this
      rw [this]; exact h2
    · rw [if_neg h0] at h2; cases h2
/-- a whole text, and another behind it -/
theorem stt_join {a : List UInt8} (b : List UInt8) {n : Nat} {fs : List Frm} (h : stt a n = some (fs, a.length)) (m : Nat) : ∀ {gs q}, stt b m = some (gs, q) → stt (a ++ b) (n + m) = some (fs ++ gs, a.length + q) := by
  induction m with
  | zero => intro gs q k; simp [stt] at k; obtain ⟨rfl, rfl⟩ := k; simpa using stt_more b n h
  | succ m ih =>
    intro gs q k
    simp only [stt, Option.bind_eq_some_iff] at k
    obtain ⟨⟨gs', q'⟩, k1, k2⟩ := k
    by_cases h0 : (fopen (b.drop q')).1 = 0
    · rw [if_pos h0] at k2
      simp only [Option.some.injEq, Prod.mk.injEq] at k2
      obtain ⟨rfl, rfl⟩ := k2
      have e : (a ++ b).drop (a.length + q') = b.drop q' := by rw [← List.drop_drop, List.drop_left]
      have := stt_step (ih k1) (by rw [e]; exact h0)
      rw [e] at this
      rw [← Nat.add_assoc, this]
      simp [Nat.add_assoc]
    · rw [if_neg h0] at k2; cases k2
theorem sc_join {a b : List UInt8} {fs gs : List Frm} {q : Nat} (h : ScEnd a fs a.length) (k : ScEnd b gs q) : ScEnd (a ++ b) (fs ++ gs) (a.length + q) := by
  refine ⟨by rw [List.length_append]; exact stt_join b h.1 _ k.1, ?_⟩
  rw [← List.drop_drop, List.drop_left]; exact k.2
theorem sc_prefix {a b : List UInt8} {fs gs : List Frm} {p q : Nat} (h : ScEnd a fs p) (k : ScEnd (a ++ b) gs q) : p ≤ q ∧ fs.length ≤ gs.length ∧ gs.take fs.length = fs := by
  have h1 := stt_more b _ h.1
  have hl : fs.length ≤ gs.length := by
    by_cases hl : fs.length ≤ gs.length
    · exact hl
    · have := stt_none (stt_stop k.1 k.2) fs.length (by omega)
      rw [h1] at this; cases this
  have aux : ∀ m {gs q}, stt (a ++ b) (fs.length + m) = some (gs, q) → p ≤ q ∧ gs.take fs.length = fs := by
    intro m
    induction m with
    | zero =>
      intro gs q e
      rw [Nat.add_zero, h1] at e
      simp only [Option.some.injEq, Prod.mk.injEq] at e
      obtain ⟨rfl, rfl⟩ := e
      exact ⟨Nat.le_refl _, List.take_length⟩
    | succ m ih =>
      intro gs q e
      rw [← Nat.add_assoc] at e
      simp only [stt, Option.bind_eq_some_iff] at e
      obtain ⟨⟨gs', q'⟩, k1, k2⟩ := e
      obtain ⟨i1, i2⟩ := ih k1
      have hg := (stt_len _ _ k1).1
      by_cases h0 : (fopen ((a ++ b).drop q')).1 = 0
      · rw [if_pos h0] at k2
        simp only [Option.some.injEq, Prod.mk.injEq] at k2
        obtain ⟨rfl, rfl⟩ := k2
        exact ⟨by omega, by rw [List.take_append_of_le_length (by omega)]; exact i2⟩
      · rw [if_neg h0] at k2; cases k2
  have := aux (gs.length - fs.length) (gs := gs) (q := q) (by rw [show fs.length + (gs.length - fs.length) = gs.length from by omega]; exact k.1)
  exact ⟨this.1, hl, this.2⟩

end Go.Proofs.Ytlnoancjegifnaa
