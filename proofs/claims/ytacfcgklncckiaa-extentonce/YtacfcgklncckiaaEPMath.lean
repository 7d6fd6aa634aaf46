/-
  Extents: what the program lays is what the page asks.
-/
import Derived.Test.YtacfcgklncckiaaEWithQ
namespace Go.Proofs.Ytacfcgklncckiaa
set_option linter.unusedVariables false

theorem eSpans_one (s : Int × Int) : eSpans [s] = eSpan s := by unfold eSpans; rw [List.flatMap_cons, List.flatMap_nil, List.append_nil]
theorem eSpans_two (s t : Int × Int) : eSpans [s, t] = eSpan s ++ eSpan t := by unfold eSpans; rw [List.flatMap_cons, List.flatMap_cons, List.flatMap_nil, List.append_nil]
theorem list_split {α : Type} {l : List α} {i : Nat} {y : α} (h : l[i]? = some y) : l = l.take i ++ y :: l.drop (i + 1) := by
  obtain ⟨hi, e⟩ := List.getElem?_eq_some_iff.1 h
  conv => lhs; rw [← List.take_append_drop i l]
  rw [List.drop_eq_getElem_cons hi, e]
theorem eCutOut {n e : Int} {l : List Ext} {i : Nat} {x y : Ext} (h : eRow n e l) (hy : l[i]? = some y) (h1 : y.1 ≤ x.1) (h2 : x.1 + x.2 ≤ y.1 + y.2) (hx : 1 ≤ x.2) :
    l.take i ++ eSpans [(y.1, x.1), (x.1 + x.2, y.1 + y.2)] ++ l.drop (i + 1) = eWithout l x := by
  have hl := list_split hy
  have hq := h
  rw [hl] at hq
  have := eWithout_at hq h1 h2 hx
  rw [← hl] at this
  rw [this, eSpans_two]
  unfold eSpan
  dsimp only
  congr 2
  congr 1
  by_cases c : x.1 + x.2 < y.1 + y.2
  · rw [if_pos c, if_pos (by omega), show y.1 + y.2 - (x.1 + x.2) = y.1 + y.2 - x.1 - x.2 by omega]
  · rw [if_neg c, if_neg (by omega)]
theorem eIdx_cons (p : Int → Int → Bool) (x : Ext) (l : List Ext) : eIdx p (x :: l) = if p x.1 (x.1 + x.2) then 0 else eIdx p l + 1 := by
  unfold eIdx
  rw [List.findIdx_cons]
  cases p x.1 (x.1 + x.2) <;> rfl
theorem eIdx_zero {p : Int → Int → Bool} : ∀ {l : List Ext}, (∀ y ∈ l, p y.1 (y.1 + y.2) = true) → eIdx p l = 0
  | [], _ => rfl
  | x :: r, h => by rw [eIdx_cons, if_pos (h x (List.mem_cons_self ..))]
theorem eIdx_lt {p : Int → Int → Bool} {l : List Ext} (h : eIdx p l < l.length) : ∃ y, l[eIdx p l]? = some y ∧ p y.1 (y.1 + y.2) = true ∧ y ∈ l :=
  ⟨l[eIdx p l], List.getElem?_eq_getElem h, List.findIdx_getElem (w := h) (p := fun x : Ext => p x.1 (x.1 + x.2)), List.getElem_mem h⟩
theorem eIdx_eq {p : Int → Int → Bool} {l : List Ext} (h : ¬ eIdx p l < l.length) : ∀ y ∈ l, p y.1 (y.1 + y.2) = false := by
  have : eIdx p l = l.length := by have := eIdx_le p l; omega
  exact List.findIdx_eq_length.1 this
theorem eIdx_find {p : Int → Int → Bool} {l : List Ext} {y : Ext} (h : eIdx p l < l.length) (hy : l[eIdx p l]? = some y) (f : Ext → Bool) (hf : ∀ x, f x = p x.1 (x.1 + x.2)) : l.find? f = some y := by
  obtain rfl : f = fun x => p x.1 (x.1 + x.2) := funext hf
  induction l with
  | nil => simp at h
  | cons x r ih =>
    rw [eIdx_cons] at h hy
    rw [List.find?_cons]
    cases hp : p x.1 (x.1 + x.2) with
    | true =>
      rw [hp] at hy
      simpa using hy
    | false =>
      rw [hp] at h hy
      simp at h hy
      exact ih h hy

/-- some of it is free -/
theorem eLay_none {x : Ext} (hx : 1 ≤ x.2) : ∀ (rest out : List Ext) (laid : Bool) (x' : Ext), x'.1 ≤ x.1 → x.1 + x.2 ≤ x'.1 + x'.2 → (∀ y ∈ rest, 1 ≤ y.2) → (∃ y ∈ rest, y.1 < x.1 + x.2 ∧ x.1 < y.1 + y.2) → eLay rest out laid x' = none
  | [], _, _, _, _, _, _, ⟨y, hy, _⟩ => nomatch hy
  | z :: r, out, laid, x', h1, h2, hs, ⟨y, hy, hy1, hy2⟩ => by
    have hz := hs z (List.mem_cons_self ..)
    have hr := fun y hy => hs y (List.mem_cons_of_mem _ hy)
    unfold eLay
    by_cases c0 : z.1 < x'.1 + x'.2 ∧ x'.1 < z.1 + z.2
    · rw [if_pos c0]
    · rw [if_neg c0]
      have hyr : ∃ y ∈ r, y.1 < x.1 + x.2 ∧ x.1 < y.1 + y.2 := by
        rcases List.mem_cons.1 hy with rfl | hy
        · exact absurd ⟨by omega, by omega⟩ c0
        · exact ⟨y, hy, hy1, hy2⟩
      split
      · exact eLay_none hx r _ _ _ h1 h2 hr hyr
      · split
        · exact eLay_none hx r _ _ _ (by dsimp only; omega) (by dsimp only; omega) hr hyr
        · split
          · exact eLay_none hx r _ _ _ (by dsimp only; omega) (by dsimp only; omega) hr hyr
          · exact eLay_none hx r _ _ _ h1 h2 hr hyr
theorem eJoin_cons (s : Int × Int) (y : Ext) (l : List Ext) : eJoin s (y :: l) = eJoin (if y.1 < s.1 then y.1 else s.1, if y.1 + y.2 > s.2 then y.1 + y.2 else s.2) l := rfl
/-- none of it is free -/
theorem eLay_with {n : Int} : ∀ (l out : List Ext) (x : Ext) (e : Int), eRow n e l → 1 ≤ x.2 → (∀ y ∈ l, y.1 + y.2 ≤ x.1 ∨ x.1 + x.2 ≤ y.1) →
    eLay l out false x = some (out ++ (l.take (eIdx (fun _ y => decide (x.1 ≤ y)) l) ++ eSpan (eJoin (x.1, x.1 + x.2) ((l.take (eIdx (fun z _ => decide (x.1 + x.2 < z)) l)).drop (eIdx (fun _ y => decide (x.1 ≤ y)) l))) ++ l.drop (eIdx (fun z _ => decide (x.1 + x.2 < z)) l)))
  | [], out, x, e, _, hx, _ => by
    show some (out ++ [x]) = _
    simp only [eIdx, List.findIdx_nil, List.take_nil, List.drop_nil, eJoin, List.foldl_nil, eSpan]
    rw [if_pos (by omega)]
    simp only [List.nil_append, List.append_nil]
    rw [show x.1 + x.2 - x.1 = x.2 by omega]
  | y :: r, out, x, e, ⟨⟨g1, g2, g3, g4⟩, g5⟩, hx, hno => by
    have hy := hno y (List.mem_cons_self ..)
    have hr := fun z hz => hno z (List.mem_cons_of_mem _ hz)
    have hm := eRow_mem g5
    have hne : ¬ (y.1 < x.1 + x.2 ∧ x.1 < y.1 + y.2) := by omega
    unfold eLay
    rw [if_neg hne, eIdx_cons, eIdx_cons]
    by_cases c1 : y.1 + y.2 < x.1
    · rw [if_pos c1, if_neg (by simp; omega), if_neg (by simp; omega), eLay_with r (out ++ [y]) x _ g5 hx hr]
      simp
    · rw [if_neg c1]
      by_cases c2 : y.1 + y.2 = x.1
      · rw [if_pos c2, if_pos (by simp; omega), if_neg (by simp; omega), eLay_with r out (y.1, y.2 + x.2) _ g5 (by dsimp only; omega) (fun z hz => by have := hm z hz; have := hr z hz; right; dsimp only; omega)]
        dsimp only
        rw [eIdx_zero (p := fun _ z => decide (y.1 ≤ z)) (fun z hz => by have := hm z hz; simp; omega), show y.1 + (y.2 + x.2) = x.1 + x.2 by omega]
        simp only [List.take_zero, List.drop_zero, List.nil_append, List.take_succ_cons, List.drop_succ_cons]
        rw [eJoin_cons, if_pos (by dsimp only; omega), if_neg (by dsimp only; omega)]
      · have d1 : decide (x.1 ≤ y.1 + y.2) = true := by simp; omega
        rw [if_neg c2, if_pos d1]
        by_cases c3 : y.1 = x.1 + x.2
        · have d2 : ¬ decide (x.1 + x.2 < y.1) = true := by simp; omega
          rw [if_pos c3, if_neg d2, eLay_with r out (x.1, x.2 + y.2) _ g5 (by dsimp only; omega) (fun z hz => by have := hm z hz; right; dsimp only; omega)]
          dsimp only
          rw [eIdx_zero (p := fun _ z => decide (x.1 ≤ z)) (fun z hz => by have := hm z hz; simp; omega), eIdx_zero (p := fun z _ => decide (x.1 + (x.2 + y.2) < z)) (fun z hz => by have := hm z hz; simp; omega), eIdx_zero (p := fun z _ => decide (x.1 + x.2 < z)) (fun z hz => by have := hm z hz; simp; omega)]
          simp only [List.take_zero, List.drop_zero, List.nil_append, List.take_succ_cons, List.drop_succ_cons]
          rw [eJoin_cons, if_neg (by dsimp only; omega), if_pos (by dsimp only; omega), show y.1 + y.2 = x.1 + (x.2 + y.2) by omega]
        · have d2 : decide (x.1 + x.2 < y.1) = true := by simp; omega
          rw [if_neg c3, if_pos d2]
          show eLay r (out ++ [x] ++ [y]) true x = _
          rw [eLay_behind hx _ (fun z hz => by have := hm z hz; omega)]
          simp only [List.take_zero, List.drop_zero, List.nil_append, eJoin, List.foldl_nil, eSpan]
          rw [if_pos (by omega), show x.1 + x.2 - x.1 = x.2 by omega]
          simp

end Go.Proofs.Ytacfcgklncckiaa
