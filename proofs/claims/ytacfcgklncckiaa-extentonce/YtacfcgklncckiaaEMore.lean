/-
  Extents: what the laws ask of them: back, all that are given, none twice.
-/
import Derived.Test.YtacfcgklncckiaaEMath
namespace Go.Proofs.Ytacfcgklncckiaa
set_option linter.unusedVariables false

theorem ealloc_no {m : EMap} {s : Int} (h : (ealloc m s).2.2 ≠ 0) : (ealloc m s).1 = (0, []) ∧ (ealloc m s).2.1 = (0, 0) := by
  unfold ealloc at *
  split
  · exact ⟨rfl, rfl⟩
  · rename_i h1
    rw [if_neg h1] at h
    split
    · exact ⟨rfl, rfl⟩
    · rename_i h2
      rw [if_neg h2] at h
      split
      · rename_i y hy
        rw [hy] at h
        exact absurd rfl h
      · exact ⟨rfl, rfl⟩
/-- what Alloc gives -/
theorem ealloc_at {m : EMap} {s : Int} (hok : EOk m) (hs : 1 ≤ s) {y : Ext} (hy : m.2.find? (fun y => decide (s ≤ y.2)) = some y) :
    ∃ pre post, m.2 = pre ++ y :: post ∧ s ≤ y.2 ∧ (∀ z ∈ pre, z.2 < s) ∧ ealloc m s = ((m.1, eWithout m.2 (y.1, s)), (y.1, s), 0) := by
  obtain ⟨h1, pre, post, h2, h3⟩ := List.find?_eq_some_iff_append.1 hy
  refine ⟨pre, post, h2, by simpa using h1, fun z hz => by have := h3 z hz; simpa using this, ?_⟩
  unfold ealloc
  rw [if_neg (fun h => h hok), if_neg (by omega), hy]
theorem ealloc_cases {m : EMap} {s : Int} (h : (ealloc m s).2.2 = 0) : EOk m ∧ 1 ≤ s ∧ ∃ y, m.2.find? (fun y => decide (s ≤ y.2)) = some y := by
  unfold ealloc at h
  split at h
  · cases h
  · rename_i h1
    split at h
    · cases h
    · rename_i h2
      split at h
      · rename_i y hy
        exact ⟨Decidable.not_not.1 h1, by omega, y, hy⟩
      · cases h
theorem ealloc_back {m : EMap} {s : Int} (h : (ealloc m s).2.2 = 0) :
    efree (ealloc m s).1 (ealloc m s).2.1 = (m, 0) ∧ etake m (ealloc m s).2.1 = ((ealloc m s).1, 0) ∧ (ealloc m s).2.1.2 = s ∧ EOk (ealloc m s).1 := by
  obtain ⟨hok, hs, y, hy⟩ := ealloc_cases h
  obtain ⟨pre, post, hm, hsy, _, he⟩ := ealloc_at hok hs hy
  rw [he]
  obtain ⟨n, l⟩ := m
  dsimp only at *
  subst hm
  obtain ⟨k1, k2, k3⟩ := eRow_split hok.2.2
  have hr := eWithout_row (x := (y.1, s)) hok.2.2 (Int.le_refl _) (by dsimp only; omega) hs
  have ok2 : EOk (n, eWithout (pre ++ y :: post) (y.1, s)) := ⟨hok.1, hok.2.1, hr.1⟩
  refine ⟨?_, ?_, rfl, ok2⟩
  · unfold efree
    have ha : easked (n, eWithout (pre ++ y :: post) (y.1, s)) (y.1, s) = 0 := by
      unfold easked
      rw [if_neg (fun h => h ok2), if_neg (by dsimp only; omega)]
    rw [if_neg (fun h => h ha)]
    dsimp only
    rw [eLay_back (x := (y.1, s)) hok.2.2 (Int.le_refl _) (by dsimp only; omega) hs]
  · unfold etake
    have ha : easked (n, pre ++ y :: post) (y.1, s) = 0 := by
      unfold easked
      rw [if_neg (fun h => h hok), if_neg (by dsimp only; omega)]
    rw [if_neg (fun h => h ha), if_pos]
    rw [List.any_eq_true]
    exact ⟨y, by simp, by simp; omega⟩

/-- how many of s there are -/
def eCount (s : Int) (l : List Ext) : Int := l.foldl (fun a y => a + y.2 / s) 0
theorem eCount_from (s a : Int) : ∀ l : List Ext, l.foldl (fun a y => a + y.2 / s) a = a + eCount s l := by
  intro l
  induction l generalizing a with
  | nil => simp [eCount]
  | cons x r ih =>
    unfold eCount
    rw [List.foldl_cons, List.foldl_cons, ih, ih]
    omega
theorem eCount_cons (s : Int) (x : Ext) (l : List Ext) : eCount s (x :: l) = x.2 / s + eCount s l := by
  conv => lhs; unfold eCount
  rw [List.foldl_cons, eCount_from]; omega
theorem eCount_app (s : Int) (a b : List Ext) : eCount s (a ++ b) = eCount s a + eCount s b := by
  conv => lhs; unfold eCount
  rw [List.foldl_append, eCount_from]
  rfl
theorem eCount_nil (s : Int) : eCount s [] = 0 := rfl
theorem eCount_pos {s : Int} (hs : 1 ≤ s) : ∀ {l : List Ext}, (∀ z ∈ l, 1 ≤ z.2) → 0 ≤ eCount s l ∧ (eCount s l = 0 → ∀ z ∈ l, z.2 < s)
  | [], _ => ⟨Int.le_refl _, fun _ z hz => nomatch hz⟩
  | x :: r, h => by
    obtain ⟨k1, k2⟩ := eCount_pos hs (l := r) fun z hz => h z (List.mem_cons_of_mem _ hz)
    have hx := h x (List.mem_cons_self ..)
    have hd : 0 ≤ x.2 / s := Int.ediv_nonneg (by omega) (by omega)
    rw [eCount_cons]
    refine ⟨by omega, fun h0 z hz => ?_⟩
    rcases List.mem_cons.1 hz with rfl | hz
    · have h1 : z.2 / s = 0 := by omega
      by_cases hlt : z.2 < s
      · exact hlt
      · have : 1 ≤ z.2 / s := (Int.le_ediv_iff_mul_le (by omega)).2 (by omega)
        omega
    · exact k2 (by omega) z hz
theorem eRow_size {n e : Int} {l : List Ext} (h : eRow n e l) : ∀ z ∈ l, 1 ≤ z.2 := fun z hz => (eRow_mem h z hz).1
theorem eLargest_lt {s : Int} (hs : 0 < s) : ∀ (l : List Ext) (a : Int), a < s → (∀ z ∈ l, z.2 < s) → l.foldl (fun a y => max a y.2) a < s
  | [], a, ha, _ => ha
  | x :: r, a, ha, h => eLargest_lt hs r (max a x.2) (by have := h x (List.mem_cons_self ..); omega) fun z hz => h z (List.mem_cons_of_mem _ hz)
/-- none is left -/
theorem ealloc_full {m : EMap} {s : Int} (hok : EOk m) (hs : 1 ≤ s) (h0 : eCount s m.2 = 0) : ealloc m s = ((0, []), (0, 0), 51) ∧ eLargest m.2 < s := by
  have hall := (eCount_pos hs (eRow_size hok.2.2)).2 h0
  constructor
  · unfold ealloc
    rw [if_neg (fun h => h hok), if_neg (by omega)]
    have : m.2.find? (fun y => decide (s ≤ y.2)) = none := by
      rw [List.find?_eq_none]
      intro z hz
      have := hall z hz
      simpa using this
    rw [this]
  · exact eLargest_lt (by omega) m.2 0 (by omega) hall
/-- one more is given -/
theorem ealloc_next {m : EMap} {s : Int} (hok : EOk m) (hs : 1 ≤ s) (h0 : 0 < eCount s m.2) :
    ∃ y W, ealloc m s = ((m.1, W), (y.1, s), 0) ∧ EOk (m.1, W) ∧ eCount s W = eCount s m.2 - 1 ∧ eTotal W = eTotal m.2 - s ∧ (∀ z ∈ W, s ≤ z.2 → y.1 < z.1) ∧ y ∈ m.2 ∧ s ≤ y.2 := by
  obtain ⟨y, hy⟩ : ∃ y, m.2.find? (fun y => decide (s ≤ y.2)) = some y := by
    cases hf : m.2.find? (fun y => decide (s ≤ y.2)) with
    | some y => exact ⟨y, rfl⟩
    | none =>
      rw [List.find?_eq_none] at hf
      exfalso
      have : ∀ (l : List Ext), (∀ z ∈ l, 1 ≤ z.2 ∧ z.2 < s) → eCount s l = 0 := by
        intro l
        induction l with
        | nil => intro _; rfl
        | cons x r ih =>
          intro h
          rw [eCount_cons, ih fun z hz => h z (List.mem_cons_of_mem _ hz), Int.ediv_eq_zero_of_lt (by have := h x (List.mem_cons_self ..); omega) (h x (List.mem_cons_self ..)).2]
          rfl
      have := this m.2 fun z hz => ⟨eRow_size hok.2.2 z hz, by have := hf z hz; simpa using this⟩
      omega
  obtain ⟨pre, post, hm, hsy, hpre, he⟩ := ealloc_at hok hs hy
  obtain ⟨n, l⟩ := m
  dsimp only at *
  subst hm
  obtain ⟨k1, k2, k3⟩ := eRow_split hok.2.2
  obtain ⟨r1, r2, _⟩ := eWithout_row (x := (y.1, s)) hok.2.2 (Int.le_refl _) (by dsimp only; omega) hs
  refine ⟨y, _, he, ⟨hok.1, hok.2.1, r1⟩, ?_, r2, ?_, by simp, hsy⟩
  · rw [eWithout_at (x := (y.1, s)) hok.2.2 (Int.le_refl _) (by dsimp only; omega) hs, if_neg (by dsimp only; omega)]
    simp only [eCount_app, eCount_cons, List.nil_append]
    have e1 : y.2 / s = (y.2 - s) / s + 1 := by
      have := Int.add_ediv_of_dvd_right (a := y.2 - s) (b := s) (c := s) (Int.dvd_refl s)
      rw [Int.ediv_self (by omega), show y.2 - s + s = y.2 by omega] at this
      exact this
    split
    · rw [eCount_cons, eCount_nil]
      dsimp only
      rw [show y.1 + y.2 - y.1 - s = y.2 - s by omega]
      omega
    · rw [show y.2 - s = 0 by omega, Int.zero_ediv] at e1
      rw [eCount_nil]
      omega
  · rw [eWithout_at (x := (y.1, s)) hok.2.2 (Int.le_refl _) (by dsimp only; omega) hs, if_neg (by dsimp only; omega)]
    intro z hz hzs
    rcases List.mem_append.1 hz with hz | hz
    · rcases List.mem_append.1 hz with hz | hz
      · have := hpre z hz; omega
      · rw [List.nil_append] at hz
        split at hz
        · simp only [List.mem_singleton] at hz
          subst hz
          dsimp only; omega
        · cases hz
    · have := k3 z hz; omega
theorem eTotal_le {n : Int} : ∀ {l : List Ext} {e : Int}, -1 ≤ e → eRow n e l → 0 ≤ eTotal l ∧ eTotal l ≤ max 0 (n - (e + 1))
  | [], e, _, _ => ⟨Int.le_refl _, by rw [eTotal_nil]; omega⟩
  | x :: r, e, he, ⟨⟨h1, h2, h3, h4⟩, h5⟩ => by
    have := eTotal_le (e := x.1 + x.2) (by omega) h5
    rw [eTotal_cons]
    omega

def eApart (x y : Ext) : Prop := x.1 + x.2 ≤ y.1 ∨ y.1 + y.2 ≤ x.1
theorem eApart_symm {x y : Ext} (h : eApart x y) : eApart y x := h.symm
/-- what is given and what is free are all there are, none twice -/
structure GInv (n : Int) (m : EMap) (g : List Ext) : Prop where
  ok : EOk m
  sz : m.1 = n
  tot : eTotal m.2 + eTotal g = n
  inr : ∀ x ∈ g, 1 ≤ x.2 ∧ 0 ≤ x.1 ∧ x.1 + x.2 ≤ n
  dj : g.Pairwise eApart
  fr : ∀ x ∈ g, ∀ y ∈ m.2, eApart x y
theorem GInv.start {n : Int} (h0 : 0 ≤ n) (h1 : n ≤ 1048576) : (enew n).2 = 0 ∧ GInv n (enew n).1 [] := by
  unfold enew
  rw [if_neg (by omega)]
  by_cases hz : n = 0
  · subst hz
    rw [if_pos rfl]
    exact ⟨rfl, ⟨Int.le_refl _, by decide, trivial⟩, rfl, rfl, fun x hx => (nomatch hx), List.Pairwise.nil, fun x hx => (nomatch hx)⟩
  · rw [if_neg hz]
    refine ⟨rfl, ⟨h0, h1, ⟨by dsimp only; omega, Int.le_refl _, by dsimp only; omega, by dsimp only; omega⟩, trivial⟩, rfl, ?_, fun x hx => (nomatch hx), List.Pairwise.nil, fun x hx => (nomatch hx)⟩
    simp only [eTotal_cons, eTotal_nil]; omega
theorem GInv.alloc {n : Int} {m : EMap} {g : List Ext} (h : GInv n m g) {s : Int} (he : (ealloc m s).2.2 = 0) : GInv n (ealloc m s).1 (g ++ [(ealloc m s).2.1]) := by
  obtain ⟨hok, hs, y, hy⟩ := ealloc_cases he
  obtain ⟨pre, post, hm, hsy, _, e⟩ := ealloc_at hok hs hy
  rw [e]
  obtain ⟨n', l⟩ := m
  obtain ⟨h1, h2, h3, h4, h5, h6⟩ := h
  dsimp only at *
  subst hm h2
  obtain ⟨k1, k2, k3⟩ := eRow_split hok.2.2
  obtain ⟨r1, r2, _⟩ := eWithout_row (x := (y.1, s)) hok.2.2 (Int.le_refl _) (by dsimp only; omega) hs
  have hyg : ∀ x ∈ g, eApart x y := fun x hx => h6 x hx y (by simp)
  refine ⟨⟨hok.1, hok.2.1, r1⟩, rfl, ?_, ?_, ?_, ?_⟩
  · show eTotal (eWithout (pre ++ y :: post) (y.1, s)) + _ = _
    rw [r2, eTotal_app g, eTotal_cons, eTotal_nil]; dsimp only; omega
  · intro x hx
    rcases List.mem_append.1 hx with hx | hx
    · exact h4 x hx
    · simp only [List.mem_singleton] at hx
      subst hx
      dsimp only; omega
  · rw [List.pairwise_append]
    refine ⟨h5, List.pairwise_singleton _ _, fun x hx z hz => ?_⟩
    simp only [List.mem_singleton] at hz
    subst hz
    have := hyg x hx
    unfold eApart at *
    dsimp only; omega
  · show ∀ x ∈ g ++ [(y.1, s)], ∀ z ∈ eWithout (pre ++ y :: post) (y.1, s), eApart x z
    rw [eWithout_at (x := (y.1, s)) hok.2.2 (Int.le_refl _) (by dsimp only; omega) hs, if_neg (by dsimp only; omega), List.nil_append]
    intro x hx z hz
    have hz' : z ∈ pre ∨ z = (y.1 + s, y.2 - s) ∨ z ∈ post := by
      rcases List.mem_append.1 hz with hz | hz
      · rcases List.mem_append.1 hz with hz | hz
        · exact .inl hz
        · split at hz
          · simp only [List.mem_singleton] at hz
            right; left
            rw [hz]
            try dsimp only
            rw [show y.1 + y.2 - y.1 - s = y.2 - s by omega]
          · cases hz
      · exact .inr (.inr hz)
    rcases List.mem_append.1 hx with hx | hx
    · rcases hz' with hz | rfl | hz
      · exact h6 x hx z (by simp [hz])
      · have := hyg x hx
        unfold eApart at *
        dsimp only; omega
      · exact h6 x hx z (by simp [hz])
    · simp only [List.mem_singleton] at hx
      subst hx
      unfold eApart
      rcases hz' with hz | rfl | hz
      · have := k1 z hz; dsimp only; omega
      · dsimp only; omega
      · have := k3 z hz; dsimp only; omega
theorem GInv.free {n : Int} {m : EMap} {g g' : List Ext} {x : Ext} (h : GInv n m g) (hp : List.Perm g (x :: g')) : (efree m x).2 = 0 ∧ GInv n (efree m x).1 g' := by
  obtain ⟨h1, h2, h3, h4, h5, h6⟩ := h
  have hx : x ∈ g := hp.mem_iff.2 (List.mem_cons_self ..)
  have hg : ∀ z ∈ g', z ∈ g := fun z hz => hp.mem_iff.2 (List.mem_cons_of_mem _ hz)
  obtain ⟨x1, x2, x3⟩ := h4 x hx
  have hdj := (hp.pairwise_iff (fun h => eApart_symm h)).1 h5
  rw [List.pairwise_cons] at hdj
  obtain ⟨l, e, q1, q2, q3⟩ := eLay_row m.2 [] x (-1) trivial (by show (-1 : Int) < x.1; omega) (Int.le_refl _) x1 x2 (by rw [h2]; exact x3) h1.2.2 (fun z hz => by have := h6 x hx z hz; unfold eApart at this; omega)
  have ha : easked m x = 0 := by
    unfold easked
    rw [if_neg (fun h => h h1), if_neg (by rw [h2]; omega)]
  have he : efree m x = ((m.1, l), 0) := by
    unfold efree
    rw [if_neg (fun h => h ha), e]
  rw [he]
  refine ⟨rfl, ⟨h1.1, h1.2.1, q1⟩, h2, ?_, fun z hz => h4 z (hg z hz), hdj.2, fun z hz y hy => ?_⟩
  · have ht : eTotal g = x.2 + eTotal g' := by
      have : ∀ {a b : List Ext}, List.Perm a b → eTotal a = eTotal b := by
        intro a b hab
        induction hab with
        | nil => rfl
        | cons z _ ih => rw [eTotal_cons, eTotal_cons, ih]
        | swap y z l => simp only [eTotal_cons]; omega
        | trans _ _ i1 i2 => exact i1.trans i2
      rw [this hp, eTotal_cons]
    show eTotal l + _ = n
    rw [q2, eTotal_nil]
    omega
  · have hyl := eRow_mem q1 y hy
    have hzx := hdj.1 z hz
    have hz1 := h4 z (hg z hz)
    by_cases hd : eApart z y
    · exact hd
    · exfalso
      unfold eApart at hd hzx
      have hj : cov l (max z.1 y.1) := ⟨y, hy, by omega, by omega⟩
      rcases (q3 _).1 hj with hc | hc | ⟨u, hu, hc⟩
      · exact cov_nil _ hc
      · omega
      · have := h6 z (hg z hz) u hu
        unfold eApart at this
        omega
/-- the k-th is taken out, the last comes in its place -/
theorem perm_out {α : Type} {g : List α} {k : Nat} {x last : α} (hk : g[k]? = some x) (hl : g[g.length - 1]? = some last) : List.Perm g (x :: (g.set k last).take (g.length - 1)) := by
  have hkl : k < g.length := (List.getElem?_eq_some_iff.1 hk).1
  obtain ⟨i, rfl⟩ : ∃ i, g = i ++ [last] := by
    refine ⟨g.take (g.length - 1), ?_⟩
    conv => lhs; rw [← List.take_append_drop (g.length - 1) g]
    congr 1
    apply List.ext_getElem?
    intro j
    rw [List.getElem?_drop]
    cases j with
    | zero => rw [Nat.add_zero, hl]; rfl
    | succ j => rw [List.getElem?_eq_none (by omega)]; rfl
  rw [List.length_append, List.length_singleton, Nat.add_sub_cancel]
  by_cases hki : k < i.length
  · rw [List.set_append_left _ _ hki, List.take_left' (by simp)]
    rw [List.getElem?_append_left hki] at hk
    have hi : i = i.take k ++ x :: i.drop (k + 1) := by
      conv => lhs; rw [← List.take_append_drop k i]
      rw [List.drop_eq_getElem_cons hki]
      congr 2
      exact (List.getElem?_eq_some_iff.1 hk).2
    rw [List.set_eq_take_append_cons_drop, if_pos hki]
    conv => lhs; rw [hi]
    refine (List.perm_append_comm (l₁ := i.take k ++ x :: i.drop (k + 1)) (l₂ := [last])).trans ?_
    show List.Perm (last :: (i.take k ++ x :: i.drop (k + 1))) _
    refine ((List.perm_middle (a := x) (l₁ := i.take k) (l₂ := i.drop (k + 1))).cons last).trans ((List.Perm.swap x last _).trans ((List.perm_middle (a := last) (l₁ := i.take k) (l₂ := i.drop (k + 1))).symm.cons x))
  · have hke : k = i.length := by simp at hkl; omega
    subst hke
    rw [List.getElem?_append_right (Nat.le_refl _), Nat.sub_self] at hk
    simp only [List.getElem?_cons_zero, Option.some.injEq] at hk
    subst hk
    rw [List.set_append_right _ _ (Nat.le_refl _), List.take_left' rfl]
    exact List.perm_append_comm

end Go.Proofs.Ytacfcgklncckiaa
