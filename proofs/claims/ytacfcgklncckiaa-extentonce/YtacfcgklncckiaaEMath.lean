/-
  Extents, plainly: what may be, what each call makes of a map; that what was given and is freed again leaves the map as it was; what is given and what is free.
-/
import Derived.Test.YtacfcgklncckiaaBase
namespace Go.Proofs.Ytacfcgklncckiaa
set_option linter.unusedVariables false

abbrev Ext := Int × Int
abbrev EMap := Int × List Ext
/-- extents in order, none that touch, from behind e on, up to n -/
def eRow (n : Int) : Int → List Ext → Prop
  | _, [] => True
  | e, x :: r => (1 ≤ x.2 ∧ 0 ≤ x.1 ∧ e < x.1 ∧ x.2 ≤ n - x.1) ∧ eRow n (x.1 + x.2) r
instance (n : Int) : ∀ (e : Int) (l : List Ext), Decidable (eRow n e l)
  | _, [] => isTrue trivial
  | e, x :: r => @instDecidableAnd _ _ _ (instDecidableERow n (x.1 + x.2) r)
where instDecidableERow (n : Int) : ∀ (e : Int) (l : List Ext), Decidable (eRow n e l)
  | _, [] => isTrue trivial
  | e, x :: r => @instDecidableAnd _ _ _ (instDecidableERow n (x.1 + x.2) r)
def EOk (m : EMap) : Prop := 0 ≤ m.1 ∧ m.1 ≤ 1048576 ∧ eRow m.1 (-1) m.2
instance (m : EMap) : Decidable (EOk m) := by unfold EOk; infer_instance
def echeck (m : EMap) : Int := if EOk m then 0 else 9
def enew (n : Int) : EMap × Int := if n < 0 ∨ 1048576 < n then ((0, []), 4) else if n = 0 then ((0, []), 0) else ((n, [(0, n)]), 0)
/-- one extent y, without x -/
def eCut (x y : Ext) : List Ext :=
  if x.1 < y.1 ∨ y.1 + y.2 ≤ x.1 then [y] else (if y.1 < x.1 then [(y.1, x.1 - y.1)] else []) ++ (if 0 < y.1 + y.2 - x.1 - x.2 then [(x.1 + x.2, y.1 + y.2 - x.1 - x.2)] else [])
def eWithout (l : List Ext) (x : Ext) : List Ext := l.flatMap (eCut x)
def ealloc (m : EMap) (s : Int) : EMap × Ext × Int :=
  if ¬ EOk m then ((0, []), (0, 0), 9) else if s < 1 then ((0, []), (0, 0), 4) else match m.2.find? (fun y => decide (s ≤ y.2)) with
    | some y => ((m.1, eWithout m.2 (y.1, s)), (y.1, s), 0)
    | none => ((0, []), (0, 0), 51)
def easked (m : EMap) (x : Ext) : Int := if ¬ EOk m then 9 else if x.2 < 1 ∨ x.1 < 0 ∨ m.1 ≤ x.1 ∨ m.1 - x.1 < x.2 then 4 else 0
def etake (m : EMap) (x : Ext) : EMap × Int :=
  if easked m x ≠ 0 then ((0, []), easked m x) else if m.2.any (fun y => decide (y.1 ≤ x.1) && decide (x.1 + x.2 ≤ y.1 + y.2)) then ((m.1, eWithout m.2 x), 0) else ((0, []), 52)
/-- the page's Free, extent by extent: what lies ready, whether x is laid, x -/
def eLay : List Ext → List Ext → Bool → Ext → Option (List Ext)
  | [], out, laid, x => some (if laid then out else out ++ [x])
  | y :: r, out, laid, x =>
    if y.1 < x.1 + x.2 ∧ x.1 < y.1 + y.2 then none
    else if y.1 + y.2 < x.1 then eLay r (out ++ [y]) laid x
    else if y.1 + y.2 = x.1 then eLay r out laid (y.1, y.2 + x.2)
    else if y.1 = x.1 + x.2 then eLay r out laid (x.1, x.2 + y.2)
    else eLay r ((if laid then out else out ++ [x]) ++ [y]) true x
def efree (m : EMap) (x : Ext) : EMap × Int :=
  if easked m x ≠ 0 then ((0, []), easked m x) else match eLay m.2 [] false x with
    | some l => ((m.1, l), 0)
    | none => ((0, []), 52)
def eTotal (l : List Ext) : Int := l.foldl (fun a y => a + y.2) 0
def eLargest (l : List Ext) : Int := l.foldl (fun a y => max a y.2) 0
def eroom (m : EMap) : Int × Int × Int := if ¬ EOk m then (0, 0, 9) else (eTotal m.2, eLargest m.2, 0)

theorem eRow_mono {n e e' : Int} (h : e' ≤ e) : ∀ {l : List Ext}, eRow n e l → eRow n e' l
  | [], _ => trivial
  | x :: r, ⟨⟨h1, h2, h3, h4⟩, h5⟩ => ⟨⟨h1, h2, by omega, h4⟩, h5⟩
/-- every extent of a row lies behind its beginning -/
theorem eRow_mem {n : Int} : ∀ {l : List Ext} {e : Int}, eRow n e l → ∀ y ∈ l, 1 ≤ y.2 ∧ 0 ≤ y.1 ∧ e < y.1 ∧ y.1 + y.2 ≤ n
  | [], _, _, y, hy => by cases hy
  | x :: r, e, ⟨⟨h1, h2, h3, h4⟩, h5⟩, y, hy => by
    rcases List.mem_cons.1 hy with rfl | hy
    · exact ⟨h1, h2, h3, by omega⟩
    · have := eRow_mem h5 y hy
      omega
/-- a row parted: what is ahead ends ahead of y, what is behind begins behind it -/
theorem eRow_split {n : Int} {y : Ext} {post : List Ext} : ∀ {pre : List Ext} {e : Int}, eRow n e (pre ++ y :: post) → (∀ z ∈ pre, z.1 + z.2 < y.1 ∧ 1 ≤ z.2) ∧ (1 ≤ y.2 ∧ 0 ≤ y.1 ∧ e < y.1 ∧ y.1 + y.2 ≤ n) ∧ ∀ z ∈ post, y.1 + y.2 < z.1 ∧ 1 ≤ z.2
  | [], e, ⟨⟨h1, h2, h3, h4⟩, h5⟩ => ⟨(fun z hz => nomatch hz), ⟨h1, h2, h3, by omega⟩, fun z hz => by have := eRow_mem h5 z hz; omega⟩
  | x :: r, e, ⟨⟨h1, h2, h3, h4⟩, h5⟩ => by
    obtain ⟨k1, k2, k3⟩ := eRow_split (pre := r) h5
    refine ⟨fun z hz => ?_, ⟨k2.1, k2.2.1, by omega, k2.2.2.2⟩, k3⟩
    rcases List.mem_cons.1 hz with rfl | hz
    · exact ⟨by omega, h1⟩
    · exact k1 z hz
/-- x within y: only y is cut -/
theorem eWithout_at {n e : Int} {x y : Ext} {pre post : List Ext} (h : eRow n e (pre ++ y :: post)) (h1 : y.1 ≤ x.1) (h2 : x.1 + x.2 ≤ y.1 + y.2) (hx : 1 ≤ x.2) :
    eWithout (pre ++ y :: post) x = pre ++ ((if y.1 < x.1 then [(y.1, x.1 - y.1)] else []) ++ (if 0 < y.1 + y.2 - x.1 - x.2 then [(x.1 + x.2, y.1 + y.2 - x.1 - x.2)] else [])) ++ post := by
  obtain ⟨k1, k2, k3⟩ := eRow_split h
  have keep : ∀ l : List Ext, (∀ z ∈ l, x.1 < z.1 ∨ z.1 + z.2 ≤ x.1) → l.flatMap (eCut x) = l := by
    intro l
    induction l with
    | nil => intro _; rfl
    | cons a r ih =>
      intro hl
      rw [List.flatMap_cons, ih fun z hz => hl z (List.mem_cons_of_mem _ hz)]
      unfold eCut
      rw [if_pos (hl a (List.mem_cons_self ..))]
      rfl
  unfold eWithout
  rw [List.flatMap_append, List.flatMap_cons, keep pre (fun z hz => by have := k1 z hz; omega), keep post (fun z hz => by have := k3 z hz; omega)]
  rw [show eCut x y = (if y.1 < x.1 then [(y.1, x.1 - y.1)] else []) ++ (if 0 < y.1 + y.2 - x.1 - x.2 then [(x.1 + x.2, y.1 + y.2 - x.1 - x.2)] else []) from by unfold eCut; rw [if_neg (by omega)]]
  simp only [List.append_assoc]
theorem eLay_ahead {x : Ext} : ∀ {pre : List Ext} (rest out : List Ext) (laid : Bool), (∀ z ∈ pre, z.1 + z.2 < x.1 ∧ 1 ≤ z.2) → 1 ≤ x.2 → eLay (pre ++ rest) out laid x = eLay rest (out ++ pre) laid x
  | [], rest, out, laid, _, _ => by rw [List.append_nil]; rfl
  | z :: r, rest, out, laid, h, hx => by
    have hz := h z (List.mem_cons_self ..)
    show eLay (z :: (r ++ rest)) out laid x = _
    conv => lhs; unfold eLay
    rw [if_neg (by omega), if_pos (by omega), eLay_ahead (pre := r) rest (out ++ [z]) laid (fun q hq => h q (List.mem_cons_of_mem _ hq)) hx, List.append_assoc]
    rfl
theorem eLay_behind {x : Ext} (hx : 1 ≤ x.2) : ∀ {post : List Ext} (out : List Ext), (∀ z ∈ post, x.1 + x.2 < z.1 ∧ 1 ≤ z.2) → eLay post out true x = some (out ++ post)
  | [], out, _ => by simp [eLay]
  | z :: r, out, h => by
    have hz := h z (List.mem_cons_self ..)
    conv => lhs; unfold eLay
    rw [if_neg (by omega), if_neg (by omega), if_neg (by omega), if_neg (by omega), if_pos rfl, eLay_behind hx (out ++ [z]) fun q hq => h q (List.mem_cons_of_mem _ hq), List.append_assoc]
    rfl
theorem eLay_lay {x : Ext} (hx : 1 ≤ x.2) {post : List Ext} (out : List Ext) (h : ∀ z ∈ post, x.1 + x.2 < z.1 ∧ 1 ≤ z.2) : eLay post out false x = some (out ++ x :: post) := by
  cases post with
  | nil => rfl
  | cons z r =>
    have hz := h z (List.mem_cons_self ..)
    conv => lhs; unfold eLay
    rw [if_neg (by omega), if_neg (by omega), if_neg (by omega), if_neg (by omega)]
    show eLay r ((out ++ [x]) ++ [z]) true x = _
    rw [eLay_behind hx _ fun q hq => h q (List.mem_cons_of_mem _ hq)]
    simp

/-- freed again: as it was -/
theorem eLay_back {n e : Int} {x y : Ext} {pre post : List Ext} (h : eRow n e (pre ++ y :: post)) (h1 : y.1 ≤ x.1) (h2 : x.1 + x.2 ≤ y.1 + y.2) (hx : 1 ≤ x.2) : eLay (eWithout (pre ++ y :: post) x) [] false x = some (pre ++ y :: post) := by
  obtain ⟨k1, k2, k3⟩ := eRow_split h
  rw [eWithout_at h h1 h2 hx, List.append_assoc, eLay_ahead _ _ _ (fun z hz => by have := k1 z hz; omega) hx, List.nil_append]
  obtain ⟨y1, y2⟩ := y
  obtain ⟨x1, x2⟩ := x
  dsimp only at *
  by_cases c1 : y1 < x1
  · rw [if_pos c1]
    show eLay ((y1, x1 - y1) :: ((if 0 < y1 + y2 - x1 - x2 then [(x1 + x2, y1 + y2 - x1 - x2)] else []) ++ post)) _ _ _ = _
    unfold eLay
    dsimp only
    rw [if_neg (by omega), if_neg (by omega), if_pos (by omega)]
    by_cases c2 : 0 < y1 + y2 - x1 - x2
    · rw [if_pos c2]
      show eLay ((x1 + x2, y1 + y2 - x1 - x2) :: post) _ _ _ = _
      unfold eLay
      dsimp only
      rw [if_neg (by omega), if_neg (by omega), if_neg (by omega), if_pos (by omega), show (x1 - y1 + x2 + (y1 + y2 - x1 - x2)) = y2 by omega]
      exact eLay_lay (x := (y1, y2)) k2.1 _ k3
    · rw [if_neg c2, List.nil_append, show x1 - y1 + x2 = y2 by omega]
      exact eLay_lay (x := (y1, y2)) k2.1 _ k3
  · have : x1 = y1 := by omega
    subst this
    rw [if_neg c1, List.nil_append]
    by_cases c2 : 0 < x1 + y2 - x1 - x2
    · rw [if_pos c2]
      show eLay ((x1 + x2, x1 + y2 - x1 - x2) :: post) _ _ _ = _
      unfold eLay
      dsimp only
      rw [if_neg (by omega), if_neg (by omega), if_neg (by omega), if_pos (by omega), show x2 + (x1 + y2 - x1 - x2) = y2 by omega]
      exact eLay_lay (x := (x1, y2)) k2.1 _ k3
    · rw [if_neg c2, List.nil_append, show x2 = y2 by omega]
      exact eLay_lay (x := (x1, y2)) k2.1 _ k3

/-- where a row ends -/
def eEnd : Int → List Ext → Int
  | e, [] => e
  | _, x :: r => eEnd (x.1 + x.2) r
theorem eRow_app {n : Int} : ∀ {p : List Ext} {e : Int} {l : List Ext}, eRow n e (p ++ l) ↔ eRow n e p ∧ eRow n (eEnd e p) l
  | [], e, l => by simp [eRow, eEnd]
  | x :: r, e, l => by
    show (_ ∧ eRow n (x.1 + x.2) (r ++ l)) ↔ (_ ∧ eRow n (x.1 + x.2) r) ∧ eRow n (eEnd (x.1 + x.2) r) l
    rw [eRow_app]
    exact and_assoc.symm
theorem eEnd_app (e : Int) : ∀ (p : List Ext) (y : Ext), eEnd e (p ++ [y]) = y.1 + y.2 := by
  intro p
  induction p generalizing e with
  | nil => intro y; rfl
  | cons x r ih => intro y; exact ih (x.1 + x.2) y
theorem eTotal_from (a : Int) : ∀ l : List Ext, l.foldl (fun a y => a + y.2) a = a + eTotal l := by
  intro l
  induction l generalizing a with
  | nil => simp [eTotal]
  | cons x r ih =>
    unfold eTotal
    rw [List.foldl_cons, List.foldl_cons, ih, ih]
    omega
theorem eTotal_cons (x : Ext) (l : List Ext) : eTotal (x :: l) = x.2 + eTotal l := by
  conv => lhs; unfold eTotal
  rw [List.foldl_cons, eTotal_from]; omega
theorem eTotal_app (a b : List Ext) : eTotal (a ++ b) = eTotal a + eTotal b := by
  conv => lhs; unfold eTotal
  rw [List.foldl_append, eTotal_from]
  rfl
theorem eTotal_nil : eTotal [] = 0 := rfl
def cov (l : List Ext) (j : Int) : Prop := ∃ y ∈ l, y.1 ≤ j ∧ j < y.1 + y.2
theorem cov_nil (j : Int) : ¬ cov [] j := fun ⟨_, h, _⟩ => nomatch h
theorem cov_app (a b : List Ext) (j : Int) : cov (a ++ b) j ↔ cov a j ∨ cov b j := by
  constructor
  · rintro ⟨y, hy, h⟩
    rcases List.mem_append.1 hy with hy | hy
    · exact .inl ⟨y, hy, h⟩
    · exact .inr ⟨y, hy, h⟩
  · rintro (⟨y, hy, h⟩ | ⟨y, hy, h⟩)
    · exact ⟨y, List.mem_append.2 (.inl hy), h⟩
    · exact ⟨y, List.mem_append.2 (.inr hy), h⟩
theorem cov_cons (x : Ext) (l : List Ext) (j : Int) : cov (x :: l) j ↔ (x.1 ≤ j ∧ j < x.1 + x.2) ∨ cov l j := by
  constructor
  · rintro ⟨y, hy, h⟩
    rcases List.mem_cons.1 hy with rfl | hy
    · exact .inl h
    · exact .inr ⟨y, hy, h⟩
  · rintro (h | ⟨y, hy, h⟩)
    · exact ⟨x, List.mem_cons_self .., h⟩
    · exact ⟨y, List.mem_cons_of_mem _ hy, h⟩
/-- what is left when x, within y, is taken out: a row, x less, all that x is not -/
theorem eWithout_row {n e : Int} {x y : Ext} {pre post : List Ext} (h : eRow n e (pre ++ y :: post)) (h1 : y.1 ≤ x.1) (h2 : x.1 + x.2 ≤ y.1 + y.2) (hx : 1 ≤ x.2) :
    eRow n e (eWithout (pre ++ y :: post) x) ∧ eTotal (eWithout (pre ++ y :: post) x) = eTotal (pre ++ y :: post) - x.2 ∧ ∀ j, cov (eWithout (pre ++ y :: post) x) j ↔ cov (pre ++ y :: post) j ∧ ¬ (x.1 ≤ j ∧ j < x.1 + x.2) := by
  obtain ⟨s1, s2, s3⟩ := eRow_split h
  rw [eWithout_at h h1 h2 hx]
  obtain ⟨k1, ⟨⟨k2, k3, k4, k5⟩, k6⟩⟩ := eRow_app.1 h
  have np : ∀ j, cov pre j → ¬ (x.1 ≤ j ∧ j < x.1 + x.2) := by
    rintro j ⟨z, hz, hj⟩
    have := s1 z hz
    omega
  have nq : ∀ j, cov post j → ¬ (x.1 ≤ j ∧ j < x.1 + x.2) := by
    rintro j ⟨z, hz, hj⟩
    have := s3 z hz
    omega
  refine ⟨?_, ?_, fun j => ?_⟩
  · rw [List.append_assoc, eRow_app]
    refine ⟨k1, ?_⟩
    split
    · split
      · exact ⟨⟨by dsimp only; omega, k3, k4, by dsimp only; omega⟩, ⟨⟨by dsimp only; omega, by dsimp only; omega, by dsimp only; omega, by dsimp only; omega⟩, eRow_mono (by dsimp only; omega) k6⟩⟩
      · exact ⟨⟨by dsimp only; omega, k3, k4, by dsimp only; omega⟩, eRow_mono (by dsimp only; omega) k6⟩
    · split
      · exact ⟨⟨by dsimp only; omega, by dsimp only; omega, by dsimp only; omega, by dsimp only; omega⟩, eRow_mono (by dsimp only; omega) k6⟩
      · exact eRow_mono (by omega) k6
  · simp only [eTotal_app, eTotal_cons]
    split <;> split <;> simp only [eTotal_cons, eTotal_nil] <;> omega
  · have a1 := np j
    have a2 := nq j
    rw [cov_app, cov_app, cov_app, cov_app, cov_cons]
    by_cases c1 : y.1 < x.1
    · rw [if_pos c1]
      by_cases c2 : 0 < y.1 + y.2 - x.1 - x.2
      · rw [if_pos c2, cov_cons, cov_cons]
        have := cov_nil j
        dsimp only
        constructor
        · rintro ((h | ((h | h) | (h | h))) | h)
          · exact ⟨.inl h, a1 h⟩
          · exact ⟨.inr (.inl (by omega)), by omega⟩
          · exact absurd h this
          · exact ⟨.inr (.inl (by omega)), by omega⟩
          · exact absurd h this
          · exact ⟨.inr (.inr h), a2 h⟩
        · rintro ⟨h | h | h, hn⟩
          · exact .inl (.inl h)
          · by_cases hj : j < x.1
            · exact .inl (.inr (.inl (.inl (by omega))))
            · exact .inl (.inr (.inr (.inl (by omega))))
          · exact .inr h
      · rw [if_neg c2, cov_cons]
        have := cov_nil j
        dsimp only
        constructor
        · rintro ((h | ((h | h) | h)) | h)
          · exact ⟨.inl h, a1 h⟩
          · exact ⟨.inr (.inl (by omega)), by omega⟩
          · exact absurd h this
          · exact absurd h this
          · exact ⟨.inr (.inr h), a2 h⟩
        · rintro ⟨h | h | h, hn⟩
          · exact .inl (.inl h)
          · exact .inl (.inr (.inl (.inl (by omega))))
          · exact .inr h
    · rw [if_neg c1]
      by_cases c2 : 0 < y.1 + y.2 - x.1 - x.2
      · rw [if_pos c2, cov_cons]
        have := cov_nil j
        dsimp only
        constructor
        · rintro ((h | (h | (h | h))) | h)
          · exact ⟨.inl h, a1 h⟩
          · exact absurd h this
          · exact ⟨.inr (.inl (by omega)), by omega⟩
          · exact absurd h this
          · exact ⟨.inr (.inr h), a2 h⟩
        · rintro ⟨h | h | h, hn⟩
          · exact .inl (.inl h)
          · exact .inl (.inr (.inr (.inl (by omega))))
          · exact .inr h
      · rw [if_neg c2]
        have := cov_nil j
        constructor
        · rintro ((h | (h | h)) | h)
          · exact ⟨.inl h, a1 h⟩
          · exact absurd h this
          · exact absurd h this
          · exact ⟨.inr (.inr h), a2 h⟩
        · rintro ⟨h | h | h, hn⟩
          · exact .inl (.inl h)
          · exact absurd (by omega) hn
          · exact .inr h

/-- what is freed and was not free: a row, x more -/
theorem eLay_row {n : Int} : ∀ (rest out : List Ext) (x : Ext) (f : Int), eRow n (-1) out → eEnd (-1) out < x.1 → eEnd (-1) out ≤ f → 1 ≤ x.2 → 0 ≤ x.1 → x.1 + x.2 ≤ n → eRow n f rest → (∀ z ∈ rest, z.1 + z.2 ≤ x.1 ∨ x.1 + x.2 ≤ z.1) →
    ∃ l, eLay rest out false x = some l ∧ eRow n (-1) l ∧ eTotal l = eTotal out + x.2 + eTotal rest ∧ ∀ j, cov l j ↔ cov out j ∨ (x.1 ≤ j ∧ j < x.1 + x.2) ∨ cov rest j
  | [], out, x, f, h1, h2, h3, h4, h5, h6, h7, h8 => by
    refine ⟨out ++ [x], rfl, eRow_app.2 ⟨h1, ⟨h4, h5, h2, by omega⟩, trivial⟩, by rw [eTotal_app, eTotal_cons]; omega, fun j => ?_⟩
    rw [cov_app, cov_cons]
  | y :: r, out, x, f, h1, h2, h3, h4, h5, h6, ⟨⟨g1, g2, g3, g4⟩, g5⟩, h8 => by
    have hy := h8 y (List.mem_cons_self ..)
    have hr := fun z hz => h8 z (List.mem_cons_of_mem _ hz)
    have hm := eRow_mem g5
    have hne : ¬ (y.1 < x.1 + x.2 ∧ x.1 < y.1 + y.2) := by omega
    by_cases c1 : y.1 + y.2 < x.1
    · obtain ⟨l, e, q1, q2, q3⟩ := eLay_row r (out ++ [y]) x (y.1 + y.2) (eRow_app.2 ⟨h1, ⟨g1, g2, by omega, g4⟩, trivial⟩) (by rw [eEnd_app]; exact c1) (by rw [eEnd_app]; exact Int.le_refl _) h4 h5 h6 g5 hr
      refine ⟨l, by unfold eLay; rw [if_neg hne, if_pos c1]; exact e, q1, by rw [q2, eTotal_app, eTotal_cons, eTotal_cons, eTotal_nil]; omega, fun j => ?_⟩
      rw [q3, cov_app, cov_cons, cov_cons]
      have := cov_nil j
      constructor
      · rintro ((h | (h | h)) | h | h)
        · exact .inl h
        · exact .inr (.inr (.inl h))
        · exact absurd h this
        · exact .inr (.inl h)
        · exact .inr (.inr (.inr h))
      · rintro (h | h | h | h)
        · exact .inl (.inl h)
        · exact .inr (.inl h)
        · exact .inl (.inr (.inl h))
        · exact .inr (.inr h)
    by_cases c2 : y.1 + y.2 = x.1
    · obtain ⟨l, e, q1, q2, q3⟩ := eLay_row r out (y.1, y.2 + x.2) (y.1 + y.2) h1 (by dsimp only; omega) (by omega) (by dsimp only; omega) g2 (by dsimp only; omega) g5 (fun z hz => by have := hm z hz; have := hr z hz; right; dsimp only; omega)
      refine ⟨l, by unfold eLay; rw [if_neg hne, if_neg c1, if_pos c2]; exact e, q1, by rw [q2, eTotal_cons]; dsimp only; omega, fun j => ?_⟩
      rw [q3, cov_cons]
      dsimp only
      constructor
      · rintro (h | h | h)
        · exact .inl h
        · by_cases hj : j < x.1
          · exact .inr (.inr (.inl (by omega)))
          · exact .inr (.inl (by omega))
        · exact .inr (.inr (.inr h))
      · rintro (h | h | h | h)
        · exact .inl h
        · exact .inr (.inl (by omega))
        · exact .inr (.inl (by omega))
        · exact .inr (.inr h)
    by_cases c3 : y.1 = x.1 + x.2
    · obtain ⟨l, e, q1, q2, q3⟩ := eLay_row r out (x.1, x.2 + y.2) (y.1 + y.2) h1 h2 (by omega) (by dsimp only; omega) h5 (by dsimp only; omega) g5 (fun z hz => by have := hm z hz; right; dsimp only; omega)
      refine ⟨l, by unfold eLay; rw [if_neg hne, if_neg c1, if_neg c2, if_pos c3]; exact e, q1, by rw [q2, eTotal_cons]; dsimp only; omega, fun j => ?_⟩
      rw [q3, cov_cons]
      dsimp only
      constructor
      · rintro (h | h | h)
        · exact .inl h
        · by_cases hj : j < y.1
          · exact .inr (.inl (by omega))
          · exact .inr (.inr (.inl (by omega)))
        · exact .inr (.inr (.inr h))
      · rintro (h | h | h | h)
        · exact .inl h
        · exact .inr (.inl (by omega))
        · exact .inr (.inl (by omega))
        · exact .inr (.inr h)
    · refine ⟨out ++ [x] ++ [y] ++ r, ?_, ?_, ?_, fun j => ?_⟩
      · unfold eLay
        rw [if_neg hne, if_neg c1, if_neg c2, if_neg c3]
        exact eLay_behind h4 _ fun z hz => by have := hm z hz; omega
      · rw [List.append_assoc, List.append_assoc, eRow_app]
        exact ⟨h1, ⟨h4, h5, h2, by omega⟩, ⟨g1, g2, by omega, g4⟩, g5⟩
      · simp only [eTotal_app, eTotal_cons, eTotal_nil]; omega
      · simp only [cov_app, cov_cons]
        have := cov_nil j
        constructor
        · rintro (((h | h | h) | h | h) | h)
          · exact .inl h
          · exact .inr (.inl h)
          · exact absurd h this
          · exact .inr (.inr (.inl h))
          · exact absurd h this
          · exact .inr (.inr (.inr h))
        · rintro (h | h | h | h)
          · exact .inl (.inl (.inl h))
          · exact .inl (.inl (.inr (.inl h)))
          · exact .inl (.inr (.inl h))
          · exact .inr h

end Go.Proofs.Ytacfcgklncckiaa
