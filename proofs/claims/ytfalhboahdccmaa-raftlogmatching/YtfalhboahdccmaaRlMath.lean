/-
  Logs of entries, plainly: what may be, what each call makes of them.
-/
import Derived.Test.YtfalhboahdccmaaDMath
import Derived.Test.YtfalhboahdccmaaBx
namespace Go.Proofs.Ytfalhboahdccmaa
open Go.RowKit
set_option linter.unusedVariables false

/-- a log: the last number that a snapshot has, its term, the entries behind it -/
structure Lg where
  base : Int
  bt : Int
  es : List Wrt
def lnil : Lg := ⟨0, 0, []⟩
/-- a log as a value: v the list -/
abbrev lv (l : Lg) (v : Value) : Value := .agg #[.int .i64 l.base, .int .i64 l.bt, v]
/-- terms never fall, and are not above the greatest; no entry is too long -/
def lup (last : Int) : List Wrt → Prop
  | [] => True
  | e :: r => last ≤ e.1 ∧ e.1 ≤ 1099511627776 ∧ e.2.length ≤ 4096 ∧ lup e.1 r
def lhead (l : Lg) : Prop := 0 ≤ l.base ∧ l.base ≤ 1099511627776 ∧ 0 ≤ l.bt ∧ l.bt ≤ 1099511627776 ∧ (l.base = 0 → l.bt = 0) ∧ l.es.length ≤ 4096 ∧ l.base + l.es.length ≤ 1099511627776
def LOk (l : Lg) : Prop := lhead l ∧ lup (max 1 l.bt) l.es
instance lupD : (last : Int) → (es : List Wrt) → Decidable (lup last es)
  | _, [] => .isTrue trivial
  | last, e :: r => by
    unfold lup
    have := lupD e.1 r
    infer_instance
instance (l : Lg) : Decidable (LOk l) := by unfold LOk lhead; infer_instance
def lcheck (l : Lg) : Int := if LOk l then 0 else 9
def lend (l : Lg) : Int := l.base + l.es.length
/-- the term of the entry of that number -/
def lterm (l : Lg) (i : Int) : Int := if i = l.base then l.bt else (l.es.getD (i - l.base - 1).toNat (0, [])).1
def llast (l : Lg) : Int × Int × Int := if LOk l then (lend l, lterm l (lend l), 0) else (0, 0, 9)
def ltold (l : Lg) (i : Int) : Int × Int := if LOk l then (if i < l.base ∨ lend l < i then (0, 71) else (lterm l i, 0)) else (0, 9)
def lapp (l : Lg) (e : Wrt) : Lg × Int :=
  if LOk l then (if e.1 < 1 ∨ e.1 < lterm l (lend l) ∨ 1099511627776 < e.1 then (lnil, 151) else if 4096 < e.2.length then (lnil, 5) else
    if 4096 ≤ l.es.length ∨ 1099511627776 ≤ lend l then (lnil, 51) else (⟨l.base, l.bt, l.es ++ [e]⟩, 0)) else (lnil, 9)
/-- a log cut off ahead of the entry of that number, where it has one -/
def lcut (t : Lg) (n : Int) : Lg := if n ≤ lend t then ⟨t.base, t.bt, t.es.take (n - t.base - 1).toNat⟩ else t
/-- entries that follow behind the entry of number n -/
def lacc (t : Lg) (n : Int) : List Wrt → Lg × Int × Int
  | [] => (t, n, 0)
  | e :: r => if n + 1 ≤ lend t ∧ lterm t (n + 1) = e.1 then lacc t (n + 1) r else
    if (lapp (lcut t (n + 1)) e).2 = 0 then lacc (lapp (lcut t (n + 1)) e).1 (n + 1) r else (lnil, 0, (lapp (lcut t (n + 1)) e).2)
def lacg (l : Lg) (prev pt : Int) (es : List Wrt) : Lg × Int × Int :=
  if lend l < prev then (lnil, 0, 152) else if lterm l prev ≠ pt then (lnil, 0, 151) else lacc l prev es
def laccept (l : Lg) (prev pt : Int) (es : List Wrt) : Lg × Int × Int :=
  if LOk l then (if prev < 0 ∨ 1099511627776 < prev then (lnil, 0, 4) else
    if prev < l.base then (if (es.length : Int) < l.base - prev then (l, prev + es.length, 0) else lacg l l.base l.bt (es.drop (l.base - prev).toNat)) else lacg l prev pt es) else (lnil, 0, 9)
def lfrom (l : Lg) (i n : Int) : List Wrt × Int :=
  if LOk l then (if i ≤ l.base ∨ lend l + 1 < i then ([], 71) else if n < 0 then ([], 4) else ((l.es.drop (i - l.base - 1).toNat).take n.toNat, 0)) else ([], 9)
def lcomp (l : Lg) (i : Int) : Lg × Int :=
  if LOk l then (if i < l.base ∨ lend l < i then (lnil, 71) else (⟨i, lterm l i, l.es.drop (i - l.base).toNat⟩, 0)) else (lnil, 9)

theorem lcheck_ok {l : Lg} (h : LOk l) : lcheck l = 0 := if_pos h
theorem lcheck_no {l : Lg} (h : ¬ LOk l) : lcheck l = 9 := if_neg h
theorem lcheck_zero {l : Lg} : lcheck l = 0 ↔ LOk l := by
  unfold lcheck
  by_cases h : LOk l
  · simp [h]
  · simp [h]
/-- terms rise over the first k entries: the last of them -/
def lastT (last : Int) (es : List Wrt) (k : Nat) : Int := ((es.take k).getLast?.map (·.1)).getD last
theorem lastT_zero (last : Int) (es : List Wrt) : lastT last es 0 = last := by simp [lastT]
theorem lastT_snoc (last : Int) {es : List Wrt} {k : Nat} {e : Wrt} (h : es[k]? = some e) : lastT last es (k + 1) = e.1 := by
  unfold lastT
  rw [List.take_add_one, h]
  simp
theorem lup_append {last : Int} {a b : List Wrt} : lup last (a ++ b) ↔ lup last a ∧ lup (lastT last a a.length) b := by
  induction a generalizing last with
  | nil => simp [lup, lastT]
  | cons x r ih =>
    have e : lastT last (x :: r) (x :: r).length = lastT x.1 r r.length := by
      unfold lastT
      rw [List.take_length, List.take_length]
      cases r with
      | nil => simp
      | cons y s =>
        rw [List.getLast?_cons_cons]
        cases h : (y :: s).getLast? with
        | none => simp at h
        | some z => rfl
    rw [e]
    show (_ ∧ _ ∧ _ ∧ lup x.1 (r ++ b)) ↔ (_ ∧ _ ∧ _ ∧ lup x.1 r) ∧ _
    rw [ih]
    simp only [and_assoc]
theorem lastT_take (last : Int) (es : List Wrt) (k : Nat) (hk : k ≤ es.length) : lastT last (es.take k) (es.take k).length = lastT last es k := by
  unfold lastT
  rw [List.take_length]
theorem lup_snoc {last : Int} {es : List Wrt} {k : Nat} {e : Wrt} (h : es[k]? = some e) : lup last (es.take (k + 1)) ↔ lup last (es.take k) ∧ (lastT last es k ≤ e.1 ∧ e.1 ≤ 1099511627776 ∧ e.2.length ≤ 4096) := by
  have hk : k < es.length := (List.getElem?_eq_some_iff.1 h).1
  have : es.take (k + 1) = es.take k ++ [e] := by rw [List.take_add_one, h]; rfl
  rw [this, lup_append, lastT_take _ _ _ (by omega)]
  simp [lup]
theorem lup_take {last : Int} {es : List Wrt} (h : lup last es) (k : Nat) : lup last (es.take k) := by
  rw [← List.take_append_drop k es] at h
  exact (lup_append.1 h).1
theorem cells2l {w : World} {g : Nat} {a b : Value} {t : TypeId} (h : w.heap[g]? = some (.cells #[a, b] t (0, 0))) : (w.cell? ⟨g, 0, none⟩ = some a ∧ w.cell? ⟨g, 1, none⟩ = some b) ∧ ∀ i, w.frozen? ⟨g, i, none⟩ = false := by
  refine ⟨⟨?_, ?_⟩, fun i => ?_⟩
  · rw [cell_of_row _ _ 0 _ _ (0, 0) h]; rfl
  · rw [cell_of_row _ _ 1 _ _ (0, 0) h]; rfl
  · simp [World.frozen?, h]
/-- three cells of a box -/
theorem cells3l {w : World} {g : Nat} {a b c : Value} {t : TypeId} (h : w.heap[g]? = some (.cells #[a, b, c] t (0, 0))) : (w.cell? ⟨g, 0, none⟩ = some a ∧ w.cell? ⟨g, 1, none⟩ = some b ∧ w.cell? ⟨g, 2, none⟩ = some c) ∧ ∀ i, w.frozen? ⟨g, i, none⟩ = false := by
  refine ⟨⟨?_, ?_, ?_⟩, fun i => ?_⟩
  · rw [cell_of_row _ _ 0 _ _ (0, 0) h]; rfl
  · rw [cell_of_row _ _ 1 _ _ (0, 0) h]; rfl
  · rw [cell_of_row _ _ 2 _ _ (0, 0) h]; rfl
  · simp [World.frozen?, h]
theorem rdS_cut15 {α : Type} {s : Shp α} {w : World} {a : Option Addr} {len cap : Nat} {xs : List α} (h : RdS s w (.slice a len cap) xs) {q to : Nat} (h1 : q ≤ to) (h2 : to ≤ len) :
    ∃ A, (if cap = q then a else Option.map (fun x => x.add (q * s.n)) a) = A ∧ RdS s w (.slice A (to - q) (cap - q)) ((xs.take to).drop q) := by
  obtain ⟨ao, c, e, l1, m1, n1, r1⟩ := h
  simp only [Value.slice.injEq] at e
  obtain ⟨rfl, rfl, rfl⟩ := e
  have el : ((xs.take to).drop q).length = to - q := by simp; omega
  by_cases hc : cap = q
  · refine ⟨a, if_pos hc, ⟨a, cap - q, by rw [el], by rw [el]; omega, by omega, fun _ => by omega, .inl (List.eq_nil_of_length_eq_zero (by rw [el]; omega))⟩⟩
  · refine ⟨_, if_neg hc, ⟨_, cap - q, by rw [el], by rw [el]; omega, by omega, ?_, ?_⟩⟩
    · intro h
      cases a with
      | none => rw [n1 rfl]; simp
      | some x => cases h
    · rcases r1 with rfl | ⟨b, off, rfl, hcc⟩
      · left; simp
      · right
        refine ⟨b, off + q * s.n, by simp [Addr.add], fun i x hx => ?_⟩
        rw [List.getElem?_drop] at hx
        have hlt : q + i < to := by
          rcases Nat.lt_or_ge (q + i) to with h | h
          · exact h
          · rw [List.getElem?_eq_none (by simp; omega)] at hx; cases hx
        rw [List.getElem?_take, if_pos hlt] at hx
        obtain ⟨c, k1, k2⟩ := hcc (q + i) x hx
        refine ⟨c, k1, fun j u hj => ?_⟩
        have := k2 j u hj
        rw [Nat.add_mul] at this
        rw [show off + q * s.n + i * s.n + j = off + (q * s.n + i * s.n) + j by omega]
        exact this
theorem lup_len {last : Int} {es : List Wrt} (h : lup last es) : ∀ x ∈ es, x.2.length ≤ 4096 := by
  induction es generalizing last with
  | nil => intro x hx; cases hx
  | cons y r ih =>
    obtain ⟨-, -, h3, h4⟩ := h
    intro x hx
    rcases List.mem_cons.1 hx with rfl | hx
    · exact h3
    · exact ih h4 x hx
theorem LOk.len {l : Lg} (h : LOk l) : ∀ x ∈ l.es, x.2.length ≤ 4096 := lup_len h.2
/-- three cells of a box, all written -/
theorem heap_set3l {u : World} {g : Nat} {a b c : Value} {t : TypeId} {fr : Nat × Nat} (h : u.heap[g]? = some (.cells #[a, b, c] t fr)) (x y z : Value) : (((u.setCell ⟨g, 0, none⟩ x).setCell ⟨g, 1, none⟩ y).setCell ⟨g, 2, none⟩ z).heap[g]? = some (.cells #[x, y, z] t fr) := by
  simp [World.setCell, Array.getElem?_modify, h]
theorem heap_set1l {u : World} {g : Nat} {a b c : Value} {t : TypeId} {fr : Nat × Nat} (h : u.heap[g]? = some (.cells #[a, b, c] t fr)) (z : Value) : (u.setCell ⟨g, 2, none⟩ z).heap[g]? = some (.cells #[a, b, z] t fr) := by
  simp [World.setCell, Array.getElem?_modify, h]
theorem below_set3l {B : Nat} {w u : World} (h : Below B w u) {g : Nat} (hg : B ≤ g) (x y z : Value) : Below B w (((u.setCell ⟨g, 0, none⟩ x).setCell ⟨g, 1, none⟩ y).setCell ⟨g, 2, none⟩ z) :=
  ((h.setCell (p := ⟨g, 0, none⟩) hg x).setCell (p := ⟨g, 1, none⟩) hg y).setCell (p := ⟨g, 2, none⟩) hg z
theorem own_set3l {α : Type} {s : Shp α} {B : Nat} {w : World} {cs : List Value} {xs : α} (h : Own s B w cs xs) {g : Nat} (hg : g < B) (x y z : Value) : Own s B (((w.setCell ⟨g, 0, none⟩ x).setCell ⟨g, 1, none⟩ y).setCell ⟨g, 2, none⟩ z) cs xs :=
  ((h.set (a := ⟨g, 0, none⟩) hg x).set (a := ⟨g, 1, none⟩) hg y).set (a := ⟨g, 2, none⟩) hg z
theorem rdS_front15 {α : Type} {s : Shp α} {w : World} {a : Option Addr} {len cap : Nat} {xs : List α} (h : RdS s w (.slice a len cap) xs) {q : Nat} (h1 : q ≤ len) : RdS s w (.slice a q cap) (xs.take q) := by
  obtain ⟨ao, c, e, l1, m1, n1, r1⟩ := h
  simp only [Value.slice.injEq] at e
  obtain ⟨rfl, rfl, rfl⟩ := e
  have el : (xs.take q).length = q := by simp; omega
  refine ⟨a, cap, by rw [el], by rw [el]; omega, m1, n1, ?_⟩
  rcases r1 with rfl | ⟨b, off, rfl, hcc⟩
  · left; simp
  · right
    refine ⟨b, off, rfl, fun i x hx => hcc i x ?_⟩
    rw [List.getElem?_take] at hx
    split at hx
    · exact hx
    · cases hx
theorem LOk.bd {l : Lg} (h : LOk l) : (0 ≤ l.base ∧ l.base ≤ 1099511627776) ∧ (0 ≤ l.bt ∧ l.bt ≤ 1099511627776) ∧ l.es.length ≤ 4096 ∧ l.base + l.es.length ≤ 1099511627776 := by
  obtain ⟨⟨a1, a2, a3, a4, a5, a6, a7⟩, -⟩ := h
  exact ⟨⟨a1, a2⟩, ⟨a3, a4⟩, a6, a7⟩
theorem rd_nil15 (w : World) : Rd w (.slice none 0 0) [] := ⟨none, 0, rfl, Nat.le_refl _, Nat.zero_le _, fun _ => rfl, .inl rfl⟩
end Go.Proofs.Ytfalhboahdccmaa
