/-
  Votes, plainly: what may be, what each call makes of it.
-/
import Derived.Test.YtccklmhagabkaaaBx
namespace Go.Proofs.Ytccklmhagabkaaa
open Go.RowKit
set_option linter.unusedVariables false

/-- a voter's state: its term, whether it has voted in it, and for whom -/
structure Vs where
  term : Int
  has : Bool
  who : Int
/-- a question: its term, who asks, how its log ends -/
structure Vq where
  term : Int
  from_ : Int
  last : Int
  lterm : Int
def vnil : Vs := ⟨0, false, 0⟩
abbrev sv16 (s : Vs) : Value := .agg #[.int .i64 s.term, .bool s.has, .int .i64 s.who]
abbrev av16 (a : Vq) : Value := .agg #[.int .i64 a.term, .int .i64 a.from_, .int .i64 a.last, .int .i64 a.lterm]
def VOk (s : Vs) : Prop := 0 ≤ s.term ∧ s.term ≤ 1099511627776 ∧ 0 ≤ s.who ∧ s.who < 9 ∧ (s.has = false → s.who = 0)
instance (s : Vs) : Decidable (VOk s) := by unfold VOk; infer_instance
def vcheck (s : Vs) : Int := if VOk s then 0 else 9
def vnewer (l lt o ot : Int) : Bool := decide (ot < lt ∨ (lt = ot ∧ o ≤ l))
def vturn (s : Vs) (t : Int) : Vs × Bool × Int :=
  if VOk s then (if t < 0 ∨ 1099511627776 < t then (vnil, false, 4) else if s.term < t then (⟨t, false, 0⟩, true, 0) else (s, false, 0)) else (vnil, false, 9)
def vask (a : Vq) : Prop := 1 ≤ a.term ∧ a.term ≤ 1099511627776 ∧ 0 ≤ a.from_ ∧ a.from_ < 9
instance (a : Vq) : Decidable (vask a) := by unfold vask; infer_instance
/-- the state behind the turn to a term -/
def vto (s : Vs) (t : Int) : Vs := if s.term < t then ⟨t, false, 0⟩ else s
def vno (t : Vs) (own ot : Int) (a : Vq) : Prop := a.term < t.term ∨ (t.has = true ∧ t.who ≠ a.from_) ∨ vnewer a.last a.lterm own ot = false
instance (t : Vs) (own ot : Int) (a : Vq) : Decidable (vno t own ot a) := by unfold vno; infer_instance
def vdec (s : Vs) (own ot : Int) (a : Vq) : Vs × Bool × Int :=
  if VOk s then (if vask a then (if vno (vto s a.term) own ot a then (vto s a.term, false, 0) else (⟨(vto s a.term).term, true, a.from_⟩, true, 0)) else (vnil, false, 4)) else (vnil, false, 9)
theorem vcheck_ok {s : Vs} (h : VOk s) : vcheck s = 0 := if_pos h
theorem vcheck_no {s : Vs} (h : ¬ VOk s) : vcheck s = 9 := if_neg h
theorem vturn_to {s : Vs} {t : Int} (h : VOk s) (h1 : 0 ≤ t) (h2 : t ≤ 1099511627776) : (vturn s t).1 = vto s t := by
  unfold vturn vto
  rw [if_pos h, if_neg (by omega)]
  split <;> rfl
theorem vto_ok {s : Vs} {t : Int} (h : VOk s) (h1 : 0 ≤ t) (h2 : t ≤ 1099511627776) : VOk (vto s t) := by
  unfold vto
  split
  · exact ⟨h1, h2, show (0 : Int) ≤ 0 by decide, show (0 : Int) < 9 by decide, fun _ => rfl⟩
  · exact h
theorem vto_le {s : Vs} {t : Int} : t ≤ (vto s t).term ∧ s.term ≤ (vto s t).term := by
  unfold vto
  split
  · exact ⟨by dsimp only; omega, by dsimp only; omega⟩
  · exact ⟨by omega, by omega⟩
/-- three and four cells of a box -/
theorem cells3v {w : World} {g : Nat} {a b c : Value} {t : TypeId} (h : w.heap[g]? = some (.cells #[a, b, c] t (0, 0))) : (w.cell? ⟨g, 0, none⟩ = some a ∧ w.cell? ⟨g, 1, none⟩ = some b ∧ w.cell? ⟨g, 2, none⟩ = some c) ∧ ∀ i, w.frozen? ⟨g, i, none⟩ = false := by
  refine ⟨⟨?_, ?_, ?_⟩, fun i => ?_⟩
  · rw [cell_of_row _ _ 0 _ _ (0, 0) h]; rfl
  · rw [cell_of_row _ _ 1 _ _ (0, 0) h]; rfl
  · rw [cell_of_row _ _ 2 _ _ (0, 0) h]; rfl
  · simp [World.frozen?, h]
theorem cells4v {w : World} {g : Nat} {a b c d : Value} {t : TypeId} (h : w.heap[g]? = some (.cells #[a, b, c, d] t (0, 0))) : (w.cell? ⟨g, 0, none⟩ = some a ∧ w.cell? ⟨g, 1, none⟩ = some b ∧ w.cell? ⟨g, 2, none⟩ = some c ∧ w.cell? ⟨g, 3, none⟩ = some d) ∧ ∀ i, w.frozen? ⟨g, i, none⟩ = false := by
  refine ⟨⟨?_, ?_, ?_, ?_⟩, fun i => ?_⟩
  · rw [cell_of_row _ _ 0 _ _ (0, 0) h]; rfl
  · rw [cell_of_row _ _ 1 _ _ (0, 0) h]; rfl
  · rw [cell_of_row _ _ 2 _ _ (0, 0) h]; rfl
  · rw [cell_of_row _ _ 3 _ _ (0, 0) h]; rfl
  · simp [World.frozen?, h]
theorem heap_set3v {u : World} {g : Nat} {a b c : Value} {t : TypeId} {fr : Nat × Nat} (h : u.heap[g]? = some (.cells #[a, b, c] t fr)) (x y z : Value) : (((u.setCell ⟨g, 0, none⟩ x).setCell ⟨g, 1, none⟩ y).setCell ⟨g, 2, none⟩ z).heap[g]? = some (.cells #[x, y, z] t fr) := by
  simp [World.setCell, Array.getElem?_modify, h]
theorem below_set3v {B : Nat} {w u : World} (h : Below B w u) {g : Nat} (hg : B ≤ g) (x y z : Value) : Below B w (((u.setCell ⟨g, 0, none⟩ x).setCell ⟨g, 1, none⟩ y).setCell ⟨g, 2, none⟩ z) :=
  ((h.setCell (p := ⟨g, 0, none⟩) hg x).setCell (p := ⟨g, 1, none⟩) hg y).setCell (p := ⟨g, 2, none⟩) hg z
end Go.Proofs.Ytccklmhagabkaaa
