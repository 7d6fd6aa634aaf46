/-
  What a slice of octets is in a world ('Rd'), and what becomes of it where the world grows; plain facts on lists of octets. Nothing of the program is named.
-/
import Derived.WalkKit
import Derived.Deep.QuietTactic
import Derived.BigQuiet
namespace Go.Proofs.Ytccklmhagabkaaa
open Go.RowKit
set_option linter.unusedVariables false

theorem hide {p : Prop} (h : p) : Hid p := h

/-- the i-th octet as a number (0 beyond the end) -/
def bt (xs : List UInt8) (i : Nat) : Int := ((xs.getD i 0).toNat : Int)
theorem bt_bd (xs : List UInt8) (i : Nat) : 0 ≤ bt xs i ∧ bt xs i ≤ 255 := by
  unfold bt; have := (xs.getD i 0).toNat_lt; omega
theorem bt_inj {xs ys : List UInt8} {i : Nat} (h : bt xs i = bt ys i) : xs.getD i 0 = ys.getD i 0 := by
  unfold bt at h; exact UInt8.toNat_inj.1 (by omega)

/-- the value v is a slice of the octets xs in the world w -/
def Rd (w : World) (v : Value) (xs : List UInt8) : Prop :=
  ∃ ao cap, v = .slice ao xs.length cap ∧ xs.length ≤ cap ∧ cap ≤ maxLen ∧ (ao = none → cap = 0) ∧
    (xs = [] ∨ ∃ b off, ao = some ⟨b, off, none⟩ ∧ ∀ i, i < xs.length → w.cell? ⟨b, off + i, none⟩ = some (.int .u8 (bt xs i)))

theorem cell_lt {w : World} {b off : Nat} {v : Value} (h : w.cell? ⟨b, off, none⟩ = some v) : b < w.heap.size := by
  by_cases hb : b < w.heap.size
  · exact hb
  · have e : w.heap[b]? = none := by simp; omega
    simp [World.cell?, e] at h

theorem Rd.below {w w' : World} {v : Value} {xs : List UInt8} (h : Rd w v xs) {B : Nat} (hB : w.heap.size ≤ B) (hb : Below B w w') : Rd w' v xs := by
  obtain ⟨ao, cap, rfl, h1, h2, h3, h4⟩ := h
  refine ⟨ao, cap, rfl, h1, h2, h3, ?_⟩
  rcases h4 with h4 | ⟨b, off, rfl, hc⟩
  · exact .inl h4
  · refine .inr ⟨b, off, rfl, fun i hi => ?_⟩
    have := hc i hi
    rw [hb.cell (p := ⟨b, off + i, none⟩) (by have := cell_lt this; show b < B; omega)]
    exact this

theorem Rd.to {w w' : World} {v : Value} {xs : List UInt8} (h : Rd w v xs) (hb : Below w.heap.size w w') : Rd w' v xs := h.below (Nat.le_refl _) hb

theorem Rd.drewN {w : World} {v : Value} {xs : List UInt8} (h : Rd w v xs) (n : Nat) : Rd (w.drewN n) v xs := by
  obtain ⟨ao, cap, rfl, h1, h2, h3, h4⟩ := h
  exact ⟨ao, cap, rfl, h1, h2, h3, h4⟩

theorem below_drewN' (w : World) (n : Nat) (B : Nat) : Below B w (w.drewN n) := ⟨rfl, rfl, rfl, Nat.le_refl _, fun _ _ => rfl⟩

theorem Rd.slice {w : World} {v : Value} {xs : List UInt8} (h : Rd w v xs) : ∃ ao cap, v = .slice ao xs.length cap := by
  obtain ⟨ao, cap, rfl, _⟩ := h; exact ⟨_, _, rfl⟩

/-- are the first k octets alike? -/
def sameTo (xs ys : List UInt8) (k : Nat) : Prop := ∀ i, i < k → bt xs i = bt ys i
def sameB (xs ys : List UInt8) : Bool := decide (xs = ys)
theorem sameB_self (xs : List UInt8) : sameB xs xs = true := by simp [sameB]
theorem sameB_eq {xs ys : List UInt8} (h : xs = ys) : sameB xs ys = true := by simp [sameB, h]
theorem sameTo_zero (xs ys : List UInt8) : sameTo xs ys 0 := fun i h => absurd h (Nat.not_lt_zero _)
theorem sameTo_succ {xs ys : List UInt8} {k : Nat} (h : sameTo xs ys k) (e : bt xs k = bt ys k) : sameTo xs ys (k + 1) := by
  intro i hi
  by_cases hk : i = k
  · subst hk; exact e
  · exact h i (by omega)
theorem sameB_of {xs ys : List UInt8} (hl : xs.length = ys.length) (h : sameTo xs ys xs.length) : sameB xs ys = true := by
  apply sameB_eq
  apply List.ext_getElem hl
  intro i h1 h2
  have := bt_inj (h i h1)
  simpa [h1, h2] using this
theorem sameB_no {xs ys : List UInt8} {i : Nat} (hl : xs.length = ys.length) (hi : i < xs.length) (h : bt xs i ≠ bt ys i) : sameB xs ys = false := by
  simp only [sameB, decide_eq_false_iff_not]
  rintro rfl; exact h rfl
theorem sameB_len {xs ys : List UInt8} (hl : xs.length ≠ ys.length) : sameB xs ys = false := by
  simp only [sameB, decide_eq_false_iff_not]
  rintro rfl; exact hl rfl

theorem ret_bool {a b : Bool} (h : a = b) : Ending.returned (.bool a) = .returned (.bool b) := by rw [h]
theorem ret_int {k : IntKind} {a b : Int} (h : a = b) : Ending.returned (.int k a) = .returned (.int k b) := by rw [h]

end Go.Proofs.Ytccklmhagabkaaa
