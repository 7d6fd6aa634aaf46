/-
  A reader of octets, plain; all blocks but one are kept; small facts of memory. Nothing of the program is named.
-/
import Derived.Test.YtgmkknonnidgaaaNPC
import Derived.Test.YtgmkknonnidgaaaNums
import Derived.Test.YtgmkknonnidgaaaSub
namespace Go.Proofs.Ytgmkknonnidgaaa
open Go.RowKit
set_option linter.unusedVariables false
set_option linter.unusedSimpArgs false

/-- a reader, plain -/
structure Rr where
  rest : List UInt8
  short : Bool
def rtk (s : Nat) (r : Rr) : List UInt8 := if r.rest.length < s then [] else r.rest.take s
def rst (s : Nat) (r : Rr) : Rr := if r.rest.length < s then ⟨r.rest, true⟩ else ⟨r.rest.drop s, r.short⟩
def rnum (s : Nat) (r : Rr) : Nat := numOf (rtk s r)
def rtx (r : Rr) : Str := rtk (rnum 1 r) (rst 1 r)
def rts (r : Rr) : Rr := rst (rnum 1 r) (rst 1 r)
theorem rtk_le (s : Nat) (r : Rr) : (rtk s r).length ≤ s := by unfold rtk; split <;> simp <;> omega
theorem rnum_lt (s : Nat) (r : Rr) : rnum s r < 2 ^ (8 * s) := by
  unfold rnum numOf
  refine Nat.lt_of_lt_of_le (numTo_lt _ _) (Nat.pow_le_pow_right (by decide) ?_)
  have := rtk_le s r
  omega

/-- all blocks but g are kept -/
def KpG (g : Nat) (w U : World) : Prop := (∀ b, b < w.heap.size → b ≠ g → U.heap[b]? = w.heap[b]?) ∧ w.heap.size ≤ U.heap.size ∧ ∀ B, B ≤ g → B ≤ w.heap.size → Below B w U
theorem KpG.of {g : Nat} {w U : World} (h : Below w.heap.size w U) : KpG g w U := ⟨fun b hb _ => h.block b hb, h.size, fun B _ hB => h.mono hB⟩
theorem KpG.refl (g : Nat) (w : World) : KpG g w w := KpG.of (Below.refl _ _)
theorem KpG.trans {g : Nat} {w U V : World} (h : KpG g w U) (k : KpG g U V) : KpG g w V :=
  ⟨fun b hb hn => (k.1 b (Nat.lt_of_lt_of_le hb h.2.1) hn).trans (h.1 b hb hn), Nat.le_trans h.2.1 k.2.1, fun B hB hw => (h.2.2 B hB hw).trans (k.2.2 B hB (Nat.le_trans hw h.2.1))⟩
theorem KpG.set {g : Nat} {w U : World} (h : KpG g w U) (i : Nat) (v : Value) : KpG g w (U.setCell ⟨g, i, none⟩ v) :=
  ⟨fun b hb hn => (Below.heap_setCell _ _ _ _ hn).trans (h.1 b hb hn), by simpa using h.2.1, fun B hB hw => (h.2.2 B hB hw).setCell (p := ⟨g, i, none⟩) hB v⟩
theorem KpG.row {g : Nat} {w U : World} (h : KpG g w U) {B T n : Nat} {v : Value} {m : Nat} {cc : List Value} (ho : w.ownsRow B T n v m cc) (hg : g < B) : U.ownsRow B T n v m cc := by
  rcases ho with ⟨h1, h2 | ⟨k, cap, cur, hv, hB, hk, hr⟩⟩
  · exact ⟨h1, .inl h2⟩
  · refine ⟨h1, .inr ⟨k, cap, cur, hv, hB, ?_, hr⟩⟩
    rw [h.1 k (lt_of_block hk) (by omega)]; exact hk

theorem heap_set2r {u : World} {g : Nat} {a b : Value} {t : TypeId} {fr : Nat × Nat} (h : u.heap[g]? = some (.cells #[a, b] t fr)) (x : Value) : (u.setCell ⟨g, 0, none⟩ x).heap[g]? = some (.cells #[x, b] t fr) ∧ (u.setCell ⟨g, 1, none⟩ x).heap[g]? = some (.cells #[a, x] t fr) := by
  constructor <;> simp [World.setCell, Array.getElem?_modify, h]
theorem rd_nil0 (w : World) : Rd w (.slice none 0 0) [] := ⟨none, 0, rfl, Nat.le_refl _, Nat.zero_le _, fun _ => rfl, .inl rfl⟩
theorem cells2r {w : World} {g : Nat} {a b : Value} {t : TypeId} (h : w.heap[g]? = some (.cells #[a, b] t (0, 0))) : (w.cell? ⟨g, 0, none⟩ = some a ∧ w.cell? ⟨g, 1, none⟩ = some b) ∧ ∀ i, w.frozen? ⟨g, i, none⟩ = false := by
  refine ⟨⟨?_, ?_⟩, fun i => ?_⟩
  · rw [cell_of_row _ _ 0 _ _ (0, 0) h]; rfl
  · rw [cell_of_row _ _ 1 _ _ (0, 0) h]; rfl
  · simp [World.frozen?, h]

theorem rd_take9 {w : World} {a : Option Addr} {len cap : Nat} {xs : List UInt8} (h : Rd w (.slice a len cap) xs) {n : Nat} (hn : n ≤ len) : Rd w (.slice a n cap) (xs.take n) := by
  obtain ⟨ao, c, e, l1, m1, n1, r1⟩ := h
  simp only [Value.slice.injEq] at e
  obtain ⟨rfl, rfl, rfl⟩ := e
  have el : (xs.take n).length = n := by simp; omega
  refine ⟨a, cap, by rw [el], by rw [el]; omega, m1, n1, ?_⟩
  rcases r1 with rfl | ⟨b, off, rfl, hc⟩
  · left; simp
  · right
    refine ⟨b, off, rfl, fun i hi => ?_⟩
    rw [el] at hi
    rw [hc i (by omega)]
    simp only [bt]
    congr 3
    simp only [List.getD_eq_getElem?_getD, List.getElem?_take]
    rw [if_pos hi]
theorem conv_any {w : World} {a : Option Addr} {c : Nat} {xs : List UInt8} (h : Rd w (.slice a xs.length c) xs) : (convert 41 9 (.slice a xs.length c)).run Try.prog w = .ok (.string ⟨xs.toArray⟩) w := by
  by_cases h0 : 0 < xs.length
  · exact conv_rd h h0
  · have : xs = [] := List.eq_nil_of_length_eq_zero (by omega)
    subst this
    show (convert 41 9 (.slice a 0 c)).run Try.prog w = _
    rw [run_convert_bytes_string (P := Try.prog) w 41 9 5 a 0 c Try.underlying41 Try.underlying5 Try.underlying9]
    cases a <;> simp [Conv.bytesToString, loadCells]
    all_goals rfl


end Go.Proofs.Ytgmkknonnidgaaa
