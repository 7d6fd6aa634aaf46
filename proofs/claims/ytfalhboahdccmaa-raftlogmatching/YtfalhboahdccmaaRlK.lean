/-
  Pieces: how they lie in memory.
-/
import Derived.Test.YtfalhboahdccmaaRlL
import Derived.Test.YtfalhboahdccmaaRlR
namespace Go.Proofs.Ytfalhboahdccmaa
open Go.ChangeShapes Go.WideShapes Go.ChangeAt Go.RowKit
set_option linter.unusedVariables false

abbrev SPc : Shp (Int × Int) := (Shp.int .i64).pair (Shp.int .i64)
abbrev SPcs15 : Shp (List (Int × Int)) := Shp.list 80 SPc
def pcfit (l : List (Int × Int)) : Prop := l.length * 16 ≤ 140737488351232 ∧ ∀ x ∈ l, (Lit.int .i64 x.1).wf = true ∧ (Lit.int .i64 x.2).wf = true
theorem open_pcs15 : Opens SPcs15 57 pcfit (fun xs => (xs.map (fun z => 1 + 1)).sum) :=
  ((opens_intw Try.underlying3 (by kernel_rfl)).pair (opens_intw Try.underlying3 (by kernel_rfl)) Try.underlying80 (by kernel_rfl) rfl rfl).list Try.underlying57 (by kernel_rfl) (by kernel_rfl) (by decide)
theorem RdS.pc {w : World} {a : Option Addr} {n cap : Nat} {ws : List (Int × Int)} (h : RdS SPc w (.slice a n cap) ws) {i : Nat} {y : Int × Int} (hy : ws[i]? = some y) :
    ∃ b off, a = some ⟨b, off, none⟩ ∧ w.cell? ⟨b, off + i * 2, none⟩ = some (.int .i64 y.1) ∧ w.cell? ⟨b, off + i * 2 + 1, none⟩ = some (.int .i64 y.2) := by
  obtain ⟨b, off, u, v, e, hc, hc2, e1, e2⟩ := RdS.at2 rfl rfl h hy
  have e1' : [u] = [Value.int .i64 y.1] := e1
  have e2' : [v] = [Value.int .i64 y.2] := e2
  simp at e1' e2'; subst e1' e2'
  exact ⟨b, off, e, hc, hc2⟩
theorem lterm_at15 {l : Lg} {i : Int} {k : Nat} {y : Wrt} (h : i ≠ l.base) (hk : (i - l.base - 1).toNat = k) (hy : l.es[k]? = some y) : lterm l i = y.1 := by
  unfold lterm
  rw [if_neg h, hk, List.getD_eq_getElem?_getD, hy]; rfl
abbrev SInts15 : Shp (List Int) := Shp.list 3 (Shp.int .i64)
def i15fit (l : List Int) : Prop := l.length * 8 ≤ 140737488351232 ∧ ∀ x ∈ l, (Lit.int .i64 x).wf = true
theorem open_ints15 : Opens SInts15 56 i15fit (fun xs => (xs.map (fun _ => 1)).sum) :=
  (opens_intw Try.underlying3 (by kernel_rfl)).list Try.underlying56 (by kernel_rfl) (by kernel_rfl) (by decide)
theorem RdS.i15 {w : World} {a : Option Addr} {n cap : Nat} {ws : List Int} (h : RdS (Shp.int .i64) w (.slice a n cap) ws) {i : Nat} {y : Int} (hy : ws[i]? = some y) :
    ∃ b off, a = some ⟨b, off, none⟩ ∧ w.cell? ⟨b, off + i, none⟩ = some (.int .i64 y) := by
  obtain ⟨b, off, u, e, hc, e1⟩ := RdS.at1 rfl h hy
  have e1' : [u] = [Value.int .i64 y] := e1
  simp at e1'; subst e1'
  exact ⟨b, off, e, hc⟩
/-- a leader's log grows by an entry -/
theorem lead_grow {es : List Wrt} {t r : Int} {b : UInt8} {j : Nat} (h : lup 1 es ∧ lastT 1 es es.length ≤ t ∧ 1 ≤ t ∧ t ≤ 1 + 2 * (j : Int) ∧ es.length = j) (hr : 0 ≤ r) (hr2 : r ≤ 2) (hj : j ≤ 1000) :
    lup 1 (es ++ [(t + r, [b])]) ∧ lastT 1 (es ++ [(t + r, [b])]) (es ++ [(t + r, [b])]).length ≤ t + r ∧ 1 ≤ t + r ∧ t + r ≤ 1 + 2 * ((j + 1 : Nat) : Int) ∧ (es ++ [(t + r, [b])]).length = j + 1 := by
  obtain ⟨h1, h2, h3, h4, h5⟩ := h
  refine ⟨lup_append.2 ⟨h1, by omega, by omega, by simp, trivial⟩, ?_, by omega, by omega, by simp [h5]⟩
  have : lastT 1 (es ++ [(t + r, [b])]) (es ++ [(t + r, [b])]).length = t + r := by
    unfold lastT
    rw [List.take_length]
    simp
  rw [this]
  exact Int.le_refl _
theorem lead_ok {es : List Wrt} (h : lup 1 es) (hl : es.length ≤ 4096) : LOk ⟨0, 0, es⟩ := by
  refine ⟨⟨show (0 : Int) ≤ 0 by decide, show (0 : Int) ≤ 1099511627776 by decide, show (0 : Int) ≤ 0 by decide, show (0 : Int) ≤ 1099511627776 by decide, fun _ => rfl, hl, by dsimp only; omega⟩, ?_⟩
  exact h
end Go.Proofs.Ytfalhboahdccmaa
