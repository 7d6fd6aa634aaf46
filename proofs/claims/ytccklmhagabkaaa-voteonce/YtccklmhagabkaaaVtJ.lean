/-
  Lists of questions and of numbers that came in.
-/
import Derived.Test.YtccklmhagabkaaaVtI
namespace Go.Proofs.Ytccklmhagabkaaa
open Go.ChangeShapes Go.WideShapes Go.ChangeAt Go.RowKit
set_option linter.unusedVariables false

abbrev SVqs16 : Shp (List Vq4) := Shp.list 25 SVq16
def vqsfit (l : List Vq4) : Prop := l.length * 32 ≤ 140737488351232 ∧ ∀ x ∈ l, vq4fit x
theorem open_vasks16 : Opens SVqs16 41 vqsfit (fun xs => (xs.map (fun _ => 1 + (1 + (1 + 1)))).sum) :=
  open_vask16.list Try.underlying41 (by kernel_rfl) (by kernel_rfl) (by decide)
abbrev SInts16 : Shp (List Int) := Shp.list 3 (Shp.int .i64)
def i16fit (l : List Int) : Prop := l.length * 8 ≤ 140737488351232 ∧ ∀ x ∈ l, (Lit.int .i64 x).wf = true
theorem open_vints16 : Opens SInts16 42 i16fit (fun xs => (xs.map (fun _ => 1)).sum) :=
  (opens_intw Try.underlying3 (by kernel_rfl)).list Try.underlying42 (by kernel_rfl) (by kernel_rfl) (by decide)
theorem RdS.i16 {w : World} {a : Option Addr} {n cap : Nat} {ws : List Int} (h : RdS (Shp.int .i64) w (.slice a n cap) ws) {i : Nat} {y : Int} (hy : ws[i]? = some y) :
    ∃ b off, a = some ⟨b, off, none⟩ ∧ w.cell? ⟨b, off + i, none⟩ = some (.int .i64 y) := by
  obtain ⟨b, off, u, e, hc, e1⟩ := RdS.at1 rfl h hy
  have e1' : [u] = [Value.int .i64 y] := e1
  simp at e1'; subst e1'
  exact ⟨b, off, e, hc⟩
theorem RdS.vq16 {w : World} {a : Option Addr} {n cap : Nat} {ws : List Vq4} (h : RdS SVq16 w (.slice a n cap) ws) {i : Nat} {y : Vq4} (hy : ws[i]? = some y) :
    ∃ b off, a = some ⟨b, off, none⟩ ∧ w.cell? ⟨b, off + i * 4, none⟩ = some (.int .i64 y.1) ∧ w.cell? ⟨b, off + i * 4 + 1, none⟩ = some (.int .i64 y.2.1) ∧ w.cell? ⟨b, off + i * 4 + 2, none⟩ = some (.int .i64 y.2.2.1) ∧ w.cell? ⟨b, off + i * 4 + 3, none⟩ = some (.int .i64 y.2.2.2) := by
  obtain ⟨ao, c, e, l1, m1, n1, r1⟩ := h
  simp only [Value.slice.injEq] at e
  obtain ⟨rfl, rfl, rfl⟩ := e
  rcases r1 with rfl | ⟨b, off, rfl, hc⟩
  · simp at hy
  · obtain ⟨cs, k1, k2⟩ := hc i y hy
    obtain ⟨c0, d0, e0, h0, ⟨c1, d1, e1, h1, ⟨c2, d2, e2, h2, h3⟩⟩⟩ := k1
    have h0' : c0 = [Value.int .i64 y.1] := h0
    have h1' : c1 = [Value.int .i64 y.2.1] := h1
    have h2' : c2 = [Value.int .i64 y.2.2.1] := h2
    have h3' : d2 = [Value.int .i64 y.2.2.2] := h3
    subst h0' h1' h2' h3'
    subst e2
    subst e1
    subst e0
    have q0 := k2 0 _ rfl
    have q1 := k2 1 _ rfl
    have q2 := k2 2 _ rfl
    have q3 := k2 3 _ rfl
    exact ⟨b, off, rfl, q0, q1, q2, q3⟩
end Go.Proofs.Ytccklmhagabkaaa
