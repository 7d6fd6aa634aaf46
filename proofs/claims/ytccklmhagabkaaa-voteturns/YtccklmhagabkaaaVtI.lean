/-
  What a law's walk is told of votes and questions that came in.
-/
import Derived.ChangeMaps5
import Derived.Test.YtccklmhagabkaaaShpIn
import Derived.Test.YtccklmhagabkaaaVtP
namespace Go.Proofs.Ytccklmhagabkaaa
open Go.ChangeShapes Go.WideShapes Go.ChangeAt Go.RowKit
set_option linter.unusedVariables false

set_option maxRecDepth 100000 in
theorem Opens.four16 {α β γ δ : Type} {s : Shp α} {r : Shp β} {u : Shp γ} {v : Shp δ} {t : TypeId} {f0 f1 f2 f3 : Field} {fa : α → Prop} {fb : β → Prop} {fc : γ → Prop} {fd : δ → Prop} {ba : α → Nat} {bb : β → Nat} {bc : γ → Nat} {bd : δ → Nat} (o : Opens s f0.type fa ba) (q : Opens r f1.type fb bb) (p : Opens u f2.type fc bc) (m : Opens v f3.type fd bd)
    (ht : Try.prog.underlying t = some (.struct #[f0, f1, f2, f3])) (hc : Try.prog.cellsOf t = s.n + (r.n + (u.n + v.n))) (h0 : f0.offset = 0) (h1 : f1.offset = s.n) (h2 : f2.offset = s.n + r.n) (h3 : f3.offset = s.n + r.n + u.n) :
    Opens (s.pair (r.pair (u.pair v))) t (fun z => fa z.1 ∧ (fb z.2.1 ∧ (fc z.2.2.1 ∧ fd z.2.2.2))) (fun z => ba z.1 + (bb z.2.1 + (bc z.2.2.1 + bd z.2.2.2))) := by
  refine ⟨hc, fun {H enc W fuel cs x} h => ?_⟩
  obtain ⟨xs, k, hk, hxy, hlen, hxl, hf⟩ := DataW.trod_struct ht h
  match xs, hxl with
  | [y0, y1, y2, y3], _ =>
    have g0 := hf 0 f0 rfl
    have g1 := hf 1 f1 rfl
    have g2 := hf 2 f2 rfl
    have g3 := hf 3 f3 rfl
    rw [h0, o.cells, List.drop_zero] at g0
    rw [h1, q.cells] at g1
    rw [h2, p.cells] at g2
    rw [h3, m.cells] at g3
    obtain ⟨a, ra, fa', ba'⟩ := o.opened (x := y0) (by simpa using g0)
    obtain ⟨b, rb, fb', bb'⟩ := q.opened (x := y1) (by simpa using g1)
    obtain ⟨c, rc, fc', bc'⟩ := p.opened (x := y2) (by simpa using g2)
    obtain ⟨d', rd', fd', bd'⟩ := m.opened (x := y3) (by simpa using g3)
    have hcs : cs = cs.take s.n ++ ((cs.drop s.n).take r.n ++ ((cs.drop (s.n + r.n)).take u.n ++ (cs.drop (s.n + r.n + u.n)).take v.n)) := by
      have e1 : (cs.drop (s.n + r.n + u.n)).take v.n = cs.drop (s.n + r.n + u.n) := List.take_of_length_le (by rw [List.length_drop, hlen, hc]; omega)
      rw [e1, ← List.drop_drop (i := u.n) (j := s.n + r.n), List.take_append_drop, ← List.drop_drop (i := r.n) (j := s.n), List.take_append_drop, List.take_append_drop]
    obtain ⟨d, pl⟩ := x
    simp only [Prod.mk.injEq] at hxy
    obtain ⟨rfl, _⟩ := hxy
    refine ⟨(a, (b, (c, d'))), ⟨_, _, hcs, ra, ⟨_, _, rfl, rb, ⟨_, _, rfl, rc, rd'⟩⟩⟩, fun hw => ⟨fa' fun n hn => hw n ?_, fb' fun n hn => hw n ?_, fc' fun n hn => hw n ?_, fd' fun n hn => hw n ?_⟩, ?_⟩
    · simp only [DataW.weights, ht]
      exact DataW.weights_mem_each (j := 0) (t := f0.type) (d := y0.1) rfl rfl n hn
    · simp only [DataW.weights, ht]
      exact DataW.weights_mem_each (j := 1) (t := f1.type) (d := y1.1) rfl rfl n hn
    · simp only [DataW.weights, ht]
      exact DataW.weights_mem_each (j := 2) (t := f2.type) (d := y2.1) rfl rfl n hn
    · simp only [DataW.weights, ht]
      exact DataW.weights_mem_each (j := 3) (t := f3.type) (d := y3.1) rfl rfl n hn
    · simp only [List.map_cons, List.map_nil, Rows.uptoBulk, Rows.uptoBulkAll]
      omega
abbrev Vs3 := Int × (Bool × Int)
abbrev SVs16 : Shp Vs3 := (Shp.int .i64).pair (Shp.bool.pair (Shp.int .i64))
abbrev vsOf (z : Vs3) : Vs := ⟨z.1, z.2.1, z.2.2⟩
def vs3fit (z : Vs3) : Prop := (Lit.int .i64 z.1).wf = true ∧ (True ∧ (Lit.int .i64 z.2.2).wf = true)
set_option maxRecDepth 100000 in
theorem open_vst16 : Opens SVs16 23 vs3fit (fun _ => 1 + (1 + 1)) :=
  Opens.three (opens_intw Try.underlying3 (by kernel_rfl)) (opens_bool Try.underlying4 (by kernel_rfl)) (opens_intw Try.underlying3 (by kernel_rfl)) Try.underlying23 (by kernel_rfl) rfl rfl rfl
abbrev Vq4 := Int × (Int × (Int × Int))
abbrev SVq16 : Shp Vq4 := (Shp.int .i64).pair ((Shp.int .i64).pair ((Shp.int .i64).pair (Shp.int .i64)))
abbrev vqOf (z : Vq4) : Vq := ⟨z.1, z.2.1, z.2.2.1, z.2.2.2⟩
def vq4fit (z : Vq4) : Prop := (Lit.int .i64 z.1).wf = true ∧ ((Lit.int .i64 z.2.1).wf = true ∧ ((Lit.int .i64 z.2.2.1).wf = true ∧ (Lit.int .i64 z.2.2.2).wf = true))
set_option maxRecDepth 100000 in
theorem open_vask16 : Opens SVq16 25 vq4fit (fun _ => 1 + (1 + (1 + 1))) :=
  Opens.four16 (opens_intw Try.underlying3 (by kernel_rfl)) (opens_intw Try.underlying3 (by kernel_rfl)) (opens_intw Try.underlying3 (by kernel_rfl)) (opens_intw Try.underlying3 (by kernel_rfl)) Try.underlying25 (by kernel_rfl) rfl rfl rfl rfl
theorem wfj {z : Int} (h : (Lit.int .i64 z).wf = true) : J64 z := by
  simpa [J64, Lit.wf, IntKind.min, IntKind.max, IntKind.signed, IntKind.bits] using h
theorem vs_form {w : World} {cs : Array Value} {z : Vs3} (h : SVs16.rd w cs.toList z) (hf : vs3fit z) : Value.agg cs = sv16 (vsOf z) ∧ VsFit (vsOf z) := by
  obtain ⟨c0, d0, hc, h0, ⟨c1, d1, e1, h1, h2⟩⟩ := h
  have h0' : c0 = [Value.int .i64 z.1] := h0
  have h1' : c1 = [Value.bool z.2.1] := h1
  have h2' : d1 = [Value.int .i64 z.2.2] := h2
  subst h0' h1' h2'
  subst e1
  obtain ⟨f0, _, f2⟩ := hf
  refine ⟨?_, wfj f0, wfj f2⟩
  cases cs
  simp at hc ⊢
  exact hc
theorem vq_form {w : World} {cs : Array Value} {z : Vq4} (h : SVq16.rd w cs.toList z) (hf : vq4fit z) : Value.agg cs = av16 (vqOf z) ∧ VqFit (vqOf z) := by
  obtain ⟨c0, d0, hc, h0, ⟨c1, d1, e1, h1, ⟨c2, d2, e2, h2, h3⟩⟩⟩ := h
  have h0' : c0 = [Value.int .i64 z.1] := h0
  have h1' : c1 = [Value.int .i64 z.2.1] := h1
  have h2' : c2 = [Value.int .i64 z.2.2.1] := h2
  have h3' : d2 = [Value.int .i64 z.2.2.2] := h3
  subst h0' h1' h2' h3'
  subst e2
  subst e1
  obtain ⟨f0, f1, f2, f3⟩ := hf
  refine ⟨?_, wfj f0, wfj f1, wfj f2, wfj f3⟩
  cases cs
  simp at hc ⊢
  exact hc
end Go.Proofs.Ytccklmhagabkaaa
