/-
  What a law's walk is told of a map of extents, and of an extent, that came in.
-/
import Derived.Test.YtacfcgklncckiaaShpIn
import Derived.Test.YtacfcgklncckiaaESame
namespace Go.Proofs.Ytacfcgklncckiaa
open Go.ChangeShapes Go.WideShapes Go.ChangeAt Go.RowKit
set_option linter.unusedVariables false

theorem open_ext : Opens SExt 26 (fun z => (Lit.int .i64 z.1).wf = true ∧ (Lit.int .i64 z.2).wf = true) (fun _ => 1 + 1) :=
  (opens_intw Try.underlying3 (by kernel_rfl)).pair (opens_intw Try.underlying3 (by kernel_rfl)) Try.underlying26 (by kernel_rfl) rfl rfl
theorem open_exts : Opens SExtL 22 (fun xs => xs.length * 16 ≤ 140737488351232 ∧ ∀ z ∈ xs, (Lit.int .i64 z.1).wf = true ∧ (Lit.int .i64 z.2).wf = true) (fun xs => (xs.map (fun _ => 1 + 1)).sum) :=
  open_ext.list Try.underlying22 (by kernel_rfl) (by kernel_rfl) (by decide)
abbrev SMapE : Shp EMap := (Shp.int .i64).pair SExtL
theorem open_emap : Opens SMapE 24 (fun z => (Lit.int .i64 z.1).wf = true ∧ (z.2.length * 16 ≤ 140737488351232 ∧ ∀ y ∈ z.2, (Lit.int .i64 y.1).wf = true ∧ (Lit.int .i64 y.2).wf = true)) (fun z => 1 + (z.2.map (fun _ => 1 + 1)).sum) :=
  (opens_intw Try.underlying3 (by kernel_rfl)).pair open_exts Try.underlying24 (by kernel_rfl) rfl rfl
theorem wf_int {z : Int} (h : (Lit.int .i64 z).wf = true) : -9223372036854775808 ≤ z ∧ z ≤ 9223372036854775807 := by
  simpa [Lit.wf, IntKind.min, IntKind.max, IntKind.signed, IntKind.bits] using h
theorem emap_form {w : World} {cs : Array Value} {m : EMap} (h : SMapE.rd w cs.toList m) : ∃ fv, cs = #[.int .i64 m.1, fv] ∧ RdE w fv m.2 := by
  obtain ⟨c, e, hc, h1, ⟨v2, rfl, r2⟩⟩ := h
  have h1' : c = [Value.int .i64 m.1] := h1
  subst h1'
  refine ⟨v2, ?_, r2⟩
  cases cs
  simpa using hc
theorem ext_form {w : World} {cs : Array Value} {x : Ext} (h : SExt.rd w cs.toList x) : cs = #[.int .i64 x.1, .int .i64 x.2] := by
  obtain ⟨c, e, hc, h1, h2⟩ := h
  have h1' : c = [Value.int .i64 x.1] := h1
  have h2' : e = [Value.int .i64 x.2] := h2
  subst h1' h2'
  cases cs
  simpa using hc
theorem emap_in {m : EMap} (h : (Lit.int .i64 m.1).wf = true ∧ (m.2.length * 16 ≤ 140737488351232 ∧ ∀ y ∈ m.2, (Lit.int .i64 y.1).wf = true ∧ (Lit.int .i64 y.2).wf = true)) : eIn m.2 ∧ m.2.length * 16 ≤ 140737488355328 :=
  ⟨fun x hx => (wf_int (h.2.2 x hx).1).2, by have := h.2.1; omega⟩

end Go.Proofs.Ytacfcgklncckiaa
