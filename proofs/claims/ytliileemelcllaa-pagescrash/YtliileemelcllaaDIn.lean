/-
  What a law's walk is told of a disk's state, of marks and of lists that came in.
-/
import Derived.Test.YtliileemelcllaaShpIn
import Derived.Test.YtliileemelcllaaDFlushR
namespace Go.Proofs.Ytliileemelcllaa
open Go.ChangeShapes Go.WideShapes Go.ChangeAt Go.RowKit
set_option linter.unusedVariables false

theorem open_sectors : Opens SSec 37 (fun xs => xs.length * 24 ≤ 140737488351232 ∧ ∀ x ∈ xs, x.length ≤ 140737488351232) (fun xs => (xs.map (fun x => x.length)).sum) :=
  opens_octs.list Try.underlying37 (by kernel_rfl) (by kernel_rfl) (by decide)
theorem open_write : Opens SWr 78 (fun z => True ∧ z.2.length ≤ 140737488351232) (fun z => 1 + z.2.length) :=
  (opens_int Try.underlying3 (by kernel_rfl)).pair opens_octs Try.underlying78 (by kernel_rfl) rfl rfl
theorem open_cache : Opens SCacheR 38 (fun xs => xs.length * 32 ≤ 140737488351232 ∧ ∀ z ∈ xs, True ∧ z.2.length ≤ 140737488351232) (fun xs => (xs.map (fun z => 1 + z.2.length)).sum) :=
  open_write.list Try.underlying38 (by kernel_rfl) (by kernel_rfl) (by decide)
theorem open_state : Opens SStR 40 (fun z => (z.1.length * 24 ≤ 140737488351232 ∧ ∀ x ∈ z.1, x.length ≤ 140737488351232) ∧ (z.2.length * 32 ≤ 140737488351232 ∧ ∀ y ∈ z.2, True ∧ y.2.length ≤ 140737488351232)) (fun z => (z.1.map (fun x => x.length)).sum + (z.2.map (fun y => 1 + y.2.length)).sum) :=
  open_sectors.pair open_cache Try.underlying40 (by kernel_rfl) rfl rfl
theorem open_bools : Opens SKeep 55 (fun xs => xs.length * 1 ≤ 140737488351232 ∧ ∀ x ∈ xs, True) (fun xs => (xs.map (fun _ => 1)).sum) :=
  (opens_bool Try.underlying4 (by kernel_rfl)).list Try.underlying55 (by kernel_rfl) (by kernel_rfl) (by decide)
abbrev SInts : Shp (List Int) := Shp.list 3 (Shp.int .i64)
theorem open_sints : Opens SInts 64 (fun xs => xs.length * 8 ≤ 140737488351232 ∧ ∀ x ∈ xs, True) (fun xs => (xs.map (fun _ => 1)).sum) :=
  (opens_int Try.underlying3 (by kernel_rfl)).list Try.underlying64 (by kernel_rfl) (by kernel_rfl) (by decide)

theorem state_fit {d : Dsk} (h : (d.1.length * 24 ≤ 140737488351232 ∧ ∀ x ∈ d.1, x.length ≤ 140737488351232) ∧ (d.2.length * 32 ≤ 140737488351232 ∧ ∀ y ∈ d.2, True ∧ y.2.length ≤ 140737488351232)) : dfit d :=
  ⟨h.1.1, h.1.2, h.2.1, fun y hy => (h.2.2 y hy).2⟩
theorem state_form {w : World} {cs : Array Value} {d : Dsk} (h : SStR.rd w cs.toList d) : ∃ sv cv, cs = #[sv, cv] ∧ RdSec w sv d.1 ∧ RdC w cv d.2 := by
  obtain ⟨c, e, hc, ⟨v1, rfl, r1⟩, ⟨v2, rfl, r2⟩⟩ := h
  refine ⟨v1, v2, ?_, r1, r2⟩
  cases cs
  simpa using hc

end Go.Proofs.Ytliileemelcllaa
