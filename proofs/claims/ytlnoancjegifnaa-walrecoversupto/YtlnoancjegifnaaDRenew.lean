/-
  The program's renewed of disks: a state in memory of its own.
-/
import Derived.Test.YtlnoancjegifnaaDSec
import Derived.Test.YtlnoancjegifnaaStep
namespace Go.Proofs.Ytlnoancjegifnaa
open Go.RowKit
set_option linter.unusedVariables false

def padW (y : Wrt) : Wrt := (y.1, pad y.2)
theorem own_wrt {B : Nat} {w : World} {z : Int} {v : Value} {x : List UInt8} (h : OwnB B w v x) : Own SWr B w [.int .i64 z, v] (z, x) := by
  obtain ⟨F, h1, h2, h3⟩ := h.toOwn
  exact ⟨F, ⟨[.int .i64 z], [v], [], F, rfl, rfl, ⟨rfl, rfl⟩, h1⟩, h2, h3⟩
theorem snoc_map {α β : Type} (f : α → β) (xs : List α) {k : Nat} {x : α} (hx : xs[k]? = some x) : (xs.take k).map f ++ [f x] = (xs.take (k + 1)).map f := by
  rw [List.take_add_one, hx]; simp

end Go.Proofs.Ytlnoancjegifnaa
