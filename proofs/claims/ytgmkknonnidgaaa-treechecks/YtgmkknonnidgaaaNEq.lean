/-
  The law's same: is a node the page's?
-/
import Derived.Test.YtgmkknonnidgaaaNOf
namespace Go.Proofs.Ytgmkknonnidgaaa
open Go.RowKit
set_option linter.unusedVariables false
set_option linter.unusedSimpArgs false

def sameN (m n : Nd) : Bool := (m.leaf == n.leaf) && decide (m.keys = n.keys) && decide (m.vals = n.vals) && decide (m.kids = n.kids)
theorem sameN_self (n : Nd) : sameN n n = true := by simp [sameN]
theorem sameN_iff (m n : Nd) : sameN m n = true ↔ m = n := by
  obtain ⟨a, b, c, d⟩ := m
  obtain ⟨a', b', c', d'⟩ := n
  simp [sameN, and_assoc]
theorem boxes4p (w : World) (x y z v x' y' z' v' : Value) (t t' : TypeId) : ∃ W, W = (w.alloc (.cells #[x, y, z, v] t)).alloc (.cells #[x', y', z', v'] t') ∧ W.heap[w.heap.size]? = some (.cells #[x, y, z, v] t (0, 0)) ∧ W.heap[w.heap.size + 1]? = some (.cells #[x', y', z', v'] t' (0, 0)) ∧ Below w.heap.size w W ∧ W.heap.size = w.heap.size + 2 := by
  refine ⟨_, rfl, ?_, ?_, ((Below.refl _ _).alloc (Nat.le_refl _) _).alloc (by simp) _, by simp⟩
  · rw [Below.heap_alloc _ _ _ (by simp)]; exact heap_alloc_last w _
  · have := heap_alloc_last (w.alloc (.cells #[x, y, z, v] t)) (.cells #[x', y', z', v'] t'); simpa using this


end Go.Proofs.Ytgmkknonnidgaaa
