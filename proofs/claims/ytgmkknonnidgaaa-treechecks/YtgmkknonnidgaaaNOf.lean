/-
  The law's num and of: a node for the program, in memory of its own.
-/
import Derived.Test.YtgmkknonnidgaaaNSame
import Derived.Test.YtgmkknonnidgaaaNCheckR
import Derived.Test.YtgmkknonnidgaaaRSched
import Derived.Test.YtgmkknonnidgaaaStep
import Derived.Test.YtgmkknonnidgaaaTail
namespace Go.Proofs.Ytgmkknonnidgaaa
open Go.RowKit
set_option linter.unusedVariables false
set_option linter.unusedSimpArgs false

/-- a node whose lists the call made -/
structure OwnN (B : Nat) (w : World) (kv vv dv : Value) (n : Nd) : Prop where
  keys : OwnT B w kv n.keys
  vals : OwnT B w vv n.vals
  kids : OwnJ B w dv n.kids
theorem OwnN.to {B : Nat} {w w' : World} {kv vv dv : Value} {n : Nd} (h : OwnN B w kv vv dv n) (hb : Below w.heap.size w w') : OwnN B w' kv vv dv n := ⟨rows_to h.keys hb, rows_to h.vals hb, rows_to h.kids hb⟩
theorem OwnN.rd {B : Nat} {w : World} {kv vv dv : Value} {n : Nd} (h : OwnN B w kv vv dv n) : RdN w kv vv dv n := ⟨h.keys.rd, h.vals.rd, h.kids.rd⟩
theorem rows_mono {w : World} {T n B C : Nat} {v : Value} {m : Nat} {cc : List Value} (h : w.ownsRow B T n v m cc) (hC : C ≤ B) : w.ownsRow C T n v m cc :=
  rows_base h fun b hb => Nat.le_trans hC (World.ownsRow.lt h b hb).1
theorem OwnN.mono {B C : Nat} {w : World} {kv vv dv : Value} {n : Nd} (h : OwnN B w kv vv dv n) (hC : C ≤ B) : OwnN C w kv vv dv n := ⟨rows_mono h.keys hC, rows_mono h.vals hC, rows_mono h.kids hC⟩
theorem OwnN.nil (B : Nat) (w : World) (l : Bool) : OwnN B w (.slice none 0 0) (.slice none 0 0) (.slice none 0 0) ⟨l, [], [], []⟩ := ⟨World.ownsRow_nil _ _ _ _, World.ownsRow_nil _ _ _ _, World.ownsRow_nil _ _ _ _⟩
theorem rows_set {w : World} {T n B : Nat} {v : Value} {m : Nat} {cc : List Value} (h : w.ownsRow B T n v m cc) {g : Nat} (hg : g < B) (i : Nat) (x : Value) : (w.setCell ⟨g, i, none⟩ x).ownsRow B T n v m cc := ownsRow_setCell_below h (a := ⟨g, i, none⟩) hg x
theorem OwnN.set {B : Nat} {w : World} {kv vv dv : Value} {n : Nd} (h : OwnN B w kv vv dv n) {g : Nat} (hg : g < B) (i : Nat) (x : Value) : OwnN B (w.setCell ⟨g, i, none⟩ x) kv vv dv n := ⟨rows_set h.keys hg i x, rows_set h.vals hg i x, rows_set h.kids hg i x⟩
theorem heap_set4 {u : World} {g : Nat} {a b c d : Value} {t : TypeId} {fr : Nat × Nat} (h : u.heap[g]? = some (.cells #[a, b, c, d] t fr)) (x y z v : Value) : ((((u.setCell ⟨g, 0, none⟩ x).setCell ⟨g, 1, none⟩ y).setCell ⟨g, 2, none⟩ z).setCell ⟨g, 3, none⟩ v).heap[g]? = some (.cells #[x, y, z, v] t fr) := by
  simp [World.setCell, Array.getElem?_modify, h]
theorem below_set4n {B : Nat} {w u : World} (h : Below B w u) {g : Nat} (hg : B ≤ g) (x y z v : Value) : Below B w ((((u.setCell ⟨g, 0, none⟩ x).setCell ⟨g, 1, none⟩ y).setCell ⟨g, 2, none⟩ z).setCell ⟨g, 3, none⟩ v) :=
  (((h.setCell (p := ⟨g, 0, none⟩) hg x).setCell (p := ⟨g, 1, none⟩) hg y).setCell (p := ⟨g, 2, none⟩) hg z).setCell (p := ⟨g, 3, none⟩) hg v
/-- no more of each than memory holds: as it comes in -/
def nbig (n : Nd) : Prop := n.keys.length * 16 ≤ 140737488351232 ∧ n.vals.length * 16 ≤ 140737488351232 ∧ n.kids.length * 8 ≤ 140737488351232
theorem nbig.fit {n : Nd} (h : nbig n) : nfit n := by unfold nbig at h; unfold nfit; omega

theorem info_ndP : (Try.prog.info? 83).map (·.size) = some 4 := by kernel_rfl
theorem boxes4 (w : World) (x y z v : Value) (t t' : TypeId) : ∃ W, W = (w.alloc (.cells #[x, y, z, v] t)).alloc (.cells #[.bool false, .slice none 0 0, .slice none 0 0, .slice none 0 0] t') ∧ W.heap[w.heap.size]? = some (.cells #[x, y, z, v] t (0, 0)) ∧ W.heap[w.heap.size + 1]? = some (.cells #[.bool false, .slice none 0 0, .slice none 0 0, .slice none 0 0] t' (0, 0)) ∧ Below w.heap.size w W ∧ W.heap.size = w.heap.size + 2 := by
  refine ⟨_, rfl, ?_, ?_, ((Below.refl _ _).alloc (Nat.le_refl _) _).alloc (by simp) _, by simp⟩
  · rw [Below.heap_alloc _ _ _ (by simp)]; exact heap_alloc_last w _
  · have := heap_alloc_last (w.alloc (.cells #[x, y, z, v] t)) (.cells #[.bool false, .slice none 0 0, .slice none 0 0, .slice none 0 0] t'); simpa using this



end Go.Proofs.Ytgmkknonnidgaaa
