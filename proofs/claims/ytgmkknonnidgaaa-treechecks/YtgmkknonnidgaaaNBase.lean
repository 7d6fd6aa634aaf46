/-
  How nodes lie in memory: strings, blocks of four cells.
-/
import Derived.Test.YtgmkknonnidgaaaBx
import Derived.Test.YtgmkknonnidgaaaRMid
import Derived.Test.YtgmkknonnidgaaaNMath
namespace Go.Proofs.Ytgmkknonnidgaaa
open Go.RowKit
set_option linter.unusedVariables false

/-- a string of these octets -/
abbrev st (x : Str) : Value := .string ⟨x.toArray⟩
def Shp.str : Shp Str where
  n := 1
  rd _ cs x := cs = [st x]
  own F _ cs x := F = [] ∧ cs = [st x]
  rd_n h := by rw [h]; rfl
  rd_to h _ := h
  rd_one h u hu := by rw [h] at hu; simp at hu; subst hu; rfl
  own_rd h := h.2
  own_to h _ := h
  own_lt h b hb := by rw [h.1] at hb; cases hb
abbrev RdT (w : World) (v : Value) (l : List Str) : Prop := RdS Shp.str w v l
abbrev RdI (w : World) (v : Value) (l : List Int) : Prop := RdS (Shp.int .i64) w v l
theorem RdS.strAt {w : World} {a : Option Addr} {n cap : Nat} {l : List Str} (h : RdT w (.slice a n cap) l) {i : Nat} {x : Str} (hx : l[i]? = some x) : ∃ b off, a = some ⟨b, off, none⟩ ∧ w.cell? ⟨b, off + i, none⟩ = some (st x) := by
  obtain ⟨b, off, u, e, hc, hr⟩ := RdS.at1 rfl h hx
  have hr' : [u] = [st x] := hr
  simp only [List.cons.injEq, and_true] at hr'
  subst hr'
  exact ⟨b, off, e, hc⟩
theorem RdS.intAt {w : World} {a : Option Addr} {n cap : Nat} {l : List Int} (h : RdI w (.slice a n cap) l) {i : Nat} {x : Int} (hx : l[i]? = some x) : ∃ b off, a = some ⟨b, off, none⟩ ∧ w.cell? ⟨b, off + i, none⟩ = some (.int .i64 x) := by
  obtain ⟨b, off, u, e, hc, hr⟩ := RdS.at1 rfl h hx
  have hr' : [u] = [Value.int .i64 x] := hr
  simp only [List.cons.injEq, and_true] at hr'
  subst hr'
  exact ⟨b, off, e, hc⟩
theorem size_st (x : Str) : (ByteArray.mk x.toArray).size = x.length := by simp [ByteArray.size]

/-- a node as it is read -/
structure RdN (w : World) (kv vv dv : Value) (n : Nd) : Prop where
  keys : RdT w kv n.keys
  vals : RdT w vv n.vals
  kids : RdI w dv n.kids
theorem RdN.to {w w' : World} {kv vv dv : Value} {n : Nd} (h : RdN w kv vv dv n) (hb : Below w.heap.size w w') : RdN w' kv vv dv n := ⟨h.keys.to0 hb, h.vals.to0 hb, h.kids.to0 hb⟩
theorem RdN.slices {w : World} {kv vv dv : Value} {n : Nd} (h : RdN w kv vv dv n) : ∃ a c a' c' a'' c'', kv = .slice a n.keys.length c ∧ vv = .slice a' n.vals.length c' ∧ dv = .slice a'' n.kids.length c'' := by
  obtain ⟨a, c, e⟩ := h.keys.slice
  obtain ⟨a', c', e'⟩ := h.vals.slice
  obtain ⟨a'', c'', e''⟩ := h.kids.slice
  exact ⟨a, c, a', c', a'', c'', e, e', e''⟩
/-- the node's value -/
abbrev nv (n : Nd) (kv vv dv : Value) : Value := .agg #[.bool n.leaf, kv, vv, dv]
theorem cells4 {w : World} {g : Nat} {a b c d : Value} {t : TypeId} (h : w.heap[g]? = some (.cells #[a, b, c, d] t (0, 0))) :
    (w.cell? ⟨g, 0, none⟩ = some a ∧ w.cell? ⟨g, 1, none⟩ = some b ∧ w.cell? ⟨g, 2, none⟩ = some c ∧ w.cell? ⟨g, 3, none⟩ = some d) ∧ ∀ i, w.frozen? ⟨g, i, none⟩ = false := by
  refine ⟨⟨?_, ?_, ?_, ?_⟩, fun i => ?_⟩
  · rw [cell_of_row _ _ 0 _ _ (0, 0) h]; rfl
  · rw [cell_of_row _ _ 1 _ _ (0, 0) h]; rfl
  · rw [cell_of_row _ _ 2 _ _ (0, 0) h]; rfl
  · rw [cell_of_row _ _ 3 _ _ (0, 0) h]; rfl
  · simp [World.frozen?, h]
theorem some_el {α : Type} (l : List α) {k : Nat} (h : k < l.length) : ∃ x, l[k]? = some x := ⟨_, List.getElem?_eq_getElem h⟩

/-- sums of ints, wrapped once or more often -/
theorem w64_add (a b : Int) : wrap64 (wrap64 a + b) = wrap64 (a + b) := by unfold wrap64; omega
theorem w64_add' (a b : Int) : wrap64 (a + wrap64 b) = wrap64 (a + b) := by unfold wrap64; omega

end Go.Proofs.Ytgmkknonnidgaaa
