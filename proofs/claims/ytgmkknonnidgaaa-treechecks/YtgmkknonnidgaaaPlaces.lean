/-
  The iterator octets.places: it hands out each place of a number of 'size' octets and its shift, in order; and the closure that it answers.
-/
import Derived.RangeFuncNested
import Derived.RangeFuncBound
import Derived.RangeFuncCalls
import Derived.RangeFuncLeaves
import Derived.Shelf.Abstract
import Derived.Shelf.RegionOpen
import Derived.WalkKit
import Derived.OwnWalkIn
import Derived.TacticsInMore
import Derived.LoopNIn
import Derived.LoopIn
import Derived.RangeFuncBox
import Derived.Test.YtgmkknonnidgaaaOwn
namespace Go.Proofs.Ytgmkknonnidgaaa
open Go.RowKit Go.Shelf
attribute [local go_sem] Oper.semAt_some
set_option linter.unusedVariables false

/-- a place of a number of 'size' octets -/
abbrev Pl (size : Nat) : Type := { k : Nat // k < size }
/-- what the loop is handed: where the octet stands, by how many bits it is shifted -/
def plEncs (size : Nat) (x : Pl size) : Array Value := #[.int .i64 (x.1 : Int), .int .i64 (8 * ((size : Int) - 1 - (x.1 : Int)))]
/-- the first k places -/
def plTo (size k : Nat) (h : k ≤ size) : List (Pl size) := (List.finRange k).map fun i => ⟨i.1, Nat.lt_of_lt_of_le i.2 h⟩
theorem plTo_length (size k : Nat) (h : k ≤ size) : (plTo size k h).length = k := by simp [plTo]
theorem plTo_succ (size k : Nat) (h : k < size) : plTo size (k + 1) h = plTo size k (Nat.le_of_lt h) ++ [⟨k, h⟩] := by
  apply List.ext_getElem
  · simp [plTo]
  · intro i h1 h2
    simp only [plTo, List.length_map, List.length_finRange] at h1
    by_cases hk : i < k
    · rw [List.getElem_append_left (by simp [plTo]; exact hk)]
      simp [plTo]
    · obtain rfl : i = k := by omega
      rw [List.getElem_append_right (by simp [plTo])]
      simp [plTo]

/-- what the iterator asks of a round: the box of its size lies as it lay -/
def KeepsBox (Bs : Nat) (W W' : World) : Prop := W'.heap[Bs]? = W.heap[Bs]?
theorem KeepsBox.refl (Bs : Nat) (W : World) : KeepsBox Bs W W := rfl
theorem KeepsBox.trans {Bs : Nat} {A B C : World} (h : KeepsBox Bs A B) (k : KeepsBox Bs B C) : KeepsBox Bs A C := Eq.trans k h
theorem KeepsBox.boxed {Bs : Nat} {A B : World} (h : KeepsBox Bs A B) {t : TypeId} {v : Value} (k : Boxed A Bs t v) : Boxed B Bs t v := Eq.trans h k
theorem KeepsBox.put {Bs : Nat} {w : World} (hl : Bs < w.heap.size) (W : World) (l : Nat) (o o' : Obj) (h : w.heap.size ≤ l) (_ : W.heap[l]? = some o) (_ : o.isCells = false) (_ : o.isWalk = false) : KeepsBox Bs W (W.putObj l o') :=
  World.putObj_heap_other (by omega)
theorem KeepsBox.setCell {Bs b off : Nat} {W : World} (v : Value) (h : Bs ≠ b) : KeepsBox Bs W (W.setCell ⟨b, off, none⟩ v) := Below.heap_setCell _ _ _ _ h

set_option maxRecDepth 100000 in
set_option maxHeartbeats 1000000 in
theorem places1_in (F : Fence) (n : Nat) (hf : F.fn 112) (hro : F.round = none) (hn : 1 ≤ n) (l Bs size : Nat) (hs8 : size ≤ 8) (J Jx : List (Pl size) → World → Prop)
    (hY : ∀ pre x W, J pre W → pre.length < size → YieldAt F (n - 1) Try.prog l (plEncs size x) W fun e W' =>
      (e = .returned (.bool true) ∧ J (pre ++ [x]) W' ∧ KeepsBox Bs W W') ∨ (e = .returned (.bool false) ∧ Jx (pre ++ [x]) W'))
    (W : World) (hBs : Boxed W Bs 3 (.int .i64 (size : Int))) (h0 : J [] W) :
    CallsIn F n Try.prog 112 #[.func (.yield l) #[] #[], .pointer (some ⟨Bs, 0, none⟩)] W fun e W' => (∃ v, e = .returned v) ∧
      ((∃ ys, ys = plTo size size (Nat.le_refl _) ∧ J ys W') ∨ (∃ pre, True ∧ Jx pre W')) := by
  refine callsIn_of_wp Try.func112 rfl hf ?_ hro
  simp only [Try.ntmps112, List.size_toArray, List.length_cons, List.length_nil, Nat.reduceAdd, Nat.reduceSub, Array.replicate_succ, Array.replicate_zero, List.push_toArray, List.append_toArray, List.nil_append, List.cons_append]
  have hc0 := hBs.cell
  gi_wp2
  gi_loopw [5] (fun i wr => ∃ (k : Nat) (h : k ≤ size), i = .int .i64 k ∧ J (plTo size k h) wr ∧ KeepsBox Bs W wr)
    (fun i _ => size - (intOf i).toNat)
  case atStart => exact ⟨0, Nat.zero_le _, rfl, h0, KeepsBox.refl _ _⟩
  case round =>
    obtain ⟨k, hk, rfl, hJs, hnx⟩ := hrel
    have hcx : wr.cell? ⟨Bs, 0, none⟩ = some (.int .i64 (size : Int)) := (hnx.boxed hBs).cell
    by_cases hlt : k < size
    · obtain ⟨fn, tmps, assign, body, hy, hR⟩ := hY _ ⟨k, hlt⟩ wr hJs (by rw [plTo_length]; exact hlt)
      dsimp only [plEncs] at hy
      have hq : (k : Int) < (size : Int) := by omega
      gi_wp2
      refine hR.mono ?_
      rintro e W3 (⟨rfl, hJ3, hk3⟩ | ⟨rfl, hJx3⟩)
      · gi_wp2
        go_roundw
        case rel => exact ⟨k + 1, hlt, by simp, by rw [plTo_succ]; exact hJ3, hnx.trans hk3⟩
        case measure => simp [intOf]; omega
      · gi_wp2
        refine bodyPost_ret (results_none rfl _ _ _) rfl ?_
        exact ⟨⟨_, rfl⟩, .inr ⟨_, trivial, hJx3⟩⟩
    · obtain rfl : k = size := by omega
      gi_wp2
      go_end0
      exact ⟨⟨_, rfl⟩, .inl ⟨_, rfl, hJs⟩⟩

set_option maxRecDepth 100000 in
set_option maxHeartbeats 1000000 in
theorem places_in (F : Fence) (n : Nat) (hf : F.fn 106) (hro : F.round = none) (size : Int) (w : World) :
    CallsIn F n Try.prog 106 #[.int .i64 size] w fun e w' => e = .returned (.func (.func 112) #[] #[.pointer (some ⟨w.heap.size, 0, none⟩)]) ∧ w' = w.alloc (.cells #[.int .i64 size] 3) := by
  refine callsIn_of_wp Try.func106 rfl hf ?_ hro
  simp only [Try.ntmps106, List.size_toArray, List.length_cons, List.length_nil, Nat.reduceAdd, Nat.reduceSub, Array.replicate_succ, Array.replicate_zero, List.push_toArray, List.append_toArray, List.nil_append, List.cons_append]
  gi_wp2
  go_ret
  exact ⟨rfl, rfl⟩

theorem places_stops (F : Fence) (n : Nat) (hf : F.fn 112) (hro : F.round = none) (hn : 1 ≤ n) (Bs size : Nat) (hs8 : size ≤ 8) (w : World) (hc : Boxed w Bs 3 (.int .i64 (size : Int))) :
    SeqStopsK F n Try.prog 112 #[.pointer (some ⟨Bs, 0, none⟩)] (plEncs size) (KeepsBox Bs) (fun ys => ys = plTo size size (Nat.le_refl _)) (fun _ => True) size w := fun l J Jx W hW _ _ hY h0 => by
  have hc' : Boxed W Bs 3 (.int .i64 (size : Int)) := (hW.block Bs hc.lt).trans hc
  exact places1_in F n hf hro hn l Bs size hs8 J Jx hY W hc' h0

end Go.Proofs.Ytgmkknonnidgaaa
