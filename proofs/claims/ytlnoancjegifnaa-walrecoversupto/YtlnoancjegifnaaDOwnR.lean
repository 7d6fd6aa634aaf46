/-
  The page's Own of disks, and the law's CopyLists and Of: states in memory of their own.
-/
import Derived.Test.YtlnoancjegifnaaDRenew
import Derived.Test.YtlnoancjegifnaaRCop
import Derived.Test.YtlnoancjegifnaaRMid
import Derived.Test.YtlnoancjegifnaaTail
namespace Go.Proofs.Ytlnoancjegifnaa
open Go.RowKit
set_option linter.unusedVariables false

theorem snoc_take {α : Type} (xs : List α) {k : Nat} {x : α} (hx : xs[k]? = some x) : xs.take k ++ [x] = xs.take (k + 1) := by
  rw [List.take_add_one, hx]; rfl
def dfit (d : Dsk) : Prop := d.1.length * 24 ≤ 140737488351232 ∧ (∀ x ∈ d.1, x.length ≤ 140737488351232) ∧ d.2.length * 32 ≤ 140737488351232 ∧ ∀ y ∈ d.2, y.2.length ≤ 140737488351232

set_option maxRecDepth 100000 in
set_option maxHeartbeats 1000000 in
theorem copyLists_any (w : World) (v : Value) (ss : List (List UInt8)) (h : RdSec w v ss) (hm : ss.length * 24 ≤ 140737488351232) (hx : ∀ x ∈ ss, x.length ≤ 140737488351232) :
    Calls Try.prog 10 #[v] w fun e w' => ∃ v', e = .returned v' ∧ Own SSec w.heap.size w' [v'] ss ∧ Below w.heap.size w w' := by
  obtain ⟨i0, hi, hz0, hz1, hz2⟩ := info_parts infoB
  obtain ⟨a, c, rfl⟩ := h.slice
  go_enter Try.func10, Try.ntmps10
  go_wp2
  go_loopw [3, 4] (fun l i wr => ∃ k : Nat, k ≤ ss.length ∧ i = .int .i64 k ∧ Own SSec w.heap.size wr [l] (ss.take k) ∧ Below w.heap.size w wr) (fun _ i _ => ss.length - (intOf i).toNat)
  case atStart => exact ⟨0, Nat.zero_le _, rfl, Own.nil _ _ _ _, Below.refl _ _⟩
  case round =>
    obtain ⟨k, hk, rfl, ho, hb⟩ := hrel
    by_cases hlt : k < ss.length
    · have hq : (k : Int) < (ss.length : Int) := by omega
      obtain ⟨x, hxk, hxm⟩ := some_at ss hlt
      obtain ⟨b1, o1, u, rfl, hc, hr⟩ := (h.to0 hb).oct hxk
      obtain ⟨F, hF, hFB⟩ := ho.foot
      obtain ⟨cc, rowT, fin⟩ := OwnF.lit hF (n := k) (by simp; omega)
      have hsn := snoc_take ss hxk
      have hxl := hx x hxm
      have hwr := hb.size
      have FIN : Hid (∀ (w2 : World) (v2 : Value) (w5 : World) (g cap : Nat), Below wr.heap.size wr w2 → OwnB wr.heap.size w2 v2 x → (w2.alloc (.cells #[v2] 54)).grownBy w5 u3.ownBlock →
          w5.ownsRow 0 54 1 (.slice (some ⟨g, 0, none⟩) (k + 1) cap) (k + 1) (cc ++ [v2]) → (u3.ownBlock = some g ∨ g = w2.heap.size + 1) →
          Own SSec w.heap.size w5 [.slice (some ⟨g, 0, none⟩) (k + 1) cap] (ss.take (k + 1)) ∧ Below w.heap.size w w5) := fun w2 v2 w5 g cap k1 k2 k3 k4 k5 => by
        obtain ⟨⟨F', q1, q2⟩, q3, _⟩ := fin w2 [v2] x 54 _ w5 g cap k1 k2.toOwn rfl rfl rfl rfl k3 k4 k5
        rw [hsn] at q1
        exact ⟨q1.own fun b hb' => (q2 b hb').elim (hFB b) (fun h => by omega), hb.trans (q3 w.heap.size hFB hwr)⟩
      have h63 : k + 1 ≤ maxLen := by rw [show maxLen = 9223372036854775807 from rfl]; omega
      have hby : (k + 1) * 24 ≤ 140737488355328 := by omega
      have ROW := hide rowT
      clear fin rowT hsn hF hFB ho hb hxk hxm
      go_wp2_with fail
      refine (copy_any _ _ x hr (by omega)).mono ?_
      rintro e w2 ⟨v2, rfl, o2, b2⟩
      obtain ⟨av, cv2, rfl⟩ := o2.rd.slice
      have O2 := hide o2
      have B2 := hide b2
      clear o2 b2 hc hr
      go_wp2_with (at_builtin; refine wpList_append_lies _ rfl _ _ 23 rfl 0 54 i0 _ 1 24 Try.underlying23 hi hz0 hz1 hz2 rfl (by decide) u3 k cc rfl (ROW.out _ (B2.out.alloc B2.out.size _)) ⟨w2.heap.size, 0, none⟩ 1 1 [.slice av x.length cv2] rfl rfl (World.news_of_block (heap_alloc_last w2 _)) (by simp [Value.oneCell']) (by decide) h63 hby (Nat.zero_le _) (w2.heap.size + 1) (by simp) ?_; intro g cap w5 ho5 hg5 hat5 hlt5; have HF := hide (FIN.out w2 _ w5 g cap B2.out O2.out hg5 ho5 hat5); clear ho5 hg5 hat5 FIN ROW O2 B2)
      go_roundw
      case rel => exact ⟨k + 1, by omega, by go_num, HF.out⟩
      case measure => simp [intOf]; omega
    · obtain rfl : k = ss.length := by omega
      rw [List.take_of_length_le (Nat.le_refl _)] at ho
      go_wp2
      go_ret
      exact ⟨_, rfl, ho, hb⟩

theorem row2_cells {w : World} {g : Nat} {x y : Value} {t : TypeId} (h : w.heap[g]? = some (.cells #[x, y] t (0, 0))) : w.cell? ⟨g, 0, none⟩ = some x ∧ w.cell? ⟨g, 1, none⟩ = some y ∧ w.frozen? ⟨g, 0, none⟩ = false ∧ w.frozen? ⟨g, 1, none⟩ = false :=
  ⟨by rw [cell_of_row _ _ 0 _ _ (0, 0) h]; rfl, by rw [cell_of_row _ _ 1 _ _ (0, 0) h]; rfl, frozen_of_row _ _ 0 _ _ h, frozen_of_row _ _ 1 _ _ h⟩
theorem cell_alloc {w : World} {b i : Nat} {v : Value} (h : w.cell? ⟨b, i, none⟩ = some v) (o : Obj) : (w.alloc o).cell? ⟨b, i, none⟩ = some v :=
  (World.cell?_of_block (a := ⟨b, i, none⟩) (Below.heap_alloc w o b (cell_lt h))).trans h
theorem cell_other {w : World} {b i g j : Nat} {v : Value} (h : w.cell? ⟨b, i, none⟩ = some v) (hne : b ≠ g) (u : Value) : (w.setCell ⟨g, j, none⟩ u).cell? ⟨b, i, none⟩ = some v :=
  (World.cell?_of_block (a := ⟨b, i, none⟩) (Below.heap_setCell w ⟨g, j, none⟩ u b hne)).trans h
theorem set_row0 {w : World} {g : Nat} {x y : Value} {t : TypeId} (h : w.heap[g]? = some (.cells #[x, y] t (0, 0))) (u : Value) : (w.setCell ⟨g, 0, none⟩ u).heap[g]? = some (.cells #[u, y] t (0, 0)) := by
  simp [World.setCell, Array.getElem?_modify, h]
theorem set_row1 {w : World} {g : Nat} {x y : Value} {t : TypeId} (h : w.heap[g]? = some (.cells #[x, y] t (0, 0))) (u : Value) : (w.setCell ⟨g, 1, none⟩ u).heap[g]? = some (.cells #[x, u] t (0, 0)) := by
  simp [World.setCell, Array.getElem?_modify, h]

/-- a state in a box at g that no block of its own is -/
def BoxSt (s : Shp Dsk) (T : Nat) (g B : Nat) (w : World) (sv cv : Value) (d : Dsk) : Prop :=
  w.heap[g]? = some (.cells #[sv, cv] T (0, 0)) ∧ ∃ F, OwnF s F w [sv, cv] d ∧ (∀ b, b ∈ F → B ≤ b) ∧ g ∉ F

end Go.Proofs.Ytlnoancjegifnaa
