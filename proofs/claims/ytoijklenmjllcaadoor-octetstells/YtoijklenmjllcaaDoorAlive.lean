/-
  The law's own 'alive' (the page's examples) answers true; it makes memory of its own and changes none that was there.
-/
import Derived.Test.YtoijklenmjllcaaDoorPut
import Derived.Test.YtoijklenmjllcaaDoorSame
namespace Go.Proofs.YtoijklenmjllcaaDoor
open Go.RowKit
set_option linter.unusedVariables false

theorem own_lit (w : World) (xs : List UInt8) (h : xs.length ≤ 1000) : OwnB w.heap.size (w.alloc (.cells (xs.map enc).toArray 5)) (.slice (some ⟨w.heap.size, 0, none⟩) xs.length xs.length) xs := by
  have := World.ownsRow_lit (base := w.heap.size) (e := 5) (size := 1) w (xs.map enc).toArray xs.length (Nat.le_refl _) (by unfold maxLen; omega) (by simp)
  simpa [OwnB] using this

theorem rd_lit (w : World) (xs : List UInt8) (cs : Array Value) (b n : Nat) (hcs : cs = (xs.map enc).toArray) (hb : b = w.heap.size) (hn : n = xs.length) (h : xs.length ≤ 1000) :
    Rd (w.alloc (.cells cs 5)) (.slice (some ⟨b, 0, none⟩) n n) xs := by
  subst hcs hb hn
  exact (own_lit w xs h).rd

set_option maxHeartbeats 1000000 in
theorem alive_any (w : World) : Calls Tryd.prog 13 #[] w fun e w' => e = .returned (.bool true) ∧ Below w.heap.size w w' := by
  go_enter Tryd.func13, Tryd.ntmps13
  go_wp2_with fail
  refine (put_yes 258 3 w (by omega) (by omega) (by decide) (by omega)).mono ?_
  rintro e w1 ⟨v1, rfl, o1, b1⟩
  go_wp2_with fail
  have r15 : Rd ((w1.alloc (.cells #[.int .u8 15] 5)).alloc (.cells #[.int .u8 240] 5)) (.slice (some ⟨w1.heap.size, 0, none⟩) 1 1) [15] :=
    (rd_lit w1 [15] _ _ _ rfl rfl rfl (by decide)).below (B := w1.heap.size + 1) (by simp) ((Below.refl _ _).alloc (by simp) _)
  have r240 : Rd ((w1.alloc (.cells #[.int .u8 15] 5)).alloc (.cells #[.int .u8 240] 5)) (.slice (some ⟨w1.heap.size + 1, 0, none⟩) 1 1) [240] :=
    rd_lit _ [240] _ _ _ rfl (by simp) rfl (by decide)
  have e8 : ap [15] [240] = 8 := by decide
  have hq := apart_any _ _ _ [15] [240] r15 r240 rfl (by decide)
  rw [e8] at hq
  refine hq.mono ?_
  clear hq r15 r240 e8
  have b2 : Below w.heap.size w ((w1.alloc (.cells #[.int .u8 15] 5)).alloc (.cells #[.int .u8 240] 5)) := (b1.alloc b1.size _).alloc (by have := b1.size; simp; omega) _
  have o2 : Rd ((w1.alloc (.cells #[.int .u8 15] 5)).alloc (.cells #[.int .u8 240] 5)) v1 (oc 258 3) := o1.rd.below (Nat.le_refl _) (((Below.refl _ _).alloc (Nat.le_refl _) _).alloc (by simp) _)
  obtain ⟨W, hW⟩ : ∃ W, (w1.alloc (.cells #[.int .u8 15] 5)).alloc (.cells #[.int .u8 240] 5) = W := ⟨_, rfl⟩
  have hs : w1.heap.size + 1 + 1 = W.heap.size := by rw [← hW]; simp
  rw [hW] at b2 o2 ⊢
  rintro e w2 ⟨rfl, nq, hw2⟩
  have o3 : Rd w2 v1 (oc 258 3) := by rw [hw2]; exact o2.drewN _
  have b3 : Below w.heap.size w w2 := by rw [hw2]; exact b2.trans (below_drewN' _ _ _)
  clear hw2 o2 b2 hs hW W o1 b1
  go_wp2_with fail
  refine (num_any _ _).mono ?_
  rintro e w3 ⟨rfl, rfl⟩
  go_wp2_with fail
  refine (num_any _ _).mono ?_
  rintro e w3 ⟨rfl, rfl⟩
  go_wp2_with fail
  have hq := same_any _ _ _ _ _ (o3.below (Nat.le_refl _) ((Below.refl _ _).alloc (Nat.le_refl _) _)) (rd_lit _ [0, 1, 2] _ _ _ rfl rfl rfl (by decide))
  rw [show sameB (oc 258 3) [0, 1, 2] = true from by decide +kernel] at hq
  refine hq.mono ?_
  clear hq
  rintro e w4 ⟨rfl, nq, hw⟩
  have b4 : Below w.heap.size w w4 := by rw [hw]; exact (b3.alloc b3.size _).trans (below_drewN' _ _ _)
  clear hw b3 o3
  go_wp2_with fail
  refine (turn_any _ _ _ (rd_lit _ [1, 128] _ _ _ rfl rfl rfl (by decide)) (by decide)).mono ?_
  rintro e w5 ⟨v5, rfl, o5, b5⟩
  have b6 : Below w.heap.size w w5 := (b4.alloc b4.size _).trans (b5.mono (by have := b4.size; simp; omega))
  clear b5 b4
  go_wp2_with fail
  have hq := same_any _ _ _ _ _ (o5.rd.below (Nat.le_refl _) ((Below.refl _ _).alloc (Nat.le_refl _) _)) (rd_lit _ [1, 128] _ _ _ rfl rfl rfl (by decide))
  rw [show sameB (tn [1, 128]) [1, 128] = true from by decide +kernel] at hq
  refine hq.mono ?_
  clear hq
  rintro e w7 ⟨rfl, nq, hw⟩
  have b7 : Below w.heap.size w w7 := by rw [hw]; exact (b6.alloc b6.size _).trans (below_drewN' _ _ _)
  clear hw b6 o5
  go_wp2
  go_ret
  exact ⟨rfl, b7⟩

end Go.Proofs.YtoijklenmjllcaaDoor
