/-
  The law's SameLists and Alike, where both sides are one.
-/
import Derived.Test.YtliileemelcllaaDMath
import Derived.Test.YtliileemelcllaaSame
namespace Go.Proofs.Ytliileemelcllaa
open Go.RowKit
set_option linter.unusedVariables false

set_option maxRecDepth 100000 in
set_option maxHeartbeats 400000 in
theorem dsameLists_any (w : World) (v1 v2 : Value) (ss : List (List UInt8)) (h1 : RdSec w v1 ss) (h2 : RdSec w v2 ss) :
    Calls Try.prog 48 #[v1, v2] w fun e w' => e = .returned (.bool true) ∧ ∃ n, w' = w.drewN n := by
  have lb := h1.bd
  obtain ⟨a1, c1, rfl⟩ := h1.slice
  obtain ⟨a2, c2, rfl⟩ := h2.slice
  go_enter Try.func48, Try.ntmps48
  go_wp2
  go_loopw [5] (fun i wr => ∃ k n : Nat, k ≤ ss.length ∧ i = .int .i64 k ∧ wr = w.drewN n) (fun i _ => ss.length - (intOf i).toNat)
  case atStart => exact ⟨0, 0, Nat.zero_le _, rfl, rfl⟩
  case round =>
    obtain ⟨k, n, hk, rfl, hwr⟩ := hrel
    have hb : Below w.heap.size w wr := by rw [hwr]; exact below_drewN' _ _ _
    have HW : Hid (wr = w.drewN n) := hwr
    clear hwr
    by_cases hlt : k < ss.length
    · have hq : (k : Int) < (ss.length : Int) := by omega
      obtain ⟨x, hx, _⟩ := some_at ss hlt
      obtain ⟨b1, o1, u1, rfl, g1, q1⟩ := (h1.to0 hb).oct hx
      obtain ⟨b2, o2, u2, rfl, g2, q2⟩ := (h2.to0 hb).oct hx
      obtain ⟨aa, ca, rfl⟩ := q1.slice
      obtain ⟨ab, cb, rfl⟩ := q2.slice
      have KS := hide (fun n => same_any (wr.drewN n) _ _ _ _ (q1.drewN n) (q2.drewN n))
      rw [sameB_self] at KS
      clear q1 q2 hb hx
      generalize x.length = LX at *
      go_wp2
      go_quiet ((go_at_call 14; exact Calls.quiet_of (KS.out _)))
      go_wp2
      go_roundw
      case rel => exact ⟨k + 1, n + nq, by omega, by go_num, by rw [HW.out, World.drewN_drewN]⟩
      case measure => simp [intOf]; omega
    · go_wp2
      go_ret
      exact ⟨rfl, _, HW.out⟩

set_option maxRecDepth 100000 in
set_option maxHeartbeats 2000000 in
theorem alike_any (w : World) (sv cv sv2 cv2 : Value) (d : Dsk) (h1 : RdSec w sv d.1) (h2 : RdC w cv d.2) (k1 : RdSec w sv2 d.1) (k2 : RdC w cv2 d.2) :
    Calls Try.prog 22 #[.agg #[sv, cv], .agg #[sv2, cv2]] w fun e w' => e = .returned (.int .i64 0) ∧ Below w.heap.size w w' := by
  have lb := h2.bd
  obtain ⟨a1, c1, rfl⟩ := h1.slice
  obtain ⟨a2, c2, rfl⟩ := h2.slice
  obtain ⟨a3, c3, rfl⟩ := k1.slice
  obtain ⟨a4, c4, rfl⟩ := k2.slice
  obtain ⟨W1, hW1, A0, A1, bW1, sW1⟩ := boxed2 w (.slice a1 d.1.length c1) (.slice a2 d.2.length c2) 43
  obtain ⟨W, hW, B0, B1, bW2, sW⟩ := boxed2 W1 (.slice a3 d.1.length c3) (.slice a4 d.2.length c4) 40
  rw [sW1] at B0 B1
  rw [hW1] at hW
  replace A0 := (bW2.cell (cell_lt A0)).trans A0
  replace A1 := (bW2.cell (cell_lt A1)).trans A1
  have bW := bW1.trans (bW2.mono bW1.size)
  replace h1 := h1.to0 bW
  replace h2 := h2.to0 bW
  replace k1 := k1.to0 bW
  replace k2 := k2.to0 bW
  replace hW1 := hide hW1
  clear bW1 bW2
  go_enter Try.func22, Try.ntmps22
  go_wp2_with fail
  rw [← hW]
  replace hW := hide hW
  refine (dsameLists_any _ _ _ d.1 h1 k1).mono ?_
  rintro e w1 ⟨rfl, n1, hw1⟩
  have b1 : Below W.heap.size W w1 := by rw [hw1]; exact below_drewN' _ _ _
  replace A1 := (b1.cell (cell_lt A1)).trans A1
  replace B1 := (b1.cell (cell_lt B1)).trans B1
  replace h2 := h2.to0 b1
  replace k2 := k2.to0 b1
  have cc := bW.trans (b1.mono bW.size)
  clear hw1 b1 bW A0 B0 h1 k1
  go_wp2
  go_loopw [5] (fun i wr => ∃ k : Nat, k ≤ d.2.length ∧ i = .int .i64 k ∧ Below w1.heap.size w1 wr) (fun i _ => d.2.length - (intOf i).toNat)
  case atStart => exact ⟨0, Nat.zero_le _, rfl, Below.refl _ _⟩
  case round =>
    obtain ⟨k, hk, rfl, hb⟩ := hrel
    replace A1 := (hb.cell (cell_lt A1)).trans A1
    replace B1 := (hb.cell (cell_lt B1)).trans B1
    by_cases hlt : k < d.2.length
    · have hq : (k : Int) < (d.2.length : Int) := by omega
      obtain ⟨y, hy, _⟩ := some_at d.2 hlt
      obtain ⟨b1, o1, u1, rfl, g1, g2, q1⟩ := (h2.to0 hb).wrt hy
      obtain ⟨b2, o2, u2, rfl, g3, g4, q2⟩ := (k2.to0 hb).wrt hy
      obtain ⟨aa, ca, rfl⟩ := q1.slice
      obtain ⟨ab, cb, rfl⟩ := q2.slice
      have KS := hide (fun n => same_any (wr.drewN n) _ _ _ _ (q1.drewN n) (q2.drewN n))
      rw [sameB_self] at KS
      have HB := hide hb
      clear q1 q2 hb hy
      obtain ⟨z, x⟩ := y
      dsimp only at g1 g2 g3 g4 KS
      generalize x.length = LX at *
      have hne : (z != z) = false := by simp
      go_wp2
      go_quiet ((go_at_call 14; exact Calls.quiet_of (KS.out _)))
      have HB2 : Hid (Below w1.heap.size w1 (wr.drewN nq)) := HB.out.trans (below_drewN' _ _ _)
      go_wp2
      go_roundw
      case rel => exact ⟨k + 1, by omega, by go_num, HB2.out⟩
      case measure => simp [intOf]; omega
    · go_wp2
      go_ret
      exact ⟨rfl, cc.trans (hb.mono cc.size)⟩

end Go.Proofs.Ytliileemelcllaa
