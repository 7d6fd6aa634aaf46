/-
  The law's same of logs, where both sides are one; its num.
-/
import Derived.Test.YtibkanmboglcgaaWOf
import Derived.Test.YtibkanmboglcgaaDSame
namespace Go.Proofs.Ytibkanmboglcgaa
open Go.RowKit
set_option linter.unusedVariables false
set_option linter.unusedSimpArgs false

set_option maxRecDepth 100000 in
theorem num8_any (w : World) (n : Int) : Calls Try.prog 20 #[.int .i64 n] w fun e w' => e = .returned (.int .i64 n) ∧ w = w' := by
  go_enter Try.func20, Try.ntmps20
  go_wp2
  go_ret
  exact ⟨rfl, rfl⟩

set_option maxRecDepth 100000 in
set_option maxHeartbeats 2000000 in
theorem wsame_any (w : World) (sv wv sv2 wv2 : Value) (l : Wlg) (h1 : RdC w sv l.1) (h2 : RdSec w wv l.2.2) (k1 : RdC w sv2 l.1) (k2 : RdSec w wv2 l.2.2) :
    Calls Try.prog 19 #[.agg #[sv, .int .i64 l.2.1, wv], .agg #[sv2, .int .i64 l.2.1, wv2]] w fun e w' => e = .returned (.bool true) ∧ Below w.heap.size w w' := by
  have lb := h1.bd
  obtain ⟨a1, c1, rfl⟩ := h1.slice
  obtain ⟨a2, c2, rfl⟩ := h2.slice
  obtain ⟨a3, c3, rfl⟩ := k1.slice
  obtain ⟨a4, c4, rfl⟩ := k2.slice
  obtain ⟨W1, hW1, X1, bW1, sW1⟩ := boxedN w #[.slice a1 l.1.length c1, .int .i64 l.2.1, .slice a2 l.2.2.length c2] 28
  obtain ⟨W, hW, X2, bW2, sW⟩ := boxedN W1 #[.slice a3 l.1.length c3, .int .i64 l.2.1, .slice a4 l.2.2.length c4] 25
  rw [sW1] at X2
  rw [hW1] at hW
  have Y1 := (bW2.block _ (lt_of_block X1)).trans X1
  have bW := bW1.trans (bW2.mono bW1.size)
  replace h1 := h1.to0 bW
  replace h2 := h2.to0 bW
  replace k1 := k1.to0 bW
  replace k2 := k2.to0 bW
  replace hW1 := hide hW1
  obtain ⟨⟨A0, A1, A2⟩, _⟩ := cells3 Y1
  obtain ⟨⟨B0, B1, B2⟩, _⟩ := cells3 X2
  have KL := hide (dsameLists_any W _ _ l.2.2 h2 k2)
  have hnx : (l.2.1 != l.2.1) = false := by simp
  clear bW1 bW2 X1
  rw [hW] at A0 A1 A2 B0 B1 B2
  go_enter Try.func19, Try.ntmps19
  go_wp2_with fail
  rw [← hW]
  rw [← hW] at A0 A1 A2 B0 B1 B2
  replace hW := hide hW
  refine KL.out.mono ?_
  rintro e w1 ⟨rfl, n1, hw1⟩
  have b1 : Below W.heap.size W w1 := by rw [hw1]; exact below_drewN' _ _ _
  replace A0 := (b1.cell (cell_lt A0)).trans A0
  replace B0 := (b1.cell (cell_lt B0)).trans B0
  replace h1 := h1.to0 b1
  replace k1 := k1.to0 b1
  have cc := bW.trans (b1.mono bW.size)
  clear hw1 b1 bW A1 A2 B1 B2 h2 k2 KL X2 Y1
  go_wp2
  go_loopw [5] (fun i wr => ∃ k : Nat, k ≤ l.1.length ∧ i = .int .i64 k ∧ Below w1.heap.size w1 wr) (fun i _ => l.1.length - (intOf i).toNat)
  case atStart => exact ⟨0, Nat.zero_le _, rfl, Below.refl _ _⟩
  case round =>
    obtain ⟨k, hk, rfl, hb⟩ := hrel
    replace A0 := (hb.cell (cell_lt A0)).trans A0
    replace B0 := (hb.cell (cell_lt B0)).trans B0
    by_cases hlt : k < l.1.length
    · have hq : (k : Int) < (l.1.length : Int) := by omega
      obtain ⟨y, hy, _⟩ := some_at l.1 hlt
      obtain ⟨b1, o1, u1, rfl, g1, g2, q1⟩ := (h1.to0 hb).wrt hy
      obtain ⟨b2, o2, u2, rfl, g3, g4, q2⟩ := (k1.to0 hb).wrt hy
      obtain ⟨aa, ca, rfl⟩ := q1.slice
      obtain ⟨ab, cb, rfl⟩ := q2.slice
      have KS := hide (fun n => same_any (wr.drewN n) _ _ _ _ (q1.drewN n) (q2.drewN n))
      rw [sameB_self] at KS
      have HB := hide hb
      clear q1 q2 hb hy
      obtain ⟨z, x⟩ := y
      dsimp only at g1 g2 g3 g4 KS
      generalize x.length = LX at *
      have hne : (z != z) = false := by simp
      go_wp2
      go_quiet ((go_at_call 28; exact Calls.quiet_of (KS.out _)))
      have HB2 : Hid (Below w1.heap.size w1 (wr.drewN nq)) := HB.out.trans (below_drewN' _ _ _)
      go_wp2
      go_roundw
      case rel => exact ⟨k + 1, by omega, by go_num, HB2.out⟩
      case measure => simp [intOf]; omega
    · have hq : ¬ (k : Int) < (l.1.length : Int) := by omega
      go_wp2
      go_ret
      exact ⟨rfl, cc.trans (hb.mono cc.size)⟩

end Go.Proofs.Ytibkanmboglcgaa
