/-
  The contract of transeptplain.SameBytes: it tells whether two slices hold the same octets; it only reads.
-/
import Derived.Test.YtfalhboahdccmaaProg
import Derived.Test.YtfalhboahdccmaaBase
namespace Go.Proofs.Ytfalhboahdccmaa
open Go.RowKit
set_option linter.unusedVariables false

set_option maxRecDepth 100000 in
set_option maxHeartbeats 400000 in
theorem same_any (w : World) (v1 v2 : Value) (xs ys : List UInt8) (h1 : Rd w v1 xs) (h2 : Rd w v2 ys) :
    Calls Try.prog 40 #[v1, v2] w fun e w' => e = .returned (.bool (sameB xs ys)) ∧ ∃ n, w' = w.drewN n := by
  obtain ⟨a1, c1, rfl, l1, m1, n1, r1⟩ := h1
  obtain ⟨a2, c2, rfl, l2, m2, n2, r2⟩ := h2
  unfold maxLen at m1 m2
  by_cases hl : xs.length = ys.length
  · have hne : ((xs.length : Int) != (ys.length : Int)) = false := by simp; omega
    go_enter Try.func40, Try.ntmps40
    go_wp2
    go_loopw [5] (fun i wr => ∃ k n : Nat, k ≤ xs.length ∧ i = .int .i64 k ∧ sameTo xs ys k ∧ wr = w.drewN n) (fun i _ => xs.length - (intOf i).toNat)
    case atStart => exact ⟨0, 0, Nat.zero_le _, rfl, sameTo_zero _ _, rfl⟩
    case round =>
      obtain ⟨k, n, hk, rfl, hs, rfl⟩ := hrel
      by_cases hlt : k < xs.length
      · rcases r1 with r1 | ⟨b1, o1, rfl, hc1⟩
        · rw [r1] at hlt; simp at hlt
        rcases r2 with r2 | ⟨b2, o2, rfl, hc2⟩
        · rw [hl, r2] at hlt; simp at hlt
        have g1 := hc1 k hlt
        have g2 := hc2 k (by omega)
        have HL : Hid (xs.length = ys.length) := hl
        have hq : (k : Int) < (xs.length : Int) := by omega
        have hq2 : (k : Int) < (ys.length : Int) := by omega
        clear hc1 hc2 hl
        by_cases he : bt xs k = bt ys k
        · have hb : (bt xs k != bt ys k) = false := by simp [he]
          have HE : Hid (bt xs k = bt ys k) := he
          clear he
          go_wp2
          go_quiet (fail)
          go_wp2
          go_roundw
          case rel => exact ⟨k + 1, _, by omega, by go_num, sameTo_succ hs HE.out, rfl⟩
          case measure => simp [intOf]; omega
        · have hb : (bt xs k != bt ys k) = true := by simp [he]
          go_wp2
          go_quiet (fail)
          go_wp2
          go_ret
          exact ⟨ret_bool (sameB_no HL.out hlt he).symm, _, World.drewN_drewN _ _ _⟩
      · have HL : Hid (xs.length = ys.length) := hl
        clear hl
        go_wp2
        go_ret
        exact ⟨ret_bool (sameB_of HL.out (by rw [show xs.length = k from by omega]; exact hs)).symm, _, rfl⟩
  · have hne : ((xs.length : Int) != (ys.length : Int)) = true := by simp; omega
    go_enter Try.func40, Try.ntmps40
    go_wp2
    go_ret
    exact ⟨ret_bool (sameB_len hl).symm, 0, rfl⟩

end Go.Proofs.Ytfalhboahdccmaa
