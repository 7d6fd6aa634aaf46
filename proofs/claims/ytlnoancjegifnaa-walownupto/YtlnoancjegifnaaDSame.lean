/-
  The law's SameLists and Alike, where both sides are one.
-/
import Derived.Test.YtlnoancjegifnaaDMath
import Derived.Test.YtlnoancjegifnaaSame
namespace Go.Proofs.Ytlnoancjegifnaa
open Go.RowKit
set_option linter.unusedVariables false

set_option maxRecDepth 100000 in
set_option maxHeartbeats 400000 in
theorem dsameLists_any (w : World) (v1 v2 : Value) (ss : List (List UInt8)) (h1 : RdSec w v1 ss) (h2 : RdSec w v2 ss) :
    Calls Try.prog 21 #[v1, v2] w fun e w' => e = .returned (.bool true) ∧ ∃ n, w' = w.drewN n := by
  have lb := h1.bd
  obtain ⟨a1, c1, rfl⟩ := h1.slice
  obtain ⟨a2, c2, rfl⟩ := h2.slice
  go_enter Try.func21, Try.ntmps21
  go_wp2
  go_loopw [5] (fun i wr => ∃ k n : Nat, k ≤ ss.length ∧ i = .int .i64 k ∧ wr = w.drewN n) (fun i _ => ss.length - (intOf i).toNat)
  case atStart => exact ⟨0, 0, Nat.zero_le _, rfl, rfl⟩
  case round =>
    obtain ⟨k, n, hk, rfl, hwr⟩ := hrel
    have hb : Below w.heap.size w wr := by rw [hwr]; exact below_drewN' _ _ _
    have HW : Hid (wr = w.drewN n) := hwr
    clear hwr
    by_cases hlt : k < ss.length
    · have hq : (k : Int) < (ss.length : Int) := by omega
      obtain ⟨x, hx, _⟩ := some_at ss hlt
      obtain ⟨b1, o1, u1, rfl, g1, q1⟩ := (h1.to0 hb).oct hx
      obtain ⟨b2, o2, u2, rfl, g2, q2⟩ := (h2.to0 hb).oct hx
      obtain ⟨aa, ca, rfl⟩ := q1.slice
      obtain ⟨ab, cb, rfl⟩ := q2.slice
      have KS := hide (fun n => same_any (wr.drewN n) _ _ _ _ (q1.drewN n) (q2.drewN n))
      rw [sameB_self] at KS
      clear q1 q2 hb hx
      generalize x.length = LX at *
      go_wp2
      go_quiet ((go_at_call 28; exact Calls.quiet_of (KS.out _)))
      go_wp2
      go_roundw
      case rel => exact ⟨k + 1, n + nq, by omega, by go_num, by rw [HW.out, World.drewN_drewN]⟩
      case measure => simp [intOf]; omega
    · go_wp2
      go_ret
      exact ⟨rfl, _, HW.out⟩

end Go.Proofs.Ytlnoancjegifnaa
