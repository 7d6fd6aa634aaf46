/-
  The program's closures that tell which extent fits.
-/
import Derived.Test.YtacfcgklncckiaaECheckP
namespace Go.Proofs.Ytacfcgklncckiaa
open Go.RowKit
set_option linter.unusedVariables false

theorem Calls.flip {P : Program} {f : FuncId} {args : Array Value} {w : World} {v : Value} (h : Calls P f args w fun e w' => e = .returned v ∧ w = w') : Calls P f args w fun e w' => e = .returned v ∧ w' = w := h.mono fun _ _ ⟨a, b⟩ => ⟨a, b.symm⟩
/-- a closure with one captured variable tells p of spans -/
def Fits (F : FuncId) (b : Nat) (v : Value) (p : Int → Int → Bool) : Prop :=
  ∀ (w : World) (x y : Int), spIn x y → w.cell? ⟨b, 0, none⟩ = some v → Calls Try.prog F #[sp x y, .pointer (some ⟨b, 0, none⟩)] w fun e w' => e = .returned (.bool (p x y)) ∧ ∃ n, w' = w.drewN n

set_option maxRecDepth 100000 in
set_option maxHeartbeats 400000 in
theorem fits_alloc (b : Nat) (s : Int) : Fits 28 b (.int .i64 s) fun x y => decide (s ≤ y - x) := by
  intro w x y h hc
  have KS := hide (fun n => Calls.flip (size_any (w.drewN n) x y h))
  have hd : ∀ n, (w.drewN n).cell? ⟨b, 0, none⟩ = some (.int .i64 s) := fun n => hc
  go_enter Try.func28, Try.ntmps28
  go_wp2_with fail
  go_quiet ((go_at_call 29; exact Calls.quiet_of_same (KS.out _)))
  go_wp2
  go_ret
  exact ⟨by first | rfl | (apply ret_bool; simp), nq, rfl⟩
set_option maxRecDepth 100000 in
set_option maxHeartbeats 400000 in
theorem fits_end (b : Nat) (u v : Int) (hs : spIn u v) : Fits 43 b (sp u v) fun x y => decide (u ≤ y) := by
  intro w x y h hc
  have K1 := hide (fun n => Calls.flip (end_any (w.drewN n) x y h.2.2.1 h.2.2.2))
  have K2 := hide (fun n => Calls.flip (begin_any (w.drewN n) u v hs.1 hs.2.1))
  go_enter Try.func43, Try.ntmps43
  go_wp2_with fail
  go_quiet (first | (go_at_call 36; exact Calls.quiet_of_same (K1.out _)) | (go_at_call 35; exact Calls.quiet_of_same (K2.out _)))
  go_wp2
  go_ret
  exact ⟨by first | rfl | (apply ret_bool; simp), nq, rfl⟩
set_option maxRecDepth 100000 in
set_option maxHeartbeats 400000 in
theorem fits_begin (b : Nat) (u v : Int) (hs : spIn u v) : Fits 44 b (sp u v) fun x y => decide (v < x) := by
  intro w x y h hc
  have K1 := hide (fun n => Calls.flip (begin_any (w.drewN n) x y h.1 h.2.1))
  have K2 := hide (fun n => Calls.flip (end_any (w.drewN n) u v hs.2.2.1 hs.2.2.2))
  go_enter Try.func44, Try.ntmps44
  go_wp2_with fail
  go_quiet (first | (go_at_call 36; exact Calls.quiet_of_same (K2.out _)) | (go_at_call 35; exact Calls.quiet_of_same (K1.out _)))
  go_wp2
  go_ret
  exact ⟨by first | rfl | (apply ret_bool; simp), nq, rfl⟩
set_option maxRecDepth 100000 in
set_option maxHeartbeats 1000000 in
theorem fits_take (b : Nat) (u v : Int) (hs : spIn u v) : Fits 34 b (sp u v) fun x y => decide (x ≤ u) && decide (v ≤ y) := by
  intro w x y h hc
  have K1 := hide (fun n => Calls.flip (begin_any (w.drewN n) x y h.1 h.2.1))
  have K2 := hide (fun n => Calls.flip (begin_any (w.drewN n) u v hs.1 hs.2.1))
  have K3 := hide (fun n => Calls.flip (end_any (w.drewN n) u v hs.2.2.1 hs.2.2.2))
  have K4 := hide (fun n => Calls.flip (end_any (w.drewN n) x y h.2.2.1 h.2.2.2))
  by_cases c1 : x ≤ u
  · have hd : decide (x ≤ u) = true := decide_eq_true c1
    go_enter Try.func34, Try.ntmps34
    go_wp2_with fail
    go_quiet (first | (go_at_call 35; first | exact Calls.quiet_of_same (K1.out _) | exact Calls.quiet_of_same (K2.out _)) | (go_at_call 36; first | exact Calls.quiet_of_same (K3.out _) | exact Calls.quiet_of_same (K4.out _)))
    go_wp2
    go_ret
    exact ⟨by first | rfl | (apply ret_bool; simp [c1]), nq, rfl⟩
  · have hd : decide (x ≤ u) = false := decide_eq_false c1
    go_enter Try.func34, Try.ntmps34
    go_wp2_with fail
    go_quiet (first | (go_at_call 35; first | exact Calls.quiet_of_same (K1.out _) | exact Calls.quiet_of_same (K2.out _)) | (go_at_call 36; first | exact Calls.quiet_of_same (K3.out _) | exact Calls.quiet_of_same (K4.out _)))
    go_wp2
    go_ret
    exact ⟨by first | rfl | (apply ret_bool; simp; omega), nq, rfl⟩
set_option maxRecDepth 100000 in
set_option maxHeartbeats 1000000 in
theorem fits_free (b : Nat) (u v : Int) (hs : spIn u v) : Fits 38 b (sp u v) fun x y => decide (x < v) && decide (u < y) := by
  intro w x y h hc
  have K1 := hide (fun n => Calls.flip (begin_any (w.drewN n) x y h.1 h.2.1))
  have K2 := hide (fun n => Calls.flip (begin_any (w.drewN n) u v hs.1 hs.2.1))
  have K3 := hide (fun n => Calls.flip (end_any (w.drewN n) u v hs.2.2.1 hs.2.2.2))
  have K4 := hide (fun n => Calls.flip (end_any (w.drewN n) x y h.2.2.1 h.2.2.2))
  by_cases c1 : x < v
  · have hd : decide (x < v) = true := decide_eq_true c1
    go_enter Try.func38, Try.ntmps38
    go_wp2_with fail
    go_quiet (first | (go_at_call 35; first | exact Calls.quiet_of_same (K1.out _) | exact Calls.quiet_of_same (K2.out _)) | (go_at_call 36; first | exact Calls.quiet_of_same (K3.out _) | exact Calls.quiet_of_same (K4.out _)))
    go_wp2
    go_ret
    exact ⟨by first | rfl | (apply ret_bool; simp [c1]), nq, rfl⟩
  · have hd : decide (x < v) = false := decide_eq_false c1
    go_enter Try.func38, Try.ntmps38
    go_wp2_with fail
    go_quiet (first | (go_at_call 35; first | exact Calls.quiet_of_same (K1.out _) | exact Calls.quiet_of_same (K2.out _)) | (go_at_call 36; first | exact Calls.quiet_of_same (K3.out _) | exact Calls.quiet_of_same (K4.out _)))
    go_wp2
    go_ret
    exact ⟨by first | rfl | (apply ret_bool; simp; omega), nq, rfl⟩

end Go.Proofs.Ytacfcgklncckiaa
