/-
  The contracts of the leaves: bits.OnesCount8, bits.Reverse8, transeptlaw01.num.
-/
import Derived.Test.YtoijklenmjllcaaDoorProg
import Derived.Test.YtoijklenmjllcaaDoorMath
namespace Go.Proofs.YtoijklenmjllcaaDoor
open Go.RowKit
set_option linter.unusedVariables false

theorem num_any (w : World) (x : Int) :
    Calls Tryd.prog 10 #[.int .i64 x] w fun e w' => e = .returned (.int .i64 x) ∧ w = w' := by
  go_enter Tryd.func10, Tryd.ntmps10
  go_wp2
  go_ret
  exact ⟨rfl, rfl⟩

theorem wrap64_pop8 (x : Int) (h0 : 0 ≤ x) (h1 : x ≤ 255) : wrap64 (Lib.pop8 x) = (Lib.onesCount x.toNat : Int) := by
  unfold wrap64; exact Lib.pop8_int x h0 h1

set_option maxRecDepth 100000 in
theorem ones_any (w : World) (x : Int) (h0 : 0 ≤ x) (h1 : x ≤ 255) :
    Calls Tryd.prog 22 #[.int .u8 x] w fun e w' => e = .returned (.int .i64 (Lib.onesCount x.toNat)) ∧ w' = w := by
  go_enter Tryd.func22, Tryd.ntmps22
  go_wp2
  go_ret
  exact ⟨ret_int (wrap64_pop8 x h0 h1), rfl⟩

set_option maxRecDepth 100000 in
theorem rev_any (w : World) (x : Int) (h0 : 0 ≤ x) (h1 : x ≤ 255) :
    Calls Tryd.prog 23 #[.int .u8 x] w fun e w' => e = .returned (.int .u8 (Lib.rev8 x)) ∧ w' = w := by
  go_enter Tryd.func23, Tryd.ntmps23
  go_wp2
  go_ret
  exact ⟨rfl, rfl⟩
end Go.Proofs.YtoijklenmjllcaaDoor
