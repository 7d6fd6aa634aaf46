/-
  Steps for a walk, at an operation ('wp_..'), at a plain region's list ('wpList_..') and at a step of a region that draws ('step_..'): append of octets; a call of a Go function by its contract.
-/
import Derived.Deep.RegionLaw
import Derived.Test.YtccklmhagabkaaaApp
namespace Go.Proofs.Ytccklmhagabkaaa
open Go.RowKit
set_option linter.unusedVariables false


theorem wp_call_of {P : Program} {o : Oper} {a : Act} {w : World} {K : Act → World → Prop} {Q : Exit → Act → World → Prop} (n : FuncId) (xs : Array Operand) (ts : Array TypeId)
    (ho : o.op = .call { callee := .value (.func n), args := xs, argTypes := ts }) (vals : Array Value) (hv : xs.map a.eval = vals) (hent : (callFunc n vals).run P w = .ok (.enter n vals) w) {R : Ending → World → Prop} (hc : Calls P n vals w R)
    (h : ∀ e w', R e w' → ∃ v, e = .returned v ∧ K (a.put o.dst v) w') : o.wp P a w K Q := by
  unfold Oper.wp
  have he : a.eval (.func n) = .func (.func n) #[] #[] := rfl
  simp [execOp, ho, resolve, invoke, hv, he, Deferred.ofValue]
  rw [hent, Oper.upon_enter]
  refine hc.mono ?_
  intro e w' hr
  obtain ⟨v, rfl, hk⟩ := h e w' hr
  exact hk


theorem step_call {P : Program} {ops : Array Oper} {o : Oper} {a : Act} {w : World} {K : Act → World → Prop} {Q : Exit → Act → World → Prop} {E : Prop} (hgd : o.guard = none) (n : FuncId) (xs : Array Operand) (ts : Array TypeId)
    (ho : o.op = .call { callee := .value (.func n), args := xs, argTypes := ts }) (vals : Array Value) (hv : xs.map a.eval = vals) (hent : (callFunc n vals).run P w = .ok (.enter n vals) w) {R : Ending → World → Prop} (hc : Calls P n vals w R)
    (h : ∀ e w', R e w' → ∃ v, e = .returned v ∧ K (a.put o.dst v) w') : if Region.wanted o (yielded ops a.tmps) = true then Oper.wp P o a w K Q else E := by
  rw [if_pos (by simp [Region.wanted, hgd])]
  exact wp_call_of n xs ts ho vals hv hent hc h

theorem step_call_w {P : Program} {ops : Array Oper} {o : Oper} {a : Act} {w : World} {K : Act → World → Prop} {Q : Exit → Act → World → Prop} {E : Prop} (hw : Region.wanted o (yielded ops a.tmps) = true) (n : FuncId) (xs : Array Operand) (ts : Array TypeId)
    (ho : o.op = .call { callee := .value (.func n), args := xs, argTypes := ts }) (vals : Array Value) (hv : xs.map a.eval = vals) (hent : (callFunc n vals).run P w = .ok (.enter n vals) w) {R : Ending → World → Prop} (hc : Calls P n vals w R)
    (h : ∀ e w', R e w' → ∃ v, e = .returned v ∧ K (a.put o.dst v) w') : if Region.wanted o (yielded ops a.tmps) = true then Oper.wp P o a w K Q else E := by
  rw [if_pos hw]
  exact wp_call_of n xs ts ho vals hv hent hc h

end Go.Proofs.Ytccklmhagabkaaa
