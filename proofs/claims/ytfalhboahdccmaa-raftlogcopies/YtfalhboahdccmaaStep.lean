/-
  Steps for a walk, at an operation ('wp_..'), at a plain region's list ('wpList_..') and at a step of a region that draws ('step_..'): append of octets; a call of a Go function by its contract.
-/
import Derived.Deep.RegionLaw
import Derived.Test.YtfalhboahdccmaaApp
namespace Go.Proofs.Ytfalhboahdccmaa
open Go.RowKit
set_option linter.unusedVariables false

theorem wp_append_octs {o : Oper} {a : Act} {w : World} {K : Act → World → Prop} {Q : Exit → Act → World → Prop} (s x : Operand)
    (ho : o.op = .call { callee := .builtin .append, args := #[s, x], argTypes := #[25, 25] }) (B : Nat) (v v2 : Value) (xs ys : List UInt8) (hs : a.eval s = v) (hx : a.eval x = v2)
    (hown : OwnB B w v xs) (hrd : Rd w v2 ys) (hlen : xs.length + ys.length ≤ 140737488355328) (hB : B ≤ w.heap.size)
    (h : ∀ v' w', OwnB B w' v' (xs ++ ys) → Below B w w' → w.grownBy w' v.ownBlock → K (a.put o.dst v') w') : o.wp Try.prog a w K Q := by
  obtain ⟨i0, hi, hz0, hz1, hz2⟩ := info_parts info8
  obtain ⟨ao, c, rfl, l1, m1, n1, r1⟩ := hrd
  cases ao with
  | none =>
    have : ys = [] := by
      rcases r1 with r1 | ⟨b, off, h, _⟩
      · exact r1
      · cases h
    subst this
    obtain rfl : c = 0 := n1 rfl
    have hrun := run_append_owned_none (P := Try.prog) (w := w) B 25 o.type 5 i0 1 Try.underlying25 hi v xs.length (xs.map enc) hown
    unfold Oper.wp
    simp [execOp, ho, resolve, invoke, builtin, hs, hx, hrun, Result.andThen]
    exact h v w (by simpa using hown) (Below.refl _ _) (World.grownBy.refl _ _)
  | some ad =>
    have e1 : (ys.map enc).length = ys.length * 1 := by simp
    have e2 : ∀ j u, (ys.map enc)[j]? = some u → w.cell? (ad.add j) = some u := by
      rcases r1 with rfl | ⟨b, off, h, hc⟩
      · intro j u hj; simp at hj
      · obtain rfl : ad = ⟨b, off, none⟩ := by simpa using h
        exact news_octs hc
    refine wp_append_own _ s x 25 ho B 5 i0 (.int .u8 0) 1 1 Try.underlying25 hi hz0 hz1 hz2 rfl (by decide) v xs.length (xs.map enc) hs hown ad ys.length c (ys.map enc) hx e1 e2 (enc_one ys)
      (by rw [show maxLen = 9223372036854775807 from rfl]; omega) (by omega) hB ?_
    intro v' w' h1 h2 _
    refine h v' w' ?_ ((Below.refl _ _).grown h2 hB hown.from) h2
    unfold OwnB
    simpa using h1

theorem wp_call_of {P : Program} {o : Oper} {a : Act} {w : World} {K : Act → World → Prop} {Q : Exit → Act → World → Prop} (n : FuncId) (xs : Array Operand) (ts : Array TypeId)
    (ho : o.op = .call { callee := .value (.func n), args := xs, argTypes := ts }) (vals : Array Value) (hv : xs.map a.eval = vals) (hent : (callFunc n vals).run P w = .ok (.enter n vals) w) {R : Ending → World → Prop} (hc : Calls P n vals w R)
    (h : ∀ e w', R e w' → ∃ v, e = .returned v ∧ K (a.put o.dst v) w') : o.wp P a w K Q := by
  unfold Oper.wp
  have he : a.eval (.func n) = .func (.func n) #[] #[] := rfl
  simp [execOp, ho, resolve, invoke, hv, he, Deferred.ofValue]
  rw [hent, Oper.upon_enter]
  refine hc.mono ?_
  intro e w' hr
  obtain ⟨v, rfl, hk⟩ := h e w' hr
  exact hk

theorem step_append_octs {ops : Array Oper} {o : Oper} {a : Act} {w : World} {K : Act → World → Prop} {Q : Exit → Act → World → Prop} {E : Prop} (hgd : o.guard = none) (s x : Operand)
    (ho : o.op = .call { callee := .builtin .append, args := #[s, x], argTypes := #[25, 25] }) (B : Nat) (v v2 : Value) (xs ys : List UInt8) (hs : a.eval s = v) (hx : a.eval x = v2)
    (hown : OwnB B w v xs) (hrd : Rd w v2 ys) (hlen : xs.length + ys.length ≤ 140737488355328) (hB : B ≤ w.heap.size)
    (h : ∀ v' w', OwnB B w' v' (xs ++ ys) → Below B w w' → w.grownBy w' v.ownBlock → K (a.put o.dst v') w') : if Region.wanted o (yielded ops a.tmps) = true then Oper.wp Try.prog o a w K Q else E := by
  rw [if_pos (by simp [Region.wanted, hgd])]
  exact wp_append_octs s x ho B v v2 xs ys hs hx hown hrd hlen hB h

theorem step_call {P : Program} {ops : Array Oper} {o : Oper} {a : Act} {w : World} {K : Act → World → Prop} {Q : Exit → Act → World → Prop} {E : Prop} (hgd : o.guard = none) (n : FuncId) (xs : Array Operand) (ts : Array TypeId)
    (ho : o.op = .call { callee := .value (.func n), args := xs, argTypes := ts }) (vals : Array Value) (hv : xs.map a.eval = vals) (hent : (callFunc n vals).run P w = .ok (.enter n vals) w) {R : Ending → World → Prop} (hc : Calls P n vals w R)
    (h : ∀ e w', R e w' → ∃ v, e = .returned v ∧ K (a.put o.dst v) w') : if Region.wanted o (yielded ops a.tmps) = true then Oper.wp P o a w K Q else E := by
  rw [if_pos (by simp [Region.wanted, hgd])]
  exact wp_call_of n xs ts ho vals hv hent hc h

theorem step_call_w {P : Program} {ops : Array Oper} {o : Oper} {a : Act} {w : World} {K : Act → World → Prop} {Q : Exit → Act → World → Prop} {E : Prop} (hw : Region.wanted o (yielded ops a.tmps) = true) (n : FuncId) (xs : Array Operand) (ts : Array TypeId)
    (ho : o.op = .call { callee := .value (.func n), args := xs, argTypes := ts }) (vals : Array Value) (hv : xs.map a.eval = vals) (hent : (callFunc n vals).run P w = .ok (.enter n vals) w) {R : Ending → World → Prop} (hc : Calls P n vals w R)
    (h : ∀ e w', R e w' → ∃ v, e = .returned v ∧ K (a.put o.dst v) w') : if Region.wanted o (yielded ops a.tmps) = true then Oper.wp P o a w K Q else E := by
  rw [if_pos hw]
  exact wp_call_of n xs ts ho vals hv hent hc h

end Go.Proofs.Ytfalhboahdccmaa
