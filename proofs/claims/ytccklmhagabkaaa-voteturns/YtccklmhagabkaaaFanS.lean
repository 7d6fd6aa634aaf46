/-
  A region that draws its order, walked step by step: operations that are not wanted. Nothing of the program is named.
-/
import Derived.Test.YtccklmhagabkaaaRFan
namespace Go.Proofs.Ytccklmhagabkaaa
open Go.RowKit
set_option linter.unusedVariables false
set_option linter.unusedSimpArgs false

section
variable {P : Program} {ops : Array Oper} {Q : Exit → Act → World → Prop} {S : World → Prop} {Z : Act → World → Prop} {m : Nat}
/-- an operation that only reads and is not wanted -/
theorem fan_skip {i n : Nat} {listed : Array Bool} {a : Act} {w : World} {o : Oper} (ho : ops[i]? = some o) (hB : takeOk ops m i listed = true) (hQ : ∀ c (a : Act) t w, Q (.panic c) { a with tmps := t } w → Q (.panic c) a w) (hw : Region.wanted o (yielded ops a.tmps) = false) (hS : S w)
    (h : Fan P ops Q S Z m n (listed.setIfInBounds i true) (a.put o.dst undef) w) : Fan P ops Q S Z m (n + 1) listed a w := by
  intro inv
  simp only [takeOk, fanOk, Bool.and_eq_true, decide_eq_true_eq] at hB
  obtain ⟨⟨⟨⟨⟨⟨hsel, hm⟩, hs⟩, hc⟩, him⟩, hr⟩, hf⟩ := hB
  have hr' : i ∈ Region.ready .any ops listed := by simpa using hr
  exact wpAnyM_first ho (Region.noSelect_spec hsel) hs hc hm him (fun c a w h => hQ c a (a.put o.dst undef).tmps w (by rw [← put_tmps]; exact h)) (fun listed a w hL => seqB_ready hL.1) _ listed a w inv (Region.free_spec ho hf) hr' (.inr ⟨hw, rfl⟩) hS (h (inv.set hr' him))
/-- a call that is not wanted -/
theorem fan_pass {i n : Nat} {listed : Array Bool} {a : Act} {w : World} {o : Oper} (ho : ops[i]? = some o) (hw : Region.wanted o (yielded ops a.tmps) = false) (hS : S w) (h : Fan P ops Q S Z m n (listed.setIfInBounds i true) (a.put o.dst undef) w) : fanStep P ops Q S Z m n i listed a w :=
  ⟨o, ho, fun K hK => by rw [if_neg (by rw [hw]; decide)]; exact hK _ _ hS h⟩
end
end Go.Proofs.Ytccklmhagabkaaa
