/-
  A region that draws its order, walked step by step: an operation that only reads is taken where it can come ('fan_take'); where one, two or three operations can come and no order is told, each is walked ('fan_one', 'fan_two', 'fan_three'). From m on a chain that all others precede. Nothing of the program is named.
-/
import Derived.Test.YtccklmhagabkaaaRSched
namespace Go.Proofs.Ytccklmhagabkaaa
open Go.RowKit
set_option linter.unusedVariables false

section
variable {P : Program} {ops : Array Oper} {Q : Exit → Act → World → Prop} {S : World → Prop} {Z : Act → World → Prop} {m : Nat}

/-- what is left to be walked, n operations ahead of the chain -/
def Fan (P : Program) (ops : Array Oper) (Q : Exit → Act → World → Prop) (S : World → Prop) (Z : Act → World → Prop) (m n : Nat) (listed : Array Bool) (a : Act) (w : World) : Prop :=
  HeadInv .any ops m listed → wpAnyM P .any ops Q S m (fun listed' a' w' => Region.seqB .any ops (ops.size - m) m listed' = true ∧ Z a' w') n listed a w
/-- a step: what is asked of operation i, all told -/
def fanStep (P : Program) (ops : Array Oper) (Q : Exit → Act → World → Prop) (S : World → Prop) (Z : Act → World → Prop) (m n i : Nat) (listed : Array Bool) (a : Act) (w : World) : Prop :=
  ∃ o, ops[i]? = some o ∧ ∀ K : Act → World → Prop, (∀ a' w', S w' → Fan P ops Q S Z m n (listed.setIfInBounds i true) a' w' → K a' w') → if Region.wanted o (yielded ops a.tmps) = true then o.wp P a w K Q else K (a.put o.dst undef) w
def fanOk (ops : Array Oper) (m : Nat) : Bool := Region.noSelect ops && decide (m < ops.size) && Region.sinkB .any ops m && Region.chainB .any ops m
def takeOk (ops : Array Oper) (m i : Nat) (listed : Array Bool) : Bool := fanOk ops m && decide (i < m) && (Region.ready .any ops listed).contains i && Region.free .any ops listed i
def readyOk (ops : Array Oper) (m : Nat) (is : List Nat) (listed : Array Bool) : Bool := decide (Region.ready .any ops listed = is) && is.all (fun i => decide (i < m)) && !is.isEmpty

theorem fan_take {i n : Nat} {listed : Array Bool} {a : Act} {w : World} {o : Oper} {v : Value} (ho : ops[i]? = some o) (hB : takeOk ops m i listed = true) (hQ : ∀ c (a : Act) t w, Q (.panic c) { a with tmps := t } w → Q (.panic c) a w) (hw : Region.wanted o (yielded ops a.tmps) = true) (hS : S w)
    (hy : ∀ w, S w → (execOp a.eval o).run P w = .ok (.value v) w) (h : Fan P ops Q S Z m n (listed.setIfInBounds i true) (a.put o.dst v) w) : Fan P ops Q S Z m (n + 1) listed a w := by
  intro inv
  simp only [takeOk, fanOk, Bool.and_eq_true, decide_eq_true_eq] at hB
  obtain ⟨⟨⟨⟨⟨⟨hsel, hm⟩, hs⟩, hc⟩, him⟩, hr⟩, hf⟩ := hB
  have hr' : i ∈ Region.ready .any ops listed := by simpa using hr
  exact wpAnyM_first ho (Region.noSelect_spec hsel) hs hc hm him (fun c a w h => hQ c a (a.put o.dst v).tmps w (by rw [← put_tmps]; exact h)) (fun listed a w hL => seqB_ready hL.1) _ listed a w inv (Region.free_spec ho hf) hr' (.inl ⟨hw, hy⟩) hS (h (inv.set hr' him))
theorem fan_all {is : List Nat} {n : Nat} {listed : Array Bool} {a : Act} {w : World} (hB : readyOk ops m is listed = true) (h : ∀ i ∈ is, fanStep P ops Q S Z m n i listed a w) : Fan P ops Q S Z m (n + 1) listed a w := by
  intro inv
  simp only [readyOk, Bool.and_eq_true, decide_eq_true_eq, List.all_eq_true] at hB
  obtain ⟨⟨hr, hlt⟩, hne⟩ := hB
  refine ⟨fun h1 => ?_, fun j hj => ?_⟩
  · rw [hr] at h1; subst h1; simp at hne
  · have hj0 := hj
    rw [hr] at hj
    have him := hlt j hj
    refine ⟨him, ?_⟩
    obtain ⟨o, ho, hK⟩ := h j hj
    have := hK (fun a' w' => S w' ∧ Fan P ops Q S Z m n (listed.setIfInBounds j true) a' w') (fun a' w' h1 h2 => ⟨h1, h2⟩)
    have hw : wpOp P ops Q j (fun a' w' => S w' ∧ Fan P ops Q S Z m n (listed.setIfInBounds j true) a' w') a w := by
      unfold wpOp
      simp only [ho]
      split
      · rename_i hwd; rw [if_pos hwd] at this; exact .inl this
      · rename_i hwd; rw [if_neg hwd] at this; exact this
    exact wpOp_mono (fun a' w' h' => ⟨h'.1, h'.2 (inv.set hj0 him)⟩) hw
theorem fan_one {n : Nat} {listed : Array Bool} {a : Act} {w : World} (i : Nat) (hB : readyOk ops m [i] listed = true) (h : fanStep P ops Q S Z m n i listed a w) : Fan P ops Q S Z m (n + 1) listed a w :=
  fan_all hB fun j hj => by simp at hj; subst hj; exact h
theorem fan_two {n : Nat} {listed : Array Bool} {a : Act} {w : World} (i j : Nat) (hB : readyOk ops m [i, j] listed = true) (h1 : fanStep P ops Q S Z m n i listed a w) (h2 : fanStep P ops Q S Z m n j listed a w) : Fan P ops Q S Z m (n + 1) listed a w :=
  fan_all hB fun k hk => by
    simp at hk
    rcases hk with rfl | rfl
    · exact h1
    · exact h2
theorem fan_three {n : Nat} {listed : Array Bool} {a : Act} {w : World} (i j k : Nat) (hB : readyOk ops m [i, j, k] listed = true) (h1 : fanStep P ops Q S Z m n i listed a w) (h2 : fanStep P ops Q S Z m n j listed a w) (h3 : fanStep P ops Q S Z m n k listed a w) : Fan P ops Q S Z m (n + 1) listed a w :=
  fan_all hB fun q hq => by
    simp at hq
    rcases hq with rfl | rfl | rfl
    · exact h1
    · exact h2
    · exact h3
/-- an operation that is wanted -/
theorem fan_step {i n : Nat} {listed : Array Bool} {a : Act} {w : World} {o : Oper} (ho : ops[i]? = some o) (hw : Region.wanted o (yielded ops a.tmps) = true) (h : ∀ K : Act → World → Prop, (∀ a' w', S w' → Fan P ops Q S Z m n (listed.setIfInBounds i true) a' w' → K a' w') → o.wp P a w K Q) : fanStep P ops Q S Z m n i listed a w :=
  ⟨o, ho, fun K hK => by rw [if_pos hw]; exact h K hK⟩
theorem fan_done {listed : Array Bool} {a : Act} {w : World} (hB : Region.seqB .any ops (ops.size - m) m listed = true) (h : Z a w) : Fan P ops Q S Z m 0 listed a w := fun _ => ⟨hB, h⟩

theorem wp_region_fan {id : Nat} {a : Act} {w : World} {l : List Oper} (S : World → Prop) (m : Nat) (hf : P.follows .mixedOrders = true) (hm : m < l.length)
    (h : Fan P l.toArray Q S (fun a'' w'' => wpList P l.toArray Q (l.drop m) a'' w'') m m (Array.replicate l.toArray.size false) a w.drew) : (Code.region id l.toArray true).wp P Q a w := by
  have hld : (l.drop m).length = l.length - m := by simp
  have inv0 : HeadInv .any l.toArray m (Array.replicate l.toArray.size false) :=
    ⟨by simp, fun j oj _ hl => (by rw [getD_replicate_false] at hl; cases hl), fun t _ ht => getD_in (by simpa using ht) (getD_replicate_false _ _)⟩
  have H := h inv0
  refine wp_region_any hf ?_
  have := wpAny_of_mid (Q := Q) (g := l.length - m) (fun listed a' w' hL => by
    have := wpAny_of_seq (md := .any) (Q' := Q) (l.drop m) m listed a' w' (fun j => by simp [List.getElem?_drop]) (by rw [hld]; simpa using hL.1) hL.2
    rwa [hld] at this) _ _ _ _ H
  rw [show m + (l.length - m) = l.toArray.size by simp; omega] at this
  exact this

end
end Go.Proofs.Ytccklmhagabkaaa
