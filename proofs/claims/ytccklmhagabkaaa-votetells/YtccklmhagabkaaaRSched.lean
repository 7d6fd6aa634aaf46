/-
  A region that draws its order, walked once, by a schedule: '(i, true)': operation i only reads (the same in every world that meets S): it may be taken now, whatever else could come first; '(i, false)': operation i is the only one that can come now. From m on a chain that all others precede. Nothing of the program is named.
-/
import Derived.Test.YtccklmhagabkaaaRMid
namespace Go.Proofs.Ytccklmhagabkaaa
open Go.RowKit
set_option linter.unusedVariables false

section
variable {P : Program} {ops : Array Oper} {md : Region.Mode} {Q : Exit → Act → World → Prop} {S : World → Prop}

def schedB (md : Region.Mode) (ops : Array Oper) (m : Nat) : List (Nat × Bool) → Array Bool → Bool
  | [], listed => Region.seqB md ops (ops.size - m) m listed
  | (i, true) :: r, listed => decide (i < m) && (Region.ready md ops listed).contains i && Region.free md ops listed i && schedB md ops m r (listed.setIfInBounds i true)
  | (i, false) :: r, listed => decide (i < m) && decide (Region.ready md ops listed = [i]) && schedB md ops m r (listed.setIfInBounds i true)
def wpSched (P : Program) (ops : Array Oper) (Q : Exit → Act → World → Prop) (S : World → Prop) (Z : Act → World → Prop) : List (Nat × Bool) → Act → World → Prop
  | [], a, w => Z a w
  | (i, true) :: r, a, w => ∃ o v, ops[i]? = some o ∧ YieldsIf P ops S o v a ∧ S w ∧ wpSched P ops Q S Z r (a.put o.dst v) w
  | (i, false) :: r, a, w => ∃ o, ops[i]? = some o ∧ if Region.wanted o (yielded ops a.tmps) = true then o.wp P a w (fun a' w' => S w' ∧ wpSched P ops Q S Z r a' w') Q else S w ∧ wpSched P ops Q S Z r (a.put o.dst undef) w

theorem wpAnyM_sched {m : Nat} {Z : Act → World → Prop} (hsel : Region.noSelect ops = true) (hs : Region.sinkB md ops m = true) (hc : Region.chainB md ops m = true) (hm : m < ops.size) (hQ : ∀ c (a : Act) t w, Q (.panic c) { a with tmps := t } w → Q (.panic c) a w) :
    ∀ (l : List (Nat × Bool)) (listed : Array Bool) (a : Act) (w : World), HeadInv md ops m listed → schedB md ops m l listed = true → wpSched P ops Q S Z l a w →
      wpAnyM P md ops Q S m (fun listed' a' w' => Region.seqB md ops (ops.size - m) m listed' = true ∧ Z a' w') l.length listed a w
  | [], listed, a, w, _, hB, h => ⟨hB, h⟩
  | (i, true) :: r, listed, a, w, inv, hB, ⟨o, v, ho, hy, hS, h⟩ => by
    simp only [schedB, Bool.and_eq_true, decide_eq_true_eq] at hB
    obtain ⟨⟨⟨him, hr⟩, hf⟩, hB'⟩ := hB
    have hr' : i ∈ Region.ready md ops listed := by simpa using hr
    exact wpAnyM_first ho (Region.noSelect_spec hsel) hs hc hm him (fun c a w h => hQ c a (a.put o.dst v).tmps w (by rw [← put_tmps]; exact h)) (fun listed a w hL => seqB_ready hL.1) _ listed a w inv (Region.free_spec ho hf) hr' hy hS
      (wpAnyM_sched hsel hs hc hm hQ r _ _ _ (inv.set hr' him) hB' h)
  | (i, false) :: r, listed, a, w, inv, hB, ⟨o, ho, h⟩ => by
    simp only [schedB, Bool.and_eq_true, decide_eq_true_eq] at hB
    obtain ⟨⟨him, hr⟩, hB'⟩ := hB
    refine ⟨fun h1 => (by rw [hr] at h1; cases h1), fun j hj => ?_⟩
    have hj0 := hj
    rw [hr] at hj
    have hji : j = i := by simpa using hj
    subst hji
    refine ⟨him, ?_⟩
    have hw : wpOp P ops Q j (fun a' w' => S w' ∧ wpSched P ops Q S Z r a' w') a w := by
      unfold wpOp
      simp only [ho]
      split
      · rename_i hwd; rw [if_pos hwd] at h; exact .inl h
      · rename_i hwd; rw [if_neg hwd] at h; exact h
    exact wpOp_mono (fun a' w' h' => ⟨h'.1, wpAnyM_sched hsel hs hc hm hQ r _ _ _ (inv.set hj0 him) hB' h'.2⟩) hw

def schedAll (md : Region.Mode) (ops : Array Oper) (m : Nat) (l : List (Nat × Bool)) : Bool :=
  Region.noSelect ops && decide (l.length = m) && decide (m < ops.size) && Region.sinkB md ops m && Region.chainB md ops m && schedB md ops m l (Array.replicate ops.size false)

theorem wp_region_sched {id : Nat} {a : Act} {w : World} {l : List Oper} (S : World → Prop) (s : List (Nat × Bool)) (m : Nat) (hf : P.follows .mixedOrders = true) (hB : schedAll .any l.toArray m s = true)
    (hQ : ∀ c (a : Act) t w, Q (.panic c) { a with tmps := t } w → Q (.panic c) a w)
    (h : wpSched P l.toArray Q S (fun a'' w'' => wpList P l.toArray Q (l.drop m) a'' w'') s a w.drew) : (Code.region id l.toArray true).wp P Q a w := by
  simp only [schedAll, Bool.and_eq_true, decide_eq_true_eq] at hB
  obtain ⟨⟨⟨⟨⟨hsel, hlen⟩, hm⟩, hs⟩, hc⟩, hsch⟩ := hB
  have hm' : m < l.length := by simpa using hm
  have hld : (l.drop m).length = l.length - m := by simp
  have inv0 : HeadInv .any l.toArray m (Array.replicate l.toArray.size false) :=
    ⟨by simp, fun j oj _ hl => (by rw [getD_replicate_false] at hl; cases hl), fun t _ ht => getD_in (by simpa using ht) (getD_replicate_false _ _)⟩
  have H := wpAnyM_sched (md := .any) hsel hs hc hm hQ s _ a w.drew inv0 hsch h
  refine wp_region_any hf ?_
  have := wpAny_of_mid (Q := Q) (g := l.length - m) (fun listed a' w' hL => by
    have := wpAny_of_seq (md := .any) (Q' := Q) (l.drop m) m listed a' w' (fun j => by simp [List.getElem?_drop]) (by rw [hld]; exact hL.1) hL.2
    rwa [hld] at this) _ _ _ _ H
  rw [hlen, show m + (l.length - m) = l.toArray.size by simp; omega] at this
  exact this

theorem sched_take {i : Nat} {r : List (Nat × Bool)} {a : Act} {w : World} {Z : Act → World → Prop} {o : Oper} {v : Value} (ho : ops[i]? = some o) (hw : Region.wanted o (yielded ops a.tmps) = true) (hS : S w) (hy : ∀ w, S w → (execOp a.eval o).run P w = .ok (.value v) w) (h : wpSched P ops Q S Z r (a.put o.dst v) w) : wpSched P ops Q S Z ((i, true) :: r) a w :=
  ⟨o, v, ho, .inl ⟨hw, hy⟩, hS, h⟩
theorem sched_go {i : Nat} {r : List (Nat × Bool)} {a : Act} {w : World} {Z : Act → World → Prop} {o : Oper} (ho : ops[i]? = some o) (h : ∀ K : Act → World → Prop, (∀ a' w', S w' → wpSched P ops Q S Z r a' w' → K a' w') → if Region.wanted o (yielded ops a.tmps) = true then o.wp P a w K Q else K (a.put o.dst undef) w) : wpSched P ops Q S Z ((i, false) :: r) a w := by
  have := h (fun a' w' => S w' ∧ wpSched P ops Q S Z r a' w') (fun a' w' h1 h2 => ⟨h1, h2⟩)
  exact ⟨o, ho, this⟩

theorem sched_run {i : Nat} {r : List (Nat × Bool)} {a : Act} {w : World} {Z : Act → World → Prop} {o : Oper} (ho : ops[i]? = some o) (hw : Region.wanted o (yielded ops a.tmps) = true) (h : ∀ K : Act → World → Prop, (∀ a' w', S w' → wpSched P ops Q S Z r a' w' → K a' w') → o.wp P a w K Q) : wpSched P ops Q S Z ((i, false) :: r) a w := by
  refine sched_go ho fun K hK => ?_
  rw [if_pos hw]
  exact h K hK

end
end Go.Proofs.Ytccklmhagabkaaa
