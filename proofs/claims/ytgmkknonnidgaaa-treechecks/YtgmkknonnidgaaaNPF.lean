/-
  Several labels in one scope; the program's read, from label to label.
-/
import Derived.WalkMore
import Derived.ScopeJumps
import Derived.Deep.AppendLies
import Derived.Test.YtgmkknonnidgaaaMergeD
import Derived.Test.YtgmkknonnidgaaaNRMath
import Derived.Test.YtgmkknonnidgaaaNPE
namespace Go.Proofs.Ytgmkknonnidgaaa
open Go.RowKit
set_option linter.unusedVariables false
set_option linter.unusedSimpArgs false

def jumpN (J : Nat → Act → World → Prop) (Q : Exit → Act → World → Prop) : Exit → Act → World → Prop
  | .goto l, a, w => J l a w
  | e, a, w => Q e a w

theorem wp_scope_labels {P : Program} {a : Act} {w : World} {Q : Exit → Act → World → Prop} {c : Code} (J : Nat → Act → World → Prop) (μ : Nat → Act → World → Nat) (hf : ∀ l a w, J l a w → (findLabel c l).isSome = true)
    (first : c.wp P (jumpN J Q) a w)
    (pass : ∀ l a w, J l a w → ((findLabel c l).getD .skip).wp P (jumpN (fun l' a' w' => J l' a' w' ∧ μ l' a' w' < μ l a w) Q) a w) : (Code.scope c).wp P Q a w := by
  intro b k cs
  have hg : ∀ l a w, J l a w → gotoIn l (.inScope c :: k) = some (.code ((findLabel c l).getD .skip) :: .inScope c :: k) := fun l a w h => by
    have := hf l a w h
    cases hq : findLabel c l with
    | none => rw [hq] at this; cases this
    | some R => simp [gotoIn, hq]
  have key : ∀ n l a w, μ l a w = n → J l a w → ∃ e a' w', Q e a' w' ∧ Arrives P (lone (b.at a (.code ((findLabel c l).getD .skip) :: .inScope c :: k)) cs w) b k cs e a' w' := by
    intro n
    induction n using Nat.strongRecOn with
    | _ n ih =>
      intro l a w hn hJ
      obtain ⟨e, a₁, w₁, hq, harr⟩ := pass l a w hJ b (.inScope c :: k) cs
      cases e with
      | normal => exact ⟨.normal, a₁, w₁, hq, Steps.trans harr (.one step_inScope)⟩
      | exit id => exact ⟨.exit id, a₁, w₁, hq, fun k' hk => harr k' (by simp [exitTo, hk])⟩
      | goto l' =>
        obtain ⟨hJ', hlt⟩ := hq
        obtain ⟨e₂, a₂, w₂, hq₂, harr₂⟩ := ih _ (by omega) l' a₁ w₁ rfl hJ'
        exact ⟨e₂, a₂, w₂, hq₂, .of_steps (harr _ (hg l' a₁ w₁ hJ')) harr₂⟩
      | ret => exact ⟨_, a₁, w₁, hq, harr⟩
      | panic ch => exact ⟨_, a₁, w₁, hq, harr⟩
      | outgrown => exact ⟨_, a₁, w₁, hq, harr⟩
  obtain ⟨e, a₁, w₁, hq, harr⟩ := first b (.inScope c :: k) cs
  cases e with
  | normal => exact ⟨.normal, a₁, w₁, hq, .head step_scope (Steps.trans harr (.one step_inScope))⟩
  | exit id => exact ⟨.exit id, a₁, w₁, hq, fun k' hk => .head step_scope (harr k' (by simp [exitTo, hk]))⟩
  | goto l' =>
    have hJ' : J l' a₁ w₁ := hq
    obtain ⟨e₂, a₂, w₂, hq₂, harr₂⟩ := key _ l' a₁ w₁ rfl hJ'
    exact ⟨e₂, a₂, w₂, hq₂, .of_steps (.head step_scope (harr _ (hg l' a₁ w₁ hJ'))) harr₂⟩
  | ret => exact ⟨_, a₁, w₁, hq, .of_steps (.one step_scope) harr⟩
  | panic ch => exact ⟨_, a₁, w₁, hq, .of_steps (.one step_scope) harr⟩
  | outgrown => exact ⟨_, a₁, w₁, hq, .of_steps (.one step_scope) harr⟩

/-! what lies in memory while a node is read -/
structure RSt (w0 : World) (nb : Nat) (w : World) (kv vv dv : Value) (n : Nd) (r : Rr) : Prop where
  rdr : RdrX w0 (w0.heap.size + 1) w r
  res : w.heap[w0.heap.size]? = some (.cells #[.bool false, nil9, nil9, nil9] 83 (0, 0))
  box : w.heap[nb]? = some (.cells #[.bool n.leaf, kv, vv, dv] 83 (0, 0))
  own : OwnN (nb + 1) w kv vv dv n
  hnb : w0.heap.size + 1 < nb
  d1 : ∀ k, kv.ownBlock = some k → vv.ownBlock ≠ some k
  d2 : ∀ k, kv.ownBlock = some k → dv.ownBlock ≠ some k
  d3 : ∀ k, vv.ownBlock = some k → dv.ownBlock ≠ some k
/-- the three rows of a node lie in blocks of their own -/
def Dj (kv vv dv : Value) : Prop := (∀ k, kv.ownBlock = some k → vv.ownBlock ≠ some k) ∧ (∀ k, kv.ownBlock = some k → dv.ownBlock ≠ some k) ∧ ∀ k, vv.ownBlock = some k → dv.ownBlock ≠ some k
theorem Dj.nil : Dj nil9 nil9 nil9 := ⟨(fun k h => by cases h), (fun k h => by cases h), (fun k h => by cases h)⟩
theorem RSt.below {w0 : World} {nb : Nat} {w : World} {kv vv dv : Value} {n : Nd} {r : Rr} (h : RSt w0 nb w kv vv dv n r) {U : World} (b : Below w.heap.size w U) : RSt w0 nb U kv vv dv n r :=
  ⟨h.rdr.to b, (b.block _ (lt_of_block h.res)).trans h.res, (b.block _ (lt_of_block h.box)).trans h.box, h.own.to b, h.hnb, h.d1, h.d2, h.d3⟩
theorem RSt.call {w0 : World} {nb : Nat} {w : World} {kv vv dv : Value} {n : Nd} {r r' : Rr} (h : RSt w0 nb w kv vv dv n r) {U : World} (k : KpG (w0.heap.size + 1) w U) (hr : RdrX w0 (w0.heap.size + 1) U r') : RSt w0 nb U kv vv dv n r' :=
  ⟨hr, (k.1 _ (lt_of_block h.res) (by omega)).trans h.res, (k.1 _ (lt_of_block h.box) (by have := h.hnb; omega)).trans h.box, ⟨k.row h.own.keys (by have := h.hnb; omega), k.row h.own.vals (by have := h.hnb; omega), k.row h.own.kids (by have := h.hnb; omega)⟩, h.hnb, h.d1, h.d2, h.d3⟩
theorem rdr_kept {w0 : World} {g : Nat} {w w' : World} {r : Rr} {own : Option Nat} (h : RdrX w0 g w r) (k : w.grownBy w' own) (hg : ∀ b, own = some b → g < b) : RdrX w0 g w' r := by
  obtain ⟨a, c, h⟩ := h
  have hl := lt_of_block h.box
  have hs := h.bel.size
  exact ⟨a, c, (k.block g hl (fun e => by have := hg g e.symm; omega)).trans h.box, h.rd, h.bel.grown k hs (fun b e => by have := hg b e; have := h.hg; omega), h.hg⟩
theorem rdr_set {w0 : World} {g : Nat} {w : World} {r : Rr} (h : RdrX w0 g w r) {nb : Nat} (hn : g < nb) (i : Nat) (v : Value) : RdrX w0 g (w.setCell ⟨nb, i, none⟩ v) r := by
  obtain ⟨a, c, h⟩ := h
  exact ⟨a, c, (Below.heap_setCell _ _ _ _ (by show g ≠ nb; omega)).trans h.box, h.rd, h.bel.setCell (p := ⟨nb, i, none⟩) (by have := h.hg; show w0.heap.size ≤ nb; omega) v, h.hg⟩
theorem RSt.keys {w0 : World} {nb : Nat} {w : World} {kv vv dv : Value} {n : Nd} {r : Rr} (h : RSt w0 nb w kv vv dv n r) {x : Str} {w' : World} {v' : Value} {g' m' c' : Nat} (hv : v' = .slice (some ⟨g', 0, none⟩) m' c') (o : OwnT (nb + 1) w' v' (n.keys ++ [x])) (k : w.grownBy w' kv.ownBlock) (hg : kv.ownBlock = some g' ∨ g' = w.heap.size) :
    RSt w0 nb (w'.setCell ⟨nb, 1, none⟩ v') v' vv dv ⟨n.leaf, n.keys ++ [x], n.vals, n.kids⟩ r := by
  have hn := h.hnb
  have fr := row_from h.own.keys
  have nbl := lt_of_block h.box
  have rsl := lt_of_block h.res
  subst hv
  exact ⟨rdr_set (rdr_kept h.rdr k fun b e => by have := (fr b e).1; omega) (by omega) 1 _,
    (Below.heap_setCell _ _ _ _ (by show w0.heap.size ≠ nb; omega)).trans ((k.block _ rsl (fun e => by have := (fr _ e.symm).1; omega)).trans h.res),
    (heap_set4i ((k.block _ nbl (fun e => by have := (fr _ e.symm).1; omega)).trans h.box) _).1,
    ⟨rows_set o (show nb < nb + 1 by omega) 1 _, rows_set (row_kept k h.own.vals h.d1) (show nb < nb + 1 by omega) 1 _, rows_set (row_kept k h.own.kids h.d2) (show nb < nb + 1 by omega) 1 _⟩, hn, blk_ne hg h.d1 (fun k e => (row_from h.own.vals k e).2), blk_ne hg h.d2 (fun k e => (row_from h.own.kids k e).2), h.d3⟩
theorem RSt.vals {w0 : World} {nb : Nat} {w : World} {kv vv dv : Value} {n : Nd} {r : Rr} (h : RSt w0 nb w kv vv dv n r) {x : Str} {w' : World} {v' : Value} {g' m' c' : Nat} (hv : v' = .slice (some ⟨g', 0, none⟩) m' c') (o : OwnT (nb + 1) w' v' (n.vals ++ [x])) (k : w.grownBy w' vv.ownBlock) (hg : vv.ownBlock = some g' ∨ g' = w.heap.size) :
    RSt w0 nb (w'.setCell ⟨nb, 2, none⟩ v') kv v' dv ⟨n.leaf, n.keys, n.vals ++ [x], n.kids⟩ r := by
  have hn := h.hnb
  have fr := row_from h.own.vals
  have nbl := lt_of_block h.box
  have rsl := lt_of_block h.res
  subst hv
  exact ⟨rdr_set (rdr_kept h.rdr k fun b e => by have := (fr b e).1; omega) (by omega) 2 _,
    (Below.heap_setCell _ _ _ _ (by show w0.heap.size ≠ nb; omega)).trans ((k.block _ rsl (fun e => by have := (fr _ e.symm).1; omega)).trans h.res),
    (heap_set4i ((k.block _ nbl (fun e => by have := (fr _ e.symm).1; omega)).trans h.box) _).2.1,
    ⟨rows_set (row_kept k h.own.keys (fun k e e' => h.d1 k e' e)) (show nb < nb + 1 by omega) 2 _, rows_set o (show nb < nb + 1 by omega) 2 _, rows_set (row_kept k h.own.kids h.d3) (show nb < nb + 1 by omega) 2 _⟩, hn, (fun k e e' => blk_ne hg (fun k e e' => h.d1 k e' e) (fun k e => (row_from h.own.keys k e).2) k e' e), h.d2, blk_ne hg h.d3 (fun k e => (row_from h.own.kids k e).2)⟩
theorem RSt.kids {w0 : World} {nb : Nat} {w : World} {kv vv dv : Value} {n : Nd} {r : Rr} (h : RSt w0 nb w kv vv dv n r) {x : Int} {w' : World} {v' : Value} {g' m' c' : Nat} (hv : v' = .slice (some ⟨g', 0, none⟩) m' c') (o : OwnJ (nb + 1) w' v' (n.kids ++ [x])) (k : w.grownBy w' dv.ownBlock) (hg : dv.ownBlock = some g' ∨ g' = w.heap.size) :
    RSt w0 nb (w'.setCell ⟨nb, 3, none⟩ v') kv vv v' ⟨n.leaf, n.keys, n.vals, n.kids ++ [x]⟩ r := by
  have hn := h.hnb
  have fr := row_from h.own.kids
  have nbl := lt_of_block h.box
  have rsl := lt_of_block h.res
  subst hv
  exact ⟨rdr_set (rdr_kept h.rdr k fun b e => by have := (fr b e).1; omega) (by omega) 3 _,
    (Below.heap_setCell _ _ _ _ (by show w0.heap.size ≠ nb; omega)).trans ((k.block _ rsl (fun e => by have := (fr _ e.symm).1; omega)).trans h.res),
    (heap_set4i ((k.block _ nbl (fun e => by have := (fr _ e.symm).1; omega)).trans h.box) _).2.2,
    ⟨rows_set (row_kept k h.own.keys (fun k e e' => h.d2 k e' e)) (show nb < nb + 1 by omega) 3 _, rows_set (row_kept k h.own.vals (fun k e e' => h.d3 k e' e)) (show nb < nb + 1 by omega) 3 _, rows_set o (show nb < nb + 1 by omega) 3 _⟩, hn, h.d1, (fun k e e' => blk_ne hg (fun k e e' => h.d2 k e' e) (fun k e => (row_from h.own.keys k e).2) k e' e), (fun k e e' => blk_ne hg (fun k e e' => h.d3 k e' e) (fun k e => (row_from h.own.vals k e).2) k e' e)⟩

end Go.Proofs.Ytgmkknonnidgaaa
