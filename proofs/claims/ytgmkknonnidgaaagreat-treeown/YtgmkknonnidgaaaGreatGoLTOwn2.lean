/- Several texts in one: NPF TPrO TWkB NPG NPH NFindR NPI RFan. -/
import Derived.WalkMore
import Derived.ScopeJumps
import Derived.Deep.AppendLies
import Derived.Test.YtgmkknonnidgaaaGreatGoLTOwn1
import Derived.Deep.QuietTactic
import Derived.BigQuiet
import Derived.Laws.Cover1
set_option linter.unusedVariables false
set_option linter.unusedSimpArgs false
namespace Go.Proofs.YtgmkknonnidgaaaGreat
open Go.RowKit
def jumpN (J : Nat → Act → World → Prop) (Q : Exit → Act → World → Prop) : Exit → Act → World → Prop
 | .goto l, a, w => J l a w
 | e, a, w => Q e a w
theorem wp_scope_labels {P : Program} {a : Act} {w : World} {Q : Exit → Act → World → Prop} {c : Code} (J : Nat → Act → World → Prop) (μ : Nat → Act → World → Nat) (hf : ∀ l a w, J l a w → (findLabel c l).isSome = true)
  (first : c.wp P (jumpN J Q) a w)
  (pass : ∀ l a w, J l a w → ((findLabel c l).getD .skip).wp P (jumpN (fun l' a' w' => J l' a' w' ∧ μ l' a' w' < μ l a w) Q) a w) : (Code.scope c).wp P Q a w := by
 intro b k cs
 have hg : ∀ l a w, J l a w → gotoIn l (.inScope c :: k) = some (.code ((findLabel c l).getD .skip) :: .inScope c :: k) := fun l a w h => by
  have := hf l a w h
  cases hq : findLabel c l with
  | none => rw [hq] at this; cases this
  | some R => simp [gotoIn, hq]
 have key : ∀ n l a w, μ l a w = n → J l a w → ∃ e a' w', Q e a' w' ∧ Arrives P (lone (b.at a (.code ((findLabel c l).getD .skip) :: .inScope c :: k)) cs w) b k cs e a' w' := by
  intro n
  induction n using Nat.strongRecOn with
  | _ n ih =>
   intro l a w hn hJ
   obtain ⟨e, a₁, w₁, hq, harr⟩ := pass l a w hJ b (.inScope c :: k) cs
   cases e with
   | normal => exact ⟨.normal, a₁, w₁, hq, Steps.trans harr (.one step_inScope)⟩
   | exit id => exact ⟨.exit id, a₁, w₁, hq, fun k' hk => harr k' (by simp [exitTo, hk])⟩
   | goto l' =>
    obtain ⟨hJ', hlt⟩ := hq
    obtain ⟨e₂, a₂, w₂, hq₂, harr₂⟩ := ih _ (by omega) l' a₁ w₁ rfl hJ'
    exact ⟨e₂, a₂, w₂, hq₂, .of_steps (harr _ (hg l' a₁ w₁ hJ')) harr₂⟩
   | ret => exact ⟨_, a₁, w₁, hq, harr⟩
   | panic ch => exact ⟨_, a₁, w₁, hq, harr⟩
   | outgrown => exact ⟨_, a₁, w₁, hq, harr⟩
 obtain ⟨e, a₁, w₁, hq, harr⟩ := first b (.inScope c :: k) cs
 cases e with
 | normal => exact ⟨.normal, a₁, w₁, hq, .head step_scope (Steps.trans harr (.one step_inScope))⟩
 | exit id => exact ⟨.exit id, a₁, w₁, hq, fun k' hk => .head step_scope (harr k' (by simp [exitTo, hk]))⟩
 | goto l' =>
  have hJ' : J l' a₁ w₁ := hq
  obtain ⟨e₂, a₂, w₂, hq₂, harr₂⟩ := key _ l' a₁ w₁ rfl hJ'
  exact ⟨e₂, a₂, w₂, hq₂, .of_steps (.head step_scope (harr _ (hg l' a₁ w₁ hJ'))) harr₂⟩
 | ret => exact ⟨_, a₁, w₁, hq, .of_steps (.one step_scope) harr⟩
 | panic ch => exact ⟨_, a₁, w₁, hq, .of_steps (.one step_scope) harr⟩
 | outgrown => exact ⟨_, a₁, w₁, hq, .of_steps (.one step_scope) harr⟩
structure RSt (w0 : World) (nb : Nat) (w : World) (kv vv dv : Value) (n : Nd) (r : Rr) : Prop where
 rdr : RdrX w0 (w0.heap.size + 1) w r
 res : w.heap[w0.heap.size]? = some (.cells #[.bool false, nil9, nil9, nil9] 76 (0, 0))
 box : w.heap[nb]? = some (.cells #[.bool n.leaf, kv, vv, dv] 76 (0, 0))
 own : OwnN (nb + 1) w kv vv dv n
 hnb : w0.heap.size + 1 < nb
 d1 : ∀ k, kv.ownBlock = some k → vv.ownBlock ≠ some k
 d2 : ∀ k, kv.ownBlock = some k → dv.ownBlock ≠ some k
 d3 : ∀ k, vv.ownBlock = some k → dv.ownBlock ≠ some k
def Dj (kv vv dv : Value) : Prop := (∀ k, kv.ownBlock = some k → vv.ownBlock ≠ some k) ∧ (∀ k, kv.ownBlock = some k → dv.ownBlock ≠ some k) ∧ ∀ k, vv.ownBlock = some k → dv.ownBlock ≠ some k
theorem Dj.nil : Dj nil9 nil9 nil9 := ⟨(fun k h => by cases h), (fun k h => by cases h), (fun k h => by cases h)⟩
theorem RSt.below {w0 : World} {nb : Nat} {w : World} {kv vv dv : Value} {n : Nd} {r : Rr} (h : RSt w0 nb w kv vv dv n r) {U : World} (b : Below w.heap.size w U) : RSt w0 nb U kv vv dv n r :=
 ⟨h.rdr.to b, (b.block _ (lt_of_block h.res)).trans h.res, (b.block _ (lt_of_block h.box)).trans h.box, h.own.to b, h.hnb, h.d1, h.d2, h.d3⟩
theorem RSt.call {w0 : World} {nb : Nat} {w : World} {kv vv dv : Value} {n : Nd} {r r' : Rr} (h : RSt w0 nb w kv vv dv n r) {U : World} (k : KpG (w0.heap.size + 1) w U) (hr : RdrX w0 (w0.heap.size + 1) U r') : RSt w0 nb U kv vv dv n r' :=
 ⟨hr, (k.1 _ (lt_of_block h.res) (by omega)).trans h.res, (k.1 _ (lt_of_block h.box) (by have := h.hnb; omega)).trans h.box, ⟨k.row h.own.keys (by have := h.hnb; omega), k.row h.own.vals (by have := h.hnb; omega), k.row h.own.kids (by have := h.hnb; omega)⟩, h.hnb, h.d1, h.d2, h.d3⟩
theorem rdr_kept {w0 : World} {g : Nat} {w w' : World} {r : Rr} {own : Option Nat} (h : RdrX w0 g w r) (k : w.grownBy w' own) (hg : ∀ b, own = some b → g < b) : RdrX w0 g w' r := by
 obtain ⟨a, c, h⟩ := h
 have hl := lt_of_block h.box
 have hs := h.bel.size
 exact ⟨a, c, (k.block g hl (fun e => by have := hg g e.symm; omega)).trans h.box, h.rd, h.bel.grown k hs (fun b e => by have := hg b e; have := h.hg; omega), h.hg⟩
theorem rdr_set {w0 : World} {g : Nat} {w : World} {r : Rr} (h : RdrX w0 g w r) {nb : Nat} (hn : g < nb) (i : Nat) (v : Value) : RdrX w0 g (w.setCell ⟨nb, i, none⟩ v) r := by
 obtain ⟨a, c, h⟩ := h
 exact ⟨a, c, (Below.heap_setCell _ _ _ _ (by show g ≠ nb; omega)).trans h.box, h.rd, h.bel.setCell (p := ⟨nb, i, none⟩) (by have := h.hg; show w0.heap.size ≤ nb; omega) v, h.hg⟩
theorem RSt.keys {w0 : World} {nb : Nat} {w : World} {kv vv dv : Value} {n : Nd} {r : Rr} (h : RSt w0 nb w kv vv dv n r) {x : Str} {w' : World} {v' : Value} {g' m' c' : Nat} (hv : v' = .slice (some ⟨g', 0, none⟩) m' c') (o : OwnT (nb + 1) w' v' (n.keys ++ [x])) (k : w.grownBy w' kv.ownBlock) (hg : kv.ownBlock = some g' ∨ g' = w.heap.size) :
  RSt w0 nb (w'.setCell ⟨nb, 1, none⟩ v') v' vv dv ⟨n.leaf, n.keys ++ [x], n.vals, n.kids⟩ r := by
 have hn := h.hnb
 have fr := row_from h.own.keys
 have nbl := lt_of_block h.box
 have rsl := lt_of_block h.res
 subst hv
 exact ⟨rdr_set (rdr_kept h.rdr k fun b e => by have := (fr b e).1; omega) (by omega) 1 _,
  (Below.heap_setCell _ _ _ _ (by show w0.heap.size ≠ nb; omega)).trans ((k.block _ rsl (fun e => by have := (fr _ e.symm).1; omega)).trans h.res),
  (heap_set4i ((k.block _ nbl (fun e => by have := (fr _ e.symm).1; omega)).trans h.box) _).1,
  ⟨rows_set o (show nb < nb + 1 by omega) 1 _, rows_set (row_kept k h.own.vals h.d1) (show nb < nb + 1 by omega) 1 _, rows_set (row_kept k h.own.kids h.d2) (show nb < nb + 1 by omega) 1 _⟩, hn, blk_ne hg h.d1 (fun k e => (row_from h.own.vals k e).2), blk_ne hg h.d2 (fun k e => (row_from h.own.kids k e).2), h.d3⟩
theorem RSt.vals {w0 : World} {nb : Nat} {w : World} {kv vv dv : Value} {n : Nd} {r : Rr} (h : RSt w0 nb w kv vv dv n r) {x : Str} {w' : World} {v' : Value} {g' m' c' : Nat} (hv : v' = .slice (some ⟨g', 0, none⟩) m' c') (o : OwnT (nb + 1) w' v' (n.vals ++ [x])) (k : w.grownBy w' vv.ownBlock) (hg : vv.ownBlock = some g' ∨ g' = w.heap.size) :
  RSt w0 nb (w'.setCell ⟨nb, 2, none⟩ v') kv v' dv ⟨n.leaf, n.keys, n.vals ++ [x], n.kids⟩ r := by
 have hn := h.hnb
 have fr := row_from h.own.vals
 have nbl := lt_of_block h.box
 have rsl := lt_of_block h.res
 subst hv
 exact ⟨rdr_set (rdr_kept h.rdr k fun b e => by have := (fr b e).1; omega) (by omega) 2 _,
  (Below.heap_setCell _ _ _ _ (by show w0.heap.size ≠ nb; omega)).trans ((k.block _ rsl (fun e => by have := (fr _ e.symm).1; omega)).trans h.res),
  (heap_set4i ((k.block _ nbl (fun e => by have := (fr _ e.symm).1; omega)).trans h.box) _).2.1,
  ⟨rows_set (row_kept k h.own.keys (fun k e e' => h.d1 k e' e)) (show nb < nb + 1 by omega) 2 _, rows_set o (show nb < nb + 1 by omega) 2 _, rows_set (row_kept k h.own.kids h.d3) (show nb < nb + 1 by omega) 2 _⟩, hn, (fun k e e' => blk_ne hg (fun k e e' => h.d1 k e' e) (fun k e => (row_from h.own.keys k e).2) k e' e), h.d2, blk_ne hg h.d3 (fun k e => (row_from h.own.kids k e).2)⟩
theorem RSt.kids {w0 : World} {nb : Nat} {w : World} {kv vv dv : Value} {n : Nd} {r : Rr} (h : RSt w0 nb w kv vv dv n r) {x : Int} {w' : World} {v' : Value} {g' m' c' : Nat} (hv : v' = .slice (some ⟨g', 0, none⟩) m' c') (o : OwnJ (nb + 1) w' v' (n.kids ++ [x])) (k : w.grownBy w' dv.ownBlock) (hg : dv.ownBlock = some g' ∨ g' = w.heap.size) :
  RSt w0 nb (w'.setCell ⟨nb, 3, none⟩ v') kv vv v' ⟨n.leaf, n.keys, n.vals, n.kids ++ [x]⟩ r := by
 have hn := h.hnb
 have fr := row_from h.own.kids
 have nbl := lt_of_block h.box
 have rsl := lt_of_block h.res
 subst hv
 exact ⟨rdr_set (rdr_kept h.rdr k fun b e => by have := (fr b e).1; omega) (by omega) 3 _,
  (Below.heap_setCell _ _ _ _ (by show w0.heap.size ≠ nb; omega)).trans ((k.block _ rsl (fun e => by have := (fr _ e.symm).1; omega)).trans h.res),
  (heap_set4i ((k.block _ nbl (fun e => by have := (fr _ e.symm).1; omega)).trans h.box) _).2.2,
  ⟨rows_set (row_kept k h.own.keys (fun k e e' => h.d2 k e' e)) (show nb < nb + 1 by omega) 3 _, rows_set (row_kept k h.own.vals (fun k e e' => h.d3 k e' e)) (show nb < nb + 1 by omega) 3 _, rows_set o (show nb < nb + 1 by omega) 3 _⟩, hn, h.d1, (fun k e e' => blk_ne hg (fun k e e' => h.d2 k e' e) (fun k e => (row_from h.own.keys k e).2) k e' e), (fun k e e' => blk_ne hg (fun k e e' => h.d3 k e' e) (fun k e => (row_from h.own.vals k e).2) k e' e)⟩
end Go.Proofs.YtgmkknonnidgaaaGreat

namespace Go.Proofs.YtgmkknonnidgaaaGreat
open Go.RowKit
def pcl (l : List Pr) : List Value := l.flatMap fun y => [st y.1, st y.2]
theorem pcl_app (l m : List Pr) : pcl (l ++ m) = pcl l ++ pcl m := by unfold pcl; rw [List.flatMap_append]
abbrev OwnP (B : Nat) (w : World) (v : Value) (l : List Pr) : Prop := w.ownsRow B 62 2 v l.length (pcl l)
theorem OwnP.own {B : Nat} {w : World} {v : Value} {l : List Pr} (h : OwnP B w v l) : Own (Shp.list 62 SPr) B w [v] l := by
 have each : ∀ l : List Pr, ownEach SPr w [] (pcl l) l := by
  intro l
  induction l with
  | nil => exact ⟨rfl, rfl⟩
  | cons x r ih => exact ⟨[], [], [st x.1, st x.2], pcl r, rfl, rfl, ⟨[st x.1], [st x.2], [], [], rfl, rfl, ⟨rfl, rfl⟩, ⟨rfl, rfl⟩⟩, ih⟩
 refine ⟨v.ownBlock.toList, ⟨v, _, [], rfl, ?_, each l, by simp⟩, ?_, fun b hb => (World.ownsRow.lt h b (by simpa using hb)).1⟩
 ·exact rows_base h fun _ _ => Nat.zero_le _
 ·cases v.ownBlock <;> simp
theorem OwnP.rd {B : Nat} {w : World} {v : Value} {l : List Pr} (h : OwnP B w v l) : RdP w v l := h.own.rdS
theorem infoP : (Tryz.prog.info? 62).map (fun i => (i.zero, i.size, i.bytes)) = some (some (.agg #[.string ⟨#[]⟩, .string ⟨#[]⟩]), 2, 32) := by kernel_rfl
theorem one_pcl (l : List Pr) : ∀ u ∈ pcl l, u.oneCell' = true := by
 intro u hu
 obtain ⟨y, _, hy⟩ := List.mem_flatMap.1 hu
 simp at hy
 rcases hy with rfl | rfl <;> rfl
theorem wpList_appP {ops : Array Oper} {rest : List Oper} {o : Oper} {a : Act} {w : World} {Q : Exit → Act → World → Prop} (hgd : o.guard = none) (s x : Operand)
  (ho : o.op = .call { callee := .builtin .append, args := #[s, x], argTypes := #[28, 28] }) (B : Nat) (v : Value) (xs : List Pr) (y : Pr) (g : Nat) (hs : a.eval s = v) (hx : a.eval x = .slice (some ⟨g, 0, none⟩) 1 1)
  (hown : OwnP B w v xs) (hc1 : w.cell? ⟨g, 0, none⟩ = some (st y.1)) (hc2 : w.cell? ⟨g, 1, none⟩ = some (st y.2)) (hlen : (xs.length + 1) * 32 ≤ 140737488355328) (hB : B ≤ w.heap.size)
  (h : ∀ v' w', OwnP B w' v' (xs ++ [y]) → Below B w w' → (∀ e, e ≠ 62 → KeepT e w w') → wpList Tryz.prog ops Q rest (a.put o.dst v') w') : wpList Tryz.prog ops Q (o :: rest) a w := by
 obtain ⟨i0, hi, hz0, hz1, hz2⟩ := info_parts infoP
 have n2 : ∀ j u, (pcl [y])[j]? = some u → w.cell? ((⟨g, 0, none⟩ : Addr).add j) = some u := by
  intro j u hj
  match j, hj with
  | 0, hj => simp [pcl] at hj; subst hj; simpa [Addr.add] using hc1
  | 1, hj => simp [pcl] at hj; subst hj; simpa [Addr.add] using hc2
  | j + 2, hj => simp [pcl] at hj
 refine wpList_append_own _ hgd s x 28 ho B 62 i0 (.agg #[.string ⟨#[]⟩, .string ⟨#[]⟩]) 2 32 Tryz.underlying28 hi hz0 hz1 hz2 rfl (by decide) v xs.length (pcl xs) hs hown ⟨g, 0, none⟩ 1 1 (pcl [y]) hx rfl n2 (one_pcl [y])
  (by rw [show maxLen = 9223372036854775807 from rfl]; omega) hlen hB ?_
 intro v' w' h1 h2 _
 refine h v' w' ?_ ((Below.refl _ _).grown h2 hB (fun k hk => (World.ownsRow.lt hown k hk).1)) (fun e he => KeepT.grown hown h2 he)
 show World.ownsRow _ _ _ _ _ _ _
 rw [pcl_app]
 simpa using h1
theorem step_appP {ops : Array Oper} {o : Oper} {a : Act} {w : World} {K : Act → World → Prop} {Q : Exit → Act → World → Prop} {E : Prop} (hgd : o.guard = none) (s x : Operand)
  (ho : o.op = .call { callee := .builtin .append, args := #[s, x], argTypes := #[28, 28] }) (B : Nat) (v : Value) (xs : List Pr) (y : Pr) (g : Nat) (hs : a.eval s = v) (hx : a.eval x = .slice (some ⟨g, 0, none⟩) 1 1)
  (hown : OwnP B w v xs) (hc1 : w.cell? ⟨g, 0, none⟩ = some (st y.1)) (hc2 : w.cell? ⟨g, 1, none⟩ = some (st y.2)) (hlen : (xs.length + 1) * 32 ≤ 140737488355328) (hB : B ≤ w.heap.size)
  (h : ∀ v' w', OwnP B w' v' (xs ++ [y]) → Below B w w' → (∀ e, e ≠ 62 → KeepT e w w') → K (a.put o.dst v') w') : if Region.wanted o (yielded ops a.tmps) = true then Oper.wp Tryz.prog o a w K Q else E := by
 rw [if_pos (by simp [Region.wanted, hgd])]
 obtain ⟨i0, hi, hz0, hz1, hz2⟩ := info_parts infoP
 have n2 : ∀ j u, (pcl [y])[j]? = some u → w.cell? ((⟨g, 0, none⟩ : Addr).add j) = some u := by
  intro j u hj
  match j, hj with
  | 0, hj => simp [pcl] at hj; subst hj; simpa [Addr.add] using hc1
  | 1, hj => simp [pcl] at hj; subst hj; simpa [Addr.add] using hc2
  | j + 2, hj => simp [pcl] at hj
 refine wp_append_own _ s x 28 ho B 62 i0 (.agg #[.string ⟨#[]⟩, .string ⟨#[]⟩]) 2 32 Tryz.underlying28 hi hz0 hz1 hz2 rfl (by decide) v xs.length (pcl xs) hs hown ⟨g, 0, none⟩ 1 1 (pcl [y]) hx rfl n2 (one_pcl [y])
  (by rw [show maxLen = 9223372036854775807 from rfl]; omega) hlen hB ?_
 intro v' w' h1 h2 _
 refine h v' w' ?_ ((Below.refl _ _).grown h2 hB (fun k hk => (World.ownsRow.lt hown k hk).1)) (fun e he => KeepT.grown hown h2 he)
 show World.ownsRow _ _ _ _ _ _ _
 rw [pcl_app]
 simpa using h1
end Go.Proofs.YtgmkknonnidgaaaGreat

namespace Go.Proofs.YtgmkknonnidgaaaGreat
open Go.RowKit
def useen (n : Nat) (s : List Int) : List Bool := (List.range n).map fun (i : Nat) => decide ((i : Int) ∈ s)
theorem useen_len (n : Nat) (s : List Int) : (useen n s).length = n := by simp [useen]
theorem useen_at (n : Nat) (s : List Int) {i : Nat} (h : i < n) : (useen n s)[i]? = some (decide ((i : Int) ∈ s)) := by simp [useen, h]
theorem useen_set (n : Nat) (s : List Int) (i : Nat) : (useen n s).set i true = useen n ((i : Int) :: s) := by
 apply List.ext_getElem?
 intro j
 rw [List.getElem?_set]
 by_cases hj : j < n
 ·rw [useen_at n _ hj, useen_at n _ hj, useen_len]
  by_cases e : i = j
  ·subst e; simp [hj]
  ·rw [if_neg e]
   have : (j : Int) ≠ (i : Int) := by omega
   simp [this]
 ·have h1 : (useen n s)[j]? = none := List.getElem?_eq_none (by rw [useen_len]; omega)
  have h2 : (useen n ((i : Int) :: s))[j]? = none := List.getElem?_eq_none (by rw [useen_len]; omega)
  rw [h1, h2, useen_len]
  split
  ·rw [if_neg (by omega)]
  ·rfl
theorem useen_nil (n : Nat) : useen n [] = List.replicate n false := by
 apply List.ext_getElem?
 intro j
 by_cases hj : j < n
 ·rw [useen_at n _ hj]; simp [List.getElem?_replicate, hj]
 ·rw [List.getElem?_eq_none (by rw [useen_len]; omega), List.getElem?_eq_none (by simp; omega)]
def sdep (s : Sw) : Int := match s.dep with | none => 0 | some f => 16 - (f : Int)
abbrev SeenW (bs n : Nat) (s : List Int) (w : World) : Prop := w.ownsRow bs 4 1 (.slice (some ⟨bs, 0, none⟩) n n) n ((useen n s).map Value.bool)
abbrev wcl (t : Tr) (pv : Value) (bs n : Nat) (s : Sw) (bad : Bool) (prv : Value) : Array Value :=
 #[.int .i64 t.root, .int .i64 t.next, pv, .slice (some ⟨bs, 0, none⟩) n n, .bool bad, .int .i64 (sdep s), .bool s.dep.isSome, prv]
def SwOk (next : Int) (s : Sw) : Prop := s.seen.Nodup ∧ (∀ i ∈ s.seen, 1 ≤ i ∧ i < next) ∧ s.prs.length ≤ 300 * s.seen.length
theorem nodup_len : ∀ (n : Nat) (l : List Int), l.Nodup → (∀ i ∈ l, 1 ≤ i ∧ i < (n : Int) + 1) → l.length ≤ n
 | 0, l, _, h => by
  cases l with
  | nil => exact Nat.le_refl _
  | cons a r => have := h a (by simp); omega
 | n + 1, l, hn, h => by
  have h1 := nodup_len n (l.erase ((n : Int) + 1)) (hn.erase _) (fun i hi => by
   have h2 := h i (List.mem_of_mem_erase hi)
   have h3 : i ≠ (n : Int) + 1 := fun e => by
    subst e
    exact (List.Nodup.not_mem_erase hn) hi
   omega)
  have h4 := List.length_erase (a := (n : Int) + 1) (l := l)
  rw [h4] at h1
  split at h1 <;> omega
theorem SwOk.len {next : Int} {s : Sw} (h : SwOk next s) (hn : next ≤ 65536) : s.prs.length ≤ 300 * 65536 := by
 have h1 := nodup_len 65536 s.seen h.1 (fun i hi => by have := h.2.1 i hi; omega)
 have h2 := h.2.2
 omega
theorem SwOk.see {next : Int} {s : Sw} (h : SwOk next s) {i : Int} (hi : 1 ≤ i ∧ i < next) (hm : i ∉ s.seen) (d : Option Nat) {l : List Pr} (hl : l.length ≤ 300) : SwOk next ⟨i :: s.seen, d, s.prs ++ l⟩ := by
 refine ⟨List.nodup_cons.2 ⟨hm, h.1⟩, fun j hj => ?_, ?_⟩
 ·rcases List.mem_cons.1 hj with rfl | hj
  ·exact hi
  ·exact h.2.1 j hj
 ·have := h.2.2
  simp only [List.length_append, List.length_cons]
  omega
theorem npr_len {n : Nd} (h : NOk n) : (npr n).length ≤ 300 ∧ n.keys.length ≤ 300 := by
 have h1 := h.2.2.2.2
 have h2 := nsz_ge n n.keys.length
 unfold nsize at h1
 have h3 : (npr n).length ≤ n.keys.length := by unfold npr; rw [List.length_zip]; exact Nat.min_le_left _ _
 have h4 : 0 ≤ (if n.leaf = true then (0 : Int) else 4 * (n.kids.length : Int)) := by split <;> omega
 omega
def KeepW (w w' : World) : Prop := ∀ e, e ≠ 102 → e ≠ 4 → e ≠ 62 → KeepT e w w'
theorem KeepW.refl (w : World) : KeepW w w := fun e _ _ _ => KeepT.refl _ _
theorem KeepW.trans {a b c : World} (h : KeepW a b) (k : KeepW b c) : KeepW a c := fun e h1 h2 h3 => (h e h1 h2 h3).trans (k e h1 h2 h3)
theorem KeepW.below {w w' : World} (h : Below w.heap.size w w') : KeepW w w' := fun e _ _ _ => KeepT.below h
structure RWk (w0 w : World) (g bs n : Nat) (t : Tr) (pv prv : Value) (s : Sw) (bad : Bool) : Prop where
 box : w.heap[g]? = some (.cells (wcl t pv bs n s bad prv) 102 (0, 0))
 seen : SeenW bs n s.seen w
 prs : OwnP w0.heap.size w prv s.prs
 pg : RdC w0 pv t.pages
 ok : SwOk t.next s
 bel : Below w0.heap.size w0 w
 hg : w0.heap.size ≤ g
 hs : w0.heap.size ≤ bs
theorem RWk.to {w0 w w' : World} {g bs n : Nat} {t : Tr} {pv prv : Value} {s : Sw} {bad : Bool} (h : RWk w0 w g bs n t pv prv s bad) (hb : Below w.heap.size w w') : RWk w0 w' g bs n t pv prv s bad :=
 ⟨(hb.block _ (lt_of_block h.box)).trans h.box, rows_to h.seen hb, rows_to h.prs hb, h.pg, h.ok, h.bel.trans (hb.mono h.bel.size), h.hg, h.hs⟩
theorem RWk.rd {w0 w : World} {g bs n : Nat} {t : Tr} {pv prv : Value} {s : Sw} {bad : Bool} (h : RWk w0 w g bs n t pv prv s bad) : RdC w pv t.pages := h.pg.to0 h.bel
theorem KeepW.set {w : World} {g : Nat} {cs : Array Value} (h : w.heap[g]? = some (.cells cs 102 (0, 0))) (i : Nat) (x : Value) : KeepW w (w.setCell ⟨g, i, none⟩ x) := fun e h1 _ _ => KeepT.set (a := ⟨g, i, none⟩) h h1 x
theorem RWk.put {w0 w : World} {g bs n : Nat} {t : Tr} {pv prv : Value} {s : Sw} {bad : Bool} (h : RWk w0 w g bs n t pv prv s bad) (i : Nat) (x : Value) {s' : Sw} {bad' : Bool} {prv' : Value} (hc : (wcl t pv bs n s bad prv).setIfInBounds i x = wcl t pv bs n s' bad' prv')
  (h1 : s'.seen = s.seen) (h2 : OwnP w0.heap.size w prv' s'.prs) (h3 : SwOk t.next s') : RWk w0 (w.setCell ⟨g, i, none⟩ x) g bs n t pv prv' s' bad' ∧ KeepW w (w.setCell ⟨g, i, none⟩ x) := by
 have hk : ∀ e, e ≠ 102 → KeepT e w (w.setCell ⟨g, i, none⟩ x) := fun e he => KeepT.set (a := ⟨g, i, none⟩) h.box he x
 refine ⟨⟨?_, ?_, rows_keepT h2 (hk _ (by decide)), h.pg, h3, h.bel.setCell h.hg _, h.hg, h.hs⟩, KeepW.set h.box i x⟩
 ·rw [← hc]; exact heap_setN h.box i x
 ·rw [h1]; exact rows_keepT h.seen (hk _ (by decide))
theorem RWk.bad {w0 w : World} {g bs n : Nat} {t : Tr} {pv prv : Value} {s : Sw} {bad : Bool} (h : RWk w0 w g bs n t pv prv s bad) : RWk w0 (w.setCell ⟨g, 4, none⟩ (.bool true)) g bs n t pv prv s true ∧ KeepW w (w.setCell ⟨g, 4, none⟩ (.bool true)) :=
 h.put 4 _ (by simp [wcl]) rfl h.prs h.ok
theorem RWk.cell {w0 w : World} {g bs n : Nat} {t : Tr} {pv prv : Value} {s : Sw} {bad : Bool} (h : RWk w0 w g bs n t pv prv s bad) :
  (w.cell? ⟨g, 0, none⟩ = some (.int .i64 t.root) ∧ w.cell? ⟨g, 1, none⟩ = some (.int .i64 t.next) ∧ w.cell? ⟨g, 2, none⟩ = some pv ∧ w.cell? ⟨g, 3, none⟩ = some (.slice (some ⟨bs, 0, none⟩) n n)) ∧
  (w.cell? ⟨g, 4, none⟩ = some (.bool bad) ∧ w.cell? ⟨g, 5, none⟩ = some (.int .i64 (sdep s)) ∧ w.cell? ⟨g, 6, none⟩ = some (.bool s.dep.isSome) ∧ w.cell? ⟨g, 7, none⟩ = some prv) ∧ ∀ i, w.frozen? ⟨g, i, none⟩ = false :=
 ⟨⟨cellN h.box rfl, cellN h.box rfl, cellN h.box rfl, cellN h.box rfl⟩, ⟨cellN h.box rfl, cellN h.box rfl, cellN h.box rfl, cellN h.box rfl⟩, frozN h.box⟩
theorem RWk.deep {w0 w : World} {g bs n : Nat} {t : Tr} {pv prv : Value} {s : Sw} {bad : Bool} (h : RWk w0 w g bs n t pv prv s bad) (f : Nat) :
  RWk w0 ((w.setCell ⟨g, 6, none⟩ (.bool true)).setCell ⟨g, 5, none⟩ (.int .i64 (16 - (f : Int)))) g bs n t pv prv ⟨s.seen, some f, s.prs⟩ bad ∧ KeepW w ((w.setCell ⟨g, 6, none⟩ (.bool true)).setCell ⟨g, 5, none⟩ (.int .i64 (16 - (f : Int)))) := by
 obtain ⟨a1, k1⟩ := h.put 6 (.bool true) (s' := ⟨s.seen, some (s.dep.getD 16), s.prs⟩) (bad' := bad) (prv' := prv) (by cases hd : s.dep <;> simp [wcl, sdep, hd]) rfl h.prs h.ok
 obtain ⟨a2, k2⟩ := a1.put 5 (.int .i64 (16 - (f : Int))) (s' := ⟨s.seen, some f, s.prs⟩) (bad' := bad) (prv' := prv) (by simp [wcl, sdep]) rfl a1.prs h.ok
 exact ⟨a2, k1.trans k2⟩
theorem RWk.app {w0 w wA w5 : World} {g bs n : Nat} {t : Tr} {pv prv v5 : Value} {s : Sw} {bad : Bool} (h : RWk w0 w g bs n t pv prv s bad) {l : List Pr} (bA : Below w.heap.size w wA) (o : OwnP w0.heap.size w5 v5 l) (b5 : Below w0.heap.size wA w5)
  (k5 : ∀ e, e ≠ 62 → KeepT e wA w5) (ok : SwOk t.next ⟨s.seen, s.dep, l⟩) : RWk w0 (w5.setCell ⟨g, 7, none⟩ v5) g bs n t pv v5 ⟨s.seen, s.dep, l⟩ bad ∧ KeepW w (w5.setCell ⟨g, 7, none⟩ v5) := by
 have hA := h.to bA
 have hbox := k5 _ (by decide) _ _ _ hA.box
 have hk : ∀ e, e ≠ 102 → KeepT e w5 (w5.setCell ⟨g, 7, none⟩ v5) := fun e he => KeepT.set (a := ⟨g, 7, none⟩) hbox he v5
 refine ⟨⟨?_, rows_keepT (rows_keepT hA.seen (k5 _ (by decide))) (hk _ (by decide)), rows_keepT o (hk _ (by decide)), h.pg, ok, (hA.bel.trans b5).setCell h.hg _, h.hg, h.hs⟩, ?_⟩
 ·have := heap_setN hbox 7 v5
  simpa [wcl, sdep] using this
 ·exact (KeepW.below bA).trans fun e h1 h2 h3 => (k5 e h3).trans (hk e h1)
theorem RWk.see {w0 w : World} {g bs n : Nat} {t : Tr} {pv prv : Value} {s : Sw} {bad : Bool} (h : RWk w0 w g bs n t pv prv s bad) {i : Nat} (hi : 1 ≤ (i : Int) ∧ (i : Int) < t.next) (hm : (i : Int) ∉ s.seen) :
  RWk w0 (w.setCell ⟨bs, i, none⟩ (.bool true)) g bs n t pv prv ⟨(i : Int) :: s.seen, s.dep, s.prs⟩ bad ∧ KeepW w (w.setCell ⟨bs, i, none⟩ (.bool true)) := by
 have hbs : ∃ cur, w.heap[bs]? = some (.cells cur 4 (0, 0)) := by
  rcases h.seen.2 with ⟨hn, _⟩ | ⟨g', cap, cur, hv, _, hg', _⟩
  ·cases hn
  ·simp only [Value.slice.injEq, Option.some.injEq, Addr.mk.injEq] at hv
   obtain ⟨⟨rfl, _⟩, _⟩ := hv
   exact ⟨cur, hg'⟩
 obtain ⟨cur, hcur⟩ := hbs
 have hk : ∀ e, e ≠ 4 → KeepT e w (w.setCell ⟨bs, i, none⟩ (.bool true)) := fun e he => KeepT.set (a := ⟨bs, i, none⟩) hcur he _
 refine ⟨⟨hk _ (by decide) _ _ _ h.box, ?_, rows_keepT h.prs (hk _ (by decide)), h.pg, by have := h.ok.see hi hm s.dep (l := []) (by simp); simpa using this, h.bel.setCell h.hs _, h.hg, h.hs⟩, fun e _ h2 _ => hk e h2⟩
 have := (World.ownsRow.stored h.seen i (.bool true)).1
 show World.ownsRow _ _ _ _ _ _ _
 rw [← useen_set, List.map_set]
 exact this
theorem RWk.seenAt {w0 w : World} {g bs n : Nat} {t : Tr} {pv prv : Value} {s : Sw} {bad : Bool} (h : RWk w0 w g bs n t pv prv s bad) {i : Nat} (hi : i < n) : w.cell? ⟨bs, i, none⟩ = some (.bool (decide ((i : Int) ∈ s.seen))) ∧ w.frozen? ⟨bs, i, none⟩ = false :=
 ⟨rows_at (rows_base h.seen fun _ _ => Nat.zero_le _) rfl (by rw [List.getElem?_map, useen_at n _ hi]; rfl), World.ownsRow.frozenAt h.seen i⟩
structure NdAt (w : World) (nb : Nat) (kv vv dv : Value) (nd : Nd) : Prop where
 box : w.heap[nb]? = some (.cells #[.bool nd.leaf, kv, vv, dv] 143 (0, 0))
 own : OwnN 0 w kv vv dv nd
theorem NdAt.keep {w w' : World} {nb : Nat} {kv vv dv : Value} {nd : Nd} (h : NdAt w nb kv vv dv nd) (k : KeepW w w') : NdAt w' nb kv vv dv nd :=
 ⟨k _ (by decide) (by decide) (by decide) _ _ _ h.box, rows_keepT h.own.keys (k _ (by decide) (by decide) (by decide)), rows_keepT h.own.vals (k _ (by decide) (by decide) (by decide)), rows_keepT h.own.kids (k _ (by decide) (by decide) (by decide))⟩
theorem NdAt.cell {w : World} {nb : Nat} {kv vv dv : Value} {nd : Nd} (h : NdAt w nb kv vv dv nd) : w.cell? ⟨nb, 0, none⟩ = some (.bool nd.leaf) ∧ w.cell? ⟨nb, 1, none⟩ = some kv ∧ w.cell? ⟨nb, 2, none⟩ = some vv ∧ w.cell? ⟨nb, 3, none⟩ = some dv :=
 ⟨cellN h.box rfl, cellN h.box rfl, cellN h.box rfl, cellN h.box rfl⟩
def WkR (o : Option Sw) (bad : Bool) (s' : Sw) (bad' : Bool) : Prop := (bad = true → bad' = true) ∧ (bad = false → (o = some s' ∧ bad' = false) ∨ (o = none ∧ bad' = true))
def WkRes (w0 w w' : World) (g bs n : Nat) (t : Tr) (pv : Value) (o : Option Sw) (bad : Bool) : Prop := ∃ prv s' bad', RWk w0 w' g bs n t pv prv s' bad' ∧ KeepW w w' ∧ WkR o bad s' bad'
theorem WkRes.no {w0 w w' : World} {g bs n : Nat} {t : Tr} {pv prv : Value} {o : Option Sw} {s : Sw} {bad : Bool} (h : RWk w0 w' g bs n t pv prv s true) (k : KeepW w w') (ho : bad = false → o = none) : WkRes w0 w w' g bs n t pv o bad :=
 ⟨_, _, _, h, k, fun _ => rfl, fun hb => .inr ⟨ho hb, rfl⟩⟩
end Go.Proofs.YtgmkknonnidgaaaGreat

namespace Go.Proofs.YtgmkknonnidgaaaGreat
open Go.RowKit
theorem jumpN_ret {J : Nat → Act → World → Prop} {Q : Exit → Act → World → Prop} {a : Act} {w : World} : jumpN J Q Exit.ret a w = Q Exit.ret a w := rfl
def Fr9 (w0 : World) (left nb : Nat) (a' : Act) : Prop := ∃ u0 u1 u5 u8 u9 u10 u11 u12 u13 u14 u15 u16 u17 u18 u19 u20 u21 u22 u23 u24 u25 u26 u27 u28 u29 u30 u31 u32 u33 u34 u35 u36 u37 u38 u39 u40 u41 u42 u43 u44 u45 u46 u47 u48 u49 u50 u51 u52 u53 u54 u55 u56 u57 u58 u59 u60 u61 u62 u63 u64 u65 u66 u67 u68 u69 u70 u71 u72 : Value, a' = { tmps := #[u0, u1, .pointer (some ⟨w0.heap.size, 0, none⟩), .int .i64 0, .pointer (some ⟨w0.heap.size + 1, 0, none⟩), u5, .int .i64 (left : Int), .pointer (some ⟨nb, 0, none⟩), u8, u9, u10, u11, u12, u13, u14, u15, u16, u17, u18, u19, u20, u21, u22, u23, u24, u25, u26, u27, u28, u29, u30, u31, u32, u33, u34, u35, u36, u37, u38, u39, u40, u41, u42, u43, u44, u45, u46, u47, u48, u49, u50, u51, u52, u53, u54, u55, u56, u57, u58, u59, u60, u61, u62, u63, u64, u65, u66, u67, u68, u69, u70, u71, u72], defers := [] }
def G9 (xs : List UInt8) (l left : Nat) (n : Nd) (r : Rr) : Prop :=
 (l = 0 ∧ nread xs = rfin (rpairs left r n) ∨ l = 1 ∧ nread xs = rfin (rkids left r n) ∨ l = 2 ∧ nread xs = rfin (n, r)) ∧ (l = 2 ∨ n.keys.length + left ≤ 256 ∧ n.vals.length + left ≤ 256 ∧ n.kids.length + left ≤ 256)
def J9 (w0 : World) (xs : List UInt8) (l : Nat) (a' : Act) (w' : World) : Prop := ∃ (left nb : Nat) (kv vv dv : Value) (n : Nd) (r : Rr), Fr9 w0 left nb a' ∧ RSt w0 nb w' kv vv dv n r ∧ G9 xs l left n r
theorem sl_ok {B : Nat} {w : World} {kv vv dv : Value} {n : Nd} (h : OwnN B w kv vv dv n) : ∃ a c a' c' a'' c'', kv = .slice a n.keys.length c ∧ vv = .slice a' n.vals.length c' ∧ dv = .slice a'' n.kids.length c'' := h.rd.slices
theorem frz {w : World} {g : Nat} {cs : Array Value} {t : TypeId} (h : w.heap[g]? = some (.cells cs t (0, 0))) (i : Nat) : w.frozen? ⟨g, i, none⟩ = false := by simp [World.frozen?, h]
set_option maxRecDepth 100000 in
set_option maxHeartbeats 8000000 in
theorem preadD_any (w : World) (v : Value) (xs : List UInt8) (h : Rd w v xs) :
  Calls Tryz.prog 76 #[v] w fun e w' => ∃ kv vv dv, e = .returned (.tuple #[nv (nread xs).1 kv vv dv, .int .i64 (nread xs).2]) ∧ OwnN w.heap.size w' kv vv dv (nread xs).1 ∧ Below w.heap.size w w' ∧ Dj kv vv dv := by
 obtain ⟨a, c, rfl⟩ := h.slice
 obtain ⟨i0, ii, iz0, iz1, iz2⟩ := info_parts infoT
 obtain ⟨j0, ji, jz0, jz1, jz2⟩ := info_parts infoJ
 have HH := hide h
 clear h
 go_enter Tryz.func76, Tryz.ntmps76
 go_wp2
 refine wp_scope_labels (J9 w xs) (fun l a' _ => if l = 2 then 0 else (intOf (a'.tmps.getD 6 undef)).toNat + 1) ?_ ?_ ?_
 ·rintro l a' w' ⟨left, nb, kv, vv, dv, n, r, _, _, hg, _⟩
  rcases hg with ⟨rfl, _⟩ | ⟨rfl, _⟩ | ⟨rfl, _⟩ <;> kernel_rfl
 ·obtain ⟨X, hX⟩ : ∃ X, X = ((w.alloc (.cells #[.bool false, nil9, nil9, nil9] 76)).alloc (.cells #[.slice a xs.length c, .bool false] 159)) := ⟨_, rfl⟩
  have bX : Below w.heap.size w X := by rw [hX]; exact ((Below.refl _ _).alloc (Nat.le_refl _) _).alloc (by simp) _
  have sX : X.heap.size = w.heap.size + 1 + 1 := by rw [hX]; simp
  have gX : X.heap[w.heap.size + 1]? = some (.cells #[.slice a xs.length c, .bool false] 159 (0, 0)) := by
   rw [hX]
   have := heap_alloc_last (w.alloc (.cells #[.bool false, nil9, nil9, nil9] 76)) (.cells #[.slice a xs.length c, .bool false] 159)
   simpa using this
  have rX : X.heap[w.heap.size]? = some (.cells #[.bool false, nil9, nil9, nil9] 76 (0, 0)) := by
   rw [hX, Below.heap_alloc _ _ _ (by simp)]; exact heap_alloc_last w _
  obtain ⟨r0, hr0⟩ : ∃ r : Rr, r = ⟨xs, false⟩ := ⟨_, rfl⟩
  have x0 : RdrX w (w.heap.size + 1) X r0 := by subst hr0; exact ⟨a, c, gX, HH.out, bX, by omega⟩
  have K1 := hide (pnumber_any w (w.heap.size + 1) X r0 1 x0 (by decide) (by decide))
  have RX := hide (And.intro rX sX)
  have HR := hide hr0
  clear bX gX rX x0 hr0
  go_wp2_with fail
  rw [← hX]
  replace hX := hide hX
  refine K1.out.mono ?_
  rintro e w1 ⟨rfl, r1, k1⟩
  clear K1
  have K2 := hide (pnumber_any w (w.heap.size + 1) w1 (rst 1 r0) 1 r1 (by decide) (by decide))
  have RY : Hid (w1.heap[w.heap.size]? = some (.cells #[.bool false, nil9, nil9, nil9] 76 (0, 0)) ∧ w.heap.size + 1 + 1 ≤ w1.heap.size) := ⟨(k1.1 _ (by have := RX.out.2; omega) (by omega)).trans RX.out.1, by have := k1.2.1; have := RX.out.2; omega⟩
  obtain ⟨M, hM⟩ : ∃ M, M = rnum 1 r0 := ⟨_, rfl⟩
  rw [← hM]
  replace hM := hide hM
  clear r1 k1 RX
  go_wp2_with fail
  refine K2.out.mono ?_
  rintro e w2 ⟨rfl, r2, k2⟩
  clear K2
  have RZ : Hid (w2.heap[w.heap.size]? = some (.cells #[.bool false, nil9, nil9, nil9] 76 (0, 0)) ∧ w.heap.size + 1 + 1 ≤ w2.heap.size) := ⟨(k2.1 _ (by have := RY.out.2; omega) (by omega)).trans RY.out.1, by have := k2.2.1; have := RY.out.2; omega⟩
  have hL : rnum 1 (rst 1 r0) < 256 := rnum_lt 1 _
  obtain ⟨left, hleft⟩ : ∃ L, L = rnum 1 (rst 1 r0) := ⟨_, rfl⟩
  rw [← hleft] at hL ⊢
  replace hleft := hide hleft
  obtain ⟨r, hr⟩ : ∃ q, q = rst 1 (rst 1 r0) := ⟨_, rfl⟩
  rw [← hr] at r2
  replace hr := hide hr
  obtain ⟨nb, hnb⟩ : ∃ nb, nb = w2.heap.size := ⟨_, rfl⟩
  have ST : Hid (∀ b : Bool, RSt w nb (w2.alloc (.cells #[.bool b, nil9, nil9, nil9] 76)) nil9 nil9 nil9 ⟨b, [], [], []⟩ r) := fun b => by
   have bb : Below w2.heap.size w2 (w2.alloc (.cells #[.bool b, nil9, nil9, nil9] 76)) := (Below.refl _ _).alloc (Nat.le_refl _) _
   refine ⟨r2.to bb, (bb.block _ (lt_of_block RZ.out.1)).trans RZ.out.1, by rw [hnb]; exact heap_alloc_last w2 _, OwnN.nil _ _ _, by have := RZ.out.2; omega, ?_, ?_, ?_⟩ <;> (intro k e; cases e)
  clear r2 k2 RY
  by_cases m1 : M = 1
  ·subst m1
   have S0 := hide (ST.out true)
   clear ST
   have hM1 := hM
   clear hM
   obtain ⟨V, hV⟩ : ∃ V, V = w2.alloc (.cells #[.bool true, nil9, nil9, nil9] 76) := ⟨_, rfl⟩
   rw [← hV] at S0
   obtain ⟨ra, rc, hrd⟩ := S0.out.rdr
   obtain ⟨⟨A0, A1⟩, _⟩ := cells2r hrd.box
   have RES := hide S0.out.res
   have BEL := hide hrd.bel
   clear hrd
   obtain ⟨⟨R0, R1, R2, R3⟩, Rf⟩ := cells4 RES.out
   have Rf0 := Rf 0
   have Rf1 := Rf 1
   have Rf2 := Rf 2
   have Rf3 := Rf 3
   clear Rf
   have N0 := (cells4 S0.out.box).1.1
   rw [hnb] at N0
   cases hsh : r.short with
   | true =>
    rw [hsh] at A1
    have e : Hid (nread xs = (none9, 8)) := nread_short (by rw [← HR.out, ← hr.out]; exact hsh)
    replace hsh := hide hsh
    rw [hV] at A0 A1 N0 R0 R1 R2 R3 Rf0 Rf1 Rf2 Rf3
    go_wp2
    rw [← hV]
    rw [jumpN_ret]
    refine retNT rfl rfl w.heap.size rfl _ _ (0, 0) (heap_set4 (u := V) RES.out _ _ _ _) _ Tryz.underlying76 rfl info_ndP (.int .i64 8) rfl ?_
    exact ⟨nil9, nil9, nil9, by rw [e.out]; rfl, by rw [e.out]; exact OwnN.nil _ _ _, below_set4n BEL.out (Nat.le_refl _) _ _ _ _, Dj.nil⟩
   | false =>
    rw [hsh] at A1
    have hs0 : Hid ((rst 1 (rst 1 ⟨xs, false⟩)).short = false) := by show _ = _; rw [← HR.out, ← hr.out]; exact hsh
    replace hsh := hide hsh
    rw [hV] at A0 A1 N0 R0 R1 R2 R3 Rf0 Rf1 Rf2 Rf3
    go_wp2
    go_step3
    rw [← hV]
    exact ⟨left, nb, _, _, _, ⟨true, [], [], []⟩, r, by rw [hnb]; exact ⟨_, _, _, _, _, _, _, _, _, _, _, _, _, _, _, _, _, _, _, _, _, _, _, _, _, _, _, _, _, _, _, _, _, _, _, _, _, _, _, _, _, _, _, _, _, _, _, _, _, _, _, _, _, _, _, _, _, _, _, _, _, _, _, _, _, _, _, _, rfl⟩, S0.out, .inl ⟨rfl, by rw [hleft.out, hr.out, HR.out]; exact nread_leaf hs0.out (by rw [← HR.out, ← hM1.out])⟩, .inr ⟨by simp; omega, by simp; omega, by simp; omega⟩⟩
  ·by_cases m0 : M = 0
   ·subst m0
    have S0 := hide (ST.out false)
    clear ST m1
    have hM1 := hM
    clear hM
    obtain ⟨V, hV⟩ : ∃ V, V = w2.alloc (.cells #[.bool false, nil9, nil9, nil9] 76) := ⟨_, rfl⟩
    rw [← hV] at S0
    obtain ⟨ra, rc, hrd⟩ := S0.out.rdr
    obtain ⟨⟨A0, A1⟩, _⟩ := cells2r hrd.box
    have RES := hide S0.out.res
    have BEL := hide hrd.bel
    clear hrd
    obtain ⟨⟨R0, R1, R2, R3⟩, Rf⟩ := cells4 RES.out
    have Rf0 := Rf 0
    have Rf1 := Rf 1
    have Rf2 := Rf 2
    have Rf3 := Rf 3
    clear Rf
    have N0 := (cells4 S0.out.box).1.1
    rw [hnb] at N0
    cases hsh : r.short with
    | true =>
     rw [hsh] at A1
     have e : Hid (nread xs = (none9, 8)) := nread_short (by rw [← HR.out, ← hr.out]; exact hsh)
     replace hsh := hide hsh
     rw [hV] at A0 A1 N0 R0 R1 R2 R3 Rf0 Rf1 Rf2 Rf3
     go_wp2
     rw [← hV]
     rw [jumpN_ret]
     refine retNT rfl rfl w.heap.size rfl _ _ (0, 0) (heap_set4 (u := V) RES.out _ _ _ _) _ Tryz.underlying76 rfl info_ndP (.int .i64 8) rfl ?_
     exact ⟨nil9, nil9, nil9, by rw [e.out]; rfl, by rw [e.out]; exact OwnN.nil _ _ _, below_set4n BEL.out (Nat.le_refl _) _ _ _ _, Dj.nil⟩
    | false =>
     rw [hsh] at A1
     have hs0 : Hid ((rst 1 (rst 1 ⟨xs, false⟩)).short = false) := by show _ = _; rw [← HR.out, ← hr.out]; exact hsh
     replace hsh := hide hsh
     rw [hV] at A0 A1 N0 R0 R1 R2 R3 Rf0 Rf1 Rf2 Rf3
     go_wp2
     go_step3
     rw [← hV]
     obtain ⟨n, hn⟩ : ∃ n : Nd, n = ⟨false, [], [], []⟩ := ⟨_, rfl⟩
     rw [← hn] at S0
     have hb1 : n.keys.length + left ≤ 256 := by rw [hn]; simp; omega
     have hb2 : n.vals.length + left ≤ 256 := by rw [hn]; simp; omega
     have hb3 : n.kids.length + left ≤ 256 := by rw [hn]; simp; omega
     have hG : Hid (nread xs = rfin (rkids left r n)) := by
      show _ = _
      rw [hn, hleft.out, hr.out, HR.out]
      exact nread_inner hs0.out (by rw [← HR.out, ← hM1.out])
     replace hn := hide hn
     rw [← hnb]
     replace hnb := hide hnb
     replace hV := hide hV
     clear A0 A1 N0 R0 R1 R2 R3 Rf0 Rf1 Rf2 Rf3
     by_cases h0 : left = 0
     ·subst h0
      have hG2 : Hid (nread xs = rfin (rkids 0 r n)) := hG
      clear hG
      go_wp2
      have SD6 : Hid (RSt w nb V.drew nil9 nil9 nil9 (⟨n.leaf, n.keys, n.vals, n.kids⟩ : Nd) r) := hide (S0.out.below ((Below.refl V.heap.size V).drew))
      have KT6 := hide (pnumber_any w (w.heap.size + 1) V.drew r 4 SD6.out.rdr (by decide) (by decide))
      have CB6 : Hid (∀ (U : World) (q : Rr), RSt w nb U nil9 nil9 nil9 (⟨n.leaf, n.keys, n.vals, n.kids⟩ : Nd) q → U.cell? ⟨nb, 3, none⟩ = some nil9) := fun U q h => (cells4 h.box).1.2.2.2
      refine wp_region_sched (fun w9 => w9.cell? ⟨nb, 3, none⟩ = some nil9) [(0, true), (1, true), (2, false), (3, false)] 4 mixed (by kernel_rfl) (fun _ _ _ _ h => h) ?_
      iterate 2
       refine sched_take (v := ?_) rfl (by kernel_rfl) (CB6.out _ _ SD6.out) ?_ ?_
       rotate_left
       ·intro w9 r1
        go_simp
        try with_reducible rfl
       try simp only [Act.put, List.setIfInBounds_toArray, List.set_cons_zero, List.set_cons_succ]
      refine sched_run rfl (by kernel_rfl) fun K hK => ?_
      refine wp_call_of 94 _ _ (by rfl) #[.pointer (some ⟨w.heap.size + 1, 0, none⟩), .int .i64 4] (by simp [Act.eval]) (Tryz.call94 _ _) KT6.out ?_
      rintro e wa6 ⟨rfl, ra6, ka6⟩
      have sa6 := SD6.out.call ka6 ra6
      refine ⟨_, rfl, hK _ _ (CB6.out _ _ sa6) ?_⟩
      clear hK K
      have SA6 := hide sa6
      clear sa6 ra6 ka6
      try simp only [Act.put, List.setIfInBounds_toArray, List.set_cons_zero, List.set_cons_succ]
      refine sched_run rfl (by kernel_rfl) fun K hK => ?_
      have sb6 := SA6.out.below ((Below.refl wa6.heap.size wa6).alloc (Nat.le_refl _) (.cells #[(.int .i64 ((rnum 4 r : Nat) : Int))] 3))
      go_simp
      refine hK _ _ (CB6.out _ _ sb6) ?_
      clear hK K
      try simp only [Act.put, List.setIfInBounds_toArray, List.set_cons_zero, List.set_cons_succ]
      show wpList _ _ _ _ _ _
      dsimp only [List.drop]
      have FI6 : Hid (∀ (g cp : Nat) (U : World), U.ownsRow (nb + 1) 3 1 (.slice (some ⟨g, 0, none⟩) (n.kids.length + 1) cp) (n.kids.length + 1) (n.kids.map (Value.int .i64) ++ [(.int .i64 ((rnum 4 r : Nat) : Int))]) → (wa6.alloc (.cells #[(.int .i64 ((rnum 4 r : Nat) : Int))] 3)).grownBy U (Value.ownBlock nil9) → (Value.ownBlock nil9 = some g ∨ g = wa6.heap.size + 1) → U.cell? ⟨nb, 3, none⟩ = some nil9 ∧ U.frozen? ⟨nb, 3, none⟩ = false ∧ Hid (RSt w nb (U.setCell ⟨nb, 3, none⟩ (.slice (some ⟨g, 0, none⟩) (n.kids.length + 1) cp)) nil9 nil9 (.slice (some ⟨g, 0, none⟩) (n.kids.length + 1) cp) (⟨n.leaf, n.keys, n.vals, (n.kids ++ [((rnum 4 r : Nat) : Int)])⟩ : Nd) (rst 4 r))) := fun g cp U ob kb hb => by
       have sb := sb6
       have nbl := (kb.block nb (lt_of_block sb.box) (fun e => by have := (row_from sb.own.kids nb e.symm).1; omega)).trans sb.box
       have oo : OwnJ (nb + 1) U (.slice (some ⟨g, 0, none⟩) (n.kids.length + 1) cp) (n.kids ++ [((rnum 4 r : Nat) : Int)]) := by show World.ownsRow _ _ _ _ _ _ _; simpa using ob
       exact ⟨(cells4 nbl).1.2.2.2, frz nbl 3, hide (sb.kids rfl oo kb (by rcases hb with h | h; exact .inl h; exact .inr (by simpa using h)))⟩
      have own6 := sb6.own.kids
      dsimp only at own6
      have lt6 := lt_of_block sb6.box
      clear sb6 KT6 CB6 SD6 SA6
      go_wp2_with (at_builtin; refine wpList_append_lies _ rfl _ _ 74 rfl (nb + 1) 3 _ (.int .i64 0) 1 8 Tryz.underlying74 ji jz0 jz1 jz2 rfl (by decide) nil9 n.kids.length (n.kids.map (Value.int .i64)) rfl own6 ⟨wa6.heap.size, 0, none⟩ 1 1 [(.int .i64 ((rnum 4 r : Nat) : Int))] rfl rfl (World.news_of_block (heap_alloc_last wa6 _)) (by simp [Value.oneCell']) (by decide) (by rw [show maxLen = 9223372036854775807 from rfl]; first | omega | (simp; omega)) (by first | omega | (simp; omega)) (by omega) (wa6.heap.size + 1) (by simp) ?_; intro ga6 ca6 wb6 ob6 kb6 hb6 _; obtain ⟨cc6, fz6, ST6⟩ := FI6.out ga6 ca6 wb6 ob6 kb6 hb6; clear ob6 kb6 hb6 FI6 own6 lt6)
      clear cc6 fz6
      go_step3
      exact ⟨0, nb, _, _, _, (⟨n.leaf, n.keys, n.vals, (n.kids ++ [((rnum 4 r : Nat) : Int)])⟩ : Nd), (rst 4 r), ⟨_, _, _, _, _, _, _, _, _, _, _, _, _, _, _, _, _, _, _, _, _, _, _, _, _, _, _, _, _, _, _, _, _, _, _, _, _, _, _, _, _, _, _, _, _, _, _, _, _, _, _, _, _, _, _, _, _, _, _, _, _, _, _, _, _, _, _, _, rfl⟩, ST6.out, ⟨.inr (.inr ⟨rfl, hG2.out⟩), .inl rfl⟩⟩
     ·skip
      obtain ⟨j, hj⟩ : ∃ j, left = j + 1 := ⟨left - 1, by omega⟩
      have hj1 : (left : Int) - 1 = (j : Int) := by omega
      have hj3 : IntKind.i64.wrap (j : Int) = (j : Int) := IntWalk.i64_in _ (by omega)
      have hj4 : ((left : Int) == 0) = false := ieq_f (by omega)
      replace hj := hide hj
      clear h0
      have hG2 : Hid (nread xs = rfin (rkids (j + 1) r n)) := by show _ = _; rw [← hj.out]; exact hG.out
      clear hG
      go_wp2
      have SD7 : Hid (RSt w nb V.drew nil9 nil9 nil9 (⟨n.leaf, n.keys, n.vals, n.kids⟩ : Nd) r) := hide (S0.out.below ((Below.refl V.heap.size V).drew))
      have KT7 := hide (pnumber_any w (w.heap.size + 1) V.drew r 4 SD7.out.rdr (by decide) (by decide))
      have CB7 : Hid (∀ (U : World) (q : Rr), RSt w nb U nil9 nil9 nil9 (⟨n.leaf, n.keys, n.vals, n.kids⟩ : Nd) q → U.cell? ⟨nb, 3, none⟩ = some nil9) := fun U q h => (cells4 h.box).1.2.2.2
      refine wp_region_sched (fun w9 => w9.cell? ⟨nb, 3, none⟩ = some nil9) [(0, true), (1, true), (2, false), (3, false)] 4 mixed (by kernel_rfl) (fun _ _ _ _ h => h) ?_
      iterate 2
       refine sched_take (v := ?_) rfl (by kernel_rfl) (CB7.out _ _ SD7.out) ?_ ?_
       rotate_left
       ·intro w9 r1
        go_simp
        try with_reducible rfl
       try simp only [Act.put, List.setIfInBounds_toArray, List.set_cons_zero, List.set_cons_succ]
      refine sched_run rfl (by kernel_rfl) fun K hK => ?_
      refine wp_call_of 94 _ _ (by rfl) #[.pointer (some ⟨w.heap.size + 1, 0, none⟩), .int .i64 4] (by simp [Act.eval]) (Tryz.call94 _ _) KT7.out ?_
      rintro e wa7 ⟨rfl, ra7, ka7⟩
      have sa7 := SD7.out.call ka7 ra7
      refine ⟨_, rfl, hK _ _ (CB7.out _ _ sa7) ?_⟩
      clear hK K
      have SA7 := hide sa7
      clear sa7 ra7 ka7
      try simp only [Act.put, List.setIfInBounds_toArray, List.set_cons_zero, List.set_cons_succ]
      refine sched_run rfl (by kernel_rfl) fun K hK => ?_
      have sb7 := SA7.out.below ((Below.refl wa7.heap.size wa7).alloc (Nat.le_refl _) (.cells #[(.int .i64 ((rnum 4 r : Nat) : Int))] 3))
      go_simp
      refine hK _ _ (CB7.out _ _ sb7) ?_
      clear hK K
      try simp only [Act.put, List.setIfInBounds_toArray, List.set_cons_zero, List.set_cons_succ]
      show wpList _ _ _ _ _ _
      dsimp only [List.drop]
      have FI7 : Hid (∀ (g cp : Nat) (U : World), U.ownsRow (nb + 1) 3 1 (.slice (some ⟨g, 0, none⟩) (n.kids.length + 1) cp) (n.kids.length + 1) (n.kids.map (Value.int .i64) ++ [(.int .i64 ((rnum 4 r : Nat) : Int))]) → (wa7.alloc (.cells #[(.int .i64 ((rnum 4 r : Nat) : Int))] 3)).grownBy U (Value.ownBlock nil9) → (Value.ownBlock nil9 = some g ∨ g = wa7.heap.size + 1) → U.cell? ⟨nb, 3, none⟩ = some nil9 ∧ U.frozen? ⟨nb, 3, none⟩ = false ∧ Hid (RSt w nb (U.setCell ⟨nb, 3, none⟩ (.slice (some ⟨g, 0, none⟩) (n.kids.length + 1) cp)) nil9 nil9 (.slice (some ⟨g, 0, none⟩) (n.kids.length + 1) cp) (⟨n.leaf, n.keys, n.vals, (n.kids ++ [((rnum 4 r : Nat) : Int)])⟩ : Nd) (rst 4 r))) := fun g cp U ob kb hb => by
       have sb := sb7
       have nbl := (kb.block nb (lt_of_block sb.box) (fun e => by have := (row_from sb.own.kids nb e.symm).1; omega)).trans sb.box
       have oo : OwnJ (nb + 1) U (.slice (some ⟨g, 0, none⟩) (n.kids.length + 1) cp) (n.kids ++ [((rnum 4 r : Nat) : Int)]) := by show World.ownsRow _ _ _ _ _ _ _; simpa using ob
       exact ⟨(cells4 nbl).1.2.2.2, frz nbl 3, hide (sb.kids rfl oo kb (by rcases hb with h | h; exact .inl h; exact .inr (by simpa using h)))⟩
      have own7 := sb7.own.kids
      dsimp only at own7
      have lt7 := lt_of_block sb7.box
      clear sb7 KT7 CB7 SD7 SA7
      go_wp2_with (at_builtin; refine wpList_append_lies _ rfl _ _ 74 rfl (nb + 1) 3 _ (.int .i64 0) 1 8 Tryz.underlying74 ji jz0 jz1 jz2 rfl (by decide) nil9 n.kids.length (n.kids.map (Value.int .i64)) rfl own7 ⟨wa7.heap.size, 0, none⟩ 1 1 [(.int .i64 ((rnum 4 r : Nat) : Int))] rfl rfl (World.news_of_block (heap_alloc_last wa7 _)) (by simp [Value.oneCell']) (by decide) (by rw [show maxLen = 9223372036854775807 from rfl]; first | omega | (simp; omega)) (by first | omega | (simp; omega)) (by omega) (wa7.heap.size + 1) (by simp) ?_; intro ga7 ca7 wb7 ob7 kb7 hb7 _; obtain ⟨cc7, fz7, ST7⟩ := FI7.out ga7 ca7 wb7 ob7 kb7 hb7; clear ob7 kb7 hb7 FI7 own7 lt7)
      clear cc7 fz7
      obtain ⟨V8, hV8⟩ : ∃ U, U = (wb7.setCell ⟨nb, 3, none⟩ (.slice (some ⟨ga7, 0, none⟩) (n.kids.length + 1) ca7)) := ⟨_, rfl⟩
      rw [← hV8]
      rw [← hV8] at ST7
      replace hV8 := hide hV8
      have SD8 : Hid (RSt w nb V8.drew nil9 nil9 (.slice (some ⟨ga7, 0, none⟩) (n.kids.length + 1) ca7) (⟨n.leaf, n.keys, n.vals, (n.kids ++ [((rnum 4 r : Nat) : Int)])⟩ : Nd) (rst 4 r)) := hide (ST7.out.below ((Below.refl V8.heap.size V8).drew))
      have KT8 := hide (ptxt_any w (w.heap.size + 1) V8.drew (rst 4 r) SD8.out.rdr)
      have CB8 : Hid (∀ (U : World) (q : Rr), RSt w nb U nil9 nil9 (.slice (some ⟨ga7, 0, none⟩) (n.kids.length + 1) ca7) (⟨n.leaf, n.keys, n.vals, (n.kids ++ [((rnum 4 r : Nat) : Int)])⟩ : Nd) q → U.cell? ⟨nb, 1, none⟩ = some nil9) := fun U q h => (cells4 h.box).1.2.1
      refine wp_region_sched (fun w9 => w9.cell? ⟨nb, 1, none⟩ = some nil9) [(0, true), (1, true), (2, false), (3, false)] 4 mixed (by kernel_rfl) (fun _ _ _ _ h => h) ?_
      iterate 2
       refine sched_take (v := ?_) rfl (by kernel_rfl) (CB8.out _ _ SD8.out) ?_ ?_
       rotate_left
       ·intro w9 r1
        go_simp
        try with_reducible rfl
       try simp only [Act.put, List.setIfInBounds_toArray, List.set_cons_zero, List.set_cons_succ]
      refine sched_run rfl (by kernel_rfl) fun K hK => ?_
      refine wp_call_of 95 _ _ (by rfl) #[.pointer (some ⟨w.heap.size + 1, 0, none⟩)] (by simp [Act.eval]) (Tryz.call95 _ _) KT8.out ?_
      rintro e wa8 ⟨rfl, ra8, ka8⟩
      have sa8 := SD8.out.call ka8 ra8
      refine ⟨_, rfl, hK _ _ (CB8.out _ _ sa8) ?_⟩
      clear hK K
      have SA8 := hide sa8
      clear sa8 ra8 ka8
      try simp only [Act.put, List.setIfInBounds_toArray, List.set_cons_zero, List.set_cons_succ]
      refine sched_run rfl (by kernel_rfl) fun K hK => ?_
      have sb8 := SA8.out.below ((Below.refl wa8.heap.size wa8).alloc (Nat.le_refl _) (.cells #[(st (rtx (rst 4 r)))] 9))
      go_simp
      refine hK _ _ (CB8.out _ _ sb8) ?_
      clear hK K
      try simp only [Act.put, List.setIfInBounds_toArray, List.set_cons_zero, List.set_cons_succ]
      show wpList _ _ _ _ _ _
      dsimp only [List.drop]
      have FI8 : Hid (∀ (g cp : Nat) (U : World), U.ownsRow (nb + 1) 9 1 (.slice (some ⟨g, 0, none⟩) (n.keys.length + 1) cp) (n.keys.length + 1) (n.keys.map st ++ [(st (rtx (rst 4 r)))]) → (wa8.alloc (.cells #[(st (rtx (rst 4 r)))] 9)).grownBy U (Value.ownBlock nil9) → (Value.ownBlock nil9 = some g ∨ g = wa8.heap.size + 1) → U.cell? ⟨nb, 1, none⟩ = some nil9 ∧ U.frozen? ⟨nb, 1, none⟩ = false ∧ Hid (RSt w nb (U.setCell ⟨nb, 1, none⟩ (.slice (some ⟨g, 0, none⟩) (n.keys.length + 1) cp)) (.slice (some ⟨g, 0, none⟩) (n.keys.length + 1) cp) nil9 (.slice (some ⟨ga7, 0, none⟩) (n.kids.length + 1) ca7) (⟨n.leaf, (n.keys ++ [(rtx (rst 4 r))]), n.vals, (n.kids ++ [((rnum 4 r : Nat) : Int)])⟩ : Nd) (rts (rst 4 r)))) := fun g cp U ob kb hb => by
       have sb := sb8
       have nbl := (kb.block nb (lt_of_block sb.box) (fun e => by have := (row_from sb.own.keys nb e.symm).1; omega)).trans sb.box
       have oo : OwnT (nb + 1) U (.slice (some ⟨g, 0, none⟩) (n.keys.length + 1) cp) (n.keys ++ [(rtx (rst 4 r))]) := by show World.ownsRow _ _ _ _ _ _ _; simpa using ob
       exact ⟨(cells4 nbl).1.2.1, frz nbl 1, hide (sb.keys rfl oo kb (by rcases hb with h | h; exact .inl h; exact .inr (by simpa using h)))⟩
      have own8 := sb8.own.keys
      dsimp only at own8
      have lt8 := lt_of_block sb8.box
      clear sb8 KT8 CB8 SD8 SA8
      go_wp2_with (at_builtin; refine wpList_append_lies _ rfl _ _ 23 rfl (nb + 1) 9 _ (.string ⟨#[]⟩) 1 16 Tryz.underlying23 ii iz0 iz1 iz2 rfl (by decide) nil9 n.keys.length (n.keys.map st) rfl own8 ⟨wa8.heap.size, 0, none⟩ 1 1 [(st (rtx (rst 4 r)))] rfl rfl (World.news_of_block (heap_alloc_last wa8 _)) (by simp [Value.oneCell']) (by decide) (by rw [show maxLen = 9223372036854775807 from rfl]; first | omega | (simp; omega)) (by first | omega | (simp; omega)) (by omega) (wa8.heap.size + 1) (by simp) ?_; intro ga8 ca8 wb8 ob8 kb8 hb8 _; obtain ⟨cc8, fz8, ST8⟩ := FI8.out ga8 ca8 wb8 ob8 kb8 hb8; clear ob8 kb8 hb8 FI8 own8 lt8)
      clear cc8 fz8
      go_step3
      exact ⟨j, nb, _, _, _, (⟨n.leaf, (n.keys ++ [(rtx (rst 4 r))]), n.vals, (n.kids ++ [((rnum 4 r : Nat) : Int)])⟩ : Nd), (rts (rst 4 r)), ⟨_, _, _, _, _, _, _, _, _, _, _, _, _, _, _, _, _, _, _, _, _, _, _, _, _, _, _, _, _, _, _, _, _, _, _, _, _, _, _, _, _, _, _, _, _, _, _, _, _, _, _, _, _, _, _, _, _, _, _, _, _, _, _, _, _, _, _, _, rfl⟩, ST8.out, ⟨.inr (.inl ⟨rfl, hG2.out⟩), .inr ⟨by have := hj.out; simp; omega, by have := hj.out; simp; omega, by have := hj.out; simp; omega⟩⟩⟩
   ·have S0 := hide (ST.out ((M : Int) == 1))
    clear ST
    have hM1 := hM
    clear hM
    obtain ⟨V, hV⟩ : ∃ V, V = w2.alloc (.cells #[.bool ((M : Int) == 1), nil9, nil9, nil9] 76) := ⟨_, rfl⟩
    rw [← hV] at S0
    obtain ⟨ra, rc, hrd⟩ := S0.out.rdr
    obtain ⟨⟨A0, A1⟩, _⟩ := cells2r hrd.box
    have RES := hide S0.out.res
    have BEL := hide hrd.bel
    clear hrd
    obtain ⟨⟨R0, R1, R2, R3⟩, Rf⟩ := cells4 RES.out
    have Rf0 := Rf 0
    have Rf1 := Rf 1
    have Rf2 := Rf 2
    have Rf3 := Rf 3
    clear Rf
    have N0 := (cells4 S0.out.box).1.1
    rw [hnb] at N0
    cases hsh : r.short with
    | true =>
     rw [hsh] at A1
     have e : Hid (nread xs = (none9, 8)) := nread_short (by rw [← HR.out, ← hr.out]; exact hsh)
     replace hsh := hide hsh
     rw [hV] at A0 A1 N0 R0 R1 R2 R3 Rf0 Rf1 Rf2 Rf3
     go_wp2
     rw [← hV]
     rw [jumpN_ret]
     refine retNT rfl rfl w.heap.size rfl _ _ (0, 0) (heap_set4 (u := V) RES.out _ _ _ _) _ Tryz.underlying76 rfl info_ndP (.int .i64 8) rfl ?_
     exact ⟨nil9, nil9, nil9, by rw [e.out]; rfl, by rw [e.out]; exact OwnN.nil _ _ _, below_set4n BEL.out (Nat.le_refl _) _ _ _ _, Dj.nil⟩
    | false =>
     rw [hsh] at A1
     have hs0 : Hid ((rst 1 (rst 1 ⟨xs, false⟩)).short = false) := by show _ = _; rw [← HR.out, ← hr.out]; exact hsh
     replace hsh := hide hsh
     rw [hV] at A0 A1 N0 R0 R1 R2 R3 Rf0 Rf1 Rf2 Rf3
     have e : Hid (nread xs = (none9, 22)) := nread_kind hs0.out (by rw [← HR.out, ← hM1.out]; exact m1) (by rw [← HR.out, ← hM1.out]; exact m0)
     have g2 : ((M : Int) != 1) = true := by simp; omega
     have g3 : ((M : Int) != 0) = true := by simp; omega
     go_wp2
     rw [← hV]
     rw [jumpN_ret]
     refine retNT rfl rfl w.heap.size rfl _ _ (0, 0) (heap_set4 (u := V) RES.out _ _ _ _) _ Tryz.underlying76 rfl info_ndP (.int .i64 22) rfl ?_
     exact ⟨nil9, nil9, nil9, by rw [e.out]; rfl, by rw [e.out]; exact OwnN.nil _ _ _, below_set4n BEL.out (Nat.le_refl _) _ _ _ _, Dj.nil⟩
 ·rintro l a' w' ⟨left, nb, kv, vv, dv, n, r, ⟨u0, u1, u5, u8, u9, u10, u11, u12, u13, u14, u15, u16, u17, u18, u19, u20, u21, u22, u23, u24, u25, u26, u27, u28, u29, u30, u31, u32, u33, u34, u35, u36, u37, u38, u39, u40, u41, u42, u43, u44, u45, u46, u47, u48, u49, u50, u51, u52, u53, u54, u55, u56, u57, u58, u59, u60, u61, u62, u63, u64, u65, u66, u67, u68, u69, u70, u71, u72, rfl⟩, hs, hg, hbd⟩
  obtain ⟨ak, ck, av, cv, ad, cd, rfl, rfl, rfl⟩ := sl_ok hs.own
  have S0 := hide hs
  clear hs
  rcases hg with ⟨rfl, hg⟩ | ⟨rfl, hg⟩ | ⟨rfl, hg⟩
  ·obtain ⟨hb1, hb2, hb3⟩ : n.keys.length + left ≤ 256 ∧ n.vals.length + left ≤ 256 ∧ n.kids.length + left ≤ 256 := by rcases hbd with h | h; cases h; exact h
   have hG := hide hg
   clear hg hbd
   simp only [findLabel]
   by_cases h0 : left = 0
   ·subst h0
    have hG2 : Hid (nread xs = rfin (rpairs 0 r n)) := hG
    clear hG
    go_wp2
    go_step3
    exact And.intro ⟨0, nb, _, _, _, (⟨n.leaf, n.keys, n.vals, n.kids⟩ : Nd), r, ⟨_, _, _, _, _, _, _, _, _, _, _, _, _, _, _, _, _, _, _, _, _, _, _, _, _, _, _, _, _, _, _, _, _, _, _, _, _, _, _, _, _, _, _, _, _, _, _, _, _, _, _, _, _, _, _, _, _, _, _, _, _, _, _, _, _, _, _, _, rfl⟩, S0.out, ⟨.inr (.inr ⟨rfl, hG2.out⟩), .inl rfl⟩⟩ (by simp [intOf])
   ·skip
    obtain ⟨j, hj⟩ : ∃ j, left = j + 1 := ⟨left - 1, by omega⟩
    have hj1 : (left : Int) - 1 = (j : Int) := by omega
    have hj3 : IntKind.i64.wrap (j : Int) = (j : Int) := IntWalk.i64_in _ (by omega)
    have hj4 : ((left : Int) == 0) = false := ieq_f (by omega)
    replace hj := hide hj
    clear h0
    have hG2 : Hid (nread xs = rfin (rpairs (j + 1) r n)) := by show _ = _; rw [← hj.out]; exact hG.out
    clear hG
    go_wp2
    have SD1 : Hid (RSt w nb w'.drew (.slice ak n.keys.length ck) (.slice av n.vals.length cv) (.slice ad n.kids.length cd) (⟨n.leaf, n.keys, n.vals, n.kids⟩ : Nd) r) := hide (S0.out.below ((Below.refl w'.heap.size w').drew))
    have KT1 := hide (ptxt_any w (w.heap.size + 1) w'.drew r SD1.out.rdr)
    have CB1 : Hid (∀ (U : World) (q : Rr), RSt w nb U (.slice ak n.keys.length ck) (.slice av n.vals.length cv) (.slice ad n.kids.length cd) (⟨n.leaf, n.keys, n.vals, n.kids⟩ : Nd) q → U.cell? ⟨nb, 1, none⟩ = some (.slice ak n.keys.length ck)) := fun U q h => (cells4 h.box).1.2.1
    refine wp_region_sched (fun w9 => w9.cell? ⟨nb, 1, none⟩ = some (.slice ak n.keys.length ck)) [(0, true), (1, true), (2, false), (3, false)] 4 mixed (by kernel_rfl) (fun _ _ _ _ h => h) ?_
    iterate 2
     refine sched_take (v := ?_) rfl (by kernel_rfl) (CB1.out _ _ SD1.out) ?_ ?_
     rotate_left
     ·intro w9 r1
      go_simp
      try with_reducible rfl
     try simp only [Act.put, List.setIfInBounds_toArray, List.set_cons_zero, List.set_cons_succ]
    refine sched_run rfl (by kernel_rfl) fun K hK => ?_
    refine wp_call_of 95 _ _ (by rfl) #[.pointer (some ⟨w.heap.size + 1, 0, none⟩)] (by simp [Act.eval]) (Tryz.call95 _ _) KT1.out ?_
    rintro e wa1 ⟨rfl, ra1, ka1⟩
    have sa1 := SD1.out.call ka1 ra1
    refine ⟨_, rfl, hK _ _ (CB1.out _ _ sa1) ?_⟩
    clear hK K
    have SA1 := hide sa1
    clear sa1 ra1 ka1
    try simp only [Act.put, List.setIfInBounds_toArray, List.set_cons_zero, List.set_cons_succ]
    refine sched_run rfl (by kernel_rfl) fun K hK => ?_
    have sb1 := SA1.out.below ((Below.refl wa1.heap.size wa1).alloc (Nat.le_refl _) (.cells #[(st (rtx r))] 9))
    go_simp
    refine hK _ _ (CB1.out _ _ sb1) ?_
    clear hK K
    try simp only [Act.put, List.setIfInBounds_toArray, List.set_cons_zero, List.set_cons_succ]
    show wpList _ _ _ _ _ _
    dsimp only [List.drop]
    have FI1 : Hid (∀ (g cp : Nat) (U : World), U.ownsRow (nb + 1) 9 1 (.slice (some ⟨g, 0, none⟩) (n.keys.length + 1) cp) (n.keys.length + 1) (n.keys.map st ++ [(st (rtx r))]) → (wa1.alloc (.cells #[(st (rtx r))] 9)).grownBy U (Value.ownBlock (.slice ak n.keys.length ck)) → (Value.ownBlock (.slice ak n.keys.length ck) = some g ∨ g = wa1.heap.size + 1) → U.cell? ⟨nb, 1, none⟩ = some (.slice ak n.keys.length ck) ∧ U.frozen? ⟨nb, 1, none⟩ = false ∧ Hid (RSt w nb (U.setCell ⟨nb, 1, none⟩ (.slice (some ⟨g, 0, none⟩) (n.keys.length + 1) cp)) (.slice (some ⟨g, 0, none⟩) (n.keys.length + 1) cp) (.slice av n.vals.length cv) (.slice ad n.kids.length cd) (⟨n.leaf, (n.keys ++ [(rtx r)]), n.vals, n.kids⟩ : Nd) (rts r))) := fun g cp U ob kb hb => by
     have sb := sb1
     have nbl := (kb.block nb (lt_of_block sb.box) (fun e => by have := (row_from sb.own.keys nb e.symm).1; omega)).trans sb.box
     have oo : OwnT (nb + 1) U (.slice (some ⟨g, 0, none⟩) (n.keys.length + 1) cp) (n.keys ++ [(rtx r)]) := by show World.ownsRow _ _ _ _ _ _ _; simpa using ob
     exact ⟨(cells4 nbl).1.2.1, frz nbl 1, hide (sb.keys rfl oo kb (by rcases hb with h | h; exact .inl h; exact .inr (by simpa using h)))⟩
    have own1 := sb1.own.keys
    dsimp only at own1
    have lt1 := lt_of_block sb1.box
    clear sb1 KT1 CB1 SD1 SA1
    go_wp2_with (at_builtin; refine wpList_append_lies _ rfl _ _ 23 rfl (nb + 1) 9 _ (.string ⟨#[]⟩) 1 16 Tryz.underlying23 ii iz0 iz1 iz2 rfl (by decide) (.slice ak n.keys.length ck) n.keys.length (n.keys.map st) rfl own1 ⟨wa1.heap.size, 0, none⟩ 1 1 [(st (rtx r))] rfl rfl (World.news_of_block (heap_alloc_last wa1 _)) (by simp [Value.oneCell']) (by decide) (by rw [show maxLen = 9223372036854775807 from rfl]; first | omega | (simp; omega)) (by first | omega | (simp; omega)) (by omega) (wa1.heap.size + 1) (by simp) ?_; intro ga1 ca1 wb1 ob1 kb1 hb1 _; obtain ⟨cc1, fz1, ST1⟩ := FI1.out ga1 ca1 wb1 ob1 kb1 hb1; clear ob1 kb1 hb1 FI1 own1 lt1)
    clear cc1 fz1
    obtain ⟨V2, hV2⟩ : ∃ U, U = (wb1.setCell ⟨nb, 1, none⟩ (.slice (some ⟨ga1, 0, none⟩) (n.keys.length + 1) ca1)) := ⟨_, rfl⟩
    rw [← hV2]
    rw [← hV2] at ST1
    replace hV2 := hide hV2
    have SD2 : Hid (RSt w nb V2.drew (.slice (some ⟨ga1, 0, none⟩) (n.keys.length + 1) ca1) (.slice av n.vals.length cv) (.slice ad n.kids.length cd) (⟨n.leaf, (n.keys ++ [(rtx r)]), n.vals, n.kids⟩ : Nd) (rts r)) := hide (ST1.out.below ((Below.refl V2.heap.size V2).drew))
    have KT2 := hide (ptxt_any w (w.heap.size + 1) V2.drew (rts r) SD2.out.rdr)
    have CB2 : Hid (∀ (U : World) (q : Rr), RSt w nb U (.slice (some ⟨ga1, 0, none⟩) (n.keys.length + 1) ca1) (.slice av n.vals.length cv) (.slice ad n.kids.length cd) (⟨n.leaf, (n.keys ++ [(rtx r)]), n.vals, n.kids⟩ : Nd) q → U.cell? ⟨nb, 2, none⟩ = some (.slice av n.vals.length cv)) := fun U q h => (cells4 h.box).1.2.2.1
    refine wp_region_sched (fun w9 => w9.cell? ⟨nb, 2, none⟩ = some (.slice av n.vals.length cv)) [(0, true), (1, true), (2, false), (3, false)] 4 mixed (by kernel_rfl) (fun _ _ _ _ h => h) ?_
    iterate 2
     refine sched_take (v := ?_) rfl (by kernel_rfl) (CB2.out _ _ SD2.out) ?_ ?_
     rotate_left
     ·intro w9 r1
      go_simp
      try with_reducible rfl
     try simp only [Act.put, List.setIfInBounds_toArray, List.set_cons_zero, List.set_cons_succ]
    refine sched_run rfl (by kernel_rfl) fun K hK => ?_
    refine wp_call_of 95 _ _ (by rfl) #[.pointer (some ⟨w.heap.size + 1, 0, none⟩)] (by simp [Act.eval]) (Tryz.call95 _ _) KT2.out ?_
    rintro e wa2 ⟨rfl, ra2, ka2⟩
    have sa2 := SD2.out.call ka2 ra2
    refine ⟨_, rfl, hK _ _ (CB2.out _ _ sa2) ?_⟩
    clear hK K
    have SA2 := hide sa2
    clear sa2 ra2 ka2
    try simp only [Act.put, List.setIfInBounds_toArray, List.set_cons_zero, List.set_cons_succ]
    refine sched_run rfl (by kernel_rfl) fun K hK => ?_
    have sb2 := SA2.out.below ((Below.refl wa2.heap.size wa2).alloc (Nat.le_refl _) (.cells #[(st (rtx (rts r)))] 9))
    go_simp
    refine hK _ _ (CB2.out _ _ sb2) ?_
    clear hK K
    try simp only [Act.put, List.setIfInBounds_toArray, List.set_cons_zero, List.set_cons_succ]
    show wpList _ _ _ _ _ _
    dsimp only [List.drop]
    have FI2 : Hid (∀ (g cp : Nat) (U : World), U.ownsRow (nb + 1) 9 1 (.slice (some ⟨g, 0, none⟩) (n.vals.length + 1) cp) (n.vals.length + 1) (n.vals.map st ++ [(st (rtx (rts r)))]) → (wa2.alloc (.cells #[(st (rtx (rts r)))] 9)).grownBy U (Value.ownBlock (.slice av n.vals.length cv)) → (Value.ownBlock (.slice av n.vals.length cv) = some g ∨ g = wa2.heap.size + 1) → U.cell? ⟨nb, 2, none⟩ = some (.slice av n.vals.length cv) ∧ U.frozen? ⟨nb, 2, none⟩ = false ∧ Hid (RSt w nb (U.setCell ⟨nb, 2, none⟩ (.slice (some ⟨g, 0, none⟩) (n.vals.length + 1) cp)) (.slice (some ⟨ga1, 0, none⟩) (n.keys.length + 1) ca1) (.slice (some ⟨g, 0, none⟩) (n.vals.length + 1) cp) (.slice ad n.kids.length cd) (⟨n.leaf, (n.keys ++ [(rtx r)]), (n.vals ++ [(rtx (rts r))]), n.kids⟩ : Nd) (rts (rts r)))) := fun g cp U ob kb hb => by
     have sb := sb2
     have nbl := (kb.block nb (lt_of_block sb.box) (fun e => by have := (row_from sb.own.vals nb e.symm).1; omega)).trans sb.box
     have oo : OwnT (nb + 1) U (.slice (some ⟨g, 0, none⟩) (n.vals.length + 1) cp) (n.vals ++ [(rtx (rts r))]) := by show World.ownsRow _ _ _ _ _ _ _; simpa using ob
     exact ⟨(cells4 nbl).1.2.2.1, frz nbl 2, hide (sb.vals rfl oo kb (by rcases hb with h | h; exact .inl h; exact .inr (by simpa using h)))⟩
    have own2 := sb2.own.vals
    dsimp only at own2
    have lt2 := lt_of_block sb2.box
    clear sb2 KT2 CB2 SD2 SA2
    go_wp2_with (at_builtin; refine wpList_append_lies _ rfl _ _ 23 rfl (nb + 1) 9 _ (.string ⟨#[]⟩) 1 16 Tryz.underlying23 ii iz0 iz1 iz2 rfl (by decide) (.slice av n.vals.length cv) n.vals.length (n.vals.map st) rfl own2 ⟨wa2.heap.size, 0, none⟩ 1 1 [(st (rtx (rts r)))] rfl rfl (World.news_of_block (heap_alloc_last wa2 _)) (by simp [Value.oneCell']) (by decide) (by rw [show maxLen = 9223372036854775807 from rfl]; first | omega | (simp; omega)) (by first | omega | (simp; omega)) (by omega) (wa2.heap.size + 1) (by simp) ?_; intro ga2 ca2 wb2 ob2 kb2 hb2 _; obtain ⟨cc2, fz2, ST2⟩ := FI2.out ga2 ca2 wb2 ob2 kb2 hb2; clear ob2 kb2 hb2 FI2 own2 lt2)
    clear cc2 fz2
    go_step3
    exact And.intro ⟨j, nb, _, _, _, (⟨n.leaf, (n.keys ++ [(rtx r)]), (n.vals ++ [(rtx (rts r))]), n.kids⟩ : Nd), (rts (rts r)), ⟨_, _, _, _, _, _, _, _, _, _, _, _, _, _, _, _, _, _, _, _, _, _, _, _, _, _, _, _, _, _, _, _, _, _, _, _, _, _, _, _, _, _, _, _, _, _, _, _, _, _, _, _, _, _, _, _, _, _, _, _, _, _, _, _, _, _, _, _, rfl⟩, ST2.out, ⟨.inl ⟨rfl, hG2.out⟩, .inr ⟨by have := hj.out; simp; omega, by have := hj.out; simp; omega, by have := hj.out; simp; omega⟩⟩⟩ (by have := hj.out; simp [intOf]; omega)
  ·obtain ⟨hb1, hb2, hb3⟩ : n.keys.length + left ≤ 256 ∧ n.vals.length + left ≤ 256 ∧ n.kids.length + left ≤ 256 := by rcases hbd with h | h; cases h; exact h
   have hG := hide hg
   clear hg hbd
   simp only [findLabel]
   by_cases h0 : left = 0
   ·subst h0
    have hG2 : Hid (nread xs = rfin (rkids 0 r n)) := hG
    clear hG
    go_wp2
    have SD3 : Hid (RSt w nb w'.drew (.slice ak n.keys.length ck) (.slice av n.vals.length cv) (.slice ad n.kids.length cd) (⟨n.leaf, n.keys, n.vals, n.kids⟩ : Nd) r) := hide (S0.out.below ((Below.refl w'.heap.size w').drew))
    have KT3 := hide (pnumber_any w (w.heap.size + 1) w'.drew r 4 SD3.out.rdr (by decide) (by decide))
    have CB3 : Hid (∀ (U : World) (q : Rr), RSt w nb U (.slice ak n.keys.length ck) (.slice av n.vals.length cv) (.slice ad n.kids.length cd) (⟨n.leaf, n.keys, n.vals, n.kids⟩ : Nd) q → U.cell? ⟨nb, 3, none⟩ = some (.slice ad n.kids.length cd)) := fun U q h => (cells4 h.box).1.2.2.2
    refine wp_region_sched (fun w9 => w9.cell? ⟨nb, 3, none⟩ = some (.slice ad n.kids.length cd)) [(0, true), (1, true), (2, false), (3, false)] 4 mixed (by kernel_rfl) (fun _ _ _ _ h => h) ?_
    iterate 2
     refine sched_take (v := ?_) rfl (by kernel_rfl) (CB3.out _ _ SD3.out) ?_ ?_
     rotate_left
     ·intro w9 r1
      go_simp
      try with_reducible rfl
     try simp only [Act.put, List.setIfInBounds_toArray, List.set_cons_zero, List.set_cons_succ]
    refine sched_run rfl (by kernel_rfl) fun K hK => ?_
    refine wp_call_of 94 _ _ (by rfl) #[.pointer (some ⟨w.heap.size + 1, 0, none⟩), .int .i64 4] (by simp [Act.eval]) (Tryz.call94 _ _) KT3.out ?_
    rintro e wa3 ⟨rfl, ra3, ka3⟩
    have sa3 := SD3.out.call ka3 ra3
    refine ⟨_, rfl, hK _ _ (CB3.out _ _ sa3) ?_⟩
    clear hK K
    have SA3 := hide sa3
    clear sa3 ra3 ka3
    try simp only [Act.put, List.setIfInBounds_toArray, List.set_cons_zero, List.set_cons_succ]
    refine sched_run rfl (by kernel_rfl) fun K hK => ?_
    have sb3 := SA3.out.below ((Below.refl wa3.heap.size wa3).alloc (Nat.le_refl _) (.cells #[(.int .i64 ((rnum 4 r : Nat) : Int))] 3))
    go_simp
    refine hK _ _ (CB3.out _ _ sb3) ?_
    clear hK K
    try simp only [Act.put, List.setIfInBounds_toArray, List.set_cons_zero, List.set_cons_succ]
    show wpList _ _ _ _ _ _
    dsimp only [List.drop]
    have FI3 : Hid (∀ (g cp : Nat) (U : World), U.ownsRow (nb + 1) 3 1 (.slice (some ⟨g, 0, none⟩) (n.kids.length + 1) cp) (n.kids.length + 1) (n.kids.map (Value.int .i64) ++ [(.int .i64 ((rnum 4 r : Nat) : Int))]) → (wa3.alloc (.cells #[(.int .i64 ((rnum 4 r : Nat) : Int))] 3)).grownBy U (Value.ownBlock (.slice ad n.kids.length cd)) → (Value.ownBlock (.slice ad n.kids.length cd) = some g ∨ g = wa3.heap.size + 1) → U.cell? ⟨nb, 3, none⟩ = some (.slice ad n.kids.length cd) ∧ U.frozen? ⟨nb, 3, none⟩ = false ∧ Hid (RSt w nb (U.setCell ⟨nb, 3, none⟩ (.slice (some ⟨g, 0, none⟩) (n.kids.length + 1) cp)) (.slice ak n.keys.length ck) (.slice av n.vals.length cv) (.slice (some ⟨g, 0, none⟩) (n.kids.length + 1) cp) (⟨n.leaf, n.keys, n.vals, (n.kids ++ [((rnum 4 r : Nat) : Int)])⟩ : Nd) (rst 4 r))) := fun g cp U ob kb hb => by
     have sb := sb3
     have nbl := (kb.block nb (lt_of_block sb.box) (fun e => by have := (row_from sb.own.kids nb e.symm).1; omega)).trans sb.box
     have oo : OwnJ (nb + 1) U (.slice (some ⟨g, 0, none⟩) (n.kids.length + 1) cp) (n.kids ++ [((rnum 4 r : Nat) : Int)]) := by show World.ownsRow _ _ _ _ _ _ _; simpa using ob
     exact ⟨(cells4 nbl).1.2.2.2, frz nbl 3, hide (sb.kids rfl oo kb (by rcases hb with h | h; exact .inl h; exact .inr (by simpa using h)))⟩
    have own3 := sb3.own.kids
    dsimp only at own3
    have lt3 := lt_of_block sb3.box
    clear sb3 KT3 CB3 SD3 SA3
    go_wp2_with (at_builtin; refine wpList_append_lies _ rfl _ _ 74 rfl (nb + 1) 3 _ (.int .i64 0) 1 8 Tryz.underlying74 ji jz0 jz1 jz2 rfl (by decide) (.slice ad n.kids.length cd) n.kids.length (n.kids.map (Value.int .i64)) rfl own3 ⟨wa3.heap.size, 0, none⟩ 1 1 [(.int .i64 ((rnum 4 r : Nat) : Int))] rfl rfl (World.news_of_block (heap_alloc_last wa3 _)) (by simp [Value.oneCell']) (by decide) (by rw [show maxLen = 9223372036854775807 from rfl]; first | omega | (simp; omega)) (by first | omega | (simp; omega)) (by omega) (wa3.heap.size + 1) (by simp) ?_; intro ga3 ca3 wb3 ob3 kb3 hb3 _; obtain ⟨cc3, fz3, ST3⟩ := FI3.out ga3 ca3 wb3 ob3 kb3 hb3; clear ob3 kb3 hb3 FI3 own3 lt3)
    clear cc3 fz3
    go_step3
    exact And.intro ⟨0, nb, _, _, _, (⟨n.leaf, n.keys, n.vals, (n.kids ++ [((rnum 4 r : Nat) : Int)])⟩ : Nd), (rst 4 r), ⟨_, _, _, _, _, _, _, _, _, _, _, _, _, _, _, _, _, _, _, _, _, _, _, _, _, _, _, _, _, _, _, _, _, _, _, _, _, _, _, _, _, _, _, _, _, _, _, _, _, _, _, _, _, _, _, _, _, _, _, _, _, _, _, _, _, _, _, _, rfl⟩, ST3.out, ⟨.inr (.inr ⟨rfl, hG2.out⟩), .inl rfl⟩⟩ (by simp [intOf])
   ·skip
    obtain ⟨j, hj⟩ : ∃ j, left = j + 1 := ⟨left - 1, by omega⟩
    have hj1 : (left : Int) - 1 = (j : Int) := by omega
    have hj3 : IntKind.i64.wrap (j : Int) = (j : Int) := IntWalk.i64_in _ (by omega)
    have hj4 : ((left : Int) == 0) = false := ieq_f (by omega)
    replace hj := hide hj
    clear h0
    have hG2 : Hid (nread xs = rfin (rkids (j + 1) r n)) := by show _ = _; rw [← hj.out]; exact hG.out
    clear hG
    go_wp2
    have SD4 : Hid (RSt w nb w'.drew (.slice ak n.keys.length ck) (.slice av n.vals.length cv) (.slice ad n.kids.length cd) (⟨n.leaf, n.keys, n.vals, n.kids⟩ : Nd) r) := hide (S0.out.below ((Below.refl w'.heap.size w').drew))
    have KT4 := hide (pnumber_any w (w.heap.size + 1) w'.drew r 4 SD4.out.rdr (by decide) (by decide))
    have CB4 : Hid (∀ (U : World) (q : Rr), RSt w nb U (.slice ak n.keys.length ck) (.slice av n.vals.length cv) (.slice ad n.kids.length cd) (⟨n.leaf, n.keys, n.vals, n.kids⟩ : Nd) q → U.cell? ⟨nb, 3, none⟩ = some (.slice ad n.kids.length cd)) := fun U q h => (cells4 h.box).1.2.2.2
    refine wp_region_sched (fun w9 => w9.cell? ⟨nb, 3, none⟩ = some (.slice ad n.kids.length cd)) [(0, true), (1, true), (2, false), (3, false)] 4 mixed (by kernel_rfl) (fun _ _ _ _ h => h) ?_
    iterate 2
     refine sched_take (v := ?_) rfl (by kernel_rfl) (CB4.out _ _ SD4.out) ?_ ?_
     rotate_left
     ·intro w9 r1
      go_simp
      try with_reducible rfl
     try simp only [Act.put, List.setIfInBounds_toArray, List.set_cons_zero, List.set_cons_succ]
    refine sched_run rfl (by kernel_rfl) fun K hK => ?_
    refine wp_call_of 94 _ _ (by rfl) #[.pointer (some ⟨w.heap.size + 1, 0, none⟩), .int .i64 4] (by simp [Act.eval]) (Tryz.call94 _ _) KT4.out ?_
    rintro e wa4 ⟨rfl, ra4, ka4⟩
    have sa4 := SD4.out.call ka4 ra4
    refine ⟨_, rfl, hK _ _ (CB4.out _ _ sa4) ?_⟩
    clear hK K
    have SA4 := hide sa4
    clear sa4 ra4 ka4
    try simp only [Act.put, List.setIfInBounds_toArray, List.set_cons_zero, List.set_cons_succ]
    refine sched_run rfl (by kernel_rfl) fun K hK => ?_
    have sb4 := SA4.out.below ((Below.refl wa4.heap.size wa4).alloc (Nat.le_refl _) (.cells #[(.int .i64 ((rnum 4 r : Nat) : Int))] 3))
    go_simp
    refine hK _ _ (CB4.out _ _ sb4) ?_
    clear hK K
    try simp only [Act.put, List.setIfInBounds_toArray, List.set_cons_zero, List.set_cons_succ]
    show wpList _ _ _ _ _ _
    dsimp only [List.drop]
    have FI4 : Hid (∀ (g cp : Nat) (U : World), U.ownsRow (nb + 1) 3 1 (.slice (some ⟨g, 0, none⟩) (n.kids.length + 1) cp) (n.kids.length + 1) (n.kids.map (Value.int .i64) ++ [(.int .i64 ((rnum 4 r : Nat) : Int))]) → (wa4.alloc (.cells #[(.int .i64 ((rnum 4 r : Nat) : Int))] 3)).grownBy U (Value.ownBlock (.slice ad n.kids.length cd)) → (Value.ownBlock (.slice ad n.kids.length cd) = some g ∨ g = wa4.heap.size + 1) → U.cell? ⟨nb, 3, none⟩ = some (.slice ad n.kids.length cd) ∧ U.frozen? ⟨nb, 3, none⟩ = false ∧ Hid (RSt w nb (U.setCell ⟨nb, 3, none⟩ (.slice (some ⟨g, 0, none⟩) (n.kids.length + 1) cp)) (.slice ak n.keys.length ck) (.slice av n.vals.length cv) (.slice (some ⟨g, 0, none⟩) (n.kids.length + 1) cp) (⟨n.leaf, n.keys, n.vals, (n.kids ++ [((rnum 4 r : Nat) : Int)])⟩ : Nd) (rst 4 r))) := fun g cp U ob kb hb => by
     have sb := sb4
     have nbl := (kb.block nb (lt_of_block sb.box) (fun e => by have := (row_from sb.own.kids nb e.symm).1; omega)).trans sb.box
     have oo : OwnJ (nb + 1) U (.slice (some ⟨g, 0, none⟩) (n.kids.length + 1) cp) (n.kids ++ [((rnum 4 r : Nat) : Int)]) := by show World.ownsRow _ _ _ _ _ _ _; simpa using ob
     exact ⟨(cells4 nbl).1.2.2.2, frz nbl 3, hide (sb.kids rfl oo kb (by rcases hb with h | h; exact .inl h; exact .inr (by simpa using h)))⟩
    have own4 := sb4.own.kids
    dsimp only at own4
    have lt4 := lt_of_block sb4.box
    clear sb4 KT4 CB4 SD4 SA4
    go_wp2_with (at_builtin; refine wpList_append_lies _ rfl _ _ 74 rfl (nb + 1) 3 _ (.int .i64 0) 1 8 Tryz.underlying74 ji jz0 jz1 jz2 rfl (by decide) (.slice ad n.kids.length cd) n.kids.length (n.kids.map (Value.int .i64)) rfl own4 ⟨wa4.heap.size, 0, none⟩ 1 1 [(.int .i64 ((rnum 4 r : Nat) : Int))] rfl rfl (World.news_of_block (heap_alloc_last wa4 _)) (by simp [Value.oneCell']) (by decide) (by rw [show maxLen = 9223372036854775807 from rfl]; first | omega | (simp; omega)) (by first | omega | (simp; omega)) (by omega) (wa4.heap.size + 1) (by simp) ?_; intro ga4 ca4 wb4 ob4 kb4 hb4 _; obtain ⟨cc4, fz4, ST4⟩ := FI4.out ga4 ca4 wb4 ob4 kb4 hb4; clear ob4 kb4 hb4 FI4 own4 lt4)
    clear cc4 fz4
    obtain ⟨V5, hV5⟩ : ∃ U, U = (wb4.setCell ⟨nb, 3, none⟩ (.slice (some ⟨ga4, 0, none⟩) (n.kids.length + 1) ca4)) := ⟨_, rfl⟩
    rw [← hV5]
    rw [← hV5] at ST4
    replace hV5 := hide hV5
    have SD5 : Hid (RSt w nb V5.drew (.slice ak n.keys.length ck) (.slice av n.vals.length cv) (.slice (some ⟨ga4, 0, none⟩) (n.kids.length + 1) ca4) (⟨n.leaf, n.keys, n.vals, (n.kids ++ [((rnum 4 r : Nat) : Int)])⟩ : Nd) (rst 4 r)) := hide (ST4.out.below ((Below.refl V5.heap.size V5).drew))
    have KT5 := hide (ptxt_any w (w.heap.size + 1) V5.drew (rst 4 r) SD5.out.rdr)
    have CB5 : Hid (∀ (U : World) (q : Rr), RSt w nb U (.slice ak n.keys.length ck) (.slice av n.vals.length cv) (.slice (some ⟨ga4, 0, none⟩) (n.kids.length + 1) ca4) (⟨n.leaf, n.keys, n.vals, (n.kids ++ [((rnum 4 r : Nat) : Int)])⟩ : Nd) q → U.cell? ⟨nb, 1, none⟩ = some (.slice ak n.keys.length ck)) := fun U q h => (cells4 h.box).1.2.1
    refine wp_region_sched (fun w9 => w9.cell? ⟨nb, 1, none⟩ = some (.slice ak n.keys.length ck)) [(0, true), (1, true), (2, false), (3, false)] 4 mixed (by kernel_rfl) (fun _ _ _ _ h => h) ?_
    iterate 2
     refine sched_take (v := ?_) rfl (by kernel_rfl) (CB5.out _ _ SD5.out) ?_ ?_
     rotate_left
     ·intro w9 r1
      go_simp
      try with_reducible rfl
     try simp only [Act.put, List.setIfInBounds_toArray, List.set_cons_zero, List.set_cons_succ]
    refine sched_run rfl (by kernel_rfl) fun K hK => ?_
    refine wp_call_of 95 _ _ (by rfl) #[.pointer (some ⟨w.heap.size + 1, 0, none⟩)] (by simp [Act.eval]) (Tryz.call95 _ _) KT5.out ?_
    rintro e wa5 ⟨rfl, ra5, ka5⟩
    have sa5 := SD5.out.call ka5 ra5
    refine ⟨_, rfl, hK _ _ (CB5.out _ _ sa5) ?_⟩
    clear hK K
    have SA5 := hide sa5
    clear sa5 ra5 ka5
    try simp only [Act.put, List.setIfInBounds_toArray, List.set_cons_zero, List.set_cons_succ]
    refine sched_run rfl (by kernel_rfl) fun K hK => ?_
    have sb5 := SA5.out.below ((Below.refl wa5.heap.size wa5).alloc (Nat.le_refl _) (.cells #[(st (rtx (rst 4 r)))] 9))
    go_simp
    refine hK _ _ (CB5.out _ _ sb5) ?_
    clear hK K
    try simp only [Act.put, List.setIfInBounds_toArray, List.set_cons_zero, List.set_cons_succ]
    show wpList _ _ _ _ _ _
    dsimp only [List.drop]
    have FI5 : Hid (∀ (g cp : Nat) (U : World), U.ownsRow (nb + 1) 9 1 (.slice (some ⟨g, 0, none⟩) (n.keys.length + 1) cp) (n.keys.length + 1) (n.keys.map st ++ [(st (rtx (rst 4 r)))]) → (wa5.alloc (.cells #[(st (rtx (rst 4 r)))] 9)).grownBy U (Value.ownBlock (.slice ak n.keys.length ck)) → (Value.ownBlock (.slice ak n.keys.length ck) = some g ∨ g = wa5.heap.size + 1) → U.cell? ⟨nb, 1, none⟩ = some (.slice ak n.keys.length ck) ∧ U.frozen? ⟨nb, 1, none⟩ = false ∧ Hid (RSt w nb (U.setCell ⟨nb, 1, none⟩ (.slice (some ⟨g, 0, none⟩) (n.keys.length + 1) cp)) (.slice (some ⟨g, 0, none⟩) (n.keys.length + 1) cp) (.slice av n.vals.length cv) (.slice (some ⟨ga4, 0, none⟩) (n.kids.length + 1) ca4) (⟨n.leaf, (n.keys ++ [(rtx (rst 4 r))]), n.vals, (n.kids ++ [((rnum 4 r : Nat) : Int)])⟩ : Nd) (rts (rst 4 r)))) := fun g cp U ob kb hb => by
     have sb := sb5
     have nbl := (kb.block nb (lt_of_block sb.box) (fun e => by have := (row_from sb.own.keys nb e.symm).1; omega)).trans sb.box
     have oo : OwnT (nb + 1) U (.slice (some ⟨g, 0, none⟩) (n.keys.length + 1) cp) (n.keys ++ [(rtx (rst 4 r))]) := by show World.ownsRow _ _ _ _ _ _ _; simpa using ob
     exact ⟨(cells4 nbl).1.2.1, frz nbl 1, hide (sb.keys rfl oo kb (by rcases hb with h | h; exact .inl h; exact .inr (by simpa using h)))⟩
    have own5 := sb5.own.keys
    dsimp only at own5
    have lt5 := lt_of_block sb5.box
    clear sb5 KT5 CB5 SD5 SA5
    go_wp2_with (at_builtin; refine wpList_append_lies _ rfl _ _ 23 rfl (nb + 1) 9 _ (.string ⟨#[]⟩) 1 16 Tryz.underlying23 ii iz0 iz1 iz2 rfl (by decide) (.slice ak n.keys.length ck) n.keys.length (n.keys.map st) rfl own5 ⟨wa5.heap.size, 0, none⟩ 1 1 [(st (rtx (rst 4 r)))] rfl rfl (World.news_of_block (heap_alloc_last wa5 _)) (by simp [Value.oneCell']) (by decide) (by rw [show maxLen = 9223372036854775807 from rfl]; first | omega | (simp; omega)) (by first | omega | (simp; omega)) (by omega) (wa5.heap.size + 1) (by simp) ?_; intro ga5 ca5 wb5 ob5 kb5 hb5 _; obtain ⟨cc5, fz5, ST5⟩ := FI5.out ga5 ca5 wb5 ob5 kb5 hb5; clear ob5 kb5 hb5 FI5 own5 lt5)
    clear cc5 fz5
    go_step3
    exact And.intro ⟨j, nb, _, _, _, (⟨n.leaf, (n.keys ++ [(rtx (rst 4 r))]), n.vals, (n.kids ++ [((rnum 4 r : Nat) : Int)])⟩ : Nd), (rts (rst 4 r)), ⟨_, _, _, _, _, _, _, _, _, _, _, _, _, _, _, _, _, _, _, _, _, _, _, _, _, _, _, _, _, _, _, _, _, _, _, _, _, _, _, _, _, _, _, _, _, _, _, _, _, _, _, _, _, _, _, _, _, _, _, _, _, _, _, _, _, _, _, _, rfl⟩, ST5.out, ⟨.inr (.inl ⟨rfl, hG2.out⟩), .inr ⟨by have := hj.out; simp; omega, by have := hj.out; simp; omega, by have := hj.out; simp; omega⟩⟩⟩ (by have := hj.out; simp [intOf]; omega)
  ·have hG := hide hg
   clear hg hbd
   simp only [findLabel]
   obtain ⟨ra, rc, hr⟩ := S0.out.rdr
   obtain ⟨⟨A0, A1⟩, _⟩ := cells2r hr.box
   have RES := hide S0.out.res
   have BEL := hide hr.bel
   clear hr
   obtain ⟨⟨R0, R1, R2, R3⟩, Rf⟩ := cells4 RES.out
   have Rf0 := Rf 0
   have Rf1 := Rf 1
   have Rf2 := Rf 2
   have Rf3 := Rf 3
   clear Rf
   obtain ⟨⟨N0, N1, N2, N3⟩, _⟩ := cells4 S0.out.box
   cases hsh : r.short with
   | true =>
    rw [hsh] at A1
    have e : Hid (nread xs = (none9, 8)) := by show _ = _; rw [hG.out]; unfold rfin; rw [hsh]; rfl
    replace hsh := hide hsh
    go_wp2
    rw [jumpN_ret]
    refine retNT rfl rfl w.heap.size rfl _ _ (0, 0) (heap_set4 (u := w') RES.out _ _ _ _) _ Tryz.underlying76 rfl info_ndP (.int .i64 8) rfl ?_
    exact ⟨nil9, nil9, nil9, by rw [e.out]; rfl, by rw [e.out]; exact OwnN.nil _ _ _, below_set4n BEL.out (Nat.le_refl _) _ _ _ _, Dj.nil⟩
   | false =>
    rw [hsh] at A1
    by_cases hl : 0 < r.rest.length
    ·have e : Hid (nread xs = (none9, 23)) := by show _ = _; rw [hG.out]; unfold rfin; rw [hsh, if_neg (by decide), if_pos hl]
     have hq : (0 : Int) < (r.rest.length : Int) := by omega
     replace hsh := hide hsh
     go_wp2
     rw [jumpN_ret]
     refine retNT rfl rfl w.heap.size rfl _ _ (0, 0) (heap_set4 (u := w') RES.out _ _ _ _) _ Tryz.underlying76 rfl info_ndP (.int .i64 23) rfl ?_
     exact ⟨nil9, nil9, nil9, by rw [e.out]; rfl, by rw [e.out]; exact OwnN.nil _ _ _, below_set4n BEL.out (Nat.le_refl _) _ _ _ _, Dj.nil⟩
    ·have e : Hid (nread xs = (n, 0)) := by show _ = _; rw [hG.out]; unfold rfin; rw [hsh, if_neg (by decide), if_neg hl]
     have hq : ¬ (0 : Int) < (r.rest.length : Int) := by omega
     have hq2 : r.rest.length = 0 := by omega
     rw [hq2] at A0
     replace hsh := hide hsh
     replace hq2 := hide hq2
     clear hq hl
     go_wp2
     rw [jumpN_ret]
     refine retNT rfl rfl w.heap.size rfl _ _ (0, 0) (heap_set4 (u := w') RES.out _ _ _ _) _ Tryz.underlying76 rfl info_ndP (.int .i64 0) rfl ?_
     have hnb := S0.out.hnb
     have hlt : w.heap.size < nb + 1 := by omega
     exact ⟨_, _, _, by rw [e.out], by rw [e.out]; exact ((((S0.out.own.set hlt 0 _).set hlt 1 _).set hlt 2 _).set hlt 3 _).mono (by omega), below_set4n BEL.out (Nat.le_refl _) _ _ _ _, ⟨S0.out.d1, S0.out.d2, S0.out.d3⟩⟩
end Go.Proofs.YtgmkknonnidgaaaGreat

namespace Go.Proofs.YtgmkknonnidgaaaGreat
open Go.RowKit
theorem rfin_small (p : Nd × Rr) : (rfin p).1 = p.1 ∨ (rfin p).1 = none9 := by
 unfold rfin
 split
 ·exact .inr rfl
 ·split
  ·exact .inr rfl
  ·exact .inl rfl
theorem rpairs_len : ∀ (k : Nat) (r : Rr) (n : Nd), (rpairs k r n).1.keys.length = n.keys.length + k ∧ (rpairs k r n).1.vals.length = n.vals.length + k ∧ (rpairs k r n).1.kids.length = n.kids.length
 | 0, r, n => ⟨rfl, rfl, rfl⟩
 | k + 1, r, n => by
  have := rpairs_len k (rts (rts r)) ⟨n.leaf, n.keys ++ [rtx r], n.vals ++ [rtx (rts r)], n.kids⟩
  simp only [rpairs] at this ⊢
  simp at this
  omega
theorem rkids_len : ∀ (k : Nat) (r : Rr) (n : Nd), (rkids k r n).1.keys.length = n.keys.length + k ∧ (rkids k r n).1.vals.length = n.vals.length ∧ (rkids k r n).1.kids.length = n.kids.length + k + 1
 | 0, r, n => by simp [rkids]
 | k + 1, r, n => by
  have := rkids_len k (rts (rst 4 r)) ⟨n.leaf, n.keys ++ [rtx (rst 4 r)], n.vals, n.kids ++ [((rnum 4 r : Nat) : Int)]⟩
  simp only [rkids] at this ⊢
  simp at this
  omega
theorem nread_fit (xs : List UInt8) : nfit (nread xs).1 := by
 have hl : rnum 1 (rst 1 ⟨xs, false⟩) < 256 := rnum_lt 1 _
 have hn : nfit none9 := ⟨by simp [none9], by simp [none9], by simp [none9]⟩
 unfold nread
 dsimp only
 split
 ·exact hn
 ·split
  ·rcases rfin_small (rpairs (rnum 1 (rst 1 ⟨xs, false⟩)) (rst 1 (rst 1 ⟨xs, false⟩)) ⟨true, [], [], []⟩) with e | e
   ·rw [e]
    obtain ⟨p, q, r⟩ := rpairs_len (rnum 1 (rst 1 ⟨xs, false⟩)) (rst 1 (rst 1 ⟨xs, false⟩)) ⟨true, [], [], []⟩
    unfold nfit
    rw [p, q, r]
    simp
    omega
   ·rw [e]; exact hn
  ·split
   ·rcases rfin_small (rkids (rnum 1 (rst 1 ⟨xs, false⟩)) (rst 1 (rst 1 ⟨xs, false⟩)) ⟨false, [], [], []⟩) with e | e
    ·rw [e]
     obtain ⟨p, q, r⟩ := rkids_len (rnum 1 (rst 1 ⟨xs, false⟩)) (rst 1 (rst 1 ⟨xs, false⟩)) ⟨false, [], [], []⟩
     unfold nfit
     rw [p, q, r]
     simp
     omega
    ·rw [e]; exact hn
   ·exact hn
set_option maxRecDepth 100000 in
set_option maxHeartbeats 4000000 in
theorem pdecD_any (w : World) (v : Value) (xs : List UInt8) (h : Rd w v xs) :
  Calls Tryz.prog 56 #[v] w fun e w' => ∃ kv vv dv, e = .returned (.tuple #[nv (ndec xs).1 kv vv dv, .int .i64 (ndec xs).2]) ∧ OwnN w.heap.size w' kv vv dv (ndec xs).1 ∧ Below w.heap.size w w' ∧ Dj kv vv dv := by
 obtain ⟨X, hX, D, bX, sX⟩ := boxedN w #[.bool false, nil9, nil9, nil9] 76
 obtain ⟨a, c, rfl⟩ := h.slice
 have KR := hide (preadD_any X _ xs (h.to bX))
 have hfit := hide (nread_fit xs)
 have RX := hide (And.intro D sX)
 have BX := hide bX
 obtain ⟨nr, hnr⟩ : ∃ p, p = nread xs := ⟨_, rfl⟩
 have hd : Hid (ndec xs = if nr.2 = 0 then if ncheck nr.1 = 0 then nr else (none9, ncheck nr.1) else (none9, nr.2)) := by show _ = _; unfold ndec; rw [hnr]
 rw [← hnr] at KR hfit
 generalize ndec xs = dd at *
 clear h D bX sX hnr
 go_enter Tryz.func56, Tryz.ntmps56
 go_wp2_with fail
 rw [← hX]
 replace hX := hide hX
 refine KR.out.mono ?_
 rintro e w1 ⟨kv, vv, dv, rfl, o1, b1, dj1⟩
 have HJ := hide dj1
 clear KR dj1
 obtain ⟨n, err⟩ := nr
 dsimp only at *
 obtain ⟨ak, ck, av, cv, ad, cd, rfl, rfl, rfl⟩ := o1.rd.slices
 -- the node's box
 obtain ⟨V, hV⟩ : ∃ V, V = w1.alloc (.cells #[.bool n.leaf, .slice ak n.keys.length ck, .slice av n.vals.length cv, .slice ad n.kids.length cd] 76) := ⟨_, rfl⟩
 have bV : Below w1.heap.size w1 V := by rw [hV]; exact (Below.refl _ _).alloc (Nat.le_refl _) _
 have gV : V.heap[w1.heap.size]? = some (.cells #[.bool n.leaf, .slice ak n.keys.length ck, .slice av n.vals.length cv, .slice ad n.kids.length cd] 76 (0, 0)) := by rw [hV]; exact heap_alloc_last w1 _
 have o2 := o1.to bV
 have KC := hide (pcheck9_any V _ _ _ n o2.rd hfit.out)
 have b2 : Below X.heap.size X V := b1.trans (bV.mono b1.size)
 have RES : Hid (∀ U, Below V.heap.size V U → U.heap[w.heap.size]? = some (.cells #[.bool false, nil9, nil9, nil9] 76 (0, 0))) := fun U b => ((b2.trans (b.mono b2.size)).block _ (by have := RX.out.2; omega)).trans RX.out.1
 have BB : Hid (∀ U, Below V.heap.size V U → Below w.heap.size w U) := fun U b => BX.out.trans ((b2.trans (b.mono b2.size)).mono BX.out.size)
 have BOX : Hid (∀ U, Below V.heap.size V U → U.heap[w1.heap.size]? = some (.cells #[.bool n.leaf, .slice ak n.keys.length ck, .slice av n.vals.length cv, .slice ad n.kids.length cd] 76 (0, 0))) := fun U b => (b.block _ (lt_of_block gV)).trans gV
 have OO : Hid (∀ U, Below V.heap.size V U → OwnN (w.heap.size + 1) U (.slice ak n.keys.length ck) (.slice av n.vals.length cv) (.slice ad n.kids.length cd) n) := fun U b => (o2.to b).mono (by have := RX.out.2; omega)
 have D1 := (cells4 (RES.out V (Below.refl _ _)))
 obtain ⟨⟨R0, R1, R2, R3⟩, Rf⟩ := D1
 have Rf0 := Rf 0
 have Rf1 := Rf 1
 have Rf2 := Rf 2
 have Rf3 := Rf 3
 obtain ⟨⟨N0, N1, N2, N3⟩, _⟩ := cells4 gV
 clear o1 o2 b1 b2 bV gV Rf RX BX
 by_cases he : err = 0
 ·subst he
  rw [if_pos rfl] at hd
  rw [hV] at N0 N1 N2 N3
  go_wp2_with fail
  rw [← hV]
  clear N0 N1 N2 N3 R0 R1 R2 R3 Rf0 Rf1 Rf2 Rf3
  replace hV := hide hV
  refine KC.out.mono ?_
  rintro e w2 ⟨rfl, b2⟩
  clear KC
  obtain ⟨⟨R0, R1, R2, R3⟩, Rf⟩ := cells4 (RES.out w2 b2)
  have Rf0 := Rf 0
  have Rf1 := Rf 1
  have Rf2 := Rf 2
  have Rf3 := Rf 3
  obtain ⟨⟨N0, N1, N2, N3⟩, _⟩ := cells4 (BOX.out w2 b2)
  have B2 := hide b2
  clear Rf b2
  by_cases hz : ncheck n = 0
  ·rw [if_pos hz] at hd
   rw [hz]
   replace hz := hide hz
   go_wp2
   refine retNT rfl rfl w.heap.size rfl _ _ (0, 0) (heap_set4 (u := w2) (RES.out w2 B2.out) _ _ _ _) _ Tryz.underlying76 rfl info_ndP (.int .i64 0) rfl ?_
   have hlt : w.heap.size < w.heap.size + 1 := by omega
   exact ⟨_, _, _, by rw [hd.out], by rw [hd.out]; exact (((((OO.out w2 B2.out).set hlt 0 _).set hlt 1 _).set hlt 2 _).set hlt 3 _).mono (by omega), below_set4n (BB.out w2 B2.out) (Nat.le_refl _) _ _ _ _, HJ.out⟩
  ·rw [if_neg hz] at hd
   generalize ncheck n = Z at *
   go_wp2
   refine retNT rfl rfl w.heap.size rfl _ _ (0, 0) (heap_set4 (u := w2) (RES.out w2 B2.out) _ _ _ _) _ Tryz.underlying76 rfl info_ndP (.int .i64 Z) rfl ?_
   exact ⟨nil9, nil9, nil9, by rw [hd.out]; rfl, by rw [hd.out]; exact OwnN.nil _ _ _, below_set4n (BB.out w2 B2.out) (Nat.le_refl _) _ _ _ _, Dj.nil⟩
 ·rw [if_neg he] at hd
  rw [hV] at R0 R1 R2 R3 Rf0 Rf1 Rf2 Rf3
  go_wp2
  rw [← hV]
  refine retNT rfl rfl w.heap.size rfl _ _ (0, 0) (heap_set4 (u := V) (RES.out V (Below.refl _ _)) _ _ _ _) _ Tryz.underlying76 rfl info_ndP (.int .i64 err) rfl ?_
  exact ⟨nil9, nil9, nil9, by rw [hd.out]; rfl, by rw [hd.out]; exact OwnN.nil _ _ _, below_set4n (BB.out V (Below.refl _ _)) (Nat.le_refl _) _ _ _ _, Dj.nil⟩
end Go.Proofs.YtgmkknonnidgaaaGreat

namespace Go.Proofs.YtgmkknonnidgaaaGreat
open Go.RowKit
def nfind (n : Nd) (key : Str) : Int := if ncheck n = 0 then nfnd n.leaf key n.keys else 0
def nhas (n : Nd) (key : Str) : Bool := if ncheck n = 0 then nis key n.keys else false
theorem ret_ibi {a b : Int} {x y : Bool} {c d : Int} (h1 : a = b) (h2 : x = y) (h3 : c = d) : Ending.returned (.tuple #[.int .i64 a, .bool x, .int .i64 c]) = Ending.returned (.tuple #[.int .i64 b, .bool y, .int .i64 d]) := by rw [h1, h2, h3]
end Go.Proofs.YtgmkknonnidgaaaGreat

namespace Go.Proofs.YtgmkknonnidgaaaGreat
open Go.RowKit
theorem ret_si9 {a b c d : Value} (h1 : a = c) (h2 : b = d) : Ending.returned (.tuple #[a, b]) = .returned (.tuple #[c, d]) := by rw [h1, h2]
theorem keys_lt {n : Nd} (h : nkeys n n.keys.length) : ∀ (j i : Nat), i < j → j < n.keys.length → slt (nkey n i) (nkey n j) = true
 | 0, i, hi, _ => by omega
 | j + 1, i, hi, hj => by
  have hs := (h (j + 1) hj).2.2 (by omega)
  rw [Nat.add_sub_cancel] at hs
  by_cases e : i = j
  ·subst e; exact hs
  ·exact slt_trans (keys_lt h j i (by omega) (by omega)) hs
theorem nkey_at {n : Nd} {k : Nat} {x : Str} (h : n.keys[k]? = some x) : nkey n k = x := by unfold nkey; rw [h]; rfl
theorem nfnd_cut (leaf : Bool) (key : Str) : ∀ (l : List Str) (i : Nat), i ≤ l.length → (∀ j x, j < i → l[j]? = some x → slt x key = true) → (∀ j x, i ≤ j → l[j]? = some x → slt x key = false ∧ (x == key) = false) → nfnd leaf key l = i ∧ nis key l = false
 | [], i, hi, _, _ => by
  have : i = 0 := by simpa using hi
  subst this; exact ⟨rfl, rfl⟩
 | x :: r, 0, _, h1, h2 => by
  have hx := h2 0 x (Nat.le_refl _) rfl
  obtain ⟨a, b⟩ := nfnd_cut leaf key r 0 (Nat.zero_le _) (fun j y hj => by omega) (fun j y _ hy => h2 (j + 1) y (by omega) (by simpa using hy))
  refine ⟨?_, ?_⟩
  ·simp only [nfnd, hx.1, hx.2, a]; simp
  ·unfold nis at b ⊢; rw [List.any_cons, hx.2, b]; rfl
 | x :: r, i + 1, hi, h1, h2 => by
  have hx := h1 0 x (by omega) rfl
  obtain ⟨a, b⟩ := nfnd_cut leaf key r i (by simpa using hi) (fun j y hj hy => h1 (j + 1) y (by omega) (by simpa using hy)) (fun j y hj hy => h2 (j + 1) y (by omega) (by simpa using hy))
  have hne : (x == key) = false := by
   apply Bool.eq_false_iff.2
   intro e
   have : x = key := by simpa using e
   subst this; rw [slt_irr] at hx; cases hx
  refine ⟨?_, ?_⟩
  ·simp only [nfnd, hx, a]; simp; omega
  ·unfold nis at b ⊢; rw [List.any_cons, hne, b]; rfl
theorem nfnd_hit (leaf : Bool) (key : Str) : ∀ (l : List Str) (i : Nat), l[i]? = some key → (∀ j x, j < i → l[j]? = some x → slt x key = true) → (∀ j x, i < j → l[j]? = some x → slt key x = true) → nfnd leaf key l = (i : Int) + (if leaf then 0 else 1) ∧ nis key l = true
 | [], i, h, _, _ => by simp at h
 | x :: r, 0, h, h1, h2 => by
  have hx : x = key := by simpa using h
  subst hx
  obtain ⟨a, _⟩ := nfnd_cut leaf x r 0 (Nat.zero_le _) (fun j y hj => by omega) (fun j y _ hy => by
   have := h2 (j + 1) y (by omega) (by simpa using hy)
   refine ⟨slt_asym this, ?_⟩
   apply Bool.eq_false_iff.2
   intro e
   have e' : y = x := by simpa using e
   subst e'; rw [slt_irr] at this; cases this)
  refine ⟨?_, ?_⟩
  ·simp only [nfnd, slt_irr, a]; cases leaf <;> simp
  ·unfold nis; simp
 | x :: r, i + 1, h, h1, h2 => by
  have hx := h1 0 x (by omega) rfl
  obtain ⟨a, b⟩ := nfnd_hit leaf key r i (by simpa using h) (fun j y hj hy => h1 (j + 1) y (by omega) (by simpa using hy)) (fun j y hj hy => h2 (j + 1) y (by omega) (by simpa using hy))
  refine ⟨?_, ?_⟩
  ·simp only [nfnd, hx, a]; simp; omega
  ·unfold nis at b ⊢; simp at b ⊢; exact .inr b
set_option maxRecDepth 100000 in
theorem pnan_any (w : World) (x : Str) : Calls Tryz.prog 100 #[st x] w fun e w' => e = .returned (.bool false) ∧ w = w' := by
 have h : (x != x) = false := by simp
 have h' : (x == x) = true := by simp
 go_enter Tryz.func100, Tryz.ntmps100
 go_wp2
 go_ret
 exact ⟨by first | rfl | simp, rfl⟩
set_option maxRecDepth 100000 in
theorem psnan_any (w : World) (x : Str) : Calls Tryz.prog 85 #[st x] w fun e w' => e = .returned (.bool false) ∧ w = w' := by
 have h : (x != x) = false := by simp
 have h' : (x == x) = true := by simp
 go_enter Tryz.func85, Tryz.ntmps85
 go_wp2
 go_ret
 exact ⟨by first | rfl | simp, rfl⟩
set_option maxRecDepth 100000 in
theorem pless_any (w : World) (x y : Str) : Calls Tryz.prog 84 #[st x, st y] w fun e w' => e = .returned (.bool (slt x y)) ∧ w = w' := by
 have K := hide (pnan_any w x)
 go_enter Tryz.func84, Tryz.ntmps84
 go_wp2_with fail
 refine K.out.mono ?_
 rintro e w1 ⟨rfl, rfl⟩
 go_wp2
 go_ret
 exact ⟨rfl, rfl⟩
structure Low (n : Nd) (key : Str) (i : Nat) : Prop where
 le : i ≤ n.keys.length
 lo : ∀ t, t < i → slt (nkey n t) key = true
 hi : ∀ t, i ≤ t → t < n.keys.length → slt (nkey n t) key = false
set_option maxRecDepth 100000 in
set_option maxHeartbeats 2000000 in
theorem pbs_any (w : World) (v : Value) (N : Nd) (key : Str) (h : RdT w v N.keys) (hk : nkeys N N.keys.length) (hl : N.keys.length ≤ 1000) :
  Calls Tryz.prog 63 #[v, st key] w fun e w' => ∃ i : Nat, e = .returned (.tuple #[.int .i64 i, .bool (decide (i < N.keys.length) && (nkey N i == key))]) ∧ Low N key i ∧ w = w' := by
 obtain ⟨a, c, rfl⟩ := h.slice
 obtain ⟨keys, hkeys⟩ : ∃ l, l = N.keys := ⟨_, rfl⟩
 obtain ⟨L, hL⟩ : ∃ L, L = N.keys.length := ⟨_, rfl⟩
 have HK : Hid (∀ t s, t < s → s < L → slt (nkey N t) (nkey N s) = true) := fun t s h1 h2 => keys_lt hk s t h1 (by omega)
 have HH := hide h
 rw [← hL] at hl ⊢
 replace hL := hide hL
 have KL := hide (fun x => pless_any w x key)
 clear h hk hkeys
 go_enter Tryz.func63, Tryz.ntmps63
 go_wp2
 go_loopw [7, 8] (fun p q wr => ∃ i j : Nat, i ≤ j ∧ j ≤ L ∧ p = .int .i64 i ∧ q = .int .i64 j ∧ w = wr ∧ Hid ((∀ t, t < i → slt (nkey N t) key = true) ∧ ∀ t, j ≤ t → t < L → slt (nkey N t) key = false)) (fun p q _ => (intOf q).toNat - (intOf p).toNat)
 case atStart => exact ⟨0, L, Nat.zero_le _, Nat.le_refl _, rfl, rfl, rfl, hide ⟨fun t h => by omega, fun t h1 h2 => by omega⟩⟩
 case round =>
  obtain ⟨i, j, hij, hjL, rfl, rfl, rfl, hI⟩ := hrel
  by_cases hlt : i < j
  ·have hq : (i : Int) < (j : Int) := by omega
   obtain ⟨s, hs⟩ : ∃ s : Nat, (i : Int) + (j : Int) = (s : Int) := ⟨i + j, by omega⟩
   have hs1 : IntKind.i64.wrap (s : Int) = (s : Int) := IntWalk.i64_in _ (by omega)
   obtain ⟨m, hm⟩ : ∃ m : Nat, (s : Int) / 2 = (m : Int) := ⟨s / 2, by omega⟩
   have hm2 : (m : Int) < (L : Int) := by omega
   have hmi : Hid (i ≤ m ∧ m < j) := by show _ ∧ _; omega
   obtain ⟨x, hx⟩ := some_el N.keys (k := m) (by rw [← hL.out]; omega)
   have hnx := hide (nkey_at hx)
   obtain ⟨b, off, rfl, hc1⟩ := HH.out.strAt hx
   replace hx := hide hx
   go_wp2_with fail
   refine (KL.out x).mono ?_
   rintro e w1 ⟨rfl, rfl⟩
   cases hlx : slt x key with
   | true =>
    have hI' : Hid ((∀ t, t < m + 1 → slt (nkey N t) key = true) ∧ ∀ t, j ≤ t → t < L → slt (nkey N t) key = false) := ⟨fun t ht => by
     by_cases e : t = m
     ·subst e; rw [hnx.out]; exact hlx
     ·have h1 := HK.out t m (by omega) (by omega)
      rw [hnx.out] at h1
      exact slt_trans h1 hlx, hI.out.2⟩
    replace hlx := hide hlx
    go_wp2
    go_roundw
    case rel => exact ⟨m + 1, j, by have := hmi.out; omega, hjL, by go_num, rfl, trivial, hI'⟩
    case measure => have := hmi.out; simp [intOf]; omega
   | false =>
    have hI' : Hid ((∀ t, t < i → slt (nkey N t) key = true) ∧ ∀ t, m ≤ t → t < L → slt (nkey N t) key = false) := ⟨hI.out.1, fun t h1 h2 => by
     by_cases e : t = m
     ·subst e; rw [hnx.out]; exact hlx
     ·have h3 := HK.out m t (by omega) h2
      rw [hnx.out] at h3
      cases h4 : slt (nkey N t) key
      ·rfl
      ·rw [slt_trans h3 h4] at hlx; cases hlx⟩
    replace hlx := hide hlx
    go_wp2
    go_roundw
    case rel => exact ⟨i, m, hmi.out.1, by have := hmi.out; omega, rfl, rfl, trivial, hI'⟩
    case measure => have := hmi.out; simp [intOf]; omega
  ·have hq : ¬ (i : Int) < (j : Int) := by omega
   obtain rfl : i = j := by omega
   have LO : Hid (Low N key i) := ⟨by rw [← hL.out]; omega, hI.out.1, fun t h1 h2 => hI.out.2 t h1 (by rw [hL.out]; exact h2)⟩
   clear hI
   by_cases hiL : i < L
   ·have hq2 : (i : Int) < (L : Int) := by omega
    have hd : decide (i < L) = true := decide_eq_true hiL
    obtain ⟨x, hx⟩ := some_el N.keys (k := i) (by rw [← hL.out]; omega)
    have hnx := hide (nkey_at hx)
    obtain ⟨b, off, rfl, hc1⟩ := HH.out.strAt hx
    replace hx := hide hx
    cases he : (x == key) with
    | true =>
     have hr : Hid ((decide (i < L) && nkey N i == key) = true) := by show _ = _; rw [hd, hnx.out, he]; rfl
     clear hd
     go_wp2
     go_ret2
     exact ⟨i, ret_si9 rfl (congrArg Value.bool hr.out.symm), LO.out, rfl⟩
    | false =>
     have hr : Hid ((decide (i < L) && nkey N i == key) = false) := by show _ = _; rw [hd, hnx.out, he]; rfl
     have KS := hide (psnan_any w x)
     clear hd
     go_wp2_with fail
     refine KS.out.mono ?_
     rintro e w1 ⟨rfl, rfl⟩
     go_wp2
     go_ret2
     exact ⟨i, ret_si9 rfl (congrArg Value.bool hr.out.symm), LO.out, rfl⟩
   ·have hq2 : ¬ (i : Int) < (L : Int) := by omega
    have hr : Hid ((decide (i < L) && nkey N i == key) = false) := by show _ = _; rw [decide_eq_false hiL]; rfl
    go_wp2
    go_ret2
    exact ⟨i, ret_si9 rfl (congrArg Value.bool hr.out.symm), LO.out, rfl⟩
theorem low_find {n : Nd} {key : Str} {i : Nat} (h : Low n key i) (hk : nkeys n n.keys.length) : nis key n.keys = (decide (i < n.keys.length) && (nkey n i == key)) ∧ nfnd n.leaf key n.keys = if (decide (i < n.keys.length) && (nkey n i == key)) = true ∧ n.leaf = false then (i : Int) + 1 else (i : Int) := by
 cases hb : (decide (i < n.keys.length) && (nkey n i == key)) with
 | true =>
  rw [Bool.and_eq_true, decide_eq_true_eq] at hb
  have hkey : nkey n i = key := by simpa using hb.2
  obtain ⟨x, hx⟩ := some_el n.keys hb.1
  have hx' := nkey_at hx
  rw [hkey] at hx'
  subst hx'
  obtain ⟨p, q⟩ := nfnd_hit n.leaf key n.keys i hx (fun j y hj hy => by have := h.lo j hj; rw [nkey_at hy] at this; exact this) (fun j y hj hy => by
   have := keys_lt hk j i hj ((List.getElem?_eq_some_iff.1 hy).1)
   rw [hkey, nkey_at hy] at this
   exact this)
  rw [p, q]
  refine ⟨rfl, ?_⟩
  cases n.leaf <;> simp
 | false =>
  obtain ⟨p, q⟩ := nfnd_cut n.leaf key n.keys i h.le (fun j y hj hy => by have := h.lo j hj; rw [nkey_at hy] at this; exact this) (fun j y hj hy => by
   have hjl := (List.getElem?_eq_some_iff.1 hy).1
   have h1 := h.hi j hj hjl
   rw [nkey_at hy] at h1
   refine ⟨h1, ?_⟩
   apply Bool.eq_false_iff.2
   intro e
   have e' : y = key := by simpa using e
   by_cases hji : j = i
   ·subst hji
    rw [nkey_at hy, e', decide_eq_true hjl] at hb
    simp at hb
   ·have h2 := keys_lt hk j i (by omega) hjl
    rw [nkey_at hy, e'] at h2
    have h3 := h.hi i (Nat.le_refl _) (by omega)
    rw [h2] at h3; cases h3)
  rw [p, q]
  simp
set_option maxRecDepth 100000 in
set_option maxHeartbeats 2000000 in
theorem pfind9_any (w : World) (kv vv dv : Value) (n : Nd) (key : Str) (h : RdN w kv vv dv n) (hf : nfit n) :
  Calls Tryz.prog 46 #[nv n kv vv dv, st key] w fun e w' => e = .returned (.tuple #[.int .i64 (nfind n key), .bool (nhas n key), .int .i64 (ncheck n)]) ∧ Below w.heap.size w w' := by
 obtain ⟨W, hW, D, bW, sW⟩ := boxedN w #[.bool n.leaf, kv, vv, dv] 76
 replace h := h.to bW
 have KC := hide (pcheck9_any W kv vv dv n h hf)
 have HN := hide (fun w1 (b : Below W.heap.size W w1) => h.to b)
 obtain ⟨D4, _⟩ := cells4 D
 have HD : Hid (∀ w1, Below W.heap.size W w1 → w1.cell? ⟨w.heap.size, 0, none⟩ = some (.bool n.leaf) ∧ w1.cell? ⟨w.heap.size, 1, none⟩ = some kv ∧ w1.cell? ⟨w.heap.size, 2, none⟩ = some vv ∧ w1.cell? ⟨w.heap.size, 3, none⟩ = some dv) := fun w1 b =>
  ⟨(b.cell (p := ⟨w.heap.size, 0, none⟩) (cell_lt D4.1)).trans D4.1, (b.cell (p := ⟨w.heap.size, 1, none⟩) (cell_lt D4.2.1)).trans D4.2.1, (b.cell (p := ⟨w.heap.size, 2, none⟩) (cell_lt D4.2.2.1)).trans D4.2.2.1, (b.cell (p := ⟨w.heap.size, 3, none⟩) (cell_lt D4.2.2.2)).trans D4.2.2.2⟩
 have HE : Hid (∀ w1, Below W.heap.size W w1 → Below w.heap.size w w1) := fun w1 b => bW.trans (b.mono bW.size)
 obtain ⟨D0, D1, D2, D3⟩ := D4
 obtain ⟨a, c, a', c', a'', c'', rfl, rfl, rfl⟩ := h.slices
 dsimp only [nv] at *
 clear h bW D hf
 rw [hW] at D0 D1 D2 D3
 generalize hlK : n.keys.length = lK at *
 generalize hlV : n.vals.length = lV at *
 generalize hlD : n.kids.length = lD at *
 generalize hleaf : n.leaf = leaf at *
 replace hlK := hide hlK
 replace hlV := hide hlV
 replace hlD := hide hlD
 replace hleaf := hide hleaf
 go_enter Tryz.func46, Tryz.ntmps46
 go_wp2_with fail
 rw [← hW]
 replace hW := hide hW
 clear D0 D1 D2 D3
 refine KC.out.mono ?_
 rintro e w1 ⟨rfl, b1⟩
 clear KC
 by_cases hz : ncheck n = 0
 ·have hok := (ncheck_ok n).1 hz
  have hfind : Hid (nfind n key = nfnd n.leaf key n.keys ∧ nhas n key = nis key n.keys) := by
   show _ ∧ _
   unfold nfind nhas
   rw [if_pos hz, if_pos hz]
   exact ⟨rfl, rfl⟩
  have few : n.keys.length ≤ 1000 := by
   have h1 := nsz_ge n n.keys.length
   have h2 := hok.2.2.2.2
   unfold nsize at h2
   split at h2 <;> omega
  have KB := hide (pbs_any w1 (.slice a lK c) n key (HN.out w1 b1).keys hok.1 few)
  have LF := hide (fun (i : Nat) (hl : Low n key i) => low_find hl hok.1)
  obtain ⟨D0, D1, D2, D3⟩ := HD.out w1 b1
  have hzz := hide hz
  rw [hz]
  have B1 := hide (HE.out w1 b1)
  rw [hlK.out] at few
  clear hz hok b1
  go_wp2_with fail
  refine KB.out.mono ?_
  rintro e w2 ⟨i, rfl, lo, rfl⟩
  clear KB
  obtain ⟨f1, f2⟩ := LF.out i lo
  have hib : i < 9223372036854775807 := by have := lo.le; rw [hlK.out] at this; omega
  rw [hlK.out] at f1 f2 ⊢
  rw [hleaf.out] at f2
  generalize hbb : (decide (i < lK) && nkey n i == key) = BB at *
  replace hbb := hide hbb
  have F1 : Hid (nhas n key = BB) := by show _ = _; rw [hfind.out.2]; exact f1
  have F2 : Hid (nfind n key = if BB = true ∧ leaf = false then (i : Int) + 1 else (i : Int)) := by show _ = _; rw [hfind.out.1, hleaf.out]; exact f2
  clear f1 f2 lo hfind LF
  cases BB <;> cases leaf
  all_goals
   have g := F2.out
   simp at g
   replace g := hide g
   go_wp2
   go_ret3
   exact ⟨ret_ibi g.out.symm F1.out.symm hzz.out.symm, B1.out⟩
 ·have hr : Hid (nfind n key = 0 ∧ nhas n key = false) := by
   show _ ∧ _
   unfold nfind nhas
   rw [if_neg hz, if_neg hz]
   exact ⟨rfl, rfl⟩
  obtain ⟨Z, hZ⟩ : ∃ Z, Z = ncheck n := ⟨_, rfl⟩
  rw [← hZ] at hz ⊢
  replace hZ := hide hZ
  have bb := hide (HE.out _ b1)
  clear b1
  go_wp2
  go_ret3
  exact ⟨ret_ibi hr.out.1.symm hr.out.2.symm hZ.out, bb.out⟩
end Go.Proofs.YtgmkknonnidgaaaGreat

namespace Go.Proofs.YtgmkknonnidgaaaGreat
open Go.RowKit
section
variable {P : Program} {ops : Array Oper} {Q : Exit → Act → World → Prop} {S : World → Prop} {Z : Act → World → Prop} {m : Nat}
def Fan (P : Program) (ops : Array Oper) (Q : Exit → Act → World → Prop) (S : World → Prop) (Z : Act → World → Prop) (m n : Nat) (listed : Array Bool) (a : Act) (w : World) : Prop :=
 HeadInv .any ops m listed → wpAnyM P .any ops Q S m (fun listed' a' w' => Region.seqB .any ops (ops.size - m) m listed' = true ∧ Z a' w') n listed a w
def fanStep (P : Program) (ops : Array Oper) (Q : Exit → Act → World → Prop) (S : World → Prop) (Z : Act → World → Prop) (m n i : Nat) (listed : Array Bool) (a : Act) (w : World) : Prop :=
 ∃ o, ops[i]? = some o ∧ ∀ K : Act → World → Prop, (∀ a' w', S w' → Fan P ops Q S Z m n (listed.setIfInBounds i true) a' w' → K a' w') → if Region.wanted o (yielded ops a.tmps) = true then o.wp P a w K Q else K (a.put o.dst undef) w
def fanOk (ops : Array Oper) (m : Nat) : Bool := Region.noSelect ops && decide (m < ops.size) && Region.sinkB .any ops m && Region.chainB .any ops m
def takeOk (ops : Array Oper) (m i : Nat) (listed : Array Bool) : Bool := fanOk ops m && decide (i < m) && (Region.ready .any ops listed).contains i && Region.free .any ops listed i
def readyOk (ops : Array Oper) (m : Nat) (is : List Nat) (listed : Array Bool) : Bool := decide (Region.ready .any ops listed = is) && is.all (fun i => decide (i < m)) && !is.isEmpty
theorem fan_take {i n : Nat} {listed : Array Bool} {a : Act} {w : World} {o : Oper} {v : Value} (ho : ops[i]? = some o) (hB : takeOk ops m i listed = true) (hQ : ∀ c (a : Act) t w, Q (.panic c) { a with tmps := t } w → Q (.panic c) a w) (hw : Region.wanted o (yielded ops a.tmps) = true) (hS : S w)
  (hy : ∀ w, S w → (execOp a.eval o).run P w = .ok (.value v) w) (h : Fan P ops Q S Z m n (listed.setIfInBounds i true) (a.put o.dst v) w) : Fan P ops Q S Z m (n + 1) listed a w := by
 intro inv
 simp only [takeOk, fanOk, Bool.and_eq_true, decide_eq_true_eq] at hB
 obtain ⟨⟨⟨⟨⟨⟨hsel, hm⟩, hs⟩, hc⟩, him⟩, hr⟩, hf⟩ := hB
 have hr' : i ∈ Region.ready .any ops listed := by simpa using hr
 exact wpAnyM_first ho (Region.noSelect_spec hsel) hs hc hm him (fun c a w h => hQ c a (a.put o.dst v).tmps w (by rw [← put_tmps]; exact h)) (fun listed a w hL => seqB_ready hL.1) _ listed a w inv (Region.free_spec ho hf) hr' (.inl ⟨hw, hy⟩) hS (h (inv.set hr' him))
theorem fan_all {is : List Nat} {n : Nat} {listed : Array Bool} {a : Act} {w : World} (hB : readyOk ops m is listed = true) (h : ∀ i ∈ is, fanStep P ops Q S Z m n i listed a w) : Fan P ops Q S Z m (n + 1) listed a w := by
 intro inv
 simp only [readyOk, Bool.and_eq_true, decide_eq_true_eq, List.all_eq_true] at hB
 obtain ⟨⟨hr, hlt⟩, hne⟩ := hB
 refine ⟨fun h1 => ?_, fun j hj => ?_⟩
 ·rw [hr] at h1; subst h1; simp at hne
 ·have hj0 := hj
  rw [hr] at hj
  have him := hlt j hj
  refine ⟨him, ?_⟩
  obtain ⟨o, ho, hK⟩ := h j hj
  have := hK (fun a' w' => S w' ∧ Fan P ops Q S Z m n (listed.setIfInBounds j true) a' w') (fun a' w' h1 h2 => ⟨h1, h2⟩)
  have hw : wpOp P ops Q j (fun a' w' => S w' ∧ Fan P ops Q S Z m n (listed.setIfInBounds j true) a' w') a w := by
   unfold wpOp
   simp only [ho]
   split
   ·rename_i hwd; rw [if_pos hwd] at this; exact .inl this
   ·rename_i hwd; rw [if_neg hwd] at this; exact this
  exact wpOp_mono (fun a' w' h' => ⟨h'.1, h'.2 (inv.set hj0 him)⟩) hw
theorem fan_one {n : Nat} {listed : Array Bool} {a : Act} {w : World} (i : Nat) (hB : readyOk ops m [i] listed = true) (h : fanStep P ops Q S Z m n i listed a w) : Fan P ops Q S Z m (n + 1) listed a w :=
 fan_all hB fun j hj => by simp at hj; subst hj; exact h
theorem fan_two {n : Nat} {listed : Array Bool} {a : Act} {w : World} (i j : Nat) (hB : readyOk ops m [i, j] listed = true) (h1 : fanStep P ops Q S Z m n i listed a w) (h2 : fanStep P ops Q S Z m n j listed a w) : Fan P ops Q S Z m (n + 1) listed a w :=
 fan_all hB fun k hk => by
  simp at hk
  rcases hk with rfl | rfl
  ·exact h1
  ·exact h2
theorem fan_three {n : Nat} {listed : Array Bool} {a : Act} {w : World} (i j k : Nat) (hB : readyOk ops m [i, j, k] listed = true) (h1 : fanStep P ops Q S Z m n i listed a w) (h2 : fanStep P ops Q S Z m n j listed a w) (h3 : fanStep P ops Q S Z m n k listed a w) : Fan P ops Q S Z m (n + 1) listed a w :=
 fan_all hB fun q hq => by
  simp at hq
  rcases hq with rfl | rfl | rfl
  ·exact h1
  ·exact h2
  ·exact h3
theorem fan_step {i n : Nat} {listed : Array Bool} {a : Act} {w : World} {o : Oper} (ho : ops[i]? = some o) (hw : Region.wanted o (yielded ops a.tmps) = true) (h : ∀ K : Act → World → Prop, (∀ a' w', S w' → Fan P ops Q S Z m n (listed.setIfInBounds i true) a' w' → K a' w') → o.wp P a w K Q) : fanStep P ops Q S Z m n i listed a w :=
 ⟨o, ho, fun K hK => by rw [if_pos hw]; exact h K hK⟩
theorem fan_done {listed : Array Bool} {a : Act} {w : World} (hB : Region.seqB .any ops (ops.size - m) m listed = true) (h : Z a w) : Fan P ops Q S Z m 0 listed a w := fun _ => ⟨hB, h⟩
theorem wp_region_fan {id : Nat} {a : Act} {w : World} {l : List Oper} (S : World → Prop) (m : Nat) (hf : P.follows .mixedOrders = true) (hm : m < l.length)
  (h : Fan P l.toArray Q S (fun a'' w'' => wpList P l.toArray Q (l.drop m) a'' w'') m m (Array.replicate l.toArray.size false) a w.drew) : (Code.region id l.toArray true).wp P Q a w := by
 have hld : (l.drop m).length = l.length - m := by simp
 have inv0 : HeadInv .any l.toArray m (Array.replicate l.toArray.size false) :=
  ⟨by simp, fun j oj _ hl => (by rw [getD_replicate_false] at hl; cases hl), fun t _ ht => getD_in (by simpa using ht) (getD_replicate_false _ _)⟩
 have H := h inv0
 refine wp_region_any hf ?_
 have := wpAny_of_mid (Q := Q) (g := l.length - m) (fun listed a' w' hL => by
  have := wpAny_of_seq (md := .any) (Q' := Q) (l.drop m) m listed a' w' (fun j => by simp [List.getElem?_drop]) (by rw [hld]; simpa using hL.1) hL.2
  rwa [hld] at this) _ _ _ _ H
 rw [show m + (l.length - m) = l.toArray.size by simp; omega] at this
 exact this
end
end Go.Proofs.YtgmkknonnidgaaaGreat
