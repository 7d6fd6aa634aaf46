/- Several texts in one. -/
import Derived.Deep.AppendLies
import Derived.Test.YtgmkknonnidgaaaNOf
import Derived.Test.YtgmkknonnidgaaaNDecR
import Derived.Deep.CutRange
import Derived.Test.YtgmkknonnidgaaaRSched
import Derived.Test.YtgmkknonnidgaaaNCheckR
/-
  Rows beside one another: kept while another one grows; a box of four cells of which one is written. Nothing of the program is named.
-/
namespace Go.Proofs.Ytgmkknonnidgaaa
open Go.RowKit
set_option linter.unusedVariables false
set_option linter.unusedSimpArgs false

abbrev nil9 : Value := .slice none 0 0
theorem row_kept {w w' : World} {own : Option Nat} (g : w.grownBy w' own) {B T n : Nat} {v : Value} {m : Nat} {cc : List Value} (h : w.ownsRow B T n v m cc) (hd : ∀ k, own = some k → v.ownBlock ≠ some k) : w'.ownsRow B T n v m cc :=
  h.kept g (by
    cases hv : v.ownBlock with
    | none => exact .inl rfl
    | some k => right; intro e; exact hd k e.symm hv)
theorem row_from {w : World} {B T n : Nat} {v : Value} {m : Nat} {cc : List Value} (h : w.ownsRow B T n v m cc) : ∀ k, v.ownBlock = some k → B ≤ k ∧ k < w.heap.size := fun k hk => World.ownsRow.lt h k hk
theorem blk_ne {g' m' c' sz : Nat} {own o : Option Nat} (hg : own = some g' ∨ g' = sz) (hd : ∀ k, own = some k → o ≠ some k) (hlt : ∀ k, o = some k → k < sz) : ∀ k, (Value.slice (some ⟨g', 0, none⟩) m' c').ownBlock = some k → o ≠ some k := by
  intro k e e'
  have hk : g' = k := by simpa [Value.ownBlock] using e
  subst hk
  rcases hg with hg | hg
  · exact hd _ hg e'
  · have := hlt _ e'; omega
theorem heap_set4i {u : World} {g : Nat} {a b c d : Value} {t : TypeId} {fr : Nat × Nat} (h : u.heap[g]? = some (.cells #[a, b, c, d] t fr)) (x : Value) : (u.setCell ⟨g, 1, none⟩ x).heap[g]? = some (.cells #[a, x, c, d] t fr) ∧ (u.setCell ⟨g, 2, none⟩ x).heap[g]? = some (.cells #[a, b, x, d] t fr) ∧ (u.setCell ⟨g, 3, none⟩ x).heap[g]? = some (.cells #[a, b, c, x] t fr) := by
  refine ⟨?_, ?_, ?_⟩ <;> simp [World.setCell, Array.getElem?_modify, h]

end Go.Proofs.Ytgmkknonnidgaaa

/-
  What lies in memory while the page reads a node.
-/
namespace Go.Proofs.Ytgmkknonnidgaaa
open Go.RowKit
set_option linter.unusedVariables false
set_option linter.unusedSimpArgs false

structure RStP (w0 : World) (xs : List UInt8) (nb : Nat) (w : World) (kv vv dv : Value) (n : Nd) (r : Rr) : Prop where
  rdr : RdrP w0 (w0.heap.size + 1) w xs r
  res : w.heap[w0.heap.size]? = some (.cells #[.bool false, nil9, nil9, nil9] 147 (0, 0))
  box : w.heap[nb]? = some (.cells #[.bool n.leaf, kv, vv, dv] 147 (0, 0))
  own : OwnN (nb + 1) w kv vv dv n
  hnb : w0.heap.size + 1 < nb
  d1 : ∀ k, kv.ownBlock = some k → vv.ownBlock ≠ some k
  d2 : ∀ k, kv.ownBlock = some k → dv.ownBlock ≠ some k
  d3 : ∀ k, vv.ownBlock = some k → dv.ownBlock ≠ some k
theorem RStP.below {w0 : World} {xs : List UInt8} {nb : Nat} {w : World} {kv vv dv : Value} {n : Nd} {r : Rr} (h : RStP w0 xs nb w kv vv dv n r) {U : World} (b : Below w.heap.size w U) : RStP w0 xs nb U kv vv dv n r :=
  ⟨h.rdr.to b, (b.block _ (lt_of_block h.res)).trans h.res, (b.block _ (lt_of_block h.box)).trans h.box, h.own.to b, h.hnb, h.d1, h.d2, h.d3⟩
theorem RStP.call {w0 : World} {xs : List UInt8} {nb : Nat} {w : World} {kv vv dv : Value} {n : Nd} {r r' : Rr} (h : RStP w0 xs nb w kv vv dv n r) {U : World} (k : KpG (w0.heap.size + 1) w U) (hr : RdrP w0 (w0.heap.size + 1) U xs r') : RStP w0 xs nb U kv vv dv n r' :=
  ⟨hr, (k.1 _ (lt_of_block h.res) (by omega)).trans h.res, (k.1 _ (lt_of_block h.box) (by have := h.hnb; omega)).trans h.box, ⟨k.row h.own.keys (by have := h.hnb; omega), k.row h.own.vals (by have := h.hnb; omega), k.row h.own.kids (by have := h.hnb; omega)⟩, h.hnb, h.d1, h.d2, h.d3⟩
theorem rdrp_kept {w0 : World} {g : Nat} {w w' : World} {xs : List UInt8} {r : Rr} {own : Option Nat} (h : RdrP w0 g w xs r) (k : w.grownBy w' own) (hg : ∀ b, own = some b → g < b) : RdrP w0 g w' xs r := by
  obtain ⟨a, c, L, at', h⟩ := h
  have hl := lt_of_block h.box
  have hs := h.bel.size
  exact ⟨a, c, L, at', (k.block g hl (fun e => by have := hg g e.symm; omega)).trans h.box, h.rd, h.len, h.le, h.rest, h.bel.grown k hs (fun b e => by have := hg b e; have := h.hg; omega), h.hg⟩
theorem rdrp_set {w0 : World} {g : Nat} {w : World} {xs : List UInt8} {r : Rr} (h : RdrP w0 g w xs r) {nb : Nat} (hn : g < nb) (i : Nat) (v : Value) : RdrP w0 g (w.setCell ⟨nb, i, none⟩ v) xs r := by
  obtain ⟨a, c, L, at', h⟩ := h
  exact ⟨a, c, L, at', (Below.heap_setCell _ _ _ _ (by show g ≠ nb; omega)).trans h.box, h.rd, h.len, h.le, h.rest, h.bel.setCell (p := ⟨nb, i, none⟩) (by have := h.hg; show w0.heap.size ≤ nb; omega) v, h.hg⟩
theorem RStP.keys {w0 : World} {xs : List UInt8} {nb : Nat} {w : World} {kv vv dv : Value} {n : Nd} {r : Rr} (h : RStP w0 xs nb w kv vv dv n r) {x : Str} {w' : World} {v' : Value} {g' m' c' : Nat} (hv : v' = .slice (some ⟨g', 0, none⟩) m' c') (o : OwnT (nb + 1) w' v' (n.keys ++ [x])) (k : w.grownBy w' kv.ownBlock) (hg : kv.ownBlock = some g' ∨ g' = w.heap.size) :
    RStP w0 xs nb (w'.setCell ⟨nb, 1, none⟩ v') v' vv dv ⟨n.leaf, n.keys ++ [x], n.vals, n.kids⟩ r := by
  have hn := h.hnb
  have fr := row_from h.own.keys
  have nbl := lt_of_block h.box
  have rsl := lt_of_block h.res
  subst hv
  exact ⟨rdrp_set (rdrp_kept h.rdr k fun b e => by have := (fr b e).1; omega) (by omega) 1 _,
    (Below.heap_setCell _ _ _ _ (by show w0.heap.size ≠ nb; omega)).trans ((k.block _ rsl (fun e => by have := (fr _ e.symm).1; omega)).trans h.res),
    (heap_set4i ((k.block _ nbl (fun e => by have := (fr _ e.symm).1; omega)).trans h.box) _).1,
    ⟨rows_set o (show nb < nb + 1 by omega) 1 _, rows_set (row_kept k h.own.vals h.d1) (show nb < nb + 1 by omega) 1 _, rows_set (row_kept k h.own.kids h.d2) (show nb < nb + 1 by omega) 1 _⟩, hn, blk_ne hg h.d1 (fun k e => (row_from h.own.vals k e).2), blk_ne hg h.d2 (fun k e => (row_from h.own.kids k e).2), h.d3⟩
theorem RStP.vals {w0 : World} {xs : List UInt8} {nb : Nat} {w : World} {kv vv dv : Value} {n : Nd} {r : Rr} (h : RStP w0 xs nb w kv vv dv n r) {x : Str} {w' : World} {v' : Value} {g' m' c' : Nat} (hv : v' = .slice (some ⟨g', 0, none⟩) m' c') (o : OwnT (nb + 1) w' v' (n.vals ++ [x])) (k : w.grownBy w' vv.ownBlock) (hg : vv.ownBlock = some g' ∨ g' = w.heap.size) :
    RStP w0 xs nb (w'.setCell ⟨nb, 2, none⟩ v') kv v' dv ⟨n.leaf, n.keys, n.vals ++ [x], n.kids⟩ r := by
  have hn := h.hnb
  have fr := row_from h.own.vals
  have nbl := lt_of_block h.box
  have rsl := lt_of_block h.res
  subst hv
  exact ⟨rdrp_set (rdrp_kept h.rdr k fun b e => by have := (fr b e).1; omega) (by omega) 2 _,
    (Below.heap_setCell _ _ _ _ (by show w0.heap.size ≠ nb; omega)).trans ((k.block _ rsl (fun e => by have := (fr _ e.symm).1; omega)).trans h.res),
    (heap_set4i ((k.block _ nbl (fun e => by have := (fr _ e.symm).1; omega)).trans h.box) _).2.1,
    ⟨rows_set (row_kept k h.own.keys (fun k e e' => h.d1 k e' e)) (show nb < nb + 1 by omega) 2 _, rows_set o (show nb < nb + 1 by omega) 2 _, rows_set (row_kept k h.own.kids h.d3) (show nb < nb + 1 by omega) 2 _⟩, hn, (fun k e e' => blk_ne hg (fun k e e' => h.d1 k e' e) (fun k e => (row_from h.own.keys k e).2) k e' e), h.d2, blk_ne hg h.d3 (fun k e => (row_from h.own.kids k e).2)⟩
theorem RStP.kids {w0 : World} {xs : List UInt8} {nb : Nat} {w : World} {kv vv dv : Value} {n : Nd} {r : Rr} (h : RStP w0 xs nb w kv vv dv n r) {x : Int} {w' : World} {v' : Value} {g' m' c' : Nat} (hv : v' = .slice (some ⟨g', 0, none⟩) m' c') (o : OwnJ (nb + 1) w' v' (n.kids ++ [x])) (k : w.grownBy w' dv.ownBlock) (hg : dv.ownBlock = some g' ∨ g' = w.heap.size) :
    RStP w0 xs nb (w'.setCell ⟨nb, 3, none⟩ v') kv vv v' ⟨n.leaf, n.keys, n.vals, n.kids ++ [x]⟩ r := by
  have hn := h.hnb
  have fr := row_from h.own.kids
  have nbl := lt_of_block h.box
  have rsl := lt_of_block h.res
  subst hv
  exact ⟨rdrp_set (rdrp_kept h.rdr k fun b e => by have := (fr b e).1; omega) (by omega) 3 _,
    (Below.heap_setCell _ _ _ _ (by show w0.heap.size ≠ nb; omega)).trans ((k.block _ rsl (fun e => by have := (fr _ e.symm).1; omega)).trans h.res),
    (heap_set4i ((k.block _ nbl (fun e => by have := (fr _ e.symm).1; omega)).trans h.box) _).2.2,
    ⟨rows_set (row_kept k h.own.keys (fun k e e' => h.d2 k e' e)) (show nb < nb + 1 by omega) 3 _, rows_set (row_kept k h.own.vals (fun k e e' => h.d3 k e' e)) (show nb < nb + 1 by omega) 3 _, rows_set o (show nb < nb + 1 by omega) 3 _⟩, hn, h.d1, (fun k e e' => blk_ne hg (fun k e e' => h.d2 k e' e) (fun k e => (row_from h.own.keys k e).2) k e' e), (fun k e e' => blk_ne hg (fun k e e' => h.d3 k e' e) (fun k e => (row_from h.own.vals k e).2) k e' e)⟩


end Go.Proofs.Ytgmkknonnidgaaa

/-
  The page's Decode of octets as a node: it takes what the program takes, and answers the same node.
-/
namespace Go.Proofs.Ytgmkknonnidgaaa
open Go.RowKit
set_option linter.unusedVariables false
set_option linter.unusedSimpArgs false

theorem rstS_ok {s : Nat} {r : Rr} (h : (rstS s r).short = false) : r.short = false ∧ rstS s r = rst s r ∧ rtkS s r = rtk s r := by
  unfold rstS at h
  by_cases hs : r.short = true
  · rw [if_pos hs, hs] at h; cases h
  · have hs' : r.short = false := by simpa using hs
    unfold rstS rtkS
    rw [if_neg hs, if_neg hs]
    exact ⟨hs', rfl, rfl⟩
theorem rstS_eq {s : Nat} {r : Rr} (h : r.short = false) : rstS s r = rst s r ∧ rtkS s r = rtk s r ∧ rnumS s r = rnum s r := by
  have : ¬ r.short = true := by rw [h]; decide
  unfold rstS rnumS rnum rtkS
  rw [if_neg this, if_neg this]
  exact ⟨rfl, rfl, rfl⟩
theorem frz9 {w : World} {g : Nat} {cs : Array Value} {t : TypeId} (h : w.heap[g]? = some (.cells cs t (0, 0))) (i : Nat) : w.frozen? ⟨g, i, none⟩ = false := by simp [World.frozen?, h]
def txS (r : Rr) : Str := rtkS (rnumS 1 r) (rstS 1 r)
def tsS (r : Rr) : Rr := rstS (rnumS 1 r) (rstS 1 r)
theorem tsS_ok {r : Rr} (h : (tsS r).short = false) : r.short = false ∧ tsS r = rts r ∧ txS r = rtx r := by
  unfold tsS at h
  obtain ⟨h1, h2, h3⟩ := rstS_ok h
  obtain ⟨h4, h5, h6⟩ := rstS_ok h1
  have h7 := (rstS_eq (s := 1) h4).2.2
  refine ⟨h4, ?_, ?_⟩
  · unfold tsS rts; rw [h2, h7, h5]
  · unfold txS rtx; rw [h3, h7, h5]
theorem tsS_bad {r : Rr} (h : r.short = false) (hb : (tsS r).short = true) : (rts r).short = true := by
  obtain ⟨e1, _, e3⟩ := rstS_eq (s := 1) h
  unfold tsS at hb
  rw [e1, e3] at hb
  unfold rts
  cases hq : (rst 1 r).short with
  | true => exact rst_short hq
  | false => rw [(rstS_eq hq).1] at hb; exact hb
theorem tsS_short {r : Rr} (h : r.short = true) : (tsS r).short = true := rstS_short (rstS_short h)
/-- keys and pages behind the first page -/
def rk2 : Nat → Rr → Nd → Nd × Rr
  | 0, r, n => (n, r)
  | k + 1, r, n => rk2 k (rst 4 (rts r)) ⟨n.leaf, n.keys ++ [rtx r], n.vals, n.kids ++ [((rnum 4 (rts r) : Nat) : Int)]⟩
theorem rkids_rk2 : ∀ (k : Nat) (r : Rr) (n : Nd), rkids k r n = rk2 k (rst 4 r) ⟨n.leaf, n.keys, n.vals, n.kids ++ [((rnum 4 r : Nat) : Int)]⟩
  | 0, r, n => rfl
  | k + 1, r, n => by
    rw [rkids, rkids_rk2 k]
    rfl
theorem rk2_short : ∀ (k : Nat) (r : Rr) (n : Nd), r.short = true → (rk2 k r n).2.short = true
  | 0, r, n, h => h
  | k + 1, r, n, h => rk2_short k _ _ (rst_short (rts_short h))
theorem rfin_bad {p : Nd × Rr} (h : p.2.short = true) : (rfin p).2 ≠ 0 := by unfold rfin; rw [if_pos h]; decide
/-- how far the page has come: it goes the program's way, or both are short -/
def GP (xs : List UInt8) (j : Nat) (r : Rr) (n : Nd) : Prop := (r.short = false ∧ nread xs = rfin (rpairs j r n)) ∨ (r.short = true ∧ (nread xs).2 ≠ 0)
def GK (xs : List UInt8) (j : Nat) (r : Rr) (n : Nd) : Prop := (r.short = false ∧ nread xs = rfin (rk2 j r n)) ∨ (r.short = true ∧ (nread xs).2 ≠ 0)
theorem GP.next {xs : List UInt8} {j : Nat} {r : Rr} {n : Nd} (h : GP xs (j + 1) r n) (hs : r.short = false) : GP xs j (tsS (tsS r)) ⟨n.leaf, n.keys ++ [txS r], n.vals ++ [txS (tsS r)], n.kids⟩ := by
  rcases h with ⟨_, h⟩ | ⟨h, _⟩
  · rw [rpairs] at h
    cases hq : (tsS (tsS r)).short with
    | false =>
      obtain ⟨a1, a2, a3⟩ := tsS_ok hq
      obtain ⟨b1, b2, b3⟩ := tsS_ok a1
      left
      refine ⟨hq, ?_⟩
      rw [a2, a3, b2, b3]
      exact h
    | true =>
      right
      refine ⟨hq, ?_⟩
      rw [h]
      apply rfin_bad
      apply rpairs_short
      cases hr : (tsS r).short with
      | true => exact rts_short (tsS_bad hs hr)
      | false =>
        have := tsS_bad hr hq
        rw [(tsS_ok hr).2.1] at this
        exact this
  · rw [hs] at h; cases h
theorem GK.next {xs : List UInt8} {j : Nat} {r : Rr} {n : Nd} (h : GK xs (j + 1) r n) (hs : r.short = false) : GK xs j (rstS 4 (tsS r)) ⟨n.leaf, n.keys ++ [txS r], n.vals, n.kids ++ [((rnumS 4 (tsS r) : Nat) : Int)]⟩ := by
  rcases h with ⟨_, h⟩ | ⟨h, _⟩
  · rw [rk2] at h
    cases hq : (rstS 4 (tsS r)).short with
    | false =>
      obtain ⟨a1, a2, _⟩ := rstS_ok hq
      have a3 := (rstS_eq (s := 4) a1).2.2
      obtain ⟨b1, b2, b3⟩ := tsS_ok a1
      left
      refine ⟨hq, ?_⟩
      rw [a2, a3, b2, b3]
      exact h
    | true =>
      right
      refine ⟨hq, ?_⟩
      rw [h]
      apply rfin_bad
      apply rk2_short
      cases hr : (tsS r).short with
      | true => exact rst_short (tsS_bad hs hr)
      | false =>
        rw [(rstS_eq hr).1, (tsS_ok hr).2.1] at hq
        exact hq
  · rw [hs] at h; cases h
theorem GP.start {xs : List UInt8} (hm : rnum 1 ⟨xs, false⟩ = 1) : GP xs (rnumS 1 (rstS 1 ⟨xs, false⟩)) (rstS 1 (rstS 1 ⟨xs, false⟩)) ⟨true, [], [], []⟩ := by
  have e1 := rstS_eq (s := 1) (r := ⟨xs, false⟩) rfl
  rw [e1.1]
  cases hq : (rstS 1 (rst 1 ⟨xs, false⟩)).short with
  | false =>
    obtain ⟨a1, a2, _⟩ := rstS_ok hq
    have a3 := (rstS_eq (s := 1) a1).2.2
    left
    refine ⟨hq, ?_⟩
    rw [a2] at hq ⊢
    rw [a3]
    exact nread_leaf hq hm
  | true =>
    right
    refine ⟨hq, ?_⟩
    have : (rst 1 (rst 1 ⟨xs, false⟩)).short = true := by
      cases hr : (rst 1 ⟨xs, false⟩).short with
      | true => exact rst_short hr
      | false => rw [(rstS_eq hr).1] at hq; exact hq
    rw [nread_short this]
    decide
theorem GK.start {xs : List UInt8} (hm : rnum 1 ⟨xs, false⟩ = 0) : GK xs (rnumS 1 (rstS 1 ⟨xs, false⟩)) (rstS 4 (rstS 1 (rstS 1 ⟨xs, false⟩))) ⟨false, [], [], [((rnumS 4 (rstS 1 (rstS 1 ⟨xs, false⟩)) : Nat) : Int)]⟩ := by
  have e1 := rstS_eq (s := 1) (r := ⟨xs, false⟩) rfl
  rw [e1.1]
  cases hp : (rstS 1 (rst 1 ⟨xs, false⟩)).short with
  | false =>
    obtain ⟨a1, a2, _⟩ := rstS_ok hp
    have a3 := (rstS_eq (s := 1) a1).2.2
    obtain ⟨c1, _, c3⟩ := rstS_eq (s := 4) hp
    rw [c1, c3, a2, a3]
    rw [a2] at hp
    have hn := nread_inner hp hm
    rw [rkids_rk2] at hn
    cases hq : (rst 4 (rst 1 (rst 1 ⟨xs, false⟩))).short with
    | false => exact .inl ⟨hq, hn⟩
    | true => exact .inr ⟨hq, by rw [hn]; exact rfin_bad (rk2_short _ _ _ hq)⟩
  | true =>
    right
    refine ⟨rstS_short hp, ?_⟩
    have : (rst 1 (rst 1 ⟨xs, false⟩)).short = true := by
      cases hr : (rst 1 ⟨xs, false⟩).short with
      | true => exact rst_short hr
      | false => rw [(rstS_eq hr).1] at hp; exact hp
    rw [nread_short this]
    decide
theorem kind_bad {xs : List UInt8} (h : 1 < rnum 1 ⟨xs, false⟩) : (ndec xs).2 ≠ 0 := by
  have : (nread xs).2 ≠ 0 := by
    cases hs : (rst 1 (rst 1 ⟨xs, false⟩)).short with
    | true => rw [nread_short hs]; decide
    | false => rw [nread_kind hs (by omega) (by omega)]; decide
  unfold ndec
  rw [if_neg this]
  exact this
theorem ndec_no {xs : List UInt8} (h : (nread xs).2 ≠ 0) : (ndec xs).2 ≠ 0 := by unfold ndec; rw [if_neg h]; exact h
/-- what the page's answer is good for -/
def DecR (xs : List UInt8) (n : Nd) (err : Int) : Prop := (err = 0 ∧ ndec xs = (n, 0)) ∨ (err ≠ 0 ∧ n = none9 ∧ (ndec xs).2 ≠ 0)
theorem DecR.fin {xs : List UInt8} {n : Nd} {r : Rr} (h : nread xs = rfin (n, r)) (hs : r.short = false) (hr : r.rest.length = 0) : DecR xs (if ncheck n = 0 then n else none9) (ncheck n) := by
  have e : nread xs = (n, 0) := by rw [h]; unfold rfin; dsimp only; rw [hs, if_neg (by decide), if_neg (by omega)]
  unfold DecR ndec
  rw [e]
  by_cases hz : ncheck n = 0
  · rw [if_pos hz, hz]; left; exact ⟨rfl, by simp [hz]⟩
  · right; exact ⟨hz, if_neg hz, by simp [hz]⟩
set_option maxRecDepth 100000 in
set_option maxHeartbeats 8000000 in
theorem rdec9_any (w : World) (v : Value) (xs : List UInt8) (h : Rd w v xs) :
    Calls Try.prog 80 #[v] w fun e w' => ∃ n err kv vv dv, e = .returned (.tuple #[nv n kv vv dv, .int .i64 err]) ∧ DecR xs n err ∧ OwnN w.heap.size w' kv vv dv n ∧ Below w.heap.size w w' := by
  obtain ⟨a, c, rfl⟩ := h.slice
  obtain ⟨i0, ii, iz0, iz1, iz2⟩ := info_parts infoT
  obtain ⟨j0, ji, jz0, jz1, jz2⟩ := info_parts infoJ
  have lxs : xs.length ≤ 9223372036854775807 := by obtain ⟨_, _, e, _, m1, _⟩ := h; simp only [Value.slice.injEq] at e; unfold maxLen at m1; omega
  have HH := hide h
  obtain ⟨X, hX⟩ : ∃ X, X = ((w.alloc (.cells #[.bool false, nil9, nil9, nil9] 147)).alloc (.cells #[.slice a xs.length c, .int .i64 0, .bool false] 165)) := ⟨_, rfl⟩
  have bX : Below w.heap.size w X := by rw [hX]; exact ((Below.refl _ _).alloc (Nat.le_refl _) _).alloc (by simp) _
  have sX : X.heap.size = w.heap.size + 1 + 1 := by rw [hX]; simp
  have gX : X.heap[w.heap.size + 1]? = some (.cells #[.slice a xs.length c, .int .i64 0, .bool false] 165 (0, 0)) := by
    rw [hX]
    have := heap_alloc_last (w.alloc (.cells #[.bool false, nil9, nil9, nil9] 147)) (.cells #[.slice a xs.length c, .int .i64 0, .bool false] 165)
    simpa using this
  have rX : X.heap[w.heap.size]? = some (.cells #[.bool false, nil9, nil9, nil9] 147 (0, 0)) := by
    rw [hX, Below.heap_alloc _ _ _ (by simp)]; exact heap_alloc_last w _
  obtain ⟨r0, hr0⟩ : ∃ r : Rr, r = ⟨xs, false⟩ := ⟨_, rfl⟩
  have x0 : RdrP w (w.heap.size + 1) X xs r0 := by subst hr0; exact ⟨a, c, xs.length, 0, gX, h, rfl, Nat.zero_le _, by simp, bX, by omega⟩
  have K1 := hide (rnum9_any w (w.heap.size + 1) X xs r0 1 x0 (by decide))
  rw [(rstS_eq (s := 1) (r := r0) (by rw [hr0])).2.2] at K1
  have RX := hide (And.intro rX sX)
  have HR := hide hr0
  clear bX gX rX x0 hr0 h sX
  go_enter Try.func80, Try.ntmps80
  go_wp2_with fail
  rw [← hX]
  replace hX := hide hX
  refine K1.out.mono ?_
  rintro e w1 ⟨rfl, r1, k1⟩
  clear K1
  have RY : Hid (w1.heap[w.heap.size]? = some (.cells #[.bool false, nil9, nil9, nil9] 147 (0, 0)) ∧ w.heap.size + 1 + 1 ≤ w1.heap.size) := ⟨(k1.1 _ (by have := RX.out.2; omega) (by omega)).trans RX.out.1, by have := k1.2.1; have := RX.out.2; omega⟩
  obtain ⟨M, hM⟩ : ∃ M, M = rnum 1 r0 := ⟨_, rfl⟩
  rw [← hM]
  replace hM := hide hM
  have R1 := hide r1
  have hML : M < 256 := by rw [hM.out]; exact rnum_lt 1 _
  obtain ⟨ra, rc, rL, rat, hrd⟩ := r1
  have C2 := (cells3p hrd.box).1.2.2
  have B1 := hide hrd.bel
  clear hrd k1 RX
  by_cases m2 : 1 < M
  · have hs1 : (rstS 1 r0).short = false := by
      rw [(rstS_eq (s := 1) (r := r0) (by rw [HR.out])).1]
      unfold rst
      by_cases hl : r0.rest.length < 1
      · exfalso
        have : rnum 1 r0 = 0 := by unfold rnum rtk; rw [if_pos hl]; rfl
        have := hM.out
        omega
      · rw [if_neg hl, HR.out]
    rw [hs1] at C2
    have g1 : decide ((1 : Int) < (M : Int)) = true := decide_eq_true (by omega)
    have g2 : decide (1 < M) = true := decide_eq_true m2
    have e : Hid (DecR xs none9 22) := .inr ⟨by decide, rfl, kind_bad (by rw [← HR.out, ← hM.out]; exact m2)⟩
    obtain ⟨⟨Q0, Q1, Q2, Q3⟩, Rf⟩ := cells4 RY.out.1
    have Rf0 := Rf 0
    have Rf1 := Rf 1
    have Rf2 := Rf 2
    have Rf3 := Rf 3
    clear Rf hs1
    go_wp2
    refine retNT rfl rfl w.heap.size rfl _ _ (0, 0) (heap_set4 (u := w1) RY.out.1 _ _ _ _) _ Try.underlying147 rfl info_ndR (.int .i64 22) rfl ?_
    exact ⟨none9, 22, nil9, nil9, nil9, rfl, e.out, OwnN.nil _ _ _, below_set4n B1.out (Nat.le_refl _) _ _ _ _⟩
  go_upto_region 3 with fail
  go_cut [28] from 20 to 28 (fun s wx => s = .bool false ∧ w1 = wx)
  case first =>
    have g1 : decide ((1 : Int) < (M : Int)) = false := decide_eq_false (by omega)
    have g2 : decide (1 < M) = false := decide_eq_false m2
    cases hb : (rstS 1 r0).short
    all_goals
      rw [hb] at C2
      replace hb := hide hb
      go_wp2_with fail
      all_goals (go_meet; exact ⟨rfl, rfl⟩)
  case rest =>
  obtain ⟨rfl, rfl⟩ := hcut
  clear C2
  have K2 := hide (rnum9_any w (w.heap.size + 1) w1 xs (rstS 1 r0) 1 R1.out (by decide))
  go_wp2_with fail
  refine K2.out.mono ?_
  rintro e w2 ⟨rfl, r2, k2⟩
  clear K2
  have RZ : Hid (w2.heap[w.heap.size]? = some (.cells #[.bool false, nil9, nil9, nil9] 147 (0, 0)) ∧ w.heap.size + 1 + 1 ≤ w2.heap.size) := ⟨(k2.1 _ (by have := RY.out.2; omega) (by omega)).trans RY.out.1, by have := k2.2.1; have := RY.out.2; omega⟩
  have hL : rnumS 1 (rstS 1 r0) < 256 := rnumS_lt 1 _
  obtain ⟨left, hleft⟩ : ∃ L, L = rnumS 1 (rstS 1 r0) := ⟨_, rfl⟩
  rw [← hleft] at hL ⊢
  replace hleft := hide hleft
  obtain ⟨r, hr⟩ : ∃ q, q = rstS 1 (rstS 1 r0) := ⟨_, rfl⟩
  rw [← hr] at r2
  replace hr := hide hr
  obtain ⟨nb, hnb⟩ : ∃ nb, nb = w2.heap.size := ⟨_, rfl⟩
  have ST : Hid (∀ b : Bool, RStP w xs nb (w2.alloc (.cells #[.bool b, nil9, nil9, nil9] 147)) nil9 nil9 nil9 ⟨b, [], [], []⟩ r) := fun b => by
    have bb : Below w2.heap.size w2 (w2.alloc (.cells #[.bool b, nil9, nil9, nil9] 147)) := (Below.refl _ _).alloc (Nat.le_refl _) _
    refine ⟨r2.to bb, (bb.block _ (lt_of_block RZ.out.1)).trans RZ.out.1, by rw [hnb]; exact heap_alloc_last w2 _, OwnN.nil _ _ _, by have := RZ.out.2; omega, ?_, ?_, ?_⟩ <;> (intro k e; cases e)
  clear r2 k2 RY
  rcases (show M = 1 ∨ M = 0 by omega) with m1 | m1
  · subst m1
    have S0 : Hid (RStP w xs nb (w2.alloc (.cells #[.bool true, nil9, nil9, nil9] 147)) nil9 nil9 nil9 ⟨true, [], [], []⟩ r) := hide (ST.out true)
    clear ST
    obtain ⟨V, hV⟩ : ∃ V, V = w2.alloc (.cells #[.bool true, nil9, nil9, nil9] 147) := ⟨_, rfl⟩
    rw [← hV] at S0
    have N0 := (cells4 S0.out.box).1.1
    have G0 : Hid (GP xs left r ⟨true, [], [], []⟩) := by
      rw [hleft.out, hr.out, HR.out]
      exact GP.start (by rw [← HR.out, ← hM.out])
    rw [hV, hnb] at N0
    go_wp2
    rw [← hV, ← hnb]
    replace hV := hide hV
    replace hnb := hide hnb
    clear N0
    go_loopw [8] (fun p wr => ∃ i : Nat, i ≤ left ∧ p = .int .i64 i ∧ Hid (∃ (kv vv dv : Value) (n : Nd) (r : Rr), RStP w xs nb wr kv vv dv n r ∧ GP xs (left - i) r n ∧ n.leaf = true ∧ n.keys.length + (left - i) ≤ 256 ∧ n.vals.length + (left - i) ≤ 256 ∧ n.kids.length + (left - i) ≤ 257)) (fun p _ => left - (intOf p).toNat)
    case atStart => exact ⟨0, Nat.zero_le _, rfl, ⟨_, _, _, _, _, S0.out, G0.out, rfl, by simp; omega, by simp; omega, by simp; omega⟩⟩
    case round =>
      obtain ⟨i, hi, rfl, hI⟩ := hrel
      obtain ⟨kv, vv, dv, n, r, hs, hg, hlf, hb1, hb2, hb3⟩ := hI.out
      obtain ⟨ak, ck, av, cv, ad, cd, rfl, rfl, rfl⟩ := hs.own.rd.slices
      have S0 := hide hs
      replace hlf := hide hlf
      obtain ⟨ra, rc, rL, rat, hrd⟩ := hs.rdr
      have C2 := (cells3p hrd.box).1.2.2
      clear hs hI
      cases hsh : r.short with
      | true =>
        rw [hsh] at C2
        have hG : Hid ((nread xs).2 ≠ 0) := by
          rcases hg with ⟨h, _⟩ | ⟨_, h⟩
          · rw [hsh] at h; cases h
          · exact h
        clear hg hrd
        replace hsh := hide hsh
        by_cases hlt : i < left
        · have hq : (i : Int) < (left : Int) := by omega
          have RES := hide S0.out.res
          have BEL := hide S0.out.rdr.bel
          obtain ⟨⟨Q0, Q1, Q2, Q3⟩, Rf⟩ := cells4 RES.out
          have Rf0 := Rf 0
          have Rf1 := Rf 1
          have Rf2 := Rf 2
          have Rf3 := Rf 3
          clear Rf
          have e : Hid (DecR xs none9 8) := .inr ⟨by decide, rfl, ndec_no hG.out⟩
          go_wp2
          refine retNT rfl rfl w.heap.size rfl _ _ (0, 0) (heap_set4 (u := wr) RES.out _ _ _ _) _ Try.underlying147 rfl info_ndR (.int .i64 8) rfl ?_
          exact ⟨none9, 8, nil9, nil9, nil9, rfl, e.out, OwnN.nil _ _ _, below_set4n BEL.out (Nat.le_refl _) _ _ _ _⟩
        · have hq : ¬ (i : Int) < (left : Int) := by omega
          have RES := hide S0.out.res
          have BEL := hide S0.out.rdr.bel
          obtain ⟨⟨Q0, Q1, Q2, Q3⟩, Rf⟩ := cells4 RES.out
          have Rf0 := Rf 0
          have Rf1 := Rf 1
          have Rf2 := Rf 2
          have Rf3 := Rf 3
          clear Rf
          have e : Hid (DecR xs none9 8) := .inr ⟨by decide, rfl, ndec_no hG.out⟩
          go_wp2
          refine retNT rfl rfl w.heap.size rfl _ _ (0, 0) (heap_set4 (u := wr) RES.out _ _ _ _) _ Try.underlying147 rfl info_ndR (.int .i64 8) rfl ?_
          exact ⟨none9, 8, nil9, nil9, nil9, rfl, e.out, OwnN.nil _ _ _, below_set4n BEL.out (Nat.le_refl _) _ _ _ _⟩
      | false =>
        rw [hsh] at C2
        replace hsh := hide hsh
        by_cases hlt : i < left
        · have hq : (i : Int) < (left : Int) := by omega
          have g1 : decide (i < left) = true := decide_eq_true hlt
          obtain ⟨j, hj⟩ : ∃ j, left - i = j + 1 := ⟨left - i - 1, by omega⟩
          rw [hj] at hg
          have HG := hide (GP.next hg hsh.out)
          clear hg hrd
          replace hj := hide hj
          go_wp2_with fail
          clear C2
          have KN1 := hide (rnum9_any w (w.heap.size + 1) wr xs r 1 S0.out.rdr (by decide))
          obtain ⟨m1, hm1⟩ : ∃ m, m = rnumS 1 r := ⟨_, rfl⟩
          have hz1 : m1 < 256 := by rw [hm1]; exact rnumS_lt 1 _
          obtain ⟨q1, hq1⟩ : ∃ q, q = rstS 1 r := ⟨_, rfl⟩
          rw [← hm1, ← hq1] at KN1
          replace hm1 := hide hm1
          replace hq1 := hide hq1

          refine KN1.out.mono ?_
          rintro e wn1 ⟨rfl, rn1, kn1⟩
          clear KN1
          have ST1 : Hid (RStP w xs nb wn1 (.slice ak n.keys.length ck) (.slice av n.vals.length cv) (.slice ad n.kids.length cd) (⟨n.leaf, n.keys, n.vals, n.kids⟩ : Nd) q1) := hide (S0.out.call kn1 rn1)
          clear rn1 kn1
          have KN2 := hide (rtake_any w (w.heap.size + 1) wn1 xs q1 m1 ST1.out.rdr (by omega))
          obtain ⟨x2, hx2⟩ : ∃ x, x = rtkS m1 q1 := ⟨_, rfl⟩
          obtain ⟨q2, hq2⟩ : ∃ q, q = rstS m1 q1 := ⟨_, rfl⟩
          rw [← hx2, ← hq2] at KN2
          replace hx2 := hide hx2
          replace hq2 := hide hq2
          go_wp2_with fail
          refine KN2.out.mono ?_
          rintro e wn2 ⟨ta2, tc2, rfl, td2, rn2, kn2⟩
          clear KN2
          have ST2 : Hid (RStP w xs nb wn2 (.slice ak n.keys.length ck) (.slice av n.vals.length cv) (.slice ad n.kids.length cd) (⟨n.leaf, n.keys, n.vals, n.kids⟩ : Nd) q2) := hide (ST1.out.call kn2 rn2)
          have cv2 := conv_any (td2.to rn2.bel)
          clear rn2 kn2 td2
          have sb3 := ST2.out.below ((Below.refl wn2.heap.size wn2).alloc (Nat.le_refl _) (.cells #[(st x2)] 9))
          have ca3 := (cells4 ST2.out.box).1.2.1
          have FI3 : Hid (∀ (g cp : Nat) (U : World), U.ownsRow (nb + 1) 9 1 (.slice (some ⟨g, 0, none⟩) (n.keys.length + 1) cp) (n.keys.length + 1) (n.keys.map st ++ [(st x2)]) → (wn2.alloc (.cells #[(st x2)] 9)).grownBy U (Value.ownBlock (.slice ak n.keys.length ck)) → (Value.ownBlock (.slice ak n.keys.length ck) = some g ∨ g = wn2.heap.size + 1) → U.cell? ⟨nb, 1, none⟩ = some (.slice ak n.keys.length ck) ∧ U.frozen? ⟨nb, 1, none⟩ = false ∧ Hid (RStP w xs nb (U.setCell ⟨nb, 1, none⟩ (.slice (some ⟨g, 0, none⟩) (n.keys.length + 1) cp)) (.slice (some ⟨g, 0, none⟩) (n.keys.length + 1) cp) (.slice av n.vals.length cv) (.slice ad n.kids.length cd) (⟨n.leaf, (n.keys ++ [x2]), n.vals, n.kids⟩ : Nd) q2)) := fun g cp U ob kb hb => by
            have sb := sb3
            have nbl := (kb.block nb (lt_of_block sb.box) (fun e => by have := (row_from sb.own.keys nb e.symm).1; omega)).trans sb.box
            have oo : OwnT (nb + 1) U (.slice (some ⟨g, 0, none⟩) (n.keys.length + 1) cp) (n.keys ++ [x2]) := by show World.ownsRow _ _ _ _ _ _ _; simpa using ob
            exact ⟨(cells4 nbl).1.2.1, frz9 nbl 1, hide (sb.keys rfl oo kb (by rcases hb with h | h; exact .inl h; exact .inr (by simpa using h)))⟩
          have own3 := sb3.own.keys
          dsimp only at own3
          have lt3 := lt_of_block ST2.out.box
          clear sb3

          go_wp2_with (at_builtin; refine wpList_append_lies _ rfl _ _ 81 rfl (nb + 1) 9 _ (.string ⟨#[]⟩) 1 16 Try.underlying81 ii iz0 iz1 iz2 rfl (by decide) (.slice ak n.keys.length ck) n.keys.length (n.keys.map st) rfl own3 ⟨wn2.heap.size, 0, none⟩ 1 1 [(st x2)] rfl rfl (World.news_of_block (heap_alloc_last wn2 _)) (by simp [Value.oneCell']) (by decide) (by rw [show maxLen = 9223372036854775807 from rfl]; first | omega | (simp; omega)) (by first | omega | (simp; omega)) (by first | omega | (simp; omega)) (wn2.heap.size + 1) (by simp) ?_; intro ga3 cb3 wb3 ob3 kb3 hb3 _; obtain ⟨cc3, fz3, ST3⟩ := FI3.out ga3 cb3 wb3 ob3 kb3 hb3; clear ob3 kb3 hb3 FI3 own3 lt3; have N9 : (wb3.setCell ⟨nb, 1, none⟩ (.slice (some ⟨ga3, 0, none⟩) (n.keys.length + 1) cb3)).cell? ⟨nb, 0, none⟩ = some (.bool true) := (by have q9 := (cells4 ST3.out.box).1.1; rw [hlf.out] at q9; exact q9))
          clear cc3 fz3 ca3
          clear cv2 N9
          obtain ⟨V4, hV4⟩ : ∃ U, U = (wb3.setCell ⟨nb, 1, none⟩ (.slice (some ⟨ga3, 0, none⟩) (n.keys.length + 1) cb3)) := ⟨_, rfl⟩
          rw [← hV4] at ST3
          rw [← hV4]
          replace hV4 := hide hV4
          have KN5 := hide (rnum9_any w (w.heap.size + 1) V4 xs q2 1 ST3.out.rdr (by decide))
          obtain ⟨m5, hm5⟩ : ∃ m, m = rnumS 1 q2 := ⟨_, rfl⟩
          have hz5 : m5 < 256 := by rw [hm5]; exact rnumS_lt 1 _
          obtain ⟨q5, hq5⟩ : ∃ q, q = rstS 1 q2 := ⟨_, rfl⟩
          rw [← hm5, ← hq5] at KN5
          replace hm5 := hide hm5
          replace hq5 := hide hq5

          refine KN5.out.mono ?_
          rintro e wn5 ⟨rfl, rn5, kn5⟩
          clear KN5
          have ST5 : Hid (RStP w xs nb wn5 (.slice (some ⟨ga3, 0, none⟩) (n.keys.length + 1) cb3) (.slice av n.vals.length cv) (.slice ad n.kids.length cd) (⟨n.leaf, (n.keys ++ [x2]), n.vals, n.kids⟩ : Nd) q5) := hide (ST3.out.call kn5 rn5)
          clear rn5 kn5
          have KN6 := hide (rtake_any w (w.heap.size + 1) wn5 xs q5 m5 ST5.out.rdr (by omega))
          obtain ⟨x6, hx6⟩ : ∃ x, x = rtkS m5 q5 := ⟨_, rfl⟩
          obtain ⟨q6, hq6⟩ : ∃ q, q = rstS m5 q5 := ⟨_, rfl⟩
          rw [← hx6, ← hq6] at KN6
          replace hx6 := hide hx6
          replace hq6 := hide hq6
          go_wp2_with fail
          refine KN6.out.mono ?_
          rintro e wn6 ⟨ta6, tc6, rfl, td6, rn6, kn6⟩
          clear KN6
          have ST6 : Hid (RStP w xs nb wn6 (.slice (some ⟨ga3, 0, none⟩) (n.keys.length + 1) cb3) (.slice av n.vals.length cv) (.slice ad n.kids.length cd) (⟨n.leaf, (n.keys ++ [x2]), n.vals, n.kids⟩ : Nd) q6) := hide (ST5.out.call kn6 rn6)
          have cv6 := conv_any (td6.to rn6.bel)
          clear rn6 kn6 td6
          have sb7 := ST6.out.below ((Below.refl wn6.heap.size wn6).alloc (Nat.le_refl _) (.cells #[(st x6)] 9))
          have ca7 := (cells4 ST6.out.box).1.2.2.1
          have FI7 : Hid (∀ (g cp : Nat) (U : World), U.ownsRow (nb + 1) 9 1 (.slice (some ⟨g, 0, none⟩) (n.vals.length + 1) cp) (n.vals.length + 1) (n.vals.map st ++ [(st x6)]) → (wn6.alloc (.cells #[(st x6)] 9)).grownBy U (Value.ownBlock (.slice av n.vals.length cv)) → (Value.ownBlock (.slice av n.vals.length cv) = some g ∨ g = wn6.heap.size + 1) → U.cell? ⟨nb, 2, none⟩ = some (.slice av n.vals.length cv) ∧ U.frozen? ⟨nb, 2, none⟩ = false ∧ Hid (RStP w xs nb (U.setCell ⟨nb, 2, none⟩ (.slice (some ⟨g, 0, none⟩) (n.vals.length + 1) cp)) (.slice (some ⟨ga3, 0, none⟩) (n.keys.length + 1) cb3) (.slice (some ⟨g, 0, none⟩) (n.vals.length + 1) cp) (.slice ad n.kids.length cd) (⟨n.leaf, (n.keys ++ [x2]), (n.vals ++ [x6]), n.kids⟩ : Nd) q6)) := fun g cp U ob kb hb => by
            have sb := sb7
            have nbl := (kb.block nb (lt_of_block sb.box) (fun e => by have := (row_from sb.own.vals nb e.symm).1; omega)).trans sb.box
            have oo : OwnT (nb + 1) U (.slice (some ⟨g, 0, none⟩) (n.vals.length + 1) cp) (n.vals ++ [x6]) := by show World.ownsRow _ _ _ _ _ _ _; simpa using ob
            exact ⟨(cells4 nbl).1.2.2.1, frz9 nbl 2, hide (sb.vals rfl oo kb (by rcases hb with h | h; exact .inl h; exact .inr (by simpa using h)))⟩
          have own7 := sb7.own.vals
          dsimp only at own7
          have lt7 := lt_of_block ST6.out.box
          clear sb7

          go_wp2_with (at_builtin; refine wpList_append_lies _ rfl _ _ 81 rfl (nb + 1) 9 _ (.string ⟨#[]⟩) 1 16 Try.underlying81 ii iz0 iz1 iz2 rfl (by decide) (.slice av n.vals.length cv) n.vals.length (n.vals.map st) rfl own7 ⟨wn6.heap.size, 0, none⟩ 1 1 [(st x6)] rfl rfl (World.news_of_block (heap_alloc_last wn6 _)) (by simp [Value.oneCell']) (by decide) (by rw [show maxLen = 9223372036854775807 from rfl]; first | omega | (simp; omega)) (by first | omega | (simp; omega)) (by first | omega | (simp; omega)) (wn6.heap.size + 1) (by simp) ?_; intro ga7 cb7 wb7 ob7 kb7 hb7 _; obtain ⟨cc7, fz7, ST7⟩ := FI7.out ga7 cb7 wb7 ob7 kb7 hb7; clear ob7 kb7 hb7 FI7 own7 lt7)
          clear cc7 fz7 ca7
          clear cv6
          have HG2 : Hid (GP xs (left - (i + 1)) q6 (⟨n.leaf, (n.keys ++ [x2]), (n.vals ++ [x6]), n.kids⟩ : Nd)) := by
            rw [show left - (i + 1) = j by have := hj.out; omega, hq6.out, hx6.out, hq5.out, hm5.out, hq2.out, hx2.out, hq1.out, hm1.out]
            exact HG.out
          go_roundw
          case rel => exact ⟨i + 1, by omega, by go_num, hide ⟨_, _, _, _, _, ST7.out, HG2.out, hlf.out, by have := hj.out; simp; omega, by have := hj.out; simp; omega, by have := hj.out; simp; omega⟩⟩
          case measure => simp [intOf]; omega
        · have hq : ¬ (i : Int) < (left : Int) := by omega
          have hG : Hid (nread xs = rfin (n, r)) := by
            rw [show left - i = 0 by omega] at hg
            rcases hg with ⟨_, h⟩ | ⟨h, _⟩
            · exact h
            · rw [hsh.out] at h; cases h
          clear hg
          have RES := hide S0.out.res
          have BEL := hide S0.out.rdr.bel
          obtain ⟨⟨Q0, Q1, Q2, Q3⟩, Rf⟩ := cells4 RES.out
          have Rf0 := Rf 0
          have Rf1 := Rf 1
          have Rf2 := Rf 2
          have Rf3 := Rf 3
          clear Rf
          obtain ⟨⟨N0, N1, N2, N3⟩, _⟩ := cells4 S0.out.box
          have C1 := (cells3p hrd.box).1.2.1
          have hrl : r.rest.length = rL - rat := by rw [hrd.rest, List.length_drop, hrd.len]
          have hrle := hrd.le
          have hlen := hrd.len
          by_cases hl : rat < rL
          · have hq : (rat : Int) < (xs.length : Int) := by omega
            have e : Hid (DecR xs none9 23) := .inr ⟨by decide, rfl, ndec_no (by rw [hG.out]; unfold rfin; dsimp only; rw [hsh.out, if_neg (by decide), if_pos (by omega)]; decide)⟩
            replace hrl := hide hrl
            clear hrle
            replace hlen := hide hlen
            go_wp2
            refine retNT rfl rfl w.heap.size rfl _ _ (0, 0) (heap_set4 (u := wr) RES.out _ _ _ _) _ Try.underlying147 rfl info_ndR (.int .i64 23) rfl ?_
            exact ⟨none9, 23, nil9, nil9, nil9, rfl, e.out, OwnN.nil _ _ _, below_set4n BEL.out (Nat.le_refl _) _ _ _ _⟩
          · have hq : ¬ (rat : Int) < (xs.length : Int) := by omega
            have e := hide (DecR.fin hG.out hsh.out (by omega))
            have fit : nfit n := by unfold nfit; omega
            have KC := hide (rcheck9_any wr _ _ _ n S0.out.own.rd fit)
            dsimp only [nv] at KC
            obtain ⟨Z, hZ⟩ : ∃ Z, Z = ncheck n := ⟨_, rfl⟩
            rw [← hZ] at KC e
            replace hZ := hide hZ
            replace hrl := hide hrl
            clear hrle fit hrd
            replace hlen := hide hlen
            go_wp2_with fail
            clear N0 N1 N2 N3 Q0 Q1 Q2 Q3 Rf0 Rf1 Rf2 Rf3 C1
            refine KC.out.mono ?_
            rintro e' we ⟨rfl, be⟩
            clear KC
            have RE := hide ((be.block _ (lt_of_block RES.out)).trans RES.out)
            have BE := hide (BEL.out.trans (be.mono BEL.out.size))
            have OE := hide (S0.out.own.to be)
            have hnb9 := hide S0.out.hnb
            have Q0 := (cells4 RE.out).1.1
            have Q1 := (cells4 RE.out).1.2.1
            have Q2 := (cells4 RE.out).1.2.2.1
            have Q3 := (cells4 RE.out).1.2.2.2
            have Rf0 := (cells4 RE.out).2 0
            have Rf1 := (cells4 RE.out).2 1
            have Rf2 := (cells4 RE.out).2 2
            have Rf3 := (cells4 RE.out).2 3
            have BO := hide ((be.block _ (lt_of_block S0.out.box)).trans S0.out.box)
            have N0 := (cells4 BO.out).1.1
            have N1 := (cells4 BO.out).1.2.1
            have N2 := (cells4 BO.out).1.2.2.1
            have N3 := (cells4 BO.out).1.2.2.2
            clear be
            by_cases hz : Z = 0
            · subst hz
              rw [if_pos rfl] at e
              go_wp2
              refine retNT rfl rfl w.heap.size rfl _ _ (0, 0) (heap_set4 (u := we) RE.out _ _ _ _) _ Try.underlying147 rfl info_ndR (.int .i64 0) rfl ?_
              have hlt' : w.heap.size < nb + 1 := by have := hnb9.out; omega
              exact ⟨n, 0, _, _, _, rfl, e.out, ((((OE.out.set hlt' 0 _).set hlt' 1 _).set hlt' 2 _).set hlt' 3 _).mono (by omega), below_set4n BE.out (Nat.le_refl _) _ _ _ _⟩
            · rw [if_neg hz] at e
              go_wp2
              refine retNT rfl rfl w.heap.size rfl _ _ (0, 0) (heap_set4 (u := we) RE.out _ _ _ _) _ Try.underlying147 rfl info_ndR (.int .i64 Z) rfl ?_
              exact ⟨none9, Z, nil9, nil9, nil9, rfl, e.out, OwnN.nil _ _ _, below_set4n BE.out (Nat.le_refl _) _ _ _ _⟩
  · subst m1
    have S0 : Hid (RStP w xs nb (w2.alloc (.cells #[.bool false, nil9, nil9, nil9] 147)) nil9 nil9 nil9 ⟨false, [], [], []⟩ r) := hide (ST.out false)
    clear ST
    obtain ⟨V, hV⟩ : ∃ V, V = w2.alloc (.cells #[.bool false, nil9, nil9, nil9] 147) := ⟨_, rfl⟩
    rw [← hV] at S0
    have N0 := (cells4 S0.out.box).1.1
    have G0 : Hid (GK xs left (rstS 4 r) ⟨false, [], [], [((rnumS 4 r : Nat) : Int)]⟩) := by
      rw [hleft.out, hr.out, HR.out]
      exact GK.start (by rw [← HR.out, ← hM.out])
    rw [hV, hnb] at N0
    go_wp2
    rw [← hV, ← hnb]
    replace hV := hide hV
    replace hnb := hide hnb
    clear N0
    obtain ⟨n, hn⟩ : ∃ n : Nd, n = ⟨false, [], [], []⟩ := ⟨_, rfl⟩
    rw [← hn] at S0
    have SD : Hid (RStP w xs nb V.drew nil9 nil9 nil9 n r) := hide (S0.out.below ((Below.refl V.heap.size V).drew))
    have KT := hide (rnum9_any w (w.heap.size + 1) V.drew xs r 4 SD.out.rdr (by decide))
    obtain ⟨m9, hm9⟩ : ∃ m, m = rnumS 4 r := ⟨_, rfl⟩
    obtain ⟨q9, hq9⟩ : ∃ q, q = rstS 4 r := ⟨_, rfl⟩
    rw [← hm9, ← hq9] at KT G0
    replace hm9 := hide hm9
    replace hq9 := hide hq9
    have CB : Hid (∀ (U : World) (q : Rr), RStP w xs nb U nil9 nil9 nil9 n q → U.cell? ⟨nb, 3, none⟩ = some nil9) := fun U q h => (cells4 h.box).1.2.2.2
    have HN := hide hn
    clear hn
    refine wp_region_sched (fun w9 => w9.cell? ⟨nb, 3, none⟩ = some nil9) [(0, true), (1, true), (2, true), (3, false), (4, false)] 5 mixed (by kernel_rfl) (fun _ _ _ _ h => h) ?_
    iterate 3
      refine sched_take (v := ?_) rfl (by kernel_rfl) (CB.out _ _ SD.out) ?_ ?_
      rotate_left
      · intro w9 r1
        go_simp
        try with_reducible rfl
      try simp only [Act.put, List.setIfInBounds_toArray, List.set_cons_zero, List.set_cons_succ]
    refine sched_run rfl (by kernel_rfl) fun K hK => ?_
    refine wp_call_of 98 _ _ (by rfl) #[.pointer (some ⟨w.heap.size + 1, 0, none⟩), .int .i64 4] (by simp [Act.eval]) (Try.call98 _ _) KT.out ?_
    rintro e wa ⟨rfl, ra, ka⟩
    have SA : Hid (RStP w xs nb wa nil9 nil9 nil9 n q9) := hide (SD.out.call ka ra)
    refine ⟨_, rfl, hK _ _ (CB.out _ _ SA.out) ?_⟩
    clear hK K ra ka
    try simp only [Act.put, List.setIfInBounds_toArray, List.set_cons_zero, List.set_cons_succ]
    refine sched_run rfl (by kernel_rfl) fun K hK => ?_
    have sb := SA.out.below ((Below.refl wa.heap.size wa).alloc (Nat.le_refl _) (.cells #[.int .i64 (m9 : Int)] 3))
    go_simp
    refine hK _ _ (CB.out _ _ sb) ?_
    clear hK K
    try simp only [Act.put, List.setIfInBounds_toArray, List.set_cons_zero, List.set_cons_succ]
    show wpList _ _ _ _ _ _
    dsimp only [List.drop]
    have FI : Hid (∀ (g cp : Nat) (U : World), U.ownsRow (nb + 1) 3 1 (.slice (some ⟨g, 0, none⟩) 1 cp) 1 [.int .i64 (m9 : Int)] → (wa.alloc (.cells #[.int .i64 (m9 : Int)] 3)).grownBy U (Value.ownBlock nil9) → (Value.ownBlock nil9 = some g ∨ g = wa.heap.size + 1) → U.cell? ⟨nb, 3, none⟩ = some nil9 ∧ U.frozen? ⟨nb, 3, none⟩ = false ∧ Hid (RStP w xs nb (U.setCell ⟨nb, 3, none⟩ (.slice (some ⟨g, 0, none⟩) 1 cp)) nil9 nil9 (.slice (some ⟨g, 0, none⟩) 1 cp) ⟨false, [], [], [(m9 : Int)]⟩ q9)) := fun g cp U ob kb hb => by
      have sb := sb
      have nbl := (kb.block nb (lt_of_block sb.box) (fun e => by have := (row_from sb.own.kids nb e.symm).1; omega)).trans sb.box
      have oo : OwnJ (nb + 1) U (.slice (some ⟨g, 0, none⟩) 1 cp) (n.kids ++ [(m9 : Int)]) := by rw [HN.out]; exact ob
      have st := sb.kids rfl oo kb (by rcases hb with h | h; exact .inl h; exact .inr (by simpa using h))
      rw [HN.out] at st
      exact ⟨(cells4 nbl).1.2.2.2, frz9 nbl 3, hide st⟩
    have own0 : (wa.alloc (.cells #[.int .i64 (m9 : Int)] 3)).ownsRow (nb + 1) 3 1 nil9 0 [] := World.ownsRow_nil _ _ _ _
    have lt0 := lt_of_block SA.out.box
    clear sb KT CB SD SA
    go_wp2_with (at_builtin; refine wpList_append_lies _ rfl _ _ 28 rfl (nb + 1) 3 _ (.int .i64 0) 1 8 Try.underlying28 ji jz0 jz1 jz2 rfl (by decide) nil9 0 [] rfl own0 ⟨wa.heap.size, 0, none⟩ 1 1 [.int .i64 (m9 : Int)] rfl rfl (World.news_of_block (heap_alloc_last wa _)) (by simp [Value.oneCell']) (by decide) (by rw [show maxLen = 9223372036854775807 from rfl]; omega) (by omega) (by first | omega | (simp; omega)) (wa.heap.size + 1) (by simp) ?_; intro ga cb wb ob kb hb _; obtain ⟨cc, fz, STK⟩ := FI.out ga cb wb ob kb hb; clear ob kb hb FI own0 lt0)
    clear cc fz
    go_loopw [8] (fun p wr => ∃ i : Nat, i ≤ left ∧ p = .int .i64 i ∧ Hid (∃ (kv vv dv : Value) (n : Nd) (r : Rr), RStP w xs nb wr kv vv dv n r ∧ GK xs (left - i) r n ∧ n.leaf = false ∧ n.keys.length + (left - i) ≤ 256 ∧ n.vals.length + (left - i) ≤ 256 ∧ n.kids.length + (left - i) ≤ 257)) (fun p _ => left - (intOf p).toNat)
    case atStart => exact ⟨0, Nat.zero_le _, rfl, ⟨_, _, _, _, _, STK.out, G0.out, rfl, by simp; omega, by simp; omega, by simp; omega⟩⟩
    case round =>
      obtain ⟨i, hi, rfl, hI⟩ := hrel
      obtain ⟨kv, vv, dv, n, r, hs, hg, hlf, hb1, hb2, hb3⟩ := hI.out
      obtain ⟨ak, ck, av, cv, ad, cd, rfl, rfl, rfl⟩ := hs.own.rd.slices
      have S0 := hide hs
      replace hlf := hide hlf
      obtain ⟨ra, rc, rL, rat, hrd⟩ := hs.rdr
      have C2 := (cells3p hrd.box).1.2.2
      clear hs hI
      cases hsh : r.short with
      | true =>
        rw [hsh] at C2
        have hG : Hid ((nread xs).2 ≠ 0) := by
          rcases hg with ⟨h, _⟩ | ⟨_, h⟩
          · rw [hsh] at h; cases h
          · exact h
        clear hg hrd
        replace hsh := hide hsh
        by_cases hlt : i < left
        · have hq : (i : Int) < (left : Int) := by omega
          have RES := hide S0.out.res
          have BEL := hide S0.out.rdr.bel
          obtain ⟨⟨Q0, Q1, Q2, Q3⟩, Rf⟩ := cells4 RES.out
          have Rf0 := Rf 0
          have Rf1 := Rf 1
          have Rf2 := Rf 2
          have Rf3 := Rf 3
          clear Rf
          have e : Hid (DecR xs none9 8) := .inr ⟨by decide, rfl, ndec_no hG.out⟩
          go_wp2
          refine retNT rfl rfl w.heap.size rfl _ _ (0, 0) (heap_set4 (u := wr) RES.out _ _ _ _) _ Try.underlying147 rfl info_ndR (.int .i64 8) rfl ?_
          exact ⟨none9, 8, nil9, nil9, nil9, rfl, e.out, OwnN.nil _ _ _, below_set4n BEL.out (Nat.le_refl _) _ _ _ _⟩
        · have hq : ¬ (i : Int) < (left : Int) := by omega
          have RES := hide S0.out.res
          have BEL := hide S0.out.rdr.bel
          obtain ⟨⟨Q0, Q1, Q2, Q3⟩, Rf⟩ := cells4 RES.out
          have Rf0 := Rf 0
          have Rf1 := Rf 1
          have Rf2 := Rf 2
          have Rf3 := Rf 3
          clear Rf
          have e : Hid (DecR xs none9 8) := .inr ⟨by decide, rfl, ndec_no hG.out⟩
          go_wp2
          refine retNT rfl rfl w.heap.size rfl _ _ (0, 0) (heap_set4 (u := wr) RES.out _ _ _ _) _ Try.underlying147 rfl info_ndR (.int .i64 8) rfl ?_
          exact ⟨none9, 8, nil9, nil9, nil9, rfl, e.out, OwnN.nil _ _ _, below_set4n BEL.out (Nat.le_refl _) _ _ _ _⟩
      | false =>
        rw [hsh] at C2
        replace hsh := hide hsh
        by_cases hlt : i < left
        · have hq : (i : Int) < (left : Int) := by omega
          have g1 : decide (i < left) = true := decide_eq_true hlt
          obtain ⟨j, hj⟩ : ∃ j, left - i = j + 1 := ⟨left - i - 1, by omega⟩
          rw [hj] at hg
          have HG := hide (GK.next hg hsh.out)
          clear hg hrd
          replace hj := hide hj
          go_wp2_with fail
          clear C2
          have KN8 := hide (rnum9_any w (w.heap.size + 1) wr xs r 1 S0.out.rdr (by decide))
          obtain ⟨m8, hm8⟩ : ∃ m, m = rnumS 1 r := ⟨_, rfl⟩
          have hz8 : m8 < 256 := by rw [hm8]; exact rnumS_lt 1 _
          obtain ⟨q8, hq8⟩ : ∃ q, q = rstS 1 r := ⟨_, rfl⟩
          rw [← hm8, ← hq8] at KN8
          replace hm8 := hide hm8
          replace hq8 := hide hq8

          refine KN8.out.mono ?_
          rintro e wn8 ⟨rfl, rn8, kn8⟩
          clear KN8
          have ST8 : Hid (RStP w xs nb wn8 (.slice ak n.keys.length ck) (.slice av n.vals.length cv) (.slice ad n.kids.length cd) (⟨n.leaf, n.keys, n.vals, n.kids⟩ : Nd) q8) := hide (S0.out.call kn8 rn8)
          clear rn8 kn8
          have KN9 := hide (rtake_any w (w.heap.size + 1) wn8 xs q8 m8 ST8.out.rdr (by omega))
          obtain ⟨x9, hx9⟩ : ∃ x, x = rtkS m8 q8 := ⟨_, rfl⟩
          obtain ⟨q9, hq9⟩ : ∃ q, q = rstS m8 q8 := ⟨_, rfl⟩
          rw [← hx9, ← hq9] at KN9
          replace hx9 := hide hx9
          replace hq9 := hide hq9
          go_wp2_with fail
          refine KN9.out.mono ?_
          rintro e wn9 ⟨ta9, tc9, rfl, td9, rn9, kn9⟩
          clear KN9
          have ST9 : Hid (RStP w xs nb wn9 (.slice ak n.keys.length ck) (.slice av n.vals.length cv) (.slice ad n.kids.length cd) (⟨n.leaf, n.keys, n.vals, n.kids⟩ : Nd) q9) := hide (ST8.out.call kn9 rn9)
          have cv9 := conv_any (td9.to rn9.bel)
          clear rn9 kn9 td9
          have sb10 := ST9.out.below ((Below.refl wn9.heap.size wn9).alloc (Nat.le_refl _) (.cells #[(st x9)] 9))
          have ca10 := (cells4 ST9.out.box).1.2.1
          have FI10 : Hid (∀ (g cp : Nat) (U : World), U.ownsRow (nb + 1) 9 1 (.slice (some ⟨g, 0, none⟩) (n.keys.length + 1) cp) (n.keys.length + 1) (n.keys.map st ++ [(st x9)]) → (wn9.alloc (.cells #[(st x9)] 9)).grownBy U (Value.ownBlock (.slice ak n.keys.length ck)) → (Value.ownBlock (.slice ak n.keys.length ck) = some g ∨ g = wn9.heap.size + 1) → U.cell? ⟨nb, 1, none⟩ = some (.slice ak n.keys.length ck) ∧ U.frozen? ⟨nb, 1, none⟩ = false ∧ Hid (RStP w xs nb (U.setCell ⟨nb, 1, none⟩ (.slice (some ⟨g, 0, none⟩) (n.keys.length + 1) cp)) (.slice (some ⟨g, 0, none⟩) (n.keys.length + 1) cp) (.slice av n.vals.length cv) (.slice ad n.kids.length cd) (⟨n.leaf, (n.keys ++ [x9]), n.vals, n.kids⟩ : Nd) q9)) := fun g cp U ob kb hb => by
            have sb := sb10
            have nbl := (kb.block nb (lt_of_block sb.box) (fun e => by have := (row_from sb.own.keys nb e.symm).1; omega)).trans sb.box
            have oo : OwnT (nb + 1) U (.slice (some ⟨g, 0, none⟩) (n.keys.length + 1) cp) (n.keys ++ [x9]) := by show World.ownsRow _ _ _ _ _ _ _; simpa using ob
            exact ⟨(cells4 nbl).1.2.1, frz9 nbl 1, hide (sb.keys rfl oo kb (by rcases hb with h | h; exact .inl h; exact .inr (by simpa using h)))⟩
          have own10 := sb10.own.keys
          dsimp only at own10
          have lt10 := lt_of_block ST9.out.box
          clear sb10

          go_wp2_with (at_builtin; refine wpList_append_lies _ rfl _ _ 81 rfl (nb + 1) 9 _ (.string ⟨#[]⟩) 1 16 Try.underlying81 ii iz0 iz1 iz2 rfl (by decide) (.slice ak n.keys.length ck) n.keys.length (n.keys.map st) rfl own10 ⟨wn9.heap.size, 0, none⟩ 1 1 [(st x9)] rfl rfl (World.news_of_block (heap_alloc_last wn9 _)) (by simp [Value.oneCell']) (by decide) (by rw [show maxLen = 9223372036854775807 from rfl]; first | omega | (simp; omega)) (by first | omega | (simp; omega)) (by first | omega | (simp; omega)) (wn9.heap.size + 1) (by simp) ?_; intro ga10 cb10 wb10 ob10 kb10 hb10 _; obtain ⟨cc10, fz10, ST10⟩ := FI10.out ga10 cb10 wb10 ob10 kb10 hb10; clear ob10 kb10 hb10 FI10 own10 lt10; have N9 : (wb10.setCell ⟨nb, 1, none⟩ (.slice (some ⟨ga10, 0, none⟩) (n.keys.length + 1) cb10)).cell? ⟨nb, 0, none⟩ = some (.bool false) := (by have q9 := (cells4 ST10.out.box).1.1; rw [hlf.out] at q9; exact q9))
          clear cc10 fz10 ca10
          clear cv9 N9
          obtain ⟨V11, hV11⟩ : ∃ U, U = (wb10.setCell ⟨nb, 1, none⟩ (.slice (some ⟨ga10, 0, none⟩) (n.keys.length + 1) cb10)) := ⟨_, rfl⟩
          rw [← hV11] at ST10
          rw [← hV11]
          replace hV11 := hide hV11
          have KN12 := hide (rnum9_any w (w.heap.size + 1) V11 xs q9 4 ST10.out.rdr (by decide))
          obtain ⟨m12, hm12⟩ : ∃ m, m = rnumS 4 q9 := ⟨_, rfl⟩
          have hz12 : m12 < 4294967296 := by rw [hm12]; exact rnumS_lt 4 _
          obtain ⟨q12, hq12⟩ : ∃ q, q = rstS 4 q9 := ⟨_, rfl⟩
          rw [← hm12, ← hq12] at KN12
          replace hm12 := hide hm12
          replace hq12 := hide hq12

          refine KN12.out.mono ?_
          rintro e wn12 ⟨rfl, rn12, kn12⟩
          clear KN12
          have ST12 : Hid (RStP w xs nb wn12 (.slice (some ⟨ga10, 0, none⟩) (n.keys.length + 1) cb10) (.slice av n.vals.length cv) (.slice ad n.kids.length cd) (⟨n.leaf, (n.keys ++ [x9]), n.vals, n.kids⟩ : Nd) q12) := hide (ST10.out.call kn12 rn12)
          clear rn12 kn12
          have sb13 := ST12.out.below ((Below.refl wn12.heap.size wn12).alloc (Nat.le_refl _) (.cells #[(.int .i64 (m12 : Int))] 3))
          have ca13 := (cells4 ST12.out.box).1.2.2.2
          have FI13 : Hid (∀ (g cp : Nat) (U : World), U.ownsRow (nb + 1) 3 1 (.slice (some ⟨g, 0, none⟩) (n.kids.length + 1) cp) (n.kids.length + 1) (n.kids.map (Value.int .i64) ++ [(.int .i64 (m12 : Int))]) → (wn12.alloc (.cells #[(.int .i64 (m12 : Int))] 3)).grownBy U (Value.ownBlock (.slice ad n.kids.length cd)) → (Value.ownBlock (.slice ad n.kids.length cd) = some g ∨ g = wn12.heap.size + 1) → U.cell? ⟨nb, 3, none⟩ = some (.slice ad n.kids.length cd) ∧ U.frozen? ⟨nb, 3, none⟩ = false ∧ Hid (RStP w xs nb (U.setCell ⟨nb, 3, none⟩ (.slice (some ⟨g, 0, none⟩) (n.kids.length + 1) cp)) (.slice (some ⟨ga10, 0, none⟩) (n.keys.length + 1) cb10) (.slice av n.vals.length cv) (.slice (some ⟨g, 0, none⟩) (n.kids.length + 1) cp) (⟨n.leaf, (n.keys ++ [x9]), n.vals, (n.kids ++ [(m12 : Int)])⟩ : Nd) q12)) := fun g cp U ob kb hb => by
            have sb := sb13
            have nbl := (kb.block nb (lt_of_block sb.box) (fun e => by have := (row_from sb.own.kids nb e.symm).1; omega)).trans sb.box
            have oo : OwnJ (nb + 1) U (.slice (some ⟨g, 0, none⟩) (n.kids.length + 1) cp) (n.kids ++ [(m12 : Int)]) := by show World.ownsRow _ _ _ _ _ _ _; simpa using ob
            exact ⟨(cells4 nbl).1.2.2.2, frz9 nbl 3, hide (sb.kids rfl oo kb (by rcases hb with h | h; exact .inl h; exact .inr (by simpa using h)))⟩
          have own13 := sb13.own.kids
          dsimp only at own13
          have lt13 := lt_of_block ST12.out.box
          clear sb13

          go_wp2_with (at_builtin; refine wpList_append_lies _ rfl _ _ 28 rfl (nb + 1) 3 _ (.int .i64 0) 1 8 Try.underlying28 ji jz0 jz1 jz2 rfl (by decide) (.slice ad n.kids.length cd) n.kids.length (n.kids.map (Value.int .i64)) rfl own13 ⟨wn12.heap.size, 0, none⟩ 1 1 [(.int .i64 (m12 : Int))] rfl rfl (World.news_of_block (heap_alloc_last wn12 _)) (by simp [Value.oneCell']) (by decide) (by rw [show maxLen = 9223372036854775807 from rfl]; first | omega | (simp; omega)) (by first | omega | (simp; omega)) (by first | omega | (simp; omega)) (wn12.heap.size + 1) (by simp) ?_; intro ga13 cb13 wb13 ob13 kb13 hb13 _; obtain ⟨cc13, fz13, ST13⟩ := FI13.out ga13 cb13 wb13 ob13 kb13 hb13; clear ob13 kb13 hb13 FI13 own13 lt13)
          clear cc13 fz13 ca13
          have HG2 : Hid (GK xs (left - (i + 1)) q12 (⟨n.leaf, (n.keys ++ [x9]), n.vals, (n.kids ++ [(m12 : Int)])⟩ : Nd)) := by
            rw [show left - (i + 1) = j by have := hj.out; omega, hq12.out, hm12.out, hq9.out, hx9.out, hq8.out, hm8.out]
            exact HG.out
          go_roundw
          case rel => exact ⟨i + 1, by omega, by go_num, hide ⟨_, _, _, _, _, ST13.out, HG2.out, hlf.out, by have := hj.out; simp; omega, by have := hj.out; simp; omega, by have := hj.out; simp; omega⟩⟩
          case measure => simp [intOf]; omega
        · have hq : ¬ (i : Int) < (left : Int) := by omega
          have hG : Hid (nread xs = rfin (n, r)) := by
            rw [show left - i = 0 by omega] at hg
            rcases hg with ⟨_, h⟩ | ⟨h, _⟩
            · exact h
            · rw [hsh.out] at h; cases h
          clear hg
          have RES := hide S0.out.res
          have BEL := hide S0.out.rdr.bel
          obtain ⟨⟨Q0, Q1, Q2, Q3⟩, Rf⟩ := cells4 RES.out
          have Rf0 := Rf 0
          have Rf1 := Rf 1
          have Rf2 := Rf 2
          have Rf3 := Rf 3
          clear Rf
          obtain ⟨⟨N0, N1, N2, N3⟩, _⟩ := cells4 S0.out.box
          have C1 := (cells3p hrd.box).1.2.1
          have hrl : r.rest.length = rL - rat := by rw [hrd.rest, List.length_drop, hrd.len]
          have hrle := hrd.le
          have hlen := hrd.len
          by_cases hl : rat < rL
          · have hq : (rat : Int) < (xs.length : Int) := by omega
            have e : Hid (DecR xs none9 23) := .inr ⟨by decide, rfl, ndec_no (by rw [hG.out]; unfold rfin; dsimp only; rw [hsh.out, if_neg (by decide), if_pos (by omega)]; decide)⟩
            replace hrl := hide hrl
            clear hrle
            replace hlen := hide hlen
            go_wp2
            refine retNT rfl rfl w.heap.size rfl _ _ (0, 0) (heap_set4 (u := wr) RES.out _ _ _ _) _ Try.underlying147 rfl info_ndR (.int .i64 23) rfl ?_
            exact ⟨none9, 23, nil9, nil9, nil9, rfl, e.out, OwnN.nil _ _ _, below_set4n BEL.out (Nat.le_refl _) _ _ _ _⟩
          · have hq : ¬ (rat : Int) < (xs.length : Int) := by omega
            have e := hide (DecR.fin hG.out hsh.out (by omega))
            have fit : nfit n := by unfold nfit; omega
            have KC := hide (rcheck9_any wr _ _ _ n S0.out.own.rd fit)
            dsimp only [nv] at KC
            obtain ⟨Z, hZ⟩ : ∃ Z, Z = ncheck n := ⟨_, rfl⟩
            rw [← hZ] at KC e
            replace hZ := hide hZ
            replace hrl := hide hrl
            clear hrle fit hrd
            replace hlen := hide hlen
            go_wp2_with fail
            clear N0 N1 N2 N3 Q0 Q1 Q2 Q3 Rf0 Rf1 Rf2 Rf3 C1
            refine KC.out.mono ?_
            rintro e' we ⟨rfl, be⟩
            clear KC
            have RE := hide ((be.block _ (lt_of_block RES.out)).trans RES.out)
            have BE := hide (BEL.out.trans (be.mono BEL.out.size))
            have OE := hide (S0.out.own.to be)
            have hnb9 := hide S0.out.hnb
            have Q0 := (cells4 RE.out).1.1
            have Q1 := (cells4 RE.out).1.2.1
            have Q2 := (cells4 RE.out).1.2.2.1
            have Q3 := (cells4 RE.out).1.2.2.2
            have Rf0 := (cells4 RE.out).2 0
            have Rf1 := (cells4 RE.out).2 1
            have Rf2 := (cells4 RE.out).2 2
            have Rf3 := (cells4 RE.out).2 3
            have BO := hide ((be.block _ (lt_of_block S0.out.box)).trans S0.out.box)
            have N0 := (cells4 BO.out).1.1
            have N1 := (cells4 BO.out).1.2.1
            have N2 := (cells4 BO.out).1.2.2.1
            have N3 := (cells4 BO.out).1.2.2.2
            clear be
            by_cases hz : Z = 0
            · subst hz
              rw [if_pos rfl] at e
              go_wp2
              refine retNT rfl rfl w.heap.size rfl _ _ (0, 0) (heap_set4 (u := we) RE.out _ _ _ _) _ Try.underlying147 rfl info_ndR (.int .i64 0) rfl ?_
              have hlt' : w.heap.size < nb + 1 := by have := hnb9.out; omega
              exact ⟨n, 0, _, _, _, rfl, e.out, ((((OE.out.set hlt' 0 _).set hlt' 1 _).set hlt' 2 _).set hlt' 3 _).mono (by omega), below_set4n BE.out (Nat.le_refl _) _ _ _ _⟩
            · rw [if_neg hz] at e
              go_wp2
              refine retNT rfl rfl w.heap.size rfl _ _ (0, 0) (heap_set4 (u := we) RE.out _ _ _ _) _ Try.underlying147 rfl info_ndR (.int .i64 Z) rfl ?_
              exact ⟨none9, Z, nil9, nil9, nil9, rfl, e.out, OwnN.nil _ _ _, below_set4n BE.out (Nat.le_refl _) _ _ _ _⟩

end Go.Proofs.Ytgmkknonnidgaaa
