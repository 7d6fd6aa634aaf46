/- Several texts in one: ULa LURng. -/
import Derived.Test.YtjjicajodjophaaGoLURng3
import Derived.Test.YtjjicajodjophaaGoLURng2
import Derived.Test.YtjjicajodjophaaGoLURng1
set_option linter.unusedVariables false
set_option linter.unusedSimpArgs false
namespace Go.Proofs.Ytjjicajodjophaa
open Go.RowKit
theorem infoBool12 : (Try.prog.info? 4).map (fun i => (i.zero, i.size, i.bytes)) = some (some (.bool false), 1, 1) := by kernel_rfl
def BRow (g n : Nat) (us : List Bool) (w : World) : Prop := w.ownsRow g 4 1 (.slice (some ⟨g, 0, none⟩) n n) n (us.map Value.bool)
theorem make_bools12 {n : Nat} (hn : n ≤ 281474976710656) (u : World) : (Instr.makeSlice 66 (.int .i64 (n : Int)) (.int .i64 (n : Int))).run Try.prog u =
      .ok (.slice (some ⟨u.heap.size, 0, none⟩) n n) (u.alloc (.cells (madeCells #[.bool false] n) 4)) := by
 obtain ⟨i0, hi, hz0, hz1, hz2⟩ := info_parts infoBool12
 have h := run_make (P := Try.prog) u 66 4 i0 (.bool false) Try.underlying66 hi hz0 .i64 .i64 (n : Int) (n : Int) (by omega) (Int.le_refl _) (by rw [hz2]; omega) (by omega)
 simpa [hz1, Value.cells] using h
theorem BRow.made (w : World) (n : Nat) (h : n ≤ 281474976710656) : BRow w.heap.size n (List.replicate n false) (w.alloc (.cells (madeCells #[.bool false] n) 4)) := by
 have := World.ownsRow_lit (base := w.heap.size) (e := 4) (size := 1) w (madeCells #[.bool false] n) n (Nat.le_refl _) (by unfold maxLen; omega) (by simp [madeCells])
 rw [toList_madeCells_one] at this
 unfold BRow
 rw [List.map_replicate]
 exact this
theorem BRow.len {g n : Nat} {us : List Bool} {w : World} (h : BRow g n us w) : us.length = n := by
 have := h.1
 simpa using this
theorem BRow.cell {g n : Nat} {us : List Bool} {w : World} (h : BRow g n us w) {k : Nat} {b : Bool} (hk : us[k]? = some b) : w.cell? ⟨g, k, none⟩ = some (.bool b) :=
 rows_at (rows_base h fun _ _ => Nat.zero_le _) rfl (by rw [List.getElem?_map, hk]; rfl)
theorem BRow.frozen {g n : Nat} {us : List Bool} {w : World} (h : BRow g n us w) (k : Nat) : w.frozen? ⟨g, k, none⟩ = false := by
 exact World.ownsRow.frozenAt h k
theorem BRow.put {g n : Nat} {us : List Bool} {w : World} (h : BRow g n us w) (k : Nat) : BRow g n (us.set k true) (w.setCell ⟨g, k, none⟩ (.bool true)) := by
 have := (World.ownsRow.stored h k (.bool true)).1
 unfold BRow
 rw [List.map_set]
 exact this
theorem BRow.keep {g n : Nat} {us : List Bool} {w w' : World} (h : BRow g n us w) (hb : w'.heap[g]? = w.heap[g]?) : BRow g n us w' := by
 rcases h with ⟨h1, h2 | ⟨b, cap, cur, hv, hB, hg, hr⟩⟩
 ·exact ⟨h1, .inl h2⟩
 ·refine ⟨h1, .inr ⟨b, cap, cur, hv, hB, ?_, hr⟩⟩
  simp only [Value.slice.injEq, Option.some.injEq, Addr.mk.injEq] at hv
  obtain ⟨⟨rfl, _⟩, _⟩ := hv
  rw [hb]; exact hg
theorem BRow.lt {g n : Nat} {us : List Bool} {w : World} (h : BRow g n us w) : g < w.heap.size := (World.ownsRow.lt h g rfl).2
theorem BRow.below {g n B : Nat} {us : List Bool} {w w' : World} (h : BRow g n us w) (hb : Below B w w') (hB : g < B) : BRow g n us w' := h.keep (hb.block g hB)
theorem BRow.to {g n : Nat} {us : List Bool} {w w' : World} (h : BRow g n us w) (hb : Below w.heap.size w w') : BRow g n us w' := h.below hb h.lt
theorem row_set {w : World} {B T n : Nat} {v : Value} {m : Nat} {cc : List Value} (h : w.ownsRow B T n v m cc) {a : Addr} (ha : a.block < B) (u : Value) : (w.setCell a u).ownsRow B T n v m cc := by
 rcases h with ⟨h1, h2 | ⟨g, cap, cur, hv, hB, hg, hr⟩⟩
 ·exact ⟨h1, .inl h2⟩
 ·refine ⟨h1, .inr ⟨g, cap, cur, hv, hB, ?_, hr⟩⟩
  rw [Below.heap_setCell _ _ _ _ (fun e => by omega)]; exact hg
def HitI (us : List Bool) (p : Int → Prop) : Prop := us.length = 310 ∧ ∀ j : Nat, j < 310 → (us[j]? = some true ↔ p (j : Int))
theorem HitI.start {p : Int → Prop} (h : ∀ j, ¬ p j) : HitI (List.replicate 310 false) p := by
 refine ⟨List.length_replicate, fun j hj => ?_⟩
 rw [List.getElem?_replicate, if_pos hj]
 simp [h]
theorem HitI.step {us : List Bool} {p q : Int → Prop} (h : HitI us p) {k : Nat} (hk : k < 310) (hq : ∀ j, q j ↔ p j ∨ j = (k : Int)) : HitI (us.set k true) q := by
 refine ⟨by rw [List.length_set]; exact h.1, fun j hj => ?_⟩
 rw [hq, ← h.2 j hj, List.getElem?_set]
 by_cases e : k = j
 ·subst e
  rw [if_pos rfl, if_pos (by rw [h.1]; exact hk)]
  simp
 ·rw [if_neg e]
  constructor
  ·exact .inl
  ·rintro (h | h)
   ·exact h
   ·omega
theorem HitI.congr {us : List Bool} {p q : Int → Prop} (h : HitI us p) (hq : ∀ j, q j ↔ p j) : HitI us q := ⟨h.1, fun j hj => by rw [hq]; exact h.2 j hj⟩
theorem HitI.same {us vs : List Bool} {p : Int → Prop} (h : HitI us p) (k : HitI vs p) : us = vs := by
 apply List.ext_getElem? 
 intro j
 by_cases hj : j < 310
 ·have h1 := h.2 j hj
  have h2 := k.2 j hj
  rw [List.getElem?_eq_getElem (by rw [h.1]; exact hj)] at h1 ⊢
  rw [List.getElem?_eq_getElem (by rw [k.1]; exact hj)] at h2 ⊢
  simp only [Option.some.injEq] at h1 h2 ⊢
  exact Bool.eq_iff_iff.2 (h1.trans h2.symm)
 ·rw [List.getElem?_eq_none (by rw [h.1]; omega), List.getElem?_eq_none (by rw [k.1]; omega)]
set_option maxRecDepth 100000 in
set_option maxHeartbeats 1000000 in
theorem sameBools_any (w : World) (g1 g2 n : Nat) (us : List Bool) (h1 : BRow g1 n us w) (h2 : BRow g2 n us w) (hn : n ≤ 1000000) :
  Calls Try.prog 28 #[.slice (some ⟨g1, 0, none⟩) n n, .slice (some ⟨g2, 0, none⟩) n n] w fun e w' => e = .returned (.bool true) ∧ Below w.heap.size w w' := by
 have hl := h1.len
 have H1 := hide h1
 have H2 := hide h2
 replace hl := hide hl
 clear h1 h2
 go_enter Try.func28, Try.ntmps28
 go_wp2
 go_loopw [5] (fun i wr => ∃ k : Nat, k ≤ n ∧ i = .int .i64 k ∧ Hid (Below w.heap.size w wr)) (fun i _ => n - (intOf i).toNat)
 case atStart => exact ⟨0, Nat.zero_le _, rfl, hide (Below.refl _ _)⟩
 case round =>
  obtain ⟨k, hk, rfl, hw⟩ := hrel
  by_cases hlt : k < n
  ·have hq : (k : Int) < (n : Int) := by omega
   obtain ⟨x, hx, _⟩ := some_at us (k := k) (by rw [hl.out]; exact hlt)
   have c1 := (H1.out.to hw.out).cell hx
   have c2 := (H2.out.to hw.out).cell hx
   have bd := hide (fun m => hw.out.trans (below_drewN' wr m _))
   clear hx
   cases x
   ·go_wp2
    go_region
    go_wp2
    go_roundw
    case rel => exact ⟨k + 1, by omega, by go_num, hide (bd.out 1)⟩
    case measure => simp [intOf]; omega
   ·go_wp2
    go_region
    go_wp2
    go_roundw
    case rel => exact ⟨k + 1, by omega, by go_num, hide (bd.out 1)⟩
    case measure => simp [intOf]; omega
  ·have hq : ¬ (k : Int) < (n : Int) := by omega
   go_wp2
   go_ret
   exact ⟨rfl, hw.out⟩
theorem rngs_alive : rngs [(1, 0, 4), (1, 0, 8)] = [(4, 8)] := by
 have e : srt (dmAts [(1, 0, 4), (1, 0, 8)]) = [4, 8] := by
  have : dmAts [(1, 0, 4), (1, 0, 8)] = [4, 8] := by decide
  rw [this]
  exact List.mergeSort_of_pairwise (by simp)
 unfold rngs
 rw [e]
 decide
theorem rd_lit3 {w : World} {T g : Nat} {l : List D3} {cs : Array Value} (h : w.heap[g]? = some (.cells cs T (0, 0))) (hc : cs.toList = dcells l) (hl : l.length ≤ 1000) : RdD w (.slice (some ⟨g, 0, none⟩) l.length l.length) l := by
 have hs : cs.size = l.length * 3 := by
  rw [← Array.length_toList, hc]
  clear h hc hl
  induction l with
  | nil => rfl
  | cons x r ih => rw [dcells_cons, List.length_append, ih, List.length_cons]; simp; omega
 refine (OwnD.rd (T := T) (B := 0) ⟨by rw [← hc, Array.length_toList]; exact hs, .inr ⟨g, l.length, cs, rfl, Nat.zero_le _, h, Nat.le_refl _, by unfold maxLen; omega, hs, ?_⟩⟩)
 rw [← hc, List.take_of_length_le (by rw [Array.length_toList]; omega)]
theorem rd_litE {w : World} {g : Nat} {x y : Int} (h : w.heap[g]? = some (.cells #[.int .i64 x, .int .i64 y] 73 (0, 0))) : RdE w (.slice (some ⟨g, 0, none⟩) 1 1) [(x, y)] := by
 exact ownE_rd2 (B := 0) (l := [(x, y)]) ⟨rfl, .inr ⟨g, 1, _, rfl, Nat.zero_le _, h, Nat.le_refl _, by unfold maxLen; omega, rfl, rfl⟩⟩
set_option maxRecDepth 100000 in
set_option maxHeartbeats 2000000 in
theorem ualive_any (w : World) : Calls Try.prog 23 #[] w fun e w' => e = .returned (.bool true) ∧ Below w.heap.size w w' := by
 obtain ⟨A, hA, A0, bA, sA⟩ := boxedN w #[.int .i64 1, .int .i64 0, .int .i64 4, .int .i64 1, .int .i64 0, .int .i64 8] 42
 have KR := hide (pranges_any A _ [(1, 0, 4), (1, 0, 8)] (rd_lit3 A0 rfl (by simp)) (by simp))
 rw [rngs_alive] at KR
 simp only [List.length_cons, List.length_nil, Nat.zero_add, Nat.reduceAdd] at KR
 have HB := hide bA
 rw [hA] at KR
 clear A0 bA
 go_enter Try.func23, Try.ntmps23
 go_wp2_with fail
 refine KR.out.mono ?_
 rw [← hA]
 rintro e w1 ⟨v1, rfl, o1, b1⟩
 have B1 := hide (HB.out.trans (b1.mono HB.out.size))
 obtain ⟨C, hC, C0, bC, sC⟩ := boxedN w1 #[.int .i64 4, .int .i64 8] 73
 have KS := hide (sameExt_any C v1 _ [(4, 8)] [(4, 8)] ((ownE_rd2 o1).to0 bC) (rd_litE C0))
 rw [show sameE [(4, 8)] [(4, 8)] = true by simp [sameE]] at KS
 obtain ⟨va, vc, rfl⟩ := (ownE_rd2 o1).slice
 have HC := hide (B1.out.trans (bC.mono B1.out.size))
 rw [hC] at KS
 clear KR o1 b1 C0 bC B1 HB
 go_wp2_with fail
 refine KS.out.mono ?_
 rw [← hC]
 rintro e w2 ⟨rfl, n2, hw2⟩
 have B2 := hide (HC.out.trans ((show Below C.heap.size C w2 by rw [hw2]; exact below_drewN' _ _ _).mono HC.out.size))
 obtain ⟨D, hD, D0, bD, sD⟩ := boxedN w2 #[.int .i64 2, .int .i64 0, .int .i64 0] 42
 have KV := hide (uverdict_any D _ [(2, 0, 0)] (rd_lit3 D0 rfl (by simp)))
 have KN := hide (uverdict_any D (.slice none 0 0) [] (RdS.nil _ _))
 simp only [List.length_cons, List.length_nil, Nat.zero_add, Nat.reduceAdd, Nat.lt_irrefl, decide_false, Nat.lt_add_one, Nat.zero_lt_one, decide_true] at KV KN
 have BD := hide (B2.out.trans (bD.mono B2.out.size))
 rw [hD] at KV KN
 clear KS D0 bD B2 HC hw2
 go_wp2_with fail
 refine KV.out.mono ?_
 rintro e w3 ⟨rfl, hw3⟩
 rw [← hw3]
 clear hw3
 go_wp2_with fail
 refine KN.out.mono ?_
 rintro e w4 ⟨rfl, hw4⟩
 rw [← hw4]
 clear hw4
 go_wp2
 go_ret
 rw [← hD]
 exact ⟨rfl, BD.out⟩
end Go.Proofs.Ytjjicajodjophaa

namespace Go.Proofs.Ytjjicajodjophaa.scrubRanges
open Go.ChangeShapes Go.WideShapes Go.ChangeAt Go.RowKit
def dmOf (ks : List Int) : List D3 := ks.map fun a => (1, 0, a)
theorem dmAts_of {ks : List Int} (h : ∀ a ∈ ks, 0 ≤ a ∧ a < 300) : dmAts (dmOf ks) = ks := by
 unfold dmAts dmOf
 rw [List.filterMap_map]
 induction ks with
 | nil => rfl
 | cons a r ih =>
  have ha := h a (List.mem_cons_self ..)
  rw [List.filterMap_cons_some (b := a) (by show dmAt (1, 0, a) = some a; unfold dmAt; rw [if_pos ⟨rfl, ha.1, by dsimp only; omega⟩]), ih fun b hb => h b (List.mem_cons_of_mem _ hb)]
def lastE (R : List Ext) (k : Nat) : Int := if k = 0 then -1 else match R[k - 1]? with | some x => x.1 + x.2 | none => 0
theorem lastE_zero (R : List Ext) : lastE R 0 = -1 := rfl
theorem lastE_next {R : List Ext} {k : Nat} {x : Ext} (h : R[k]? = some x) : lastE R (k + 1) = x.1 + x.2 := by
 unfold lastE
 rw [if_neg (by omega), Nat.add_sub_cancel, h]
theorem lastE_lt {R : List Ext} (hp : R.Pairwise fun x y => x.1 + x.2 < y.1) (h0 : ∀ x ∈ R, 0 ≤ x.1) {k : Nat} {x : Ext} (h : R[k]? = some x) : lastE R k < x.1 := by
 cases k with
 | zero => have := h0 x (List.mem_of_getElem? h); rw [lastE_zero]; omega
 | succ k =>
  have hk : k + 1 < R.length := (List.getElem?_eq_some_iff.1 h).1
  obtain ⟨y, hy⟩ : ∃ y, R[k]? = some y := ⟨R[k]'(by omega), List.getElem?_eq_getElem _⟩
  rw [lastE_next hy]
  rw [List.pairwise_iff_getElem] at hp
  have := hp k (k + 1) (by omega) hk (by omega)
  rw [List.getElem?_eq_getElem (by omega)] at hy h
  simp only [Option.some.injEq] at hy h
  rw [hy, h] at this
  exact this
def hitOf (ks : List Int) (j : Int) : Prop := ∃ b ∈ ks, b ≤ j ∧ j < b + 4
def hitR (R : List Ext) (j : Int) : Prop := ∃ x ∈ R, x.1 ≤ j ∧ j < x.1 + x.2
theorem hitOf_snoc (ks : List Int) (a j : Int) : hitOf (ks ++ [a]) j ↔ hitOf ks j ∨ (a ≤ j ∧ j < a + 4) := by
 unfold hitOf
 simp only [List.mem_append, List.mem_singleton]
 constructor
 ·rintro ⟨b, hb | rfl, h⟩
  ·exact .inl ⟨b, hb, h⟩
  ·exact .inr h
 ·rintro (⟨b, hb, h⟩ | h)
  ·exact ⟨b, .inl hb, h⟩
  ·exact ⟨a, .inr rfl, h⟩
theorem hitR_next {R : List Ext} {k : Nat} {x : Ext} (h : R[k]? = some x) (j : Int) : hitR (R.take (k + 1)) j ↔ hitR (R.take k) j ∨ (x.1 ≤ j ∧ j < x.1 + x.2) := by
 rw [List.take_add_one, h]
 unfold hitR
 simp only [List.mem_append, Option.mem_toList, Option.mem_def, Option.some.injEq]
 constructor
 ·rintro ⟨b, hb | rfl, h⟩
  ·exact .inl ⟨b, hb, h⟩
  ·exact .inr h
 ·rintro (⟨b, hb, h⟩ | h)
  ·exact ⟨b, .inl hb, h⟩
  ·exact ⟨x, .inr rfl, h⟩
theorem wr2 (X T : Nat) (h : X + T ≤ 310) : wrap64 ((X : Int) + (T : Int)) = (X : Int) + (T : Int) ∧ IntKind.i64.wrap ((X : Int) + (T : Int)) = (X : Int) + (T : Int) := ⟨IntWalk.wrap64_in _ (by omega), by rw [IntKind.wrap_i64]; omega⟩
theorem n1 {X t T : Nat} (h : t < T) (h3 : (X : Int) + (T : Int) ≤ 299 + 4) : ((X + t : Nat) : Int) < (X : Int) + (T : Int) ∧ ((X + t : Nat) : Int) < 310 ∧ X + t < 310 := by omega
theorem n2 (X T : Nat) : ¬ ((X + T : Nat) : Int) < (X : Int) + (T : Int) := by omega
theorem n3 {P : Int → Prop} {X t : Nat} (j : Int) : (P j ∨ ((X : Int) ≤ j ∧ j < (X : Int) + ((t + 1 : Nat) : Int))) ↔ (P j ∨ ((X : Int) ≤ j ∧ j < (X : Int) + (t : Nat))) ∨ j = ((X + t : Nat) : Int) := by
 constructor
 ·rintro (h | h)
  ·exact .inl (.inl h)
  ·by_cases e : j = ((X + t : Nat) : Int)
   ·exact .inr e
   ·exact .inl (.inr (by omega))
 ·rintro ((h | h) | h)
  ·exact .inl h
  ·exact .inr (by omega)
  ·exact .inr (by omega)
theorem n4 {X t T P : Nat} (hP : X + t = P) (h : t < T) : X + T - (intOf (.int .i64 ((P : Int) + 1))).toNat < X + T - (intOf (.int .i64 (P : Int))).toNat := by simp only [intOf]; omega
theorem n5 {X t P : Nat} (hP : X + t = P) : Value.int .i64 ((P : Int) + 1) = .int .i64 ((X + (t + 1) : Nat) : Int) := by rw [← Nat.add_assoc, hP]; rfl
theorem n6 {P : Int → Prop} {X : Nat} (j : Int) : (P j ∨ ((X : Int) ≤ j ∧ j < (X : Int) + ((0 : Nat) : Int))) ↔ P j := ⟨fun h => h.elim id (fun h => by omega), .inl⟩
structure I1 (w : World) (g : Nat) (o : Value) (ks : List Int) (us : List Bool) (p : Int → Prop) (wr : World) : Prop where
 dm : OwnD TDP (g + 1) wr o (dmOf ks)
 row : BRow g 310 us wr
 hit : HitI us p
 bel : Below w.heap.size w wr
theorem I1.set {w wr : World} {g : Nat} {o : Value} {ks : List Int} {us : List Bool} {p q : Int → Prop} (h : I1 w g o ks us p wr) (hg : w.heap.size ≤ g) {k : Nat} (hk : k < 310) (hq : ∀ j, q j ↔ p j ∨ j = (k : Int)) : I1 w g o ks (us.set k true) q (wr.setCell ⟨g, k, none⟩ (.bool true)) :=
 ⟨row_set h.dm (show g < g + 1 by omega) _, h.row.put k, h.hit.step hk hq, h.bel.setCell (p := ⟨g, k, none⟩) hg _⟩
structure I2 (W : World) (g2 : Nat) (us : List Bool) (p : Int → Prop) (wr : World) : Prop where
 row : BRow g2 310 us wr
 hit : HitI us p
 bel : Below W.heap.size W wr
theorem I2.set {W wr : World} {g2 : Nat} {us : List Bool} {p q : Int → Prop} (h : I2 W g2 us p wr) (hg : W.heap.size ≤ g2) {k : Nat} (hk : k < 310) (hq : ∀ j, q j ↔ p j ∨ j = (k : Int)) : I2 W g2 (us.set k true) q (wr.setCell ⟨g2, k, none⟩ (.bool true)) :=
 ⟨h.row.put k, h.hit.step hk hq, h.bel.setCell (p := ⟨g2, k, none⟩) hg _⟩
theorem I2.drew {W wr : World} {g2 : Nat} {us : List Bool} {p : Int → Prop} (h : I2 W g2 us p wr) (n : Nat) : I2 W g2 us p (wr.drewN n) := ⟨h.row.to (below_drewN' wr n _), h.hit, h.bel.trans (below_drewN' wr n _)⟩
set_option maxRecDepth 100000 in
set_option maxHeartbeats 4000000 in
theorem walk (w : World) (a0 : Option Addr) (len0 cap0 : Nat) (xs : List Int) (g0 : SInts.rd w [.slice a0 len0 cap0] xs) (m0 : xs.length * 8 ≤ 140737488351232 ∧ ∀ x ∈ xs, True) :
  Calls Try.prog 5 #[.slice a0 len0 cap0] w fun e w' => e = .returned (.bool true) ∧ Below w.heap.size w w' := by
 obtain ⟨v, e, h0⟩ := g0
 simp only [List.cons.injEq, and_true] at e
 subst e
 have hbd := h0.bd
 obtain ⟨a, c, e⟩ := h0.slice
 simp only [Value.slice.injEq] at e
 obtain ⟨rfl, rfl, rfl⟩ := e
 have H0 := hide h0
 clear h0 m0
 go_enter Try.func5, Try.ntmps5
 go_wp2_with fail
 refine (ualive_any _).mono ?_
 rintro e w1 ⟨rfl, b1⟩
 have B1 := hide b1
 have hmk : (Instr.makeSlice 66 (.int .i64 310) (.int .i64 310)).run Try.prog w1 = .ok (.slice (some ⟨w1.heap.size, 0, none⟩) 310 310) (w1.alloc (.cells (madeCells #[.bool false] 310) 4)) := make_bools12 (n := 310) (by omega) w1
 obtain ⟨W, hW⟩ : ∃ W, W = w1.alloc (.cells (madeCells #[.bool false] 310) 4) := ⟨_, rfl⟩
 have st0 : Hid (I1 w w1.heap.size (.slice none 0 0) [] (List.replicate 310 false) (hitOf []) W) := by
  rw [hW]
  exact ⟨OwnD.nil _ _ _, BRow.made w1 310 (by omega), HitI.start (by rintro j ⟨b, hb, _⟩; cases hb), b1.trans ((Below.refl _ _).alloc b1.size _)⟩
 rw [← hW] at hmk
 have sg : w.heap.size ≤ w1.heap.size := b1.size
 have sW : Hid (W.heap.size = w1.heap.size + 1) := by show _ = _; rw [hW]; simp
 replace hW := hide hW
 clear b1
 obtain ⟨g, hg⟩ : ∃ g, g = w1.heap.size := ⟨_, rfl⟩
 rw [← hg] at hmk st0 sg
 replace hg := hide hg
 go_wp2
 go_loopw [3, 5] (fun o i wr => ∃ (k : Nat) (ks : List Int) (us : List Bool), k ≤ xs.length ∧ k ≤ 60 ∧ i = .int .i64 k ∧ Hid (ks.length = k ∧ (∀ a ∈ ks, 0 ≤ a ∧ a < 300) ∧ I1 w g o ks us (hitOf ks) wr)) (fun _ i _ => 60 - (intOf i).toNat)
 case atStart => exact ⟨0, [], _, Nat.zero_le _, Nat.zero_le _, rfl, hide ⟨rfl, by simp, st0.out⟩⟩
 case round =>
  obtain ⟨k, ks, us, hk, hk6, rfl, hI⟩ := hrel
  clear hmk st0
  go_upto_region 6 with fail
  go_cut [23] from 16 to 47 (fun b wx => b = .bool (decide (k < xs.length ∧ k < 60)) ∧ wr = wx)
  case first =>
   by_cases hlt : k < xs.length
   ·have hq : (k : Int) < (xs.length : Int) := by omega
    by_cases h6 : k < 60
    ·have hq6 : (k : Int) < 60 := by omega
     have hd := hide (show decide (k < xs.length ∧ k < 60) = true from decide_eq_true ⟨hlt, h6⟩)
     go_wp2_with fail
     go_meet
     exact ⟨by rw [hd.out], rfl⟩
    ·have hq6 : ¬ (k : Int) < 60 := by omega
     have hd := hide (show decide (k < xs.length ∧ k < 60) = false from decide_eq_false (fun h => h6 h.2))
     go_wp2_with fail
     go_meet
     exact ⟨by rw [hd.out], rfl⟩
   ·have hq : ¬ (k : Int) < (xs.length : Int) := by omega
    have hd := hide (show decide (k < xs.length ∧ k < 60) = false from decide_eq_false (fun h => hlt h.1))
    go_wp2_with fail
    go_meet
    exact ⟨by rw [hd.out], rfl⟩
  case rest =>
  obtain ⟨rfl, rfl⟩ := hcut
  by_cases hgo : k < xs.length ∧ k < 60
  ·rw [decide_eq_true hgo]
   obtain ⟨hlt, h6⟩ := hgo
   have hq : (k : Int) < (xs.length : Int) := by omega
   obtain ⟨x, hx, hxm⟩ := some_at xs hlt
   obtain ⟨xb, xo, u, rfl, hcu, hu⟩ := RdS.at1 (s := Shp.int .i64) rfl (H0.out.to0 hI.out.2.2.bel) hx
   have hu' : [u] = [Value.int .i64 x] := hu
   simp only [List.cons.injEq, and_true] at hu'
   subst hu'
   have z1 := Int.lt_tmod_of_pos x (b := 300) (by decide)
   have z2 := Int.tmod_lt_of_pos x (b := 300) (by decide)
   have z3 := Int.emod_nonneg (x.tmod 300) (b := 300) (by decide)
   have z4 := Int.emod_lt_of_pos (x.tmod 300) (b := 300) (by decide)
   obtain ⟨M, hM⟩ : ∃ M : Nat, (M : Int) = x.tmod 300 % 300 := ⟨(x.tmod 300 % 300).toNat, by omega⟩
   have hM3 : M < 300 := by omega
   have HM := hide hM
   have hkl : Hid ((dmOf ks).length ≤ 60) := by show _ ≤ _; unfold dmOf; rw [List.length_map, hI.out.1]; exact hk6
   obtain ⟨v6, w6, hr6, o6, b6, s6⟩ := run_append_d3 (TL := 33) Try.underlying33 infoDP wr hI.out.2.2.dm 1 0 (M : Int) (by have := hkl.out; omega) hI.out.2.2.row.lt
   have J0 : Hid (I1 w g v6 (ks ++ [(M : Int)]) us (hitOf ks) w6) := ⟨by unfold dmOf; rw [List.map_append]; exact o6, hI.out.2.2.row.below b6 (by omega), hI.out.2.2.hit, hI.out.2.2.bel.trans (b6.mono (by omega))⟩
   have hv6 : ∃ va vc, v6 = .slice va (k + 1) vc := by
    obtain ⟨va, vc, e⟩ := o6.rd.slice
    exact ⟨va, vc, by rw [e, List.length_append]; unfold dmOf; rw [List.length_map, hI.out.1]; rfl⟩
   obtain ⟨va, vc, rfl⟩ := hv6
   clear o6 b6 hx hxm hM hu
   go_upto_region 9 with fail
   simp only [Int.add_emod_right, ← HM.out]
   clear z1 z2 z3 z4
   go_wp2_with (at_builtin; refine Lib.wpList_append_run _ rfl _ _ _ _ rfl _ _ rfl rfl _ _ hr6 ?_)
   clear hr6 hcu
   go_loopw [7] (fun j wx => ∃ (t : Nat) (us' : List Bool), t ≤ 4 ∧ j = .int .i64 ((M + t : Nat) : Int) ∧ Hid (I1 w g (.slice va (k + 1) vc) (ks ++ [(M : Int)]) us' (fun j => hitOf ks j ∨ ((M : Int) ≤ j ∧ j < (M : Int) + (t : Nat))) wx)) (fun j _ => M + 4 - (intOf j).toNat)
   case atStart => exact ⟨0, us, Nat.zero_le _, rfl, hide ⟨J0.out.dm, J0.out.row, J0.out.hit.congr fun j => ⟨fun h => h.elim id (fun h => by omega), .inl⟩, J0.out.bel⟩⟩
   case round =>
    obtain ⟨t, us', ht, rfl, hJ⟩ := hrel
    by_cases ht4 : t < 4
    ·have hq4 : ((M + t : Nat) : Int) < (M : Int) + 4 := by omega
     have hi3 : ((M + t : Nat) : Int) < 310 := by omega
     have hfz := hJ.out.row.frozen (M + t)
     obtain ⟨bb, hbb⟩ : ∃ b, us'[M + t]? = some b := ⟨us'[M + t]'(by rw [hJ.out.hit.1]; omega), List.getElem?_eq_getElem _⟩
     have hcl := hJ.out.row.cell hbb
     have NX := hide (hJ.out.set sg (k := M + t) (q := fun j => hitOf ks j ∨ ((M : Int) ≤ j ∧ j < (M : Int) + ((t + 1 : Nat) : Int))) (by omega) (fun j => by
      constructor
      ·rintro (h | h)
       ·exact .inl (.inl h)
       ·by_cases e : j = ((M + t : Nat) : Int)
        ·exact .inr e
        ·exact .inl (.inr (by omega))
      ·rintro ((h | h) | h)
       ·exact .inl h
       ·exact .inr (by omega)
       ·exact .inr (by omega)))
     clear hbb
     generalize hP : M + t = P at *
     replace hP := hide hP
     go_wp2
     go_roundw
     case rel => exact ⟨t + 1, _, by omega, by rw [← Nat.add_assoc, hP.out]; go_num, NX⟩
     case measure => simp [intOf]; omega
    ·obtain rfl : t = 4 := by omega
     have hq4 : ¬ ((M + 4 : Nat) : Int) < (M : Int) + 4 := by omega
     have NX : Hid ((ks ++ [(M : Int)]).length = k + 1 ∧ (∀ a ∈ ks ++ [(M : Int)], 0 ≤ a ∧ a < 300) ∧ I1 w g (.slice va (k + 1) vc) (ks ++ [(M : Int)]) us' (hitOf (ks ++ [(M : Int)])) wr) :=
      ⟨by rw [List.length_append, hI.out.1]; rfl, fun a ha => (List.mem_append.1 ha).elim (hI.out.2.1 a) (fun h => by rw [List.mem_singleton] at h; subst h; omega), hJ.out.dm, hJ.out.row, hJ.out.hit.congr fun j => hitOf_snoc ks (M : Int) j, hJ.out.bel⟩
     generalize M + 4 = P at *
     go_wp2
     go_roundw
     case rel => exact ⟨k + 1, _, _, by omega, by omega, by go_num, NX⟩
     case measure => simp [intOf]; omega
  ·rw [decide_eq_false hgo]
   clear hgo
   obtain ⟨R, hR⟩ : ∃ R, R = rngs (dmOf ks) := ⟨_, rfl⟩
   have hkl := hI.out.1
   have hkm := hI.out.2.1
   have HI := hI.out.2.2
   have hRe : R = rfold (srt ks) := by rw [hR]; unfold rngs; rw [dmAts_of hkm]
   have KR := hide (pranges_any wr u3 (dmOf ks) HI.dm.rd (by unfold dmOf; rw [List.length_map]; omega))
   rw [← hR] at KR
   have RG : Hid (Rg R (srt ks)) := by rw [hRe]; exact Rg.sorted ks
   have RIN : Hid (∀ x ∈ R, 0 ≤ x.1 ∧ x.1 ≤ 299 ∧ x.1 + x.2 ≤ 299 + 4 ∧ 4 - 299 ≤ x.2) := by rw [hRe]; exact rfold_in fun a ha => by have := hkm a (srt_mem.1 ha); omega
   have hRl : R.length ≤ 60 := by rw [hRe]; have := rfold_len (srt ks); rw [srt_len] at this; omega
   obtain ⟨ua, uc, hu3⟩ := HI.dm.rd.slice
   subst hu3
   have H1 := hide HI
   clear HI hR hRe hkl hkm hI
   generalize (dmOf ks).length = DL at *
   go_wp2_with fail
   refine KR.out.mono ?_
   rintro e w2 ⟨rv, rfl, o2, b2⟩
   have HROW := hide (H1.out.row.to b2)
   have HBEL := hide (H1.out.bel.trans (b2.mono H1.out.bel.size))
   have RE := hide (ownE_rd2 o2)
   obtain ⟨ra, rc, hrv⟩ := RE.out.slice
   subst hrv
   have hmk2 : (Instr.makeSlice 66 (.int .i64 310) (.int .i64 310)).run Try.prog w2 = .ok (.slice (some ⟨w2.heap.size, 0, none⟩) 310 310) (w2.alloc (.cells (madeCells #[.bool false] 310) 4)) := make_bools12 (n := 310) (by omega) w2
   obtain ⟨W2, hW2⟩ : ∃ W, W = w2.alloc (.cells (madeCells #[.bool false] 310) 4) := ⟨_, rfl⟩
   have st2 : Hid (I2 w2 w2.heap.size (List.replicate 310 false) (hitR (R.take 0)) W2) := by
    rw [hW2]
    exact ⟨BRow.made w2 310 (by omega), HitI.start (by rintro j ⟨b, hb, _⟩; simp at hb), (Below.refl _ _).alloc (Nat.le_refl _) _⟩
   rw [← hW2] at hmk2
   replace hW2 := hide hW2
   obtain ⟨g2, hg2⟩ : ∃ g, g = w2.heap.size := ⟨_, rfl⟩
   rw [← hg2] at hmk2 st2
   have hgg : w2.heap.size ≤ g2 := by omega
   replace hg2 := hide hg2
   have HG := hide H1.out.hit
   clear KR o2 b2 H1
   go_wp2
   go_loopw [10, 11] (fun la i wr => ∃ (k : Nat) (us' : List Bool), k ≤ R.length ∧ i = .int .i64 k ∧ la = .int .i64 (lastE R k) ∧ Hid (I2 w2 g2 us' (hitR (R.take k)) wr)) (fun _ i _ => R.length - (intOf i).toNat)
   case atStart => exact ⟨0, _, Nat.zero_le _, rfl, rfl, st2⟩
   case round =>
    clear hmk2 st2
    obtain ⟨k2, us2, hk2, rfl, rfl, hI2⟩ := hrel
    by_cases hlt2 : k2 < R.length
    ·have hq2 : (k2 : Int) < (R.length : Int) := by omega
     obtain ⟨x, hx, hxm⟩ := some_at R hlt2
     have hi := RIN.out x hxm
     have hbg := RG.out.big x hxm
     have hla := lastE_lt RG.out.rise (fun x hx => (RIN.out x hx).1) hx
     have hnx := hide (lastE_next hx)
     have hhn := hide (fun j => hitR_next hx j)
     obtain ⟨x1, x2⟩ := x
     dsimp only at hi hbg hla hnx hhn
     obtain ⟨X, rfl⟩ : ∃ X : Nat, x1 = (X : Int) := ⟨x1.toNat, by omega⟩
     obtain ⟨T, rfl⟩ : ∃ T : Nat, x2 = (T : Int) := ⟨x2.toNat, by omega⟩
     obtain ⟨La, hLa⟩ : ∃ La, La = lastE R k2 := ⟨_, rfl⟩
     rw [← hLa] at hla ⊢
     replace hLa := hide hLa
     obtain ⟨i1, i2, i3, i4⟩ := hi
     have q1 : ¬ (X : Int) ≤ La := by omega
     have q2 : ¬ (T : Int) < 1 := by omega
     have q3 : ¬ (310 : Int) < (X : Int) + (T : Int) := by omega
     obtain ⟨rb, ro, rfl, c0, c1⟩ := (RE.out.to0 hI2.out.bel).ext hx
     dsimp only at c0 c1
     have HX := hide hx
     have J0 := hide (hI2.out.drew 1)
     have bd : Below wr.heap.size wr wr.drew := below_drewN' wr 1 _
     have d0 := (bd.cell (cell_lt c0)).trans c0
     have d1 := (bd.cell (cell_lt c1)).trans c1
     clear hx hxm bd
     obtain ⟨hws, hwt⟩ := wr2 X T (by omega)
     go_upto_region 20 with fail
     refine wp_region_mid (fun w' => w'.cell? ⟨rb, ro + k2 * 2, none⟩ = some (.int .i64 (X : Int)) ∧ w'.cell? ⟨rb, ro + k2 * 2 + 1, none⟩ = some (.int .i64 (T : Int))) 28 28 mixed (by kernel_rfl) (fun _ _ _ _ h => h) ⟨d0, d1⟩ ?_
     dsimp only [List.take, List.drop]
     iterate 28
      refine take_one (v := ?_) (by rfl) ?_ ?_
      rotate_left
      ·rintro w' ⟨s1, s2⟩
       go_simp
       try with_reducible rfl
      try simp only [Act.put, List.setIfInBounds_toArray, List.set_cons_zero, List.set_cons_succ]
     show wpList _ _ _ _ _ _
     clear d0 d1
     go_wp2
     go_loopw [12] (fun j wx => ∃ (t : Nat) (us' : List Bool), t ≤ T ∧ j = .int .i64 ((X + t : Nat) : Int) ∧ Hid (I2 w2 g2 us' (fun j => hitR (R.take k2) j ∨ ((X : Int) ≤ j ∧ j < (X : Int) + (t : Nat))) wx)) (fun j _ => X + T - (intOf j).toNat)
     case atStart => exact ⟨0, us2, Nat.zero_le _, rfl, hide ⟨J0.out.row, J0.out.hit.congr n6, J0.out.bel⟩⟩
     case round =>
      clear c0 c1
      obtain ⟨t, us', ht, rfl, hJ⟩ := hrel
      obtain ⟨rb', ro', e', c0, c1⟩ := (RE.out.to0 hJ.out.bel).ext HX.out
      simp only [Option.some.injEq, Addr.mk.injEq, and_true] at e'
      obtain ⟨rfl, rfl⟩ := e'
      dsimp only at c0 c1
      rcases Nat.lt_or_ge t T with htT | htT
      ·obtain ⟨hq4, hi3, hi4⟩ := n1 htT i3
       have hfz := hJ.out.row.frozen (X + t)
       obtain ⟨bb, hbb⟩ : ∃ b, us'[X + t]? = some b := ⟨us'[X + t]'(hJ.out.hit.1.symm ▸ hi4), List.getElem?_eq_getElem _⟩
       have hcl := hJ.out.row.cell hbb
       have NX := hide ((hJ.out.drew 1).set hgg (k := X + t) (q := fun j => hitR (R.take k2) j ∨ ((X : Int) ≤ j ∧ j < (X : Int) + ((t + 1 : Nat) : Int))) hi4 n3)
       clear hbb
       generalize hP : X + t = P at *
       replace hP := hide hP
       have bd : Below wr.heap.size wr wr.drew := below_drewN' wr 1 _
       have d0 := (bd.cell (cell_lt c0)).trans c0
       have d1 := (bd.cell (cell_lt c1)).trans c1
       clear bd
       go_upto_region 23 with fail
       refine wp_region_mid (fun w' => w'.cell? ⟨rb, ro + k2 * 2, none⟩ = some (.int .i64 (X : Int)) ∧ w'.cell? ⟨rb, ro + k2 * 2 + 1, none⟩ = some (.int .i64 (T : Int))) 12 12 mixed (by kernel_rfl) (fun _ _ _ _ h => h) ⟨d0, d1⟩ ?_
       dsimp only [List.take, List.drop]
       iterate 12
        refine take_one (v := ?_) (by rfl) ?_ ?_
        rotate_left
        ·rintro w' ⟨s1, s2⟩
         go_simp
         try with_reducible rfl
        try simp only [Act.put, List.setIfInBounds_toArray, List.set_cons_zero, List.set_cons_succ]
       show wpList _ _ _ _ _ _
       clear d0 d1
       go_wp2
       go_roundw
       case rel => exact ⟨t + 1, _, htT, n5 hP.out, NX⟩
       case measure => exact n4 hP.out htT
      ·obtain rfl : t = T := Nat.le_antisymm ht htT
       have hq4 := n2 X t
       have NX := hide ((hJ.out.drew 2).row)
       have NB := hide ((hJ.out.drew 2).bel)
       have NH : Hid (HitI us' (hitR (R.take (k2 + 1)))) := hJ.out.hit.congr fun j => hhn.out j
       generalize hP : X + t = P at *
       replace hP := hide hP
       have bd : Below wr.heap.size wr wr.drew := below_drewN' wr 1 _
       have d0 := (bd.cell (cell_lt c0)).trans c0
       have d1 := (bd.cell (cell_lt c1)).trans c1
       have bd2 : Below wr.heap.size wr wr.drew.drew := below_drewN' wr 2 _
       have e0 := (bd2.cell (cell_lt c0)).trans c0
       have e1 := (bd2.cell (cell_lt c1)).trans c1
       clear bd bd2
       go_upto_region 23 with fail
       refine wp_region_mid (fun w' => w'.cell? ⟨rb, ro + k2 * 2, none⟩ = some (.int .i64 (X : Int)) ∧ w'.cell? ⟨rb, ro + k2 * 2 + 1, none⟩ = some (.int .i64 (t : Int))) 12 12 mixed (by kernel_rfl) (fun _ _ _ _ h => h) ⟨d0, d1⟩ ?_
       dsimp only [List.take, List.drop]
       iterate 12
        refine take_one (v := ?_) (by rfl) ?_ ?_
        rotate_left
        ·rintro w' ⟨s1, s2⟩
         go_simp
         try with_reducible rfl
        try simp only [Act.put, List.setIfInBounds_toArray, List.set_cons_zero, List.set_cons_succ]
       show wpList _ _ _ _ _ _
       go_upto_region 26 with fail
       refine wp_region_mid (fun w' => w'.cell? ⟨rb, ro + k2 * 2, none⟩ = some (.int .i64 (X : Int)) ∧ w'.cell? ⟨rb, ro + k2 * 2 + 1, none⟩ = some (.int .i64 (t : Int))) 11 11 mixed (by kernel_rfl) (fun _ _ _ _ h => h) ⟨e0, e1⟩ ?_
       dsimp only [List.take, List.drop]
       iterate 11
        refine take_one (v := ?_) (by rfl) ?_ ?_
        rotate_left
        ·rintro w' ⟨s1, s2⟩
         go_simp
         try with_reducible rfl
        try simp only [Act.put, List.setIfInBounds_toArray, List.set_cons_zero, List.set_cons_succ]
       show wpList _ _ _ _ _ _
       clear d0 d1 e0 e1
       go_wp2
       go_roundw
       case rel => exact ⟨k2 + 1, us', by omega, by go_num, by rw [hnx.out], hide ⟨NX.out, NH.out, NB.out⟩⟩
       case measure => simp [intOf]; omega
    ·have hq2 : ¬ (k2 : Int) < (R.length : Int) := by omega
     obtain rfl : k2 = R.length := by omega
     have hsame : us2 = us := by
      refine hI2.out.hit.same (HG.out.congr fun j => ?_)
      rw [List.take_length]
      refine (RG.out.cov j).trans ⟨?_, ?_⟩
      ·rintro ⟨b, hb, h⟩; exact ⟨b, srt_mem.1 hb, h⟩
      ·rintro ⟨b, hb, h⟩; exact ⟨b, srt_mem.2 hb, h⟩
     subst hsame
     have KS := hide (sameBools_any wr g2 g 310 us2 hI2.out.row (HROW.out.to hI2.out.bel) (by omega))
     have HZ := hide (HBEL.out.trans (hI2.out.bel.mono HBEL.out.size))
     go_wp2_with fail
     refine KS.out.mono ?_
     rintro e w9 ⟨rfl, b9⟩
     have H9 := hide (HZ.out.trans (b9.mono HZ.out.size))
     clear b9
     go_wp2
     go_ret
     exact ⟨rfl, H9.out⟩
set_option maxRecDepth 100000 in
theorem lifted (os : Os) (started : os.Started) (H : Type) (enc : TypeId × Value → H) :
  ReturnsInHanded {} Try.checked os 5 .any (Rows.scrubRangesSpec.pre6 enc Try.prog Try.f5 Rows.scrubRangesRow.domain false) (Rows.scrubRangesSpec.post enc Try.prog Try.f5 false true false false) := by
 refine returnsInHanded_of_change_sized (C := Try.checked) own started (by kernel_rfl) Try.func5
  (ChangeSpec.witness6 (enc := enc) (C := Try.checked) false ⟨#[], #[.slice none 0 0], []⟩ 8 (by kernel_rfl) (by kernel_rfl) (by kernel_rfl) (by kernel_rfl)) ?_
 intro W base args ds gs before hval0 hW hcnd hsz0 _
 have hsz : (DataW.weightsEach Try.prog (Try.f5.params.toList ++ Rows.scrubRangesSpec.plain.varTypes Try.prog) (ds ++ gs)).all (· ≤ reachBytes) = true := hsz0
 have hval : ∀ (j : Nat) t v, Try.f5.params[j]? = some t → args[j]? = some v → Value.okWide Try.prog W .any base t v := hval0
 have hW' := hW
 obtain ⟨p, q, hA0, hV, rfl, hfz, hnd⟩ := hW
 have hA : DataW.TrodAll enc Try.prog W 0 (fun _ => true) true Try.f5.params.toList args.toList ds p := hA0
 rw [Try.params5] at hA hval hsz
 obtain ⟨v0, vs0, d0, ds0, p0, q0, hargs, rfl, rfl, h0, r0⟩ := trodAll_cons hA
 obtain ⟨rfl, rfl, rfl⟩ := trodAll_nil r0
 obtain rfl : args = #[v0] := by cases args; simp_all
 obtain ⟨rfl, rfl⟩ := trodVars_none hV
 obtain ⟨a0, len0, cap0, rfl⟩ := okWide_slice Try.underlying71 (hval 0 71 v0 rfl rfl)
 have lt0 : ∀ x ∈ p0, x.block < W.heap.size := by obtain ⟨m, hm⟩ := h0; exact DataW.trod_lt m _ _ _ hm
 have hh0 := h0
 obtain ⟨fu0, hf0⟩ := hh0
 obtain ⟨x0, g0, f0, b0⟩ := open_sints.opened hf0
 have m0 := f0 (reach_of hsz (j := 0) rfl rfl)
 clear hA0 hval0 hsz0 hsz
 refine (walk W a0 len0 cap0 x0 g0 m0).mono fun e W' ⟨he, bel⟩ => ?_
 subst he
 exact ⟨_, rfl, _, _, _, [], _, [], hW', trodAll_mk1 (shut_bool Try.underlying4 _), (trodAll_cons_mk (Below.trod laidOut (by kernel_rfl) (of_decide_eq_true (by kernel_rfl)) h0 bel lt0) trodAll_mk0), rfl, bel.frame _, fun h => by cases h⟩
theorem over : Rows.scrubRangesRow.holds Try.pinned (OpenSpec.ofChange Rows.scrubRangesSpec) :=
 OpenClaim.holds_of_wide 5 Try.f5 rfl rfl rfl rfl rfl rfl rfl ⟨rfl, rfl, rfl, rfl, rfl⟩ rfl rfl rfl rfl rfl (by kernel_rfl) Try.func5 (by kernel_rfl)
  (of_decide_eq_true (by kernel_rfl)) (by unfold Func.isWrapper; first | (rw [if_pos (by decide +kernel)]; kernel_rfl) | (rw [if_neg (by decide +kernel)]; exact ⟨rfl, rfl⟩))
  (fun os started H enc _ => lifted os started H enc)
end Go.Proofs.Ytjjicajodjophaa.scrubRanges
namespace Go.Proofs.Ytjjicajodjophaa
theorem scrubRanges_holds : Rows.ScrubRangesSaid := scrubRanges.over
end Go.Proofs.Ytjjicajodjophaa
