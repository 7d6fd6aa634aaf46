/- Several texts in one: ULa ULb LUSegs. -/
import Derived.Test.YtjjicajodjophaaGoLUSegs4
import Derived.Test.YtjjicajodjophaaGoLUSegs3
import Derived.Laws.StructEq
set_option linter.unusedVariables false
set_option linter.unusedSimpArgs false
namespace Go.Proofs.Ytjjicajodjophaa
open Go.RowKit
def BRow (g n : Nat) (us : List Bool) (w : World) : Prop := w.ownsRow g 4 1 (.slice (some ⟨g, 0, none⟩) n n) n (us.map Value.bool)
theorem BRow.len {g n : Nat} {us : List Bool} {w : World} (h : BRow g n us w) : us.length = n := by
 have := h.1
 simpa using this
theorem BRow.cell {g n : Nat} {us : List Bool} {w : World} (h : BRow g n us w) {k : Nat} {b : Bool} (hk : us[k]? = some b) : w.cell? ⟨g, k, none⟩ = some (.bool b) :=
 rows_at (rows_base h fun _ _ => Nat.zero_le _) rfl (by rw [List.getElem?_map, hk]; rfl)
theorem BRow.frozen {g n : Nat} {us : List Bool} {w : World} (h : BRow g n us w) (k : Nat) : w.frozen? ⟨g, k, none⟩ = false := by
 exact World.ownsRow.frozenAt h k
theorem BRow.put {g n : Nat} {us : List Bool} {w : World} (h : BRow g n us w) (k : Nat) : BRow g n (us.set k true) (w.setCell ⟨g, k, none⟩ (.bool true)) := by
 have := (World.ownsRow.stored h k (.bool true)).1
 unfold BRow
 rw [List.map_set]
 exact this
theorem BRow.keep {g n : Nat} {us : List Bool} {w w' : World} (h : BRow g n us w) (hb : w'.heap[g]? = w.heap[g]?) : BRow g n us w' := by
 rcases h with ⟨h1, h2 | ⟨b, cap, cur, hv, hB, hg, hr⟩⟩
 ·exact ⟨h1, .inl h2⟩
 ·refine ⟨h1, .inr ⟨b, cap, cur, hv, hB, ?_, hr⟩⟩
  simp only [Value.slice.injEq, Option.some.injEq, Addr.mk.injEq] at hv
  obtain ⟨⟨rfl, _⟩, _⟩ := hv
  rw [hb]; exact hg
theorem BRow.lt {g n : Nat} {us : List Bool} {w : World} (h : BRow g n us w) : g < w.heap.size := (World.ownsRow.lt h g rfl).2
theorem BRow.below {g n B : Nat} {us : List Bool} {w w' : World} (h : BRow g n us w) (hb : Below B w w') (hB : g < B) : BRow g n us w' := h.keep (hb.block g hB)
theorem BRow.to {g n : Nat} {us : List Bool} {w w' : World} (h : BRow g n us w) (hb : Below w.heap.size w w') : BRow g n us w' := h.below hb h.lt
def HitI (us : List Bool) (p : Int → Prop) : Prop := us.length = 310 ∧ ∀ j : Nat, j < 310 → (us[j]? = some true ↔ p (j : Int))
theorem HitI.step {us : List Bool} {p q : Int → Prop} (h : HitI us p) {k : Nat} (hk : k < 310) (hq : ∀ j, q j ↔ p j ∨ j = (k : Int)) : HitI (us.set k true) q := by
 refine ⟨by rw [List.length_set]; exact h.1, fun j hj => ?_⟩
 rw [hq, ← h.2 j hj, List.getElem?_set]
 by_cases e : k = j
 ·subst e
  rw [if_pos rfl, if_pos (by rw [h.1]; exact hk)]
  simp
 ·rw [if_neg e]
  constructor
  ·exact .inl
  ·rintro (h | h)
   ·exact h
   ·omega
theorem HitI.congr {us : List Bool} {p q : Int → Prop} (h : HitI us p) (hq : ∀ j, q j ↔ p j) : HitI us q := ⟨h.1, fun j hj => by rw [hq]; exact h.2 j hj⟩
set_option maxRecDepth 100000 in
theorem unum_any (w : World) (n : Int) : Calls Try.prog 14 #[.int .i64 n] w fun e w' => e = .returned (.int .i64 n) ∧ w = w' := by
 go_enter Try.func14, Try.ntmps14
 go_wp2
 go_ret
 exact ⟨rfl, rfl⟩
theorem rngs_alive : rngs [(1, 0, 4), (1, 0, 8)] = [(4, 8)] := by
 have e : srt (dmAts [(1, 0, 4), (1, 0, 8)]) = [4, 8] := by
  have : dmAts [(1, 0, 4), (1, 0, 8)] = [4, 8] := by decide
  rw [this]
  exact List.mergeSort_of_pairwise (by simp)
 unfold rngs
 rw [e]
 decide
theorem rd_lit3 {w : World} {T g : Nat} {l : List D3} {cs : Array Value} (h : w.heap[g]? = some (.cells cs T (0, 0))) (hc : cs.toList = dcells l) (hl : l.length ≤ 1000) : RdD w (.slice (some ⟨g, 0, none⟩) l.length l.length) l := by
 have hs : cs.size = l.length * 3 := by
  rw [← Array.length_toList, hc]
  clear h hc hl
  induction l with
  | nil => rfl
  | cons x r ih => rw [dcells_cons, List.length_append, ih, List.length_cons]; simp; omega
 refine (OwnD.rd (T := T) (B := 0) ⟨by rw [← hc, Array.length_toList]; exact hs, .inr ⟨g, l.length, cs, rfl, Nat.zero_le _, h, Nat.le_refl _, by unfold maxLen; omega, hs, ?_⟩⟩)
 rw [← hc, List.take_of_length_le (by rw [Array.length_toList]; omega)]
theorem rd_litE {w : World} {g : Nat} {x y : Int} (h : w.heap[g]? = some (.cells #[.int .i64 x, .int .i64 y] 73 (0, 0))) : RdE w (.slice (some ⟨g, 0, none⟩) 1 1) [(x, y)] := by
 exact ownE_rd2 (B := 0) (l := [(x, y)]) ⟨rfl, .inr ⟨g, 1, _, rfl, Nat.zero_le _, h, Nat.le_refl _, by unfold maxLen; omega, rfl, rfl⟩⟩
set_option maxRecDepth 100000 in
set_option maxHeartbeats 2000000 in
theorem ualive_any (w : World) : Calls Try.prog 23 #[] w fun e w' => e = .returned (.bool true) ∧ Below w.heap.size w w' := by
 obtain ⟨A, hA, A0, bA, sA⟩ := boxedN w #[.int .i64 1, .int .i64 0, .int .i64 4, .int .i64 1, .int .i64 0, .int .i64 8] 42
 have KR := hide (pranges_any A _ [(1, 0, 4), (1, 0, 8)] (rd_lit3 A0 rfl (by simp)) (by simp))
 rw [rngs_alive] at KR
 simp only [List.length_cons, List.length_nil, Nat.zero_add, Nat.reduceAdd] at KR
 have HB := hide bA
 rw [hA] at KR
 clear A0 bA
 go_enter Try.func23, Try.ntmps23
 go_wp2_with fail
 refine KR.out.mono ?_
 rw [← hA]
 rintro e w1 ⟨v1, rfl, o1, b1⟩
 have B1 := hide (HB.out.trans (b1.mono HB.out.size))
 obtain ⟨C, hC, C0, bC, sC⟩ := boxedN w1 #[.int .i64 4, .int .i64 8] 73
 have KS := hide (sameExt_any C v1 _ [(4, 8)] [(4, 8)] ((ownE_rd2 o1).to0 bC) (rd_litE C0))
 rw [show sameE [(4, 8)] [(4, 8)] = true by simp [sameE]] at KS
 obtain ⟨va, vc, rfl⟩ := (ownE_rd2 o1).slice
 have HC := hide (B1.out.trans (bC.mono B1.out.size))
 rw [hC] at KS
 clear KR o1 b1 C0 bC B1 HB
 go_wp2_with fail
 refine KS.out.mono ?_
 rw [← hC]
 rintro e w2 ⟨rfl, n2, hw2⟩
 have B2 := hide (HC.out.trans ((show Below C.heap.size C w2 by rw [hw2]; exact below_drewN' _ _ _).mono HC.out.size))
 obtain ⟨D, hD, D0, bD, sD⟩ := boxedN w2 #[.int .i64 2, .int .i64 0, .int .i64 0] 42
 have KV := hide (uverdict_any D _ [(2, 0, 0)] (rd_lit3 D0 rfl (by simp)))
 have KN := hide (uverdict_any D (.slice none 0 0) [] (RdS.nil _ _))
 simp only [List.length_cons, List.length_nil, Nat.zero_add, Nat.reduceAdd, Nat.lt_irrefl, decide_false, Nat.lt_add_one, Nat.zero_lt_one, decide_true] at KV KN
 have BD := hide (B2.out.trans (bD.mono B2.out.size))
 rw [hD] at KV KN
 clear KS D0 bD B2 HC hw2
 go_wp2_with fail
 refine KV.out.mono ?_
 rintro e w3 ⟨rfl, hw3⟩
 rw [← hw3]
 clear hw3
 go_wp2_with fail
 refine KN.out.mono ?_
 rintro e w4 ⟨rfl, hw4⟩
 rw [← hw4]
 clear hw4
 go_wp2
 go_ret
 rw [← hD]
 exact ⟨rfl, BD.out⟩
end Go.Proofs.Ytjjicajodjophaa

namespace Go.Proofs.Ytjjicajodjophaa
open Go.ChangeShapes Go.WideShapes Go.ChangeAt Go.RowKit
end Go.Proofs.Ytjjicajodjophaa

namespace Go.Proofs.Ytjjicajodjophaa.scrubSegments
open Go.ChangeShapes Go.WideShapes Go.ChangeAt Go.RowKit
abbrev SBat12 : Shp (List (List (List UInt8))) := Shp.list 22 SSec
structure SInv (w wr : World) (limit : Int) (c wv : Value) (gs : List (List (List UInt8))) : Prop where
 box : wr.heap[w.heap.size]? = some (.cells #[c, .int .i64 ((flen gs : Nat) : Int), wv] 78 (0, 0))
 lg : Own (Shp.list 83 SWr) (w.heap.size + 1) wr [c] (wsegs 0 gs)
 wt : RdSec wr wv []
 bel : Below w.heap.size w wr
 ls : Lst limit gs
theorem SInv.to {w wr u : World} {limit : Int} {c wv : Value} {gs : List (List (List UInt8))} (h : SInv w wr limit c wv gs) (hb : Below wr.heap.size wr u) : SInv w u limit c wv gs :=
 ⟨(hb.block _ (lt_of_block h.box)).trans h.box, h.lg.to hb, rd_none _ h.wt, h.bel.trans (hb.mono h.bel.size), h.ls⟩
theorem s1 {k : Nat} (h : k < 20) : 20 - (intOf (.int .i64 ((k : Int) + 1))).toNat < 20 - (intOf (.int .i64 (k : Int))).toNat := by simp only [intOf]; omega
set_option maxRecDepth 100000 in
theorem open_batches : Opens SBat 76 (fun xs => xs.length * 24 ≤ 140737488351232 ∧ ∀ z ∈ xs, z.length * 24 ≤ 140737488351232 ∧ ∀ x ∈ z, x.length ≤ 140737488351232) (fun xs => (xs.map (fun z => (z.map (fun x => x.length + 1)).sum)).sum) :=
 open_sectors.list Try.underlying76 (by kernel_rfl) (by kernel_rfl) (by decide)
theorem usgs_one {segs : List Wrt} {A : Nat} (h : ∀ i s, i ≠ A → segs[i]? = some s → ¬ wn s.2 < s.2.length) : ∀ k, usgs segs k = if A < k then (match segs[A]? with | some s => dmSeg A s | none => []) else []
 | 0 => by simp [usgs]
 | k + 1 => by
  show usgs segs k ++ (match segs[k]? with | some s => dmSeg k s | none => []) = _
  rw [usgs_one h k]
  by_cases e : k = A
  ·subst e
   rw [if_neg (by omega), if_pos (by omega), List.nil_append]
  ·have hk : (match segs[k]? with | some s => dmSeg k s | none => []) = ([] : List D3) := by
    cases hs : segs[k]? with
    | none => rfl
    | some s => exact if_neg (h k s e hs)
   rw [hk, List.append_nil]
   by_cases e2 : A < k
   ·rw [if_pos e2, if_pos (by omega)]
   ·rw [if_neg e2, if_neg (by omega)]
theorem wsegs_whole {limit : Int} {gs : List (List (List UInt8))} (h : Lst limit gs) {i : Nat} {s : Wrt} (hs : (wsegs 0 gs)[i]? = some s) : ∃ g, gs[i]? = some g ∧ s.2 = wdata g ∧ wn s.2 = s.2.length := by
 have hi : i < gs.length := by have := (List.getElem?_eq_some_iff.1 hs).1; rw [wsegs_len] at this; exact this
 have hg : gs[i]? = some gs[i] := List.getElem?_eq_getElem hi
 have := wsegs_at gs 0 i _ hg
 rw [hs] at this
 simp only [Option.some.injEq] at this
 refine ⟨_, hg, by rw [this], ?_⟩
 rw [this]
 exact wn_data (h.sh _ (List.getElem_mem hi))
theorem usgs_all {limit : Int} {gs : List (List (List UInt8))} (h : Lst limit gs) (k : Nat) : usgs (wsegs 0 gs) k = [] := by
 rw [usgs_one (A := k) (fun i s _ hs => by obtain ⟨g, _, _, e⟩ := wsegs_whole h hs; omega) k, if_neg (by omega)]
theorem mod_in (x : Int) {n : Nat} (h : 0 < n) : ∃ p : Nat, p < n ∧ x.tmod (n : Int) % (n : Int) = (p : Int) ∧ (x.tmod (n : Int) + (n : Int)) % (n : Int) = (p : Int) ∧ (x.tmod (n : Int) + (n : Int)).tmod (n : Int) = (p : Int) ∧ -(n : Int) < x.tmod (n : Int) ∧ x.tmod (n : Int) < (n : Int) := by
 have j3 : (0 : Int) < (n : Int) := by omega
 have y1 := Int.lt_tmod_of_pos x j3
 have y2 := Int.tmod_lt_of_pos x j3
 have y3 := Int.emod_nonneg (x.tmod n) (b := (n : Int)) (by omega)
 have y4 := Int.emod_lt_of_pos (x.tmod n) j3
 refine ⟨(x.tmod n % n).toNat, by omega, by omega, by rw [Int.add_emod_right]; omega, ?_, y1, y2⟩
 rw [Int.tmod_eq_emod_of_nonneg (by omega), Int.add_emod_right]; omega
theorem mod_wr {n : Nat} {y : Int} (h : n ≤ 20000000) (h1 : -(n : Int) < y) (h2 : y < (n : Int)) : wrap64 (y + (n : Int)) = y + (n : Int) ∧ IntKind.i64.wrap (y + (n : Int)) = y + (n : Int) := ⟨IntWalk.wrap64_in _ (by omega), by rw [IntKind.wrap_i64]; omega⟩
theorem ownB_pre {B g n cap : Nat} {w : World} {x : List UInt8} {L : Nat} (h : OwnB B w (.slice (some ⟨g, 0, none⟩) L cap) x) (hL : L = x.length) (hn : n ≤ x.length) : OwnB B w (.slice (some ⟨g, 0, none⟩) n cap) (x.take n) := by
 have el : (x.take n).length = n := by simp; omega
 rcases h with ⟨h1, ⟨e, _⟩ | ⟨g', cap', cur, hv, hb, hg, hn', hm, hs, ht⟩⟩
 ·cases e
 ·simp only [Value.slice.injEq, Option.some.injEq, Addr.mk.injEq, and_true] at hv
  obtain ⟨rfl, _, rfl⟩ := hv
  refine ⟨by simp, .inr ⟨g, cap, cur, by rw [el], hb, hg, by rw [el]; omega, hm, hs, ?_⟩⟩
  rw [el, List.map_take, ← ht, List.take_take, Nat.mul_one, Nat.mul_one, Nat.min_eq_left hn]
theorem usgs_cut {limit : Int} {gs : List (List (List UInt8))} (h : Lst limit gs) {A : Nat} (hA : A < gs.length) (p : Int) (t : List UInt8) : usgs ((wsegs 0 gs).set A (p, t)) gs.length = dmSeg A (p, t) := by
 rw [usgs_one (A := A) (fun i s hi hs => by
  rw [List.getElem?_set_ne (by omega)] at hs
  obtain ⟨g, _, _, e⟩ := wsegs_whole h hs
  omega) gs.length, if_pos hA, List.getElem?_set_self (by rw [wsegs_len]; exact hA)]
theorem eql_d3 (a b c : Int) (w : World) : (binOp .eql 42 (.agg #[.int .i64 a, .int .i64 b, .int .i64 c]) (.agg #[.int .i64 a, .int .i64 b, .int .i64 c])).run Try.prog w = .ok (.bool true) w := by
 have e1 : Try.prog.underlying 42 = some (.struct (Try.prog.fieldsOf 42)) := by kernel_rfl
 have e2 : Try.prog.stoodInHeld 42 = false := by kernel_rfl
 rw [run_eql_struct, run_equalIn_struct w 9999 _ _ _ e1 e2]
 have e3 : (Try.prog.fieldsOf 42).toList.map (fun f => (f.name == "_", f.type, f.offset)) = [(false, 3, 0), (false, 3, 1), (false, 3, 2)] := by kernel_rfl
 have e4 : Try.prog.underlying 3 = some (.int .i64) := by kernel_rfl
 have p0 : ∀ x y z : Value, (part 3 #[x, y, z] 0).run Try.prog w = .ok x w := fun x y z => by kernel_rfl
 have p1 : ∀ x y z : Value, (part 3 #[x, y, z] 1).run Try.prog w = .ok y w := fun x y z => by kernel_rfl
 have p2 : ∀ x y z : Value, (part 3 #[x, y, z] 2).run Try.prog w = .ok z w := fun x y z => by kernel_rfl
 have e5 : ∀ x : Int, (Op.equalIn 9999 3 (.int .i64 x) (.int .i64 x)).run Try.prog w = .ok true w := fun x => by
  rw [run_equalIn_int w 9998 _ _ _ _ _ e4]; simp
 generalize (Try.prog.fieldsOf 42).toList = fs at e3 ⊢
 rcases fs with _ | ⟨f0, _ | ⟨f1, _ | ⟨f2, _ | ⟨f3, r⟩⟩⟩⟩ <;> simp at e3
 obtain ⟨⟨a1, a2, a3⟩, ⟨b1, b2, b3⟩, c1, c2, c3⟩ := e3
 simp only [Op.eqFields, a1, a2, a3, b1, b2, b3, c1, c2, c3, ne_eq, not_false_eq_true, if_true, Sem.run_bind, p0, p1, p2, e5, Result.andThen_ok, Sem.run_ite, Sem.run_pure]
 rfl
theorem eqg_d3P (op : BinOp) (x y : Operand) (a b : Array Value) (w : World) : (eqGuard op 42 x y (.agg a) (.agg b)).run Try.prog w = .ok () w :=
 run_eqGuard_agg w op _ x y a b (by kernel_rfl)
set_option maxRecDepth 100000 in
set_option maxHeartbeats 8000000 in
theorem walk (w : World) (a0 : Option Addr) (len0 cap0 : Nat) (bs : List (List (List UInt8))) (g0 : SBat.rd w [.slice a0 len0 cap0] bs) (m0 : bs.length * 24 ≤ 140737488351232 ∧ ∀ z ∈ bs, z.length * 24 ≤ 140737488351232 ∧ ∀ x ∈ z, x.length ≤ 140737488351232) (li : Int) (w1' : (Lit.int .i64 li).wf = true) (ai : Int) (w2' : (Lit.int .i64 ai).wf = true) (ci : Int) (w3' : (Lit.int .i64 ci).wf = true) :
  Calls Try.prog 6 #[.slice a0 len0 cap0, .int .i64 li, .int .i64 ai, .int .i64 ci] w fun e w' => e = .returned (.bool true) ∧ Below w.heap.size w w' := by
 obtain ⟨v, e, h0⟩ := g0
 simp only [List.cons.injEq, and_true] at e
 subst e
 have lb := h0.bd
 obtain ⟨a, c, e⟩ := h0.slice
 simp only [Value.slice.injEq] at e
 obtain ⟨rfl, rfl, rfl⟩ := e
 have HBL : Hid (∀ b ∈ bs, b.length ≤ 10000000000000) := fun b hb => by have := (m0.2 b hb).1; omega
 have z1 := Int.lt_tmod_of_pos li (b := 60) (by decide)
 have z2 := Int.tmod_lt_of_pos li (b := 60) (by decide)
 have z3 := Int.emod_nonneg (li.tmod 60) (b := 60) (by decide)
 have z4 := Int.emod_lt_of_pos (li.tmod 60) (b := 60) (by decide)
 obtain ⟨limit, hM⟩ : ∃ M : Int, 1 + li.tmod 60 % 60 = M := ⟨_, rfl⟩
 have hl1 : 1 ≤ limit := by omega
 have hl2 : limit ≤ 300 := by omega
 have HM := hide hM
 have H0 := hide h0
 clear h0 m0 hM
 go_enter Try.func6, Try.ntmps6
 go_wp2_with fail
 refine (ualive_any _).mono ?_
 rintro e w1 ⟨rfl, b1⟩
 have B1 := hide b1
 have HH := hide (H0.out.to0 b1)
 obtain ⟨W, hW, W0, bW, sW⟩ := boxedN w1 #[.slice none 0 0, .int .i64 0, .slice none 0 0] 78
 have st0 : Hid (SInv w1 W limit (.slice none 0 0) (.slice none 0 0) []) := ⟨W0, Own.nil _ _ _ _, RdS.nil _ _, bW, Lst.nil _⟩
 clear b1 W0 bW sW H0
 go_upto_region 4 with fail
 simp only [Int.add_emod_right, HM.out]
 clear z1 z2 z3 z4
 go_wp2
 rw [← hW]
 replace hW := hide hW
 go_loopw [10] (fun i wr => ∃ (k : Nat) (c wv : Value) (gs : List (List (List UInt8))), k ≤ bs.length ∧ k ≤ 20 ∧ i = .int .i64 k ∧ Hid (flen gs ≤ 200 * k) ∧ Hid (SInv w1 wr limit c wv gs)) (fun i _ => 20 - (intOf i).toNat)
 case atStart => exact ⟨0, _, _, _, Nat.zero_le _, Nat.zero_le _, rfl, hide (Nat.le_refl _), st0⟩
 case round =>
  obtain ⟨k, cv, wv, gs, hk, hk2, rfl, hfl, hI⟩ := hrel
  clear st0
  go_upto_region 6 with fail
  go_cut [33] from 26 to 63 (fun b wx => b = .bool (decide (k < bs.length ∧ k < 20)) ∧ wr = wx)
  case first =>
   by_cases hlt : k < bs.length
   ·have hq : (k : Int) < (bs.length : Int) := by omega
    by_cases h6 : k < 20
    ·have hq6 : (k : Int) < 20 := by omega
     have hd := hide (show decide (k < bs.length ∧ k < 20) = true from decide_eq_true ⟨hlt, h6⟩)
     go_wp2_with fail
     go_meet
     exact ⟨by rw [hd.out], rfl⟩
    ·have hq6 : ¬ (k : Int) < 20 := by omega
     have hd := hide (show decide (k < bs.length ∧ k < 20) = false from decide_eq_false (fun h => h6 h.2))
     go_wp2_with fail
     go_meet
     exact ⟨by rw [hd.out], rfl⟩
   ·have hq : ¬ (k : Int) < (bs.length : Int) := by omega
    have hd := hide (show decide (k < bs.length ∧ k < 20) = false from decide_eq_false (fun h => hlt h.1))
    go_wp2_with fail
    go_meet
    exact ⟨by rw [hd.out], rfl⟩
  case rest =>
  obtain ⟨rfl, rfl⟩ := hcut
  have LI := hI.out
  obtain ⟨N, hN⟩ : ∃ N, N = flen gs := ⟨_, rfl⟩
  have hN4 : N ≤ 4000 := by rw [hN]; exact LI.ls.fl
  obtain ⟨ca, cc, hcv⟩ := LI.lg.rdS.slice
  obtain ⟨wa, wc0, hwv⟩ := LI.wt.slice
  obtain ⟨G, hG⟩ : ∃ G, G = gs.length := ⟨_, rfl⟩
  rw [wsegs_len, ← hG] at hcv
  simp only [List.length_nil] at hwv
  subst hcv hwv
  have hG4 : G ≤ 4000 := by rw [hG]; exact LI.ls.len
  replace hG := hide hG
  have hbox := LI.box
  rw [← hN] at hbox
  obtain ⟨⟨T0, T1, T2⟩, tf⟩ := cells3 hbox
  have hLs := hide LI.ls
  replace hN := hide hN
  clear LI tf
  by_cases hgo : k < bs.length ∧ k < 20
  ·rw [decide_eq_true hgo]
   obtain ⟨hlt, h30⟩ := hgo
   have hq : (k : Int) < (bs.length : Int) := by omega
   obtain ⟨b, hb, hbm⟩ := some_at bs hlt
   have hbl := HBL.out b hbm
   obtain ⟨bb, ob, u, e1, hcu, ⟨u', eu, ru⟩⟩ := RdS.at1 (s := SSec) rfl HH.out hb
   simp only [List.cons.injEq, and_true] at eu
   subst eu
   subst e1
   have hcw := (hI.out.bel.cell (cell_lt hcu)).trans hcu
   obtain ⟨ua, uc, hu⟩ := ru.slice
   obtain ⟨L, hL⟩ : ∃ L, L = b.length := ⟨_, rfl⟩
   rw [← hL] at hu hbl
   subst hu
   have RU := hide ru
   replace hL := hide hL
   clear ru hb hbm
   by_cases hbig : 200 < L
   ·have hqb : (200 : Int) < (L : Int) := by omega
    have hfl' : Hid (flen gs ≤ 200 * (k + 1)) := by have := hfl.out; show _ ≤ _; omega
    replace hbig := hide hbig
    clear hcu
    go_wp2
    go_roundw
    case rel => exact ⟨k + 1, _, _, gs, hlt, h30, m3 k, hfl', hI⟩
    case measure => exact s1 h30
   ·have hqb : ¬ (200 : Int) < (L : Int) := by omega
    have hnb : Hid (gs.flatten.length + b.length ≤ 4000) := by have := hfl.out; show flen gs + _ ≤ _; rw [← hL.out]; omega
    have hnk : Hid (flen gs + b.length ≤ 200 * (k + 1)) := by have := hfl.out; show flen gs + _ ≤ _; rw [← hL.out]; omega
    have HS : Hid (∀ w9, Below wr.heap.size wr w9 → w9.cell? ⟨w1.heap.size, 0, none⟩ = some (.slice ca G cc) ∧ w9.cell? ⟨w1.heap.size, 1, none⟩ = some (.int .i64 (N : Int)) ∧ w9.cell? ⟨w1.heap.size, 2, none⟩ = some (.slice wa 0 wc0) ∧ w9.cell? ⟨bb, ob + k, none⟩ = some (.slice ua L uc)) := fun w9 b9 =>
     ⟨(b9.cell (cell_lt T0)).trans T0, (b9.cell (cell_lt T1)).trans T1, (b9.cell (cell_lt T2)).trans T2, (b9.cell (cell_lt hcw)).trans hcw⟩
    have KA := hide (fun w9 (b9 : Below wr.heap.size wr w9) => wal_say.appendS w9 _ _ _ (wsegs 0 gs, ((flen gs : Nat) : Int), []) b (hI.out.lg.rdS.to0 b9) (rd_none _ hI.out.wt) (RU.out.to0 (hI.out.bel.trans (b9.mono hI.out.bel.size))) (hLs.out.short (by omega)) (by rw [← hL.out]; exact hbl))
    obtain ⟨AP, hAP⟩ : ∃ AP, AP = wappend (wsegs 0 gs, ((flen gs : Nat) : Int), []) b := ⟨_, rfl⟩
    rw [← hAP] at KA
    dsimp only at KA
    rw [← hN.out] at KA
    replace hbig := hide hbig
    replace hAP := hide hAP
    go_upto_region 9 with fail
    go_cut [11, 12] from 26 to 63 (fun pp ee wx => ∃ (g9 : Nat) (s9 w9 : Value), pp = .pointer (some ⟨g9, 0, none⟩) ∧ ee = .int .i64 AP.2 ∧ Hid (wr.heap.size ≤ g9 ∧ wx.heap[g9]? = some (.cells #[s9, .int .i64 AP.1.2.1, w9] 78 (0, 0)) ∧ LgF 83 wr.heap.size wx s9 w9 AP.1 ∧ Below wr.heap.size wr wx))
    case first =>
     have b0 : Below wr.heap.size wr wr.drew := (Below.refl _ _).drew
     clear T0 T1 T2 hcu hcw hbox
     refine wp_region_fan (fun w9 => w9.cell? ⟨w1.heap.size, 0, none⟩ = some (.slice ca G cc) ∧ w9.cell? ⟨w1.heap.size, 1, none⟩ = some (.int .i64 (N : Int)) ∧ w9.cell? ⟨w1.heap.size, 2, none⟩ = some (.slice wa 0 wc0) ∧ w9.cell? ⟨bb, ob + k, none⟩ = some (.slice ua L uc)) 11 mixed (by simp) ?_
     generalize wr.drew = c0 at *
     refine fan_take (i := 0) (v := ?_) rfl (by kernel_rfl) (fun _ _ _ _ h => h) (by kernel_rfl) (HS.out _ b0) ?_ ?_
     rotate_left
     ·rintro w9 ⟨t0, t1, t2, t3⟩
      go_simp
      try with_reducible rfl
     try simp only [Act.put, List.setIfInBounds_toArray, List.set_cons_zero, List.set_cons_succ]
     refine fan_take (i := 1) (v := ?_) rfl (by kernel_rfl) (fun _ _ _ _ h => h) (by kernel_rfl) (HS.out _ b0) ?_ ?_
     rotate_left
     ·rintro w9 ⟨t0, t1, t2, t3⟩
      go_simp
      try with_reducible rfl
     try simp only [Act.put, List.setIfInBounds_toArray, List.set_cons_zero, List.set_cons_succ]
     refine fan_take (i := 2) (v := ?_) rfl (by kernel_rfl) (fun _ _ _ _ h => h) (by kernel_rfl) (HS.out _ b0) ?_ ?_
     rotate_left
     ·rintro w9 ⟨t0, t1, t2, t3⟩
      go_simp
      try with_reducible rfl
     try simp only [Act.put, List.setIfInBounds_toArray, List.set_cons_zero, List.set_cons_succ]
     refine fan_take (i := 3) (v := ?_) rfl (by kernel_rfl) (fun _ _ _ _ h => h) (by kernel_rfl) (HS.out _ b0) ?_ ?_
     rotate_left
     ·rintro w9 ⟨t0, t1, t2, t3⟩
      go_simp
      try with_reducible rfl
     try simp only [Act.put, List.setIfInBounds_toArray, List.set_cons_zero, List.set_cons_succ]
     refine fan_take (i := 4) (v := ?_) rfl (by kernel_rfl) (fun _ _ _ _ h => h) (by kernel_rfl) (HS.out _ b0) ?_ ?_
     rotate_left
     ·rintro w9 ⟨t0, t1, t2, t3⟩
      go_simp
      try with_reducible rfl
     try simp only [Act.put, List.setIfInBounds_toArray, List.set_cons_zero, List.set_cons_succ]
     refine fan_two 5 9 (by kernel_rfl) ?_ ?_
     ·refine fan_step rfl (by kernel_rfl) fun K hK => ?_
      refine wp_call_of 29 _ _ (by rfl) #[.agg #[.slice ca G cc, .int .i64 (N : Int), .slice wa 0 wc0], .slice ua L uc] (by simp [Act.eval]) (Try.call29 _ _) (KA.out _ b0) ?_
      rintro e d1 ⟨s9, w9, rfl, o9, b9⟩
      have b1 := b0.trans (b9.mono b0.size)
      refine ⟨_, rfl, hK _ _ (HS.out _ b1) ?_⟩
      clear hK K
      obtain ⟨sa, sc, hs9⟩ := o9.rd3.1.slice
      obtain ⟨va, vc, hw9⟩ := o9.rd3.2.slice
      obtain ⟨SL, hSL⟩ : ∃ SL, SL = AP.1.1.length := ⟨_, rfl⟩
      obtain ⟨VL, hVL⟩ : ∃ VL, VL = AP.1.2.2.length := ⟨_, rfl⟩
      rw [← hSL] at hs9
      rw [← hVL] at hw9
      replace hSL := hide hSL
      replace hVL := hide hVL
      subst hs9 hw9
      try simp only [Act.put, List.setIfInBounds_toArray, List.set_cons_zero, List.set_cons_succ]
      refine fan_take (i := 6) (v := ?_) rfl (by kernel_rfl) (fun _ _ _ _ h => h) (by kernel_rfl) (HS.out _ b1) ?_ ?_
      rotate_left
      ·rintro w9 ⟨t0, t1, t2, t3⟩
       go_simp
       try with_reducible rfl
      try simp only [Act.put, List.setIfInBounds_toArray, List.set_cons_zero, List.set_cons_succ]
      refine fan_take (i := 7) (v := ?_) rfl (by kernel_rfl) (fun _ _ _ _ h => h) (by kernel_rfl) (HS.out _ b1) ?_ ?_
      rotate_left
      ·rintro w9 ⟨t0, t1, t2, t3⟩
       go_simp
       try with_reducible rfl
      try simp only [Act.put, List.setIfInBounds_toArray, List.set_cons_zero, List.set_cons_succ]
      refine fan_take (i := 8) (v := ?_) rfl (by kernel_rfl) (fun _ _ _ _ h => h) (by kernel_rfl) (HS.out _ b1) ?_ ?_
      rotate_left
      ·rintro w9 ⟨t0, t1, t2, t3⟩
       go_simp
       try with_reducible rfl
      try simp only [Act.put, List.setIfInBounds_toArray, List.set_cons_zero, List.set_cons_succ]
      refine fan_one 9 (by kernel_rfl) ?_
      refine fan_step rfl (by kernel_rfl) fun K hK => ?_
      go_simp
      obtain ⟨d2, hc, h9, bc, sc2⟩ := boxedN d1 #[.slice none 0 0, .int .i64 0, .slice none 0 0] 78
      rw [← hc]
      have b2 := b1.trans (bc.mono b1.size)
      obtain ⟨g9, hg9⟩ : ∃ g, g = d1.heap.size := ⟨_, rfl⟩
      rw [← hg9] at h9
      rw [← hg9]
      have l9 : wr.heap.size ≤ g9 := by have := b1.size; omega
      have LG9 : Hid (∀ x y z, LgF 83 wr.heap.size (S3 g9 d2 x y z) (.slice sa SL sc) (.slice va VL vc) AP.1) := fun x y z => (o9.mono b0.size).keepB fun b _ hb' => by
       rw [s3_block (fun e => by omega) x y z]; exact bc.block b hb'
      refine hK _ _ (HS.out _ b2) ?_
      clear hK K hc bc sc2 hg9 o9 b9
      try simp only [Act.put, List.setIfInBounds_toArray, List.set_cons_zero, List.set_cons_succ]
      obtain ⟨⟨y0, y1, y2⟩, yf⟩ := cells3 h9
      have f0 := yf 0
      have f1 := yf 1
      have f2 := yf 2
      refine fan_one 10 (by kernel_rfl) ?_
      refine fan_step rfl (by kernel_rfl) fun K hK => ?_
      go_simp
      refine hK _ _ (HS.out _ (below_of3 b2 l9 _ _ _)) ?_
      clear hK K
      try simp only [Act.put, List.setIfInBounds_toArray, List.set_cons_zero, List.set_cons_succ]
      refine fan_done (by kernel_rfl) ?_
      show wpList _ _ _ _ _ _
      have FN : Hid (∀ x y z, wr.heap.size ≤ g9 ∧ (S3 g9 d2 x y z).heap[g9]? = some (.cells #[x, y, z] 78 (0, 0)) ∧ LgF 83 wr.heap.size (S3 g9 d2 x y z) (.slice sa SL sc) (.slice va VL vc) AP.1 ∧ Below wr.heap.size wr (S3 g9 d2 x y z)) := fun x y z => ⟨l9, heap_set3 h9 _ _ _, LG9.out x y z, below_of3 b2 l9 _ _ _⟩
      clear LG9 h9 b2 yf b1
      dsimp only [List.drop]
      go_wp2_with fail
      go_meet
      exact ⟨g9, _, _, rfl, rfl, FN.out _ _ _⟩
     ·refine fan_step rfl (by kernel_rfl) fun K hK => ?_
      go_simp
      obtain ⟨d1, hc, h9, bc, sc2⟩ := boxedN c0 #[.slice none 0 0, .int .i64 0, .slice none 0 0] 78
      rw [← hc]
      have b1 := b0.trans (bc.mono b0.size)
      obtain ⟨g9, hg9⟩ : ∃ g, g = c0.heap.size := ⟨_, rfl⟩
      rw [← hg9] at h9
      rw [← hg9]
      have l9 : wr.heap.size ≤ g9 := by have := b0.size; omega
      have s9' : g9 < d1.heap.size := lt_of_block h9
      refine hK _ _ (HS.out _ b1) ?_
      clear hK K hc bc sc2 hg9
      try simp only [Act.put, List.setIfInBounds_toArray, List.set_cons_zero, List.set_cons_succ]
      refine fan_one 5 (by kernel_rfl) ?_
      refine fan_step rfl (by kernel_rfl) fun K hK => ?_
      refine wp_call_of 29 _ _ (by rfl) #[.agg #[.slice ca G cc, .int .i64 (N : Int), .slice wa 0 wc0], .slice ua L uc] (by simp [Act.eval]) (Try.call29 _ _) (KA.out _ b1) ?_
      rintro e d2 ⟨s9, w9, rfl, o9, b9⟩
      have b2 := b1.trans (b9.mono b1.size)
      replace h9 := (b9.block _ (lt_of_block h9)).trans h9
      refine ⟨_, rfl, hK _ _ (HS.out _ b2) ?_⟩
      clear hK K
      obtain ⟨sa, sc, hs9⟩ := o9.rd3.1.slice
      obtain ⟨va, vc, hw9⟩ := o9.rd3.2.slice
      obtain ⟨SL, hSL⟩ : ∃ SL, SL = AP.1.1.length := ⟨_, rfl⟩
      obtain ⟨VL, hVL⟩ : ∃ VL, VL = AP.1.2.2.length := ⟨_, rfl⟩
      rw [← hSL] at hs9
      rw [← hVL] at hw9
      replace hSL := hide hSL
      replace hVL := hide hVL
      subst hs9 hw9
      have LG9 : Hid (∀ x y z, LgF 83 wr.heap.size (S3 g9 d2 x y z) (.slice sa SL sc) (.slice va VL vc) AP.1) := fun x y z => (o9.set3 s9' x y z).mono b1.size
      try simp only [Act.put, List.setIfInBounds_toArray, List.set_cons_zero, List.set_cons_succ]
      refine fan_take (i := 6) (v := ?_) rfl (by kernel_rfl) (fun _ _ _ _ h => h) (by kernel_rfl) (HS.out _ b2) ?_ ?_
      rotate_left
      ·rintro w9 ⟨t0, t1, t2, t3⟩
       go_simp
       try with_reducible rfl
      try simp only [Act.put, List.setIfInBounds_toArray, List.set_cons_zero, List.set_cons_succ]
      refine fan_take (i := 7) (v := ?_) rfl (by kernel_rfl) (fun _ _ _ _ h => h) (by kernel_rfl) (HS.out _ b2) ?_ ?_
      rotate_left
      ·rintro w9 ⟨t0, t1, t2, t3⟩
       go_simp
       try with_reducible rfl
      try simp only [Act.put, List.setIfInBounds_toArray, List.set_cons_zero, List.set_cons_succ]
      refine fan_take (i := 8) (v := ?_) rfl (by kernel_rfl) (fun _ _ _ _ h => h) (by kernel_rfl) (HS.out _ b2) ?_ ?_
      rotate_left
      ·rintro w9 ⟨t0, t1, t2, t3⟩
       go_simp
       try with_reducible rfl
      try simp only [Act.put, List.setIfInBounds_toArray, List.set_cons_zero, List.set_cons_succ]
      obtain ⟨⟨y0, y1, y2⟩, yf⟩ := cells3 h9
      have f0 := yf 0
      have f1 := yf 1
      have f2 := yf 2
      refine fan_one 10 (by kernel_rfl) ?_
      refine fan_step rfl (by kernel_rfl) fun K hK => ?_
      go_simp
      refine hK _ _ (HS.out _ (below_of3 b2 l9 _ _ _)) ?_
      clear hK K
      try simp only [Act.put, List.setIfInBounds_toArray, List.set_cons_zero, List.set_cons_succ]
      refine fan_done (by kernel_rfl) ?_
      show wpList _ _ _ _ _ _
      have FN : Hid (∀ x y z, wr.heap.size ≤ g9 ∧ (S3 g9 d2 x y z).heap[g9]? = some (.cells #[x, y, z] 78 (0, 0)) ∧ LgF 83 wr.heap.size (S3 g9 d2 x y z) (.slice sa SL sc) (.slice va VL vc) AP.1 ∧ Below wr.heap.size wr (S3 g9 d2 x y z)) := fun x y z => ⟨l9, heap_set3 h9 _ _ _, LG9.out x y z, below_of3 b2 l9 _ _ _⟩
      clear LG9 h9 b2 yf b1 o9 b9
      dsimp only [List.drop]
      go_wp2_with fail
      go_meet
      exact ⟨g9, _, _, rfl, rfl, FN.out _ _ _⟩
    case rest =>
    obtain ⟨g9, s9, w9, rfl, rfl, HC⟩ := hcut
    obtain ⟨U, hU⟩ : ∃ U, U = wc := ⟨_, rfl⟩
    rw [← hU] at HC ⊢
    replace hU := hide hU
    clear KA HS T0 T1 T2 hcw hbox
    obtain ⟨l9, x9, o9, b9⟩ := HC.out
    by_cases hwo : wwaitOk b
    ·have hA0 : Hid (AP = ((wsegs 0 gs, ((flen gs : Nat) : Int), b), 0)) := hAP.out.trans (hLs.out.app hnb.out hwo)
     rw [hA0.out] at x9 o9 ⊢
     dsimp only at x9
     dsimp only
     obtain ⟨sa, sc, hs9⟩ := o9.rd3.1.slice
     obtain ⟨va, vc, hw9⟩ := o9.rd3.2.slice
     dsimp only at hs9 hw9
     rw [wsegs_len, ← hG.out] at hs9
     rw [← hL.out] at hw9
     rw [← hN.out] at x9
     subst hs9 hw9
     obtain ⟨⟨T0, T1, T2⟩, _⟩ := cells3 x9
     have KF := hide (wal_say.flushS U _ _ (wsegs 0 gs, ((flen gs : Nat) : Int), b) limit o9.rd3.1 o9.rd3.2 (hLs.out.short (by omega)))
     rw [show wflush (wsegs 0 gs, ((flen gs : Nat) : Int), b) limit = ((wsegs 0 (b.foldl (gput limit) gs), ((flen (b.foldl (gput limit) gs) : Nat) : Int), []), 0) from hLs.out.flu ⟨hl1, by omega⟩ hnb.out hwo] at KF
     dsimp only at KF
     rw [← hN.out] at KF
     have LIU := hide (hI.out.to b9)
     have LS2 := hide (hLs.out.put hl1 hwo hnb.out)
     have hfl2 : Hid ((b.foldl (gput limit) gs).flatten = gs.flatten ++ b) := gfold_flat limit b gs
     obtain ⟨gs2, hgs2⟩ : ∃ gs2, gs2 = b.foldl (gput limit) gs := ⟨_, rfl⟩
     rw [← hgs2] at KF LS2 hfl2
     replace hgs2 := hide hgs2
     obtain ⟨N2, hN2⟩ : ∃ N2, N2 = flen gs2 := ⟨_, rfl⟩
     rw [← hN2] at KF
     replace hN2 := hide hN2
     have hl9 := lt_of_block x9
     replace hwo := hide hwo
     clear o9 b9 HC
     go_wp2_with fail
     refine (unum_any _ _).mono ?_
     rintro e w' ⟨rfl, rfl⟩
     go_wp2_with fail
     refine KF.out.mono ?_
     rintro e w6 ⟨s6, v6, rfl, o6, b6⟩
     clear KF T0 T1 T2
     obtain ⟨fa, fc, hs6⟩ := o6.rd3.1.slice
     obtain ⟨ga, gc, hv6⟩ := o6.rd3.2.slice
     obtain ⟨G2, hG2⟩ : ∃ G2, G2 = gs2.length := ⟨_, rfl⟩
     dsimp only at hs6 hv6
     rw [wsegs_len, ← hG2] at hs6
     simp only [List.length_nil] at hv6
     replace hG2 := hide hG2
     subst hs6 hv6
     obtain ⟨X, hX, X0, bX, sX⟩ := boxedN w6 #[.slice fa G2 fc, .int .i64 (N2 : Int), .slice ga 0 gc] 78
     obtain ⟨⟨T0, T1, T2⟩, _⟩ := cells3 X0
     have c6 := b6.trans (bX.mono b6.size)
     have LIX := hide (LIU.out.to c6)
     have O6 := hide (o6.to bX)
     have hUs : w1.heap.size + 1 ≤ U.heap.size := by have := lt_of_block LIU.out.box; omega
     clear o6 b6 bX X0 LIU
     rw [hX] at T0 T1 T2
     go_wp2_with fail
     rw [← hX]
     rw [← hX] at T0 T1 T2
     replace hX := hide hX
     refine (unum_any _ _).mono ?_
     rintro e w' ⟨rfl, rfl⟩
     have hbX := LIX.out.box
     obtain ⟨⟨p0, p1, p2⟩, pf⟩ := cells3 hbX
     have q0 := pf 0
     have q1 := pf 1
     have q2 := pf 2
     have FV : Hid (SInv w1 (S3 w1.heap.size X (.slice fa G2 fc) (.int .i64 (N2 : Int)) (.slice ga 0 gc)) limit (.slice fa G2 fc) (.slice ga 0 gc) gs2) :=
      ⟨by rw [← hN2.out]; exact heap_set3 hbX _ _ _, ((O6.out.set3 (by omega) _ _ _).mono hUs).1, rd_none _ O6.out.rd3.2, below_of3 LIX.out.bel (Nat.le_refl _) _ _ _, LS2.out⟩
     have hf2 : Hid (flen gs2 ≤ 200 * (k + 1)) := by
      show gs2.flatten.length ≤ _
      rw [hfl2.out, List.length_append]
      exact hnk.out
     clear LIX O6 pf hbX
     go_wp2
     go_roundw
     case rel => exact ⟨k + 1, _, _, gs2, hlt, h30, m3 k, hf2, FV⟩
     case measure => exact s1 h30
    ·have hA0 : Hid (AP = (wzero, 5)) := hAP.out.trans (hLs.out.apx hwo)
     rw [hA0.out] at x9 o9 ⊢
     dsimp only
     have LIU := hide (hI.out.to b9)
     have hfl' : Hid (flen gs ≤ 200 * (k + 1)) := by have := hfl.out; show _ ≤ _; omega
     replace hwo := hide hwo
     clear x9 o9 b9 HC
     go_wp2_with fail
     refine (unum_any _ _).mono ?_
     rintro e w' ⟨rfl, rfl⟩
     go_wp2
     go_roundw
     case rel => exact ⟨k + 1, _, _, gs, hlt, h30, m3 k, hfl', LIU⟩
     case measure => exact s1 h30
  ·rw [decide_eq_false hgo]
   clear hgo
   have KS := hide (usegs_any wr _ (wsegs 0 gs) hI.out.lg.rdS (hLs.out.short (by omega)) (by rw [wsegs_len, ← hG.out]; omega))
   rw [usgs_all hLs.out] at KS
   have hkeep := hide hbox
   clear hfl
   go_wp2_with fail
   refine KS.out.mono ?_
   rintro e w2 ⟨dv, rfl, od, b2⟩
   obtain ⟨da, dc, hdv⟩ := od.rd.slice
   simp only [List.length_nil] at hdv
   subst hdv
   have I2 := hide (hI.out.to b2)
   have t0 := (b2.cell (cell_lt T0)).trans T0
   have t1 := (b2.cell (cell_lt T1)).trans T1
   have t2 := (b2.cell (cell_lt T2)).trans T2
   clear KS od b2 T0 T1 T2 hI hbox hkeep
   rcases Nat.eq_zero_or_pos G with hG0 | hG0
   ·subst hG0
    have F := hide (B1.out.trans (I2.out.bel.mono B1.out.size))
    go_wp2
    go_ret
    exact ⟨rfl, F.out⟩
   ·have hGi : ((G : Int) == 0) = false := by simp; omega
    have hGn : ¬ (G : Int) = 0 := by omega
    obtain ⟨A, hA, hA1, hA2, hA3, hA4, hA5⟩ := mod_in ai hG0
    have hGz : ¬ G = 0 := by omega
    obtain ⟨hwa, hwb⟩ := mod_wr (Nat.le_trans hG4 (by decide)) hA4 hA5
    have bd : Below w2.heap.size w2 w2.drew := below_drewN' w2 1 _
    have d0 := (bd.cell (cell_lt t0)).trans t0
    go_upto_region 17 with fail
    refine wp_region_mid (fun w' => w'.cell? ⟨w1.heap.size, 0, none⟩ = some (.slice ca G cc)) 13 13 mixed (by kernel_rfl) (fun _ _ _ _ h => h) d0 ?_
    dsimp only [List.take, List.drop]
    iterate 13
     refine take_one (v := ?_) (by rfl) ?_ ?_
     rotate_left
     ·rintro w' s1
      go_simp
      try with_reducible rfl
     try simp only [Act.put, List.setIfInBounds_toArray, List.set_cons_zero, List.set_cons_succ]
    show wpList _ _ _ _ _ _
    have I3 := hide (I2.out.to bd)
    obtain ⟨Y, hY⟩ : ∃ Y, Y = w2.drew := ⟨_, rfl⟩
    rw [← hY] at I3 d0 ⊢
    replace hY := hide hY
    clear bd I2 t0 t1 t2 hA1 hA2 hA3 hA4 hA5 hwa hwb
    obtain ⟨g, hg⟩ : ∃ g, gs[A]? = some g := ⟨gs[A]'(by rw [← hG.out]; exact hA), List.getElem?_eq_getElem _⟩
    have hgm := List.mem_of_getElem? hg
    have hat := wsegs_at gs 0 A g hg
    obtain ⟨P, hP⟩ : ∃ P, P = (gs.take A).flatten.length := ⟨_, rfl⟩
    rw [← hP, Int.zero_add] at hat
    obtain ⟨L, hL⟩ : ∃ L, L = (wdata g).length := ⟨_, rfl⟩
    have hL8 : 0 < L := by
     have h1 := wsz_len g
     have h2 : 0 < g.length := List.length_pos_iff.2 (hLs.out.ne g hgm)
     rw [hL, wdata_len]; omega
    have hLm : L ≤ 16777216 := by
     have := hLs.out.short (by omega) _ (List.mem_of_getElem? hat)
     dsimp only at this
     rw [hL]; exact this
    obtain ⟨FO, hFO, hFB⟩ := I3.out.lg.foot
    obtain ⟨gS, capS, dv, hsS, hgF, e0, e1, ef, od, fin⟩ := OwnF.seg (ownF_lg (N : Int) hFO) hat
    rw [wsegs_len, ← hG.out] at hsS
    simp only [Value.slice.injEq, true_and] at hsS
    obtain ⟨rfl, rfl⟩ := hsS
    obtain ⟨da, dc, hdv⟩ := od.rd.slice
    rw [← hL] at hdv
    obtain ⟨gd, hda⟩ : ∃ gd, da = some ⟨gd, 0, none⟩ := by
     rcases od.2 with ⟨e, hz⟩ | ⟨gd, cap', cur, e, _⟩
     ·rw [← hL] at hz; omega
     ·rw [hdv] at e
      simp only [Value.slice.injEq] at e
      exact ⟨gd, e.1⟩
    subst hda hdv
    have hcapd : L ≤ dc := by obtain ⟨_, _, e, l1, _⟩ := od.rd; simp only [Value.slice.injEq] at e; omega
    have hgl1 : w1.heap.size + 1 ≤ gS := hFB gS (by
     obtain ⟨⟨v', cc, Gx, e, hr1, hr2, hF⟩, hn⟩ := hFO
     simp only [List.cons.injEq, and_true] at e
     subst e
     rw [hF]; simp [Value.ownBlock])
    obtain ⟨C, hC, hC1, hC2, hC3, hC4, hC5⟩ := mod_in ci hL8
    obtain ⟨hwa, hwb⟩ := mod_wr (Nat.le_trans hLm (by decide)) hC4 hC5
    obtain ⟨t, ht⟩ : ∃ t, t = (wdata g).take C := ⟨_, rfl⟩
    have htl : t.length = C := by rw [ht]; simp; omega
    have odp : OwnB 0 Y (.slice (some ⟨gd, 0, none⟩) C dc) t := by rw [ht]; exact ownB_pre od hL (by omega)
    have KW := hide (rwhole_any Y _ t odp.rd (by omega))
    have FIN : Hid (∀ Y', Below Y.heap.size Y Y' → (Y'.cell? ⟨gS, A * 2 + 1, none⟩ = some (.slice (some ⟨gd, 0, none⟩) L dc) ∧ Y'.frozen? ⟨gS, A * 2 + 1, none⟩ = false) ∧ ∃ V, V = Y'.setCell ⟨gS, A * 2 + 1, none⟩ (.slice (some ⟨gd, 0, none⟩) C dc) ∧ Hid (RdC V (.slice (some ⟨gS, 0, none⟩) G cc) ((wsegs 0 gs).set A ((P : Int), t)) ∧ Below w1.heap.size w1 V ∧ V.cell? ⟨w1.heap.size, 0, none⟩ = some (.slice (some ⟨gS, 0, none⟩) G cc))) := fun Y' bq => by
     have hgr : Y.grownBy Y' (Value.slice (some ⟨gd, 0, none⟩) L dc).ownBlock := ⟨bq.os, bq.tape, bq.output, bq.size, fun k hk _ => bq.block k hk⟩
     have hob : OwnB 0 Y' (.slice (some ⟨gd, 0, none⟩) C dc) t := odp.below (Nat.le_refl _) bq
     obtain ⟨⟨k1, k2⟩, F', k3, _⟩ := fin Y' gd dc t (by rw [htl]; exact hob) hgr (.inl rfl)
     rw [htl] at k3
     refine ⟨⟨k1, k2⟩, _, rfl, (OwnF.waits k3).2, (I3.out.bel.trans (bq.mono I3.out.bel.size)).setCell (p := ⟨gS, A * 2 + 1, none⟩) (show w1.heap.size ≤ gS by omega) _, ?_⟩
     have h0 := (bq.cell (cell_lt d0)).trans d0
     exact (World.cell?_of_block (a := ⟨w1.heap.size, 0, none⟩) (Below.heap_setCell _ _ _ _ (show w1.heap.size ≠ gS from fun e => by omega))).trans h0
    have SHT : Hid (wshort ((wsegs 0 gs).set A ((P : Int), t))) := fun s hs' => by
     rcases List.mem_or_eq_of_mem_set hs' with h | h
     ·exact hLs.out.short (by omega) s h
     ·rw [h]; dsimp only; omega
    have UC : Hid (usgs ((wsegs 0 gs).set A ((P : Int), t)) G = dmSeg A ((P : Int), t)) := by show _ = _; rw [hG.out]; exact usgs_cut hLs.out (by rw [← hG.out]; exact hA) _ _
    have hSL : Hid (((wsegs 0 gs).set A ((P : Int), t)).length = G) := by show _ = _; rw [List.length_set, wsegs_len, hG.out]
    have hwnC : wn t ≤ C := by have := (wn_le t).1; omega
    obtain ⟨M, hM⟩ : ∃ M, M = wn t := ⟨_, rfl⟩
    rw [← hM] at KW hwnC
    have hDm : Hid (dmSeg A ((P : Int), t) = if M < C then [(2, (A : Int), (M : Int))] else []) := by show _ = _; unfold dmSeg; dsimp only; rw [← hM, htl]
    have hAG : (A : Int) < (G : Int) := by omega
    have hLz : ¬ L = 0 := by omega
    have hLi : ¬ (L : Int) = 0 := by omega
    have hCd : (C : Int) ≤ (dc : Int) := by omega
    have htl' := hide htl
    replace hM := hide hM
    replace ht := hide ht
    replace hP := hide hP
    replace hL := hide hL
    clear fin od odp hFO hFB hat hg hgm ef e0 hgF htl I3
    go_upto_region 20 with fail
    try simp only [Int.add_emod_right, hC1, hC2, hC3]
    clear hC1 hC2 hC3 hC4 hC5 hwa hwb
    go_wp2_with fail
    refine KW.out.mono ?_
    rintro e w3 ⟨wv3, rfl, o3, b3⟩
    obtain ⟨ra3, rc3, hr3⟩ := o3.rd.slice
    subst hr3
    generalize (wrecs t).length = rl3 at *
    have d3 := (b3.cell (cell_lt d0)).trans d0
    have bd3 : Below w3.heap.size w3 w3.drew := below_drewN' w3 1 _
    have d4 := (bd3.cell (cell_lt d3)).trans d3
    obtain ⟨⟨k1, k2⟩, V, hV, HV⟩ := FIN.out _ (b3.trans (bd3.mono b3.size))
    clear KW o3 b3 bd3 FIN d0 e1
    go_upto_region 21 with fail
    refine wp_region_mid (fun w' => w'.cell? ⟨w1.heap.size, 0, none⟩ = some (.slice (some ⟨gS, 0, none⟩) G cc)) 8 8 mixed (by kernel_rfl) (fun _ _ _ _ h => h) d4 ?_
    dsimp only [List.take, List.drop]
    iterate 8
     refine take_one (v := ?_) (by rfl) ?_ ?_
     rotate_left
     ·rintro w' s1
      go_simp
      try with_reducible rfl
     try simp only [Act.put, List.setIfInBounds_toArray, List.set_cons_zero, List.set_cons_succ]
    show wpList _ _ _ _ _ _
    obtain ⟨Z, hZ⟩ : ∃ Z, Z = w3.drew := ⟨_, rfl⟩
    rw [← hZ] at k1 k2 hV d4 ⊢
    replace hZ := hide hZ
    clear d3
    go_upto_region 22 with fail
    rw [← hV]
    replace hV := hide hV
    clear k1 k2 d4
    have v0 := HV.out.2.2
    have KS := hide (usegs_any V _ ((wsegs 0 gs).set A ((P : Int), t)) HV.out.1 SHT.out (by rw [hSL.out]; omega))
    rw [hSL.out, UC.out, hDm.out] at KS
    have HVB := hide (B1.out.trans (HV.out.2.1.mono B1.out.size))
    go_wp2_with fail
    refine KS.out.mono ?_
    rintro e w4 ⟨dv4, rfl, od4, b4⟩
    have F := hide (HVB.out.trans (b4.mono HVB.out.size))
    clear KS b4 v0 HV
    rcases Nat.lt_or_ge M C with hMC | hMC
    ·rw [if_pos hMC] at od4
     have hne : ((M : Int) == (C : Int)) = false := by simp; omega
     have OD := hide od4
     obtain ⟨xa, xc, hx4⟩ := od4.rd.slice
     simp only [List.length_cons, List.length_nil, Nat.zero_add] at hx4
     subst hx4
     obtain ⟨xb, xo, rfl, r0, r1, r2⟩ := od4.rd.d3 (i := 0) rfl
     dsimp only at r0 r1 r2
     rw [Nat.zero_mul, Nat.add_zero] at r0 r1 r2
     have q1 := eql_d3 2 (A : Int) (M : Int)
     have q2 := eqg_d3P .eql
     clear od4
     go_wp2
     go_ret
     exact ⟨rfl, F.out⟩
    ·rw [if_neg (by omega)] at od4
     obtain rfl : M = C := Nat.le_antisymm hwnC hMC
     have hee : ((M : Int) == (M : Int)) = true := by simp
     obtain ⟨xa, xc, hx4⟩ := od4.rd.slice
     simp only [List.length_nil] at hx4
     subst hx4
     clear od4
     go_wp2
     go_ret
     exact ⟨rfl, F.out⟩
set_option maxRecDepth 100000 in
theorem lifted (os : Os) (started : os.Started) (H : Type) (enc : TypeId × Value → H) :
  ReturnsInHanded {} Try.checked os 6 .any (Rows.scrubSegmentsSpec.pre6 enc Try.prog Try.f6 Rows.scrubSegmentsRow.domain false) (Rows.scrubSegmentsSpec.post enc Try.prog Try.f6 false true false false) := by
 refine returnsInHanded_of_change_sized (C := Try.checked) own started (by kernel_rfl) Try.func6
  (ChangeSpec.witness6 (enc := enc) (C := Try.checked) false ⟨#[], #[.slice none 0 0, .int .i64 0, .int .i64 0, .int .i64 0], []⟩ 8 (by kernel_rfl) (by kernel_rfl) (by kernel_rfl) (by kernel_rfl)) ?_
 intro W base args ds gs before hval0 hW hcnd hsz0 _
 have hsz : (DataW.weightsEach Try.prog (Try.f6.params.toList ++ Rows.scrubSegmentsSpec.plain.varTypes Try.prog) (ds ++ gs)).all (· ≤ reachBytes) = true := hsz0
 have hval : ∀ (j : Nat) t v, Try.f6.params[j]? = some t → args[j]? = some v → Value.okWide Try.prog W .any base t v := hval0
 have hW' := hW
 obtain ⟨p, q, hA0, hV, rfl, hfz, hnd⟩ := hW
 have hA : DataW.TrodAll enc Try.prog W 0 (fun _ => true) true Try.f6.params.toList args.toList ds p := hA0
 rw [Try.params6] at hA hval hsz
 obtain ⟨v0, vs0, d0, ds0, p0, q0, hargs, rfl, rfl, h0, r0⟩ := trodAll_cons hA
 obtain ⟨v1, vs1, d1, ds1, p1, q1, rfl, rfl, rfl, h1, r1⟩ := trodAll_cons r0
 obtain ⟨v2, vs2, d2, ds2, p2, q2, rfl, rfl, rfl, h2, r2⟩ := trodAll_cons r1
 obtain ⟨v3, vs3, d3, ds3, p3, q3, rfl, rfl, rfl, h3, r3⟩ := trodAll_cons r2
 obtain ⟨rfl, rfl, rfl⟩ := trodAll_nil r3
 obtain rfl : args = #[v0, v1, v2, v3] := by cases args; simp_all
 obtain ⟨rfl, rfl⟩ := trodVars_none hV
 obtain ⟨a0, len0, cap0, rfl⟩ := okWide_slice Try.underlying76 (hval 0 76 v0 rfl rfl)
 have lt0 : ∀ x ∈ p0, x.block < W.heap.size := by obtain ⟨m, hm⟩ := h0; exact DataW.trod_lt m _ _ _ hm
 have hh0 := h0
 obtain ⟨fu0, hf0⟩ := hh0
 obtain ⟨x0, g0, f0, b0⟩ := open_batches.opened hf0
 obtain ⟨a1, rfl, rfl, rfl, w1⟩ := open_int Try.underlying3 (hval 1 3 v1 rfl rfl) h1
 obtain ⟨a2, rfl, rfl, rfl, w2⟩ := open_int Try.underlying3 (hval 2 3 v2 rfl rfl) h2
 obtain ⟨a3, rfl, rfl, rfl, w3⟩ := open_int Try.underlying3 (hval 3 3 v3 rfl rfl) h3
 have m0 := f0 (reach_of hsz (j := 0) rfl rfl)
 clear hA0 hval0 hsz0 hsz
 refine (walk W a0 len0 cap0 x0 g0 m0 a1 w1 a2 w2 a3 w3).mono fun e W' ⟨he, bel⟩ => ?_
 subst he
 exact ⟨_, rfl, _, _, _, [], _, [], hW', trodAll_mk1 (shut_bool Try.underlying4 _), (trodAll_cons_mk (Below.trod laidOut (by kernel_rfl) (of_decide_eq_true (by kernel_rfl)) h0 bel lt0) (trodAll_cons_mk (shut_int Try.underlying3 w1) (trodAll_cons_mk (shut_int Try.underlying3 w2) (trodAll_cons_mk (shut_int Try.underlying3 w3) trodAll_mk0)))), rfl, bel.frame _, fun h => by cases h⟩
theorem over : Rows.scrubSegmentsRow.holds Try.pinned (OpenSpec.ofChange Rows.scrubSegmentsSpec) :=
 OpenClaim.holds_of_wide 6 Try.f6 rfl rfl rfl rfl rfl rfl rfl ⟨rfl, rfl, rfl, rfl, rfl⟩ rfl rfl rfl rfl rfl (by kernel_rfl) Try.func6 (by kernel_rfl)
  (of_decide_eq_true (by kernel_rfl)) (by unfold Func.isWrapper; first | (rw [if_pos (by decide +kernel)]; kernel_rfl) | (rw [if_neg (by decide +kernel)]; exact ⟨rfl, rfl⟩))
  (fun os started H enc _ => lifted os started H enc)
end Go.Proofs.Ytjjicajodjophaa.scrubSegments
namespace Go.Proofs.Ytjjicajodjophaa
theorem scrubSegments_holds : Rows.ScrubSegmentsSaid := scrubSegments.over
end Go.Proofs.Ytjjicajodjophaa
