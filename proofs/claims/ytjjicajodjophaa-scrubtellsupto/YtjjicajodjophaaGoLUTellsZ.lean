/- Several texts in one: ULa ULb LUTells. -/
import Derived.Test.YtjjicajodjophaaGoLUTells4
import Derived.Test.YtjjicajodjophaaGoLUTells3
import Derived.Laws.StructEq
import Derived.Test.YtjjicajodjophaaGoLUTells2
import Derived.Test.YtjjicajodjophaaGoLUTells1
set_option linter.unusedVariables false
set_option linter.unusedSimpArgs false
namespace Go.Proofs.Ytjjicajodjophaa
open Go.RowKit
def BRow (g n : Nat) (us : List Bool) (w : World) : Prop := w.ownsRow g 4 1 (.slice (some ⟨g, 0, none⟩) n n) n (us.map Value.bool)
theorem BRow.len {g n : Nat} {us : List Bool} {w : World} (h : BRow g n us w) : us.length = n := by
 have := h.1
 simpa using this
theorem BRow.cell {g n : Nat} {us : List Bool} {w : World} (h : BRow g n us w) {k : Nat} {b : Bool} (hk : us[k]? = some b) : w.cell? ⟨g, k, none⟩ = some (.bool b) :=
 rows_at (rows_base h fun _ _ => Nat.zero_le _) rfl (by rw [List.getElem?_map, hk]; rfl)
theorem BRow.frozen {g n : Nat} {us : List Bool} {w : World} (h : BRow g n us w) (k : Nat) : w.frozen? ⟨g, k, none⟩ = false := by
 exact World.ownsRow.frozenAt h k
theorem BRow.put {g n : Nat} {us : List Bool} {w : World} (h : BRow g n us w) (k : Nat) : BRow g n (us.set k true) (w.setCell ⟨g, k, none⟩ (.bool true)) := by
 have := (World.ownsRow.stored h k (.bool true)).1
 unfold BRow
 rw [List.map_set]
 exact this
theorem BRow.keep {g n : Nat} {us : List Bool} {w w' : World} (h : BRow g n us w) (hb : w'.heap[g]? = w.heap[g]?) : BRow g n us w' := by
 rcases h with ⟨h1, h2 | ⟨b, cap, cur, hv, hB, hg, hr⟩⟩
 ·exact ⟨h1, .inl h2⟩
 ·refine ⟨h1, .inr ⟨b, cap, cur, hv, hB, ?_, hr⟩⟩
  simp only [Value.slice.injEq, Option.some.injEq, Addr.mk.injEq] at hv
  obtain ⟨⟨rfl, _⟩, _⟩ := hv
  rw [hb]; exact hg
theorem BRow.lt {g n : Nat} {us : List Bool} {w : World} (h : BRow g n us w) : g < w.heap.size := (World.ownsRow.lt h g rfl).2
theorem BRow.below {g n B : Nat} {us : List Bool} {w w' : World} (h : BRow g n us w) (hb : Below B w w') (hB : g < B) : BRow g n us w' := h.keep (hb.block g hB)
theorem BRow.to {g n : Nat} {us : List Bool} {w w' : World} (h : BRow g n us w) (hb : Below w.heap.size w w') : BRow g n us w' := h.below hb h.lt
def HitI (us : List Bool) (p : Int → Prop) : Prop := us.length = 310 ∧ ∀ j : Nat, j < 310 → (us[j]? = some true ↔ p (j : Int))
theorem HitI.congr {us : List Bool} {p q : Int → Prop} (h : HitI us p) (hq : ∀ j, q j ↔ p j) : HitI us q := ⟨h.1, fun j hj => by rw [hq]; exact h.2 j hj⟩
theorem HitI.same {us vs : List Bool} {p : Int → Prop} (h : HitI us p) (k : HitI vs p) : us = vs := by
 apply List.ext_getElem? 
 intro j
 by_cases hj : j < 310
 ·have h1 := h.2 j hj
  have h2 := k.2 j hj
  rw [List.getElem?_eq_getElem (by rw [h.1]; exact hj)] at h1 ⊢
  rw [List.getElem?_eq_getElem (by rw [k.1]; exact hj)] at h2 ⊢
  simp only [Option.some.injEq] at h1 h2 ⊢
  exact Bool.eq_iff_iff.2 (h1.trans h2.symm)
 ·rw [List.getElem?_eq_none (by rw [h.1]; omega), List.getElem?_eq_none (by rw [k.1]; omega)]
set_option maxRecDepth 100000 in
theorem unum_any (w : World) (n : Int) : Calls Try.prog 14 #[.int .i64 n] w fun e w' => e = .returned (.int .i64 n) ∧ w = w' := by
 go_enter Try.func14, Try.ntmps14
 go_wp2
 go_ret
 exact ⟨rfl, rfl⟩
theorem rngs_alive : rngs [(1, 0, 4), (1, 0, 8)] = [(4, 8)] := by
 have e : srt (dmAts [(1, 0, 4), (1, 0, 8)]) = [4, 8] := by
  have : dmAts [(1, 0, 4), (1, 0, 8)] = [4, 8] := by decide
  rw [this]
  exact List.mergeSort_of_pairwise (by simp)
 unfold rngs
 rw [e]
 decide
theorem rd_lit3 {w : World} {T g : Nat} {l : List D3} {cs : Array Value} (h : w.heap[g]? = some (.cells cs T (0, 0))) (hc : cs.toList = dcells l) (hl : l.length ≤ 1000) : RdD w (.slice (some ⟨g, 0, none⟩) l.length l.length) l := by
 have hs : cs.size = l.length * 3 := by
  rw [← Array.length_toList, hc]
  clear h hc hl
  induction l with
  | nil => rfl
  | cons x r ih => rw [dcells_cons, List.length_append, ih, List.length_cons]; simp; omega
 refine (OwnD.rd (T := T) (B := 0) ⟨by rw [← hc, Array.length_toList]; exact hs, .inr ⟨g, l.length, cs, rfl, Nat.zero_le _, h, Nat.le_refl _, by unfold maxLen; omega, hs, ?_⟩⟩)
 rw [← hc, List.take_of_length_le (by rw [Array.length_toList]; omega)]
theorem rd_litE {w : World} {g : Nat} {x y : Int} (h : w.heap[g]? = some (.cells #[.int .i64 x, .int .i64 y] 73 (0, 0))) : RdE w (.slice (some ⟨g, 0, none⟩) 1 1) [(x, y)] := by
 exact ownE_rd2 (B := 0) (l := [(x, y)]) ⟨rfl, .inr ⟨g, 1, _, rfl, Nat.zero_le _, h, Nat.le_refl _, by unfold maxLen; omega, rfl, rfl⟩⟩
set_option maxRecDepth 100000 in
set_option maxHeartbeats 2000000 in
theorem ualive_any (w : World) : Calls Try.prog 23 #[] w fun e w' => e = .returned (.bool true) ∧ Below w.heap.size w w' := by
 obtain ⟨A, hA, A0, bA, sA⟩ := boxedN w #[.int .i64 1, .int .i64 0, .int .i64 4, .int .i64 1, .int .i64 0, .int .i64 8] 42
 have KR := hide (pranges_any A _ [(1, 0, 4), (1, 0, 8)] (rd_lit3 A0 rfl (by simp)) (by simp))
 rw [rngs_alive] at KR
 simp only [List.length_cons, List.length_nil, Nat.zero_add, Nat.reduceAdd] at KR
 have HB := hide bA
 rw [hA] at KR
 clear A0 bA
 go_enter Try.func23, Try.ntmps23
 go_wp2_with fail
 refine KR.out.mono ?_
 rw [← hA]
 rintro e w1 ⟨v1, rfl, o1, b1⟩
 have B1 := hide (HB.out.trans (b1.mono HB.out.size))
 obtain ⟨C, hC, C0, bC, sC⟩ := boxedN w1 #[.int .i64 4, .int .i64 8] 73
 have KS := hide (sameExt_any C v1 _ [(4, 8)] [(4, 8)] ((ownE_rd2 o1).to0 bC) (rd_litE C0))
 rw [show sameE [(4, 8)] [(4, 8)] = true by simp [sameE]] at KS
 obtain ⟨va, vc, rfl⟩ := (ownE_rd2 o1).slice
 have HC := hide (B1.out.trans (bC.mono B1.out.size))
 rw [hC] at KS
 clear KR o1 b1 C0 bC B1 HB
 go_wp2_with fail
 refine KS.out.mono ?_
 rw [← hC]
 rintro e w2 ⟨rfl, n2, hw2⟩
 have B2 := hide (HC.out.trans ((show Below C.heap.size C w2 by rw [hw2]; exact below_drewN' _ _ _).mono HC.out.size))
 obtain ⟨D, hD, D0, bD, sD⟩ := boxedN w2 #[.int .i64 2, .int .i64 0, .int .i64 0] 42
 have KV := hide (uverdict_any D _ [(2, 0, 0)] (rd_lit3 D0 rfl (by simp)))
 have KN := hide (uverdict_any D (.slice none 0 0) [] (RdS.nil _ _))
 simp only [List.length_cons, List.length_nil, Nat.zero_add, Nat.reduceAdd, Nat.lt_irrefl, decide_false, Nat.lt_add_one, Nat.zero_lt_one, decide_true] at KV KN
 have BD := hide (B2.out.trans (bD.mono B2.out.size))
 rw [hD] at KV KN
 clear KS D0 bD B2 HC hw2
 go_wp2_with fail
 refine KV.out.mono ?_
 rintro e w3 ⟨rfl, hw3⟩
 rw [← hw3]
 clear hw3
 go_wp2_with fail
 refine KN.out.mono ?_
 rintro e w4 ⟨rfl, hw4⟩
 rw [← hw4]
 clear hw4
 go_wp2
 go_ret
 rw [← hD]
 exact ⟨rfl, BD.out⟩
end Go.Proofs.Ytjjicajodjophaa

namespace Go.Proofs.Ytjjicajodjophaa
open Go.ChangeShapes Go.WideShapes Go.ChangeAt Go.RowKit
set_option maxRecDepth 100000 in
theorem open_writeU : Opens SWr 108 (fun z => True ∧ z.2.length ≤ 140737488351232) (fun z => 1 + z.2.length) :=
 (opens_int Try.underlying3 (by kernel_rfl)).pair opens_octs Try.underlying108 (by kernel_rfl) rfl rfl
set_option maxRecDepth 100000 in
theorem open_cacheU : Opens SCacheR 23 (fun xs => xs.length * 32 ≤ 140737488351232 ∧ ∀ z ∈ xs, True ∧ z.2.length ≤ 140737488351232) (fun xs => (xs.map (fun z => 1 + z.2.length)).sum) :=
 open_writeU.list Try.underlying23 (by kernel_rfl) (by kernel_rfl) (by decide)
set_option maxRecDepth 100000 in
theorem open_stateU : Opens SStR 25 (fun z => (z.1.length * 24 ≤ 140737488351232 ∧ ∀ x ∈ z.1, x.length ≤ 140737488351232) ∧ (z.2.length * 32 ≤ 140737488351232 ∧ ∀ y ∈ z.2, True ∧ y.2.length ≤ 140737488351232)) (fun z => (z.1.map (fun x => x.length + 1)).sum + (z.2.map (fun y => 1 + y.2.length)).sum) :=
 open_sectors.pair open_cacheU Try.underlying25 (by kernel_rfl) rfl rfl
theorem state_formU {w : World} {cs : Array Value} {d : Dsk} (h : SStR.rd w cs.toList d) : ∃ sv cv, cs = #[sv, cv] ∧ RdSec w sv d.1 ∧ RdC w cv d.2 := by
 obtain ⟨c, e, hc, ⟨v1, rfl, r1⟩, ⟨v2, rfl, r2⟩⟩ := h
 refine ⟨v1, v2, ?_, r1, r2⟩
 cases cs
 simpa using hc
theorem state_smallU {d : Dsk} (h : (d.1.map (fun x => x.length + 1)).sum + (d.2.map (fun y => 1 + y.2.length)).sum ≤ 1048576) : dfit d := by
 obtain ⟨b1, b2⟩ := bulk_lists (xs := d.1) (n := 1048576) (by omega)
 obtain ⟨a1, a2⟩ := bulk_segs (segs := d.2) (n := 1048576) (by omega)
 exact ⟨by omega, fun x hx => by have := b2 x hx; omega, by omega, fun y hy => by have := a2 y hy; omega⟩
abbrev SPlc : Shp (List Ext) := Shp.list 112 SExt
set_option maxRecDepth 100000 in
theorem open_place : Opens SExt 112 (fun z => True ∧ True) (fun _ => 1 + 1) :=
 (opens_int Try.underlying3 (by kernel_rfl)).pair (opens_int Try.underlying3 (by kernel_rfl)) Try.underlying112 (by kernel_rfl) rfl rfl
set_option maxRecDepth 100000 in
theorem open_plc : Opens SPlc 26 (fun xs => xs.length * 16 ≤ 140737488351232 ∧ ∀ z ∈ xs, True ∧ True) (fun xs => (xs.map (fun _ => 1 + 1)).sum) :=
 open_place.list Try.underlying26 (by kernel_rfl) (by kernel_rfl) (by decide)
abbrev SDmg : Shp (List D3) := Shp.list 43 SD3
set_option maxRecDepth 100000 in
theorem open_damage : Opens SD3 43 (fun z => True ∧ (True ∧ True)) (fun _ => 1 + (1 + 1)) :=
 Opens.three (opens_int Try.underlying3 (by kernel_rfl)) (opens_int Try.underlying3 (by kernel_rfl)) (opens_int Try.underlying3 (by kernel_rfl)) Try.underlying43 (by kernel_rfl) rfl rfl rfl
set_option maxRecDepth 100000 in
theorem open_dmg : Opens SDmg 28 (fun xs => xs.length * 24 ≤ 140737488351232 ∧ ∀ z ∈ xs, True ∧ (True ∧ True)) (fun xs => (xs.map (fun _ => 1 + (1 + 1))).sum) :=
 open_damage.list Try.underlying28 (by kernel_rfl) (by kernel_rfl) (by decide)
theorem bulk_const {α : Type} (c : Nat) (hc : 0 < c) : ∀ {xs : List α} {n : Nat}, (xs.map (fun _ => c)).sum ≤ n → xs.length ≤ n
 | [], n, _ => Nat.zero_le _
 | x :: xs, n, h => by
  simp only [List.map_cons, List.sum_cons] at h
  have := bulk_const c hc (xs := xs) (n := n - c) (by omega)
  simp only [List.length_cons]
  omega
abbrev TPP : Nat := 64
theorem infoPP : (Try.prog.info? 64).map (fun i => (i.zero, i.size, i.bytes)) = some (some (.agg #[.int .i64 0, .int .i64 0]), 2, 16) := by kernel_rfl
set_option maxRecDepth 100000 in
set_option maxHeartbeats 2000000 in
theorem places_any (w : World) (v : Value) (l : List Ext) (h : RdE w v l) (hl : l.length ≤ 4000000) :
  Calls Try.prog 11 #[v] w fun e w' => ∃ v', e = .returned v' ∧ OwnP2 TPP w.heap.size w' v' l ∧ Below w.heap.size w w' := by
 obtain ⟨a, c, rfl⟩ := h.slice
 have HH := hide h
 clear h
 go_enter Try.func11, Try.ntmps11
 go_wp2
 go_loopw [3, 4] (fun o i wr => ∃ k : Nat, k ≤ l.length ∧ i = .int .i64 k ∧ Hid (OwnP2 TPP w.heap.size wr o (l.take k) ∧ Below w.heap.size w wr)) (fun _ i _ => l.length - (intOf i).toNat)
 case atStart => exact ⟨0, Nat.zero_le _, rfl, hide ⟨World.ownsRow_nil _ _ _ _, Below.refl _ _⟩⟩
 case round =>
  obtain ⟨k, hk, rfl, hH⟩ := hrel
  obtain ⟨ho, hb⟩ := hH.out
  by_cases hlt : k < l.length
  ·have hq : (k : Int) < (l.length : Int) := by omega
   obtain ⟨x, hx, _⟩ := some_at l hlt
   have hT := hide (show l.take (k + 1) = l.take k ++ [x] by rw [List.take_add_one, hx]; rfl)
   have hLL : (l.take k).length * 16 ≤ 140737488351232 := by simp; omega
   obtain ⟨x1, x2⟩ := x
   obtain ⟨b, off, rfl, hc1, hc2⟩ := (HH.out.to0 hb).ext hx
   dsimp only at hc1 hc2
   obtain ⟨v6, w6, hr6, o6, b6, s6⟩ := run_append_p2 (TL := 37) Try.underlying37 infoPP wr ho x1 x2 hLL hb.size
   have F := hide (And.intro (show OwnP2 TPP w.heap.size w6 v6 (l.take (k + 1)) by rw [hT.out]; exact o6) (hb.trans b6))
   clear o6 b6 ho hb hH hx
   go_wp2_with (at_builtin; refine Lib.wpList_append_run _ rfl _ _ _ _ rfl _ _ rfl rfl _ _ hr6 ?_)
   go_roundw
   case rel => exact ⟨k + 1, by omega, by go_num, F⟩
   case measure => simp [intOf]; omega
  ·have hq : ¬ (k : Int) < (l.length : Int) := by omega
   obtain rfl : k = l.length := by omega
   rw [List.take_length] at ho
   have F := hide (And.intro ho hb)
   clear ho hb hH
   go_wp2
   go_ret
   exact ⟨_, rfl, F.out⟩
theorem neq_d3 (a b c : Int) (w : World) : (binOp .neq 43 (.agg #[.int .i64 a, .int .i64 b, .int .i64 c]) (.agg #[.int .i64 a, .int .i64 b, .int .i64 c])).run Try.prog w = .ok (.bool false) w := by
 have e1 : Try.prog.underlying 43 = some (.struct (Try.prog.fieldsOf 43)) := by kernel_rfl
 have e2 : Try.prog.stoodInHeld 43 = false := by kernel_rfl
 rw [run_neq_struct, run_equalIn_struct w 9999 _ _ _ e1 e2]
 have e3 : (Try.prog.fieldsOf 43).toList.map (fun f => (f.name == "_", f.type, f.offset)) = [(false, 3, 0), (false, 3, 1), (false, 3, 2)] := by kernel_rfl
 have e4 : Try.prog.underlying 3 = some (.int .i64) := by kernel_rfl
 have p0 : ∀ x y z : Value, (part 3 #[x, y, z] 0).run Try.prog w = .ok x w := fun x y z => by kernel_rfl
 have p1 : ∀ x y z : Value, (part 3 #[x, y, z] 1).run Try.prog w = .ok y w := fun x y z => by kernel_rfl
 have p2 : ∀ x y z : Value, (part 3 #[x, y, z] 2).run Try.prog w = .ok z w := fun x y z => by kernel_rfl
 have e5 : ∀ x : Int, (Op.equalIn 9999 3 (.int .i64 x) (.int .i64 x)).run Try.prog w = .ok true w := fun x => by
  rw [run_equalIn_int w 9998 _ _ _ _ _ e4]; simp
 generalize (Try.prog.fieldsOf 43).toList = fs at e3 ⊢
 rcases fs with _ | ⟨f0, _ | ⟨f1, _ | ⟨f2, _ | ⟨f3, r⟩⟩⟩⟩ <;> simp at e3
 obtain ⟨⟨a1, a2, a3⟩, ⟨b1, b2, b3⟩, c1, c2, c3⟩ := e3
 simp only [Op.eqFields, a1, a2, a3, b1, b2, b3, c1, c2, c3, ne_eq, not_false_eq_true, if_true, Sem.run_bind, p0, p1, p2, e5, Result.andThen_ok, Sem.run_ite, Sem.run_pure]
 rfl
theorem eqg_d3 (op : BinOp) (x y : Operand) (a b : Array Value) (w : World) : (eqGuard op 43 x y (.agg a) (.agg b)).run Try.prog w = .ok () w :=
 run_eqGuard_agg w op _ x y a b (by kernel_rfl)
set_option maxRecDepth 100000 in
set_option maxHeartbeats 2000000 in
theorem same12_any (w : World) (v u : Value) (l : List D3) (h1 : RdD w v l) (h2 : RdD w u l) : Calls Try.prog 13 #[v, u] w fun e w' => e = .returned (.bool true) ∧ Below w.heap.size w w' := by
 have lb := h1.bd
 obtain ⟨a1, c1, rfl⟩ := h1.slice
 obtain ⟨a2, c2, rfl⟩ := h2.slice
 have H1 := hide h1
 have H2 := hide h2
 obtain ⟨n, hn⟩ : ∃ n, n = l.length := ⟨_, rfl⟩
 rw [← hn] at lb ⊢
 replace hn := hide hn
 clear h1 h2
 go_enter Try.func13, Try.ntmps13
 go_wp2
 go_loopw [5] (fun i wr => ∃ k : Nat, k ≤ n ∧ i = .int .i64 k ∧ Hid (Below w.heap.size w wr)) (fun i _ => n - (intOf i).toNat)
 case atStart => exact ⟨0, Nat.zero_le _, rfl, hide (Below.refl _ _)⟩
 case round =>
  obtain ⟨k, hk, rfl, hw⟩ := hrel
  by_cases hlt : k < n
  ·have hq : (k : Int) < (n : Int) := by omega
   obtain ⟨x, hx, _⟩ := some_at l (k := k) (by rw [← hn.out]; exact hlt)
   obtain ⟨x1, x2, x3⟩ := x
   have r1 := H1.out.to0 hw.out
   have r2 := H2.out.to0 hw.out
   rw [← hn.out] at r1 r2
   obtain ⟨b, o, rfl, p1, p2, p3⟩ := r1.d3 hx
   obtain ⟨b', o', rfl, q1, q2, q3⟩ := r2.d3 hx
   dsimp only at p1 p2 p3 q1 q2 q3
   have bd := hide (fun m => hw.out.trans (below_drewN' wr m _))
   have t1 := neq_d3 x1 x2 x3
   have t2 := eqg_d3 .neq
   clear hx r1 r2
   go_wp2
   go_region
   go_wp2
   go_roundw
   case rel => exact ⟨k + 1, by omega, by go_num, hide (bd.out 1)⟩
   case measure => simp [intOf]; omega
  ·have hq : ¬ (k : Int) < (n : Int) := by omega
   go_wp2
   go_ret
   exact ⟨rfl, hw.out⟩
end Go.Proofs.Ytjjicajodjophaa

namespace Go.Proofs.Ytjjicajodjophaa.scrubTells
open Go.ChangeShapes Go.WideShapes Go.ChangeAt Go.RowKit
set_option maxRecDepth 100000 in
set_option maxHeartbeats 4000000 in
theorem walk (w : World) (cs0 : Array Value) (d : Dsk) (g0 : SStR.rd w cs0.toList d) (m0 : (d.1.map (fun x => x.length + 1)).sum + (d.2.map (fun y => 1 + y.2.length)).sum ≤ 1048576) (a1 : Option Addr) (len1 cap1 : Nat) (pl : List Ext) (g1 : SPlc.rd w [.slice a1 len1 cap1] pl) (m1 : (pl.map (fun _ => 1 + 1)).sum ≤ 1048576) (a2 : Option Addr) (len2 cap2 : Nat) (segs : List Wrt) (g2 : SSegs.rd w [.slice a2 len2 cap2] segs) (m2 : (segs.map (fun z => 1 + z.2.length)).sum ≤ 1048576) (a3 : Option Addr) (len3 cap3 : Nat) (dl : List D3) (g3 : SDmg.rd w [.slice a3 len3 cap3] dl) (m3 : (dl.map (fun _ => 1 + (1 + 1))).sum ≤ 1048576) :
  Calls Try.prog 3 #[.agg cs0, .slice a1 len1 cap1, .slice a2 len2 cap2, .slice a3 len3 cap3] w fun e w' => e = .returned (.bool true) ∧ Below w.heap.size w w' := by
 obtain ⟨sv, cv, rfl, hs, hc⟩ := state_formU g0
 obtain ⟨v1, e1, h1⟩ := g1
 obtain ⟨v2, e2, h2⟩ := g2
 obtain ⟨v3, e3, h3⟩ := g3
 simp only [List.cons.injEq, and_true] at e1 e2 e3
 subst e1 e2 e3
 have hfit := state_smallU m0
 have hpl := bulk_const 2 (by decide) m1
 have hdl := bulk_const 3 (by decide) m3
 obtain ⟨hsl, hsm⟩ := bulk_segs m2
 obtain ⟨ra, rc, e⟩ := h1.slice
 simp only [Value.slice.injEq] at e
 obtain ⟨rfl, rfl, rfl⟩ := e
 obtain ⟨ra, rc, e⟩ := h2.slice
 simp only [Value.slice.injEq] at e
 obtain ⟨rfl, rfl, rfl⟩ := e
 obtain ⟨ra, rc, e⟩ := h3.slice
 simp only [Value.slice.injEq] at e
 obtain ⟨rfl, rfl, rfl⟩ := e
 obtain ⟨W, hW, D0, D1, bW, sW⟩ := boxed2 w sv cv 25
 have KO := hide (of_any W sv cv d (hs.to0 bW) (hc.to0 bW) hfit)
 obtain ⟨sa, sc, rfl⟩ := hs.slice
 obtain ⟨ca, cc, rfl⟩ := hc.slice
 have BW := hide bW
 have HD := hide (And.intro D0 D1)
 have HS := hide (hs.to0 bW)
 have HC := hide (hc.to0 bW)
 have H1 := hide (h1.to0 bW)
 have H2 := hide (h2.to0 bW)
 have H3 := hide (h3.to0 bW)
 have HSM : Hid (∀ s ∈ segs, s.2.length ≤ 16777216) := fun s hs => by have := hsm s hs; omega
 have HSF : Hid (∀ s ∈ segs, s.2.length ≤ 140737488351232) := fun s hs => by have := hsm s hs; omega
 generalize hn0 : d.1.length = n0 at *
 generalize hn00 : d.2.length = n00 at *
 generalize hn1 : pl.length = n1 at *
 generalize hn2 : segs.length = n2 at *
 generalize hn3 : dl.length = n3 at *
 replace hn0 := hide hn0
 replace hn00 := hide hn00
 replace hn1 := hide hn1
 replace hn2 := hide hn2
 replace hn3 := hide hn3
 rw [hW] at D0 D1 KO
 clear hs hc h1 h2 h3 bW m0 m1 m2 m3 hsm hfit
 go_enter Try.func3, Try.ntmps3
 go_wp2_with fail
 refine KO.out.mono ?_
 rw [← hW]
 rintro e w1 ⟨sv1, cv1, rfl, o1, b1⟩
 obtain ⟨rs1, rc1⟩ := (show RdSec w1 sv1 d.1 ∧ RdC w1 cv1 d.2 from by
  obtain ⟨c', e', hc', ⟨p1, q1, r1⟩, ⟨p2, q2, r2⟩⟩ := o1.rd
  subst q1 q2
  simp only [List.cons_append, List.nil_append, List.cons.injEq, and_true] at hc'
  obtain ⟨rfl, rfl⟩ := hc'
  exact ⟨r1, r2⟩)
 obtain ⟨U, hU, E0, E1, bU, sU⟩ := boxed2 w1 sv1 cv1 31
 have BU := hide (b1.trans (bU.mono b1.size))
 have RS := hide (rs1.to0 bU)
 have RC := hide (rc1.to0 bU)
 obtain ⟨sa1, sc1, rfl⟩ := rs1.slice
 obtain ⟨ca1, cc1, rfl⟩ := rc1.slice
 rw [hn0.out, hn00.out] at *
 have EE := hide (And.intro E0 E1)
 have bd : Below U.heap.size U U.drew := below_drewN' U 1 _
 have cU := BU.out.trans (bd.mono BU.out.size)
 have KP := hide (places_any U.drew _ pl (H1.out.to0 cU) (by rw [hn1.out]; omega))
 have HSd : Hid (∀ w9, Below U.heap.size U w9 → w9.cell? ⟨w1.heap.size, 0, none⟩ = some (.slice sa1 n0 sc1) ∧ w9.cell? ⟨w1.heap.size, 1, none⟩ = some (.slice ca1 n00 cc1)) := fun w9 b9 => ⟨(b9.cell (cell_lt EE.out.1)).trans EE.out.1, (b9.cell (cell_lt EE.out.2)).trans EE.out.2⟩
 have BD := hide bd
 rw [hU] at E0 E1
 clear KO o1 b1 bU rs1 rc1 bd cU D0 D1
 go_upto_region 2 with fail
 refine wp_region_sched (fun w9 => w9.cell? ⟨w1.heap.size, 0, none⟩ = some (.slice sa1 n0 sc1) ∧ w9.cell? ⟨w1.heap.size, 1, none⟩ = some (.slice ca1 n00 cc1)) [(0,true),(1,true),(2,false),(3,false),(4,true),(5,true),(6,true),(7,false)] 8 mixed (by kernel_rfl) (fun _ _ _ _ h => h) ?_
 rw [← hU]
 replace hU := hide hU
 clear E0 E1
 iterate 2
  refine sched_take (v := ?_) rfl (by kernel_rfl) (HSd.out _ BD.out) ?_ ?_
  rotate_left
  ·rintro w9 ⟨r0, r1⟩
   go_simp
   try with_reducible rfl
  try simp only [List.getElem_toArray, List.getElem_cons_succ, List.getElem_cons_zero, List.getElem?_toArray, List.getElem?_cons_succ, List.getElem?_cons_zero, Act.put, List.setIfInBounds_toArray, List.set_cons_zero, List.set_cons_succ]
 try rw [hn1.out] at KP
 refine sched_run rfl (by kernel_rfl) fun K hK => ?_
 refine wp_call_of 11 _ _ (by rfl) #[.slice a1 n1 cap1] (by simp [Act.eval]) (Try.call11 _ _) KP.out ?_
 rintro e w2 ⟨pv, rfl, op, b2⟩
 have B2 := hide (BD.out.trans (b2.mono BD.out.size))
 have KG := hide (ppages_any w2 _ _ _ d pl (RS.out.to0 B2.out) (RC.out.to0 B2.out) op.rd)
 have hpv := op.rd.slice
 refine ⟨_, rfl, hK _ _ (HSd.out _ B2.out) ?_⟩
 clear hK K KP b2
 obtain ⟨pa, pc, hpv⟩ := hpv
 rw [hn1.out] at hpv
 subst hpv
 have OP := hide op
 clear op
 obtain ⟨PG, hPG⟩ : ∃ PG, PG = upg d pl := ⟨_, rfl⟩
 rw [← hPG] at KG
 replace hPG := hide hPG
 try simp only [List.getElem_toArray, List.getElem_cons_succ, List.getElem_cons_zero, List.getElem?_toArray, List.getElem?_cons_succ, List.getElem?_cons_zero, Act.put, List.setIfInBounds_toArray, List.set_cons_zero, List.set_cons_succ]
 refine sched_run rfl (by kernel_rfl) fun K hK => ?_
 refine wp_call_of 10 _ _ (by rfl) #[.agg #[.slice sa1 n0 sc1, .slice ca1 n00 cc1], .slice pa n1 pc] (by simp [Act.eval]) (Try.call10 _ _) KG.out ?_
 rintro e w3 ⟨gv, rfl, og, b3⟩
 have B3 := hide (B2.out.trans (b3.mono B2.out.size))
 have hgv := og.rd.slice
 have OG := hide og.rd
 refine ⟨_, rfl, hK _ _ (HSd.out _ B3.out) ?_⟩
 clear hK K KG b3 og
 obtain ⟨ga, gc, hgv⟩ := hgv
 obtain ⟨gl, hgl⟩ : ∃ gl, gl = PG.1.length := ⟨_, rfl⟩
 rw [← hgl] at hgv
 replace hgl := hide hgl
 subst hgv
 try simp only [List.getElem_toArray, List.getElem_cons_succ, List.getElem_cons_zero, List.getElem?_toArray, List.getElem?_cons_succ, List.getElem?_cons_zero, Act.put, List.setIfInBounds_toArray, List.set_cons_zero, List.set_cons_succ]
 iterate 3
  refine sched_take (v := ?_) rfl (by kernel_rfl) (HSd.out _ B3.out) ?_ ?_
  rotate_left
  ·rintro w9 ⟨r0, r1⟩
   go_simp
   try with_reducible rfl
  try simp only [List.getElem_toArray, List.getElem_cons_succ, List.getElem_cons_zero, List.getElem?_toArray, List.getElem?_cons_succ, List.getElem?_cons_zero, Act.put, List.setIfInBounds_toArray, List.set_cons_zero, List.set_cons_succ]
 refine sched_run rfl (by kernel_rfl) fun K hK => ?_
 go_simp
 refine hK _ _ (HSd.out _ B3.out) ?_
 clear hK K
 try simp only [Act.put, List.setIfInBounds_toArray, List.set_cons_zero, List.set_cons_succ]
 show wpList _ _ _ _ _ _
 dsimp only [List.drop]
 -- the page's Pages
 have C3 := hide (BU.out.trans (B3.out.mono BU.out.size))
 have y0 := (C3.out.cell (cell_lt HD.out.1)).trans HD.out.1
 have y1 := (C3.out.cell (cell_lt HD.out.2)).trans HD.out.2
 have KR := hide (rpages12_any w3 _ _ _ d pl (HS.out.to0 C3.out) (HC.out.to0 C3.out) (H1.out.to0 C3.out))
 rw [← hPG.out] at KR
 try rw [hn0.out, hn00.out, hn1.out] at KR
 go_wp2_with fail
 refine KR.out.mono ?_
 rintro e w4 ⟨qv, rfl, oq, b4⟩
 have C4 := hide (C3.out.trans (b4.mono C3.out.size))
 have B4 := hide (B3.out.trans (b4.mono B3.out.size))
 have OQ := hide oq.rd
 have OG4 := hide (OG.out.to0 b4)
 obtain ⟨qa, qc, hqv⟩ := oq.rd.slice
 rw [← hgl.out] at hqv
 subst hqv
 clear KR oq b4 y0 y1 OG
 go_wp2
 go_loopw [14, 15] (fun o i wr => ∃ k : Nat, k ≤ n3 ∧ i = .int .i64 k ∧ Hid (OwnD TDP w4.heap.size wr o (dl.take k) ∧ Below w4.heap.size w4 wr)) (fun _ i _ => n3 - (intOf i).toNat)
 case atStart => exact ⟨0, Nat.zero_le _, rfl, hide ⟨OwnD.nil _ _ _, Below.refl _ _⟩⟩
 case round =>
  obtain ⟨k, hk, rfl, hH⟩ := hrel
  obtain ⟨ho, hb⟩ := hH.out
  have cw := C4.out.trans (hb.mono C4.out.size)
  rcases Nat.lt_or_ge k n3 with hlt | hlt
  ·have hq : (k : Int) < (n3 : Int) := Int.ofNat_lt.2 hlt
   obtain ⟨x, hx, _⟩ := some_at dl (k := k) (by rw [hn3.out]; exact hlt)
   have hT := hide (show dl.take (k + 1) = dl.take k ++ [x] by rw [List.take_add_one, hx]; rfl)
   have hLL : (dl.take k).length * 24 ≤ 140737488351232 := by rw [List.length_take, hn3.out]; omega
   obtain ⟨x1, x2, x3⟩ := x
   obtain ⟨b, off, rfl, q1, q2, q3⟩ := (H3.out.to0 cw).d3 hx
   dsimp only at q1 q2 q3
   obtain ⟨v6, w6, hr6, o6, b6, s6⟩ := run_append_d3 (TL := 33) Try.underlying33 infoDP wr ho x1 x2 x3 hLL hb.size
   have F := hide (And.intro (show OwnD TDP w4.heap.size w6 v6 (dl.take (k + 1)) by rw [hT.out]; exact o6) (hb.trans b6))
   clear o6 b6 ho hb hH hx cw hLL
   go_wp2_with (at_builtin; refine Lib.wpList_append_run _ rfl _ _ _ _ rfl _ _ rfl rfl _ _ hr6 ?_)
   go_roundw
   case rel => exact ⟨k + 1, hlt, m3 k, F⟩
   case measure => exact m2 hlt
  ·have hq : ¬ (k : Int) < (n3 : Int) := by omega
   obtain rfl : k = n3 := Nat.le_antisymm hk hlt
   rw [← hn3.out, List.take_length] at ho
   obtain ⟨xa, xc, hxv⟩ := ho.rd.slice
   rw [hn3.out] at hxv
   subst hxv
   have HX := hide ho.rd
   have B5 := hide hb
   have C5 := hide cw
   have U5 := hide (B4.out.trans (hb.mono B4.out.size))
   have K1 := hide (same12_any wr _ _ PG.1 (OG4.out.to0 hb) (OQ.out.to0 hb))
   try rw [← hgl.out] at K1
   clear ho hb hH cw
   have hne : (PG.2 != PG.2) = false := by simp
   go_wp2_with fail
   refine K1.out.mono ?_
   rintro e w6 ⟨rfl, b6⟩
   have C6 := hide (C5.out.trans (b6.mono C5.out.size))
   have U6 := hide (U5.out.trans (b6.mono U5.out.size))
   have X6 := hide (HX.out.to0 b6)
   clear K1 b6 HX
   go_wp2_with fail
   refine (unum_any _ _).mono ?_
   rintro e w7 ⟨rfl, rfl⟩
   have K2 := hide (segs_any w6 _ segs (H2.out.to0 C6.out) (by rw [hn2.out]; omega) HSF.out)
   try rw [hn2.out] at K2
   go_wp2_with fail
   refine K2.out.mono ?_
   rintro e w7 ⟨sgv, rfl, os, b7⟩
   have C7 := hide (C6.out.trans (b7.mono C6.out.size))
   have U7 := hide (U6.out.trans (b7.mono U6.out.size))
   have X7 := hide (X6.out.to0 b7)
   have K3 := hide (usegs_any w7 _ segs os.rdS HSM.out (by rw [hn2.out]; omega))
   obtain ⟨ga2, gc2, hsg⟩ := os.rdS.slice
   subst hsg
   try rw [hn2.out] at K3
   try rw [hn2.out]
   clear K2 b7 os X6 C6 U6
   go_wp2_with fail
   refine K3.out.mono ?_
   rintro e w8 ⟨dv, rfl, od, b8⟩
   have C8 := hide (C7.out.trans (b8.mono C7.out.size))
   have U8 := hide (U7.out.trans (b8.mono U7.out.size))
   have X8 := hide (X7.out.to0 b8)
   have OD := hide od.rd
   obtain ⟨da, dc, hdv⟩ := od.rd.slice
   obtain ⟨ul, hul⟩ : ∃ ul, ul = (usgs segs n2).length := ⟨_, rfl⟩
   rw [← hul] at hdv
   replace hul := hide hul
   subst hdv
   have K4 := hide (rsegs12_any w8 _ segs (H2.out.to0 C8.out) HSM.out (by rw [hn2.out]; omega))
   try rw [hn2.out] at K4
   clear K3 b8 od X7 C7 U7
   go_wp2_with fail
   refine K4.out.mono ?_
   rintro e w9 ⟨ev, rfl, oe, b9⟩
   have C9 := hide (C8.out.trans (b9.mono C8.out.size))
   have U9 := hide (U8.out.trans (b9.mono U8.out.size))
   have X9 := hide (X8.out.to0 b9)
   have K5 := hide (same12_any w9 _ _ _ (OD.out.to0 b9) oe.rd)
   obtain ⟨ea, ec, hev⟩ := oe.rd.slice
   rw [← hul.out] at hev
   subst hev
   try rw [← hul.out] at K5
   clear K4 b9 oe X8 C8 U8 OD
   go_wp2_with fail
   refine K5.out.mono ?_
   rintro e w10 ⟨rfl, b10⟩
   have C10 := hide (C9.out.trans (b10.mono C9.out.size))
   have U10 := hide (U9.out.trans (b10.mono U9.out.size))
   have X10 := hide (X9.out.to0 b10)
   have K6 := hide (pranges_any w10 _ dl X10.out (by rw [hn3.out]; omega))
   clear K5 b10 X9 C9 U9
   go_wp2_with fail
   refine K6.out.mono ?_
   rintro e w11 ⟨rv, rfl, orr, b11⟩
   have C11 := hide (C10.out.trans (b11.mono C10.out.size))
   have U11 := hide (U10.out.trans (b11.mono U10.out.size))
   have X11 := hide (X10.out.to0 b11)
   have OR := hide (ownE_rd2 orr)
   obtain ⟨ra1, rc1, hrv⟩ := OR.out.slice
   obtain ⟨rl, hrl⟩ : ∃ rl, rl = (rngs dl).length := ⟨_, rfl⟩
   rw [← hrl] at hrv
   replace hrl := hide hrl
   subst hrv
   have K7 := hide (rranges_any w11 _ dl (H3.out.to0 C11.out) (by rw [hn3.out]; omega))
   try rw [hn3.out] at K7
   clear K6 b11 orr X10 C10 U10
   go_wp2_with fail
   refine K7.out.mono ?_
   rintro e w12 ⟨tv, rfl, ot, b12⟩
   have C12 := hide (C11.out.trans (b12.mono C11.out.size))
   have U12 := hide (U11.out.trans (b12.mono U11.out.size))
   have X12 := hide (X11.out.to0 b12)
   have K8 := hide (sameExt_any w12 _ _ _ _ (OR.out.to0 b12) (ownE_rd2 ot))
   rw [show sameE (rngs dl) (rngs dl) = true by simp [sameE]] at K8
   obtain ⟨ta, tc, htv⟩ := (ownE_rd2 ot).slice
   rw [← hrl.out] at htv
   subst htv
   try rw [← hrl.out] at K8
   clear K7 b12 ot X11 C11 U11 OR
   go_wp2_with fail
   refine K8.out.mono ?_
   rintro e w13 ⟨rfl, nn, hw13⟩
   have b13 : Below w12.heap.size w12 w13 := by rw [hw13]; exact below_drewN' _ _ _
   have C13 := hide (C12.out.trans (b13.mono C12.out.size))
   have U13 := hide (U12.out.trans (b13.mono U12.out.size))
   have K9 := hide (uverdict_any w13 _ dl (X12.out.to0 b13))
   rw [hn3.out] at K9
   clear K8 b13 hw13 C12 U12
   go_wp2_with fail
   refine K9.out.mono ?_
   rintro e w14 ⟨rfl, rfl⟩
   clear K9
   have f0 := (HSd.out _ U13.out).1
   have f1 := (HSd.out _ U13.out).2
   have y0 := (C13.out.cell (cell_lt HD.out.1)).trans HD.out.1
   have y1 := (C13.out.cell (cell_lt HD.out.2)).trans HD.out.2
   have KA := hide (alike_any w13 _ _ _ _ d (RS.out.to0 U13.out) (RC.out.to0 U13.out) (HS.out.to0 C13.out) (HC.out.to0 C13.out))
   try rw [hn0.out, hn00.out] at KA
   have hbe : (decide (0 < k) == decide (0 < k)) = true := by simp
   rcases Nat.eq_zero_or_pos k with hk0 | hk0
   ·subst hk0
    go_wp2_with fail
    refine KA.out.mono ?_
    rintro e w15 ⟨rfl, b15⟩
    have C15 := hide (C13.out.trans (b15.mono C13.out.size))
    clear KA b15 f0 f1 y0 y1
    go_wp2_with fail
    refine (ualive_any _).mono ?_
    rintro e w16 ⟨rfl, b16⟩
    have C16 := hide (BW.out.trans ((C15.out.trans (b16.mono C15.out.size)).mono BW.out.size))
    clear b16
    go_wp2
    go_ret
    exact ⟨rfl, C16.out⟩
   ·have hk0' : (0 : Int) < (k : Int) := Int.ofNat_lt.2 hk0
    rw [decide_eq_true hk0]
    go_wp2_with fail
    refine KA.out.mono ?_
    rintro e w15 ⟨rfl, b15⟩
    have C15 := hide (C13.out.trans (b15.mono C13.out.size))
    clear KA b15 f0 f1 y0 y1
    go_wp2_with fail
    refine (ualive_any _).mono ?_
    rintro e w16 ⟨rfl, b16⟩
    have C16 := hide (BW.out.trans ((C15.out.trans (b16.mono C15.out.size)).mono BW.out.size))
    clear b16
    go_wp2
    go_ret
    exact ⟨rfl, C16.out⟩
set_option maxRecDepth 100000 in
theorem lifted (os : Os) (started : os.Started) (H : Type) (enc : TypeId × Value → H) (F : Stop.Interp) :
  ReturnsInHanded {} Try.checked os 3 .any ((Rows.OpenSpec.upto Rows.scrubTellsSpec).pre6 enc Try.prog Try.f3 Rows.scrubTellsUptoRow.domain false) (((Rows.OpenSpec.upto Rows.scrubTellsSpec).at F).post enc Try.prog Try.f3 false true false false) := by
 refine returnsInHanded_of_cond (C := Try.checked) (s := Rows.OpenSpec.upto Rows.scrubTellsSpec) (k := Rows.uptoSmall) rfl own started (by kernel_rfl) Try.func3
  (OpenSpec.witness (enc := enc) (C := Try.checked) (s := Rows.OpenSpec.upto Rows.scrubTellsSpec) (k := Rows.uptoSmall) rfl false ⟨#[], #[.agg #[.slice none 0 0, .slice none 0 0], .slice none 0 0, .slice none 0 0, .slice none 0 0], []⟩ 8 (by kernel_rfl) (by kernel_rfl) (by kernel_rfl)
   (x := ([.agg [.nil, .nil], .nil, .nil, .nil], [], [])) (by kernel_rfl) rfl (by kernel_rfl)) ?_
 intro W base args ds gs before hval0 hW _ hk _
 have hval : ∀ (j : Nat) t v, Try.f3.params[j]? = some t → args[j]? = some v → Value.okWide Try.prog W .any base t v := hval0
 have hW' := hW
 obtain ⟨p, q, hA0, hV, rfl, hfz, hnd⟩ := hW
 have hA : DataW.TrodAll enc Try.prog W 0 (fun _ => true) true Try.f3.params.toList args.toList ds p := hA0
 rw [Try.params3] at hA hval
 obtain ⟨v0, vs0, d0, ds0, p0, q0, hargs, rfl, rfl, h0, r0⟩ := trodAll_cons hA
 obtain ⟨v1, vs1, d1, ds1, p1, q1, rfl, rfl, rfl, h1, r1⟩ := trodAll_cons r0
 obtain ⟨v2, vs2, d2, ds2, p2, q2, rfl, rfl, rfl, h2, r2⟩ := trodAll_cons r1
 obtain ⟨v3, vs3, d3, ds3, p3, q3, rfl, rfl, rfl, h3, r3⟩ := trodAll_cons r2
 obtain ⟨rfl, rfl, rfl⟩ := trodAll_nil r3
 obtain rfl : args = #[v0, v1, v2, v3] := by cases args; simp_all
 obtain ⟨rfl, rfl⟩ := trodVars_none hV
 obtain ⟨cs0, rfl, _⟩ := okWide_struct Try.underlying25 (hval 0 25 v0 rfl rfl)
 have lt0 : ∀ x ∈ p0, x.block < W.heap.size := by obtain ⟨m, hm⟩ := h0; exact DataW.trod_lt m _ _ _ hm
 have hh0 := h0
 obtain ⟨fu0, hf0⟩ := hh0
 obtain ⟨x0, g0, f0, b0⟩ := open_stateU.opened hf0
 obtain ⟨a1, len1, cap1, rfl⟩ := okWide_slice Try.underlying26 (hval 1 26 v1 rfl rfl)
 have lt1 : ∀ x ∈ p1, x.block < W.heap.size := by obtain ⟨m, hm⟩ := h1; exact DataW.trod_lt m _ _ _ hm
 have hh1 := h1
 obtain ⟨fu1, hf1⟩ := hh1
 obtain ⟨x1, g1, f1, b1⟩ := open_plc.opened hf1
 obtain ⟨a2, len2, cap2, rfl⟩ := okWide_slice Try.underlying27 (hval 2 27 v2 rfl rfl)
 have lt2 : ∀ x ∈ p2, x.block < W.heap.size := by obtain ⟨m, hm⟩ := h2; exact DataW.trod_lt m _ _ _ hm
 have hh2 := h2
 obtain ⟨fu2, hf2⟩ := hh2
 obtain ⟨x2, g2, f2, b2⟩ := open_wsegs.opened hf2
 obtain ⟨a3, len3, cap3, rfl⟩ := okWide_slice Try.underlying28 (hval 3 28 v3 rfl rfl)
 have lt3 : ∀ x ∈ p3, x.block < W.heap.size := by obtain ⟨m, hm⟩ := h3; exact DataW.trod_lt m _ _ _ hm
 have hh3 := h3
 obtain ⟨fu3, hf3⟩ := hh3
 obtain ⟨x3, g3, f3, b3⟩ := open_dmg.opened hf3
 simp only [List.append_nil] at hk
 have m0 := small_of hk (d := d0) (by simp) b0
 have m1 := small_of hk (d := d1) (by simp) b1
 have m2 := small_of hk (d := d2) (by simp) b2
 have m3 := small_of hk (d := d3) (by simp) b3
 clear hA0 hval0
 refine (walk W cs0 x0 g0 m0 a1 len1 cap1 x1 g1 m1 a2 len2 cap2 x2 g2 m2 a3 len3 cap3 x3 g3 m3).mono fun e W' ⟨he, bel⟩ => ?_
 subst he
 exact ⟨_, rfl, _, _, _, [], _, [], hW', trodAll_mk1 (shut_bool Try.underlying4 _), (trodAll_cons_mk (Below.trod laidOut (by kernel_rfl) (of_decide_eq_true (by kernel_rfl)) h0 bel lt0) (trodAll_cons_mk (Below.trod laidOut (by kernel_rfl) (of_decide_eq_true (by kernel_rfl)) h1 bel lt1) (trodAll_cons_mk (Below.trod laidOut (by kernel_rfl) (of_decide_eq_true (by kernel_rfl)) h2 bel lt2) (trodAll_cons_mk (Below.trod laidOut (by kernel_rfl) (of_decide_eq_true (by kernel_rfl)) h3 bel lt3) trodAll_mk0)))), rfl, bel.frame _, fun h => by cases h⟩
theorem over : Rows.scrubTellsUptoRow.holds Try.pinned (Rows.OpenSpec.upto Rows.scrubTellsSpec) :=
 OpenClaim.holds_of_cond 3 Try.f3 rfl rfl rfl rfl rfl rfl rfl ⟨rfl, rfl, rfl, rfl, rfl⟩ rfl rfl rfl rfl rfl (by kernel_rfl) Try.func3 (by kernel_rfl)
  (of_decide_eq_true (by kernel_rfl)) (by unfold Func.isWrapper; first | (rw [if_pos (by decide +kernel)]; kernel_rfl) | (rw [if_neg (by decide +kernel)]; exact ⟨rfl, rfl⟩))
  (fun os started H enc _ F => lifted os started H enc F)
end Go.Proofs.Ytjjicajodjophaa.scrubTells
namespace Go.Proofs.Ytjjicajodjophaa
theorem scrubTells_holds : Rows.ScrubTellsUptoSaid := scrubTells.over
end Go.Proofs.Ytjjicajodjophaa
