/- Several texts in one: ULa ULb UFa LUFind. -/
import Derived.Test.YtjjicajodjophaaGoLUFind4
import Derived.Test.YtjjicajodjophaaGoLUFind3
import Derived.Laws.StructEq
import Derived.Deep.CutRange
import Derived.Test.YtjjicajodjophaaGoLUFind2
import Derived.Test.YtjjicajodjophaaGoLUFind1
set_option linter.unusedVariables false
set_option linter.unusedSimpArgs false
namespace Go.Proofs.Ytjjicajodjophaa
open Go.RowKit
theorem infoBool12 : (Try.prog.info? 4).map (fun i => (i.zero, i.size, i.bytes)) = some (some (.bool false), 1, 1) := by kernel_rfl
def BRow (g n : Nat) (us : List Bool) (w : World) : Prop := w.ownsRow g 4 1 (.slice (some ⟨g, 0, none⟩) n n) n (us.map Value.bool)
theorem make_bools12 {n : Nat} (hn : n ≤ 281474976710656) (u : World) : (Instr.makeSlice 66 (.int .i64 (n : Int)) (.int .i64 (n : Int))).run Try.prog u =
      .ok (.slice (some ⟨u.heap.size, 0, none⟩) n n) (u.alloc (.cells (madeCells #[.bool false] n) 4)) := by
 obtain ⟨i0, hi, hz0, hz1, hz2⟩ := info_parts infoBool12
 have h := run_make (P := Try.prog) u 66 4 i0 (.bool false) Try.underlying66 hi hz0 .i64 .i64 (n : Int) (n : Int) (by omega) (Int.le_refl _) (by rw [hz2]; omega) (by omega)
 simpa [hz1, Value.cells] using h
theorem BRow.made (w : World) (n : Nat) (h : n ≤ 281474976710656) : BRow w.heap.size n (List.replicate n false) (w.alloc (.cells (madeCells #[.bool false] n) 4)) := by
 have := World.ownsRow_lit (base := w.heap.size) (e := 4) (size := 1) w (madeCells #[.bool false] n) n (Nat.le_refl _) (by unfold maxLen; omega) (by simp [madeCells])
 rw [toList_madeCells_one] at this
 unfold BRow
 rw [List.map_replicate]
 exact this
theorem BRow.len {g n : Nat} {us : List Bool} {w : World} (h : BRow g n us w) : us.length = n := by
 have := h.1
 simpa using this
theorem BRow.cell {g n : Nat} {us : List Bool} {w : World} (h : BRow g n us w) {k : Nat} {b : Bool} (hk : us[k]? = some b) : w.cell? ⟨g, k, none⟩ = some (.bool b) :=
 rows_at (rows_base h fun _ _ => Nat.zero_le _) rfl (by rw [List.getElem?_map, hk]; rfl)
theorem BRow.frozen {g n : Nat} {us : List Bool} {w : World} (h : BRow g n us w) (k : Nat) : w.frozen? ⟨g, k, none⟩ = false := by
 exact World.ownsRow.frozenAt h k
theorem BRow.put {g n : Nat} {us : List Bool} {w : World} (h : BRow g n us w) (k : Nat) : BRow g n (us.set k true) (w.setCell ⟨g, k, none⟩ (.bool true)) := by
 have := (World.ownsRow.stored h k (.bool true)).1
 unfold BRow
 rw [List.map_set]
 exact this
theorem BRow.keep {g n : Nat} {us : List Bool} {w w' : World} (h : BRow g n us w) (hb : w'.heap[g]? = w.heap[g]?) : BRow g n us w' := by
 rcases h with ⟨h1, h2 | ⟨b, cap, cur, hv, hB, hg, hr⟩⟩
 ·exact ⟨h1, .inl h2⟩
 ·refine ⟨h1, .inr ⟨b, cap, cur, hv, hB, ?_, hr⟩⟩
  simp only [Value.slice.injEq, Option.some.injEq, Addr.mk.injEq] at hv
  obtain ⟨⟨rfl, _⟩, _⟩ := hv
  rw [hb]; exact hg
theorem BRow.lt {g n : Nat} {us : List Bool} {w : World} (h : BRow g n us w) : g < w.heap.size := (World.ownsRow.lt h g rfl).2
theorem BRow.below {g n B : Nat} {us : List Bool} {w w' : World} (h : BRow g n us w) (hb : Below B w w') (hB : g < B) : BRow g n us w' := h.keep (hb.block g hB)
theorem BRow.to {g n : Nat} {us : List Bool} {w w' : World} (h : BRow g n us w) (hb : Below w.heap.size w w') : BRow g n us w' := h.below hb h.lt
def HitI (us : List Bool) (p : Int → Prop) : Prop := us.length = 310 ∧ ∀ j : Nat, j < 310 → (us[j]? = some true ↔ p (j : Int))
theorem HitI.start {p : Int → Prop} (h : ∀ j, ¬ p j) : HitI (List.replicate 310 false) p := by
 refine ⟨List.length_replicate, fun j hj => ?_⟩
 rw [List.getElem?_replicate, if_pos hj]
 simp [h]
theorem HitI.congr {us : List Bool} {p q : Int → Prop} (h : HitI us p) (hq : ∀ j, q j ↔ p j) : HitI us q := ⟨h.1, fun j hj => by rw [hq]; exact h.2 j hj⟩
theorem HitI.same {us vs : List Bool} {p : Int → Prop} (h : HitI us p) (k : HitI vs p) : us = vs := by
 apply List.ext_getElem? 
 intro j
 by_cases hj : j < 310
 ·have h1 := h.2 j hj
  have h2 := k.2 j hj
  rw [List.getElem?_eq_getElem (by rw [h.1]; exact hj)] at h1 ⊢
  rw [List.getElem?_eq_getElem (by rw [k.1]; exact hj)] at h2 ⊢
  simp only [Option.some.injEq] at h1 h2 ⊢
  exact Bool.eq_iff_iff.2 (h1.trans h2.symm)
 ·rw [List.getElem?_eq_none (by rw [h.1]; omega), List.getElem?_eq_none (by rw [k.1]; omega)]
set_option maxRecDepth 100000 in
theorem unum_any (w : World) (n : Int) : Calls Try.prog 14 #[.int .i64 n] w fun e w' => e = .returned (.int .i64 n) ∧ w = w' := by
 go_enter Try.func14, Try.ntmps14
 go_wp2
 go_ret
 exact ⟨rfl, rfl⟩
theorem rngs_alive : rngs [(1, 0, 4), (1, 0, 8)] = [(4, 8)] := by
 have e : srt (dmAts [(1, 0, 4), (1, 0, 8)]) = [4, 8] := by
  have : dmAts [(1, 0, 4), (1, 0, 8)] = [4, 8] := by decide
  rw [this]
  exact List.mergeSort_of_pairwise (by simp)
 unfold rngs
 rw [e]
 decide
theorem rd_lit3 {w : World} {T g : Nat} {l : List D3} {cs : Array Value} (h : w.heap[g]? = some (.cells cs T (0, 0))) (hc : cs.toList = dcells l) (hl : l.length ≤ 1000) : RdD w (.slice (some ⟨g, 0, none⟩) l.length l.length) l := by
 have hs : cs.size = l.length * 3 := by
  rw [← Array.length_toList, hc]
  clear h hc hl
  induction l with
  | nil => rfl
  | cons x r ih => rw [dcells_cons, List.length_append, ih, List.length_cons]; simp; omega
 refine (OwnD.rd (T := T) (B := 0) ⟨by rw [← hc, Array.length_toList]; exact hs, .inr ⟨g, l.length, cs, rfl, Nat.zero_le _, h, Nat.le_refl _, by unfold maxLen; omega, hs, ?_⟩⟩)
 rw [← hc, List.take_of_length_le (by rw [Array.length_toList]; omega)]
theorem rd_litE {w : World} {g : Nat} {x y : Int} (h : w.heap[g]? = some (.cells #[.int .i64 x, .int .i64 y] 73 (0, 0))) : RdE w (.slice (some ⟨g, 0, none⟩) 1 1) [(x, y)] := by
 exact ownE_rd2 (B := 0) (l := [(x, y)]) ⟨rfl, .inr ⟨g, 1, _, rfl, Nat.zero_le _, h, Nat.le_refl _, by unfold maxLen; omega, rfl, rfl⟩⟩
set_option maxRecDepth 100000 in
set_option maxHeartbeats 2000000 in
theorem ualive_any (w : World) : Calls Try.prog 23 #[] w fun e w' => e = .returned (.bool true) ∧ Below w.heap.size w w' := by
 obtain ⟨A, hA, A0, bA, sA⟩ := boxedN w #[.int .i64 1, .int .i64 0, .int .i64 4, .int .i64 1, .int .i64 0, .int .i64 8] 42
 have KR := hide (pranges_any A _ [(1, 0, 4), (1, 0, 8)] (rd_lit3 A0 rfl (by simp)) (by simp))
 rw [rngs_alive] at KR
 simp only [List.length_cons, List.length_nil, Nat.zero_add, Nat.reduceAdd] at KR
 have HB := hide bA
 rw [hA] at KR
 clear A0 bA
 go_enter Try.func23, Try.ntmps23
 go_wp2_with fail
 refine KR.out.mono ?_
 rw [← hA]
 rintro e w1 ⟨v1, rfl, o1, b1⟩
 have B1 := hide (HB.out.trans (b1.mono HB.out.size))
 obtain ⟨C, hC, C0, bC, sC⟩ := boxedN w1 #[.int .i64 4, .int .i64 8] 73
 have KS := hide (sameExt_any C v1 _ [(4, 8)] [(4, 8)] ((ownE_rd2 o1).to0 bC) (rd_litE C0))
 rw [show sameE [(4, 8)] [(4, 8)] = true by simp [sameE]] at KS
 obtain ⟨va, vc, rfl⟩ := (ownE_rd2 o1).slice
 have HC := hide (B1.out.trans (bC.mono B1.out.size))
 rw [hC] at KS
 clear KR o1 b1 C0 bC B1 HB
 go_wp2_with fail
 refine KS.out.mono ?_
 rw [← hC]
 rintro e w2 ⟨rfl, n2, hw2⟩
 have B2 := hide (HC.out.trans ((show Below C.heap.size C w2 by rw [hw2]; exact below_drewN' _ _ _).mono HC.out.size))
 obtain ⟨D, hD, D0, bD, sD⟩ := boxedN w2 #[.int .i64 2, .int .i64 0, .int .i64 0] 42
 have KV := hide (uverdict_any D _ [(2, 0, 0)] (rd_lit3 D0 rfl (by simp)))
 have KN := hide (uverdict_any D (.slice none 0 0) [] (RdS.nil _ _))
 simp only [List.length_cons, List.length_nil, Nat.zero_add, Nat.reduceAdd, Nat.lt_irrefl, decide_false, Nat.lt_add_one, Nat.zero_lt_one, decide_true] at KV KN
 have BD := hide (B2.out.trans (bD.mono B2.out.size))
 rw [hD] at KV KN
 clear KS D0 bD B2 HC hw2
 go_wp2_with fail
 refine KV.out.mono ?_
 rintro e w3 ⟨rfl, hw3⟩
 rw [← hw3]
 clear hw3
 go_wp2_with fail
 refine KN.out.mono ?_
 rintro e w4 ⟨rfl, hw4⟩
 rw [← hw4]
 clear hw4
 go_wp2
 go_ret
 rw [← hD]
 exact ⟨rfl, BD.out⟩
end Go.Proofs.Ytjjicajodjophaa

namespace Go.Proofs.Ytjjicajodjophaa
open Go.ChangeShapes Go.WideShapes Go.ChangeAt Go.RowKit
abbrev TPP : Nat := 64
theorem infoPP : (Try.prog.info? 64).map (fun i => (i.zero, i.size, i.bytes)) = some (some (.agg #[.int .i64 0, .int .i64 0]), 2, 16) := by kernel_rfl
end Go.Proofs.Ytjjicajodjophaa

namespace Go.Proofs.Ytjjicajodjophaa
open Go.ChangeShapes Go.WideShapes Go.ChangeAt Go.RowKit
def pls (k : Nat) : List Ext := (List.range k).map fun (i : Nat) => (4 * (i : Int), (i : Int))
theorem pls_succ (k : Nat) : pls (k + 1) = pls k ++ [(4 * (k : Int), (k : Int))] := by simp [pls, List.range_succ]
theorem pls_len (k : Nat) : (pls k).length = k := by simp [pls]
def badL (bad : List Bool) (k : Nat) : List D3 := (List.range k).flatMap fun (i : Nat) => if bad[i]? = some true then [(1, (i : Int), 4 * (i : Int))] else []
theorem badL_succ (bad : List Bool) (k : Nat) : badL bad (k + 1) = badL bad k ++ (if bad[k]? = some true then [(1, (k : Int), 4 * (k : Int))] else []) := by simp [badL, List.range_succ]
theorem badL_yes {bad : List Bool} {k : Nat} (h : bad[k]? = some true) : badL bad (k + 1) = badL bad k ++ [(1, (k : Int), 4 * (k : Int))] := by rw [badL_succ, if_pos h]
theorem badL_no {bad : List Bool} {k : Nat} (h : bad[k]? = some false) : badL bad (k + 1) = badL bad k := by rw [badL_succ, if_neg (by rw [h]; simp), List.append_nil]
theorem badL_len (bad : List Bool) : ∀ k, (badL bad k).length ≤ k
 | 0 => by simp [badL]
 | k + 1 => by
  have := badL_len bad k
  rw [badL_succ, List.length_append]
  split <;> simp <;> omega
theorem badL_at {bad : List Bool} {i : Nat} (h : bad[i]? = some true) : ∀ m : Nat, (badL bad (i + 1 + m))[(badL bad i).length]? = some (1, (i : Int), 4 * (i : Int))
 | 0 => by rw [Nat.add_zero, badL_yes h, List.getElem?_append_right (Nat.le_refl _)]; simp
 | m + 1 => by
  have := badL_at h m
  rw [show i + 1 + (m + 1) = i + 1 + m + 1 by omega, badL_succ, List.getElem?_append_left (List.getElem?_eq_some_iff.1 this).1]
  exact this
theorem FI2.told {n : Nat} {xs : List (List UInt8)} {d : Dsk} {bad : List Bool} (h : FI2 n xs d bad) (hn : n ≤ 10) (hx : n ≤ xs.length) : ∀ k, k ≤ n → upgs d (pls k) = badL bad k
 | 0, _ => by simp [pls, badL, upgs]
 | k + 1, hk => by
  have ih := h.told hn hx k (by omega)
  obtain ⟨x, hx9⟩ : ∃ x, xs[k]? = some x := ⟨xs[k]'(by omega), List.getElem?_eq_getElem _⟩
  have hr := h.read hn (k := k) (by omega) hx9
  rw [pls_succ, badL_succ, ← ih]
  unfold upgs
  rw [List.flatMap_append]
  congr 1
  rw [List.flatMap_singleton]
  unfold dmPg
  dsimp only
  obtain ⟨b, hb⟩ : ∃ b, bad[k]? = some b := ⟨bad[k]'(by rw [h.b]; omega), List.getElem?_eq_getElem _⟩
  rw [hb] at hr
  cases b with
  | true => rw [if_neg (by rw [hr]; simp), if_pos hb]
  | false => rw [if_pos (hr.2 rfl), if_neg (by rw [hb]; simp)]
theorem FI2.tells {n : Nat} {xs : List (List UInt8)} {d : Dsk} {bad : List Bool} (h : FI2 n xs d bad) (hn : n ≤ 10) (hx : n ≤ xs.length) : upg d (pls n) = (badL bad n, 0) := by
 unfold upg
 rw [if_neg (by rw [dcheck_ok h.ok]; simp), if_neg (by rw [pls_len]; omega), h.told hn hx n (Nat.le_refl _)]
structure DBox (g : Nat) (w : World) (d : Dsk) : Prop where
 st : ∃ s c, w.heap[g]? = some (.cells #[s, c] 31 (0, 0)) ∧ ∃ F, OwnF SStP F w [s, c] d ∧ g ∉ F
theorem DBox.to {g : Nat} {w w' : World} {d : Dsk} (h : DBox g w d) (hb : Below w.heap.size w w') : DBox g w' d := by
 obtain ⟨s, c, h1, F, h2, h3⟩ := h.st
 exact ⟨s, c, (hb.block g (lt_of_block h1)).trans h1, F, h2.to hb, h3⟩
theorem DBox.lt {g : Nat} {w : World} {d : Dsk} (h : DBox g w d) : g < w.heap.size := by
 obtain ⟨s, c, h1, _⟩ := h.st
 exact lt_of_block h1
theorem DBox.new {w : World} {d : Dsk} {s c : Value} {B : Nat} (o : Own SStP B w [s, c] d) : DBox w.heap.size (w.alloc (.cells #[s, c] 31)) d := by
 obtain ⟨F, h1, h2⟩ := o.foot
 have bb : Below w.heap.size w (w.alloc (.cells #[s, c] 31)) := (Below.refl _ _).alloc (Nat.le_refl _) _
 exact ⟨s, c, heap_alloc_last w _, F, h1.to bb, fun h => by have := h1.lt _ h; omega⟩
theorem DBox.set {g : Nat} {w : World} {d : Dsk} (h : DBox g w d) {a : Addr} (hg : a.block ≠ g) {T : Nat} {cs : Array Value} {fr : Nat × Nat} (hF : ∀ s c F, w.heap[g]? = some (.cells #[s, c] 31 (0, 0)) → OwnF SStP F w [s, c] d → a.block ∉ F) (u : Value) : DBox g (w.setCell a u) d := by
 obtain ⟨s, c, h1, F, h2, h3⟩ := h.st
 exact ⟨s, c, (Below.heap_setCell _ _ _ _ (Ne.symm hg)).trans h1, F, h2.set (hF s c F h1 h2) u, h3⟩
theorem DBox.over {g C : Nat} {wx : World} {d' : Dsk} {s c : Value} (hb : ∃ x y, wx.heap[g]? = some (.cells #[x, y] 31 (0, 0))) (o : Own SStP C wx [s, c] d') (hC : g < C) :
  DBox g ((wx.setCell ⟨g, 0, none⟩ s).setCell ⟨g, 1, none⟩ c) d' ∧ ∀ e, e ≠ 31 → KeepT e wx ((wx.setCell ⟨g, 0, none⟩ s).setCell ⟨g, 1, none⟩ c) := by
 obtain ⟨x, y, r⟩ := hb
 obtain ⟨F, h1, h2⟩ := o.foot
 have nb : g ∉ F := fun hh => by have := h2 g hh; omega
 refine ⟨⟨s, c, heap_set2 r _ _, F, (h1.set (a := ⟨g, 0, none⟩) nb _).set (a := ⟨g, 1, none⟩) nb _, nb⟩, fun e he b cur fr z => ?_⟩
 have hbg : b ≠ g := fun q => by
  rw [q, r] at z
  simp only [Option.some.injEq, Obj.cells.injEq] at z
  exact he z.2.1.symm
 exact (Below.heap_setCell _ _ _ _ hbg).trans ((Below.heap_setCell _ _ _ _ hbg).trans z)
theorem step_apP2 {ops : Array Oper} {o : Oper} {a : Act} {w : World} {K : Act → World → Prop} {Q : Exit → Act → World → Prop} {E : Prop} (hgd : o.guard = none) (s x : Operand)
  (ho : o.op = .call { callee := .builtin .append, args := #[s, x], argTypes := #[37, 37] }) (B : Nat) (v : Value) (xs : List Ext) (y : Ext) (g : Nat) (hs : a.eval s = v) (hx : a.eval x = .slice (some ⟨g, 0, none⟩) 1 1)
  (hown : OwnP2 TPP B w v xs) (hc1 : w.cell? ⟨g, 0, none⟩ = some (.int .i64 y.1)) (hc2 : w.cell? ⟨g, 1, none⟩ = some (.int .i64 y.2)) (hlen : (xs.length + 1) * 16 ≤ 140737488355328) (hB : B ≤ w.heap.size)
  (h : ∀ v' w', OwnP2 TPP B w' v' (xs ++ [y]) → Below B w w' → w.grownBy w' v.ownBlock → K (a.put o.dst v') w') : if Region.wanted o (yielded ops a.tmps) = true then Oper.wp Try.prog o a w K Q else E := by
 rw [if_pos (by simp [Region.wanted, hgd])]
 obtain ⟨i0, hi, hz0, hz1, hz2⟩ := info_parts infoPP
 have n2 : ∀ j u, (ecells [y])[j]? = some u → w.cell? ((⟨g, 0, none⟩ : Addr).add j) = some u := by
  intro j u hj
  match j, hj with
  | 0, hj => simp [ecells] at hj; subst hj; simpa [Addr.add] using hc1
  | 1, hj => simp [ecells] at hj; subst hj; simpa [Addr.add] using hc2
  | j + 2, hj => simp [ecells] at hj
 refine wp_append_own _ s x 37 ho B 64 i0 (.agg #[.int .i64 0, .int .i64 0]) 2 16 Try.underlying37 hi hz0 hz1 hz2 rfl (by decide) v xs.length (ecells xs) hs hown ⟨g, 0, none⟩ 1 1 (ecells [y]) hx rfl n2 (ecells_one [y])
  (by rw [show maxLen = 9223372036854775807 from rfl]; omega) hlen hB ?_
 intro v' w' h1 h2 _
 refine h v' w' ?_ ((Below.refl _ _).grown h2 hB (fun k hk => (World.ownsRow.lt hown k hk).1)) h2
 unfold OwnP2
 rw [ecells_app, List.length_append]
 simpa using h1
abbrev RotD : Type := Int × (Int × Int)
abbrev SRot : Shp RotD := (Shp.int .i64).pair ((Shp.int .i64).pair (Shp.int .u8))
abbrev SRots : Shp (List RotD) := Shp.list 68 SRot
set_option maxRecDepth 100000 in
theorem open_rot : Opens SRot 68 (fun z => True ∧ (True ∧ (Lit.int .u8 z.2.2).wf = true)) (fun _ => 1 + (1 + 1)) :=
 Opens.three (opens_int Try.underlying3 (by kernel_rfl)) (opens_int Try.underlying3 (by kernel_rfl)) (opens_intw Try.underlying5 (by kernel_rfl)) Try.underlying68 (by kernel_rfl) rfl rfl rfl
set_option maxRecDepth 100000 in
theorem open_rots : Opens SRots 58 (fun xs => xs.length * 24 ≤ 140737488351232 ∧ ∀ z ∈ xs, True ∧ (True ∧ (Lit.int .u8 z.2.2).wf = true)) (fun xs => (xs.map (fun _ => 1 + (1 + 1))).sum) :=
 open_rot.list Try.underlying58 (by kernel_rfl) (by kernel_rfl) (by decide)
theorem RdS.rot {w : World} {a : Option Addr} {n cap : Nat} {l : List RotD} (h : RdS SRot w (.slice a n cap) l) {i : Nat} {x : RotD} (hx : l[i]? = some x) :
  ∃ b off, a = some ⟨b, off, none⟩ ∧ w.cell? ⟨b, off + i * 3, none⟩ = some (.int .i64 x.1) ∧ w.cell? ⟨b, off + i * 3 + 1, none⟩ = some (.int .i64 x.2.1) ∧ w.cell? ⟨b, off + i * 3 + 2, none⟩ = some (.int .u8 x.2.2) := by
 obtain ⟨ao, c, e, h1, h2, h3, h4⟩ := h
 cases e
 rcases h4 with rfl | ⟨b, off, rfl, hc⟩
 ·simp at hx
 ·obtain ⟨c, ⟨c1, c2, rfl, k1, ⟨c3, c4, rfl, k3, k4⟩⟩, k2⟩ := hc i x hx
  have e1 : c1 = [Value.int .i64 x.1] := k1
  have e3 : c3 = [Value.int .i64 x.2.1] := k3
  have e4 : c4 = [Value.int .u8 x.2.2] := k4
  subst e1 e3 e4
  have hn : SRot.n = 3 := rfl
  rw [hn] at k2
  exact ⟨b, off, rfl, by simpa using k2 0 _ rfl, by simpa using k2 1 _ rfl, by simpa using k2 2 _ rfl⟩
theorem bits_u8 {z : Int} (h : (Lit.int .u8 z).wf = true) : ∃ c : UInt8, (c.toNat : Int) = z := by
 have hz : 0 ≤ z ∧ z ≤ 255 := by simpa [Lit.wf, IntKind.min, IntKind.max, IntKind.signed, IntKind.bits] using h
 refine ⟨UInt8.ofNat z.toNat, ?_⟩
 rw [UInt8.toNat_ofNat', Nat.mod_eq_of_lt (by omega)]
 omega
theorem DBox.over3 {g gb C n p : Nat} {wx : World} {d' : Dsk} {s c : Value} {bad : List Bool} (hb : ∃ x y, wx.heap[g]? = some (.cells #[x, y] 31 (0, 0))) (o : Own SStP C wx [s, c] d') (hC : g < C) (hgb : gb < C) (hne : g ≠ gb) (hr : BRow gb n bad wx) :
  DBox g (((wx.setCell ⟨g, 0, none⟩ s).setCell ⟨g, 1, none⟩ c).setCell ⟨gb, p, none⟩ (.bool true)) d' ∧ BRow gb n (bad.set p true) (((wx.setCell ⟨g, 0, none⟩ s).setCell ⟨g, 1, none⟩ c).setCell ⟨gb, p, none⟩ (.bool true)) ∧
   (∀ e, e ≠ 31 → e ≠ 4 → KeepT e wx (((wx.setCell ⟨g, 0, none⟩ s).setCell ⟨g, 1, none⟩ c).setCell ⟨gb, p, none⟩ (.bool true))) ∧
   ((wx.setCell ⟨g, 0, none⟩ s).setCell ⟨g, 1, none⟩ c).frozen? ⟨gb, p, none⟩ = false ∧ ∀ b, bad[p]? = some b → ((wx.setCell ⟨g, 0, none⟩ s).setCell ⟨g, 1, none⟩ c).cell? ⟨gb, p, none⟩ = some (.bool b) := by
 obtain ⟨x, y, r⟩ := hb
 obtain ⟨F, h1, h2⟩ := o.foot
 have nb : g ∉ F := fun hh => by have := h2 g hh; omega
 have ng : gb ∉ F := fun hh => by have := h2 gb hh; omega
 have hr2 : BRow gb n bad ((wx.setCell ⟨g, 0, none⟩ s).setCell ⟨g, 1, none⟩ c) := hr.keep ((Below.heap_setCell _ ⟨g, 1, none⟩ _ gb (Ne.symm hne)).trans (Below.heap_setCell _ ⟨g, 0, none⟩ _ gb (Ne.symm hne)))
 refine ⟨⟨s, c, ?_, F, ((h1.set (a := ⟨g, 0, none⟩) nb _).set (a := ⟨g, 1, none⟩) nb _).set (a := ⟨gb, p, none⟩) ng _, nb⟩, hr2.put p, fun e he he2 b cur fr z => ?_, hr2.frozen p, fun b hb => hr2.cell hb⟩
 ·rw [Below.heap_setCell _ ⟨gb, p, none⟩ _ g hne]
  exact heap_set2 r _ _
 ·have hbg : b ≠ g := fun q => by
   rw [q, r] at z
   simp only [Option.some.injEq, Obj.cells.injEq] at z
   exact he z.2.1.symm
  have hbb : b ≠ gb := fun q => by
   rcases hr.2 with ⟨q1, _⟩ | ⟨g', cap, cur', hv, _, hg', _⟩
   ·cases q1
   ·simp only [Value.slice.injEq, Option.some.injEq, Addr.mk.injEq] at hv
    obtain ⟨⟨e1, _⟩, _⟩ := hv
    rw [← e1, ← q, z] at hg'
    simp only [Option.some.injEq, Obj.cells.injEq] at hg'
    exact he2 hg'.2.1
  exact (Below.heap_setCell _ _ _ _ hbb).trans ((Below.heap_setCell _ _ _ _ hbg).trans ((Below.heap_setCell _ _ _ _ hbg).trans z))
theorem neq_dP (a b c : Int) (w : World) : (binOp .neq 42 (.agg #[.int .i64 a, .int .i64 b, .int .i64 c]) (.agg #[.int .i64 a, .int .i64 b, .int .i64 c])).run Try.prog w = .ok (.bool false) w := by
 have e1 : Try.prog.underlying 42 = some (.struct (Try.prog.fieldsOf 42)) := by kernel_rfl
 have e2 : Try.prog.stoodInHeld 42 = false := by kernel_rfl
 rw [run_neq_struct, run_equalIn_struct w 9999 _ _ _ e1 e2]
 have e3 : (Try.prog.fieldsOf 42).toList.map (fun f => (f.name == "_", f.type, f.offset)) = [(false, 3, 0), (false, 3, 1), (false, 3, 2)] := by kernel_rfl
 have e4 : Try.prog.underlying 3 = some (.int .i64) := by kernel_rfl
 have p0 : ∀ x y z : Value, (part 3 #[x, y, z] 0).run Try.prog w = .ok x w := fun x y z => by kernel_rfl
 have p1 : ∀ x y z : Value, (part 3 #[x, y, z] 1).run Try.prog w = .ok y w := fun x y z => by kernel_rfl
 have p2 : ∀ x y z : Value, (part 3 #[x, y, z] 2).run Try.prog w = .ok z w := fun x y z => by kernel_rfl
 have e5 : ∀ x : Int, (Op.equalIn 9999 3 (.int .i64 x) (.int .i64 x)).run Try.prog w = .ok true w := fun x => by
  rw [run_equalIn_int w 9998 _ _ _ _ _ e4]; simp
 generalize (Try.prog.fieldsOf 42).toList = fs at e3 ⊢
 rcases fs with _ | ⟨f0, _ | ⟨f1, _ | ⟨f2, _ | ⟨f3, r⟩⟩⟩⟩ <;> simp at e3
 obtain ⟨⟨a1, a2, a3⟩, ⟨b1, b2, b3⟩, c1, c2, c3⟩ := e3
 simp only [Op.eqFields, a1, a2, a3, b1, b2, b3, c1, c2, c3, ne_eq, not_false_eq_true, if_true, Sem.run_bind, p0, p1, p2, e5, Result.andThen_ok, Sem.run_ite, Sem.run_pure]
 rfl
theorem eqg_dP (op : BinOp) (x y : Operand) (a b : Array Value) (w : World) : (eqGuard op 42 x y (.agg a) (.agg b)).run Try.prog w = .ok () w :=
 run_eqGuard_agg w op _ x y a b (by kernel_rfl)
end Go.Proofs.Ytjjicajodjophaa

namespace Go.Proofs.Ytjjicajodjophaa.scrubFinds
open Go.ChangeShapes Go.WideShapes Go.ChangeAt Go.RowKit
structure L1 (w : World) (g n : Nat) (xs : List (List UInt8)) (wr : World) (v : Value) (k : Nat) (d : Dsk) : Prop where
 fi : FI1 n xs d k
 bx : DBox g wr d
 pl : OwnP2 TPP g wr v (pls k)
 bel : Below w.heap.size w wr
structure L2 (w : World) (g gb n : Nat) (xs : List (List UInt8)) (wr : World) (v : Value) (d : Dsk) (bad : List Bool) : Prop where
 fi : FI2 n xs d bad
 bx : DBox g wr d
 br : BRow gb n bad wr
 pl : OwnP2 TPP g wr v (pls n)
 bel : Below w.heap.size w wr
set_option maxRecDepth 100000 in
set_option maxHeartbeats 16000000 in
theorem walk (w : World) (a0 : Option Addr) (len0 cap0 : Nat) (x0 : List (List UInt8)) (g0 : SSec.rd w [.slice a0 len0 cap0] x0) (m0 : x0.length * 24 ≤ 140737488351232 ∧ ∀ x ∈ x0, x.length ≤ 140737488351232) (a1 : Option Addr) (len1 cap1 : Nat) (rl : List RotD) (g1 : SRots.rd w [.slice a1 len1 cap1] rl) (m1 : rl.length * 24 ≤ 140737488351232 ∧ ∀ z ∈ rl, True ∧ (True ∧ (Lit.int .u8 z.2.2).wf = true)) :
  Calls Try.prog 4 #[.slice a0 len0 cap0, .slice a1 len1 cap1] w fun e w' => e = .returned (.bool true) ∧ Below w.heap.size w w' := by
 obtain ⟨v0, e0, h0⟩ := g0
 obtain ⟨v1, e1, h1⟩ := g1
 simp only [List.cons.injEq, and_true] at e0 e1
 subst e0 e1
 obtain ⟨_, _, e0⟩ := h0.slice
 obtain ⟨_, _, e1⟩ := h1.slice
 cases e0; cases e1
 obtain ⟨n, hn, hn10, hnx⟩ : ∃ n : Nat, min (x0.length : Int) 10 = (n : Int) ∧ n ≤ 10 ∧ n ≤ x0.length := ⟨min x0.length 10, by omega, by omega, by omega⟩
 have hn10' : (n : Int) ≤ 10 := by omega
 have hnx' : (n : Int) ≤ (x0.length : Int) := by omega
 obtain ⟨M, hM⟩ : ∃ M, M = 4 * n + 1 := ⟨_, rfl⟩
 have hnew : Hid (dnew (M : Int) = ((z64s M, []), 0)) := dnew_yes (by omega) (by omega)
 have hMi : (M : Int) = 4 * (n : Int) + 1 := by omega
 have lb0 : x0.length ≤ 140737488351232 := by have := m0.1; omega
 have lb1 : rl.length ≤ 140737488351232 := by have := m1.1; omega
 have M0 := hide m0.2
 have M1 := hide m1.2
 have R0 := hide h0
 have R1 := hide h1
 obtain ⟨XN, hXN⟩ : ∃ XN, x0.length = XN := ⟨_, rfl⟩
 obtain ⟨RN, hRN⟩ : ∃ RN, rl.length = RN := ⟨_, rfl⟩
 rw [hXN] at hn hnx hnx' lb0 R0 ⊢
 rw [hRN] at lb1 R1 ⊢
 replace hXN := hide hXN
 replace hRN := hide hRN
 clear m0 m1 h0 h1
 go_enter Try.func4, Try.ntmps4
 go_wp2_with fail
 refine (ualive_any w).mono ?_
 rintro e w1 ⟨rfl, cc⟩
 go_upto_region 3 with fail
 go_cut [5] from 25 to 28 (fun s wx => s = .int .i64 (n : Int) ∧ w1 = wx)
 case first =>
  go_wp2_with fail
  all_goals (go_meet; exact ⟨by congr 1 <;> omega, rfl⟩)
 case rest =>
 obtain ⟨rfl, rfl⟩ := hcut
 have KK := hide (dnew_any w1 M)
 rw [hnew.out, hMi] at KK
 replace hM := hide hM
 clear hMi hn
 go_wp2_with fail
 refine KK.out.mono ?_
 rintro e w2 ⟨s, c, rfl, o, bb⟩
 clear KK hnew
 try dsimp only at o
 obtain ⟨al, cl, ac, cd, hv, hv2⟩ : ∃ al cl ac cd, s = .slice al M cl ∧ c = .slice ac 0 cd := by
  obtain ⟨FT, hFT, _⟩ := o.foot
  have := own_form' hFT
  simpa [z64s_len] using this
 subst hv hv2
 replace cc := cc.trans (bb.mono cc.size)
 have DB := DBox.new o
 obtain ⟨gD, hgD⟩ : ∃ g, g = w2.heap.size := ⟨_, rfl⟩
 have hgw : w.heap.size ≤ gD := by rw [hgD]; exact cc.size
 obtain ⟨U, hU⟩ : ∃ U, U = w2.alloc (.cells #[.slice al M cl, .slice ac 0 cd] 31) := ⟨_, rfl⟩
 have bU : Below w2.heap.size w2 U := by rw [hU]; exact (Below.refl _ _).alloc (Nat.le_refl _) _
 rw [← hU, ← hgD] at DB
 have H0 : Hid (L1 w gD n x0 U (.slice none 0 0) 0 (z64s M, [])) := ⟨by rw [hM.out]; exact FI1.start hn10 x0, DB, World.ownsRow_nil _ _ _ _, cc.trans (bU.mono cc.size)⟩
 clear DB cc o bU bb
 go_wp2
 rw [← hU, ← hgD]
 replace hU := hide hU
 clear hgD
 go_loopw [8, 9] (fun l a wr => ∃ (i : Nat) (v : Value) (d : Dsk), v = l ∧ i ≤ n ∧ a = .int .i64 i ∧ Hid (L1 w gD n x0 wr v i d)) (fun _ a _ => n - (intOf a).toNat)
 case atStart => exact ⟨0, _, _, rfl, Nat.zero_le _, rfl, H0⟩
 case round =>
  obtain ⟨i, v, d, rfl, hi, rfl, hH⟩ := hrel
  clear H0
  by_cases hlt : i < n
  ·have j1 : (i : Int) < (n : Int) := by omega
   have j2 : (i : Int) < (XN : Int) := by omega
   have hI := hH.out
   obtain ⟨X, hX, hXm⟩ := some_at x0 (k := i) (by rw [hXN.out]; omega)
   have hXl := M0.out X hXm
   obtain ⟨bx, ox, ux, rfl, hcx0, hrx⟩ := R0.out.oct hX
   have hcx := (hI.bel.cell (cell_lt hcx0)).trans hcx0
   clear hcx0
   obtain ⟨ad, cdd, rfl⟩ := hrx.slice
   obtain ⟨l, hl, hl2⟩ : ∃ l : Nat, min (X.length : Int) 244 = (l : Int) ∧ l = min X.length 244 := ⟨min X.length 244, by omega, rfl⟩
   have fx0 := rd_take hrx (n := l) (by omega)
   have cx : (l : Int) ≤ (cdd : Int) := by have := rd_cap hrx; omega
   obtain ⟨Y, hY⟩ : ∃ Y, Y = cutX X := ⟨_, rfl⟩
   have fx : Rd w (.slice ad l cdd) Y := by rw [hY]; unfold cutX; rw [← hl2]; exact fx0
   have hYl : Hid (Y.length = l) := by show _ = _; rw [hY, cutX_len, hl2]
   obtain ⟨d', hput, hP'⟩ := hI.fi.put hn10 hlt hX
   rw [← hY] at hput
   obtain ⟨XL, hXL⟩ : ∃ XL, X.length = XL := ⟨_, rfl⟩
   rw [hXL] at hcx hl hXl
   have HM := hide (And.intro hput hP')
   have HF := hide fx
   have hif : (if (244 : Int) < (XL : Int) then 244 else (XL : Int)) = (l : Int) := by split <;> omega
   have hwp1 : IntKind.i64.wrap (4 * (i : Int)) = 4 * (i : Int) := by rw [IntKind.wrap_i64]; omega
   clear hput hP' fx fx0 hrx hY hX hXm hXL hl2
   obtain ⟨s, c, hrow, F, hF, nb⟩ := hI.bx.st
   obtain ⟨al5, cl5, ac5, cd5, hv, hv2⟩ : ∃ al cl ac cd, s = .slice al d.1.length cl ∧ c = .slice ac d.2.length cd := own_form' hF
   subst hv hv2
   obtain ⟨P1, P2⟩ := Own.fst (c := [.slice al5 d.1.length cl5]) (d := [.slice ac5 d.2.length cd5]) (show Own SStP 0 wr [.slice al5 d.1.length cl5, .slice ac5 d.2.length cd5] d from ⟨F, hF.1, hF.2, fun _ _ => Nat.zero_le _⟩) rfl
   have r5 := P1.rdS
   have q5 := P2.rdS
   clear P1 P2
   obtain ⟨A0, A1, _, _⟩ := row2_cells hrow
   have HRW := hide hrow
   obtain ⟨dl1, hd1⟩ : ∃ k, d.1.length = k := ⟨_, rfl⟩
   obtain ⟨dl2, hd2⟩ : ∃ k, d.2.length = k := ⟨_, rfl⟩
   rw [hd1] at A0 r5 HRW
   rw [hd2] at A1 q5 HRW
   have bd : Below wr.heap.size wr wr.drew := (Below.refl _ _).drew
   have KW : Hid (∀ w9, Below wr.heap.size wr w9 → Calls Try.prog 25 #[.agg #[.slice al5 dl1 cl5, .slice ac5 dl2 cd5], .int .i64 (4 * (i : Int)), .int .i64 (i : Int), .slice ad l cdd] w9 fun e w6 => ∃ (al6 : Option Addr) (cl6 : Nat) (ac6 : Option Addr) (cd6 dl3 dl4 : Nat), e = .returned (.tuple #[.agg #[.slice al6 dl3 cl6, .slice ac6 dl4 cd6], .int .i64 0]) ∧ Hid (Own SStP w9.heap.size w6 [.slice al6 dl3 cl6, .slice ac6 dl4 cd6] d') ∧ Hid (Below w9.heap.size w9 w6)) := fun w9 b9 => by
    have K0 := ppgwrite_any w9 _ _ (.slice ad l cdd) d (4 * (i : Int)) (i : Int) Y (r5.to0 b9) (q5.to0 b9) (HF.out.to (hH.out.bel.trans (b9.mono hH.out.bel.size)))
    rw [HM.out.1] at K0
    dsimp only at K0
    refine K0.mono ?_
    rintro e w6 ⟨s, c, rfl, o, bb⟩
    obtain ⟨P1, P2⟩ := Own.fst (c := [s]) (d := [c]) o rfl
    obtain ⟨al6, cl6, hv⟩ := P1.rdS.slice
    obtain ⟨ac6, cd6, hv2⟩ := P2.rdS.slice
    subst hv hv2
    exact ⟨al6, cl6, ac6, cd6, _, _, rfl, o, bb⟩
   have HS : Hid (∀ w9, Below wr.heap.size wr w9 → w9.cell? ⟨gD, 0, none⟩ = some (.slice al5 dl1 cl5) ∧ w9.cell? ⟨gD, 1, none⟩ = some (.slice ac5 dl2 cd5) ∧ w9.cell? ⟨bx, ox + i, none⟩ = some (.slice ad XL cdd)) := fun w9 b9 => ⟨(b9.cell (cell_lt A0)).trans A0, (b9.cell (cell_lt A1)).trans A1, (b9.cell (cell_lt hcx)).trans hcx⟩
   have b0 := bd
   replace hlt := hide hlt
   clear hrow hF nb r5 q5 hd1 hd2 hI A0 A1 hcx
   go_upto_region 9 with fail
   go_cut [10, 11] from 35 to 69 (fun pp ff wx => ∃ (g9 : Nat) (s6 c6 : Value), pp = .pointer (some ⟨g9, 0, none⟩) ∧ ff = .int .i64 0 ∧ Hid (wx.heap[g9]? = some (.cells #[s6, c6] 31 (0, 0)) ∧ Own SStP wr.heap.size wx [s6, c6] d' ∧ Below wr.heap.size wr wx ∧ wr.heap.size ≤ g9))
   case first =>
    clear HM R0 R1 M0 M1 hH HRW
    refine wp_region_fan (fun w9 => w9.cell? ⟨gD, 0, none⟩ = some (.slice al5 dl1 cl5) ∧ w9.cell? ⟨gD, 1, none⟩ = some (.slice ac5 dl2 cd5) ∧ w9.cell? ⟨bx, ox + i, none⟩ = some (.slice ad XL cdd)) 21 mixed (by simp) ?_
    generalize wr.drew = c0 at *
    refine fan_take (i := 0) (v := ?_) rfl (by kernel_rfl) (fun _ _ _ _ h => h) (by kernel_rfl) (HS.out _ b0) ?_ ?_
    rotate_left
    ·rintro w9 ⟨t0, t1, t2⟩
     go_simp
     try with_reducible rfl
    try simp only [List.getElem_toArray, List.getElem_cons_succ, List.getElem_cons_zero, List.getElem?_toArray, List.getElem?_cons_succ, List.getElem?_cons_zero, Act.put, List.setIfInBounds_toArray, List.set_cons_zero, List.set_cons_succ]
    refine fan_take (i := 1) (v := ?_) rfl (by kernel_rfl) (fun _ _ _ _ h => h) (by kernel_rfl) (HS.out _ b0) ?_ ?_
    rotate_left
    ·rintro w9 ⟨t0, t1, t2⟩
     go_simp
     try with_reducible rfl
    try simp only [List.getElem_toArray, List.getElem_cons_succ, List.getElem_cons_zero, List.getElem?_toArray, List.getElem?_cons_succ, List.getElem?_cons_zero, Act.put, List.setIfInBounds_toArray, List.set_cons_zero, List.set_cons_succ]
    refine fan_take (i := 2) (v := ?_) rfl (by kernel_rfl) (fun _ _ _ _ h => h) (by kernel_rfl) (HS.out _ b0) ?_ ?_
    rotate_left
    ·rintro w9 ⟨t0, t1, t2⟩
     go_simp
     try with_reducible rfl
    try simp only [List.getElem_toArray, List.getElem_cons_succ, List.getElem_cons_zero, List.getElem?_toArray, List.getElem?_cons_succ, List.getElem?_cons_zero, Act.put, List.setIfInBounds_toArray, List.set_cons_zero, List.set_cons_succ]
    refine fan_take (i := 3) (v := ?_) rfl (by kernel_rfl) (fun _ _ _ _ h => h) (by kernel_rfl) (HS.out _ b0) ?_ ?_
    rotate_left
    ·rintro w9 ⟨t0, t1, t2⟩
     go_simp
     try with_reducible rfl
    try simp only [List.getElem_toArray, List.getElem_cons_succ, List.getElem_cons_zero, List.getElem?_toArray, List.getElem?_cons_succ, List.getElem?_cons_zero, Act.put, List.setIfInBounds_toArray, List.set_cons_zero, List.set_cons_succ]
    refine fan_take (i := 4) (v := ?_) rfl (by kernel_rfl) (fun _ _ _ _ h => h) (by kernel_rfl) (HS.out _ b0) ?_ ?_
    rotate_left
    ·rintro w9 ⟨t0, t1, t2⟩
     go_simp
     try with_reducible rfl
    try simp only [List.getElem_toArray, List.getElem_cons_succ, List.getElem_cons_zero, List.getElem?_toArray, List.getElem?_cons_succ, List.getElem?_cons_zero, Act.put, List.setIfInBounds_toArray, List.set_cons_zero, List.set_cons_succ]
    refine fan_take (i := 5) (v := ?_) rfl (by kernel_rfl) (fun _ _ _ _ h => h) (by kernel_rfl) (HS.out _ b0) ?_ ?_
    rotate_left
    ·rintro w9 ⟨t0, t1, t2⟩
     go_simp
     try with_reducible rfl
    try simp only [List.getElem_toArray, List.getElem_cons_succ, List.getElem_cons_zero, List.getElem?_toArray, List.getElem?_cons_succ, List.getElem?_cons_zero, Act.put, List.setIfInBounds_toArray, List.set_cons_zero, List.set_cons_succ]
    refine fan_take (i := 6) (v := ?_) rfl (by kernel_rfl) (fun _ _ _ _ h => h) (by kernel_rfl) (HS.out _ b0) ?_ ?_
    rotate_left
    ·rintro w9 ⟨t0, t1, t2⟩
     go_simp
     try with_reducible rfl
    try simp only [List.getElem_toArray, List.getElem_cons_succ, List.getElem_cons_zero, List.getElem?_toArray, List.getElem?_cons_succ, List.getElem?_cons_zero, Act.put, List.setIfInBounds_toArray, List.set_cons_zero, List.set_cons_succ]
    refine fan_take (i := 7) (v := ?_) rfl (by kernel_rfl) (fun _ _ _ _ h => h) (by kernel_rfl) (HS.out _ b0) ?_ ?_
    rotate_left
    ·rintro w9 ⟨t0, t1, t2⟩
     go_simp
     try with_reducible rfl
    try simp only [List.getElem_toArray, List.getElem_cons_succ, List.getElem_cons_zero, List.getElem?_toArray, List.getElem?_cons_succ, List.getElem?_cons_zero, Act.put, List.setIfInBounds_toArray, List.set_cons_zero, List.set_cons_succ]
    refine fan_take (i := 8) (v := ?_) rfl (by kernel_rfl) (fun _ _ _ _ h => h) (by kernel_rfl) (HS.out _ b0) ?_ ?_
    rotate_left
    ·rintro w9 ⟨t0, t1, t2⟩
     go_simp
     try with_reducible rfl
    try simp only [List.getElem_toArray, List.getElem_cons_succ, List.getElem_cons_zero, List.getElem?_toArray, List.getElem?_cons_succ, List.getElem?_cons_zero, Act.put, List.setIfInBounds_toArray, List.set_cons_zero, List.set_cons_succ]
    refine fan_take (i := 9) (v := ?_) rfl (by kernel_rfl) (fun _ _ _ _ h => h) (by kernel_rfl) (HS.out _ b0) ?_ ?_
    rotate_left
    ·rintro w9 ⟨t0, t1, t2⟩
     go_simp
     try with_reducible rfl
    try simp only [List.getElem_toArray, List.getElem_cons_succ, List.getElem_cons_zero, List.getElem?_toArray, List.getElem?_cons_succ, List.getElem?_cons_zero, Act.put, List.setIfInBounds_toArray, List.set_cons_zero, List.set_cons_succ]
    refine fan_take (i := 10) (v := ?_) rfl (by kernel_rfl) (fun _ _ _ _ h => h) (by kernel_rfl) (HS.out _ b0) ?_ ?_
    rotate_left
    ·rintro w9 ⟨t0, t1, t2⟩
     go_simp
     try with_reducible rfl
    try simp only [List.getElem_toArray, List.getElem_cons_succ, List.getElem_cons_zero, List.getElem?_toArray, List.getElem?_cons_succ, List.getElem?_cons_zero, Act.put, List.setIfInBounds_toArray, List.set_cons_zero, List.set_cons_succ]
    refine fan_take (i := 11) (v := ?_) rfl (by kernel_rfl) (fun _ _ _ _ h => h) (by kernel_rfl) (HS.out _ b0) ?_ ?_
    rotate_left
    ·rintro w9 ⟨t0, t1, t2⟩
     go_simp
     try with_reducible rfl
    try simp only [List.getElem_toArray, List.getElem_cons_succ, List.getElem_cons_zero, List.getElem?_toArray, List.getElem?_cons_succ, List.getElem?_cons_zero, Act.put, List.setIfInBounds_toArray, List.set_cons_zero, List.set_cons_succ]
    refine fan_take (i := 12) (v := ?_) rfl (by kernel_rfl) (fun _ _ _ _ h => h) (by kernel_rfl) (HS.out _ b0) ?_ ?_
    rotate_left
    ·rintro w9 ⟨t0, t1, t2⟩
     go_simp
     try with_reducible rfl
    try simp only [List.getElem_toArray, List.getElem_cons_succ, List.getElem_cons_zero, List.getElem?_toArray, List.getElem?_cons_succ, List.getElem?_cons_zero, Act.put, List.setIfInBounds_toArray, List.set_cons_zero, List.set_cons_succ]
    refine fan_take (i := 13) (v := ?_) rfl (by kernel_rfl) (fun _ _ _ _ h => h) (by kernel_rfl) (HS.out _ b0) ?_ ?_
    rotate_left
    ·rintro w9 ⟨t0, t1, t2⟩
     go_simp
     try with_reducible rfl
    try simp only [List.getElem_toArray, List.getElem_cons_succ, List.getElem_cons_zero, List.getElem?_toArray, List.getElem?_cons_succ, List.getElem?_cons_zero, Act.put, List.setIfInBounds_toArray, List.set_cons_zero, List.set_cons_succ]
    refine fan_take (i := 14) (v := ?_) rfl (by kernel_rfl) (fun _ _ _ _ h => h) (by kernel_rfl) (HS.out _ b0) ?_ ?_
    rotate_left
    ·rintro w9 ⟨t0, t1, t2⟩
     go_simp
     try with_reducible rfl
    try simp only [List.getElem_toArray, List.getElem_cons_succ, List.getElem_cons_zero, List.getElem?_toArray, List.getElem?_cons_succ, List.getElem?_cons_zero, Act.put, List.setIfInBounds_toArray, List.set_cons_zero, List.set_cons_succ]
    refine fan_two 15 19 (by kernel_rfl) ?_ ?_
    ·
     refine fan_step rfl (by kernel_rfl) fun K hK => ?_
     refine wp_call_of 25 _ _ (by rfl) #[.agg #[.slice al5 dl1 cl5, .slice ac5 dl2 cd5], .int .i64 (4 * (i : Int)), .int .i64 (i : Int), .slice ad l cdd] (by simp [Act.eval]) (Try.call25 _ _) (KW.out _ b0) ?_
     rintro e c1 ⟨al6, cl6, ac6, cd6, dl3, dl4, rfl, oF, bF⟩
     have b1 := b0.trans (bF.out.mono b0.size)
     have HO : Hid (Own SStP wr.heap.size c1 [.slice al6 dl3 cl6, .slice ac6 dl4 cd6] d') := oF.out.mono b0.size
     refine ⟨_, rfl, hK _ _ (HS.out _ b1) ?_⟩
     clear hK K bF oF
     try simp only [List.getElem_toArray, List.getElem_cons_succ, List.getElem_cons_zero, List.getElem?_toArray, List.getElem?_cons_succ, List.getElem?_cons_zero, Act.put, List.setIfInBounds_toArray, List.set_cons_zero, List.set_cons_succ]
     refine fan_take (i := 16) (v := ?_) rfl (by kernel_rfl) (fun _ _ _ _ h => h) (by kernel_rfl) (HS.out _ b1) ?_ ?_
     rotate_left
     ·rintro w9 ⟨t0, t1, t2⟩
      go_simp
      try with_reducible rfl
     try simp only [List.getElem_toArray, List.getElem_cons_succ, List.getElem_cons_zero, List.getElem?_toArray, List.getElem?_cons_succ, List.getElem?_cons_zero, Act.put, List.setIfInBounds_toArray, List.set_cons_zero, List.set_cons_succ]
     refine fan_take (i := 17) (v := ?_) rfl (by kernel_rfl) (fun _ _ _ _ h => h) (by kernel_rfl) (HS.out _ b1) ?_ ?_
     rotate_left
     ·rintro w9 ⟨t0, t1, t2⟩
      go_simp
      try with_reducible rfl
     try simp only [List.getElem_toArray, List.getElem_cons_succ, List.getElem_cons_zero, List.getElem?_toArray, List.getElem?_cons_succ, List.getElem?_cons_zero, Act.put, List.setIfInBounds_toArray, List.set_cons_zero, List.set_cons_succ]
     refine fan_take (i := 18) (v := ?_) rfl (by kernel_rfl) (fun _ _ _ _ h => h) (by kernel_rfl) (HS.out _ b1) ?_ ?_
     rotate_left
     ·rintro w9 ⟨t0, t1, t2⟩
      go_simp
      try with_reducible rfl
     try simp only [List.getElem_toArray, List.getElem_cons_succ, List.getElem_cons_zero, List.getElem?_toArray, List.getElem?_cons_succ, List.getElem?_cons_zero, Act.put, List.setIfInBounds_toArray, List.set_cons_zero, List.set_cons_succ]
     refine fan_one 19 (by kernel_rfl) ?_
     refine fan_step rfl (by kernel_rfl) fun K hK => ?_
     go_simp
     obtain ⟨c2, hc, h9, bc, sc⟩ := boxed_row c1 (.slice none 0 0) (.slice none 0 0) 31
     rw [← hc]
     have b2 := b1.trans (bc.mono b1.size)
     obtain ⟨g9, hg9⟩ : ∃ g, g = c1.heap.size := ⟨_, rfl⟩
     rw [← hg9] at h9
     rw [← hg9]
     have l9 : wr.heap.size ≤ g9 := by have := b1.size; omega
     replace HO : Hid (∃ F, OwnF SStP F c2 [.slice al6 dl3 cl6, .slice ac6 dl4 cd6] d' ∧ g9 ∉ F ∧ ∀ b, b ∈ F → wr.heap.size ≤ b) := by
      obtain ⟨F, h1, h2, h3⟩ := HO.out
      have hF : OwnF SStP F c1 [.slice al6 dl3 cl6, .slice ac6 dl4 cd6] d' := ⟨h1, h2⟩
      exact ⟨F, hF.to bc, fun hh => by have := hF.lt _ hh; omega, h3⟩
     refine hK _ _ (HS.out _ b2) ?_
     clear hK K hc bc sc hg9
     try simp only [List.getElem_toArray, List.getElem_cons_succ, List.getElem_cons_zero, List.getElem?_toArray, List.getElem?_cons_succ, List.getElem?_cons_zero, Act.put, List.setIfInBounds_toArray, List.set_cons_zero, List.set_cons_succ]
     obtain ⟨y0, y1, y2, y3⟩ := row2_cells h9
     refine fan_one 20 (by kernel_rfl) ?_
     refine fan_step rfl (by kernel_rfl) fun K hK => ?_
     go_simp
     obtain ⟨d1, hd1⟩ : ∃ d, d = (c2.setCell ⟨g9, 0, none⟩ (.slice al6 dl3 cl6)).setCell ⟨g9, 1, none⟩ (.slice ac6 dl4 cd6) := ⟨_, rfl⟩
     rw [← hd1]
     have e1 : Below wr.heap.size wr d1 := by rw [hd1]; exact below_set2 b2 l9 _ _
     have i9 : d1.heap[g9]? = some (.cells #[.slice al6 dl3 cl6, .slice ac6 dl4 cd6] 31 (0, 0)) := by rw [hd1]; exact heap_set2 h9 _ _
     have oG : Own SStP wr.heap.size d1 [.slice al6 dl3 cl6, .slice ac6 dl4 cd6] d' := by
      obtain ⟨F, h1, h2, h3⟩ := HO.out
      rw [hd1]
      exact ((h1.set (a := ⟨g9, 0, none⟩) h2 _).set (a := ⟨g9, 1, none⟩) h2 _).own h3
     refine hK _ _ (HS.out _ e1) ?_
     clear hK K y0 y1 y2 y3 hd1
     try simp only [List.getElem_toArray, List.getElem_cons_succ, List.getElem_cons_zero, List.getElem?_toArray, List.getElem?_cons_succ, List.getElem?_cons_zero, Act.put, List.setIfInBounds_toArray, List.set_cons_zero, List.set_cons_succ]
     refine fan_done (by kernel_rfl) ?_
     show wpList _ _ _ _ _ _
     have FIN := hide (And.intro i9 (And.intro oG (And.intro e1 l9)))
     clear e1 i9 oG HO HS KW
     go_wp2_with fail
     go_meet
     exact ⟨g9, _, _, rfl, rfl, FIN⟩
    ·
     refine fan_step rfl (by kernel_rfl) fun K hK => ?_
     go_simp
     obtain ⟨c1, hc, h9, bc, sc⟩ := boxed_row c0 (.slice none 0 0) (.slice none 0 0) 31
     rw [← hc]
     have b1 := b0.trans (bc.mono b0.size)
     obtain ⟨g9, hg9⟩ : ∃ g, g = c0.heap.size := ⟨_, rfl⟩
     rw [← hg9] at h9
     rw [← hg9]
     have l9 : wr.heap.size ≤ g9 := by have := b0.size; omega
     have s9 : g9 < c1.heap.size := lt_of_block h9
     refine hK _ _ (HS.out _ b1) ?_
     clear hK K hc bc sc hg9
     try simp only [List.getElem_toArray, List.getElem_cons_succ, List.getElem_cons_zero, List.getElem?_toArray, List.getElem?_cons_succ, List.getElem?_cons_zero, Act.put, List.setIfInBounds_toArray, List.set_cons_zero, List.set_cons_succ]
     refine fan_one 15 (by kernel_rfl) ?_
     refine fan_step rfl (by kernel_rfl) fun K hK => ?_
     refine wp_call_of 25 _ _ (by rfl) #[.agg #[.slice al5 dl1 cl5, .slice ac5 dl2 cd5], .int .i64 (4 * (i : Int)), .int .i64 (i : Int), .slice ad l cdd] (by simp [Act.eval]) (Try.call25 _ _) (KW.out _ b1) ?_
     rintro e c2 ⟨al6, cl6, ac6, cd6, dl3, dl4, rfl, oF, bF⟩
     have b2 := b1.trans (bF.out.mono b1.size)
     replace h9 := (bF.out.block _ (lt_of_block h9)).trans h9
     have HO : Hid (∃ F, OwnF SStP F c2 [.slice al6 dl3 cl6, .slice ac6 dl4 cd6] d' ∧ g9 ∉ F ∧ ∀ b, b ∈ F → wr.heap.size ≤ b) := by
      obtain ⟨F, h1, h2, h3⟩ := oF.out
      exact ⟨F, ⟨h1, h2⟩, fun hh => by have := h3 _ hh; omega, fun b hb => by have := h3 b hb; have := b1.size; omega⟩
     refine ⟨_, rfl, hK _ _ (HS.out _ b2) ?_⟩
     clear hK K bF oF
     try simp only [List.getElem_toArray, List.getElem_cons_succ, List.getElem_cons_zero, List.getElem?_toArray, List.getElem?_cons_succ, List.getElem?_cons_zero, Act.put, List.setIfInBounds_toArray, List.set_cons_zero, List.set_cons_succ]
     refine fan_take (i := 16) (v := ?_) rfl (by kernel_rfl) (fun _ _ _ _ h => h) (by kernel_rfl) (HS.out _ b2) ?_ ?_
     rotate_left
     ·rintro w9 ⟨t0, t1, t2⟩
      go_simp
      try with_reducible rfl
     try simp only [List.getElem_toArray, List.getElem_cons_succ, List.getElem_cons_zero, List.getElem?_toArray, List.getElem?_cons_succ, List.getElem?_cons_zero, Act.put, List.setIfInBounds_toArray, List.set_cons_zero, List.set_cons_succ]
     refine fan_take (i := 17) (v := ?_) rfl (by kernel_rfl) (fun _ _ _ _ h => h) (by kernel_rfl) (HS.out _ b2) ?_ ?_
     rotate_left
     ·rintro w9 ⟨t0, t1, t2⟩
      go_simp
      try with_reducible rfl
     try simp only [List.getElem_toArray, List.getElem_cons_succ, List.getElem_cons_zero, List.getElem?_toArray, List.getElem?_cons_succ, List.getElem?_cons_zero, Act.put, List.setIfInBounds_toArray, List.set_cons_zero, List.set_cons_succ]
     refine fan_take (i := 18) (v := ?_) rfl (by kernel_rfl) (fun _ _ _ _ h => h) (by kernel_rfl) (HS.out _ b2) ?_ ?_
     rotate_left
     ·rintro w9 ⟨t0, t1, t2⟩
      go_simp
      try with_reducible rfl
     try simp only [List.getElem_toArray, List.getElem_cons_succ, List.getElem_cons_zero, List.getElem?_toArray, List.getElem?_cons_succ, List.getElem?_cons_zero, Act.put, List.setIfInBounds_toArray, List.set_cons_zero, List.set_cons_succ]
     obtain ⟨y0, y1, y2, y3⟩ := row2_cells h9
     refine fan_one 20 (by kernel_rfl) ?_
     refine fan_step rfl (by kernel_rfl) fun K hK => ?_
     go_simp
     obtain ⟨d1, hd1⟩ : ∃ d, d = (c2.setCell ⟨g9, 0, none⟩ (.slice al6 dl3 cl6)).setCell ⟨g9, 1, none⟩ (.slice ac6 dl4 cd6) := ⟨_, rfl⟩
     rw [← hd1]
     have e1 : Below wr.heap.size wr d1 := by rw [hd1]; exact below_set2 b2 l9 _ _
     have i9 : d1.heap[g9]? = some (.cells #[.slice al6 dl3 cl6, .slice ac6 dl4 cd6] 31 (0, 0)) := by rw [hd1]; exact heap_set2 h9 _ _
     have oG : Own SStP wr.heap.size d1 [.slice al6 dl3 cl6, .slice ac6 dl4 cd6] d' := by
      obtain ⟨F, h1, h2, h3⟩ := HO.out
      rw [hd1]
      exact ((h1.set (a := ⟨g9, 0, none⟩) h2 _).set (a := ⟨g9, 1, none⟩) h2 _).own h3
     refine hK _ _ (HS.out _ e1) ?_
     clear hK K y0 y1 y2 y3 hd1
     try simp only [List.getElem_toArray, List.getElem_cons_succ, List.getElem_cons_zero, List.getElem?_toArray, List.getElem?_cons_succ, List.getElem?_cons_zero, Act.put, List.setIfInBounds_toArray, List.set_cons_zero, List.set_cons_succ]
     refine fan_done (by kernel_rfl) ?_
     show wpList _ _ _ _ _ _
     have FIN := hide (And.intro i9 (And.intro oG (And.intro e1 l9)))
     clear e1 i9 oG HO HS KW
     go_wp2_with fail
     go_meet
     exact ⟨g9, _, _, rfl, rfl, FIN⟩
   case rest =>
   obtain ⟨g9, s6, c6, rfl, rfl, hC⟩ := hcut
   obtain ⟨i9, oG, e1, l9⟩ := hC.out
   obtain ⟨a6, n6, c6', a7, n7, c7', hv, hv2⟩ : ∃ al n cl ac m cd, s6 = .slice al n cl ∧ c6 = .slice ac m cd := by
    obtain ⟨F, hF, _⟩ := oG.foot
    obtain ⟨al, cl, ac, cd, h1, h2⟩ := own_form' hF
    exact ⟨_, _, _, _, _, _, h1, h2⟩
   subst hv hv2
   have hI := hH.out
   have hpl := hI.pl
   have hplt := World.ownsRow.lt hpl
   have HPL : Hid (OwnP2 TPP gD wc v (pls i)) := hpl.to e1
   have HG9 : Hid (∀ k, v.ownBlock = some k → k < wr.heap.size) := fun k hk => (hplt k hk).2
   have HRX := hide ((e1.block _ (lt_of_block HRW.out)).trans HRW.out)
   obtain ⟨y0, y1, y2, y3⟩ := row2_cells i9
   have HI9 := hide i9
   have HE := hide e1
   have HOG := hide oG
   have HL9 := hide l9
   clear hI hpl hplt i9 oG e1 l9 HS hC KW b0 bd
   go_wp2_with fail
   refine (unum_any _ _).mono ?_
   rintro e w' ⟨rfl, rfl⟩
   go_upto_region 12 with fail
   clear y0 y1 y2 y3
   have bd : Below wc.heap.size wc wc.drew := (Below.refl _ _).drew
   have D9 : wc.drew.heap[g9]? = some (.cells #[.slice a6 n6 c6', .slice a7 n7 c7'] 31 (0, 0)) := (bd.block _ (lt_of_block HI9.out)).trans HI9.out
   refine wp_region_mid (fun w' => w'.heap[g9]? = some (.cells #[.slice a6 n6 c6', .slice a7 n7 c7'] 31 (0, 0))) 6 8 mixed (by kernel_rfl) (fun _ _ _ _ h => h) D9 ?_
   dsimp only [List.take, List.drop]
   obtain ⟨wd, hwd⟩ : ∃ x, x = wc.drew := ⟨_, rfl⟩
   rw [← hwd] at bd D9 ⊢
   replace hwd := hide hwd
   iterate 6
    refine take_one (v := ?_) (by rfl) ?_ ?_
    rotate_left
    ·rintro w' s1
     obtain ⟨y0, y1, y2, y3⟩ := row2_cells s1
     clear s1
     go_simp
     try with_reducible rfl
    try simp only [Act.put, List.setIfInBounds_toArray, List.set_cons_zero, List.set_cons_succ]
   refine mid_one fun K hK => ?_
   rw [if_pos (by rfl)]
   go_simp
   obtain ⟨Z, hZ, DZ, bZ, sZ⟩ := boxedN wd #[.int .i64 (4 * (i : Int)), .int .i64 (i : Int)] 64
   rw [← hZ]
   have bwZ := bd.trans (bZ.mono bd.size)
   have Z9 := (bZ.block _ (lt_of_block D9)).trans D9
   obtain ⟨Z0, Z1, _, _⟩ := row2_cells DZ
   refine hK _ _ Z9 ?_
   clear hK K
   try simp only [Act.put, List.setIfInBounds_toArray, List.set_cons_zero, List.set_cons_succ]
   refine mid_one fun K hK => ?_
   refine step_apP2 rfl _ _ rfl gD v (pls i) (4 * (i : Int), (i : Int)) wd.heap.size rfl rfl (HPL.out.to bwZ) Z0 Z1 (by rw [pls_len]; omega) (by have := hH.out.bx.lt; have := HE.out.size; have := bwZ.size; omega) ?_
   intro v5 w5 o5 b5 q5
   have hnr : ∀ j, wr.heap.size ≤ j → some j ≠ v.ownBlock := fun j hj e => by have := HG9.out j e.symm; omega
   have h5 : w5.heap[g9]? = some (.cells #[.slice a6 n6 c6', .slice a7 n7 c7'] 31 (0, 0)) := (q5.block _ (lt_of_block Z9) (hnr _ HL9.out)).trans Z9
   refine hK _ _ h5 ?_
   clear hK K
   try simp only [Act.put, List.setIfInBounds_toArray, List.set_cons_zero, List.set_cons_succ]
   show wpList _ _ _ _ _ _
   have hgD := hH.out.bx.lt
   have hr5 : w5.heap[gD]? = some (.cells #[.slice al5 dl1 cl5, .slice ac5 dl2 cd5] 31 (0, 0)) := by
    have r1 := (bwZ.block _ (lt_of_block HRX.out)).trans HRX.out
    refine (q5.block _ (lt_of_block r1) fun e => ?_).trans r1
    rcases HPL.out.2 with ⟨q, _⟩ | ⟨g, cap, cur, q, _, hg, _⟩
    ·rw [q] at e; cases e
    ·rw [q] at e
     simp only [Value.ownBlock, Option.some.injEq] at e
     rw [← e, HRX.out] at hg
     simp only [Option.some.injEq, Obj.cells.injEq] at hg
     exact absurd hg.2.1 (by decide)
   have o9 : Own SStP wr.heap.size w5 [.slice a6 n6 c6', .slice a7 n7 c7'] d' := (HOG.out.to bwZ).grown q5 fun k hk => HG9.out k hk
   obtain ⟨DV, kk⟩ := DBox.over ⟨_, _, hr5⟩ o9 hgD
   have FIN : Hid (L1 w gD n x0 ((w5.setCell ⟨gD, 0, none⟩ (.slice a6 n6 c6')).setCell ⟨gD, 1, none⟩ (.slice a7 n7 c7')) v5 (i + 1) d') := by
    refine ⟨HM.out.2, DV, ?_, ?_⟩
    ·rw [pls_succ]
     exact rows_keepT o5 (kk _ (by decide))
    ·have h1 := hH.out.bel.trans (HE.out.mono hH.out.bel.size)
     have h2 := h1.trans (bwZ.mono h1.size)
     exact below_set2 (h2.trans (b5.mono hgw)) hgw _ _
   obtain ⟨x0', x1', x2', x3'⟩ := row2_cells hr5
   clear DV kk o9 hr5 h5 hnr q5 b5 o5 Z0 Z1 DZ bZ bwZ Z9 D9 bd hgD hZ sZ
   go_wp2
   go_roundw
   case rel => exact ⟨i + 1, _, _, rfl, hlt.out, by go_num, FIN⟩
   case measure => simp [intOf]; have := hlt.out; omega
  ·have hq : ¬ (i : Int) < (n : Int) := by omega
   have hin : i = n := by omega
   have hI := hH.out
   have hfi := hI.fi
   rw [hin] at hfi
   obtain ⟨d3, hfl, hF2⟩ := hfi.flush
   obtain ⟨s, c, hrow, F, hF, nb⟩ := hI.bx.st
   obtain ⟨al5, cl5, ac5, cd5, hv, hv2⟩ : ∃ al cl ac cd, s = .slice al d.1.length cl ∧ c = .slice ac d.2.length cd := own_form' hF
   subst hv hv2
   obtain ⟨P1, P2⟩ := Own.fst (c := [.slice al5 d.1.length cl5]) (d := [.slice ac5 d.2.length cd5]) (show Own SStP 0 wr [.slice al5 d.1.length cl5, .slice ac5 d.2.length cd5] d from ⟨F, hF.1, hF.2, fun _ _ => Nat.zero_le _⟩) rfl
   have KF := dflush_any wr _ _ d P1.rdS P2.rdS
   rw [hfl] at KF
   dsimp only at KF
   obtain ⟨dl1, hd1⟩ : ∃ k, d.1.length = k := ⟨_, rfl⟩
   obtain ⟨dl2, hd2⟩ : ∃ k, d.2.length = k := ⟨_, rfl⟩
   rw [hd1, hd2] at KF
   rw [hd1, hd2] at hrow
   replace KF := hide KF
   have HF2 := hide hF2
   have HRW := hide hrow
   have hpl := hI.pl
   rw [hin] at hpl
   have HPL := hide hpl
   obtain ⟨A0, A1, _, _⟩ := row2_cells hrow
   have hgD := hide hI.bx.lt
   replace hin := hide hin
   clear P1 P2 hF nb hrow hI hfi hfl hF2 hpl hd1 hd2
   go_wp2_with fail
   refine KF.out.mono ?_
   rintro e w3 ⟨s3, c3, rfl, o3, b3⟩
   obtain ⟨a6, n6, c6', a7, n7, c7', hv, hv2⟩ : ∃ al n cl ac m cd, s3 = .slice al n cl ∧ c3 = .slice ac m cd := by
    obtain ⟨F, hF, _⟩ := o3.foot
    obtain ⟨al, cl, ac, cd, h1, h2⟩ := own_form' hF
    exact ⟨_, _, _, _, _, _, h1, h2⟩
   subst hv hv2
   have r3 := (b3.block _ (lt_of_block HRW.out)).trans HRW.out
   obtain ⟨DV, kk⟩ := DBox.over ⟨_, _, r3⟩ o3 hgD.out
   obtain ⟨V, hV⟩ : ∃ V, V = (w3.setCell ⟨gD, 0, none⟩ (.slice a6 n6 c6')).setCell ⟨gD, 1, none⟩ (.slice a7 n7 c7') := ⟨_, rfl⟩
   have sV : V.heap.size = w3.heap.size := by rw [hV]; simp
   obtain ⟨W, hW⟩ : ∃ W, W = V.alloc (.cells (madeCells #[.bool false] n) 4) := ⟨_, rfl⟩
   have bW : Below V.heap.size V W := by rw [hW]; exact (Below.refl _ _).alloc (Nat.le_refl _) _
   have BR := BRow.made V n (by omega)
   rw [← hW, sV] at BR
   rw [← hV] at DV kk
   have hgb : Hid (gD < w3.heap.size ∧ w.heap.size ≤ w3.heap.size) := by
    have h1 := hgD.out
    have h2 := b3.size
    exact ⟨by omega, by omega⟩
   obtain ⟨gb, hgbe⟩ : ∃ g, g = w3.heap.size := ⟨_, rfl⟩
   rw [← hgbe] at BR hgb
   have H2 : Hid (L2 w gD gb n x0 W v d3 (List.replicate n false)) := by
    refine ⟨HF2.out, DV.to bW, BR, ?_, ?_⟩
    ·exact rows_to (rows_keepT (HPL.out.to b3) (kk _ (by decide))) bW
    ·have h1 := hH.out.bel.trans (b3.mono hH.out.bel.size)
     have h2 : Below w.heap.size w V := by rw [hV]; exact below_set2 h1 hgw _ _
     exact h2.trans (bW.mono h2.size)
   obtain ⟨y0, y1, y2, y3⟩ := row2_cells r3
   have hmk := fun u => make_bools12 (n := n) (by omega) u
   clear DV kk BR bW o3 b3 r3 A0 A1 KF
   go_wp2_with fail
   refine (unum_any _ _).mono ?_
   rintro e w' ⟨rfl, rfl⟩
   go_wp2_with fail
   refine (unum_any _ _).mono ?_
   rintro e w' ⟨rfl, rfl⟩
   clear y0 y1 y2 y3
   go_wp2
   rw [← hV]
   rw [← hW, ← hgbe]
   replace hV := hide hV
   replace hW := hide hW
   clear hmk sV hgbe
   go_loopw [14] (fun p wr => ∃ (j : Nat) (d : Dsk) (bad : List Bool), j ≤ RN ∧ p = .int .i64 j ∧ Hid (L2 w gD gb n x0 wr v d bad)) (fun p _ => RN - (intOf p).toNat)
   case atStart => exact ⟨0, _, _, Nat.zero_le _, rfl, H2⟩
   case round =>
    obtain ⟨j, d, bad, hj, rfl, hG⟩ := hrel
    clear H2
    go_upto_region 18 with fail
    go_cut [90] from 83 to 147 (fun b wx => b = .bool (decide (j < RN ∧ 0 < n)) ∧ wr = wx)
    case first =>
     by_cases hlt : j < RN
     ·have hq : (j : Int) < (RN : Int) := by omega
      by_cases h6 : 0 < n
      ·have hq6 : (0 : Int) < (n : Int) := by omega
       have hd := hide (show decide (j < RN ∧ 0 < n) = true from decide_eq_true ⟨hlt, h6⟩)
       go_wp2_with fail
       go_meet
       exact ⟨by rw [hd.out], rfl⟩
      ·have hq6 : ¬ (0 : Int) < (n : Int) := by omega
       have hd := hide (show decide (j < RN ∧ 0 < n) = false from decide_eq_false (fun h => h6 h.2))
       go_wp2_with fail
       go_meet
       exact ⟨by rw [hd.out], rfl⟩
     ·have hq : ¬ (j : Int) < (RN : Int) := by omega
      have hd := hide (show decide (j < RN ∧ 0 < n) = false from decide_eq_false (fun h => hlt h.1))
      go_wp2_with fail
      go_meet
      exact ⟨by rw [hd.out], rfl⟩
    case rest =>
    obtain ⟨rfl, rfl⟩ := hcut
    by_cases hgo : j < RN ∧ 0 < n
    ·rw [decide_eq_true hgo]
     obtain ⟨hlt, h30⟩ := hgo
     have j1 : (j : Int) < (RN : Int) := by omega
     have j3 : (0 : Int) < (n : Int) := by omega
     have hI := hG.out
     obtain ⟨zz, hz, hzm⟩ := some_at rl (k := j) (by rw [hRN.out]; exact hlt)
     have hzw := (M1.out zz hzm).2.2
     obtain ⟨z, za, zb⟩ := zz
     obtain ⟨bz, oz, rfl, hz1, hz2, hz3⟩ := (R1.out.to0 hI.bel).rot hz
     dsimp only at hz1 hz2 hz3 hzw
     have y1 := Int.lt_tmod_of_pos z j3
     have y2 := Int.tmod_lt_of_pos z j3
     have y3 := Int.emod_nonneg (z.tmod n) (b := n) (by omega)
     have y4 := Int.emod_lt_of_pos (z.tmod n) j3
     obtain ⟨p, hp⟩ : ∃ p : Nat, z.tmod n % n = (p : Int) := ⟨(z.tmod n % n).toNat, by omega⟩
     have hpN : (p : Int) < (n : Int) := by omega
     have hpn : p < n := by omega
     have w1z := Int.lt_tmod_of_pos za (b := 256) (by decide)
     have w2z := Int.tmod_lt_of_pos za (b := 256) (by decide)
     have w3z := Int.emod_nonneg (za.tmod 256) (b := 256) (by decide)
     have w4z := Int.emod_lt_of_pos (za.tmod 256) (b := 256) (by decide)
     obtain ⟨q, hq⟩ : ∃ q : Nat, za.tmod 256 % 256 = (q : Int) := ⟨(za.tmod 256 % 256).toNat, by omega⟩
     have hq256 : q < 256 := by omega
     obtain ⟨bb, hbb⟩ : ∃ b, bad[p]? = some b := ⟨bad[p]'(by rw [hI.br.len]; exact hpn), List.getElem?_eq_getElem _⟩
     have hcb := hI.br.cell hbb
     obtain ⟨cb, hcb8⟩ := bits_u8 hzw
     have HCB := hide hcb8
     have HP := hide hp
     have HQ := hide hq
     clear hz hzm hzw hI hcb8
     go_upto_region 21 with fail
     simp only [Int.add_emod_right, HP.out]
     clear y1 y2 y3 y4 hp
     cases bb with
     | true =>
      clear hq w1z w2z w3z w4z
      go_wp2
      go_roundw
      case rel => exact ⟨j + 1, _, _, hlt, by go_num, hG⟩
      case measure => simp [intOf]; omega
     | false =>
      by_cases hzb : zb = 0
      ·have hzb1 : (zb == 0) = true := by simpa using hzb
       have hzb2 : decide (zb = 0) = true := decide_eq_true hzb
       replace hzb := hide hzb
       clear hq w1z w2z w3z w4z
       go_wp2
       go_roundw
       case rel => exact ⟨j + 1, _, _, hlt, by go_num, hG⟩
       case measure => simp [intOf]; omega
      ·have hzb1 : (zb == 0) = false := by simpa using hzb
       have hzb2 : decide (zb = 0) = false := decide_eq_false hzb
       have hcn : cb ≠ 0 := by
        rintro rfl
        have := HCB.out
        simp at this
        exact hzb this.symm
       replace hzb := hide hzb
       obtain ⟨J, hJ⟩ : ∃ J, J = q / 64 := ⟨_, rfl⟩
       obtain ⟨T, hT⟩ : ∃ T, T = q % 64 := ⟨_, rfl⟩
       obtain ⟨d', hro, hF'⟩ := hG.out.fi.one hn10 hpn hbb hq256 hcn (by rw [hXN.out]; exact hnx)
       rw [← hJ, ← hT] at hro
       have HM := hide (And.intro hro hF')
       obtain ⟨s, c, hrow, F, hF, nb⟩ := hG.out.bx.st
       obtain ⟨al5, cl5, ac5, cd5, hv, hv2⟩ : ∃ al cl ac cd, s = .slice al d.1.length cl ∧ c = .slice ac d.2.length cd := own_form' hF
       subst hv hv2
       obtain ⟨P1, P2⟩ := Own.fst (c := [.slice al5 d.1.length cl5]) (d := [.slice ac5 d.2.length cd5]) (show Own SStP 0 wr [.slice al5 d.1.length cl5, .slice ac5 d.2.length cd5] d from ⟨F, hF.1, hF.2, fun _ _ => Nat.zero_le _⟩) rfl
       have r5 := P1.rdS
       have q5 := P2.rdS
       clear P1 P2
       obtain ⟨A0, A1, _, _⟩ := row2_cells hrow
       have HRW := hide hrow
       obtain ⟨dl1, hd1⟩ : ∃ k, d.1.length = k := ⟨_, rfl⟩
       obtain ⟨dl2, hd2⟩ : ∃ k, d.2.length = k := ⟨_, rfl⟩
       rw [hd1] at A0 r5 HRW
       rw [hd2] at A1 q5 HRW
       have b0 : Below wr.heap.size wr wr.drew := (Below.refl _ _).drew
       have KW : Hid (∀ w9, Below wr.heap.size wr w9 → Calls Try.prog 27 #[.agg #[.slice al5 dl1 cl5, .slice ac5 dl2 cd5], .int .i64 (4 * (p : Int) + (J : Int)), .int .i64 (T : Int), .int .u8 zb] w9 fun e w6 => ∃ (al6 : Option Addr) (cl6 : Nat) (ac6 : Option Addr) (cd6 dl3 dl4 : Nat), e = .returned (.tuple #[.agg #[.slice al6 dl3 cl6, .slice ac6 dl4 cd6], .int .i64 0]) ∧ Hid (Own SStP w9.heap.size w6 [.slice al6 dl3 cl6, .slice ac6 dl4 cd6] d') ∧ Hid (Below w9.heap.size w9 w6)) := fun w9 b9 => by
        have K0 := drot_any w9 _ _ d (4 * (p : Int) + (J : Int)) (T : Int) cb (r5.to0 b9) (q5.to0 b9)
        rw [HM.out.1, HCB.out] at K0
        dsimp only at K0
        refine K0.mono ?_
        rintro e w6 ⟨s, c, rfl, o, bb⟩
        obtain ⟨P1, P2⟩ := Own.fst (c := [s]) (d := [c]) o rfl
        obtain ⟨al6, cl6, hv⟩ := P1.rdS.slice
        obtain ⟨ac6, cd6, hv2⟩ := P2.rdS.slice
        subst hv hv2
        exact ⟨al6, cl6, ac6, cd6, _, _, rfl, o, bb⟩
       have HS : Hid (∀ w9, Below wr.heap.size wr w9 → w9.cell? ⟨gD, 0, none⟩ = some (.slice al5 dl1 cl5) ∧ w9.cell? ⟨gD, 1, none⟩ = some (.slice ac5 dl2 cd5) ∧ w9.cell? ⟨bz, oz + j * 3 + 2, none⟩ = some (.int .u8 zb)) := fun w9 b9 => ⟨(b9.cell (cell_lt A0)).trans A0, (b9.cell (cell_lt A1)).trans A1, (b9.cell (cell_lt hz3)).trans hz3⟩
       have hwp1 : IntKind.i64.wrap (4 * (p : Int)) = 4 * (p : Int) := by rw [IntKind.wrap_i64]; omega
       have hwp2 : IntKind.i64.wrap (4 * (p : Int) + (J : Int)) = 4 * (p : Int) + (J : Int) := by rw [IntKind.wrap_i64]; omega
       have hwp3 : IntKind.i64.wrap (J : Int) = (J : Int) := by rw [IntKind.wrap_i64]; omega
       have hwp4 : IntKind.i64.wrap (T : Int) = (T : Int) := by rw [IntKind.wrap_i64]; omega
       have hJi : (q : Int) / 64 = (J : Int) := by omega
       have hJt : (q : Int).tdiv 64 = (J : Int) := by rw [Int.tdiv_eq_ediv_of_nonneg (by omega)]; omega
       have hTi : (q : Int).tmod 64 = (T : Int) := by rw [Int.tmod_eq_emod_of_nonneg (by omega)]; omega
       have hTe : (q : Int) % 64 = (T : Int) := by omega
       have HCL := hide (And.intro hcb (And.intro hlt hpn))
       replace hJ := hide hJ
       replace hT := hide hT
       clear hrow hF nb r5 q5 hd1 hd2 A0 A1 hro hF' hlt
       go_upto_region 23 with fail
       try simp only [Int.add_emod_right, HQ.out]
       clear hq w1z w2z w3z w4z hz1 hz2 hz3 hcb
       go_cut [17, 18] from 83 to 147 (fun pp ff wx => ∃ (g9 : Nat) (s6 c6 : Value), pp = .pointer (some ⟨g9, 0, none⟩) ∧ ff = .int .i64 0 ∧ Hid (wx.heap[g9]? = some (.cells #[s6, c6] 31 (0, 0)) ∧ Own SStP wr.heap.size wx [s6, c6] d' ∧ Below wr.heap.size wr wx ∧ wr.heap.size ≤ g9))
       case first =>
        clear HM R0 R1 M0 M1 hG HRW HCL
        refine wp_region_fan (fun w9 => w9.cell? ⟨gD, 0, none⟩ = some (.slice al5 dl1 cl5) ∧ w9.cell? ⟨gD, 1, none⟩ = some (.slice ac5 dl2 cd5) ∧ w9.cell? ⟨bz, oz + j * 3 + 2, none⟩ = some (.int .u8 zb)) 19 mixed (by simp) ?_
        generalize wr.drew = c0 at *
        refine fan_take (i := 0) (v := ?_) rfl (by kernel_rfl) (fun _ _ _ _ h => h) (by kernel_rfl) (HS.out _ b0) ?_ ?_
        rotate_left
        ·rintro w9 ⟨t0, t1, t2⟩
         go_simp
         try with_reducible rfl
        try simp only [List.getElem_toArray, List.getElem_cons_succ, List.getElem_cons_zero, List.getElem?_toArray, List.getElem?_cons_succ, List.getElem?_cons_zero, Act.put, List.setIfInBounds_toArray, List.set_cons_zero, List.set_cons_succ]
        refine fan_take (i := 1) (v := ?_) rfl (by kernel_rfl) (fun _ _ _ _ h => h) (by kernel_rfl) (HS.out _ b0) ?_ ?_
        rotate_left
        ·rintro w9 ⟨t0, t1, t2⟩
         go_simp
         try with_reducible rfl
        try simp only [List.getElem_toArray, List.getElem_cons_succ, List.getElem_cons_zero, List.getElem?_toArray, List.getElem?_cons_succ, List.getElem?_cons_zero, Act.put, List.setIfInBounds_toArray, List.set_cons_zero, List.set_cons_succ]
        refine fan_take (i := 2) (v := ?_) rfl (by kernel_rfl) (fun _ _ _ _ h => h) (by kernel_rfl) (HS.out _ b0) ?_ ?_
        rotate_left
        ·rintro w9 ⟨t0, t1, t2⟩
         go_simp
         try with_reducible rfl
        try simp only [List.getElem_toArray, List.getElem_cons_succ, List.getElem_cons_zero, List.getElem?_toArray, List.getElem?_cons_succ, List.getElem?_cons_zero, Act.put, List.setIfInBounds_toArray, List.set_cons_zero, List.set_cons_succ]
        refine fan_take (i := 3) (v := ?_) rfl (by kernel_rfl) (fun _ _ _ _ h => h) (by kernel_rfl) (HS.out _ b0) ?_ ?_
        rotate_left
        ·rintro w9 ⟨t0, t1, t2⟩
         go_simp
         try with_reducible rfl
        try simp only [List.getElem_toArray, List.getElem_cons_succ, List.getElem_cons_zero, List.getElem?_toArray, List.getElem?_cons_succ, List.getElem?_cons_zero, Act.put, List.setIfInBounds_toArray, List.set_cons_zero, List.set_cons_succ]
        refine fan_take (i := 4) (v := ?_) rfl (by kernel_rfl) (fun _ _ _ _ h => h) (by kernel_rfl) (HS.out _ b0) ?_ ?_
        rotate_left
        ·rintro w9 ⟨t0, t1, t2⟩
         go_simp
         try with_reducible rfl
        try simp only [List.getElem_toArray, List.getElem_cons_succ, List.getElem_cons_zero, List.getElem?_toArray, List.getElem?_cons_succ, List.getElem?_cons_zero, Act.put, List.setIfInBounds_toArray, List.set_cons_zero, List.set_cons_succ]
        refine fan_take (i := 5) (v := ?_) rfl (by kernel_rfl) (fun _ _ _ _ h => h) (by kernel_rfl) (HS.out _ b0) ?_ ?_
        rotate_left
        ·rintro w9 ⟨t0, t1, t2⟩
         go_simp
         try with_reducible rfl
        try simp only [List.getElem_toArray, List.getElem_cons_succ, List.getElem_cons_zero, List.getElem?_toArray, List.getElem?_cons_succ, List.getElem?_cons_zero, Act.put, List.setIfInBounds_toArray, List.set_cons_zero, List.set_cons_succ]
        refine fan_take (i := 6) (v := ?_) rfl (by kernel_rfl) (fun _ _ _ _ h => h) (by kernel_rfl) (HS.out _ b0) ?_ ?_
        rotate_left
        ·rintro w9 ⟨t0, t1, t2⟩
         go_simp
         try with_reducible rfl
        try simp only [List.getElem_toArray, List.getElem_cons_succ, List.getElem_cons_zero, List.getElem?_toArray, List.getElem?_cons_succ, List.getElem?_cons_zero, Act.put, List.setIfInBounds_toArray, List.set_cons_zero, List.set_cons_succ]
        refine fan_take (i := 7) (v := ?_) rfl (by kernel_rfl) (fun _ _ _ _ h => h) (by kernel_rfl) (HS.out _ b0) ?_ ?_
        rotate_left
        ·rintro w9 ⟨t0, t1, t2⟩
         go_simp
         try with_reducible rfl
        try simp only [List.getElem_toArray, List.getElem_cons_succ, List.getElem_cons_zero, List.getElem?_toArray, List.getElem?_cons_succ, List.getElem?_cons_zero, Act.put, List.setIfInBounds_toArray, List.set_cons_zero, List.set_cons_succ]
        refine fan_take (i := 8) (v := ?_) rfl (by kernel_rfl) (fun _ _ _ _ h => h) (by kernel_rfl) (HS.out _ b0) ?_ ?_
        rotate_left
        ·rintro w9 ⟨t0, t1, t2⟩
         go_simp
         try with_reducible rfl
        try simp only [List.getElem_toArray, List.getElem_cons_succ, List.getElem_cons_zero, List.getElem?_toArray, List.getElem?_cons_succ, List.getElem?_cons_zero, Act.put, List.setIfInBounds_toArray, List.set_cons_zero, List.set_cons_succ]
        refine fan_take (i := 9) (v := ?_) rfl (by kernel_rfl) (fun _ _ _ _ h => h) (by kernel_rfl) (HS.out _ b0) ?_ ?_
        rotate_left
        ·rintro w9 ⟨t0, t1, t2⟩
         go_simp
         try with_reducible rfl
        try simp only [List.getElem_toArray, List.getElem_cons_succ, List.getElem_cons_zero, List.getElem?_toArray, List.getElem?_cons_succ, List.getElem?_cons_zero, Act.put, List.setIfInBounds_toArray, List.set_cons_zero, List.set_cons_succ]
        refine fan_take (i := 10) (v := ?_) rfl (by kernel_rfl) (fun _ _ _ _ h => h) (by kernel_rfl) (HS.out _ b0) ?_ ?_
        rotate_left
        ·rintro w9 ⟨t0, t1, t2⟩
         go_simp
         try with_reducible rfl
        try simp only [List.getElem_toArray, List.getElem_cons_succ, List.getElem_cons_zero, List.getElem?_toArray, List.getElem?_cons_succ, List.getElem?_cons_zero, Act.put, List.setIfInBounds_toArray, List.set_cons_zero, List.set_cons_succ]
        refine fan_take (i := 11) (v := ?_) rfl (by kernel_rfl) (fun _ _ _ _ h => h) (by kernel_rfl) (HS.out _ b0) ?_ ?_
        rotate_left
        ·rintro w9 ⟨t0, t1, t2⟩
         go_simp
         try with_reducible rfl
        try simp only [List.getElem_toArray, List.getElem_cons_succ, List.getElem_cons_zero, List.getElem?_toArray, List.getElem?_cons_succ, List.getElem?_cons_zero, Act.put, List.setIfInBounds_toArray, List.set_cons_zero, List.set_cons_succ]
        refine fan_take (i := 12) (v := ?_) rfl (by kernel_rfl) (fun _ _ _ _ h => h) (by kernel_rfl) (HS.out _ b0) ?_ ?_
        rotate_left
        ·rintro w9 ⟨t0, t1, t2⟩
         go_simp
         try with_reducible rfl
        try simp only [List.getElem_toArray, List.getElem_cons_succ, List.getElem_cons_zero, List.getElem?_toArray, List.getElem?_cons_succ, List.getElem?_cons_zero, Act.put, List.setIfInBounds_toArray, List.set_cons_zero, List.set_cons_succ]
        refine fan_two 13 17 (by kernel_rfl) ?_ ?_
        ·
         refine fan_step rfl (by kernel_rfl) fun K hK => ?_
         refine wp_call_of 27 _ _ (by rfl) #[.agg #[.slice al5 dl1 cl5, .slice ac5 dl2 cd5], .int .i64 (4 * (p : Int) + (J : Int)), .int .i64 (T : Int), .int .u8 zb] (by simp [Act.eval]) (Try.call27 _ _) (KW.out _ b0) ?_
         rintro e c1 ⟨al6, cl6, ac6, cd6, dl3, dl4, rfl, oF, bF⟩
         have b1 := b0.trans (bF.out.mono b0.size)
         have HO : Hid (Own SStP wr.heap.size c1 [.slice al6 dl3 cl6, .slice ac6 dl4 cd6] d') := oF.out.mono b0.size
         refine ⟨_, rfl, hK _ _ (HS.out _ b1) ?_⟩
         clear hK K bF oF
         try simp only [List.getElem_toArray, List.getElem_cons_succ, List.getElem_cons_zero, List.getElem?_toArray, List.getElem?_cons_succ, List.getElem?_cons_zero, Act.put, List.setIfInBounds_toArray, List.set_cons_zero, List.set_cons_succ]
         refine fan_take (i := 14) (v := ?_) rfl (by kernel_rfl) (fun _ _ _ _ h => h) (by kernel_rfl) (HS.out _ b1) ?_ ?_
         rotate_left
         ·rintro w9 ⟨t0, t1, t2⟩
          go_simp
          try with_reducible rfl
         try simp only [List.getElem_toArray, List.getElem_cons_succ, List.getElem_cons_zero, List.getElem?_toArray, List.getElem?_cons_succ, List.getElem?_cons_zero, Act.put, List.setIfInBounds_toArray, List.set_cons_zero, List.set_cons_succ]
         refine fan_take (i := 15) (v := ?_) rfl (by kernel_rfl) (fun _ _ _ _ h => h) (by kernel_rfl) (HS.out _ b1) ?_ ?_
         rotate_left
         ·rintro w9 ⟨t0, t1, t2⟩
          go_simp
          try with_reducible rfl
         try simp only [List.getElem_toArray, List.getElem_cons_succ, List.getElem_cons_zero, List.getElem?_toArray, List.getElem?_cons_succ, List.getElem?_cons_zero, Act.put, List.setIfInBounds_toArray, List.set_cons_zero, List.set_cons_succ]
         refine fan_take (i := 16) (v := ?_) rfl (by kernel_rfl) (fun _ _ _ _ h => h) (by kernel_rfl) (HS.out _ b1) ?_ ?_
         rotate_left
         ·rintro w9 ⟨t0, t1, t2⟩
          go_simp
          try with_reducible rfl
         try simp only [List.getElem_toArray, List.getElem_cons_succ, List.getElem_cons_zero, List.getElem?_toArray, List.getElem?_cons_succ, List.getElem?_cons_zero, Act.put, List.setIfInBounds_toArray, List.set_cons_zero, List.set_cons_succ]
         refine fan_one 17 (by kernel_rfl) ?_
         refine fan_step rfl (by kernel_rfl) fun K hK => ?_
         go_simp
         obtain ⟨c2, hc, h9, bc, sc⟩ := boxed_row c1 (.slice none 0 0) (.slice none 0 0) 31
         rw [← hc]
         have b2 := b1.trans (bc.mono b1.size)
         obtain ⟨g9, hg9⟩ : ∃ g, g = c1.heap.size := ⟨_, rfl⟩
         rw [← hg9] at h9
         rw [← hg9]
         have l9 : wr.heap.size ≤ g9 := by have := b1.size; omega
         replace HO : Hid (∃ F, OwnF SStP F c2 [.slice al6 dl3 cl6, .slice ac6 dl4 cd6] d' ∧ g9 ∉ F ∧ ∀ b, b ∈ F → wr.heap.size ≤ b) := by
          obtain ⟨F, h1, h2, h3⟩ := HO.out
          have hF : OwnF SStP F c1 [.slice al6 dl3 cl6, .slice ac6 dl4 cd6] d' := ⟨h1, h2⟩
          exact ⟨F, hF.to bc, fun hh => by have := hF.lt _ hh; omega, h3⟩
         refine hK _ _ (HS.out _ b2) ?_
         clear hK K hc bc sc hg9
         try simp only [List.getElem_toArray, List.getElem_cons_succ, List.getElem_cons_zero, List.getElem?_toArray, List.getElem?_cons_succ, List.getElem?_cons_zero, Act.put, List.setIfInBounds_toArray, List.set_cons_zero, List.set_cons_succ]
         obtain ⟨y0, y1, y2, y3⟩ := row2_cells h9
         refine fan_one 18 (by kernel_rfl) ?_
         refine fan_step rfl (by kernel_rfl) fun K hK => ?_
         go_simp
         obtain ⟨d1, hd1⟩ : ∃ d, d = (c2.setCell ⟨g9, 0, none⟩ (.slice al6 dl3 cl6)).setCell ⟨g9, 1, none⟩ (.slice ac6 dl4 cd6) := ⟨_, rfl⟩
         rw [← hd1]
         have e1 : Below wr.heap.size wr d1 := by rw [hd1]; exact below_set2 b2 l9 _ _
         have i9 : d1.heap[g9]? = some (.cells #[.slice al6 dl3 cl6, .slice ac6 dl4 cd6] 31 (0, 0)) := by rw [hd1]; exact heap_set2 h9 _ _
         have oG : Own SStP wr.heap.size d1 [.slice al6 dl3 cl6, .slice ac6 dl4 cd6] d' := by
          obtain ⟨F, h1, h2, h3⟩ := HO.out
          rw [hd1]
          exact ((h1.set (a := ⟨g9, 0, none⟩) h2 _).set (a := ⟨g9, 1, none⟩) h2 _).own h3
         refine hK _ _ (HS.out _ e1) ?_
         clear hK K y0 y1 y2 y3 hd1
         try simp only [List.getElem_toArray, List.getElem_cons_succ, List.getElem_cons_zero, List.getElem?_toArray, List.getElem?_cons_succ, List.getElem?_cons_zero, Act.put, List.setIfInBounds_toArray, List.set_cons_zero, List.set_cons_succ]
         refine fan_done (by kernel_rfl) ?_
         show wpList _ _ _ _ _ _
         have FIN := hide (And.intro i9 (And.intro oG (And.intro e1 l9)))
         clear e1 i9 oG HO HS KW
         go_wp2_with fail
         go_meet
         exact ⟨g9, _, _, rfl, rfl, FIN⟩
        ·
         refine fan_step rfl (by kernel_rfl) fun K hK => ?_
         go_simp
         obtain ⟨c1, hc, h9, bc, sc⟩ := boxed_row c0 (.slice none 0 0) (.slice none 0 0) 31
         rw [← hc]
         have b1 := b0.trans (bc.mono b0.size)
         obtain ⟨g9, hg9⟩ : ∃ g, g = c0.heap.size := ⟨_, rfl⟩
         rw [← hg9] at h9
         rw [← hg9]
         have l9 : wr.heap.size ≤ g9 := by have := b0.size; omega
         have s9 : g9 < c1.heap.size := lt_of_block h9
         refine hK _ _ (HS.out _ b1) ?_
         clear hK K hc bc sc hg9
         try simp only [List.getElem_toArray, List.getElem_cons_succ, List.getElem_cons_zero, List.getElem?_toArray, List.getElem?_cons_succ, List.getElem?_cons_zero, Act.put, List.setIfInBounds_toArray, List.set_cons_zero, List.set_cons_succ]
         refine fan_one 13 (by kernel_rfl) ?_
         refine fan_step rfl (by kernel_rfl) fun K hK => ?_
         refine wp_call_of 27 _ _ (by rfl) #[.agg #[.slice al5 dl1 cl5, .slice ac5 dl2 cd5], .int .i64 (4 * (p : Int) + (J : Int)), .int .i64 (T : Int), .int .u8 zb] (by simp [Act.eval]) (Try.call27 _ _) (KW.out _ b1) ?_
         rintro e c2 ⟨al6, cl6, ac6, cd6, dl3, dl4, rfl, oF, bF⟩
         have b2 := b1.trans (bF.out.mono b1.size)
         replace h9 := (bF.out.block _ (lt_of_block h9)).trans h9
         have HO : Hid (∃ F, OwnF SStP F c2 [.slice al6 dl3 cl6, .slice ac6 dl4 cd6] d' ∧ g9 ∉ F ∧ ∀ b, b ∈ F → wr.heap.size ≤ b) := by
          obtain ⟨F, h1, h2, h3⟩ := oF.out
          exact ⟨F, ⟨h1, h2⟩, fun hh => by have := h3 _ hh; omega, fun b hb => by have := h3 b hb; have := b1.size; omega⟩
         refine ⟨_, rfl, hK _ _ (HS.out _ b2) ?_⟩
         clear hK K bF oF
         try simp only [List.getElem_toArray, List.getElem_cons_succ, List.getElem_cons_zero, List.getElem?_toArray, List.getElem?_cons_succ, List.getElem?_cons_zero, Act.put, List.setIfInBounds_toArray, List.set_cons_zero, List.set_cons_succ]
         refine fan_take (i := 14) (v := ?_) rfl (by kernel_rfl) (fun _ _ _ _ h => h) (by kernel_rfl) (HS.out _ b2) ?_ ?_
         rotate_left
         ·rintro w9 ⟨t0, t1, t2⟩
          go_simp
          try with_reducible rfl
         try simp only [List.getElem_toArray, List.getElem_cons_succ, List.getElem_cons_zero, List.getElem?_toArray, List.getElem?_cons_succ, List.getElem?_cons_zero, Act.put, List.setIfInBounds_toArray, List.set_cons_zero, List.set_cons_succ]
         refine fan_take (i := 15) (v := ?_) rfl (by kernel_rfl) (fun _ _ _ _ h => h) (by kernel_rfl) (HS.out _ b2) ?_ ?_
         rotate_left
         ·rintro w9 ⟨t0, t1, t2⟩
          go_simp
          try with_reducible rfl
         try simp only [List.getElem_toArray, List.getElem_cons_succ, List.getElem_cons_zero, List.getElem?_toArray, List.getElem?_cons_succ, List.getElem?_cons_zero, Act.put, List.setIfInBounds_toArray, List.set_cons_zero, List.set_cons_succ]
         refine fan_take (i := 16) (v := ?_) rfl (by kernel_rfl) (fun _ _ _ _ h => h) (by kernel_rfl) (HS.out _ b2) ?_ ?_
         rotate_left
         ·rintro w9 ⟨t0, t1, t2⟩
          go_simp
          try with_reducible rfl
         try simp only [List.getElem_toArray, List.getElem_cons_succ, List.getElem_cons_zero, List.getElem?_toArray, List.getElem?_cons_succ, List.getElem?_cons_zero, Act.put, List.setIfInBounds_toArray, List.set_cons_zero, List.set_cons_succ]
         obtain ⟨y0, y1, y2, y3⟩ := row2_cells h9
         refine fan_one 18 (by kernel_rfl) ?_
         refine fan_step rfl (by kernel_rfl) fun K hK => ?_
         go_simp
         obtain ⟨d1, hd1⟩ : ∃ d, d = (c2.setCell ⟨g9, 0, none⟩ (.slice al6 dl3 cl6)).setCell ⟨g9, 1, none⟩ (.slice ac6 dl4 cd6) := ⟨_, rfl⟩
         rw [← hd1]
         have e1 : Below wr.heap.size wr d1 := by rw [hd1]; exact below_set2 b2 l9 _ _
         have i9 : d1.heap[g9]? = some (.cells #[.slice al6 dl3 cl6, .slice ac6 dl4 cd6] 31 (0, 0)) := by rw [hd1]; exact heap_set2 h9 _ _
         have oG : Own SStP wr.heap.size d1 [.slice al6 dl3 cl6, .slice ac6 dl4 cd6] d' := by
          obtain ⟨F, h1, h2, h3⟩ := HO.out
          rw [hd1]
          exact ((h1.set (a := ⟨g9, 0, none⟩) h2 _).set (a := ⟨g9, 1, none⟩) h2 _).own h3
         refine hK _ _ (HS.out _ e1) ?_
         clear hK K y0 y1 y2 y3 hd1
         try simp only [List.getElem_toArray, List.getElem_cons_succ, List.getElem_cons_zero, List.getElem?_toArray, List.getElem?_cons_succ, List.getElem?_cons_zero, Act.put, List.setIfInBounds_toArray, List.set_cons_zero, List.set_cons_succ]
         refine fan_done (by kernel_rfl) ?_
         show wpList _ _ _ _ _ _
         have FIN := hide (And.intro i9 (And.intro oG (And.intro e1 l9)))
         clear e1 i9 oG HO HS KW
         go_wp2_with fail
         go_meet
         exact ⟨g9, _, _, rfl, rfl, FIN⟩
       case rest =>
       obtain ⟨g9, s6, c6, rfl, rfl, hC⟩ := hcut
       obtain ⟨i9, oG, e1, l9⟩ := hC.out
       obtain ⟨a6, n6, c6', a7, n7, c7', hv, hv2⟩ : ∃ al n cl ac m cd, s6 = .slice al n cl ∧ c6 = .slice ac m cd := by
        obtain ⟨F, hF, _⟩ := oG.foot
        obtain ⟨al, cl, ac, cd, h1, h2⟩ := own_form' hF
        exact ⟨_, _, _, _, _, _, h1, h2⟩
       subst hv hv2
       obtain ⟨hcb, hlt, -⟩ := HCL.out
       have hI := hG.out
       have hgbw : gb < wr.heap.size := hI.br.lt
       have r1 := (e1.block _ (lt_of_block HRW.out)).trans HRW.out
       obtain ⟨DV, BRV, kk, fzb, clb⟩ := DBox.over3 (p := p) ⟨_, _, r1⟩ oG hI.bx.lt hgbw (by have := hgb.out; omega) (hI.br.to e1)
       have clb' := clb _ hbb
       have FIN : Hid (L2 w gD gb n x0 (((wc.setCell ⟨gD, 0, none⟩ (.slice a6 n6 c6')).setCell ⟨gD, 1, none⟩ (.slice a7 n7 c7')).setCell ⟨gb, p, none⟩ (.bool true)) v d' (bad.set p true)) := by
        refine ⟨HM.out.2, DV, BRV, ?_, ?_⟩
        ·exact rows_keepT (hI.pl.to e1) (kk _ (by decide) (by decide))
        ·have h1 := hI.bel.trans (e1.mono hI.bel.size)
         exact (below_set2 h1 hgw _ _).setCell (p := ⟨gb, p, none⟩) hgb.out.2 _
       obtain ⟨y0, y1, y2, y3⟩ := row2_cells i9
       obtain ⟨x0', x1', x2', x3'⟩ := row2_cells r1
       clear DV BRV kk clb hI hgbw r1 i9 oG e1 l9 HS KW hC b0 hcb HM HRW HCL
       go_wp2_with fail
       refine (unum_any _ _).mono ?_
       rintro e w' ⟨rfl, rfl⟩
       go_wp2
       go_roundw
       case rel => exact ⟨j + 1, _, _, hlt, by go_num, FIN⟩
       case measure => simp [intOf]; omega
    ·rw [decide_eq_false hgo]
     clear hgo hj
     have hI := hG.out
     have hup := hI.fi.tells hn10 (by rw [hXN.out]; exact hnx)
     obtain ⟨s, c, hrow, F, hF, nb⟩ := hI.bx.st
     obtain ⟨al5, cl5, ac5, cd5, hv, hv2⟩ : ∃ al cl ac cd, s = .slice al d.1.length cl ∧ c = .slice ac d.2.length cd := own_form' hF
     subst hv hv2
     obtain ⟨P1, P2⟩ := Own.fst (c := [.slice al5 d.1.length cl5]) (d := [.slice ac5 d.2.length cd5]) (show Own SStP 0 wr [.slice al5 d.1.length cl5, .slice ac5 d.2.length cd5] d from ⟨F, hF.1, hF.2, fun _ _ => Nat.zero_le _⟩) rfl
     have KP := ppages_any wr _ _ v d (pls n) P1.rdS P2.rdS hI.pl.rd
     rw [hup] at KP
     dsimp only at KP
     obtain ⟨dl1, hd1⟩ : ∃ k, d.1.length = k := ⟨_, rfl⟩
     obtain ⟨dl2, hd2⟩ : ∃ k, d.2.length = k := ⟨_, rfl⟩
     rw [hd1, hd2] at KP
     rw [hd1, hd2] at hrow
     obtain ⟨A0, A1, _, _⟩ := row2_cells hrow
     replace KP := hide KP
     clear P1 P2 hF nb hrow hup hd1 hd2
     go_wp2_with fail
     refine KP.out.mono ?_
     rintro e w4 ⟨v4, rfl, o4, b4⟩
     clear A0 A1 KP
     have HR4 := hide o4.rd
     have BR4 := hide (hI.br.to b4)
     have B4 := hide (hI.bel.trans (b4.mono hI.bel.size))
     have hbl := hide hI.fi.b
     obtain ⟨ga, gc, hv4⟩ := HR4.out.slice
     obtain ⟨GN, hGN⟩ : ∃ k, k = (badL bad n).length := ⟨_, rfl⟩
     have hGn : GN ≤ n := by rw [hGN]; exact badL_len _ _
     rw [← hGN] at hv4
     subst hv4
     replace hGN := hide hGN
     clear hI o4 b4
     dsimp only
     go_wp2_with fail
     refine (unum_any _ _).mono ?_
     rintro e w' ⟨rfl, rfl⟩
     go_wp2
     go_loopw [21, 22] (fun a p wr => ∃ (k : Nat) (m : Nat), k ≤ n ∧ m = (badL bad k).length ∧ a = .int .i64 m ∧ p = .int .i64 k ∧ Hid (Below w4.heap.size w4 wr)) (fun _ p _ => n - (intOf p).toNat)
     case atStart => exact ⟨0, 0, Nat.zero_le _, rfl, rfl, rfl, hide (Below.refl _ _)⟩
     case round =>
      obtain ⟨k, m, hk, hm, rfl, rfl, hB⟩ := hrel
      by_cases hlt : k < n
      ·have hq : (k : Int) < (n : Int) := by omega
       obtain ⟨bb, hbb⟩ : ∃ b, bad[k]? = some b := ⟨bad[k]'(by rw [hbl.out]; exact hlt), List.getElem?_eq_getElem _⟩
       have hcb := (BR4.out.to hB.out).cell hbb
       cases bb with
       | false =>
        have hm' : m = (badL bad (k + 1)).length := by rw [badL_no hbb]; exact hm
        replace hm := hide hm
        replace hm' := hide hm'
        replace hbb := hide hbb
        go_wp2
        go_roundw
        case rel => exact ⟨k + 1, m, by omega, hm'.out, rfl, by go_num, hB⟩
        case measure => simp [intOf]; omega
       | true =>
        have hat : (badL bad n)[m]? = some (1, (k : Int), 4 * (k : Int)) := by
         have := badL_at hbb (n - (k + 1))
         rw [show k + 1 + (n - (k + 1)) = n by omega, ← hm] at this
         exact this
        have hmG : m < GN := by rw [hGN.out]; exact (List.getElem?_eq_some_iff.1 hat).1
        have hmi : (m : Int) < (GN : Int) := by omega
        have hm' : m + 1 = (badL bad (k + 1)).length := by rw [badL_yes hbb, List.length_append, ← hm]; rfl
        have HRW := HR4.out.to0 hB.out
        have hsl : RdD wr (.slice ga GN gc) (badL bad n) := HRW
        obtain ⟨b, off, rfl, p1, p2, p3⟩ := hsl.d3 hat
        dsimp only at p1 p2 p3
        have t1 := neq_dP 1 (k : Int) (4 * (k : Int))
        have t2 := eqg_dP .neq
        replace hm := hide hm
        replace hm' := hide hm'
        replace hbb := hide hbb
        replace hat := hide hat
        clear HRW hsl
        go_wp2
        go_roundw
        case rel => exact ⟨k + 1, m + 1, by omega, hm'.out, by go_num, by go_num, hB⟩
        case measure => simp [intOf]; omega
      ·have hq : ¬ (k : Int) < (n : Int) := by omega
       have hkn : k = n := by omega
       have hmG : m = GN := by rw [hGN.out, hm, hkn]
       have BE := hide (B4.out.trans (hB.out.mono B4.out.size))
       replace hm := hide hm
       replace hkn := hide hkn
       have hmi : (m : Int) = (GN : Int) := by omega
       replace hmG := hide hmG
       go_wp2
       go_ret
       exact ⟨rfl, BE.out⟩
set_option maxRecDepth 100000 in
theorem lifted (os : Os) (started : os.Started) (H : Type) (enc : TypeId × Value → H) :
  ReturnsInHanded {} Try.checked os 4 .any (Rows.scrubFindsSpec.pre6 enc Try.prog Try.f4 Rows.scrubFindsRow.domain false) (Rows.scrubFindsSpec.post enc Try.prog Try.f4 false true false false) := by
 refine returnsInHanded_of_change_sized (C := Try.checked) own started (by kernel_rfl) Try.func4
  (ChangeSpec.witness6 (enc := enc) (C := Try.checked) false ⟨#[], #[.slice none 0 0, .slice none 0 0], []⟩ 8 (by kernel_rfl) (by kernel_rfl) (by kernel_rfl) (by kernel_rfl)) ?_
 intro W base args ds gs before hval0 hW hcnd hsz0 _
 have hsz : (DataW.weightsEach Try.prog (Try.f4.params.toList ++ Rows.scrubFindsSpec.plain.varTypes Try.prog) (ds ++ gs)).all (· ≤ reachBytes) = true := hsz0
 have hval : ∀ (j : Nat) t v, Try.f4.params[j]? = some t → args[j]? = some v → Value.okWide Try.prog W .any base t v := hval0
 have hW' := hW
 obtain ⟨p, q, hA0, hV, rfl, hfz, hnd⟩ := hW
 have hA : DataW.TrodAll enc Try.prog W 0 (fun _ => true) true Try.f4.params.toList args.toList ds p := hA0
 rw [Try.params4] at hA hval hsz
 obtain ⟨v0, vs0, d0, ds0, p0, q0, hargs, rfl, rfl, h0, r0⟩ := trodAll_cons hA
 obtain ⟨v1, vs1, d1, ds1, p1, q1, rfl, rfl, rfl, h1, r1⟩ := trodAll_cons r0
 obtain ⟨rfl, rfl, rfl⟩ := trodAll_nil r1
 obtain rfl : args = #[v0, v1] := by cases args; simp_all
 obtain ⟨rfl, rfl⟩ := trodVars_none hV
 obtain ⟨a0, len0, cap0, rfl⟩ := okWide_slice Try.underlying22 (hval 0 22 v0 rfl rfl)
 have lt0 : ∀ x ∈ p0, x.block < W.heap.size := by obtain ⟨m, hm⟩ := h0; exact DataW.trod_lt m _ _ _ hm
 have hh0 := h0
 obtain ⟨fu0, hf0⟩ := hh0
 obtain ⟨x0, g0, f0, b0⟩ := open_sectors.opened hf0
 obtain ⟨a1, len1, cap1, rfl⟩ := okWide_slice Try.underlying58 (hval 1 58 v1 rfl rfl)
 have lt1 : ∀ x ∈ p1, x.block < W.heap.size := by obtain ⟨m, hm⟩ := h1; exact DataW.trod_lt m _ _ _ hm
 have hh1 := h1
 obtain ⟨fu1, hf1⟩ := hh1
 obtain ⟨x1, g1, f1, b1⟩ := open_rots.opened hf1
 have m0 := f0 (reach_of hsz (j := 0) rfl rfl)
 have m1 := f1 (reach_of hsz (j := 1) rfl rfl)
 clear hA0 hval0 hsz0 hsz
 refine (walk W a0 len0 cap0 x0 g0 m0 a1 len1 cap1 x1 g1 m1).mono fun e W' ⟨he, bel⟩ => ?_
 subst he
 exact ⟨_, rfl, _, _, _, [], _, [], hW', trodAll_mk1 (shut_bool Try.underlying4 _), (trodAll_cons_mk (Below.trod laidOut (by kernel_rfl) (of_decide_eq_true (by kernel_rfl)) h0 bel lt0) (trodAll_cons_mk (Below.trod laidOut (by kernel_rfl) (of_decide_eq_true (by kernel_rfl)) h1 bel lt1) trodAll_mk0)), rfl, bel.frame _, fun h => by cases h⟩
theorem over : Rows.scrubFindsRow.holds Try.pinned (OpenSpec.ofChange Rows.scrubFindsSpec) :=
 OpenClaim.holds_of_wide 4 Try.f4 rfl rfl rfl rfl rfl rfl rfl ⟨rfl, rfl, rfl, rfl, rfl⟩ rfl rfl rfl rfl rfl (by kernel_rfl) Try.func4 (by kernel_rfl)
  (of_decide_eq_true (by kernel_rfl)) (by unfold Func.isWrapper; first | (rw [if_pos (by decide +kernel)]; kernel_rfl) | (rw [if_neg (by decide +kernel)]; exact ⟨rfl, rfl⟩))
  (fun os started H enc _ => lifted os started H enc)
end Go.Proofs.Ytjjicajodjophaa.scrubFinds
namespace Go.Proofs.Ytjjicajodjophaa
theorem scrubFinds_holds : Rows.ScrubFindsSaid := scrubFinds.over
end Go.Proofs.Ytjjicajodjophaa
