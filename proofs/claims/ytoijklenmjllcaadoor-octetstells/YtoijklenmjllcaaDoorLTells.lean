/-
  PROVED: whatever number, size, octets and int come in, transeptlaw01.OctetsTells returns true and leaves the octets as they were: the statement of P1.1 (numbers as octets, octets as numbers, and digits, are the page's; what is handed in stays). The library's three tables (two of math/bits, one of internal/strconv) hold what the program's text lays: the card ties that.
-/
import Derived.Deep.DeepHandedRow
import Derived.Lib.LaidTab
import Derived.Lib.AppendIntMem
import Derived.Stop.LaidErr
import Derived.WalkSmall
import Derived.Test.YtoijklenmjllcaaDoorTie
import Derived.Test.YtoijklenmjllcaaDoorCards
import Derived.Test.YtoijklenmjllcaaDoorShelf
import Derived.Test.YtoijklenmjllcaaDoorFrame
import Derived.Test.YtoijklenmjllcaaDoorRefPut
import Derived.Test.YtoijklenmjllcaaDoorRefDec
namespace Go.Proofs.YtoijklenmjllcaaDoor.octetsTells
open Go.ChangeShapes Go.WideShapes Go.ChangeAt Go.RowKit
set_option linter.unusedVariables false

theorem gTab : Tryd.prog.globalNamed "internal/strconv.uint64pow10" = some 0 := by kernel_rfl

theorem tab_below {w u : World} (h : Lib.TabIs Tryd.prog w "internal/strconv.uint64pow10" .u64 Lib.pow10Tab) (hb : Below w.heap.size w u) : Lib.TabIs Tryd.prog u "internal/strconv.uint64pow10" .u64 Lib.pow10Tab := by
  have h0 : 0 < w.heap.size := by
    have := h.cell gTab 0 (by decide)
    exact cell_lt this
  exact var?_below hb gTab h0 h

set_option maxHeartbeats 400000 in
theorem decimal_any (u : World) (n : Int) (h0 : -9223372036854775808 ≤ n) (h1 : n ≤ 9223372036854775807) (htab : Lib.TabIs Tryd.prog u "internal/strconv.uint64pow10" .u64 Lib.pow10Tab) :
    Calls Tryd.prog 11 #[.int .i64 n] u fun e w' => e = .returned (.string ⟨(Lib.itoa n).toArray⟩) ∧ Below u.heap.size u w' := by
  have K := hide (Tryd.strconv_Itoa n h0 h1 u htab)
  clear htab
  go_enter Tryd.func11, Tryd.ntmps11
  go_wp2_with fail
  refine K.out.mono ?_
  rintro e w' ⟨rfl, k, os, hw⟩
  have hb : Below u.heap.size u w' := by rw [hw]; exact Lib.below_grow _ _ (Nat.le_refl _) _ _
  clear hw
  go_wp2
  go_ret
  exact ⟨rfl, hb⟩

set_option maxHeartbeats 1000000 in
theorem walk (w : World) (htab : Lib.TabIs Tryd.prog w "internal/strconv.uint64pow10" .u64 Lib.pow10Tab) (a0 : Int) (w0 : (Lit.int .u64 a0).wf = true) (a1 : Int) (w1 : (Lit.int .i64 a1).wf = true)
    (a2 : Option Addr) (len2 cap2 : Nat) (x2 : List UInt8) (e2 : x2.length = len2) (g2 : Rd w (.slice a2 len2 cap2) x2) (m2 : len2 ≤ 140737488351232) (a3 : Int) (w3 : (Lit.int .i64 a3).wf = true) :
    Calls Tryd.prog 3 #[.int .u64 a0, .int .i64 a1, .slice a2 len2 cap2, .int .i64 a3] w fun e w' => e = .returned (.bool true) ∧ Below w.heap.size w w' := by
  have hx : 0 ≤ a0 ∧ a0 ≤ 18446744073709551615 := by simpa [Lit.wf, IntKind.min, IntKind.max, IntKind.signed, IntKind.bits] using w0
  have hx3 : -9223372036854775808 ≤ a3 ∧ a3 ≤ 9223372036854775807 := by simpa [Lit.wf, IntKind.min, IntKind.max, IntKind.signed, IntKind.bits] using w3
  obtain ⟨n, rfl⟩ := Int.eq_ofNat_of_zero_le hx.1
  obtain ⟨ep, xp, kp, krp⟩ := put_says n (by omega) a1
  obtain ⟨ng, eg, kg, krg⟩ := get_says x2
  have hl2 : x2.length ≤ 140737488355328 := by omega
  have KP := hide kp
  have KRP := hide krp
  have KG := hide kg
  have KRG := hide krg
  have KD := hide (fun u hu => decimal_any u a3 hx3.1 hx3.2 (tab_below htab hu))
  have KRD := hide (fun u => refDecimal_any u a3 hx3.1 hx3.2)
  clear w0 w1 w3 kp krp kg krg htab e2
  go_enter Tryd.func3, Tryd.ntmps3
  go_wp2_with fail
  refine (copy_any _ _ x2 g2 hl2).mono ?_
  rintro e u1 ⟨v1, rfl, o1, c1⟩
  have r1 := o1.rd
  clear o1
  go_wp2_with fail
  refine (KP.out _).mono ?_
  rintro e u2 ⟨v2, rfl, r2, b2⟩
  have c2 := c1.trans (b2.mono c1.size)
  replace r1 := r1.to b2
  clear b2 c1
  go_wp2_with fail
  refine (KRP.out _).mono ?_
  rintro e u3 ⟨v3, rfl, r3, b3⟩
  have c3 := c2.trans (b3.mono c2.size)
  replace r1 := r1.to b3
  replace r2 := r2.to b3
  clear b3 c2
  go_wp2_with fail
  refine (KG.out _ _ r1).mono ?_
  rintro e u4 ⟨rfl, b4⟩
  have c4 := c3.trans (b4.mono c3.size)
  replace r1 := r1.to b4
  replace r2 := r2.to b4
  replace r3 := r3.to b4
  clear b4 c3
  go_wp2_with fail
  refine (KRG.out _ _ (g2.to c4)).mono ?_
  rintro e u5 ⟨rfl, b5⟩
  have c5 := c4.trans (b5.mono c4.size)
  replace r1 := r1.to b5
  replace r2 := r2.to b5
  replace r3 := r3.to b5
  clear b5 c4
  go_wp2_with fail
  have hq := same_any _ _ _ _ _ r2 r3
  rw [sameB_self] at hq
  refine hq.mono ?_
  rintro e u6 ⟨rfl, k6, hw⟩
  have c6 := c5.trans (below_drewN' _ k6 _)
  replace r1 := r1.drewN k6
  rw [← hw] at c6 r1
  clear hq hw r2 r3 c5
  go_wp2_with fail
  refine (num_any _ _).mono ?_
  rintro e u7 ⟨rfl, rfl⟩
  go_wp2_with fail
  refine (num_any _ _).mono ?_
  rintro e u7 ⟨rfl, rfl⟩
  go_wp2_with fail
  refine (KD.out _ c6).mono ?_
  rintro e u8 ⟨rfl, b8⟩
  have c8 := c6.trans (b8.mono c6.size)
  replace r1 := r1.to b8
  clear b8 c6
  go_wp2_with fail
  refine (KRD.out _).mono ?_
  rintro e u9 ⟨rfl, b9⟩
  have c9 := c8.trans (b9.mono c8.size)
  replace r1 := r1.to b9
  clear b9 c8
  generalize (Lib.itoa a3).toArray = S at *
  go_wp2_with fail
  have hq := same_any _ _ _ _ _ r1 (g2.to c9)
  rw [sameB_self] at hq
  refine hq.mono ?_
  rintro e u10 ⟨rfl, k10, hw⟩
  have c10 := c9.trans (below_drewN' _ k10 _)
  rw [← hw] at c10
  clear hq hw r1 c9
  go_wp2_with fail
  refine (alive_any _).mono ?_
  rintro e u11 ⟨rfl, b11⟩
  have c11 := c10.trans (b11.mono c10.size)
  clear b11 c10
  go_wp2
  go_ret
  exact ⟨rfl, c11⟩

theorem table {W : World} (h : laidMetH Tryd.prog Rows.octetsTellsRow.laid W) : Lib.TabIs Tryd.prog W "internal/strconv.uint64pow10" .u64 Lib.pow10Tab :=
  Lib.tabIs_of_head (rest := []) gTab (by kernel_rfl) Tryd.underlying58 Tryd.underlying22 (by kernel_rfl) (by kernel_rfl) (laidMet.tail (laidMet.tail h))

/-- a world for the witness: the settled one, its three tables laid -/
def laidHeap (h : Array Obj) : Array Obj :=
  ((h.modify 0 fun
      | .cells _ t frozen => .cells #[.int .u64 1, .int .u64 10, .int .u64 100, .int .u64 1000, .int .u64 10000, .int .u64 100000, .int .u64 1000000, .int .u64 10000000, .int .u64 100000000, .int .u64 1000000000, .int .u64 10000000000, .int .u64 100000000000, .int .u64 1000000000000, .int .u64 10000000000000, .int .u64 100000000000000, .int .u64 1000000000000000, .int .u64 10000000000000000, .int .u64 100000000000000000, .int .u64 1000000000000000000, .int .u64 10000000000000000000] t frozen
      | o => o).modify 1 fun
      | .cells _ t frozen => .cells #[.int .u8 0, .int .u8 1, .int .u8 28, .int .u8 2, .int .u8 29, .int .u8 14, .int .u8 24, .int .u8 3, .int .u8 30, .int .u8 22, .int .u8 20, .int .u8 15, .int .u8 25, .int .u8 17, .int .u8 4, .int .u8 8, .int .u8 31, .int .u8 27, .int .u8 13, .int .u8 23, .int .u8 21, .int .u8 19, .int .u8 16, .int .u8 7, .int .u8 26, .int .u8 12, .int .u8 18, .int .u8 6, .int .u8 11, .int .u8 5, .int .u8 10, .int .u8 9] t frozen
      | o => o).modify 2 fun
      | .cells _ t frozen => .cells #[.int .u8 0, .int .u8 1, .int .u8 56, .int .u8 2, .int .u8 57, .int .u8 49, .int .u8 28, .int .u8 3, .int .u8 61, .int .u8 58, .int .u8 42, .int .u8 50, .int .u8 38, .int .u8 29, .int .u8 17, .int .u8 4, .int .u8 62, .int .u8 47, .int .u8 59, .int .u8 36, .int .u8 45, .int .u8 43, .int .u8 51, .int .u8 22, .int .u8 53, .int .u8 39, .int .u8 33, .int .u8 30, .int .u8 24, .int .u8 18, .int .u8 12, .int .u8 5, .int .u8 63, .int .u8 55, .int .u8 48, .int .u8 27, .int .u8 60, .int .u8 41, .int .u8 37, .int .u8 16, .int .u8 46, .int .u8 35, .int .u8 44, .int .u8 21, .int .u8 52, .int .u8 32, .int .u8 23, .int .u8 11, .int .u8 54, .int .u8 26, .int .u8 40, .int .u8 15, .int .u8 34, .int .u8 20, .int .u8 31, .int .u8 10, .int .u8 25, .int .u8 14, .int .u8 19, .int .u8 9, .int .u8 13, .int .u8 8, .int .u8 7, .int .u8 6] t frozen
      | o => o
def zeroArgs : Array Value := #[.int .u64 0, .int .i64 0, .slice none 0 0, .int .i64 0]

set_option maxRecDepth 100000 in
theorem lifted (os : Os) (started : os.Started) (H : Type) (enc : TypeId × Value → H) (F : Stop.Interp) :
    ReturnsInHanded {} Tryd.checked os 3 .any ((OpenSpec.ofChange Rows.octetsTellsSpec).preRow enc Tryd.prog Tryd.f3 Rows.octetsTellsRow.domain false Rows.octetsTellsRow.laid) (((OpenSpec.ofChange Rows.octetsTellsSpec).at F).post enc Tryd.prog Tryd.f3 false true false false) := by
  refine returnsInHanded_of_row (C := Tryd.checked) (s := OpenSpec.ofChange Rows.octetsTellsSpec) own started (by kernel_rfl) Tryd.func3
    (witness_row_at (enc := enc) (C := Tryd.checked) false { World.holding Tryd.prog os ⟨#[], #[], []⟩ with heap := laidHeap (World.holding Tryd.prog os ⟨#[], #[], []⟩).heap } zeroArgs rfl (by kernel_rfl) (by kernel_rfl) (by kernel_rfl)
      (OpenSpec.preRow_of_cond 8 (x := ([.lit (.int .u64 0), .lit (.int .i64 0), .nil, .lit (.int .i64 0)], [], [])) (by kernel_rfl) (by kernel_rfl) (fun k hk => by cases hk) (by kernel_rfl) (laidMet_of_run' 8 (by kernel_rfl) (by kernel_rfl)))) ?_
  intro W base args ds gs before hval0 hW _ _ hsz0 hL _ _
  have hval : ∀ (j : Nat) t v, Tryd.f3.params[j]? = some t → args[j]? = some v → Value.okWide Tryd.prog W .any base t v := hval0
  have hsz : (DataW.weightsEach Tryd.prog (Tryd.f3.params.toList ++ (OpenSpec.ofChange Rows.octetsTellsSpec).bare.plain.varTypes Tryd.prog) (ds ++ gs)).all (· ≤ reachBytes) = true := hsz0
  have hW' := hW
  obtain ⟨p, q, hA0, hV, rfl, hfz, hnd⟩ := hW
  have hA : DataW.TrodAll enc Tryd.prog W 0 (fun _ => true) true Tryd.f3.params.toList args.toList ds p := hA0
  rw [Tryd.params3] at hA hval hsz
  obtain ⟨v0, vs0, d0, ds0, p0, q0, hargs, rfl, rfl, h0, r0⟩ := trodAll_cons hA
  obtain ⟨v1, vs1, d1, ds1, p1, q1, rfl, rfl, rfl, h1, r1⟩ := trodAll_cons r0
  obtain ⟨v2, vs2, d2, ds2, p2, q2, rfl, rfl, rfl, h2, r2⟩ := trodAll_cons r1
  obtain ⟨v3, vs3, d3, ds3, p3, q3, rfl, rfl, rfl, h3, r3⟩ := trodAll_cons r2
  obtain ⟨rfl, rfl, rfl⟩ := trodAll_nil r3
  obtain rfl : args = #[v0, v1, v2, v3] := by cases args; simp_all
  obtain ⟨rfl, rfl⟩ := trodVars_none hV
  obtain ⟨a0, rfl, rfl, rfl, w0⟩ := open_int Tryd.underlying22 (hval 0 22 v0 rfl rfl) h0
  obtain ⟨a1, rfl, rfl, rfl, w1⟩ := open_int Tryd.underlying3 (hval 1 3 v1 rfl rfl) h1
  obtain ⟨a2, len2, cap2, rfl⟩ := okWide_slice Tryd.underlying23 (hval 2 23 v2 rfl rfl)
  have lt2 : ∀ x ∈ p2, x.block < W.heap.size := by obtain ⟨m, hm⟩ := h2; exact DataW.trod_lt m _ _ _ hm
  obtain ⟨x2, e2, g2, s2⟩ := open_octs h2
  obtain ⟨a3, rfl, rfl, rfl, w3⟩ := open_int Tryd.underlying3 (hval 3 3 v3 rfl rfl) h3
  have m2 := reach_octs hsz (j := 2) rfl rfl s2
  clear hA0 hval0 hsz0 hsz
  refine (walk W (table hL) a0 w0 a1 w1 a2 len2 cap2 x2 e2 g2 m2 a3 w3).mono fun e W' ⟨he, bel⟩ => ?_
  subst he
  exact ⟨_, rfl, _, _, _, [], _, [], hW', trodAll_mk1 (shut_bool Tryd.underlying4 _), (trodAll_cons_mk (shut_int Tryd.underlying22 w0) (trodAll_cons_mk (shut_int Tryd.underlying3 w1) (trodAll_cons_mk (Below.trod laidOut (by kernel_rfl) (of_decide_eq_true (by kernel_rfl)) h2 bel lt2) (trodAll_cons_mk (shut_int Tryd.underlying3 w3) trodAll_mk0)))), rfl, bel.frame _, fun h => by cases h⟩

theorem said : Rows.OctetsTellsSaid :=
  OpenClaim.holds_of_cond 3 Tryd.f3 rfl rfl rfl rfl rfl rfl rfl ⟨rfl, rfl, rfl, rfl, rfl⟩ rfl rfl rfl rfl rfl (by kernel_rfl) Tryd.func3 (by kernel_rfl)
    (of_decide_eq_true (by kernel_rfl)) (by unfold Func.isWrapper; first | (rw [if_pos (by decide +kernel)]; kernel_rfl) | (rw [if_neg (by decide +kernel)]; exact ⟨rfl, rfl⟩))
    (fun os started H enc _ F => by rw [OpenClaim.pre_eq_preRow]; exact lifted os started H enc F)

/-- no parameter wants a stand-in; the program's own looks are off -/
theorem plain (f : FuncId) (fn : Func) (hf : Tryd.pinned.checked.prog.funcNamed Tryd.f3.name = some f) (hfn : Tryd.pinned.checked.prog.funcs[f]? = some fn) :
    false = Tryd.pinned.checked.prog.looks [] ∧ ∀ (j : Nat) t, fn.params[j]? = some t → Tryd.pinned.checked.prog.wantsStandIn t = false := by
  obtain rfl : f = 3 := Option.some.inj ((show Tryd.prog.funcNamed Tryd.f3.name = some 3 by kernel_rfl).symm.trans hf) |>.symm
  obtain rfl : fn = Tryd.f3 := (Option.some.inj (Tryd.func3.symm.trans hfn)).symm
  refine ⟨by kernel_rfl, fun j t ht => ?_⟩
  rw [Tryd.params3] at ht
  have hm := Array.mem_of_getElem? ht
  have hc : t = 22 ∨ t = 3 ∨ t = 23 := by
    simp at hm
    rcases hm with rfl | rfl | rfl | rfl <;> simp
  rcases hc with rfl | rfl | rfl
  · exact (show Tryd.prog.wantsStandIn 22 = false by kernel_rfl)
  · exact (show Tryd.prog.wantsStandIn 3 = false by kernel_rfl)
  · exact (show Tryd.prog.wantsStandIn 23 = false by kernel_rfl)

end Go.Proofs.YtoijklenmjllcaaDoor.octetsTells
namespace Go.Proofs.YtoijklenmjllcaaDoor
/-- THE CARD -/
theorem octetsTells_holds : Rows.OctetsTellsCardSaid :=
  Claim7.holds_tied_plain_at .later [] _ _ _ _ octetsTells.said (fun _ h => by cases h) (by kernel_rfl) (fun _ h => by cases h) octetsTells_row_tie rfl ⟨rfl, rfl⟩ (by kernel_rfl) rfl octetsTells.plain (by kernel_rfl)
end Go.Proofs.YtoijklenmjllcaaDoor
