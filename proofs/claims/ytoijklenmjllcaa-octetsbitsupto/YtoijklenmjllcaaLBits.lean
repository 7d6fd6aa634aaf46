/-
  PROVED: whatever two lists of octets and size come in (together of bulk at most 1048576: the statement's second form), transeptlaw01.OctetsBits returns true and leaves the octets as they were: the statement of P1.2 and P1.3 (octets turned, weighed, held beside others and cut are as the page says; what is handed in stays).
-/
import Derived.Test.YtoijklenmjllcaaFrame
import Derived.Test.YtoijklenmjllcaaWeight
import Derived.Test.YtoijklenmjllcaaCutBoth
import Derived.Test.YtoijklenmjllcaaRefTurn
namespace Go.Proofs.Ytoijklenmjllcaa.octetsBits
open Go.ChangeShapes Go.WideShapes Go.ChangeAt Go.RowKit
set_option linter.unusedVariables false

set_option maxHeartbeats 2000000 in
theorem walk (w : World) (a0 : Option Addr) (len0 cap0 : Nat) (x0 : List UInt8) (e0 : x0.length = len0) (g0 : Rd w (.slice a0 len0 cap0) x0) (m0 : len0 ≤ 1048576)
    (a1 : Option Addr) (len1 cap1 : Nat) (x1 : List UInt8) (e1 : x1.length = len1) (g1 : Rd w (.slice a1 len1 cap1) x1) (m1 : len1 ≤ 1048576) (a2 : Int) (w2 : (Lit.int .i64 a2).wf = true) :
    Calls Try.prog 3 #[.slice a0 len0 cap0, .slice a1 len1 cap1, .int .i64 a2] w fun e w' => e = .returned (.bool true) ∧ Below w.heap.size w w' := by
  have hm : x0.length ≤ 1048576 := by rw [e0]; exact m0
  have hm1 : x1.length ≤ 1048576 := by rw [e1]; exact m1
  obtain ⟨er, xss, hsays, kc, kr⟩ := cut_says x0 hm a2
  obtain ⟨n, ea, ka, kra⟩ := apart_says x0 x1 hm
  have hbW := wt_le x0
  have KC := hide kc
  have KR := hide kr
  have KA := hide ka
  have KRA := hide kra
  clear e0 e1 w2 kc kr hsays ka kra
  go_enter Try.func3, Try.ntmps3
  go_wp2_with fail
  refine (copy_any _ _ x0 g0 (by omega)).mono ?_
  rintro e w1 ⟨v1, rfl, o1, b1⟩
  go_wp2_with fail
  refine (copy_any _ _ x1 (g1.to b1) (by omega)).mono ?_
  rintro e w2 ⟨v2, rfl, o2, b2⟩
  have c2 : Below w.heap.size w w2 := b1.trans (b2.mono b1.size)
  have r1 := o1.rd.to b2
  have r2 := o2.rd
  clear b1 b2 o1 o2
  go_wp2_with fail
  refine (KA.out _ _ _ r1 r2).mono ?_
  rintro e w3 ⟨rfl, b3⟩
  have c3 : Below w.heap.size w w3 := c2.trans (b3.mono c2.size)
  replace r1 := r1.to b3
  replace r2 := r2.to b3
  clear b3 c2
  go_wp2_with fail
  refine (KRA.out _ _ _ (g0.to c3) (g1.to c3)).mono ?_
  rintro e w4 ⟨rfl, b4⟩
  have c4 : Below w.heap.size w w4 := c3.trans (b4.mono c3.size)
  replace r1 := r1.to b4
  replace r2 := r2.to b4
  clear b4 c3
  go_wp2_with fail
  refine (KC.out _ _ r1).mono ?_
  rintro e w5 ⟨v5, rfl, o5, b5⟩
  have c5 : Below w.heap.size w w5 := c4.trans (b5.mono c4.size)
  replace r1 := r1.to b5
  replace r2 := r2.to b5
  have q5 := o5.rd
  clear b5 c4 o5
  go_wp2_with fail
  refine (KR.out _ _ (g0.to c5)).mono ?_
  rintro e w6 ⟨v6, rfl, o6, b6⟩
  have c6 : Below w.heap.size w w6 := c5.trans (b6.mono c5.size)
  replace r1 := r1.to b6
  replace r2 := r2.to b6
  replace q5 := q5.to b6
  have q6 := o6.rd
  clear b6 c5 o6
  go_wp2_with fail
  refine (turn_any _ _ x0 r1 (by omega)).mono ?_
  rintro e w7 ⟨v7, rfl, o7, b7⟩
  have c7 : Below w.heap.size w w7 := c6.trans (b7.mono c6.size)
  replace r1 := r1.to b7
  replace r2 := r2.to b7
  replace q5 := q5.to b7
  replace q6 := q6.to b7
  have t7 := o7.rd
  clear b7 c6 o7
  go_wp2_with fail
  refine (refTurn_any _ _ x0 (g0.to c7) (by omega)).mono ?_
  rintro e w8 ⟨v8, rfl, o8, b8⟩
  have c8 : Below w.heap.size w w8 := c7.trans (b8.mono c7.size)
  replace r1 := r1.to b8
  replace r2 := r2.to b8
  replace q5 := q5.to b8
  replace q6 := q6.to b8
  replace t7 := t7.to b8
  have t8 := o8.rd
  clear b8 c7 o8
  go_wp2_with fail
  have hq := same_any _ _ _ _ _ t7 t8
  rw [sameB_self] at hq
  refine hq.mono ?_
  rintro e w9 ⟨rfl, k9, hw⟩
  have b9 : Below w8.heap.size w8 w9 := by rw [hw]; exact below_drewN' _ _ _
  have c9 : Below w.heap.size w w9 := c8.trans (b9.mono c8.size)
  replace r1 := r1.to b9
  replace r2 := r2.to b9
  replace q5 := q5.to b9
  replace q6 := q6.to b9
  clear hq hw t7 t8 b9 c8
  go_wp2_with fail
  refine (weight_any _ _ x0 r1 (by omega)).mono ?_
  rintro e w10 ⟨rfl, rfl⟩
  go_wp2_with fail
  refine (refWeight_any _ _ x0 (g0.to c9) (by omega)).mono ?_
  rintro e w11 ⟨rfl, rfl⟩
  generalize wt x0 = V at *
  go_wp2_with fail
  refine (num_any _ _).mono ?_
  rintro e w12 ⟨rfl, rfl⟩
  go_wp2_with fail
  have hq := sameLists_any _ _ _ _ _ q5 q6
  rw [sameLB_eq rfl] at hq
  refine hq.mono ?_
  rintro e w13 ⟨rfl, k13, hw⟩
  replace r1 := r1.drewN k13
  replace r2 := r2.drewN k13
  have c13 := c9.trans (below_drewN' _ k13 _)
  rw [← hw] at r1 r2 c13
  clear hq hw q5 q6 c9
  go_wp2_with fail
  refine (num_any _ _).mono ?_
  rintro e w14 ⟨rfl, rfl⟩
  go_wp2_with fail
  have hq := same_any _ _ _ _ _ r1 (g0.to c13)
  rw [sameB_self] at hq
  refine hq.mono ?_
  rintro e w15 ⟨rfl, k15, hw⟩
  replace r2 := r2.drewN k15
  have c15 := c13.trans (below_drewN' _ k15 _)
  rw [← hw] at r2 c15
  clear hq hw r1 c13
  go_wp2_with fail
  have hq := same_any _ _ _ _ _ r2 (g1.to c15)
  rw [sameB_self] at hq
  refine hq.mono ?_
  rintro e w16 ⟨rfl, k16, hw⟩
  have c16 := c15.trans (below_drewN' _ k16 _)
  rw [← hw] at c16
  clear hq hw r2 c15
  go_wp2_with fail
  refine (alive_any _).mono ?_
  rintro e w17 ⟨rfl, b17⟩
  have c17 := c16.trans (b17.mono c16.size)
  clear b17 c16
  go_wp2
  go_ret
  exact ⟨rfl, c17⟩

set_option maxRecDepth 100000 in
theorem lifted (os : Os) (started : os.Started) (H : Type) (enc : TypeId × Value → H) (F : Stop.Interp) :
    ReturnsInHanded {} Try.checked os 3 .any ((Rows.OpenSpec.upto Rows.octetsBitsSpec).pre6 enc Try.prog Try.f3 Rows.octetsBitsUptoRow.domain false) (((Rows.OpenSpec.upto Rows.octetsBitsSpec).at F).post enc Try.prog Try.f3 false true false false) := by
  refine returnsInHanded_of_cond (C := Try.checked) (s := Rows.OpenSpec.upto Rows.octetsBitsSpec) (k := Rows.uptoSmall) rfl own started (by kernel_rfl) Try.func3
    (OpenSpec.witness (enc := enc) (C := Try.checked) (s := Rows.OpenSpec.upto Rows.octetsBitsSpec) (k := Rows.uptoSmall) rfl false ⟨#[], #[.slice none 0 0, .slice none 0 0, .int .i64 0], []⟩ 8 (by kernel_rfl) (by kernel_rfl) (by kernel_rfl)
      (x := ([.nil, .nil, .lit (.int .i64 0)], [], [])) (by kernel_rfl) rfl (by kernel_rfl)) ?_
  intro W base args ds gs before hval0 hW _ hk _
  have hval : ∀ (j : Nat) t v, Try.f3.params[j]? = some t → args[j]? = some v → Value.okWide Try.prog W .any base t v := hval0
  have hW' := hW
  obtain ⟨p, q, hA0, hV, rfl, hfz, hnd⟩ := hW
  have hA : DataW.TrodAll enc Try.prog W 0 (fun _ => true) true Try.f3.params.toList args.toList ds p := hA0
  rw [Try.params3] at hA hval
  obtain ⟨v0, vs0, d0, ds0, p0, q0, hargs, rfl, rfl, h0, r0⟩ := trodAll_cons hA
  obtain ⟨v1, vs1, d1, ds1, p1, q1, rfl, rfl, rfl, h1, r1⟩ := trodAll_cons r0
  obtain ⟨v2, vs2, d2, ds2, p2, q2, rfl, rfl, rfl, h2, r2⟩ := trodAll_cons r1
  obtain ⟨rfl, rfl, rfl⟩ := trodAll_nil r2
  obtain rfl : args = #[v0, v1, v2] := by cases args; simp_all
  obtain ⟨rfl, rfl⟩ := trodVars_none hV
  obtain ⟨a0, len0, cap0, rfl⟩ := okWide_slice Try.underlying22 (hval 0 22 v0 rfl rfl)
  have lt0 : ∀ x ∈ p0, x.block < W.heap.size := by obtain ⟨m, hm⟩ := h0; exact DataW.trod_lt m _ _ _ hm
  obtain ⟨x0, e0, g0, s0⟩ := open_octs h0
  obtain ⟨a1, len1, cap1, rfl⟩ := okWide_slice Try.underlying22 (hval 1 22 v1 rfl rfl)
  have lt1 : ∀ x ∈ p1, x.block < W.heap.size := by obtain ⟨m, hm⟩ := h1; exact DataW.trod_lt m _ _ _ hm
  obtain ⟨x1, e1, g1, s1⟩ := open_octs h1
  obtain ⟨a2, rfl, rfl, rfl, w2⟩ := open_int Try.underlying3 (hval 2 3 v2 rfl rfl) h2
  simp only [List.append_nil] at hk
  have m0 := small_octs hk (d := d0) (by simp) s0
  have m1 := small_octs hk (d := d1) (by simp) s1
  clear hA0 hval0
  refine (walk W a0 len0 cap0 x0 e0 g0 m0 a1 len1 cap1 x1 e1 g1 m1 a2 w2).mono fun e W' ⟨he, bel⟩ => ?_
  subst he
  exact ⟨_, rfl, _, _, _, [], _, [], hW', trodAll_mk1 (shut_bool Try.underlying4 _), (trodAll_cons_mk (Below.trod laidOut (by kernel_rfl) (of_decide_eq_true (by kernel_rfl)) h0 bel lt0) (trodAll_cons_mk (Below.trod laidOut (by kernel_rfl) (of_decide_eq_true (by kernel_rfl)) h1 bel lt1) (trodAll_cons_mk (shut_int Try.underlying3 w2) trodAll_mk0))), rfl, bel.frame _, fun h => by cases h⟩

theorem over : Rows.octetsBitsUptoRow.holds Try.pinned (Rows.OpenSpec.upto Rows.octetsBitsSpec) :=
  OpenClaim.holds_of_cond 3 Try.f3 rfl rfl rfl rfl rfl rfl rfl ⟨rfl, rfl, rfl, rfl, rfl⟩ rfl rfl rfl rfl rfl (by kernel_rfl) Try.func3 (by kernel_rfl)
    (of_decide_eq_true (by kernel_rfl)) (by unfold Func.isWrapper; first | (rw [if_pos (by decide +kernel)]; kernel_rfl) | (rw [if_neg (by decide +kernel)]; exact ⟨rfl, rfl⟩))
    (fun os started H enc _ F => lifted os started H enc F)

end Go.Proofs.Ytoijklenmjllcaa.octetsBits
namespace Go.Proofs.Ytoijklenmjllcaa
/-- THE STATEMENT -/
theorem octetsBits_holds : Rows.OctetsBitsUptoSaid := octetsBits.over
end Go.Proofs.Ytoijklenmjllcaa
