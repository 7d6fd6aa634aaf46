/-
  PROVED: whatever number and octets come in, transeptlaw07.PagesTells returns true and leaves them as they were: the statement of P7.1 (any page as octets, and any octets read as one, are as the page says).
-/
import Derived.Deep.CutRange
import Derived.Test.YtliileemelcllaaPgSay
import Derived.Test.YtliileemelcllaaSame
import Derived.Test.YtliileemelcllaaFr
import Derived.Test.YtliileemelcllaaPgProg
namespace Go.Proofs.Ytliileemelcllaa.pagesTells
open Go.ChangeShapes Go.WideShapes Go.ChangeAt Go.RowKit
set_option linter.unusedVariables false

set_option maxRecDepth 100000 in
set_option maxHeartbeats 8000000 in
theorem walkS (S : PagesSay) (w : World) (a0 : Int) (w0' : (Lit.int .i64 a0).wf = true) (a1 : Option Addr) (len1 cap1 : Nat) (x1 : List UInt8) (e1 : x1.length = len1) (g1 : Rd w (.slice a1 len1 cap1) x1) (m1 : len1 ≤ 140737488351232) (a2 : Option Addr) (len2 cap2 : Nat) (x2 : List UInt8) (e2 : x2.length = len2) (g2 : Rd w (.slice a2 len2 cap2) x2) (m2 : len2 ≤ 140737488351232) :
    Calls Try.prog 3 #[.int .i64 a0, .slice a1 len1 cap1, .slice a2 len2 cap2] w fun e w' => e = .returned (.bool true) ∧ Below w.heap.size w w' := by
  have hid : -9223372036854775808 ≤ a0 ∧ a0 ≤ 9223372036854775807 := by simpa [Lit.wf, IntKind.min, IntKind.max, IntKind.signed, IntKind.bits] using w0'
  clear w0'
  subst e1 e2
  obtain ⟨xs, er, hE⟩ : ∃ xs er, pgenc a0 x1 = (xs, er) := ⟨_, _, rfl⟩
  obtain ⟨dn, ds, dr, hD⟩ : ∃ dn ds dr, pgdec x2 = (dn, ds, dr) := ⟨_, _, _, rfl⟩
  replace hE := hide hE
  replace hD := hide hD
  have CC := hide (Below.refl w.heap.size w)
  replace g1 := hide g1
  replace g2 := hide g2
  go_enter Try.func3, Try.ntmps3
  have KC := hide (copy_any w _ x1 g1.out (by omega))
  go_wp2_with fail
  refine KC.out.mono ?_
  rintro e w1 ⟨v, rfl, o, b⟩
  have RI := hide o.rd
  obtain ⟨s1, t1, hv1⟩ := o.rd.slice
  subst hv1
  replace g1 := hide (g1.out.to b)
  replace g2 := hide (g2.out.to b)
  replace CC := hide (CC.out.trans (b.mono CC.out.size))
  clear KC o b
  have KC := hide (copy_any w1 _ x2 g2.out (by omega))
  go_wp2_with fail
  refine KC.out.mono ?_
  rintro e w2 ⟨v, rfl, o, b⟩
  have RO := hide o.rd
  obtain ⟨s2, t2, hv2⟩ := o.rd.slice
  subst hv2
  replace g1 := hide (g1.out.to b)
  replace g2 := hide (g2.out.to b)
  replace RI := hide (RI.out.to b)
  replace CC := hide (CC.out.trans (b.mono CC.out.size))
  clear KC o b
  have KE := hide (S.encS w2 a0 _ x1 RI.out hid (by omega))
  rw [hE.out] at KE
  dsimp only at KE
  go_wp2_with fail
  refine KE.out.mono ?_
  rintro e w3 ⟨v, rfl, o, b⟩
  have RA := hide o.rd
  obtain ⟨s3, t3, hv3⟩ := o.rd.slice
  subst hv3
  replace g1 := hide (g1.out.to b)
  replace g2 := hide (g2.out.to b)
  replace RI := hide (RI.out.to b)
  replace RO := hide (RO.out.to b)
  replace CC := hide (CC.out.trans (b.mono CC.out.size))
  clear KE o b
  have KE := hide (rpgenc_any w3 a0 _ x1 g1.out)
  rw [hE.out] at KE
  dsimp only at KE
  go_wp2_with fail
  refine KE.out.mono ?_
  rintro e w4 ⟨v, rfl, o, b⟩
  have RB := hide o.rd
  obtain ⟨s4, t4, hv4⟩ := o.rd.slice
  subst hv4
  replace g1 := hide (g1.out.to b)
  replace g2 := hide (g2.out.to b)
  replace RI := hide (RI.out.to b)
  replace RO := hide (RO.out.to b)
  replace RA := hide (RA.out.to b)
  replace CC := hide (CC.out.trans (b.mono CC.out.size))
  clear KE o b
  have KE := hide (S.decS w4 _ x2 RO.out (by omega))
  rw [hD.out] at KE
  dsimp only at KE
  go_wp2_with fail
  refine KE.out.mono ?_
  rintro e w5 ⟨v, rfl, o, b⟩
  have RC := hide o.rd
  obtain ⟨s5, t5, hv5⟩ := o.rd.slice
  subst hv5
  replace g1 := hide (g1.out.to b)
  replace g2 := hide (g2.out.to b)
  replace RI := hide (RI.out.to b)
  replace RO := hide (RO.out.to b)
  replace RA := hide (RA.out.to b)
  replace RB := hide (RB.out.to b)
  replace CC := hide (CC.out.trans (b.mono CC.out.size))
  clear KE o b
  have KE := hide (rpgdec_any w5 _ x2 g2.out)
  rw [hD.out] at KE
  dsimp only at KE
  go_wp2_with fail
  refine KE.out.mono ?_
  rintro e w6 ⟨v, rfl, o, b⟩
  have RD := hide o.rd
  obtain ⟨s6, t6, hv6⟩ := o.rd.slice
  subst hv6
  replace g1 := hide (g1.out.to b)
  replace g2 := hide (g2.out.to b)
  replace RI := hide (RI.out.to b)
  replace RO := hide (RO.out.to b)
  replace RA := hide (RA.out.to b)
  replace RB := hide (RB.out.to b)
  replace RC := hide (RC.out.to b)
  replace CC := hide (CC.out.trans (b.mono CC.out.size))
  clear KE o b
  have KS := hide (same_any w6 _ _ xs xs RA.out RB.out)
  rw [sameB_self] at KS
  go_wp2_with fail
  refine KS.out.mono ?_
  rintro e w7 ⟨rfl, nd, hw⟩
  have b : Below w6.heap.size w6 w7 := by rw [hw]; exact below_drewN' _ _ _
  clear hw KS
  replace g1 := hide (g1.out.to b)
  replace g2 := hide (g2.out.to b)
  replace RI := hide (RI.out.to b)
  replace RO := hide (RO.out.to b)
  replace RA := hide (RA.out.to b)
  replace RB := hide (RB.out.to b)
  replace RC := hide (RC.out.to b)
  replace RD := hide (RD.out.to b)
  replace CC := hide (CC.out.trans (b.mono CC.out.size))
  clear b
  go_wp2_with fail
  refine (num7_any _ _).mono ?_
  rintro e w' ⟨rfl, rfl⟩
  have KS := hide (same_any w7 _ _ ds ds RC.out RD.out)
  rw [sameB_self] at KS
  go_wp2_with fail
  refine KS.out.mono ?_
  rintro e w8 ⟨rfl, nd, hw⟩
  have b : Below w7.heap.size w7 w8 := by rw [hw]; exact below_drewN' _ _ _
  clear hw KS
  replace g1 := hide (g1.out.to b)
  replace g2 := hide (g2.out.to b)
  replace RI := hide (RI.out.to b)
  replace RO := hide (RO.out.to b)
  replace RA := hide (RA.out.to b)
  replace RB := hide (RB.out.to b)
  replace RC := hide (RC.out.to b)
  replace RD := hide (RD.out.to b)
  replace CC := hide (CC.out.trans (b.mono CC.out.size))
  clear b
  go_wp2_with fail
  refine (num7_any _ _).mono ?_
  rintro e w' ⟨rfl, rfl⟩
  have KS := hide (same_any w8 _ _ x1 x1 RI.out g1.out)
  rw [sameB_self] at KS
  go_wp2_with fail
  refine KS.out.mono ?_
  rintro e w9 ⟨rfl, nd, hw⟩
  have b : Below w8.heap.size w8 w9 := by rw [hw]; exact below_drewN' _ _ _
  clear hw KS
  replace g1 := hide (g1.out.to b)
  replace g2 := hide (g2.out.to b)
  replace RI := hide (RI.out.to b)
  replace RO := hide (RO.out.to b)
  replace RA := hide (RA.out.to b)
  replace RB := hide (RB.out.to b)
  replace RC := hide (RC.out.to b)
  replace RD := hide (RD.out.to b)
  replace CC := hide (CC.out.trans (b.mono CC.out.size))
  clear b
  have KS := hide (same_any w9 _ _ x2 x2 RO.out g2.out)
  rw [sameB_self] at KS
  go_wp2_with fail
  refine KS.out.mono ?_
  rintro e w10 ⟨rfl, nd, hw⟩
  have b : Below w9.heap.size w9 w10 := by rw [hw]; exact below_drewN' _ _ _
  clear hw KS
  replace g1 := hide (g1.out.to b)
  replace g2 := hide (g2.out.to b)
  replace RI := hide (RI.out.to b)
  replace RO := hide (RO.out.to b)
  replace RA := hide (RA.out.to b)
  replace RB := hide (RB.out.to b)
  replace RC := hide (RC.out.to b)
  replace RD := hide (RD.out.to b)
  replace CC := hide (CC.out.trans (b.mono CC.out.size))
  clear b
  go_wp2_with fail
  refine (pgalive_any S w10).mono ?_
  rintro e w11 ⟨rfl, b⟩
  go_wp2
  go_ret
  exact ⟨rfl, CC.out.trans (b.mono CC.out.size)⟩

theorem walk (w : World) (a0 : Int) (w0' : (Lit.int .i64 a0).wf = true) (a1 : Option Addr) (len1 cap1 : Nat) (x1 : List UInt8) (e1 : x1.length = len1) (g1 : Rd w (.slice a1 len1 cap1) x1) (m1 : len1 ≤ 140737488351232) (a2 : Option Addr) (len2 cap2 : Nat) (x2 : List UInt8) (e2 : x2.length = len2) (g2 : Rd w (.slice a2 len2 cap2) x2) (m2 : len2 ≤ 140737488351232) :
    Calls Try.prog 3 #[.int .i64 a0, .slice a1 len1 cap1, .slice a2 len2 cap2] w fun e w' => e = .returned (.bool true) ∧ Below w.heap.size w w' :=
  walkS pages_say w a0 w0' a1 len1 cap1 x1 e1 g1 m1 a2 len2 cap2 x2 e2 g2 m2

set_option maxRecDepth 100000 in
theorem lifted (os : Os) (started : os.Started) (H : Type) (enc : TypeId × Value → H) :
    ReturnsInHanded {} Try.checked os 3 .any (Rows.pagesTellsSpec.pre6 enc Try.prog Try.f3 Rows.pagesTellsRow.domain false) (Rows.pagesTellsSpec.post enc Try.prog Try.f3 false true false false) := by
  refine returnsInHanded_of_change_sized (C := Try.checked) own started (by kernel_rfl) Try.func3
    (ChangeSpec.witness6 (enc := enc) (C := Try.checked) false ⟨#[], #[.int .i64 0, .slice none 0 0, .slice none 0 0], []⟩ 8 (by kernel_rfl) (by kernel_rfl) (by kernel_rfl) (by kernel_rfl)) ?_
  intro W base args ds gs before hval0 hW hcnd hsz0 _
  have hsz : (DataW.weightsEach Try.prog (Try.f3.params.toList ++ Rows.pagesTellsSpec.plain.varTypes Try.prog) (ds ++ gs)).all (· ≤ reachBytes) = true := hsz0
  have hval : ∀ (j : Nat) t v, Try.f3.params[j]? = some t → args[j]? = some v → Value.okWide Try.prog W .any base t v := hval0
  have hW' := hW
  obtain ⟨p, q, hA0, hV, rfl, hfz, hnd⟩ := hW
  have hA : DataW.TrodAll enc Try.prog W 0 (fun _ => true) true Try.f3.params.toList args.toList ds p := hA0
  rw [Try.params3] at hA hval hsz
  obtain ⟨v0, vs0, d0, ds0, p0, q0, hargs, rfl, rfl, h0, r0⟩ := trodAll_cons hA
  obtain ⟨v1, vs1, d1, ds1, p1, q1, rfl, rfl, rfl, h1, r1⟩ := trodAll_cons r0
  obtain ⟨v2, vs2, d2, ds2, p2, q2, rfl, rfl, rfl, h2, r2⟩ := trodAll_cons r1
  obtain ⟨rfl, rfl, rfl⟩ := trodAll_nil r2
  obtain rfl : args = #[v0, v1, v2] := by cases args; simp_all
  obtain ⟨rfl, rfl⟩ := trodVars_none hV
  obtain ⟨a0, rfl, rfl, rfl, w0⟩ := open_int Try.underlying3 (hval 0 3 v0 rfl rfl) h0
  obtain ⟨a1, len1, cap1, rfl⟩ := okWide_slice Try.underlying22 (hval 1 22 v1 rfl rfl)
  have lt1 : ∀ x ∈ p1, x.block < W.heap.size := by obtain ⟨m, hm⟩ := h1; exact DataW.trod_lt m _ _ _ hm
  obtain ⟨x1, e1, g1, s1⟩ := open_octs h1
  obtain ⟨a2, len2, cap2, rfl⟩ := okWide_slice Try.underlying22 (hval 2 22 v2 rfl rfl)
  have lt2 : ∀ x ∈ p2, x.block < W.heap.size := by obtain ⟨m, hm⟩ := h2; exact DataW.trod_lt m _ _ _ hm
  obtain ⟨x2, e2, g2, s2⟩ := open_octs h2
  have m1 := reach_octs hsz (j := 1) rfl rfl s1
  have m2 := reach_octs hsz (j := 2) rfl rfl s2
  clear hA0 hval0 hsz0 hsz
  refine (walk W a0 w0 a1 len1 cap1 x1 e1 g1 m1 a2 len2 cap2 x2 e2 g2 m2).mono fun e W' ⟨he, bel⟩ => ?_
  subst he
  exact ⟨_, rfl, _, _, _, [], _, [], hW', trodAll_mk1 (shut_bool Try.underlying4 _), (trodAll_cons_mk (shut_int Try.underlying3 w0) (trodAll_cons_mk (Below.trod laidOut (by kernel_rfl) (of_decide_eq_true (by kernel_rfl)) h1 bel lt1) (trodAll_cons_mk (Below.trod laidOut (by kernel_rfl) (of_decide_eq_true (by kernel_rfl)) h2 bel lt2) trodAll_mk0))), rfl, bel.frame _, fun h => by cases h⟩

theorem over : Rows.pagesTellsRow.holds Try.pinned (OpenSpec.ofChange Rows.pagesTellsSpec) :=
  OpenClaim.holds_of_wide 3 Try.f3 rfl rfl rfl rfl rfl rfl rfl ⟨rfl, rfl, rfl, rfl, rfl⟩ rfl rfl rfl rfl rfl (by kernel_rfl) Try.func3 (by kernel_rfl)
    (of_decide_eq_true (by kernel_rfl)) (by unfold Func.isWrapper; first | (rw [if_pos (by decide +kernel)]; kernel_rfl) | (rw [if_neg (by decide +kernel)]; exact ⟨rfl, rfl⟩))
    (fun os started H enc _ => lifted os started H enc)

end Go.Proofs.Ytliileemelcllaa.pagesTells
namespace Go.Proofs.Ytliileemelcllaa
/-- THE STATEMENT -/
theorem pagesTells_holds : Rows.PagesTellsSaid := pagesTells.over
end Go.Proofs.Ytliileemelcllaa
