/-
  PROVED: whatever node and key come in, transeptlaw09.NodeFinds returns true and leaves them as they were: the statement of P9.3 (where a key is in a node, or would be, and a node split in two, are as the page says).
-/
import Derived.Test.YtjkpldmmijfebaaNIn
import Derived.Test.YtjkpldmmijfebaaNAl
import Derived.Test.YtjkpldmmijfebaaNEq
import Derived.Test.YtjkpldmmijfebaaNPI
import Derived.Test.YtjkpldmmijfebaaNPK
import Derived.Test.YtjkpldmmijfebaaNSpR
namespace Go.Proofs.Ytjkpldmmijfebaa.nodeFinds
open Go.ChangeShapes Go.WideShapes Go.ChangeAt Go.RowKit
set_option linter.unusedVariables false
set_option linter.unusedSimpArgs false


set_option maxRecDepth 100000 in
set_option maxHeartbeats 8000000 in
theorem walk (w : World) (cs0 : Array Value) (x0 : Nd4) (g0 : SNode.rd w cs0.toList x0) (m0 : nd4fit x0) (key : Str) :
    Calls Try.prog 3 #[.agg cs0, st key] w fun e w' => e = .returned (.bool true) ∧ Below w.heap.size w w' := by
  obtain ⟨kv, vv, dv, rfl, R0, hbig⟩ := node_form g0 m0
  obtain ⟨n, hn⟩ : ∃ n, n = ndOf x0 := ⟨_, rfl⟩
  rw [show x0.1 = n.leaf by rw [hn]]
  rw [← hn] at R0 hbig
  clear g0 m0 hn
  have lkb := R0.keys.bd
  obtain ⟨ak, ck, av, cv, ad, cd, rfl, rfl, rfl⟩ := R0.slices
  obtain ⟨W, hW, D, bW, sW⟩ := boxedN w #[.bool n.leaf, .slice ak n.keys.length ck, .slice av n.vals.length cv, .slice ad n.kids.length cd] 25
  have HD : Hid (∀ U, Below W.heap.size W U → (U.cell? ⟨w.heap.size, 0, none⟩ = some (.bool n.leaf) ∧ U.cell? ⟨w.heap.size, 1, none⟩ = some (.slice ak n.keys.length ck) ∧ U.cell? ⟨w.heap.size, 2, none⟩ = some (.slice av n.vals.length cv) ∧ U.cell? ⟨w.heap.size, 3, none⟩ = some (.slice ad n.kids.length cd))) := fun U b => (cells4 ((b.block _ (lt_of_block D)).trans D)).1
  have HR : Hid (∀ U, Below W.heap.size W U → RdN U (.slice ak n.keys.length ck) (.slice av n.vals.length cv) (.slice ad n.kids.length cd) n) := fun U b => R0.to (bW.trans (b.mono bW.size))
  have HE : Hid (∀ U, Below W.heap.size W U → Below w.heap.size w U) := fun U b => bW.trans (b.mono bW.size)
  have hb := hide hbig
  clear R0 bW D hbig
  go_enter Try.func3, Try.ntmps3
  go_wp2_with fail
  rw [← hW]
  replace hW := hide hW
  refine (of9_any W _ _ _ n (HR.out W (Below.refl _ _)) hb.out).mono ?_
  rintro e w2 ⟨k2, v2, d2, rfl, o2, b2⟩
  obtain ⟨xk, yk, xv, yv, xd, yd, hk2, hv2, hd2⟩ := o2.rd.slices
  subst hk2 hv2 hd2
  obtain ⟨V2, hV2, E2, bV2, sV2⟩ := boxedN w2 #[.bool n.leaf, .slice xk n.keys.length yk, .slice xv n.vals.length yv, .slice xd n.kids.length yd] 26
  have BV2 := hide (b2.trans (bV2.mono b2.size))
  have HX : Hid (∀ U, Below V2.heap.size V2 U → (U.cell? ⟨w2.heap.size, 0, none⟩ = some (.bool n.leaf) ∧ U.cell? ⟨w2.heap.size, 1, none⟩ = some (.slice xk n.keys.length yk) ∧ U.cell? ⟨w2.heap.size, 2, none⟩ = some (.slice xv n.vals.length yv) ∧ U.cell? ⟨w2.heap.size, 3, none⟩ = some (.slice xd n.kids.length yd)) ∧ RdN U (.slice xk n.keys.length yk) (.slice xv n.vals.length yv) (.slice xd n.kids.length yd) n) := fun U b => ⟨(cells4 ((b.block _ (lt_of_block E2)).trans E2)).1, ((o2.to bV2).to b).rd⟩
  have x0 := (cells4 E2).1.1
  have x1 := (cells4 E2).1.2.1
  have x2 := (cells4 E2).1.2.2.1
  have x3 := (cells4 E2).1.2.2.2
  have KF := hide (pfind9_any V2 _ _ _ n key (HX.out V2 (Below.refl _ _)).2 hb.out.fit)
  clear o2 b2 E2 bV2 sV2
  dsimp only [nv] at *
  rw [hV2] at x0 x1 x2 x3
  obtain ⟨A1, hA1⟩ : ∃ A, A = nfind n key := ⟨_, rfl⟩
  obtain ⟨I1, hI1⟩ : ∃ I, I = nhas n key := ⟨_, rfl⟩
  obtain ⟨Z1, hZ1⟩ : ∃ Z, Z = ncheck n := ⟨_, rfl⟩
  rw [← hA1, ← hI1, ← hZ1] at KF
  replace hA1 := hide hA1
  replace hI1 := hide hI1
  replace hZ1 := hide hZ1
  go_wp2_with fail
  rw [← hV2]
  replace hV2 := hide hV2
  clear x0 x1 x2 x3
  refine KF.out.mono ?_
  rintro e w3 ⟨rfl, b3⟩
  clear KF
  have B3 := hide b3
  have C3 := hide (BV2.out.trans (b3.mono BV2.out.size))
  clear b3
  have KR := hide (rfind9_any w3 _ _ _ n key (HR.out w3 C3.out) hb.out.fit)
  dsimp only [nv] at KR
  rw [← hA1.out, ← hI1.out, ← hZ1.out] at KR
  obtain ⟨D0, D1, D2, D3⟩ := HD.out w3 C3.out
  go_wp2_with fail
  clear D0 D1 D2 D3
  refine KR.out.mono ?_
  rintro e w4 ⟨rfl, b4⟩
  clear KR
  have B4 := hide (B3.out.trans (b4.mono B3.out.size))
  have C4 := hide (C3.out.trans (b4.mono C3.out.size))
  clear b4
  have KS := hide (psplit9_any w4 _ _ _ n (HX.out w4 B4.out).2 hb.out.fit)
  dsimp only [nv] at KS
  obtain ⟨⟨x0, x1, x2, x3⟩, _⟩ := HX.out w4 B4.out
  obtain ⟨P, hP⟩ : ∃ P, P = nlow' n := ⟨_, rfl⟩
  obtain ⟨Q, hQ⟩ : ∃ Q, Q = nhigh' n := ⟨_, rfl⟩
  obtain ⟨M, hM⟩ : ∃ M, M = nmid' n := ⟨_, rfl⟩
  obtain ⟨ER, hER⟩ : ∃ ER, ER = nsplit n := ⟨_, rfl⟩
  rw [← hP, ← hQ, ← hM, ← hER] at KS
  replace hP := hide hP
  replace hQ := hide hQ
  replace hM := hide hM
  replace hER := hide hER
  go_wp2_with fail
  clear x0 x1 x2 x3
  refine KS.out.mono ?_
  rintro e w5 ⟨k3, v3, d3, k4, v4, d4, rfl, o3, o4, b5⟩
  clear KS
  have B5 := hide (B4.out.trans (b5.mono B4.out.size))
  have C5 := hide (C4.out.trans (b5.mono C4.out.size))
  obtain ⟨pk, qk, pv, qv, pd, qd, hk3, hv3, hd3⟩ := o3.rd.slices
  obtain ⟨rk, sk, rv, sv, rd, sd, hk4, hv4, hd4⟩ := o4.rd.slices
  subst hk3 hv3 hd3 hk4 hv4 hd4
  obtain ⟨V5, hV5, EA, EB, bV5, sV5⟩ := boxes4p w5 (.bool P.leaf) (.slice pk P.keys.length qk) (.slice pv P.vals.length qv) (.slice pd P.kids.length qd) (.bool Q.leaf) (.slice rk Q.keys.length sk) (.slice rv Q.vals.length sv) (.slice rd Q.kids.length sd) 26 26
  have HP5 : Hid (∀ U, Below V5.heap.size V5 U → (U.cell? ⟨w5.heap.size, 0, none⟩ = some (.bool P.leaf) ∧ U.cell? ⟨w5.heap.size, 1, none⟩ = some (.slice pk P.keys.length qk) ∧ U.cell? ⟨w5.heap.size, 2, none⟩ = some (.slice pv P.vals.length qv) ∧ U.cell? ⟨w5.heap.size, 3, none⟩ = some (.slice pd P.kids.length qd)) ∧ RdN U (.slice pk P.keys.length qk) (.slice pv P.vals.length qv) (.slice pd P.kids.length qd) P) := fun U b => ⟨(cells4 ((b.block _ (lt_of_block EA)).trans EA)).1, ((o3.to bV5).to b).rd⟩
  have HQ5 : Hid (∀ U, Below V5.heap.size V5 U → (U.cell? ⟨w5.heap.size + 1, 0, none⟩ = some (.bool Q.leaf) ∧ U.cell? ⟨w5.heap.size + 1, 1, none⟩ = some (.slice rk Q.keys.length sk) ∧ U.cell? ⟨w5.heap.size + 1, 2, none⟩ = some (.slice rv Q.vals.length sv) ∧ U.cell? ⟨w5.heap.size + 1, 3, none⟩ = some (.slice rd Q.kids.length sd)) ∧ RdN U (.slice rk Q.keys.length sk) (.slice rv Q.vals.length sv) (.slice rd Q.kids.length sd) Q) := fun U b => ⟨(cells4 ((b.block _ (lt_of_block EB)).trans EB)).1, ((o4.to bV5).to b).rd⟩
  have BV5 := hide (B5.out.trans (bV5.mono B5.out.size))
  have CV5 := hide (C5.out.trans (bV5.mono C5.out.size))
  clear o3 o4 b5 EA EB bV5 sV5
  have KT := hide (rsplit9_any V5 _ _ _ n (HR.out V5 CV5.out) hb.out.fit)
  dsimp only [nv] at KT
  rw [← hP.out, ← hQ.out, ← hM.out, ← hER.out] at KT
  obtain ⟨D0, D1, D2, D3⟩ := HD.out V5 CV5.out
  rw [hV5] at D0 D1 D2 D3
  go_wp2_with fail
  rw [← hV5]
  replace hV5 := hide hV5
  clear D0 D1 D2 D3
  refine KT.out.mono ?_
  rintro e w6 ⟨k5, v5, d5, k6, v6, d6, rfl, o5, o6, b6⟩
  clear KT
  have A6 := hide b6
  have B6 := hide (BV5.out.trans (b6.mono BV5.out.size))
  have C6 := hide (CV5.out.trans (b6.mono CV5.out.size))
  obtain ⟨ek, fk, ev, fv, ed, fd, hk5, hv5, hd5⟩ := o5.rd.slices
  obtain ⟨gk, ik, gv, iv, gd, id, hk6, hv6, hd6⟩ := o6.rd.slices
  subst hk5 hv5 hd5 hk6 hv6 hd6
  obtain ⟨V6, hV6, EA, EB, bV6, sV6⟩ := boxes4p w6 (.bool P.leaf) (.slice ek P.keys.length fk) (.slice ev P.vals.length fv) (.slice ed P.kids.length fd) (.bool Q.leaf) (.slice gk Q.keys.length ik) (.slice gv Q.vals.length iv) (.slice gd Q.kids.length id) 25 25
  have HP6 : Hid (∀ U, Below V6.heap.size V6 U → (U.cell? ⟨w6.heap.size, 0, none⟩ = some (.bool P.leaf) ∧ U.cell? ⟨w6.heap.size, 1, none⟩ = some (.slice ek P.keys.length fk) ∧ U.cell? ⟨w6.heap.size, 2, none⟩ = some (.slice ev P.vals.length fv) ∧ U.cell? ⟨w6.heap.size, 3, none⟩ = some (.slice ed P.kids.length fd)) ∧ RdN U (.slice ek P.keys.length fk) (.slice ev P.vals.length fv) (.slice ed P.kids.length fd) P) := fun U b => ⟨(cells4 ((b.block _ (lt_of_block EA)).trans EA)).1, ((o5.to bV6).to b).rd⟩
  have HQ6 : Hid (∀ U, Below V6.heap.size V6 U → (U.cell? ⟨w6.heap.size + 1, 0, none⟩ = some (.bool Q.leaf) ∧ U.cell? ⟨w6.heap.size + 1, 1, none⟩ = some (.slice gk Q.keys.length ik) ∧ U.cell? ⟨w6.heap.size + 1, 2, none⟩ = some (.slice gv Q.vals.length iv) ∧ U.cell? ⟨w6.heap.size + 1, 3, none⟩ = some (.slice gd Q.kids.length id)) ∧ RdN U (.slice gk Q.keys.length ik) (.slice gv Q.vals.length iv) (.slice gd Q.kids.length id) Q) := fun U b => ⟨(cells4 ((b.block _ (lt_of_block EB)).trans EB)).1, ((o6.to bV6).to b).rd⟩
  have TV : Hid (∀ U, Below V6.heap.size V6 U → Below V5.heap.size V5 U) := by
    have t := A6.out.trans (bV6.mono A6.out.size)
    exact fun U b => t.trans (b.mono t.size)
  have TX : Hid (∀ U, Below V6.heap.size V6 U → Below V2.heap.size V2 U) := fun U b => BV5.out.trans ((TV.out U b).mono BV5.out.size)
  have TW : Hid (∀ U, Below V6.heap.size V6 U → Below W.heap.size W U) := fun U b => CV5.out.trans ((TV.out U b).mono CV5.out.size)
  clear o5 o6 b6 EA EB bV6 sV6
  have hs1 : (A1 == A1) = true := by simp
  have hs2 : (I1 == I1) = true := by simp
  have hs3 : (Z1 == Z1) = true := by simp
  have hs4 : (M == M) = true := by simp
  have hs5 : (ER == ER) = true := by simp
  go_wp2_with fail
  rw [← hV6]
  replace hV6 := hide hV6
  refine (num9_any _ _).mono ?_
  rintro e w' ⟨rfl, rfl⟩
  have KA := hide (same9_any V6 _ _ _ _ _ _ P P (HP5.out V6 (TV.out V6 (Below.refl _ _))).2 (HP6.out V6 (Below.refl _ _)).2)
  rw [sameN_self] at KA
  dsimp only [nv] at KA
  obtain ⟨⟨p0, p1, p2, p3⟩, _⟩ := HP5.out V6 (TV.out V6 (Below.refl _ _))
  obtain ⟨⟨r0, r1, r2, r3⟩, _⟩ := HP6.out V6 (Below.refl _ _)
  go_wp2_with fail
  clear p0 p1 p2 p3 r0 r1 r2 r3
  refine KA.out.mono ?_
  rintro e w7 ⟨rfl, b7⟩
  clear KA
  have B7 := hide b7
  have KB := hide (same9_any w7 _ _ _ _ _ _ Q Q (HQ5.out w7 (TV.out w7 b7)).2 (HQ6.out w7 b7).2)
  rw [sameN_self] at KB
  dsimp only [nv] at KB
  obtain ⟨⟨p0, p1, p2, p3⟩, _⟩ := HQ5.out w7 (TV.out w7 b7)
  obtain ⟨⟨r0, r1, r2, r3⟩, _⟩ := HQ6.out w7 b7
  clear b7
  go_wp2_with fail
  clear p0 p1 p2 p3 r0 r1 r2 r3
  refine KB.out.mono ?_
  rintro e w8 ⟨rfl, b8⟩
  clear KB
  have B8 := hide (B7.out.trans (b8.mono B7.out.size))
  clear b8
  go_wp2_with fail
  refine (num9_any _ _).mono ?_
  rintro e w' ⟨rfl, rfl⟩
  have KC := hide (same9_any w8 _ _ _ _ _ _ n n (HX.out w8 (TX.out w8 B8.out)).2 (HR.out w8 (TW.out w8 B8.out)))
  rw [sameN_self] at KC
  dsimp only [nv] at KC
  obtain ⟨⟨p0, p1, p2, p3⟩, _⟩ := HX.out w8 (TX.out w8 B8.out)
  obtain ⟨r0, r1, r2, r3⟩ := HD.out w8 (TW.out w8 B8.out)
  go_wp2_with fail
  clear p0 p1 p2 p3 r0 r1 r2 r3
  refine KC.out.mono ?_
  rintro e w9 ⟨rfl, b9⟩
  clear KC
  have B9 := hide (B8.out.trans (b9.mono B8.out.size))
  clear b9
  go_wp2_with fail
  refine (alive9_any w9).mono ?_
  rintro e wz ⟨rfl, bz⟩
  have BZ := hide (HE.out _ (TW.out wz (B9.out.trans (bz.mono B9.out.size))))
  clear bz
  go_wp2
  go_ret
  exact ⟨rfl, BZ.out⟩

set_option maxRecDepth 100000 in
theorem lifted (os : Os) (started : os.Started) (H : Type) (enc : TypeId × Value → H) :
    ReturnsInHanded {} Try.checked os 3 .any (Rows.nodeFindsSpec.pre6 enc Try.prog Try.f3 Rows.nodeFindsRow.domain false) (Rows.nodeFindsSpec.post enc Try.prog Try.f3 false true false false) := by
  refine returnsInHanded_of_change_sized (C := Try.checked) own started (by kernel_rfl) Try.func3
    (ChangeSpec.witness6 (enc := enc) (C := Try.checked) false ⟨#[], #[.agg #[.bool false, .slice none 0 0, .slice none 0 0, .slice none 0 0], .string ⟨#[]⟩], []⟩ 8 (by kernel_rfl) (by kernel_rfl) (by kernel_rfl) (by kernel_rfl)) ?_
  intro W base args ds gs before hval0 hW hcnd hsz0 _
  have hsz : (DataW.weightsEach Try.prog (Try.f3.params.toList ++ Rows.nodeFindsSpec.plain.varTypes Try.prog) (ds ++ gs)).all (· ≤ reachBytes) = true := hsz0
  have hval : ∀ (j : Nat) t v, Try.f3.params[j]? = some t → args[j]? = some v → Value.okWide Try.prog W .any base t v := hval0
  have hW' := hW
  obtain ⟨p, q, hA0, hV, rfl, hfz, hnd⟩ := hW
  have hA : DataW.TrodAll enc Try.prog W 0 (fun _ => true) true Try.f3.params.toList args.toList ds p := hA0
  rw [Try.params3] at hA hval hsz
  obtain ⟨v0, vs0, d0, ds0, p0, q0, hargs, rfl, rfl, h0, r0⟩ := trodAll_cons hA
  obtain ⟨v1, vs1, d1, ds1, p1, q1, rfl, rfl, rfl, h1, r1⟩ := trodAll_cons r0
  obtain ⟨rfl, rfl, rfl⟩ := trodAll_nil r1
  obtain rfl : args = #[v0, v1] := by cases args; simp_all
  obtain ⟨rfl, rfl⟩ := trodVars_none hV
  obtain ⟨cs0, rfl, _⟩ := okWide_struct Try.underlying25 (hval 0 25 v0 rfl rfl)
  have lt0 : ∀ x ∈ p0, x.block < W.heap.size := by obtain ⟨m, hm⟩ := h0; exact DataW.trod_lt m _ _ _ hm
  have hh0 := h0
  obtain ⟨fu0, hf0⟩ := hh0
  obtain ⟨x0, g0, f0, b0⟩ := open_node.opened hf0
  obtain ⟨x1, rfl, rfl, rfl, sl1⟩ := open_str Try.underlying9 (hval 1 9 v1 rfl rfl) h1
  have m0 := f0 (reach_of hsz (j := 0) rfl rfl)
  clear hA0 hval0 hsz0 hsz
  refine (walk W cs0 x0 g0 m0 x1).mono fun e W' ⟨he, bel⟩ => ?_
  subst he
  exact ⟨_, rfl, _, _, _, [], _, [], hW', trodAll_mk1 (shut_bool Try.underlying4 _), (trodAll_cons_mk (Below.trod laidOut (by kernel_rfl) (of_decide_eq_true (by kernel_rfl)) h0 bel lt0) (trodAll_cons_mk (shut_str Try.underlying9 sl1) trodAll_mk0)), rfl, bel.frame _, fun h => by cases h⟩

theorem over : Rows.nodeFindsRow.holds Try.pinned (OpenSpec.ofChange Rows.nodeFindsSpec) :=
  OpenClaim.holds_of_wide 3 Try.f3 rfl rfl rfl rfl rfl rfl rfl ⟨rfl, rfl, rfl, rfl, rfl⟩ rfl rfl rfl rfl rfl (by kernel_rfl) Try.func3 (by kernel_rfl)
    (of_decide_eq_true (by kernel_rfl)) (by unfold Func.isWrapper; first | (rw [if_pos (by decide +kernel)]; kernel_rfl) | (rw [if_neg (by decide +kernel)]; exact ⟨rfl, rfl⟩))
    (fun os started H enc _ => lifted os started H enc)

end Go.Proofs.Ytjkpldmmijfebaa.nodeFinds
namespace Go.Proofs.Ytjkpldmmijfebaa
/-- THE STATEMENT -/
theorem nodeFinds_holds : Rows.NodeFindsSaid := nodeFinds.over
end Go.Proofs.Ytjkpldmmijfebaa
