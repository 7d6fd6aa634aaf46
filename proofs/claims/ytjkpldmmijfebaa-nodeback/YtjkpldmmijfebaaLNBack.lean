/-
  PROVED: whatever node and octets come in, transeptlaw09.NodeBack returns true and leaves them as they were: the statement of P9.4 (nodes are read back from their octets; what is read is built again of what was read).
-/
import Derived.Test.YtjkpldmmijfebaaNIn
import Derived.Test.YtjkpldmmijfebaaNAl
import Derived.Test.YtjkpldmmijfebaaNEq
import Derived.Test.YtjkpldmmijfebaaNDMath
namespace Go.Proofs.Ytjkpldmmijfebaa.nodeBack
open Go.ChangeShapes Go.WideShapes Go.ChangeAt Go.RowKit
set_option linter.unusedVariables false
set_option linter.unusedSimpArgs false


set_option maxRecDepth 100000 in
set_option maxHeartbeats 8000000 in
theorem walk (w : World) (cs0 : Array Value) (x0 : Nd4) (g0 : SNode.rd w cs0.toList x0) (m0 : nd4fit x0) (a1 : Option Addr) (len1 cap1 : Nat) (x1 : List UInt8) (e1 : x1.length = len1) (g1 : Rd w (.slice a1 len1 cap1) x1) (m1 : len1 ≤ 140737488351232) :
    Calls Try.prog 4 #[.agg cs0, .slice a1 len1 cap1] w fun e w' => e = .returned (.bool true) ∧ Below w.heap.size w w' := by
  obtain ⟨kv, vv, dv, rfl, R0, hbig⟩ := node_form g0 m0
  obtain ⟨n, hn⟩ : ∃ n, n = ndOf x0 := ⟨_, rfl⟩
  rw [show x0.1 = n.leaf by rw [hn]]
  rw [← hn] at R0 hbig
  clear g0 m0 hn
  have lkb := R0.keys.bd
  obtain ⟨ak, ck, av, cv, ad, cd, rfl, rfl, rfl⟩ := R0.slices
  obtain ⟨W, hW, D, bW, sW⟩ := boxedN w #[.bool n.leaf, .slice ak n.keys.length ck, .slice av n.vals.length cv, .slice ad n.kids.length cd] 25
  have HD : Hid (∀ U, Below W.heap.size W U → (U.cell? ⟨w.heap.size, 0, none⟩ = some (.bool n.leaf) ∧ U.cell? ⟨w.heap.size, 1, none⟩ = some (.slice ak n.keys.length ck) ∧ U.cell? ⟨w.heap.size, 2, none⟩ = some (.slice av n.vals.length cv) ∧ U.cell? ⟨w.heap.size, 3, none⟩ = some (.slice ad n.kids.length cd))) := fun U b => (cells4 ((b.block _ (lt_of_block D)).trans D)).1
  have HR : Hid (∀ U, Below W.heap.size W U → RdN U (.slice ak n.keys.length ck) (.slice av n.vals.length cv) (.slice ad n.kids.length cd) n) := fun U b => R0.to (bW.trans (b.mono bW.size))
  have HE : Hid (∀ U, Below W.heap.size W U → Below w.heap.size w U) := fun U b => bW.trans (b.mono bW.size)
  have HG : Hid (∀ U, Below W.heap.size W U → Rd U (.slice a1 len1 cap1) x1) := fun U b => g1.to (bW.trans (b.mono bW.size))
  have E1 := hide e1
  have hb := hide hbig
  clear R0 bW D hbig g1 e1
  go_enter Try.func4, Try.ntmps4
  go_wp2_with fail
  rw [← hW]
  replace hW := hide hW
  refine (alive9_any W).mono ?_
  rintro e w1 ⟨rfl, b1⟩
  have B1 := hide b1
  obtain ⟨D0, D1, D2, D3⟩ := HD.out w1 b1
  clear b1
  go_wp2_with fail
  clear D0 D1 D2 D3
  refine (of9_any w1 _ _ _ n (HR.out w1 B1.out) hb.out).mono ?_
  rintro e w2 ⟨k2, v2, d2, rfl, o2, b2⟩
  have B2 := hide (B1.out.trans (b2.mono B1.out.size))
  have KE := hide (penc_any w2 k2 v2 d2 n o2.rd hb.out.fit)
  clear o2 b2
  dsimp only [nv] at *
  go_wp2_with fail
  refine KE.out.mono ?_
  rintro e w3 ⟨v3, rfl, o3, b3⟩
  clear KE
  have B3 := hide (B2.out.trans (b3.mono B2.out.size))
  have O3 := hide o3.rd
  clear o3 b3
  by_cases hz : ncheck n = 0
  · have hok := hide ((ncheck_ok n).1 hz)
    rw [show nout n = nenc n from if_pos hz] at O3
    have KD := hide (pdec_any w3 v3 (nenc n) O3.out)
    rw [ndec_enc hok.out] at KD
    dsimp only [nv] at KD
    rw [hz]
    clear hz
    go_wp2_with fail
    refine (num9_any _ _).mono ?_
    rintro e w3' ⟨rfl, rfl⟩
    go_wp2_with fail
    refine KD.out.mono ?_
    rintro e w4 ⟨k4, v4, d4, rfl, o4, b4⟩
    clear KD
    have B4 := hide (B3.out.trans (b4.mono B3.out.size))
    obtain ⟨p1, q1, p2, q2, p3, q3, rfl, rfl, rfl⟩ := o4.rd.slices
    obtain ⟨V, hV, D4, bV, _⟩ := boxedN w4 #[.bool n.leaf, .slice p1 n.keys.length q1, .slice p2 n.vals.length q2, .slice p3 n.kids.length q3] 26
    obtain ⟨⟨N0, N1', N2, N3⟩, _⟩ := cells4 D4
    have B5 := hide (B4.out.trans (bV.mono B4.out.size))
    obtain ⟨D0, D1, D2, D3⟩ := HD.out V B5.out
    have KS := hide (same9_any V _ _ _ _ _ _ n n (o4.to bV).rd (HR.out V B5.out))
    rw [sameN_self] at KS
    dsimp only [nv] at KS
    clear o4 b4 D4 bV
    go_wp2_with fail
    rw [← hV]
    replace hV := hide hV
    refine (num9_any _ _).mono ?_
    rintro e w' ⟨rfl, rfl⟩
    go_wp2_with fail
    refine KS.out.mono ?_
    rintro e w5 ⟨rfl, b5⟩
    clear KS N0 N1' N2 N3 D0 D1 D2 D3
    have B50 := hide (B5.out.trans (b5.mono B5.out.size))
    clear b5
    have KX := hide (pdec_any w5 _ x1 (HG.out w5 B50.out))
    obtain ⟨y, err, hy⟩ : ∃ y err, ndec x1 = (y, err) := ⟨_, _, rfl⟩
    rw [hy] at KX
    dsimp only [nv] at KX
    have HY := hide hy
    clear hy
    go_wp2_with fail
    refine KX.out.mono ?_
    rintro e w6 ⟨k6, v6, d6, rfl, o6, b6⟩
    clear KX
    have B6 := hide (B50.out.trans (b6.mono B50.out.size))
    obtain ⟨p1, q1, p2, q2, p3, q3, rfl, rfl, rfl⟩ := o6.rd.slices
    obtain ⟨V6, hV6, D6, bV6, _⟩ := boxedN w6 #[.bool y.leaf, .slice p1 y.keys.length q1, .slice p2 y.vals.length q2, .slice p3 y.kids.length q3] 26
    obtain ⟨⟨N0, N1', N2, N3⟩, _⟩ := cells4 D6
    have B7 := hide (B6.out.trans (bV6.mono B6.out.size))
    have O7 := hide (o6.to bV6).rd
    clear o6 b6 D6 bV6
    by_cases he : err = 0
    · subst he
      have bk := ndec_back (xs := x1) (by rw [HY.out])
      rw [HY.out] at bk
      dsimp only at bk
      have hck : Hid (ncheck y = 0) := (ncheck_ok y).2 bk.1
      have hou : Hid (nout y = x1) := (if_pos hck.out).trans bk.2
      have fy : nfit y := by
        have f1 := bk.1.few
        have f2 := bk.1.2.1
        unfold ncount at f2
        unfold nfit
        split at f2 <;> omega
      have KE := hide (penc_any V6 _ _ _ y O7.out fy)
      rw [hck.out, hou.out] at KE
      dsimp only [nv] at KE
      clear bk fy
      go_wp2_with fail
      rw [← hV6]
      replace hV6 := hide hV6
      refine (num9_any _ _).mono ?_
      rintro e w' ⟨rfl, rfl⟩
      go_wp2_with fail
      refine KE.out.mono ?_
      rintro e w8 ⟨v8, rfl, o8, b8⟩
      clear KE N0 N1' N2 N3
      have B8 := hide (B7.out.trans (b8.mono B7.out.size))
      have KS := hide (same_any w8 v8 _ x1 x1 o8.rd (HG.out w8 B8.out))
      rw [show sameB x1 x1 = true by simp [sameB]] at KS
      clear o8 b8
      go_wp2_with fail
      refine (num9_any _ _).mono ?_
      rintro e w' ⟨rfl, rfl⟩
      go_wp2_with fail
      refine KS.out.mono ?_
      rintro e w9 ⟨rfl, nn, rfl⟩
      have B9 := hide (HE.out _ (B8.out.trans (below_drewN' w8 nn W.heap.size)))
      clear KS
      go_wp2
      go_ret
      exact ⟨rfl, B9.out⟩
    · have hno := ndec_bad (xs := x1) (by rw [HY.out]; exact he)
      rw [HY.out] at hno
      dsimp only at hno
      subst hno
      rw [hV6] at N0 N1' N2 N3
      have B9 := hide (HE.out _ B7.out)
      go_wp2_with fail
      refine (num9_any _ _).mono ?_
      rintro e w' ⟨rfl, rfl⟩
      go_wp2
      go_ret
      exact ⟨by first | rfl | simp [none9], by first | exact B9.out | (rw [← hV6]; exact B9.out)⟩
  · obtain ⟨Z, hZ⟩ : ∃ Z, Z = ncheck n := ⟨_, rfl⟩
    rw [← hZ] at hz ⊢
    replace hZ := hide hZ
    go_wp2_with fail
    refine (num9_any _ _).mono ?_
    rintro e w3' ⟨rfl, rfl⟩
    have KX := hide (pdec_any w3 _ x1 (HG.out w3 B3.out))
    obtain ⟨y, err, hy⟩ : ∃ y err, ndec x1 = (y, err) := ⟨_, _, rfl⟩
    rw [hy] at KX
    dsimp only [nv] at KX
    have HY := hide hy
    clear hy
    go_wp2_with fail
    refine KX.out.mono ?_
    rintro e w6 ⟨k6, v6, d6, rfl, o6, b6⟩
    clear KX
    have B6 := hide (B3.out.trans (b6.mono B3.out.size))
    obtain ⟨p1, q1, p2, q2, p3, q3, rfl, rfl, rfl⟩ := o6.rd.slices
    obtain ⟨V6, hV6, D6, bV6, _⟩ := boxedN w6 #[.bool y.leaf, .slice p1 y.keys.length q1, .slice p2 y.vals.length q2, .slice p3 y.kids.length q3] 26
    obtain ⟨⟨N0, N1', N2, N3⟩, _⟩ := cells4 D6
    have B7 := hide (B6.out.trans (bV6.mono B6.out.size))
    have O7 := hide (o6.to bV6).rd
    clear o6 b6 D6 bV6
    by_cases he : err = 0
    · subst he
      have bk := ndec_back (xs := x1) (by rw [HY.out])
      rw [HY.out] at bk
      dsimp only at bk
      have hck : Hid (ncheck y = 0) := (ncheck_ok y).2 bk.1
      have hou : Hid (nout y = x1) := (if_pos hck.out).trans bk.2
      have fy : nfit y := by
        have f1 := bk.1.few
        have f2 := bk.1.2.1
        unfold ncount at f2
        unfold nfit
        split at f2 <;> omega
      have KE := hide (penc_any V6 _ _ _ y O7.out fy)
      rw [hck.out, hou.out] at KE
      dsimp only [nv] at KE
      clear bk fy
      go_wp2_with fail
      rw [← hV6]
      replace hV6 := hide hV6
      refine (num9_any _ _).mono ?_
      rintro e w' ⟨rfl, rfl⟩
      go_wp2_with fail
      refine KE.out.mono ?_
      rintro e w8 ⟨v8, rfl, o8, b8⟩
      clear KE N0 N1' N2 N3
      have B8 := hide (B7.out.trans (b8.mono B7.out.size))
      have KS := hide (same_any w8 v8 _ x1 x1 o8.rd (HG.out w8 B8.out))
      rw [show sameB x1 x1 = true by simp [sameB]] at KS
      clear o8 b8
      go_wp2_with fail
      refine (num9_any _ _).mono ?_
      rintro e w' ⟨rfl, rfl⟩
      go_wp2_with fail
      refine KS.out.mono ?_
      rintro e w9 ⟨rfl, nn, rfl⟩
      have B9 := hide (HE.out _ (B8.out.trans (below_drewN' w8 nn W.heap.size)))
      clear KS
      go_wp2
      go_ret
      exact ⟨rfl, B9.out⟩
    · have hno := ndec_bad (xs := x1) (by rw [HY.out]; exact he)
      rw [HY.out] at hno
      dsimp only at hno
      subst hno
      rw [hV6] at N0 N1' N2 N3
      have B9 := hide (HE.out _ B7.out)
      go_wp2_with fail
      refine (num9_any _ _).mono ?_
      rintro e w' ⟨rfl, rfl⟩
      go_wp2
      go_ret
      exact ⟨by first | rfl | simp [none9], by first | exact B9.out | (rw [← hV6]; exact B9.out)⟩

set_option maxRecDepth 100000 in
theorem lifted (os : Os) (started : os.Started) (H : Type) (enc : TypeId × Value → H) :
    ReturnsInHanded {} Try.checked os 4 .any (Rows.nodeBackSpec.pre6 enc Try.prog Try.f4 Rows.nodeBackRow.domain false) (Rows.nodeBackSpec.post enc Try.prog Try.f4 false true false false) := by
  refine returnsInHanded_of_change_sized (C := Try.checked) own started (by kernel_rfl) Try.func4
    (ChangeSpec.witness6 (enc := enc) (C := Try.checked) false ⟨#[], #[.agg #[.bool false, .slice none 0 0, .slice none 0 0, .slice none 0 0], .slice none 0 0], []⟩ 8 (by kernel_rfl) (by kernel_rfl) (by kernel_rfl) (by kernel_rfl)) ?_
  intro W base args ds gs before hval0 hW hcnd hsz0 _
  have hsz : (DataW.weightsEach Try.prog (Try.f4.params.toList ++ Rows.nodeBackSpec.plain.varTypes Try.prog) (ds ++ gs)).all (· ≤ reachBytes) = true := hsz0
  have hval : ∀ (j : Nat) t v, Try.f4.params[j]? = some t → args[j]? = some v → Value.okWide Try.prog W .any base t v := hval0
  have hW' := hW
  obtain ⟨p, q, hA0, hV, rfl, hfz, hnd⟩ := hW
  have hA : DataW.TrodAll enc Try.prog W 0 (fun _ => true) true Try.f4.params.toList args.toList ds p := hA0
  rw [Try.params4] at hA hval hsz
  obtain ⟨v0, vs0, d0, ds0, p0, q0, hargs, rfl, rfl, h0, r0⟩ := trodAll_cons hA
  obtain ⟨v1, vs1, d1, ds1, p1, q1, rfl, rfl, rfl, h1, r1⟩ := trodAll_cons r0
  obtain ⟨rfl, rfl, rfl⟩ := trodAll_nil r1
  obtain rfl : args = #[v0, v1] := by cases args; simp_all
  obtain ⟨rfl, rfl⟩ := trodVars_none hV
  obtain ⟨cs0, rfl, _⟩ := okWide_struct Try.underlying25 (hval 0 25 v0 rfl rfl)
  have lt0 : ∀ x ∈ p0, x.block < W.heap.size := by obtain ⟨m, hm⟩ := h0; exact DataW.trod_lt m _ _ _ hm
  have hh0 := h0
  obtain ⟨fu0, hf0⟩ := hh0
  obtain ⟨x0, g0, f0, b0⟩ := open_node.opened hf0
  obtain ⟨a1, len1, cap1, rfl⟩ := okWide_slice Try.underlying41 (hval 1 41 v1 rfl rfl)
  have lt1 : ∀ x ∈ p1, x.block < W.heap.size := by obtain ⟨m, hm⟩ := h1; exact DataW.trod_lt m _ _ _ hm
  obtain ⟨x1, e1, g1, s1⟩ := open_octs h1
  have m0 := f0 (reach_of hsz (j := 0) rfl rfl)
  have m1 := reach_octs hsz (j := 1) rfl rfl s1
  clear hA0 hval0 hsz0 hsz
  refine (walk W cs0 x0 g0 m0 a1 len1 cap1 x1 e1 g1 m1).mono fun e W' ⟨he, bel⟩ => ?_
  subst he
  exact ⟨_, rfl, _, _, _, [], _, [], hW', trodAll_mk1 (shut_bool Try.underlying4 _), (trodAll_cons_mk (Below.trod laidOut (by kernel_rfl) (of_decide_eq_true (by kernel_rfl)) h0 bel lt0) (trodAll_cons_mk (Below.trod laidOut (by kernel_rfl) (of_decide_eq_true (by kernel_rfl)) h1 bel lt1) trodAll_mk0)), rfl, bel.frame _, fun h => by cases h⟩

theorem over : Rows.nodeBackRow.holds Try.pinned (OpenSpec.ofChange Rows.nodeBackSpec) :=
  OpenClaim.holds_of_wide 4 Try.f4 rfl rfl rfl rfl rfl rfl rfl ⟨rfl, rfl, rfl, rfl, rfl⟩ rfl rfl rfl rfl rfl (by kernel_rfl) Try.func4 (by kernel_rfl)
    (of_decide_eq_true (by kernel_rfl)) (by unfold Func.isWrapper; first | (rw [if_pos (by decide +kernel)]; kernel_rfl) | (rw [if_neg (by decide +kernel)]; exact ⟨rfl, rfl⟩))
    (fun os started H enc _ => lifted os started H enc)

end Go.Proofs.Ytjkpldmmijfebaa.nodeBack
namespace Go.Proofs.Ytjkpldmmijfebaa
/-- THE STATEMENT -/
theorem nodeBack_holds : Rows.NodeBackSaid := nodeBack.over
end Go.Proofs.Ytjkpldmmijfebaa
