/-
  PROVED: whatever node comes in, transeptlaw09.NodeHalves returns true and leaves it as it was: the statement of P9.5 (the halves of a node that is split have all its keys, in order; each may be).
-/
import Derived.Test.YtjkpldmmijfebaaNIn
import Derived.Test.YtjkpldmmijfebaaNAl
import Derived.Test.YtjkpldmmijfebaaNEq
import Derived.Test.YtjkpldmmijfebaaNHMath
namespace Go.Proofs.Ytjkpldmmijfebaa.nodeHalves
open Go.ChangeShapes Go.WideShapes Go.ChangeAt Go.RowKit
set_option linter.unusedVariables false
set_option linter.unusedSimpArgs false

theorem nok_small {n : Nd} (h : NOk n) : n.keys.length ≤ 242 ∧ n.vals.length ≤ 242 ∧ n.kids.length ≤ 243 := by
  have f1 := h.few
  have f2 := h.2.1
  unfold ncount at f2
  split at f2 <;> omega


set_option maxRecDepth 100000 in
set_option maxHeartbeats 8000000 in
theorem walk (w : World) (cs0 : Array Value) (x0 : Nd4) (g0 : SNode.rd w cs0.toList x0) (m0 : nd4fit x0) :
    Calls Try.prog 5 #[.agg cs0] w fun e w' => e = .returned (.bool true) ∧ Below w.heap.size w w' := by
  obtain ⟨kv, vv, dv, rfl, R0, hbig⟩ := node_form g0 m0
  obtain ⟨n, hn⟩ : ∃ n, n = ndOf x0 := ⟨_, rfl⟩
  rw [show x0.1 = n.leaf by rw [hn]]
  rw [← hn] at R0 hbig
  clear g0 m0 hn
  have lkb := R0.keys.bd
  obtain ⟨ak, ck, av, cv, ad, cd, rfl, rfl, rfl⟩ := R0.slices
  obtain ⟨W, hW, D, bW, sW⟩ := boxedN w #[.bool n.leaf, .slice ak n.keys.length ck, .slice av n.vals.length cv, .slice ad n.kids.length cd] 25
  have HD : Hid (∀ U, Below W.heap.size W U → (U.cell? ⟨w.heap.size, 0, none⟩ = some (.bool n.leaf) ∧ U.cell? ⟨w.heap.size, 1, none⟩ = some (.slice ak n.keys.length ck) ∧ U.cell? ⟨w.heap.size, 2, none⟩ = some (.slice av n.vals.length cv) ∧ U.cell? ⟨w.heap.size, 3, none⟩ = some (.slice ad n.kids.length cd))) := fun U b => (cells4 ((b.block _ (lt_of_block D)).trans D)).1
  have HR : Hid (∀ U, Below W.heap.size W U → RdN U (.slice ak n.keys.length ck) (.slice av n.vals.length cv) (.slice ad n.kids.length cd) n) := fun U b => R0.to (bW.trans (b.mono bW.size))
  have HE : Hid (∀ U, Below W.heap.size W U → Below w.heap.size w U) := fun U b => bW.trans (b.mono bW.size)
  have hb := hide hbig
  clear R0 bW D hbig
  go_enter Try.func5, Try.ntmps5
  go_wp2_with fail
  rw [← hW]
  replace hW := hide hW
  refine (alive9_any W).mono ?_
  rintro e w1 ⟨rfl, b1⟩
  have B1 := hide b1
  obtain ⟨D0, D1, D2, D3⟩ := HD.out w1 b1
  clear b1
  go_wp2_with fail
  clear D0 D1 D2 D3
  refine (of9_any w1 _ _ _ n (HR.out w1 B1.out) hb.out).mono ?_
  rintro e w2 ⟨k2, v2, d2, rfl, o2, b2⟩
  have B2 := hide (B1.out.trans (b2.mono B1.out.size))
  have KS := hide (psplit9_any w2 _ _ _ n o2.rd hb.out.fit)
  clear o2 b2
  dsimp only [nv] at *
  go_wp2_with fail
  refine KS.out.mono ?_
  rintro e w3 ⟨k3, v3, d3, k4, v4, d4, rfl, o3, o4, b3⟩
  clear KS
  have B3 := hide (B2.out.trans (b3.mono B2.out.size))
  have S3 := hide b3.size
  obtain ⟨P, hP⟩ : ∃ P, P = nlow' n := ⟨_, rfl⟩
  obtain ⟨Q, hQ⟩ : ∃ Q, Q = nhigh' n := ⟨_, rfl⟩
  obtain ⟨M, hM⟩ : ∃ M, M = nmid' n := ⟨_, rfl⟩
  obtain ⟨ER, hER⟩ : ∃ ER, ER = nsplit n := ⟨_, rfl⟩
  rw [← hP] at o3 ⊢
  rw [← hQ] at o4 ⊢
  rw [← hM, ← hER]
  replace hP := hide hP
  replace hQ := hide hQ
  replace hM := hide hM
  replace hER := hide hER
  obtain ⟨pk, qk, pv, qv, pd, qd, hk3, hv3, hd3⟩ := o3.rd.slices
  obtain ⟨rk, sk, rv, sv, rd, sd, hk4, hv4, hd4⟩ := o4.rd.slices
  subst hk3 hv3 hd3 hk4 hv4 hd4
  obtain ⟨V3, hV3, EA, EB, bV3, sV3⟩ := boxes4p w3 (.bool P.leaf) (.slice pk P.keys.length qk) (.slice pv P.vals.length qv) (.slice pd P.kids.length qd) (.bool Q.leaf) (.slice rk Q.keys.length sk) (.slice rv Q.vals.length sv) (.slice rd Q.kids.length sd) 26 26
  have BV3 := hide (B3.out.trans (bV3.mono B3.out.size))
  have O3 := hide (o3.to bV3)
  have O4 := hide (o4.to bV3)
  have AB := hide EA
  have BB := hide EB
  have SV3 := hide sV3
  have T3 := hide (b3.trans (bV3.mono b3.size))
  clear o3 o4 b3 bV3 sV3
  have HA : Hid (∀ U, Below V3.heap.size V3 U → (U.cell? ⟨w3.heap.size, 0, none⟩ = some (.bool P.leaf) ∧ U.cell? ⟨w3.heap.size, 1, none⟩ = some (.slice pk P.keys.length qk) ∧ U.cell? ⟨w3.heap.size, 2, none⟩ = some (.slice pv P.vals.length qv) ∧ U.cell? ⟨w3.heap.size, 3, none⟩ = some (.slice pd P.kids.length qd)) ∧
      (U.cell? ⟨w3.heap.size + 1, 0, none⟩ = some (.bool Q.leaf) ∧ U.cell? ⟨w3.heap.size + 1, 1, none⟩ = some (.slice rk Q.keys.length sk) ∧ U.cell? ⟨w3.heap.size + 1, 2, none⟩ = some (.slice rv Q.vals.length sv) ∧ U.cell? ⟨w3.heap.size + 1, 3, none⟩ = some (.slice rd Q.kids.length sd))) := fun U b => ⟨(cells4 ((b.block _ (lt_of_block AB.out)).trans AB.out)).1, (cells4 ((b.block _ (lt_of_block BB.out)).trans BB.out)).1⟩
  have HF : Hid (∀ U, Below V3.heap.size V3 U → Below W.heap.size W U) := fun U b => BV3.out.trans (b.mono BV3.out.size)
  by_cases he : ER = 0
  · subst he
    have HV := halves hER.out.symm
    rw [← hP.out, ← hQ.out, ← hM.out] at HV
    have sP := nok_small ((ncheck_ok P).1 HV.ok1)
    have sQ := nok_small ((ncheck_ok Q).1 HV.ok2)
    replace HV := hide HV
    have A1 := (HA.out V3 (Below.refl _ _)).1.2.1
    go_wp2_with fail
    rw [← hV3]
    replace hV3 := hide hV3
    refine (num9_any _ _).mono ?_
    rintro e w' ⟨rfl, rfl⟩
    have KC := hide (copyStr_sl V3 _ P.keys O3.out.rd.keys (by omega))
    go_wp2_with fail
    clear A1 EA EB
    refine KC.out.mono ?_
    rintro e w4 ⟨tk, dk, rfl, o5, b4⟩
    clear KC
    have B4 := hide b4
    have S4 := hide b4.size
    have D0 := (HD.out w4 (HF.out w4 b4)).1
    have C1 := (HA.out w4 b4).2.1
    have C2 := (HA.out w4 b4).2.2.1
    have rQ := (O4.out.to b4).rd.keys
    have hsz := b4.size
    have hlen : (P.keys.length + Q.keys.length) * 16 ≤ 140737488355328 := by omega
    clear b4
    cases hl : n.leaf with
    | true =>
      rw [hl] at D0
      have hl' := hide hl
      have hk := HV.out.keys
      rw [hl] at hk
      rw [if_pos rfl] at hk
      have HK := hide hk
      clear hk hl
      have hl := hl'
      clear hl'
      go_wp2_with (at_builtin; refine wpList_appT rfl _ _ rfl V3.heap.size _ _ _ _ rfl rfl o5 rQ hlen hsz ?_; intro v5 w5 o6 b5)
      have B5 := hide (B4.out.trans b5)
      have O5 : Hid (OwnT V3.heap.size w5 v5 n.keys) := by
        rw [HK.out] at o6
        exact o6
      clear o6 b5 o5 rQ D0 C1 C2 hlen hsz
      have HS3 : Hid (∀ U, Below V3.heap.size V3 U → U.cell? ⟨w3.heap.size, 3, none⟩ = some (.slice pd P.kids.length qd) ∧ U.cell? ⟨w3.heap.size + 1, 3, none⟩ = some (.slice rd Q.kids.length sd)) := fun U b => ⟨(HA.out U b).1.2.2.2, (HA.out U b).2.2.2.2⟩
      have z3 : Below V3.heap.size V3 w5.drew := B5.out.trans ((Below.refl _ _).drew.mono B5.out.size)
      have KI3 := hide (copyInt_sl w5.drew _ P.kids ((O3.out.to z3).rd.kids) (by omega))
      refine wp_region_sched (fun w9 => w9.cell? ⟨w3.heap.size, 3, none⟩ = some (.slice pd P.kids.length qd) ∧ w9.cell? ⟨w3.heap.size + 1, 3, none⟩ = some (.slice rd Q.kids.length sd)) [(0, true), (1, true), (3, true), (4, true), (2, false)] 5 mixed (by kernel_rfl) (fun _ _ _ _ h => h) ?_
      iterate 4
        refine sched_take (v := ?_) rfl (by kernel_rfl) (HS3.out _ z3) ?_ ?_
        rotate_left
        · rintro w9 ⟨r1, r2⟩
          go_simp
          try with_reducible rfl
        try simp only [Act.put, List.setIfInBounds_toArray, List.set_cons_zero, List.set_cons_succ]
      refine sched_run rfl (by kernel_rfl) fun K hK => ?_
      refine wp_call_of 20 _ _ (by rfl) #[.slice pd P.kids.length qd] (by simp [Act.eval]) (Try.call20 _ _) KI3.out ?_
      rintro e wc3 ⟨ta3, tc3, rfl, oc3, bc3⟩
      have y3 : Below V3.heap.size V3 wc3 := z3.trans (bc3.mono z3.size)
      refine ⟨_, rfl, hK _ _ (HS3.out _ y3) ?_⟩
      clear hK K
      try simp only [Act.put, List.setIfInBounds_toArray, List.set_cons_zero, List.set_cons_succ]
      have rq3 := (O4.out.to y3).rd.kids
      have hs3 : w5.drew.heap.size ≤ wc3.heap.size := bc3.size
      have hn3 : (P.kids.length + Q.kids.length) * 8 ≤ 140737488355328 := by omega
      have bb3 : Hid (Below w5.heap.size w5 wc3) := (Below.refl _ _).drew.trans bc3
      clear y3 z3 bc3 KI3 HS3
      show wpList _ _ _ _ _ _
      dsimp only [List.drop]
      go_wp2_with (at_builtin; refine wpList_appJ rfl _ _ rfl w5.drew.heap.size _ _ _ _ rfl rfl oc3 rq3 hn3 hs3 ?_; intro va3 wa3 oa3 ba3)
      have BA3 : Hid (Below w5.heap.size w5 wa3) := bb3.out.trans ba3
      have BF3 := hide (B5.out.trans (BA3.out.mono B5.out.size))
      have OA3 := hide oa3
      clear oa3 ba3 oc3 rq3 bb3
      have HS2 : Hid (∀ U, Below V3.heap.size V3 U → U.cell? ⟨w3.heap.size, 2, none⟩ = some (.slice pv P.vals.length qv) ∧ U.cell? ⟨w3.heap.size + 1, 2, none⟩ = some (.slice rv Q.vals.length sv)) := fun U b => ⟨(HA.out U b).1.2.2.1, (HA.out U b).2.2.2.1⟩
      have z2 : Below V3.heap.size V3 wa3.drew := BF3.out.trans ((Below.refl _ _).drew.mono BF3.out.size)
      have KI2 := hide (copyStr_sl wa3.drew _ P.vals ((O3.out.to z2).rd.vals) (by omega))
      refine wp_region_sched (fun w9 => w9.cell? ⟨w3.heap.size, 2, none⟩ = some (.slice pv P.vals.length qv) ∧ w9.cell? ⟨w3.heap.size + 1, 2, none⟩ = some (.slice rv Q.vals.length sv)) [(0, true), (1, true), (3, true), (4, true), (2, false)] 5 mixed (by kernel_rfl) (fun _ _ _ _ h => h) ?_
      iterate 4
        refine sched_take (v := ?_) rfl (by kernel_rfl) (HS2.out _ z2) ?_ ?_
        rotate_left
        · rintro w9 ⟨r1, r2⟩
          go_simp
          try with_reducible rfl
        try simp only [Act.put, List.setIfInBounds_toArray, List.set_cons_zero, List.set_cons_succ]
      refine sched_run rfl (by kernel_rfl) fun K hK => ?_
      refine wp_call_of 19 _ _ (by rfl) #[.slice pv P.vals.length qv] (by simp [Act.eval]) (Try.call19 _ _) KI2.out ?_
      rintro e wc2 ⟨ta2, tc2, rfl, oc2, bc2⟩
      have y2 : Below V3.heap.size V3 wc2 := z2.trans (bc2.mono z2.size)
      refine ⟨_, rfl, hK _ _ (HS2.out _ y2) ?_⟩
      clear hK K
      try simp only [Act.put, List.setIfInBounds_toArray, List.set_cons_zero, List.set_cons_succ]
      have rq2 := (O4.out.to y2).rd.vals
      have hs2 : wa3.drew.heap.size ≤ wc2.heap.size := bc2.size
      have hn2 : (P.vals.length + Q.vals.length) * 16 ≤ 140737488355328 := by omega
      have bb2 : Hid (Below wa3.heap.size wa3 wc2) := (Below.refl _ _).drew.trans bc2
      clear y2 z2 bc2 KI2 HS2
      show wpList _ _ _ _ _ _
      dsimp only [List.drop]
      go_wp2_with (at_builtin; refine wpList_appT rfl _ _ rfl wa3.drew.heap.size _ _ _ _ rfl rfl oc2 rq2 hn2 hs2 ?_; intro va2 wa2 oa2 ba2; have hA9 := (HA.out wa2 (BF3.out.trans ((bb2.out.trans ba2).mono BF3.out.size))).1; have a0 := hA9.1; have a1 := hA9.2.1; have a2 := hA9.2.2.1; have a3 := hA9.2.2.2; clear hA9)
      have BA2 : Hid (Below wa3.heap.size wa3 wa2) := bb2.out.trans ba2
      have BF2 := hide (BF3.out.trans (BA2.out.mono BF3.out.size))
      have OA2 := hide oa2
      clear oa2 ba2 oc2 rq2 bb2
      have K5 := rows_to O5.out BA3.out
      have R5 : Hid (RdT wa2 v5 n.keys) := OwnT.rd (rows_to K5 BA2.out)
      have R6 : Hid (RdI wa2 va3 n.kids) := by
        have := OwnJ.rd (rows_to OA3.out BA2.out)
        rw [HV.out.kids] at this
        exact this
      have R7 : Hid (RdT wa2 va2 n.vals) := by
        have := OwnT.rd OA2.out
        rw [HV.out.vals] at this
        exact this
      clear K5 OA3 OA2 O5
      have KP := hide (pcheck9_any wa2 _ _ _ P (O3.out.to BF2.out).rd HV.out.fit1)
      rw [HV.out.ok1] at KP
      dsimp only [nv] at KP
      clear a0 a1 a2 a3
      refine KP.out.mono ?_
      rintro e wx ⟨rfl, bx⟩
      clear KP
      have BX := hide bx
      have BFX := hide (BF2.out.trans (bx.mono BF2.out.size))
      clear bx
      go_wp2_with fail
      refine (num9_any _ _).mono ?_
      rintro e w' ⟨rfl, rfl⟩
      have KQ := hide (pcheck9_any wx _ _ _ Q (O4.out.to BFX.out).rd HV.out.fit2)
      rw [HV.out.ok2] at KQ
      dsimp only [nv] at KQ
      obtain ⟨_, ⟨c0, c1, c2, c3⟩⟩ := HA.out wx BFX.out
      go_wp2_with fail
      clear c0 c1 c2 c3
      refine KQ.out.mono ?_
      rintro e wy ⟨rfl, by'⟩
      clear KQ
      have BY := hide (BX.out.trans (by'.mono BX.out.size))
      have BFY := hide (BFX.out.trans (by'.mono BFX.out.size))
      clear by'
      go_wp2_with fail
      refine (num9_any _ _).mono ?_
      rintro e w' ⟨rfl, rfl⟩
      have hN : Hid (∀ m, Below W.heap.size W (wy.drewN m)) := fun m => HF.out _ (BFY.out.trans (below_drewN' wy m _))
      have KA := hide (sameStr_any wy v5 _ n.keys n.keys (R5.out.to0 BY.out) (HR.out wy (HF.out wy BFY.out)).keys)
      have KB := hide (fun m => sameInt_any (wy.drewN m) va3 _ n.kids n.kids ((R6.out.to0 BY.out).to0 (below_drewN' wy m _)) (HR.out _ (hN.out m)).kids)
      have KC := hide (fun m => sameStr_any (wy.drewN m) va2 _ n.vals n.vals ((R7.out.to0 BY.out).to0 (below_drewN' wy m _)) (HR.out _ (hN.out m)).vals)
      simp only [decide_true] at KA KB KC
      obtain ⟨D0, D1, D2, D3⟩ := HD.out wy (HF.out wy BFY.out)
      have C1 := (HA.out wy BFY.out).2.2.1
      obtain ⟨mb, mo, e9, mc⟩ := ((O4.out.to BFY.out).rd.keys).strAt (HV.out.mid hl.out)
      subst e9
      have hq0 : (0 : Int) < (Q.keys.length : Int) := by have := (List.getElem?_eq_some_iff.1 (HV.out.mid hl.out)).1; omega
      have hmm : (M == M) = true := by simp
      rw [Nat.add_zero] at mc
      rw [hl.out] at D0
      go_wp2_with fail
      refine KA.out.mono ?_
      rintro e wz ⟨rfl, m8, rfl⟩
      have d3 : (wy.drewN m8).cell? ⟨w.heap.size, 3, none⟩ = some (.slice ad n.kids.length cd) := D3
      go_wp2_with fail
      refine (KB.out m8).mono ?_
      rintro e wz ⟨rfl, m9, hwz⟩
      have hwz' : wz = wy.drewN (m8 + m9) := by rw [hwz]; simp
      subst hwz'
      have d2 : (wy.drewN (m8 + m9)).cell? ⟨w.heap.size, 2, none⟩ = some (.slice av n.vals.length cv) := D2
      clear hwz
      go_wp2_with fail
      refine (KC.out (m8 + m9)).mono ?_
      rintro e wz ⟨rfl, m10, hwz⟩
      have hwz' : wz = wy.drewN (m8 + m9 + m10) := by rw [hwz]; simp
      subst hwz'
      clear hwz
      have d0 : (wy.drewN (m8 + m9 + m10)).cell? ⟨w.heap.size, 0, none⟩ = some (.bool true) := D0
      have c1 : (wy.drewN (m8 + m9 + m10)).cell? ⟨w3.heap.size + 1, 1, none⟩ = some (.slice (some ⟨mb, mo, none⟩) Q.keys.length sk) := C1
      have mc' : (wy.drewN (m8 + m9 + m10)).cell? ⟨mb, mo, none⟩ = some (st M) := mc
      have BZ := hide (HE.out _ (hN.out (m8 + m9 + m10)))
      go_wp2
      go_ret
      exact ⟨by first | rfl | simp, BZ.out⟩
    | false =>
      rw [hl] at D0
      have hl' := hide hl
      have hk := HV.out.keys
      rw [hl] at hk
      rw [if_neg (by decide)] at hk
      have HK := hide hk
      clear hk hl
      have hl := hl'
      clear hl'
      obtain ⟨X, hX⟩ : ∃ X, X = w4.alloc (.cells #[st M] 9) := ⟨_, rfl⟩
      have bX : Below w4.heap.size w4 X := by rw [hX]; exact (Below.refl _ _).alloc (Nat.le_refl _) _
      have rX : RdT X (.slice (some ⟨w4.heap.size, 0, none⟩) 1 1) [M] := by rw [hX]; exact OwnT.rd (own_str1 w4 M)
      have oX : OwnT V3.heap.size X (.slice tk P.keys.length dk) P.keys := rows_to o5 bX
      have l1 : (P.keys.length + [M].length) * 16 ≤ 140737488355328 := by simp; omega
      have l2 : ((P.keys ++ [M]).length + Q.keys.length) * 16 ≤ 140737488355328 := by simp; omega
      have hsX : V3.heap.size ≤ X.heap.size := Nat.le_trans hsz bX.size
      have BX0 := hide (B4.out.trans (bX.mono B4.out.size))
      have HQ : Hid (∀ U, Below V3.heap.size V3 U → U.cell? ⟨w3.heap.size + 1, 1, none⟩ = some (.slice rk Q.keys.length sk) ∧ RdT U (.slice rk Q.keys.length sk) Q.keys) := fun U b => ⟨(HA.out U b).2.2.1, (O4.out.to b).rd.keys⟩
      clear bX
      go_wp2_with (first | (at_builtin; rw [← hX]; refine wpList_appT rfl _ _ rfl V3.heap.size _ _ _ _ rfl rfl oX rX l1 hsX ?_; intro v50 w50 o60 b50; have c50 := (HQ.out w50 (BX0.out.trans b50)).1; have r50 := (HQ.out w50 (BX0.out.trans b50)).2; have s50 := (BX0.out.trans b50).size) | (at_builtin; refine wpList_appT rfl _ _ rfl V3.heap.size _ _ _ _ rfl rfl o60 r50 l2 s50 ?_; intro v5 w5 o6 b5))
      have B5 := hide ((BX0.out.trans b50).trans b5)
      have O5 : Hid (OwnT V3.heap.size w5 v5 n.keys) := by
        rw [HK.out] at o6
        exact o6
      clear o6 b5 o5 rQ D0 C1 C2 hlen hsz oX rX l1 l2 hsX o60 b50 c50 r50 s50 HQ
      replace hX := hide hX
      have HS3 : Hid (∀ U, Below V3.heap.size V3 U → U.cell? ⟨w3.heap.size, 3, none⟩ = some (.slice pd P.kids.length qd) ∧ U.cell? ⟨w3.heap.size + 1, 3, none⟩ = some (.slice rd Q.kids.length sd)) := fun U b => ⟨(HA.out U b).1.2.2.2, (HA.out U b).2.2.2.2⟩
      have z3 : Below V3.heap.size V3 w5.drew := B5.out.trans ((Below.refl _ _).drew.mono B5.out.size)
      have KI3 := hide (copyInt_sl w5.drew _ P.kids ((O3.out.to z3).rd.kids) (by omega))
      refine wp_region_sched (fun w9 => w9.cell? ⟨w3.heap.size, 3, none⟩ = some (.slice pd P.kids.length qd) ∧ w9.cell? ⟨w3.heap.size + 1, 3, none⟩ = some (.slice rd Q.kids.length sd)) [(0, true), (1, true), (3, true), (4, true), (2, false)] 5 mixed (by kernel_rfl) (fun _ _ _ _ h => h) ?_
      iterate 4
        refine sched_take (v := ?_) rfl (by kernel_rfl) (HS3.out _ z3) ?_ ?_
        rotate_left
        · rintro w9 ⟨r1, r2⟩
          go_simp
          try with_reducible rfl
        try simp only [Act.put, List.setIfInBounds_toArray, List.set_cons_zero, List.set_cons_succ]
      refine sched_run rfl (by kernel_rfl) fun K hK => ?_
      refine wp_call_of 20 _ _ (by rfl) #[.slice pd P.kids.length qd] (by simp [Act.eval]) (Try.call20 _ _) KI3.out ?_
      rintro e wc3 ⟨ta3, tc3, rfl, oc3, bc3⟩
      have y3 : Below V3.heap.size V3 wc3 := z3.trans (bc3.mono z3.size)
      refine ⟨_, rfl, hK _ _ (HS3.out _ y3) ?_⟩
      clear hK K
      try simp only [Act.put, List.setIfInBounds_toArray, List.set_cons_zero, List.set_cons_succ]
      have rq3 := (O4.out.to y3).rd.kids
      have hs3 : w5.drew.heap.size ≤ wc3.heap.size := bc3.size
      have hn3 : (P.kids.length + Q.kids.length) * 8 ≤ 140737488355328 := by omega
      have bb3 : Hid (Below w5.heap.size w5 wc3) := (Below.refl _ _).drew.trans bc3
      clear y3 z3 bc3 KI3 HS3
      show wpList _ _ _ _ _ _
      dsimp only [List.drop]
      go_wp2_with (at_builtin; refine wpList_appJ rfl _ _ rfl w5.drew.heap.size _ _ _ _ rfl rfl oc3 rq3 hn3 hs3 ?_; intro va3 wa3 oa3 ba3)
      have BA3 : Hid (Below w5.heap.size w5 wa3) := bb3.out.trans ba3
      have BF3 := hide (B5.out.trans (BA3.out.mono B5.out.size))
      have OA3 := hide oa3
      clear oa3 ba3 oc3 rq3 bb3
      have HS2 : Hid (∀ U, Below V3.heap.size V3 U → U.cell? ⟨w3.heap.size, 2, none⟩ = some (.slice pv P.vals.length qv) ∧ U.cell? ⟨w3.heap.size + 1, 2, none⟩ = some (.slice rv Q.vals.length sv)) := fun U b => ⟨(HA.out U b).1.2.2.1, (HA.out U b).2.2.2.1⟩
      have z2 : Below V3.heap.size V3 wa3.drew := BF3.out.trans ((Below.refl _ _).drew.mono BF3.out.size)
      have KI2 := hide (copyStr_sl wa3.drew _ P.vals ((O3.out.to z2).rd.vals) (by omega))
      refine wp_region_sched (fun w9 => w9.cell? ⟨w3.heap.size, 2, none⟩ = some (.slice pv P.vals.length qv) ∧ w9.cell? ⟨w3.heap.size + 1, 2, none⟩ = some (.slice rv Q.vals.length sv)) [(0, true), (1, true), (3, true), (4, true), (2, false)] 5 mixed (by kernel_rfl) (fun _ _ _ _ h => h) ?_
      iterate 4
        refine sched_take (v := ?_) rfl (by kernel_rfl) (HS2.out _ z2) ?_ ?_
        rotate_left
        · rintro w9 ⟨r1, r2⟩
          go_simp
          try with_reducible rfl
        try simp only [Act.put, List.setIfInBounds_toArray, List.set_cons_zero, List.set_cons_succ]
      refine sched_run rfl (by kernel_rfl) fun K hK => ?_
      refine wp_call_of 19 _ _ (by rfl) #[.slice pv P.vals.length qv] (by simp [Act.eval]) (Try.call19 _ _) KI2.out ?_
      rintro e wc2 ⟨ta2, tc2, rfl, oc2, bc2⟩
      have y2 : Below V3.heap.size V3 wc2 := z2.trans (bc2.mono z2.size)
      refine ⟨_, rfl, hK _ _ (HS2.out _ y2) ?_⟩
      clear hK K
      try simp only [Act.put, List.setIfInBounds_toArray, List.set_cons_zero, List.set_cons_succ]
      have rq2 := (O4.out.to y2).rd.vals
      have hs2 : wa3.drew.heap.size ≤ wc2.heap.size := bc2.size
      have hn2 : (P.vals.length + Q.vals.length) * 16 ≤ 140737488355328 := by omega
      have bb2 : Hid (Below wa3.heap.size wa3 wc2) := (Below.refl _ _).drew.trans bc2
      clear y2 z2 bc2 KI2 HS2
      show wpList _ _ _ _ _ _
      dsimp only [List.drop]
      go_wp2_with (at_builtin; refine wpList_appT rfl _ _ rfl wa3.drew.heap.size _ _ _ _ rfl rfl oc2 rq2 hn2 hs2 ?_; intro va2 wa2 oa2 ba2; have hA9 := (HA.out wa2 (BF3.out.trans ((bb2.out.trans ba2).mono BF3.out.size))).1; have a0 := hA9.1; have a1 := hA9.2.1; have a2 := hA9.2.2.1; have a3 := hA9.2.2.2; clear hA9)
      have BA2 : Hid (Below wa3.heap.size wa3 wa2) := bb2.out.trans ba2
      have BF2 := hide (BF3.out.trans (BA2.out.mono BF3.out.size))
      have OA2 := hide oa2
      clear oa2 ba2 oc2 rq2 bb2
      have K5 := rows_to O5.out BA3.out
      have R5 : Hid (RdT wa2 v5 n.keys) := OwnT.rd (rows_to K5 BA2.out)
      have R6 : Hid (RdI wa2 va3 n.kids) := by
        have := OwnJ.rd (rows_to OA3.out BA2.out)
        rw [HV.out.kids] at this
        exact this
      have R7 : Hid (RdT wa2 va2 n.vals) := by
        have := OwnT.rd OA2.out
        rw [HV.out.vals] at this
        exact this
      clear K5 OA3 OA2 O5
      have KP := hide (pcheck9_any wa2 _ _ _ P (O3.out.to BF2.out).rd HV.out.fit1)
      rw [HV.out.ok1] at KP
      dsimp only [nv] at KP
      clear a0 a1 a2 a3
      refine KP.out.mono ?_
      rintro e wx ⟨rfl, bx⟩
      clear KP
      have BX := hide bx
      have BFX := hide (BF2.out.trans (bx.mono BF2.out.size))
      clear bx
      go_wp2_with fail
      refine (num9_any _ _).mono ?_
      rintro e w' ⟨rfl, rfl⟩
      have KQ := hide (pcheck9_any wx _ _ _ Q (O4.out.to BFX.out).rd HV.out.fit2)
      rw [HV.out.ok2] at KQ
      dsimp only [nv] at KQ
      obtain ⟨_, ⟨c0, c1, c2, c3⟩⟩ := HA.out wx BFX.out
      go_wp2_with fail
      clear c0 c1 c2 c3
      refine KQ.out.mono ?_
      rintro e wy ⟨rfl, by'⟩
      clear KQ
      have BY := hide (BX.out.trans (by'.mono BX.out.size))
      have BFY := hide (BFX.out.trans (by'.mono BFX.out.size))
      clear by'
      go_wp2_with fail
      refine (num9_any _ _).mono ?_
      rintro e w' ⟨rfl, rfl⟩
      have hN : Hid (∀ m, Below W.heap.size W (wy.drewN m)) := fun m => HF.out _ (BFY.out.trans (below_drewN' wy m _))
      have KA := hide (sameStr_any wy v5 _ n.keys n.keys (R5.out.to0 BY.out) (HR.out wy (HF.out wy BFY.out)).keys)
      have KB := hide (fun m => sameInt_any (wy.drewN m) va3 _ n.kids n.kids ((R6.out.to0 BY.out).to0 (below_drewN' wy m _)) (HR.out _ (hN.out m)).kids)
      have KC := hide (fun m => sameStr_any (wy.drewN m) va2 _ n.vals n.vals ((R7.out.to0 BY.out).to0 (below_drewN' wy m _)) (HR.out _ (hN.out m)).vals)
      simp only [decide_true] at KA KB KC
      obtain ⟨D0, D1, D2, D3⟩ := HD.out wy (HF.out wy BFY.out)
      have C1 := (HA.out wy BFY.out).2.2.1
      rw [hl.out] at D0
      go_wp2_with fail
      refine KA.out.mono ?_
      rintro e wz ⟨rfl, m8, rfl⟩
      have d3 : (wy.drewN m8).cell? ⟨w.heap.size, 3, none⟩ = some (.slice ad n.kids.length cd) := D3
      go_wp2_with fail
      refine (KB.out m8).mono ?_
      rintro e wz ⟨rfl, m9, hwz⟩
      have hwz' : wz = wy.drewN (m8 + m9) := by rw [hwz]; simp
      subst hwz'
      have d2 : (wy.drewN (m8 + m9)).cell? ⟨w.heap.size, 2, none⟩ = some (.slice av n.vals.length cv) := D2
      clear hwz
      go_wp2_with fail
      refine (KC.out (m8 + m9)).mono ?_
      rintro e wz ⟨rfl, m10, hwz⟩
      have hwz' : wz = wy.drewN (m8 + m9 + m10) := by rw [hwz]; simp
      subst hwz'
      clear hwz
      have d0 : (wy.drewN (m8 + m9 + m10)).cell? ⟨w.heap.size, 0, none⟩ = some (.bool false) := D0
      have BZ := hide (HE.out _ (hN.out (m8 + m9 + m10)))
      go_wp2
      go_ret
      exact ⟨by first | rfl | simp, BZ.out⟩
  · have hno : Hid (P = none9 ∧ Q = none9 ∧ M = []) := by
      show _ ∧ _ ∧ _
      rw [hP.out, hQ.out, hM.out]
      unfold nlow' nhigh' nmid'
      rw [if_neg (by rw [← hER.out]; exact he), if_neg (by rw [← hER.out]; exact he), if_neg (by rw [← hER.out]; exact he)]
      exact ⟨rfl, rfl, rfl⟩
    have A1 := (HA.out V3 (Below.refl _ _)).1.2.1
    have C1 := (HA.out V3 (Below.refl _ _)).2.2.1
    have BL := hide (HE.out _ BV3.out)
    rw [hno.out.1] at A1
    rw [hno.out.2.1] at C1
    have A2 : V3.cell? ⟨w3.heap.size, 1, none⟩ = some (.slice pk 0 qk) := A1
    have C2 : V3.cell? ⟨w3.heap.size + 1, 1, none⟩ = some (.slice rk 0 sk) := C1
    clear A1 C1
    go_wp2_with fail
    rw [← hV3]
    replace hV3 := hide hV3
    refine (num9_any _ _).mono ?_
    rintro e w' ⟨rfl, rfl⟩
    rw [hno.out.2.2]
    go_wp2
    go_ret
    exact ⟨by first | rfl | simp, BL.out⟩

set_option maxRecDepth 100000 in
theorem lifted (os : Os) (started : os.Started) (H : Type) (enc : TypeId × Value → H) :
    ReturnsInHanded {} Try.checked os 5 .any (Rows.nodeHalvesSpec.pre6 enc Try.prog Try.f5 Rows.nodeHalvesRow.domain false) (Rows.nodeHalvesSpec.post enc Try.prog Try.f5 false true false false) := by
  refine returnsInHanded_of_change_sized (C := Try.checked) own started (by kernel_rfl) Try.func5
    (ChangeSpec.witness6 (enc := enc) (C := Try.checked) false ⟨#[], #[.agg #[.bool false, .slice none 0 0, .slice none 0 0, .slice none 0 0]], []⟩ 8 (by kernel_rfl) (by kernel_rfl) (by kernel_rfl) (by kernel_rfl)) ?_
  intro W base args ds gs before hval0 hW hcnd hsz0 _
  have hsz : (DataW.weightsEach Try.prog (Try.f5.params.toList ++ Rows.nodeHalvesSpec.plain.varTypes Try.prog) (ds ++ gs)).all (· ≤ reachBytes) = true := hsz0
  have hval : ∀ (j : Nat) t v, Try.f5.params[j]? = some t → args[j]? = some v → Value.okWide Try.prog W .any base t v := hval0
  have hW' := hW
  obtain ⟨p, q, hA0, hV, rfl, hfz, hnd⟩ := hW
  have hA : DataW.TrodAll enc Try.prog W 0 (fun _ => true) true Try.f5.params.toList args.toList ds p := hA0
  rw [Try.params5] at hA hval hsz
  obtain ⟨v0, vs0, d0, ds0, p0, q0, hargs, rfl, rfl, h0, r0⟩ := trodAll_cons hA
  obtain ⟨rfl, rfl, rfl⟩ := trodAll_nil r0
  obtain rfl : args = #[v0] := by cases args; simp_all
  obtain ⟨rfl, rfl⟩ := trodVars_none hV
  obtain ⟨cs0, rfl, _⟩ := okWide_struct Try.underlying25 (hval 0 25 v0 rfl rfl)
  have lt0 : ∀ x ∈ p0, x.block < W.heap.size := by obtain ⟨m, hm⟩ := h0; exact DataW.trod_lt m _ _ _ hm
  have hh0 := h0
  obtain ⟨fu0, hf0⟩ := hh0
  obtain ⟨x0, g0, f0, b0⟩ := open_node.opened hf0
  have m0 := f0 (reach_of hsz (j := 0) rfl rfl)
  clear hA0 hval0 hsz0 hsz
  refine (walk W cs0 x0 g0 m0).mono fun e W' ⟨he, bel⟩ => ?_
  subst he
  exact ⟨_, rfl, _, _, _, [], _, [], hW', trodAll_mk1 (shut_bool Try.underlying4 _), (trodAll_cons_mk (Below.trod laidOut (by kernel_rfl) (of_decide_eq_true (by kernel_rfl)) h0 bel lt0) trodAll_mk0), rfl, bel.frame _, fun h => by cases h⟩

theorem over : Rows.nodeHalvesRow.holds Try.pinned (OpenSpec.ofChange Rows.nodeHalvesSpec) :=
  OpenClaim.holds_of_wide 5 Try.f5 rfl rfl rfl rfl rfl rfl rfl ⟨rfl, rfl, rfl, rfl, rfl⟩ rfl rfl rfl rfl rfl (by kernel_rfl) Try.func5 (by kernel_rfl)
    (of_decide_eq_true (by kernel_rfl)) (by unfold Func.isWrapper; first | (rw [if_pos (by decide +kernel)]; kernel_rfl) | (rw [if_neg (by decide +kernel)]; exact ⟨rfl, rfl⟩))
    (fun os started H enc _ => lifted os started H enc)

end Go.Proofs.Ytjkpldmmijfebaa.nodeHalves
namespace Go.Proofs.Ytjkpldmmijfebaa
/-- THE STATEMENT -/
theorem nodeHalves_holds : Rows.NodeHalvesSaid := nodeHalves.over
end Go.Proofs.Ytjkpldmmijfebaa
