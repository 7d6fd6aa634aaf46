/-
  The page's Decide of votes.
-/
import Derived.Deep.CutRange
import Derived.Test.YtccklmhagabkaaaVtA
import Derived.Test.YtccklmhagabkaaaRMid
import Derived.Test.YtccklmhagabkaaaTail
namespace Go.Proofs.Ytccklmhagabkaaa
open Go.RowKit
set_option linter.unusedVariables false
set_option linter.unusedSimpArgs false

theorem step_go {P : Program} {ops : Array Oper} {o : Oper} {a : Act} {w : World} {K : Act → World → Prop} {Q : Exit → Act → World → Prop} {E : Prop} (hgd : o.guard = none) (h : Oper.wp P o a w K Q) : if Region.wanted o (yielded ops a.tmps) = true then Oper.wp P o a w K Q else E := by
  rw [if_pos (by simp [Region.wanted, hgd])]
  exact h

set_option maxRecDepth 100000 in
set_option maxHeartbeats 4000000 in
theorem vrdec_any (w : World) (s : Vs) (own ot : Int) (a : Vq) : Calls Try.prog 8 #[sv16 s, .int .i64 own, .int .i64 ot, av16 a] w fun e w' => e = .returned (.tuple #[sv16 (vdec s own ot a).1, .bool (vdec s own ot a).2.1, .int .i64 (vdec s own ot a).2.2]) ∧ Below w.heap.size w w' := by
  obtain ⟨aterm, afrom, alast, alterm⟩ := a
  obtain ⟨RR, hRR⟩ : ∃ R, R = vdec s own ot ⟨aterm, afrom, alast, alterm⟩ := ⟨_, rfl⟩
  rw [← hRR]
  have RN : Hid (¬ VOk s → RR = (vnil, false, 9)) := fun k => hRR.trans (if_neg k)
  obtain ⟨W0, hW0, D, bW0, sW0⟩ := boxedN w #[.int .i64 s.term, .bool s.has, .int .i64 s.who] 23
  obtain ⟨W1, hW1, DA, bW1, sW1⟩ := boxedN W0 #[.int .i64 aterm, .int .i64 afrom, .int .i64 alast, .int .i64 alterm] 25
  obtain ⟨W, hW, DZ, bW2, sW2⟩ := boxedN W1 #[.int .i64 0, .bool false, .int .i64 0] 23
  rw [sW0] at DA
  rw [sW1, sW0] at DZ
  have bW01 := bW0.trans (bW1.mono bW0.size)
  have bW := bW01.trans (bW2.mono bW01.size)
  replace D := (bW2.block _ (lt_of_block ((bW1.block _ (lt_of_block D)).trans D))).trans ((bW1.block _ (lt_of_block D)).trans D)
  replace DA := (bW2.block _ (lt_of_block DA)).trans DA
  have HS := hide (fun U (b : Below W.heap.size W U) => (b.block _ (lt_of_block D)).trans D)
  have HA := hide (fun U (b : Below W.heap.size W U) => (b.block _ (lt_of_block DA)).trans DA)
  have HZ := hide (fun U (b : Below W.heap.size W U) => (b.block _ (lt_of_block DZ)).trans DZ)
  have HE := hide (fun U (b : Below W.heap.size W U) => bW.trans (b.mono bW.size))
  have KC := hide (vrcheck_any W s)
  have hWW : Hid (W = ((w.alloc (.cells #[.int .i64 s.term, .bool s.has, .int .i64 s.who] 23)).alloc (.cells #[.int .i64 aterm, .int .i64 afrom, .int .i64 alast, .int .i64 alterm] 25)).alloc (.cells #[.int .i64 0, .bool false, .int .i64 0] 23)) := by rw [hW0] at hW1; rw [hW1] at hW; exact hW
  clear bW D bW0 bW1 bW2 bW01 sW0 DZ DA sW1 sW2 hW hW0 hW1
  have hWZ : Hid (w.heap.size + 1 + 1 < W.heap.size) := lt_of_block (HZ.out W (Below.refl _ _))
  obtain ⟨⟨D0, D1, D2⟩, _⟩ := cells3v (HS.out W (Below.refl _ _))
  rw [hWW.out] at D0 D1 D2 KC
  go_enter Try.func8, Try.ntmps8
  go_wp2_with fail
  refine KC.out.mono ?_
  rintro e w1 ⟨rfl, b1⟩
  rw [← hWW.out] at b1
  clear KC hWW D0 D1 D2
  have FZ := hide (fun x y z => heap_set3v (HZ.out w1 b1) x y z)
  have FB := hide (fun x y z => below_set3v (HE.out w1 b1) (show w.heap.size ≤ w.heap.size + 1 + 1 by omega) x y z)
  obtain ⟨⟨D0, D1, D2⟩, _⟩ := cells3v (HS.out w1 b1)
  obtain ⟨⟨A0, A1, A2, A3⟩, _⟩ := cells4v (HA.out w1 b1)
  obtain ⟨⟨Z0, Z1, Z2⟩, Zf⟩ := cells3v (HZ.out w1 b1)
  have Zf0 := Zf 0
  have Zf1 := Zf 1
  have Zf2 := Zf 2
  clear Zf
  obtain ⟨ck, hck⟩ : ∃ c, c = vcheck s := ⟨_, rfl⟩
  rw [← hck]
  by_cases ok : VOk s
  case neg =>
    have hr := hide (RN.out ok)
    rw [vcheck_no ok] at hck
    subst hck
    replace b1 := hide b1
    go_wp2
    refine retNTT rfl rfl (w.heap.size + 1 + 1) rfl _ _ (0, 0) (FZ.out _ _ _) _ Try.underlying23 rfl info_vs16 (.bool false) rfl (.int .i64 9) rfl ?_
    rw [hr.out]
    exact ⟨rfl, FB.out _ _ _⟩
  case pos =>
    rw [vcheck_ok ok] at hck
    subst hck
    replace b1 := hide b1
    by_cases g1 : aterm < 1
    · have hr : Hid (RR = (vnil, false, 4)) := hRR.trans ((if_pos ok).trans (if_neg (by rintro ⟨p1, p2, p3, p4⟩; dsimp only at p1 p2 p3 p4; omega)))
      replace hRR := hide hRR
      go_wp2
      refine retNTT rfl rfl (w.heap.size + 1 + 1) rfl _ _ (0, 0) (FZ.out _ _ _) _ Try.underlying23 rfl info_vs16 (.bool false) rfl (.int .i64 4) rfl ?_
      rw [hr.out]
      exact ⟨rfl, FB.out _ _ _⟩
    by_cases g2 : (1099511627776 : Int) < aterm
    · have hr : Hid (RR = (vnil, false, 4)) := hRR.trans ((if_pos ok).trans (if_neg (by rintro ⟨p1, p2, p3, p4⟩; dsimp only at p1 p2 p3 p4; omega)))
      replace hRR := hide hRR
      go_wp2
      refine retNTT rfl rfl (w.heap.size + 1 + 1) rfl _ _ (0, 0) (FZ.out _ _ _) _ Try.underlying23 rfl info_vs16 (.bool false) rfl (.int .i64 4) rfl ?_
      rw [hr.out]
      exact ⟨rfl, FB.out _ _ _⟩
    by_cases g3 : afrom < 0
    · have hr : Hid (RR = (vnil, false, 4)) := hRR.trans ((if_pos ok).trans (if_neg (by rintro ⟨p1, p2, p3, p4⟩; dsimp only at p1 p2 p3 p4; omega)))
      replace hRR := hide hRR
      go_wp2
      refine retNTT rfl rfl (w.heap.size + 1 + 1) rfl _ _ (0, 0) (FZ.out _ _ _) _ Try.underlying23 rfl info_vs16 (.bool false) rfl (.int .i64 4) rfl ?_
      rw [hr.out]
      exact ⟨rfl, FB.out _ _ _⟩
    by_cases g4 : (9 : Int) ≤ afrom
    · have hr : Hid (RR = (vnil, false, 4)) := hRR.trans ((if_pos ok).trans (if_neg (by rintro ⟨p1, p2, p3, p4⟩; dsimp only at p1 p2 p3 p4; omega)))
      replace hRR := hide hRR
      go_wp2
      refine retNTT rfl rfl (w.heap.size + 1 + 1) rfl _ _ (0, 0) (FZ.out _ _ _) _ Try.underlying23 rfl info_vs16 (.bool false) rfl (.int .i64 4) rfl ?_
      rw [hr.out]
      exact ⟨rfl, FB.out _ _ _⟩
    have hv : Hid (vask ⟨aterm, afrom, alast, alterm⟩) := ⟨by dsimp only; omega, by dsimp only; omega, by dsimp only; omega, by dsimp only; omega⟩
    have hto := hide (vturn_to ok (t := aterm) (by omega) (by omega))
    have hR := hide (hRR.trans ((if_pos ok).trans (if_pos hv.out)))
    clear hRR RN
    have KT := hide (vrturn_any w1 s aterm)
    go_wp2_with fail
    refine KT.out.mono ?_
    rintro e w2 ⟨rfl, b2⟩
    rw [hto.out]
    clear KT hto D0 D1 D2
    have b12 : Below W.heap.size W w2 := b1.out.trans (b2.mono b1.out.size)
    clear b2 FZ FB A0 A1 A2 A3 Z0 Z1 Z2 Zf0 Zf1 Zf2
    obtain ⟨T, hT⟩ : ∃ T, T = vto s aterm := ⟨_, rfl⟩
    rw [← hT]
    rw [← hT] at hR
    replace hT := hide hT
    obtain ⟨tt, th, tw⟩ := T
    dsimp only [sv16]
    obtain ⟨V, hV, DT, bV, sV⟩ := boxedN w2 #[.int .i64 tt, .bool th, .int .i64 tw] 23
    have c3 : Below W.heap.size W V := b12.trans (bV.mono b12.size)
    have hs2 := hide b12.size
    have hLZ : Hid (w.heap.size + 1 + 1 < w2.heap.size) := Nat.lt_of_lt_of_le hWZ.out hs2.out
    have FT := hide (fun U (b : Below V.heap.size V U) => (b.block _ (lt_of_block DT)).trans DT)
    have FZ := hide (fun x y z => heap_set3v (HZ.out V c3) x y z)
    have FB := hide (fun x y z => below_set3v (HE.out V c3) (show w.heap.size ≤ w.heap.size + 1 + 1 by omega) x y z)
    obtain ⟨⟨A0, A1, A2, A3⟩, _⟩ := cells4v (HA.out V c3)
    obtain ⟨⟨Z0, Z1, Z2⟩, Zf⟩ := cells3v (HZ.out V c3)
    have Zf0 := Zf 0
    have Zf1 := Zf 1
    have Zf2 := Zf 2
    obtain ⟨⟨T0, T1, T2⟩, Tf⟩ := cells3v DT
    have Tf0 := Tf 0
    have Tf1 := Tf 1
    have Tf2 := Tf 2
    clear Zf b12 b1 Tf bV
    replace c3 := hide c3
    have hVV := hide hV
    replace DT := hide DT
    rw [hV] at A0 A1 A2 A3 Z0 Z1 Z2 Zf0 Zf1 Zf2 T0 T1 T2 Tf0 Tf1 Tf2
    clear hV sV
    by_cases n1 : aterm < tt
    · have hr := hide (hR.out.trans (if_pos (.inl n1)))
      clear hR
      go_wp2
      rw [← hVV.out]
      refine retNTT rfl rfl (w.heap.size + 1 + 1) rfl _ _ (0, 0) (FZ.out _ _ _) _ Try.underlying23 rfl info_vs16 (.bool false) rfl (.int .i64 0) rfl ?_
      rw [hr.out]
      exact ⟨rfl, FB.out _ _ _⟩
    have n1' : decide (aterm < tt) = false := decide_eq_false n1
    replace n1 := hide n1
    have KN := hide (vrnewer_any (w2.alloc (.cells #[.int .i64 tt, .bool th, .int .i64 tw] 23)) alast alterm own ot)
    cases th with
    | false =>
      go_wp2_with fail
      refine KN.out.mono ?_
      rintro e w4 ⟨rfl, rfl⟩
      obtain ⟨nb, hnb⟩ : ∃ b, b = vnewer alast alterm own ot := ⟨_, rfl⟩
      rw [← hnb]
      cases nb with
      | false =>
        have hr := hide (hR.out.trans (if_pos (.inr (.inr hnb.symm))))
        clear hR KN hnb
        go_wp2
        rw [← hVV.out]
        refine retNTT rfl rfl (w.heap.size + 1 + 1) rfl _ _ (0, 0) (FZ.out _ _ _) _ Try.underlying23 rfl info_vs16 (.bool false) rfl (.int .i64 0) rfl ?_
        rw [hr.out]
        exact ⟨rfl, FB.out _ _ _⟩
      | true =>
        have hr := hide (hR.out.trans (if_neg (by rintro (q | q | q); exact absurd q (by have := n1.out; dsimp only; omega); exact absurd q.1 Bool.false_ne_true; exact absurd (hnb.trans q) (by decide))))
        clear hR KN hnb
        go_upto_region 8 with fail
        refine wp_region_mid (fun w' => w'.cell? ⟨w.heap.size + 1, 1, none⟩ = some (.int .i64 afrom)) 3 4 mixed (by kernel_rfl) (fun _ _ _ _ h => h) A1 ?_
        dsimp only [List.take, List.drop]
        iterate 3
          refine take_one (v := ?_) (by rfl) ?_ ?_
          rotate_left
          · rintro w' s1
            go_simp
            try with_reducible rfl
          try simp only [Act.put, List.setIfInBounds_toArray, List.set_cons_zero, List.set_cons_succ]
        refine mid_one fun K hK => ?_
        refine step_go rfl ?_
        obtain ⟨U, hU⟩ : ∃ U, U = (w2.alloc (.cells #[.int .i64 tt, .bool false, .int .i64 tw] 23)).drew := ⟨_, rfl⟩
        have bU : Below W.heap.size W U := by rw [hU, ← hVV.out]; exact c3.out.drew
        have TU : U.heap[w2.heap.size]? = some (.cells #[.int .i64 tt, .bool false, .int .i64 tw] 23 (0, 0)) := by rw [hU, ← hVV.out]; exact DT.out
        rw [← hU]
        replace hU := hide hU
        clear A0 A1 A2 A3 Z0 Z1 Z2 Zf0 Zf1 Zf2 T0 T1 T2 Tf0 Tf1 Tf2 FZ FB
        obtain ⟨⟨A0, A1, A2, A3⟩, _⟩ := cells4v (HA.out U bU)
        obtain ⟨⟨Z0, Z1, Z2⟩, Zf⟩ := cells3v (HZ.out U bU)
        have Zf0 := Zf 0
        have Zf1 := Zf 1
        have Zf2 := Zf 2
        obtain ⟨⟨T0, T1, T2⟩, Tf⟩ := cells3v TU
        have Tf0 := Tf 0
        have Tf1 := Tf 1
        have Tf2 := Tf 2
        clear Zf Tf
        have lz : w.heap.size + 1 + 1 < w2.heap.size := hLZ.out
        have ne1 : ¬ (w2.heap.size = w.heap.size + 1 + 1) := by omega
        have ne2 : ¬ (w.heap.size + 1 + 1 = w2.heap.size) := by omega
        have ne3 : ¬ (w2.heap.size = w.heap.size + 1) := by omega
        have ne4 : ¬ (w.heap.size + 1 = w2.heap.size) := by omega
        replace lz := hide lz
        have bX := hide (fun x y => ((bU.setCell (p := ⟨w2.heap.size, 1, none⟩) hs2.out x).setCell (p := ⟨w2.heap.size, 2, none⟩) hs2.out y))
        replace bU := hide bU
        replace TU := hide TU
        have FZ := hide (fun x y z => heap_set3v (HZ.out _ (bX.out (.bool true) (.int .i64 afrom))) x y z)
        have FB := hide (fun x y z => below_set3v (HE.out _ (bX.out (.bool true) (.int .i64 afrom))) (show w.heap.size ≤ w.heap.size + 1 + 1 by omega) x y z)
        go_simp
        refine hK _ _ ((World.cell?_setCell_other _ _ _ _ (by intro q; simp only [Addr.mk.injEq] at q; omega)).trans A1) ?_
        show wpList _ _ _ _ _ _
        try simp only [Act.put, List.setIfInBounds_toArray, List.set_cons_zero, List.set_cons_succ]
        clear hK
        go_wp2_with fail
        refine retNTT rfl rfl (w.heap.size + 1 + 1) rfl _ _ (0, 0) (FZ.out _ _ _) _ Try.underlying23 rfl info_vs16 (.bool true) rfl (.int .i64 0) rfl ?_
        rw [hr.out]
        exact ⟨rfl, FB.out _ _ _⟩
    | true =>
      by_cases n2 : tw = afrom
      · have n2' : (tw != afrom) = false := by simp [n2]
        replace n2 := hide n2
        go_wp2_with fail
        refine KN.out.mono ?_
        rintro e w4 ⟨rfl, rfl⟩
        obtain ⟨nb, hnb⟩ : ∃ b, b = vnewer alast alterm own ot := ⟨_, rfl⟩
        rw [← hnb]
        cases nb with
        | false =>
          have hr := hide (hR.out.trans (if_pos (.inr (.inr hnb.symm))))
          clear hR KN hnb
          go_wp2
          rw [← hVV.out]
          refine retNTT rfl rfl (w.heap.size + 1 + 1) rfl _ _ (0, 0) (FZ.out _ _ _) _ Try.underlying23 rfl info_vs16 (.bool false) rfl (.int .i64 0) rfl ?_
          rw [hr.out]
          exact ⟨rfl, FB.out _ _ _⟩
        | true =>
          have hr := hide (hR.out.trans (if_neg (by rintro (q | q | q); exact absurd q (by have := n1.out; dsimp only; omega); exact q.2 n2.out; exact absurd (hnb.trans q) (by decide))))
          clear hR KN hnb
          go_upto_region 8 with fail
          refine wp_region_mid (fun w' => w'.cell? ⟨w.heap.size + 1, 1, none⟩ = some (.int .i64 afrom)) 3 4 mixed (by kernel_rfl) (fun _ _ _ _ h => h) A1 ?_
          dsimp only [List.take, List.drop]
          iterate 3
            refine take_one (v := ?_) (by rfl) ?_ ?_
            rotate_left
            · rintro w' s1
              go_simp
              try with_reducible rfl
            try simp only [Act.put, List.setIfInBounds_toArray, List.set_cons_zero, List.set_cons_succ]
          refine mid_one fun K hK => ?_
          refine step_go rfl ?_
          obtain ⟨U, hU⟩ : ∃ U, U = (w2.alloc (.cells #[.int .i64 tt, .bool true, .int .i64 tw] 23)).drew := ⟨_, rfl⟩
          have bU : Below W.heap.size W U := by rw [hU, ← hVV.out]; exact c3.out.drew
          have TU : U.heap[w2.heap.size]? = some (.cells #[.int .i64 tt, .bool true, .int .i64 tw] 23 (0, 0)) := by rw [hU, ← hVV.out]; exact DT.out
          rw [← hU]
          replace hU := hide hU
          clear A0 A1 A2 A3 Z0 Z1 Z2 Zf0 Zf1 Zf2 T0 T1 T2 Tf0 Tf1 Tf2 FZ FB
          obtain ⟨⟨A0, A1, A2, A3⟩, _⟩ := cells4v (HA.out U bU)
          obtain ⟨⟨Z0, Z1, Z2⟩, Zf⟩ := cells3v (HZ.out U bU)
          have Zf0 := Zf 0
          have Zf1 := Zf 1
          have Zf2 := Zf 2
          obtain ⟨⟨T0, T1, T2⟩, Tf⟩ := cells3v TU
          have Tf0 := Tf 0
          have Tf1 := Tf 1
          have Tf2 := Tf 2
          clear Zf Tf
          have lz : w.heap.size + 1 + 1 < w2.heap.size := hLZ.out
          have ne1 : ¬ (w2.heap.size = w.heap.size + 1 + 1) := by omega
          have ne2 : ¬ (w.heap.size + 1 + 1 = w2.heap.size) := by omega
          have ne3 : ¬ (w2.heap.size = w.heap.size + 1) := by omega
          have ne4 : ¬ (w.heap.size + 1 = w2.heap.size) := by omega
          replace lz := hide lz
          have bX := hide (fun x y => ((bU.setCell (p := ⟨w2.heap.size, 1, none⟩) hs2.out x).setCell (p := ⟨w2.heap.size, 2, none⟩) hs2.out y))
          replace bU := hide bU
          replace TU := hide TU
          have FZ := hide (fun x y z => heap_set3v (HZ.out _ (bX.out (.bool true) (.int .i64 afrom))) x y z)
          have FB := hide (fun x y z => below_set3v (HE.out _ (bX.out (.bool true) (.int .i64 afrom))) (show w.heap.size ≤ w.heap.size + 1 + 1 by omega) x y z)
          go_simp
          refine hK _ _ ((World.cell?_setCell_other _ _ _ _ (by intro q; simp only [Addr.mk.injEq] at q; omega)).trans A1) ?_
          show wpList _ _ _ _ _ _
          try simp only [Act.put, List.setIfInBounds_toArray, List.set_cons_zero, List.set_cons_succ]
          clear hK
          go_wp2_with fail
          refine retNTT rfl rfl (w.heap.size + 1 + 1) rfl _ _ (0, 0) (FZ.out _ _ _) _ Try.underlying23 rfl info_vs16 (.bool true) rfl (.int .i64 0) rfl ?_
          rw [hr.out]
          exact ⟨rfl, FB.out _ _ _⟩
      · have hr := hide (hR.out.trans (if_pos (.inr (.inl ⟨rfl, n2⟩))))
        have n2' : (tw != afrom) = true := by simpa using n2
        replace n2 := hide n2
        clear hR
        go_wp2
        rw [← hVV.out]
        refine retNTT rfl rfl (w.heap.size + 1 + 1) rfl _ _ (0, 0) (FZ.out _ _ _) _ Try.underlying23 rfl info_vs16 (.bool false) rfl (.int .i64 0) rfl ?_
        rw [hr.out]
        exact ⟨rfl, FB.out _ _ _⟩
end Go.Proofs.Ytccklmhagabkaaa
