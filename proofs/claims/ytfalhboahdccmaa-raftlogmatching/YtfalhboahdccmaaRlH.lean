/-
  The law's grown: a log out of pieces of a leader's log is a beginning of it. (Written by gen15h.py.)
-/
import Derived.Deep.CutRange
import Derived.Test.YtfalhboahdccmaaRlK
namespace Go.Proofs.Ytfalhboahdccmaa
open Go.RowKit
set_option linter.unusedVariables false
set_option linter.unusedSimpArgs false

set_option maxRecDepth 100000 in
set_option maxHeartbeats 8000000 in
theorem rgrown_any (S : LogSay) (w : World) (lv0 pv : Value) (ld : List Wrt) (ps : List (Int × Int)) (h1 : RdC w lv0 ld) (h2 : RdS SPc w pv ps) (ok : LOk ⟨0, 0, ld⟩) (hl : ld.length ≤ 40) (hp : ps.length ≤ 8796093022208) (hpf : ∀ x ∈ ps, I64 x.1 ∧ I64 x.2) :
    Calls Try.prog 25 #[lv0, pv] w fun e w' => ∃ (k : Nat) (v' : Value), e = .returned (.tuple #[.agg #[.int .i64 0, .int .i64 0, v'], .bool true]) ∧ k ≤ ld.length ∧ RdC w' v' (ld.take k) ∧ Below w.heap.size w w' := by
  obtain ⟨W0, hW0, DR, bW0, sW0⟩ := boxedN w #[.int .i64 0, .int .i64 0, .slice none 0 0] 28
  obtain ⟨W, hW, DX, bW1, sW1⟩ := boxedN W0 #[.int .i64 0, .int .i64 0, .slice none 0 0] 28
  rw [sW0] at DX
  have bW := bW0.trans (bW1.mono bW0.size)
  replace DR := (bW1.block _ (lt_of_block DR)).trans DR
  have sW : Hid (W.heap.size = w.heap.size + 1 + 1) := by show _ = _; omega
  have HL : Hid (∀ U, Below w.heap.size w U → RdC U lv0 ld) := fun U b => h1.to0 b
  have HP : Hid (∀ U, Below w.heap.size w U → RdS SPc U pv ps) := fun U b => h2.to0 b
  obtain ⟨la, lc, rfl⟩ := h1.slice
  obtain ⟨pa, pc, rfl⟩ := h2.slice
  have hlc : Hid (ld.length ≤ lc) := by
    obtain ⟨_, _, q0, q1, _⟩ := h1
    simp only [Value.slice.injEq] at q0
    show _ ≤ _
    omega
  have hlcm : lc ≤ 9223372036854775807 := by
    obtain ⟨_, _, q0, _, q1, _⟩ := h1
    simp only [Value.slice.injEq] at q0
    have := q0.2.2
    subst this
    exact q1
  obtain ⟨N, hN⟩ : ∃ N, N = ld.length := ⟨_, rfl⟩
  obtain ⟨M, hM⟩ : ∃ M, M = ps.length := ⟨_, rfl⟩
  rw [← hN] at HL hl hlc ⊢
  rw [← hM] at HP hp ⊢
  have OK := hide ok
  have fit : Hid (LgFit ⟨0, 0, ld⟩) := ok.fit
  have I0 := hide (And.intro bW (And.intro DR (And.intro DX (Own.nil 27 SWr (w.heap.size + 1 + 1) W))))
  have hWW : Hid (W = (w.alloc (.cells #[.int .i64 0, .int .i64 0, .slice none 0 0] 28)).alloc (.cells #[.int .i64 0, .int .i64 0, .slice none 0 0] 28)) := by rw [hW0] at hW; exact hW
  replace hN := hide hN
  replace hM := hide hM
  replace hpf := hide hpf
  clear h1 h2 bW bW0 bW1 sW0 sW1 DR DX hW hW0 ok
  go_enter Try.func25, Try.ntmps25
  go_wp2
  rw [← hWW.out]
  clear hWW
  go_loopw [7] (fun i wr => ∃ (j k : Nat) (tk : List Wrt) (a6 : Option Addr) (c6 : Nat), i = .int .i64 j ∧ j ≤ 60 ∧ Hid (k ≤ N ∧ tk = ld.take k) ∧ Hid (Below w.heap.size w wr ∧ wr.heap[w.heap.size]? = some (.cells #[.int .i64 0, .int .i64 0, .slice none 0 0] 28 (0, 0)) ∧
      wr.heap[w.heap.size + 1]? = some (.cells #[.int .i64 0, .int .i64 0, .slice a6 tk.length c6] 28 (0, 0)) ∧ Own SEntB (w.heap.size + 1 + 1) wr [.slice a6 tk.length c6] tk)) (fun i _ => 61 - (intOf i).toNat)
  case atStart => exact ⟨0, 0, [], none, 0, rfl, by decide, hide ⟨Nat.zero_le _, by simp⟩, I0⟩
  case round =>
    obtain ⟨j, k, tk, a6, c6, rfl, hj, htk, hI⟩ := hrel
    clear I0
    obtain ⟨bn, hbn⟩ : ∃ b, b = decide (j < M ∧ j < 60 ∧ 0 < N) := ⟨_, rfl⟩
    go_upto_region 3 with fail
    go_cut [26] from 14 to 26 (fun b wx => b = .bool bn ∧ wr = wx)
    case first =>
      by_cases q1 : (j : Int) < (M : Int)
      · by_cases q2 : (j : Int) < 60
        · by_cases q3 : (0 : Int) < (N : Int)
          · have hd : Hid (bn = true) := by show _ = _; rw [hbn]; exact decide_eq_true ⟨by omega, by omega, by omega⟩
            go_wp2_with fail
            go_meet
            exact ⟨by rw [hd.out, decide_eq_true (show 0 < N by omega)], rfl⟩
          · have hd : Hid (bn = false) := by show _ = _; rw [hbn]; exact decide_eq_false (by omega)
            go_wp2_with fail
            go_meet
            exact ⟨by rw [hd.out, decide_eq_false (show ¬ 0 < N by omega)], rfl⟩
        · have hd : Hid (bn = false) := by show _ = _; rw [hbn]; exact decide_eq_false (by omega)
          have q2' : decide ((j : Int) < 60) = false := decide_eq_false q2
          go_wp2_with fail
          go_meet
          exact ⟨by rw [hd.out], rfl⟩
      · have hd : Hid (bn = false) := by show _ = _; rw [hbn]; exact decide_eq_false (by omega)
        have q1' : decide ((j : Int) < (M : Int)) = false := decide_eq_false q1
        go_wp2_with fail
        go_meet
        exact ⟨by rw [hd.out], rfl⟩
    case rest =>
    obtain ⟨rfl, rfl⟩ := hcut
    cases bn with
    | false =>
      clear hbn
      obtain ⟨⟨x0, x1, x2⟩, _⟩ := cells3l hI.out.2.2.1
      obtain ⟨⟨r0, r1, r2⟩, rf⟩ := cells3l hI.out.2.1
      have hkN : Hid (tk.length ≤ N ∧ tk = ld.take tk.length) := by
        obtain ⟨e1, e2⟩ := htk.out
        have e3 : tk.length = k := by rw [e2, List.length_take]; have := hN.out; omega
        show _ ∧ _
        rw [e3]
        exact htk.out
      obtain ⟨L, hL⟩ : ∃ L, L = tk.length := ⟨_, rfl⟩
      have SX : Hid (∀ U, Below wr.heap.size wr U → ((U.cell? ⟨w.heap.size + 1, 0, none⟩ = some (.int .i64 0) ∧ U.cell? ⟨w.heap.size + 1, 1, none⟩ = some (.int .i64 0) ∧ U.cell? ⟨w.heap.size + 1, 2, none⟩ = some (.slice a6 tk.length c6)))) := fun U b =>
        ⟨(b.cell (cell_lt x0)).trans x0, (b.cell (cell_lt x1)).trans x1, (b.cell (cell_lt x2)).trans x2⟩
      have KS : Hid (∀ U, Below wr.heap.size wr U → Calls Try.prog 21 #[.slice a6 tk.length c6, .slice la tk.length lc] U fun e w' => e = .returned (.bool true) ∧ ∃ n, w' = U.drewN n) := fun U b => by
        have e1 := HL.out U (hI.out.1.trans (b.mono hI.out.1.size))
        have e2 := rdS_front15 e1 hkN.out.1
        rw [← hkN.out.2] at e2
        exact sentries_any U _ _ tk (hI.out.2.2.2.rdS.to0 b) e2
      rw [← hL] at SX KS
      have hLb : L ≤ N := by have := hkN.out.1; omega
      have hLc : L ≤ lc := Nat.le_trans hLb hlc.out
      have hL1 : (0 : Int) ≤ (L : Int) := by omega
      have hL2 : (L : Int) ≤ (lc : Int) := by omega
      have hL3 : IntKind.i64.wrap (L : Int) = (L : Int) := IntWalk.i64_in _ (by omega)
      rw [hL] at hLb
      replace hL := hide hL
      clear x0 x1 x2 r0 r1 r2 rf
      go_upto_region 17 with fail
      have b0 := (Below.refl wr.heap.size wr).drew
      refine wp_region_fan (fun w9 => w9.cell? ⟨w.heap.size + 1, 0, none⟩ = some (.int .i64 0) ∧ w9.cell? ⟨w.heap.size + 1, 1, none⟩ = some (.int .i64 0) ∧ w9.cell? ⟨w.heap.size + 1, 2, none⟩ = some (.slice a6 L c6)) 9 mixed (by simp) ?_
      generalize wr.drew = c0 at *
      refine fan_take (i := 0) (v := ?_) rfl (by kernel_rfl) (fun _ _ _ _ h => h) (by kernel_rfl) (SX.out _ b0) ?_ ?_
      rotate_left
      · rintro w9 ⟨q0, q1, q2⟩
        go_simp
        try with_reducible rfl
      try simp only [List.getElem_toArray, List.getElem_cons_succ, List.getElem_cons_zero, List.getElem?_toArray, List.getElem?_cons_succ, List.getElem?_cons_zero, Act.put, List.setIfInBounds_toArray, List.set_cons_zero, List.set_cons_succ]
      refine fan_take (i := 1) (v := ?_) rfl (by kernel_rfl) (fun _ _ _ _ h => h) (by kernel_rfl) (SX.out _ b0) ?_ ?_
      rotate_left
      · rintro w9 ⟨q0, q1, q2⟩
        go_simp
        try with_reducible rfl
      try simp only [List.getElem_toArray, List.getElem_cons_succ, List.getElem_cons_zero, List.getElem?_toArray, List.getElem?_cons_succ, List.getElem?_cons_zero, Act.put, List.setIfInBounds_toArray, List.set_cons_zero, List.set_cons_succ]
      refine fan_take (i := 2) (v := ?_) rfl (by kernel_rfl) (fun _ _ _ _ h => h) (by kernel_rfl) (SX.out _ b0) ?_ ?_
      rotate_left
      · rintro w9 ⟨q0, q1, q2⟩
        go_simp
        try with_reducible rfl
      try simp only [List.getElem_toArray, List.getElem_cons_succ, List.getElem_cons_zero, List.getElem?_toArray, List.getElem?_cons_succ, List.getElem?_cons_zero, Act.put, List.setIfInBounds_toArray, List.set_cons_zero, List.set_cons_succ]
      refine fan_take (i := 3) (v := ?_) rfl (by kernel_rfl) (fun _ _ _ _ h => h) (by kernel_rfl) (SX.out _ b0) ?_ ?_
      rotate_left
      · rintro w9 ⟨q0, q1, q2⟩
        go_simp
        try with_reducible rfl
      try simp only [List.getElem_toArray, List.getElem_cons_succ, List.getElem_cons_zero, List.getElem?_toArray, List.getElem?_cons_succ, List.getElem?_cons_zero, Act.put, List.setIfInBounds_toArray, List.set_cons_zero, List.set_cons_succ]
      refine fan_take (i := 4) (v := ?_) rfl (by kernel_rfl) (fun _ _ _ _ h => h) (by kernel_rfl) (SX.out _ b0) ?_ ?_
      rotate_left
      · rintro w9 ⟨q0, q1, q2⟩
        go_simp
        try with_reducible rfl
      try simp only [List.getElem_toArray, List.getElem_cons_succ, List.getElem_cons_zero, List.getElem?_toArray, List.getElem?_cons_succ, List.getElem?_cons_zero, Act.put, List.setIfInBounds_toArray, List.set_cons_zero, List.set_cons_succ]
      refine fan_take (i := 5) (v := ?_) rfl (by kernel_rfl) (fun _ _ _ _ h => h) (by kernel_rfl) (SX.out _ b0) ?_ ?_
      rotate_left
      · rintro w9 ⟨q0, q1, q2⟩
        go_simp
        try with_reducible rfl
      try simp only [List.getElem_toArray, List.getElem_cons_succ, List.getElem_cons_zero, List.getElem?_toArray, List.getElem?_cons_succ, List.getElem?_cons_zero, Act.put, List.setIfInBounds_toArray, List.set_cons_zero, List.set_cons_succ]
      refine fan_take (i := 6) (v := ?_) rfl (by kernel_rfl) (fun _ _ _ _ h => h) (by kernel_rfl) (SX.out _ b0) ?_ ?_
      rotate_left
      · rintro w9 ⟨q0, q1, q2⟩
        go_simp
        try with_reducible rfl
      try simp only [List.getElem_toArray, List.getElem_cons_succ, List.getElem_cons_zero, List.getElem?_toArray, List.getElem?_cons_succ, List.getElem?_cons_zero, Act.put, List.setIfInBounds_toArray, List.set_cons_zero, List.set_cons_succ]
      refine fan_take (i := 7) (v := ?_) rfl (by kernel_rfl) (fun _ _ _ _ h => h) (by kernel_rfl) (SX.out _ b0) ?_ ?_
      rotate_left
      · rintro w9 ⟨q0, q1, q2⟩
        go_simp
        try with_reducible rfl
      try simp only [List.getElem_toArray, List.getElem_cons_succ, List.getElem_cons_zero, List.getElem?_toArray, List.getElem?_cons_succ, List.getElem?_cons_zero, Act.put, List.setIfInBounds_toArray, List.set_cons_zero, List.set_cons_succ]
      refine fan_one 8 (by kernel_rfl) ?_
      refine fan_step rfl (by kernel_rfl) fun K hK => ?_
      refine wp_call_of 21 _ _ (by rfl) #[.slice a6 L c6, .slice la L lc] (by simp [Act.eval]) (Try.call21 _ _) (KS.out c0 b0) ?_
      rintro e c1 ⟨rfl, nn, hnn⟩
      have b1 : Below wr.heap.size wr c1 := by rw [hnn]; exact b0.trans (below_drewN' _ _ _)
      refine ⟨_, rfl, hK _ _ (SX.out _ b1) ?_⟩
      clear hK K hnn
      try simp only [List.getElem_toArray, List.getElem_cons_succ, List.getElem_cons_zero, List.getElem?_toArray, List.getElem?_cons_succ, List.getElem?_cons_zero, Act.put, List.setIfInBounds_toArray, List.set_cons_zero, List.set_cons_succ]
      refine fan_done (by kernel_rfl) ?_
      show wpList _ _ _ _ _ _
      have dR := (b1.block _ (lt_of_block hI.out.2.1)).trans hI.out.2.1
      obtain ⟨⟨r0, r1, r2⟩, rf⟩ := cells3l dR
      have rf0 := rf 0
      have rf1 := rf 1
      have rf2 := rf 2
      have dR3 := hide (heap_set3l dR (.int .i64 0) (.int .i64 0) (.slice a6 L c6))
      have PB := hide (below_set3l (hI.out.1.trans (b1.mono hI.out.1.size)) (Nat.le_refl w.heap.size) (.int .i64 0) (.int .i64 0) (.slice a6 L c6))
      have PO := hide (own_set3l (hI.out.2.2.2.to b1) (g := w.heap.size) (by omega) (.int .i64 0) (.int .i64 0) (.slice a6 L c6))
      clear dR rf b0 b1
      go_wp2
      refine retNT rfl rfl w.heap.size rfl _ _ (0, 0) dR3.out _ Try.underlying28 rfl info_lp15 (.bool true) rfl ?_
      refine ⟨L, _, rfl, ?_, ?_, PB.out⟩
      · rw [hL.out]; exact hLb
      · have e := PO.out.rdS
        rw [show ld.take L = tk by rw [hL.out]; exact hkN.out.2.symm, hL.out]
        rw [hL.out] at e
        exact e
    | true =>
      obtain ⟨z1, z2, z3⟩ := of_decide_eq_true hbn.symm
      clear hbn
      obtain ⟨y, hy, hym⟩ := some_at ps (k := j) (by rw [← hM.out]; exact z1)
      obtain ⟨hy1, hy2⟩ := hpf.out y hym
      obtain ⟨pb, po, rfl, e1, e2⟩ := (HP.out wr hI.out.1).pc hy
      obtain ⟨yf, yn⟩ := y
      dsimp only at e1 e2 hy1 hy2
      clear hy hym hy1 hy2
      obtain ⟨f, hf0, hf1, hf2, hf3, hf4⟩ := mod_lit15 yf (n := N) (m := (N : Int)) rfl z3 (by omega)
      obtain ⟨g, hg0, hg1, hg2, hg3, hg4⟩ := mod_lit15 yn (n := 10) (m := 10) rfl (by decide) (by decide)
      have hNz : ((N : Int) == 0) = false := by simp; omega
      obtain ⟨tq, htq⟩ : ∃ tq, tq = min (f + g) N := ⟨_, rfl⟩
      have hft : f ≤ tq ∧ tq ≤ N := by omega
      obtain ⟨TT, hT⟩ : ∃ t, t = lterm ⟨0, 0, ld⟩ f := ⟨_, rfl⟩
      have h64 : Hid (I64 TT) := by show I64 TT; rw [hT]; exact lterm_64 fit.out _
      have hT0 : Hid (f = 0 → TT = 0) := fun q => by rw [hT, q]; rfl
      have hT1 : Hid (∀ y, ld[f - 1]? = some y → 0 < f → TT = y.1) := fun y hy q => by
        rw [hT]
        exact lterm_at15 (by dsimp only; omega) (by dsimp only; omega) hy
      replace hT := hide hT
      replace htq := hide htq
      go_upto_region 6 with fail
      go_cut [9] from 43 to 55 (fun v wx => v = .int .i64 (tq : Int) ∧ wr = wx)
      case first =>
        by_cases hm : (f : Int) + (g : Int) ≤ (N : Int)
        · have hm2 : Hid ((tq : Int) = (f : Int) + (g : Int)) := by show _ = _; rw [htq.out]; omega
          have hw2 : IntKind.i64.wrap ((f : Int) + (g : Int)) = (f : Int) + (g : Int) := IntWalk.i64_in _ (by omega)
          go_wp2_with fail
          all_goals first | omega | (go_meet; exact ⟨by rw [hm2.out], rfl⟩)
        · have hm2 : Hid ((tq : Int) = (N : Int)) := by show _ = _; rw [htq.out]; omega
          have hw2 : IntKind.i64.wrap ((f : Int) + (g : Int)) = (f : Int) + (g : Int) := IntWalk.i64_in _ (by omega)
          go_wp2_with fail
          all_goals first | omega | (go_meet; exact ⟨by rw [hm2.out], rfl⟩)
      case rest =>
      obtain ⟨rfl, rfl⟩ := hcut
      clear e1 e2 hg1 hg2 hg3 hg4 hf1 hf2 hf3 hf4
      go_upto_if 57 with fail
      go_cut [10, 57] from 58 to 63 (fun v bq wx => v = .int .i64 TT ∧ wr = wx)
      case first =>
        by_cases hz : (0 : Int) < (f : Int)
        · obtain ⟨y, hy, _⟩ := some_at ld (k := f - 1) (by rw [← hN.out]; omega)
          have hTy := hide (hT1.out y hy (by omega))
          obtain ⟨lb, lo, u, rfl, e1, e2, _⟩ := (HL.out wr hI.out.1).wrt hy
          obtain ⟨f1, hf1⟩ : ∃ f1 : Nat, f = f1 + 1 := ⟨f - 1, by omega⟩
          have hw3 : IntKind.i64.wrap (((f1 + 1 : Nat) : Int) - 1) = (f1 : Int) := by rw [IntWalk.i64_in _ (by omega)]; omega
          have hw4 : wrap64 (((f1 + 1 : Nat) : Int) - 1) = (f1 : Int) := by rw [IntWalk.wrap64_in _ (by omega)]; omega
          have hw5 : ((f1 + 1 : Nat) : Int) - 1 = (f1 : Int) := by omega
          have hlt1 : (f1 : Int) < (N : Int) := by omega
          subst hf1
          rw [show f1 + 1 - 1 = f1 by omega] at e1
          clear hy
          go_wp2_with fail
          go_meet
          exact ⟨by rw [hTy.out], rfl⟩
        · have hz0 : f = 0 := by omega
          have hTy := hide (hT0.out hz0)
          clear hz0
          go_wp2_with fail
          go_meet
          exact ⟨by rw [hTy.out], rfl⟩
      case rest =>
      obtain ⟨rfl, rfl⟩ := hcut
      clear hT0 hT1
      obtain ⟨⟨rl, rn, re⟩, hR⟩ : ∃ R, laccept ⟨0, 0, tk⟩ f TT ((ld.take tq).drop f) = R := ⟨_, rfl⟩
      have htl : Hid (tk.length = k) := by show _ = _; rw [htk.out.2, List.length_take]; have := hN.out; have := htk.out.1; omega
      have tfit : Hid (LgFit ⟨0, 0, tk⟩) := by show LgFit _; rw [htk.out.2]; exact ⟨(by decide : I64 0), (by decide : I64 0), fit.out.e.take k⟩
      have G1 : Hid (k < f → rl = lnil ∧ re = 152) := fun q => by
        have e := hR
        rw [hT.out, htk.out.2, laccept_gap OK.out q (by rw [← hN.out]; omega)] at e
        simp only [Prod.mk.injEq] at e
        exact ⟨e.1.symm, e.2.2.symm⟩
      have G2 : Hid (¬ k < f → rl = ⟨0, 0, ld.take (max k tq)⟩ ∧ rn = tq ∧ re = 0) := fun q => by
        have e := hR
        rw [hT.out, htk.out.2, laccept_piece OK.out (by rw [← hN.out]; exact htk.out.1) (by omega) hft.1 (by rw [← hN.out]; exact hft.2)] at e
        simp only [Prod.mk.injEq] at e
        exact ⟨e.1.symm, e.2.1.symm, e.2.2.symm⟩
      obtain ⟨⟨x0, x1, x2⟩, _⟩ := cells3l hI.out.2.2.1
      have SX : Hid (∀ U, Below wr.heap.size wr U → ((U.cell? ⟨w.heap.size + 1, 0, none⟩ = some (.int .i64 0) ∧ U.cell? ⟨w.heap.size + 1, 1, none⟩ = some (.int .i64 0) ∧ U.cell? ⟨w.heap.size + 1, 2, none⟩ = some (.slice a6 tk.length c6)))) := fun U b =>
        ⟨(b.cell (cell_lt x0)).trans x0, (b.cell (cell_lt x1)).trans x1, (b.cell (cell_lt x2)).trans x2⟩
      have KA : Hid (∀ U, Below wr.heap.size wr U → ∀ A, (if lc = f then la else Option.map (fun x => x.add (f * 2)) la) = A → Calls Try.prog 29 #[.agg #[.int .i64 0, .int .i64 0, .slice a6 tk.length c6], .int .i64 (f : Int), .int .i64 TT, .slice A (tq - f) (lc - f)] U fun e w' =>
          ∃ v', e = .returned (.tuple #[.agg #[.int .i64 rl.base, .int .i64 rl.bt, v'], .int .i64 rn, .int .i64 re]) ∧ Own SEntB U.heap.size w' [v'] rl.es ∧ Below U.heap.size U w') := fun U b A hA => by
        obtain ⟨A', hA', hr⟩ := rdS_cut15 (HL.out U (hI.out.1.trans (b.mono hI.out.1.size))) hft.1 hft.2
        obtain rfl : A' = A := hA'.symm.trans hA
        have q := S.acc U ⟨0, 0, tk⟩ _ f TT _ _ (hI.out.2.2.2.rdS.to0 b) tfit.out ⟨by omega, by omega⟩ h64.out hr ((fit.out.e.take tq).drop f) (by by_cases q : k < f; exact .inr ((congrArg (fun z => z.2.2) hR).trans (G1.out q).2); exact .inl ((congrArg (fun z => z.2.2) hR).trans (G2.out q).2.2))
        rw [hR] at q
        exact q
      have hf1 : (0 : Int) ≤ (f : Int) := by omega
      have hf2 : (f : Int) ≤ (tq : Int) := by omega
      have hf3 : (tq : Int) ≤ (lc : Int) := by have := hlc.out; omega
      have hf4 : IntKind.i64.wrap (f : Int) = (f : Int) := IntWalk.i64_in _ (by omega)
      have hf5 : IntKind.i64.wrap (tq : Int) = (tq : Int) := IntWalk.i64_in _ (by omega)
      have hf6 : (0 : Int) ≤ (tq : Int) := by omega
      clear hR x0 x1 x2
      go_upto_region 10 with fail
      have b0 := (Below.refl wr.heap.size wr).drew
      go_cut [11, 12, 13] from 65 to 75 (fun p n e wx => ∃ (gU : Nat) (ua : Option Addr) (uc : Nat), p = .pointer (some ⟨gU, 0, none⟩) ∧ n = .int .i64 rn ∧ e = .int .i64 re ∧ Hid (Below wr.heap.size wr wx) ∧
        Hid (wx.heap[gU]? = some (.cells #[.int .i64 rl.base, .int .i64 rl.bt, .slice ua rl.es.length uc] 28 (0, 0)) ∧ Own SEntB wr.heap.size wx [.slice ua rl.es.length uc] rl.es))
      case first =>
        refine wp_region_fan (fun w9 => w9.cell? ⟨w.heap.size + 1, 0, none⟩ = some (.int .i64 0) ∧ w9.cell? ⟨w.heap.size + 1, 1, none⟩ = some (.int .i64 0) ∧ w9.cell? ⟨w.heap.size + 1, 2, none⟩ = some (.slice a6 tk.length c6)) 15 mixed (by simp) ?_
        generalize wr.drew = c0 at *
        refine fan_take (i := 0) (v := ?_) rfl (by kernel_rfl) (fun _ _ _ _ h => h) (by kernel_rfl) (SX.out _ b0) ?_ ?_
        rotate_left
        · rintro w9 ⟨q0, q1, q2⟩
          go_simp
          try with_reducible rfl
        try simp only [List.getElem_toArray, List.getElem_cons_succ, List.getElem_cons_zero, List.getElem?_toArray, List.getElem?_cons_succ, List.getElem?_cons_zero, Act.put, List.setIfInBounds_toArray, List.set_cons_zero, List.set_cons_succ]
        refine fan_take (i := 1) (v := ?_) rfl (by kernel_rfl) (fun _ _ _ _ h => h) (by kernel_rfl) (SX.out _ b0) ?_ ?_
        rotate_left
        · rintro w9 ⟨q0, q1, q2⟩
          go_simp
          try with_reducible rfl
        try simp only [List.getElem_toArray, List.getElem_cons_succ, List.getElem_cons_zero, List.getElem?_toArray, List.getElem?_cons_succ, List.getElem?_cons_zero, Act.put, List.setIfInBounds_toArray, List.set_cons_zero, List.set_cons_succ]
        refine fan_take (i := 2) (v := ?_) rfl (by kernel_rfl) (fun _ _ _ _ h => h) (by kernel_rfl) (SX.out _ b0) ?_ ?_
        rotate_left
        · rintro w9 ⟨q0, q1, q2⟩
          go_simp
          try with_reducible rfl
        try simp only [List.getElem_toArray, List.getElem_cons_succ, List.getElem_cons_zero, List.getElem?_toArray, List.getElem?_cons_succ, List.getElem?_cons_zero, Act.put, List.setIfInBounds_toArray, List.set_cons_zero, List.set_cons_succ]
        refine fan_take (i := 3) (v := ?_) rfl (by kernel_rfl) (fun _ _ _ _ h => h) (by kernel_rfl) (SX.out _ b0) ?_ ?_
        rotate_left
        · rintro w9 ⟨q0, q1, q2⟩
          go_simp
          try with_reducible rfl
        try simp only [List.getElem_toArray, List.getElem_cons_succ, List.getElem_cons_zero, List.getElem?_toArray, List.getElem?_cons_succ, List.getElem?_cons_zero, Act.put, List.setIfInBounds_toArray, List.set_cons_zero, List.set_cons_succ]
        refine fan_take (i := 4) (v := ?_) rfl (by kernel_rfl) (fun _ _ _ _ h => h) (by kernel_rfl) (SX.out _ b0) ?_ ?_
        rotate_left
        · rintro w9 ⟨q0, q1, q2⟩
          go_simp
          try with_reducible rfl
        try simp only [List.getElem_toArray, List.getElem_cons_succ, List.getElem_cons_zero, List.getElem?_toArray, List.getElem?_cons_succ, List.getElem?_cons_zero, Act.put, List.setIfInBounds_toArray, List.set_cons_zero, List.set_cons_succ]
        refine fan_take (i := 5) (v := ?_) rfl (by kernel_rfl) (fun _ _ _ _ h => h) (by kernel_rfl) (SX.out _ b0) ?_ ?_
        rotate_left
        · rintro w9 ⟨q0, q1, q2⟩
          go_simp
          try with_reducible rfl
        try simp only [List.getElem_toArray, List.getElem_cons_succ, List.getElem_cons_zero, List.getElem?_toArray, List.getElem?_cons_succ, List.getElem?_cons_zero, Act.put, List.setIfInBounds_toArray, List.set_cons_zero, List.set_cons_succ]
        refine fan_take (i := 6) (v := ?_) rfl (by kernel_rfl) (fun _ _ _ _ h => h) (by kernel_rfl) (SX.out _ b0) ?_ ?_
        rotate_left
        · rintro w9 ⟨q0, q1, q2⟩
          go_simp
          try with_reducible rfl
        try simp only [List.getElem_toArray, List.getElem_cons_succ, List.getElem_cons_zero, List.getElem?_toArray, List.getElem?_cons_succ, List.getElem?_cons_zero, Act.put, List.setIfInBounds_toArray, List.set_cons_zero, List.set_cons_succ]
        refine fan_two 7 12 (by kernel_rfl) ?_ ?_
        · refine fan_step rfl (by kernel_rfl) fun K hK => ?_
          refine wp_call_of 29 _ _ (by rfl) #[.agg #[.int .i64 0, .int .i64 0, .slice a6 tk.length c6], .int .i64 (f : Int), .int .i64 TT, .slice (if lc = f then la else Option.map (fun x => x.add (f * 2)) la) (tq - f) (lc - f)] (by simp [Act.eval]) (Try.call29 _ _) (KA.out c0 b0 _ rfl) ?_
          rintro e c1 ⟨v8, rfl, o8, bb⟩
          have b1 := b0.trans (bb.mono b0.size)
          obtain ⟨ua, uc, rfl⟩ := o8.rdS.slice
          have zB := b0.size
          have zC := bb.size
          refine ⟨_, rfl, hK _ _ (SX.out _ b1) ?_⟩
          clear hK K
          try simp only [List.getElem_toArray, List.getElem_cons_succ, List.getElem_cons_zero, List.getElem?_toArray, List.getElem?_cons_succ, List.getElem?_cons_zero, Act.put, List.setIfInBounds_toArray, List.set_cons_zero, List.set_cons_succ]
          refine fan_take (i := 8) (v := ?_) rfl (by kernel_rfl) (fun _ _ _ _ h => h) (by kernel_rfl) (SX.out _ b1) ?_ ?_
          rotate_left
          · rintro w9 ⟨q0, q1, q2⟩
            go_simp
            try with_reducible rfl
          try simp only [List.getElem_toArray, List.getElem_cons_succ, List.getElem_cons_zero, List.getElem?_toArray, List.getElem?_cons_succ, List.getElem?_cons_zero, Act.put, List.setIfInBounds_toArray, List.set_cons_zero, List.set_cons_succ]
          refine fan_take (i := 9) (v := ?_) rfl (by kernel_rfl) (fun _ _ _ _ h => h) (by kernel_rfl) (SX.out _ b1) ?_ ?_
          rotate_left
          · rintro w9 ⟨q0, q1, q2⟩
            go_simp
            try with_reducible rfl
          try simp only [List.getElem_toArray, List.getElem_cons_succ, List.getElem_cons_zero, List.getElem?_toArray, List.getElem?_cons_succ, List.getElem?_cons_zero, Act.put, List.setIfInBounds_toArray, List.set_cons_zero, List.set_cons_succ]
          refine fan_take (i := 10) (v := ?_) rfl (by kernel_rfl) (fun _ _ _ _ h => h) (by kernel_rfl) (SX.out _ b1) ?_ ?_
          rotate_left
          · rintro w9 ⟨q0, q1, q2⟩
            go_simp
            try with_reducible rfl
          try simp only [List.getElem_toArray, List.getElem_cons_succ, List.getElem_cons_zero, List.getElem?_toArray, List.getElem?_cons_succ, List.getElem?_cons_zero, Act.put, List.setIfInBounds_toArray, List.set_cons_zero, List.set_cons_succ]
          refine fan_take (i := 11) (v := ?_) rfl (by kernel_rfl) (fun _ _ _ _ h => h) (by kernel_rfl) (SX.out _ b1) ?_ ?_
          rotate_left
          · rintro w9 ⟨q0, q1, q2⟩
            go_simp
            try with_reducible rfl
          try simp only [List.getElem_toArray, List.getElem_cons_succ, List.getElem_cons_zero, List.getElem?_toArray, List.getElem?_cons_succ, List.getElem?_cons_zero, Act.put, List.setIfInBounds_toArray, List.set_cons_zero, List.set_cons_succ]
          refine fan_one 12 (by kernel_rfl) ?_
          refine fan_step rfl (by kernel_rfl) fun K hK => ?_
          go_simp
          obtain ⟨c2, hc2, DT, bT, sT⟩ := boxedN c1 #[.int .i64 0, .int .i64 0, .slice none 0 0] 28
          rw [← hc2]
          have b2 := b1.trans (bT.mono b1.size)
          obtain ⟨gU, hgU⟩ : ∃ g, g = c1.heap.size := ⟨_, rfl⟩
          rw [← hgU] at DT ⊢
          have zU : wr.heap.size ≤ gU := by have := b1.size; omega
          have zV : gU < c2.heap.size ∧ c1.heap.size ≤ gU := by omega
          replace hgU := hide hgU
          clear sT
          refine hK _ _ (SX.out _ b2) ?_
          clear hK K hc2
          try simp only [List.getElem_toArray, List.getElem_cons_succ, List.getElem_cons_zero, List.getElem?_toArray, List.getElem?_cons_succ, List.getElem?_cons_zero, Act.put, List.setIfInBounds_toArray, List.set_cons_zero, List.set_cons_succ]
          refine fan_one 13 (by kernel_rfl) ?_
          refine fan_step rfl (by kernel_rfl) fun K hK => ?_
          obtain ⟨⟨y0, y1, y2⟩, yf⟩ := cells3l DT
          have yf0 := yf 0
          have yf1 := yf 1
          have yf2 := yf 2
          go_simp
          obtain ⟨c3, hc3⟩ : ∃ c, c = ((c2.setCell ⟨gU, 0, none⟩ (.int .i64 rl.base)).setCell ⟨gU, 1, none⟩ (.int .i64 rl.bt)).setCell ⟨gU, 2, none⟩ (.slice ua rl.es.length uc) := ⟨_, rfl⟩
          have b3 : Below wr.heap.size wr c3 := by rw [hc3]; exact below_set3l b2 zU _ _ _
          have DU : c3.heap[gU]? = some (.cells #[.int .i64 rl.base, .int .i64 rl.bt, .slice ua rl.es.length uc] 28 (0, 0)) := by rw [hc3]; exact heap_set3l DT _ _ _
          have RU : Own SEntB wr.heap.size c3 [.slice ua rl.es.length uc] rl.es := by
            obtain ⟨F, w1, w2, w3⟩ := o8
            refine ⟨F, SEntB.own_to w1 fun z hz => ?_, w2, fun z hz => by have := w3 z hz; omega⟩
            have h2 := SEntB.own_lt w1 z hz
            have h3 : z ≠ gU := by omega
            rw [hc3, Below.heap_setCell _ _ _ _ h3, Below.heap_setCell _ _ _ _ h3, Below.heap_setCell _ _ _ _ h3]
            exact bT.block z h2
          rw [← hc3]
          have DU2 := hide DU
          have RU2 := hide RU
          refine hK _ _ (SX.out _ b3) ?_
          clear hK K hc3 y0 y1 y2 yf yf0 yf1 yf2 DU RU o8 bb DT bT
          try simp only [List.getElem_toArray, List.getElem_cons_succ, List.getElem_cons_zero, List.getElem?_toArray, List.getElem?_cons_succ, List.getElem?_cons_zero, Act.put, List.setIfInBounds_toArray, List.set_cons_zero, List.set_cons_succ]
          refine fan_one 14 (by kernel_rfl) ?_
          refine fan_step rfl (by kernel_rfl) fun K hK => ?_
          go_simp
          refine hK _ _ (SX.out _ b3) ?_
          clear hK K
          have b4 := b3
          try simp only [List.getElem_toArray, List.getElem_cons_succ, List.getElem_cons_zero, List.getElem?_toArray, List.getElem?_cons_succ, List.getElem?_cons_zero, Act.put, List.setIfInBounds_toArray, List.set_cons_zero, List.set_cons_succ]
          refine fan_done (by kernel_rfl) ?_
          show wpList _ _ _ _ _ _
          generalize (if lc = f then la else Option.map (fun x => x.add (f * 2)) la) = A9
          have HV2 := hide b3
          clear b0 b1 b2 b3 b4 zB zC zU zV
          go_wp2_with fail
          go_meet
          exact ⟨gU, ua, uc, rfl, rfl, rfl, HV2, hide ⟨DU2.out, RU2.out⟩⟩
        · refine fan_step rfl (by kernel_rfl) fun K hK => ?_
          go_simp
          obtain ⟨c1, hc1, DT, bT, sT⟩ := boxedN c0 #[.int .i64 0, .int .i64 0, .slice none 0 0] 28
          rw [← hc1]
          have b1 := b0.trans (bT.mono b0.size)
          obtain ⟨gU, hgU⟩ : ∃ g, g = c0.heap.size := ⟨_, rfl⟩
          rw [← hgU] at DT ⊢
          have zU : wr.heap.size ≤ gU := by have := b0.size; omega
          have zV : gU < c1.heap.size ∧ c0.heap.size ≤ gU := by omega
          replace hgU := hide hgU
          clear sT
          refine hK _ _ (SX.out _ b1) ?_
          clear hK K hc1
          try simp only [List.getElem_toArray, List.getElem_cons_succ, List.getElem_cons_zero, List.getElem?_toArray, List.getElem?_cons_succ, List.getElem?_cons_zero, Act.put, List.setIfInBounds_toArray, List.set_cons_zero, List.set_cons_succ]
          refine fan_one 7 (by kernel_rfl) ?_
          refine fan_step rfl (by kernel_rfl) fun K hK => ?_
          refine wp_call_of 29 _ _ (by rfl) #[.agg #[.int .i64 0, .int .i64 0, .slice a6 tk.length c6], .int .i64 (f : Int), .int .i64 TT, .slice (if lc = f then la else Option.map (fun x => x.add (f * 2)) la) (tq - f) (lc - f)] (by simp [Act.eval]) (Try.call29 _ _) (KA.out c1 b1 _ rfl) ?_
          rintro e c2 ⟨v8, rfl, o8, bb⟩
          have b2 := b1.trans (bb.mono b1.size)
          obtain ⟨ua, uc, rfl⟩ := o8.rdS.slice
          have zB := b1.size
          have zC := bb.size
          refine ⟨_, rfl, hK _ _ (SX.out _ b2) ?_⟩
          clear hK K
          try simp only [List.getElem_toArray, List.getElem_cons_succ, List.getElem_cons_zero, List.getElem?_toArray, List.getElem?_cons_succ, List.getElem?_cons_zero, Act.put, List.setIfInBounds_toArray, List.set_cons_zero, List.set_cons_succ]
          refine fan_take (i := 8) (v := ?_) rfl (by kernel_rfl) (fun _ _ _ _ h => h) (by kernel_rfl) (SX.out _ b2) ?_ ?_
          rotate_left
          · rintro w9 ⟨q0, q1, q2⟩
            go_simp
            try with_reducible rfl
          try simp only [List.getElem_toArray, List.getElem_cons_succ, List.getElem_cons_zero, List.getElem?_toArray, List.getElem?_cons_succ, List.getElem?_cons_zero, Act.put, List.setIfInBounds_toArray, List.set_cons_zero, List.set_cons_succ]
          refine fan_take (i := 9) (v := ?_) rfl (by kernel_rfl) (fun _ _ _ _ h => h) (by kernel_rfl) (SX.out _ b2) ?_ ?_
          rotate_left
          · rintro w9 ⟨q0, q1, q2⟩
            go_simp
            try with_reducible rfl
          try simp only [List.getElem_toArray, List.getElem_cons_succ, List.getElem_cons_zero, List.getElem?_toArray, List.getElem?_cons_succ, List.getElem?_cons_zero, Act.put, List.setIfInBounds_toArray, List.set_cons_zero, List.set_cons_succ]
          refine fan_take (i := 10) (v := ?_) rfl (by kernel_rfl) (fun _ _ _ _ h => h) (by kernel_rfl) (SX.out _ b2) ?_ ?_
          rotate_left
          · rintro w9 ⟨q0, q1, q2⟩
            go_simp
            try with_reducible rfl
          try simp only [List.getElem_toArray, List.getElem_cons_succ, List.getElem_cons_zero, List.getElem?_toArray, List.getElem?_cons_succ, List.getElem?_cons_zero, Act.put, List.setIfInBounds_toArray, List.set_cons_zero, List.set_cons_succ]
          refine fan_take (i := 11) (v := ?_) rfl (by kernel_rfl) (fun _ _ _ _ h => h) (by kernel_rfl) (SX.out _ b2) ?_ ?_
          rotate_left
          · rintro w9 ⟨q0, q1, q2⟩
            go_simp
            try with_reducible rfl
          try simp only [List.getElem_toArray, List.getElem_cons_succ, List.getElem_cons_zero, List.getElem?_toArray, List.getElem?_cons_succ, List.getElem?_cons_zero, Act.put, List.setIfInBounds_toArray, List.set_cons_zero, List.set_cons_succ]
          refine fan_one 13 (by kernel_rfl) ?_
          refine fan_step rfl (by kernel_rfl) fun K hK => ?_
          replace DT := (bb.block gU (by omega)).trans DT
          obtain ⟨⟨y0, y1, y2⟩, yf⟩ := cells3l DT
          have yf0 := yf 0
          have yf1 := yf 1
          have yf2 := yf 2
          go_simp
          obtain ⟨c3, hc3⟩ : ∃ c, c = ((c2.setCell ⟨gU, 0, none⟩ (.int .i64 rl.base)).setCell ⟨gU, 1, none⟩ (.int .i64 rl.bt)).setCell ⟨gU, 2, none⟩ (.slice ua rl.es.length uc) := ⟨_, rfl⟩
          have b3 : Below wr.heap.size wr c3 := by rw [hc3]; exact below_set3l b2 zU _ _ _
          have DU : c3.heap[gU]? = some (.cells #[.int .i64 rl.base, .int .i64 rl.bt, .slice ua rl.es.length uc] 28 (0, 0)) := by rw [hc3]; exact heap_set3l DT _ _ _
          have RU : Own SEntB wr.heap.size c3 [.slice ua rl.es.length uc] rl.es := by
            rw [hc3]
            exact (own_set3l o8 (g := gU) (by omega) _ _ _).mono (by omega)
          rw [← hc3]
          have DU2 := hide DU
          have RU2 := hide RU
          refine hK _ _ (SX.out _ b3) ?_
          clear hK K hc3 y0 y1 y2 yf yf0 yf1 yf2 DU RU o8 bb DT bT
          try simp only [List.getElem_toArray, List.getElem_cons_succ, List.getElem_cons_zero, List.getElem?_toArray, List.getElem?_cons_succ, List.getElem?_cons_zero, Act.put, List.setIfInBounds_toArray, List.set_cons_zero, List.set_cons_succ]
          refine fan_one 14 (by kernel_rfl) ?_
          refine fan_step rfl (by kernel_rfl) fun K hK => ?_
          go_simp
          refine hK _ _ (SX.out _ b3) ?_
          clear hK K
          have b4 := b3
          try simp only [List.getElem_toArray, List.getElem_cons_succ, List.getElem_cons_zero, List.getElem?_toArray, List.getElem?_cons_succ, List.getElem?_cons_zero, Act.put, List.setIfInBounds_toArray, List.set_cons_zero, List.set_cons_succ]
          refine fan_done (by kernel_rfl) ?_
          show wpList _ _ _ _ _ _
          generalize (if lc = f then la else Option.map (fun x => x.add (f * 2)) la) = A9
          have HV2 := hide b3
          clear b0 b1 b2 b3 b4 zB zC zU zV
          go_wp2_with fail
          go_meet
          exact ⟨gU, ua, uc, rfl, rfl, rfl, HV2, hide ⟨DU2.out, RU2.out⟩⟩
      case rest =>
      obtain ⟨gU, ua, uc, rfl, rfl, rfl, hW, hU⟩ := hcut
      clear b0 KA SX
      have hB3 := hide (hI.out.1.trans (hW.out.mono hI.out.1.size))
      have dR := hide ((hW.out.block _ (lt_of_block hI.out.2.1)).trans hI.out.2.1)
      have dX := hide ((hW.out.block _ (lt_of_block hI.out.2.2.1)).trans hI.out.2.2.1)
      have oX := hide (hI.out.2.2.2.to hW.out)
      have hsz : Hid (w.heap.size + 1 + 1 ≤ wr.heap.size) := lt_of_block hI.out.2.2.1
      clear hI
      obtain ⟨⟨x0, x1, x2⟩, xf⟩ := cells3l dX.out
      obtain ⟨⟨u0, u1, u2⟩, _⟩ := cells3l hU.out.1
      by_cases hgap : k < f
      · obtain ⟨ga, gb⟩ := G1.out hgap
        have hg3 : (tk.length : Int) < (f : Int) := by rw [htl.out]; omega
        subst gb
        have h152 : ((152 : Int) != 152) = false := by decide
        clear xf
        replace ga := hide ga
        go_wp2_with fail
        refine (num15_any _ _).mono ?_
        rintro e w' ⟨rfl, rfl⟩
        go_wp2
        go_roundw
        case rel => exact ⟨j + 1, k, tk, a6, c6, by go_num, by omega, htk, hide ⟨hB3.out, dR.out, dX.out, oX.out⟩⟩
        case measure => simp [intOf]; omega
      · obtain ⟨ga, gb, gc⟩ := G2.out hgap
        subst gb gc
        have hg3 : ¬ ((tk.length : Int) < (f : Int)) := by rw [htl.out]; omega
        have hrl : Hid (rl.es.length = max k tq ∧ rl.base = 0 ∧ rl.bt = 0) := by show _ ∧ _; rw [ga]; refine ⟨?_, rfl, rfl⟩; dsimp only; rw [List.length_take, ← hN.out]; have := htk.out.1; omega
        have hg4 : ¬ ((rl.es.length : Int) < (tq : Int)) := by rw [hrl.out.1]; omega
        have hg5 : ¬ ((rl.es.length : Int) < (tk.length : Int)) := by rw [hrl.out.1, htl.out]; omega
        have h00 : ((0 : Int) != 0) = false := by decide
        have hqq : ((tq : Int) != (tq : Int)) = false := by simp
        have xf0 := xf 0
        have xf1 := xf 1
        have xf2 := xf 2
        have FIN := hide (And.intro (below_set3l hB3.out (g := w.heap.size + 1) (by omega) (.int .i64 rl.base) (.int .i64 rl.bt) (.slice ua rl.es.length uc)) (And.intro (show (((wc.setCell ⟨w.heap.size + 1, 0, none⟩ (.int .i64 rl.base)).setCell ⟨w.heap.size + 1, 1, none⟩ (.int .i64 rl.bt)).setCell ⟨w.heap.size + 1, 2, none⟩ (.slice ua rl.es.length uc)).heap[w.heap.size]? = some (.cells #[.int .i64 0, .int .i64 0, .slice none 0 0] 28 (0, 0)) from by
          rw [Below.heap_setCell _ _ _ _ (Nat.ne_of_lt (Nat.lt_succ_self _)), Below.heap_setCell _ _ _ _ (Nat.ne_of_lt (Nat.lt_succ_self _)), Below.heap_setCell _ _ _ _ (Nat.ne_of_lt (Nat.lt_succ_self _))]; exact dR.out) (And.intro (heap_set3l dX.out (.int .i64 rl.base) (.int .i64 rl.bt) (.slice ua rl.es.length uc)) ((own_set3l hU.out.2 (g := w.heap.size + 1) hsz.out (.int .i64 rl.base) (.int .i64 rl.bt) (.slice ua rl.es.length uc)).mono hsz.out))))
        have hga : Hid (max k tq ≤ N ∧ rl.es = ld.take (max k tq)) := by have := htk.out.1; exact ⟨by omega, by rw [ga]⟩
        clear xf
        replace ga := hide ga
        go_wp2_with fail
        refine (num15_any _ _).mono ?_
        rintro e w' ⟨rfl, rfl⟩
        go_wp2
        go_roundw
        case rel =>
          refine ⟨j + 1, max k tq, rl.es, ua, uc, by go_num, by omega, hga, ?_⟩
          have e := FIN.out
          rw [hrl.out.2.1, hrl.out.2.2] at e
          rw [hrl.out.2.1, hrl.out.2.2]
          exact hide e
        case measure => simp [intOf]; omega
end Go.Proofs.Ytfalhboahdccmaa
