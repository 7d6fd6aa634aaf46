/-
  The program's Split of nodes.
-/
import Derived.Test.YtjkpldmmijfebaaNPJ
namespace Go.Proofs.Ytjkpldmmijfebaa
open Go.RowKit
set_option linter.unusedVariables false
set_option linter.unusedSimpArgs false

set_option maxRecDepth 100000 in
set_option maxHeartbeats 4000000 in
theorem psplit9_any (w : World) (kv vv dv : Value) (n : Nd) (h : RdN w kv vv dv n) (hf : nfit n) :
    Calls Try.prog 11 #[nv n kv vv dv] w fun e w' => ∃ k1 v1 d1 k2 v2 d2, e = .returned (.tuple #[nv (nlow' n) k1 v1 d1, st (nmid' n), nv (nhigh' n) k2 v2 d2, .int .i64 (nsplit n)]) ∧
      OwnN w.heap.size w' k1 v1 d1 (nlow' n) ∧ OwnN w.heap.size w' k2 v2 d2 (nhigh' n) ∧ Below w.heap.size w w' := by
  have H0 := hide h.keys
  obtain ⟨W, hW, D, X0, Y0, bW, sW⟩ := boxes4s w (.bool n.leaf) kv vv dv 26
  replace h := h.to bW
  have KC := hide (pcheck9_any W kv vv dv n h hf)
  have HN := hide (fun w1 (b : Below W.heap.size W w1) => h.to b)
  obtain ⟨D4, _⟩ := cells4 D
  have HD : Hid (∀ w1, Below W.heap.size W w1 → w1.cell? ⟨w.heap.size, 0, none⟩ = some (.bool n.leaf) ∧ w1.cell? ⟨w.heap.size, 1, none⟩ = some kv ∧ w1.cell? ⟨w.heap.size, 2, none⟩ = some vv ∧ w1.cell? ⟨w.heap.size, 3, none⟩ = some dv) := fun w1 b =>
    ⟨(b.cell (p := ⟨w.heap.size, 0, none⟩) (cell_lt D4.1)).trans D4.1, (b.cell (p := ⟨w.heap.size, 1, none⟩) (cell_lt D4.2.1)).trans D4.2.1, (b.cell (p := ⟨w.heap.size, 2, none⟩) (cell_lt D4.2.2.1)).trans D4.2.2.1, (b.cell (p := ⟨w.heap.size, 3, none⟩) (cell_lt D4.2.2.2)).trans D4.2.2.2⟩
  have HX : Hid (∀ w1, Below W.heap.size W w1 → w1.heap[w.heap.size + 1]? = some (.cells #[.bool false, .slice none 0 0, .slice none 0 0, .slice none 0 0] 26 (0, 0)) ∧ w1.heap[w.heap.size + 1 + 1]? = some (.cells #[.bool false, .slice none 0 0, .slice none 0 0, .slice none 0 0] 26 (0, 0))) := fun w1 b => ⟨(b.block _ (by omega)).trans X0, (b.block _ (by omega)).trans Y0⟩
  have HE : Hid (∀ w1, Below W.heap.size W w1 → Below w.heap.size w w1) := fun w1 b => bW.trans (b.mono bW.size)
  obtain ⟨D0, D1, D2, D3⟩ := D4
  obtain ⟨a, c, a', c', a'', c'', rfl, rfl, rfl⟩ := h.slices
  have SW := hide sW
  dsimp only [nv] at *
  clear h bW D hf X0 Y0 sW
  rw [hW] at D0 D1 D2 D3
  generalize hlK : n.keys.length = lK at *
  generalize hlV : n.vals.length = lV at *
  generalize hlD : n.kids.length = lD at *
  generalize hleaf : n.leaf = leaf at *
  replace hlK := hide hlK
  replace hlV := hide hlV
  replace hlD := hide hlD
  replace hleaf := hide hleaf
  go_enter Try.func11, Try.ntmps11
  go_wp2_with fail
  rw [← hW]
  replace hW := hide hW
  clear D0 D1 D2 D3
  refine KC.out.mono ?_
  rintro e w1 ⟨rfl, b1⟩
  clear KC
  have X1 := (HX.out w1 b1).1
  have Y1 := (HX.out w1 b1).2
  have D0 := (HD.out w1 b1).1
  have D1 := (HD.out w1 b1).2.1
  have D2 := (HD.out w1 b1).2.2.1
  have D3 := (HD.out w1 b1).2.2.2
  have x0 := (cells4 X1).1.1
  have x1 := (cells4 X1).1.2.1
  have x2 := (cells4 X1).1.2.2.1
  have x3 := (cells4 X1).1.2.2.2
  have xf0 := (cells4 X1).2 0
  have xf1 := (cells4 X1).2 1
  have xf2 := (cells4 X1).2 2
  have xf3 := (cells4 X1).2 3
  have y0 := (cells4 Y1).1.1
  have y1 := (cells4 Y1).1.2.1
  have y2 := (cells4 Y1).1.2.2.1
  have y3 := (cells4 Y1).1.2.2.2
  have yf0 := (cells4 Y1).2 0
  have yf1 := (cells4 Y1).2 1
  have yf2 := (cells4 Y1).2 2
  have yf3 := (cells4 Y1).2 3
  have B1 := hide b1
  have XX := hide X1
  have YY := hide Y1
  clear b1 X1 Y1
  have FAIL : Hid (∀ (Z : Int) (Q : Prop), nsplit n = Z → Z ≠ 0 → ((nsplit n = Z ∧ nlow' n = none9 ∧ nhigh' n = none9 ∧ nmid' n = []) → Q) → Q) := fun Z Q hz h0 k => k (by
    unfold nlow' nhigh' nmid'
    rw [hz, if_neg h0, if_neg h0, if_neg h0]
    exact ⟨rfl, rfl, rfl, rfl⟩)
  by_cases hz : ncheck n = 0
  · have hok := (ncheck_ok n).1 hz
    have few := hok.few
    have hcn := hok.2.1
    unfold ncount at hcn
    rw [hlK.out, hlV.out, hlD.out, hleaf.out] at hcn
    rw [hlK.out] at few
    have hzz := hide hz
    rw [hz]
    replace hok := hide hok
    clear hz
    cases leaf with
    | true =>
      by_cases c1 : (lK : Int) < 2
      · have hr : Hid (nsplit n = 3 ∧ nlow' n = none9 ∧ nhigh' n = none9 ∧ nmid' n = []) := FAIL.out 3 _ (by
          have q0 : nfew n := by unfold nfew; rw [hlK.out, hleaf.out]; left; omega
          unfold nsplit; rw [if_pos hzz.out, if_pos q0]) (by decide) (fun h => h)
        have U := hide (set8 (show w.heap.size + 1 ≠ w.heap.size + 1 + 1 by omega) XX.out YY.out (HE.out _ B1.out) (show w.heap.size ≤ w.heap.size + 1 by omega) (show w.heap.size ≤ w.heap.size + 1 + 1 by omega) (.bool false) (.slice none 0 0) (.slice none 0 0) (.slice none 0 0) (.bool false) (.slice none 0 0) (.slice none 0 0) (.slice none 0 0))
        go_wp2
        obtain ⟨U, hU, g1, g2, gb⟩ := U.out
        rw [← hU]
        refine retNTNT rfl rfl (w.heap.size + 1) (w.heap.size + 1 + 1) rfl rfl _ _ _ _ (0, 0) (0, 0) g1 g2 _ _ Try.underlying26 rfl info_ndP Try.underlying26 rfl info_ndP _ _ rfl rfl ?_
        refine ⟨.slice none 0 0, .slice none 0 0, .slice none 0 0, .slice none 0 0, .slice none 0 0, .slice none 0 0, ?_, ?_, ?_, gb⟩
        · rw [hr.out.1, hr.out.2.1, hr.out.2.2.1, hr.out.2.2.2]; rfl
        · rw [hr.out.2.1]; exact OwnN.nil _ _ _
        · rw [hr.out.2.2.1]; exact OwnN.nil _ _ _
      · have hr : Hid (nsplit n = 0 ∧ nlow' n = nlow n ∧ nhigh' n = nhigh n ∧ nmid' n = nkey n (n.keys.length / 2)) := by
          have q0 : ¬ nfew n := by unfold nfew; rw [hlK.out, hleaf.out]; simp; omega
          have q : nsplit n = 0 := by unfold nsplit; rw [if_pos hzz.out, if_neg q0]
          show _ ∧ _ ∧ _ ∧ _
          unfold nlow' nhigh' nmid'
          rw [q]
          exact ⟨rfl, rfl, rfl, rfl⟩
        obtain ⟨H, hH⟩ : ∃ H, H = lK / 2 := ⟨_, rfl⟩
        have hH1 : (lK : Int) / 2 = (H : Int) := by omega
        have q2 : (H : Int) < (lK : Int) := by omega
        obtain ⟨x, hx⟩ := some_el n.keys (k := H) (by rw [hlK.out]; omega)
        have emid : Hid (nmid' n = x) := by show _ = _; rw [hr.out.2.2.2, hlK.out, ← hH]; unfold nkey; rw [hx]; rfl
        obtain ⟨b, off, rfl, hc1⟩ := (HN.out w1 B1.out).keys.strAt hx
        rw [if_pos rfl] at hcn
        have e1 : Hid ((⟨true, (n.keys.take H).drop 0, (n.vals.take H).drop 0, []⟩ : Nd) = nlow n) := by show _ = _; unfold nlow; simp only [hlK.out, hleaf.out, ← hH, List.drop_zero, if_true]
        have e2 : Hid ((⟨true, (n.keys.take lK).drop H, (n.vals.take lK).drop H, []⟩ : Nd) = nhigh n) := by
          show _ = _; unfold nhigh; simp only [hlK.out, hleaf.out, ← hH, if_true]
          rw [List.take_of_length_le (l := n.keys) (by rw [hlK.out]; exact Nat.le_refl _), List.take_of_length_le (l := n.vals) (by rw [hlV.out]; omega)]
        have K1 := hide (fun w9 (b9 : Below w1.heap.size w1 w9) => pleaf_any w9 _ _ _ n 0 H ((HN.out w1 B1.out).to b9) (by omega) (by rw [hlK.out]; omega) (by rw [hlV.out]; omega) (by rw [hlK.out, hlV.out]; omega))
        have K2 := hide (fun w9 (b9 : Below w1.heap.size w1 w9) => pleaf_any w9 _ _ _ n H lK ((HN.out w1 B1.out).to b9) (by omega) (by rw [hlK.out]; omega) (by rw [hlV.out]; omega) (by rw [hlK.out, hlV.out]; omega))
        rw [e1.out] at K1
        rw [e2.out] at K2
        have lw : Hid ((nlow n).leaf = true) := by show _ = _; rw [← e1.out]
        have hw' : Hid ((nhigh n).leaf = true) := by show _ = _; rw [← e2.out]
        simp only [nv, hleaf.out, lw.out, Nat.sub_zero] at K1
        simp only [nv, hleaf.out, hw'.out] at K2
        have hbw : b < w.heap.size := by
          obtain ⟨b', off', e', hc'⟩ := H0.out.strAt hx
          simp only [Option.some.injEq, Addr.mk.injEq, and_true] at e'
          rw [e'.1]; exact cell_lt hc'
        have HD1 := hide (HD.out w1 B1.out)
        have HS0 : Hid (∀ w9, Below (w.heap.size + 1) w1 w9 → (w9.cell? ⟨w.heap.size, 0, none⟩ = some (.bool true) ∧ w9.cell? ⟨w.heap.size, 1, none⟩ = some (.slice (some ⟨b, off, none⟩) lK c) ∧ w9.cell? ⟨w.heap.size, 2, none⟩ = some (.slice a' lV c') ∧ w9.cell? ⟨w.heap.size, 3, none⟩ = some (.slice a'' lD c'')) ∧ w9.cell? ⟨b, off + H, none⟩ = some (st x)) := fun w9 b9 =>
          ⟨⟨(b9.cell (p := ⟨w.heap.size, 0, none⟩) (by show w.heap.size < w.heap.size + 1; omega)).trans HD1.out.1, (b9.cell (p := ⟨w.heap.size, 1, none⟩) (by show w.heap.size < w.heap.size + 1; omega)).trans HD1.out.2.1, (b9.cell (p := ⟨w.heap.size, 2, none⟩) (by show w.heap.size < w.heap.size + 1; omega)).trans HD1.out.2.2.1, (b9.cell (p := ⟨w.heap.size, 3, none⟩) (by show w.heap.size < w.heap.size + 1; omega)).trans HD1.out.2.2.2⟩, (b9.cell (p := ⟨b, off + H, none⟩) (by show b < w.heap.size + 1; omega)).trans hc1⟩
        have HS : Hid (∀ w9, Below w1.heap.size w1 w9 → (w9.cell? ⟨w.heap.size, 0, none⟩ = some (.bool true) ∧ w9.cell? ⟨w.heap.size, 1, none⟩ = some (.slice (some ⟨b, off, none⟩) lK c) ∧ w9.cell? ⟨w.heap.size, 2, none⟩ = some (.slice a' lV c') ∧ w9.cell? ⟨w.heap.size, 3, none⟩ = some (.slice a'' lD c'')) ∧ w9.cell? ⟨b, off + H, none⟩ = some (st x)) := fun w9 b9 => HS0.out w9 (b9.mono (by have := B1.out.size; have := SW.out; omega))
        have HS4 : Hid (∀ (w9 : World) (m0 m1 m2 m3 : Value), Below w1.heap.size w1 w9 → (fun w9 => (w9.cell? ⟨w.heap.size, 0, none⟩ = some (.bool true) ∧ w9.cell? ⟨w.heap.size, 1, none⟩ = some (.slice (some ⟨b, off, none⟩) lK c) ∧ w9.cell? ⟨w.heap.size, 2, none⟩ = some (.slice a' lV c') ∧ w9.cell? ⟨w.heap.size, 3, none⟩ = some (.slice a'' lD c'')) ∧ w9.cell? ⟨b, off + H, none⟩ = some (st x)) ((((w9.setCell ⟨w.heap.size + 1, 0, none⟩ m0).setCell ⟨w.heap.size + 1, 1, none⟩ m1).setCell ⟨w.heap.size + 1, 2, none⟩ m2).setCell ⟨w.heap.size + 1, 3, none⟩ m3)) := fun w9 m0 m1 m2 m3 b9 => HS0.out _ (below_set4n (b9.mono (by have := B1.out.size; have := SW.out; omega)) (Nat.le_refl _) m0 m1 m2 m3)
        clear hbw
        have FIN : Hid (∀ (w5 : World), Below w1.heap.size w1 w5 → (∀ x y z v x' y' z' v' : Value, Hid (∃ U, U = (((((((w5.setCell ⟨w.heap.size + 1, 0, none⟩ x).setCell ⟨w.heap.size + 1, 1, none⟩ y).setCell ⟨w.heap.size + 1, 2, none⟩ z).setCell ⟨w.heap.size + 1, 3, none⟩ v).setCell ⟨w.heap.size + 1 + 1, 0, none⟩ x').setCell ⟨w.heap.size + 1 + 1, 1, none⟩ y').setCell ⟨w.heap.size + 1 + 1, 2, none⟩ z').setCell ⟨w.heap.size + 1 + 1, 3, none⟩ v' ∧ U.heap[w.heap.size + 1]? = some (.cells #[x, y, z, v] 26 (0, 0)) ∧ U.heap[w.heap.size + 1 + 1]? = some (.cells #[x', y', z', v'] 26 (0, 0)) ∧ Below w.heap.size w U))) := fun w5 b5 x y z v x' y' z' v' =>
          hide (set8 (show w.heap.size + 1 ≠ w.heap.size + 1 + 1 by omega) (HX.out w5 (B1.out.trans (b5.mono B1.out.size))).1 (HX.out w5 (B1.out.trans (b5.mono B1.out.size))).2 (HE.out w5 (B1.out.trans (b5.mono B1.out.size))) (show w.heap.size ≤ w.heap.size + 1 by omega) (show w.heap.size ≤ w.heap.size + 1 + 1 by omega) x y z v x' y' z' v')
        have CX : Hid (∀ (w5 : World), Below w1.heap.size w1 w5 → (w5.cell? ⟨w.heap.size + 1, 0, none⟩ = some (.bool false) ∧ w5.cell? ⟨w.heap.size + 1, 1, none⟩ = some (.slice none 0 0) ∧ w5.cell? ⟨w.heap.size + 1, 2, none⟩ = some (.slice none 0 0) ∧ w5.cell? ⟨w.heap.size + 1, 3, none⟩ = some (.slice none 0 0)) ∧ ∀ i, w5.frozen? ⟨w.heap.size + 1, i, none⟩ = false) := fun w5 b5 => cells4 (HX.out w5 (B1.out.trans (b5.mono B1.out.size))).1
        have CY : Hid (∀ (w5 : World), Below w1.heap.size w1 w5 → (w5.cell? ⟨w.heap.size + 1 + 1, 0, none⟩ = some (.bool false) ∧ w5.cell? ⟨w.heap.size + 1 + 1, 1, none⟩ = some (.slice none 0 0) ∧ w5.cell? ⟨w.heap.size + 1 + 1, 2, none⟩ = some (.slice none 0 0) ∧ w5.cell? ⟨w.heap.size + 1 + 1, 3, none⟩ = some (.slice none 0 0)) ∧ ∀ i, w5.frozen? ⟨w.heap.size + 1 + 1, i, none⟩ = false) := fun w5 b5 => cells4 (HX.out w5 (B1.out.trans (b5.mono B1.out.size))).2
        have b0 : Below w1.heap.size w1 w1.drew := (Below.refl _ _).drew
        have s1 : Hid (w.heap.size + 3 ≤ w1.heap.size) := by have := B1.out.size; have := SW.out; show _ ≤ _; omega
        replace hx := hide hx
        replace hH := hide hH
        clear x0 x1 x2 x3 y0 y1 y2 y3 xf0 xf1 xf2 xf3 yf0 yf1 yf2 yf3 hcn
        go_wp2
        clear D0 D1 D2 D3 hc1
        refine wp_region_sched (fun w9 => (w9.cell? ⟨w.heap.size, 0, none⟩ = some (.bool true) ∧ w9.cell? ⟨w.heap.size, 1, none⟩ = some (.slice (some ⟨b, off, none⟩) lK c) ∧ w9.cell? ⟨w.heap.size, 2, none⟩ = some (.slice a' lV c') ∧ w9.cell? ⟨w.heap.size, 3, none⟩ = some (.slice a'' lD c'')) ∧ w9.cell? ⟨b, off + H, none⟩ = some (st x)) [(0, true), (1, true), (3, true), (4, true), (5, true), (6, true), (7, true), (8, true), (9, true), (10, true), (11, true), (12, true), (2, false), (13, false), (14, false)] 15 mixed (by kernel_rfl) (fun _ _ _ _ h => h) ?_
        iterate 12
          refine sched_take (v := ?_) rfl (by kernel_rfl) (HS.out _ b0) ?_ ?_
          rotate_left
          · rintro w9 ⟨⟨r0, r1, r2, r3⟩, r4⟩
            go_simp
            try with_reducible rfl
          try simp only [Act.put, List.setIfInBounds_toArray, List.set_cons_zero, List.set_cons_succ]
        refine sched_run rfl (by kernel_rfl) fun K hK => ?_
        refine wp_call_of 27 _ _ (by rfl) #[.agg #[.bool true, .slice (some ⟨b, off, none⟩) lK c, .slice a' lV c', .slice a'' lD c''], .int .i64 0, .int .i64 (H : Int)] (by simp [Act.eval]) (Try.call27 _ _) (K1.out w1.drew b0) ?_
        rintro e w2 ⟨t1, d1, t2, d2, rfl, o1, e1'⟩
        have d2' : Below w1.heap.size w1 w2 := b0.trans (e1'.mono b0.size)
        refine ⟨_, rfl, hK _ _ (HS.out _ d2') ?_⟩
        clear hK K
        try simp only [Act.put, List.setIfInBounds_toArray, List.set_cons_zero, List.set_cons_succ]
        refine sched_run rfl (by kernel_rfl) fun K hK => ?_
        refine wp_call_of 27 _ _ (by rfl) #[.agg #[.bool true, .slice (some ⟨b, off, none⟩) lK c, .slice a' lV c', .slice a'' lD c''], .int .i64 (H : Int), .int .i64 (lK : Int)] (by simp [Act.eval]) (Try.call27 _ _) (K2.out w2 d2') ?_
        rintro e w3 ⟨t3, d3, t4, d4, rfl, o2, e2'⟩
        have d3' : Below w1.heap.size w1 w3 := d2'.trans (e2'.mono d2'.size)
        refine ⟨_, rfl, hK _ _ (HS.out _ d3') ?_⟩
        clear hK K
        try simp only [Act.put, List.setIfInBounds_toArray, List.set_cons_zero, List.set_cons_succ]
        have x0 := (CX.out w3 d3').1.1
        have x1 := (CX.out w3 d3').1.2.1
        have x2 := (CX.out w3 d3').1.2.2.1
        have x3 := (CX.out w3 d3').1.2.2.2
        have xf0 := (CX.out w3 d3').2 0
        have xf1 := (CX.out w3 d3').2 1
        have xf2 := (CX.out w3 d3').2 2
        have xf3 := (CX.out w3 d3').2 3
        have y0 := (CY.out w3 d3').1.1
        have y1 := (CY.out w3 d3').1.2.1
        have y2 := (CY.out w3 d3').1.2.2.1
        have y3 := (CY.out w3 d3').1.2.2.2
        have yf0 := (CY.out w3 d3').2 0
        have yf1 := (CY.out w3 d3').2 1
        have yf2 := (CY.out w3 d3').2 2
        have yf3 := (CY.out w3 d3').2 3
        have U := (FIN.out w3 d3') (.bool true) (.slice t1 H d1) (.slice t2 H d2) (.slice none 0 0) (.bool true) (.slice t3 (lK - H) d3) (.slice t4 (lK - H) d4) (.slice none 0 0)
        have O1 : Hid (OwnN (w.heap.size + 3) w3 (.slice t1 H d1) (.slice t2 H d2) (.slice none 0 0) (nlow n)) := (o1.to e2').mono (by have := s1.out; have := b0.size; omega)
        have O2 : Hid (OwnN (w.heap.size + 3) w3 (.slice t3 (lK - H) d3) (.slice t4 (lK - H) d4) (.slice none 0 0) (nhigh n)) := o2.mono (by have := s1.out; have := d2'.size; omega)
        refine sched_run rfl (by kernel_rfl) fun K hK => ?_
        have S4 := HS4.out w3 (.bool true) (.slice t1 H d1) (.slice t2 H d2) (.slice none 0 0) d3'
        go_simp
        refine hK _ _ S4 ?_
        clear hK K
        clear o1 o2 e1' e2' d2' d3' K1 K2 HS HS0 HS4 S4 FIN CX CY
        try simp only [Act.put, List.setIfInBounds_toArray, List.set_cons_zero, List.set_cons_succ]
        show wpList _ _ _ _ _ _
        dsimp only [List.drop]
        go_wp2
        obtain ⟨U, hU, g1, g2, gb⟩ := U.out
        have hg1 : w.heap.size + 1 < w.heap.size + 3 := by omega
        have hg2 : w.heap.size + 1 + 1 < w.heap.size + 3 := by omega
        have P1 := ((((((((O1.out.set hg1 0 (.bool true)).set hg1 1 (.slice t1 H d1)).set hg1 2 (.slice t2 H d2)).set hg1 3 (.slice none 0 0)).set hg2 0 (.bool true)).set hg2 1 (.slice t3 (lK - H) d3)).set hg2 2 (.slice t4 (lK - H) d4)).set hg2 3 (.slice none 0 0)).mono (show w.heap.size ≤ w.heap.size + 3 by omega)
        have P2 := ((((((((O2.out.set hg1 0 (.bool true)).set hg1 1 (.slice t1 H d1)).set hg1 2 (.slice t2 H d2)).set hg1 3 (.slice none 0 0)).set hg2 0 (.bool true)).set hg2 1 (.slice t3 (lK - H) d3)).set hg2 2 (.slice t4 (lK - H) d4)).set hg2 3 (.slice none 0 0)).mono (show w.heap.size ≤ w.heap.size + 3 by omega)
        rw [← hU] at P1 P2
        rw [← hU]
        refine retNTNT rfl rfl (w.heap.size + 1) (w.heap.size + 1 + 1) rfl rfl _ _ _ _ (0, 0) (0, 0) g1 g2 _ _ Try.underlying26 rfl info_ndP Try.underlying26 rfl info_ndP _ _ rfl rfl ?_
        refine ⟨(.slice t1 H d1), (.slice t2 H d2), (.slice none 0 0), (.slice t3 (lK - H) d3), (.slice t4 (lK - H) d4), (.slice none 0 0), ?_, ?_, ?_, gb⟩
        rotate_left
        · rw [hr.out.2.1]; exact P1
        · rw [hr.out.2.2.1]; exact P2
        · rw [hr.out.1, hr.out.2.1, hr.out.2.2.1, emid.out]
          dsimp only [nv]
          rw [lw.out, hw'.out]
          rfl
    | false =>
      by_cases c1 : (lK : Int) < 3
      · have hr : Hid (nsplit n = 3 ∧ nlow' n = none9 ∧ nhigh' n = none9 ∧ nmid' n = []) := FAIL.out 3 _ (by
          have q0 : nfew n := by unfold nfew; rw [hlK.out, hleaf.out]; right; exact ⟨rfl, by omega⟩
          unfold nsplit; rw [if_pos hzz.out, if_pos q0]) (by decide) (fun h => h)
        have U := hide (set8 (show w.heap.size + 1 ≠ w.heap.size + 1 + 1 by omega) XX.out YY.out (HE.out _ B1.out) (show w.heap.size ≤ w.heap.size + 1 by omega) (show w.heap.size ≤ w.heap.size + 1 + 1 by omega) (.bool false) (.slice none 0 0) (.slice none 0 0) (.slice none 0 0) (.bool false) (.slice none 0 0) (.slice none 0 0) (.slice none 0 0))
        go_wp2
        obtain ⟨U, hU, g1, g2, gb⟩ := U.out
        rw [← hU]
        refine retNTNT rfl rfl (w.heap.size + 1) (w.heap.size + 1 + 1) rfl rfl _ _ _ _ (0, 0) (0, 0) g1 g2 _ _ Try.underlying26 rfl info_ndP Try.underlying26 rfl info_ndP _ _ rfl rfl ?_
        refine ⟨.slice none 0 0, .slice none 0 0, .slice none 0 0, .slice none 0 0, .slice none 0 0, .slice none 0 0, ?_, ?_, ?_, gb⟩
        · rw [hr.out.1, hr.out.2.1, hr.out.2.2.1, hr.out.2.2.2]; rfl
        · rw [hr.out.2.1]; exact OwnN.nil _ _ _
        · rw [hr.out.2.2.1]; exact OwnN.nil _ _ _
      · have hr : Hid (nsplit n = 0 ∧ nlow' n = nlow n ∧ nhigh' n = nhigh n ∧ nmid' n = nkey n (n.keys.length / 2)) := by
          have q0 : ¬ nfew n := by unfold nfew; rw [hlK.out, hleaf.out]; simp; omega
          have q : nsplit n = 0 := by unfold nsplit; rw [if_pos hzz.out, if_neg q0]
          show _ ∧ _ ∧ _ ∧ _
          unfold nlow' nhigh' nmid'
          rw [q]
          exact ⟨rfl, rfl, rfl, rfl⟩
        obtain ⟨H, hH⟩ : ∃ H, H = lK / 2 := ⟨_, rfl⟩
        have hH1 : (lK : Int) / 2 = (H : Int) := by omega
        have q2 : (H : Int) < (lK : Int) := by omega
        obtain ⟨x, hx⟩ := some_el n.keys (k := H) (by rw [hlK.out]; omega)
        have emid : Hid (nmid' n = x) := by show _ = _; rw [hr.out.2.2.2, hlK.out, ← hH]; unfold nkey; rw [hx]; rfl
        obtain ⟨b, off, rfl, hc1⟩ := (HN.out w1 B1.out).keys.strAt hx
        rw [if_neg (by decide)] at hcn
        obtain ⟨H1, hH2⟩ : ∃ H1, H1 = H + 1 := ⟨_, rfl⟩
        have hj1 : (H : Int) + 1 = (H1 : Int) := by omega
        have hj3 : IntKind.i64.wrap (H1 : Int) = (H1 : Int) := IntWalk.i64_in _ (by omega)
        have e1 : Hid ((⟨false, (n.keys.take H).drop 0, [], (n.kids.take (H + 1)).drop 0⟩ : Nd) = nlow n) := by show _ = _; unfold nlow; simp only [hlK.out, hleaf.out, ← hH, List.drop_zero, Bool.false_eq_true, if_false]
        have e2 : Hid ((⟨false, (n.keys.take lK).drop H1, [], (n.kids.take (lK + 1)).drop H1⟩ : Nd) = nhigh n) := by
          show _ = _; unfold nhigh; simp only [hlK.out, hleaf.out, ← hH, Bool.false_eq_true, if_false, hH2]
          rw [List.take_of_length_le (l := n.keys) (by rw [hlK.out]; exact Nat.le_refl _), List.take_of_length_le (l := n.kids) (by rw [hlD.out]; omega)]
        have K1 := hide (fun w9 (b9 : Below w1.heap.size w1 w9) => pinner_any w9 _ _ _ n 0 H ((HN.out w1 B1.out).to b9) (by omega) (by rw [hlK.out]; omega) (by rw [hlD.out]; omega) (by rw [hlK.out, hlD.out]; omega))
        have K2 := hide (fun w9 (b9 : Below w1.heap.size w1 w9) => pinner_any w9 _ _ _ n H1 lK ((HN.out w1 B1.out).to b9) (by omega) (by rw [hlK.out]; omega) (by rw [hlD.out]; omega) (by rw [hlK.out, hlD.out]; omega))
        rw [e1.out] at K1
        rw [e2.out] at K2
        have lw : Hid ((nlow n).leaf = false) := by show _ = _; rw [← e1.out]
        have hw' : Hid ((nhigh n).leaf = false) := by show _ = _; rw [← e2.out]
        simp only [nv, hleaf.out, lw.out, Nat.sub_zero] at K1
        simp only [nv, hleaf.out, hw'.out] at K2
        replace hH2 := hide hH2
        have hbw : b < w.heap.size := by
          obtain ⟨b', off', e', hc'⟩ := H0.out.strAt hx
          simp only [Option.some.injEq, Addr.mk.injEq, and_true] at e'
          rw [e'.1]; exact cell_lt hc'
        have HD1 := hide (HD.out w1 B1.out)
        have HS0 : Hid (∀ w9, Below (w.heap.size + 1) w1 w9 → (w9.cell? ⟨w.heap.size, 0, none⟩ = some (.bool false) ∧ w9.cell? ⟨w.heap.size, 1, none⟩ = some (.slice (some ⟨b, off, none⟩) lK c) ∧ w9.cell? ⟨w.heap.size, 2, none⟩ = some (.slice a' lV c') ∧ w9.cell? ⟨w.heap.size, 3, none⟩ = some (.slice a'' lD c'')) ∧ w9.cell? ⟨b, off + H, none⟩ = some (st x)) := fun w9 b9 =>
          ⟨⟨(b9.cell (p := ⟨w.heap.size, 0, none⟩) (by show w.heap.size < w.heap.size + 1; omega)).trans HD1.out.1, (b9.cell (p := ⟨w.heap.size, 1, none⟩) (by show w.heap.size < w.heap.size + 1; omega)).trans HD1.out.2.1, (b9.cell (p := ⟨w.heap.size, 2, none⟩) (by show w.heap.size < w.heap.size + 1; omega)).trans HD1.out.2.2.1, (b9.cell (p := ⟨w.heap.size, 3, none⟩) (by show w.heap.size < w.heap.size + 1; omega)).trans HD1.out.2.2.2⟩, (b9.cell (p := ⟨b, off + H, none⟩) (by show b < w.heap.size + 1; omega)).trans hc1⟩
        have HS : Hid (∀ w9, Below w1.heap.size w1 w9 → (w9.cell? ⟨w.heap.size, 0, none⟩ = some (.bool false) ∧ w9.cell? ⟨w.heap.size, 1, none⟩ = some (.slice (some ⟨b, off, none⟩) lK c) ∧ w9.cell? ⟨w.heap.size, 2, none⟩ = some (.slice a' lV c') ∧ w9.cell? ⟨w.heap.size, 3, none⟩ = some (.slice a'' lD c'')) ∧ w9.cell? ⟨b, off + H, none⟩ = some (st x)) := fun w9 b9 => HS0.out w9 (b9.mono (by have := B1.out.size; have := SW.out; omega))
        have HS4 : Hid (∀ (w9 : World) (m0 m1 m2 m3 : Value), Below w1.heap.size w1 w9 → (fun w9 => (w9.cell? ⟨w.heap.size, 0, none⟩ = some (.bool false) ∧ w9.cell? ⟨w.heap.size, 1, none⟩ = some (.slice (some ⟨b, off, none⟩) lK c) ∧ w9.cell? ⟨w.heap.size, 2, none⟩ = some (.slice a' lV c') ∧ w9.cell? ⟨w.heap.size, 3, none⟩ = some (.slice a'' lD c'')) ∧ w9.cell? ⟨b, off + H, none⟩ = some (st x)) ((((w9.setCell ⟨w.heap.size + 1, 0, none⟩ m0).setCell ⟨w.heap.size + 1, 1, none⟩ m1).setCell ⟨w.heap.size + 1, 2, none⟩ m2).setCell ⟨w.heap.size + 1, 3, none⟩ m3)) := fun w9 m0 m1 m2 m3 b9 => HS0.out _ (below_set4n (b9.mono (by have := B1.out.size; have := SW.out; omega)) (Nat.le_refl _) m0 m1 m2 m3)
        clear hbw
        have FIN : Hid (∀ (w5 : World), Below w1.heap.size w1 w5 → (∀ x y z v x' y' z' v' : Value, Hid (∃ U, U = (((((((w5.setCell ⟨w.heap.size + 1, 0, none⟩ x).setCell ⟨w.heap.size + 1, 1, none⟩ y).setCell ⟨w.heap.size + 1, 2, none⟩ z).setCell ⟨w.heap.size + 1, 3, none⟩ v).setCell ⟨w.heap.size + 1 + 1, 0, none⟩ x').setCell ⟨w.heap.size + 1 + 1, 1, none⟩ y').setCell ⟨w.heap.size + 1 + 1, 2, none⟩ z').setCell ⟨w.heap.size + 1 + 1, 3, none⟩ v' ∧ U.heap[w.heap.size + 1]? = some (.cells #[x, y, z, v] 26 (0, 0)) ∧ U.heap[w.heap.size + 1 + 1]? = some (.cells #[x', y', z', v'] 26 (0, 0)) ∧ Below w.heap.size w U))) := fun w5 b5 x y z v x' y' z' v' =>
          hide (set8 (show w.heap.size + 1 ≠ w.heap.size + 1 + 1 by omega) (HX.out w5 (B1.out.trans (b5.mono B1.out.size))).1 (HX.out w5 (B1.out.trans (b5.mono B1.out.size))).2 (HE.out w5 (B1.out.trans (b5.mono B1.out.size))) (show w.heap.size ≤ w.heap.size + 1 by omega) (show w.heap.size ≤ w.heap.size + 1 + 1 by omega) x y z v x' y' z' v')
        have CX : Hid (∀ (w5 : World), Below w1.heap.size w1 w5 → (w5.cell? ⟨w.heap.size + 1, 0, none⟩ = some (.bool false) ∧ w5.cell? ⟨w.heap.size + 1, 1, none⟩ = some (.slice none 0 0) ∧ w5.cell? ⟨w.heap.size + 1, 2, none⟩ = some (.slice none 0 0) ∧ w5.cell? ⟨w.heap.size + 1, 3, none⟩ = some (.slice none 0 0)) ∧ ∀ i, w5.frozen? ⟨w.heap.size + 1, i, none⟩ = false) := fun w5 b5 => cells4 (HX.out w5 (B1.out.trans (b5.mono B1.out.size))).1
        have CY : Hid (∀ (w5 : World), Below w1.heap.size w1 w5 → (w5.cell? ⟨w.heap.size + 1 + 1, 0, none⟩ = some (.bool false) ∧ w5.cell? ⟨w.heap.size + 1 + 1, 1, none⟩ = some (.slice none 0 0) ∧ w5.cell? ⟨w.heap.size + 1 + 1, 2, none⟩ = some (.slice none 0 0) ∧ w5.cell? ⟨w.heap.size + 1 + 1, 3, none⟩ = some (.slice none 0 0)) ∧ ∀ i, w5.frozen? ⟨w.heap.size + 1 + 1, i, none⟩ = false) := fun w5 b5 => cells4 (HX.out w5 (B1.out.trans (b5.mono B1.out.size))).2
        have b0 : Below w1.heap.size w1 w1.drew := (Below.refl _ _).drew
        have s1 : Hid (w.heap.size + 3 ≤ w1.heap.size) := by have := B1.out.size; have := SW.out; show _ ≤ _; omega
        replace hx := hide hx
        replace hH := hide hH
        clear x0 x1 x2 x3 y0 y1 y2 y3 xf0 xf1 xf2 xf3 yf0 yf1 yf2 yf3 hcn
        go_wp2
        clear D0 D1 D2 D3 hc1
        refine wp_region_sched (fun w9 => (w9.cell? ⟨w.heap.size, 0, none⟩ = some (.bool false) ∧ w9.cell? ⟨w.heap.size, 1, none⟩ = some (.slice (some ⟨b, off, none⟩) lK c) ∧ w9.cell? ⟨w.heap.size, 2, none⟩ = some (.slice a' lV c') ∧ w9.cell? ⟨w.heap.size, 3, none⟩ = some (.slice a'' lD c'')) ∧ w9.cell? ⟨b, off + H, none⟩ = some (st x)) [(0, true), (1, true), (3, true), (4, true), (5, true), (6, true), (7, true), (8, true), (9, true), (10, true), (11, true), (12, true), (13, true), (2, false), (14, false), (15, false)] 16 mixed (by kernel_rfl) (fun _ _ _ _ h => h) ?_
        iterate 13
          refine sched_take (v := ?_) rfl (by kernel_rfl) (HS.out _ b0) ?_ ?_
          rotate_left
          · rintro w9 ⟨⟨r0, r1, r2, r3⟩, r4⟩
            go_simp
            try with_reducible rfl
          try simp only [Act.put, List.setIfInBounds_toArray, List.set_cons_zero, List.set_cons_succ]
        refine sched_run rfl (by kernel_rfl) fun K hK => ?_
        refine wp_call_of 28 _ _ (by rfl) #[.agg #[.bool false, .slice (some ⟨b, off, none⟩) lK c, .slice a' lV c', .slice a'' lD c''], .int .i64 0, .int .i64 (H : Int)] (by simp [Act.eval]) (Try.call28 _ _) (K1.out w1.drew b0) ?_
        rintro e w2 ⟨t1, d1, t2, d2, rfl, o1, e1'⟩
        have d2' : Below w1.heap.size w1 w2 := b0.trans (e1'.mono b0.size)
        refine ⟨_, rfl, hK _ _ (HS.out _ d2') ?_⟩
        clear hK K
        try simp only [Act.put, List.setIfInBounds_toArray, List.set_cons_zero, List.set_cons_succ]
        refine sched_run rfl (by kernel_rfl) fun K hK => ?_
        refine wp_call_of 28 _ _ (by rfl) #[.agg #[.bool false, .slice (some ⟨b, off, none⟩) lK c, .slice a' lV c', .slice a'' lD c''], .int .i64 (H1 : Int), .int .i64 (lK : Int)] (by simp [Act.eval]) (Try.call28 _ _) (K2.out w2 d2') ?_
        rintro e w3 ⟨t3, d3, t4, d4, rfl, o2, e2'⟩
        have d3' : Below w1.heap.size w1 w3 := d2'.trans (e2'.mono d2'.size)
        refine ⟨_, rfl, hK _ _ (HS.out _ d3') ?_⟩
        clear hK K
        try simp only [Act.put, List.setIfInBounds_toArray, List.set_cons_zero, List.set_cons_succ]
        have x0 := (CX.out w3 d3').1.1
        have x1 := (CX.out w3 d3').1.2.1
        have x2 := (CX.out w3 d3').1.2.2.1
        have x3 := (CX.out w3 d3').1.2.2.2
        have xf0 := (CX.out w3 d3').2 0
        have xf1 := (CX.out w3 d3').2 1
        have xf2 := (CX.out w3 d3').2 2
        have xf3 := (CX.out w3 d3').2 3
        have y0 := (CY.out w3 d3').1.1
        have y1 := (CY.out w3 d3').1.2.1
        have y2 := (CY.out w3 d3').1.2.2.1
        have y3 := (CY.out w3 d3').1.2.2.2
        have yf0 := (CY.out w3 d3').2 0
        have yf1 := (CY.out w3 d3').2 1
        have yf2 := (CY.out w3 d3').2 2
        have yf3 := (CY.out w3 d3').2 3
        have U := (FIN.out w3 d3') (.bool false) (.slice t1 H d1) (.slice none 0 0) (.slice t2 (H + 1) d2) (.bool false) (.slice t3 (lK - H1) d3) (.slice none 0 0) (.slice t4 (lK + 1 - H1) d4)
        have O1 : Hid (OwnN (w.heap.size + 3) w3 (.slice t1 H d1) (.slice none 0 0) (.slice t2 (H + 1) d2) (nlow n)) := (o1.to e2').mono (by have := s1.out; have := b0.size; omega)
        have O2 : Hid (OwnN (w.heap.size + 3) w3 (.slice t3 (lK - H1) d3) (.slice none 0 0) (.slice t4 (lK + 1 - H1) d4) (nhigh n)) := o2.mono (by have := s1.out; have := d2'.size; omega)
        refine sched_run rfl (by kernel_rfl) fun K hK => ?_
        have S4 := HS4.out w3 (.bool false) (.slice t1 H d1) (.slice none 0 0) (.slice t2 (H + 1) d2) d3'
        go_simp
        refine hK _ _ S4 ?_
        clear hK K
        clear o1 o2 e1' e2' d2' d3' K1 K2 HS HS0 HS4 S4 FIN CX CY
        try simp only [Act.put, List.setIfInBounds_toArray, List.set_cons_zero, List.set_cons_succ]
        show wpList _ _ _ _ _ _
        dsimp only [List.drop]
        go_wp2
        obtain ⟨U, hU, g1, g2, gb⟩ := U.out
        have hg1 : w.heap.size + 1 < w.heap.size + 3 := by omega
        have hg2 : w.heap.size + 1 + 1 < w.heap.size + 3 := by omega
        have P1 := ((((((((O1.out.set hg1 0 (.bool false)).set hg1 1 (.slice t1 H d1)).set hg1 2 (.slice none 0 0)).set hg1 3 (.slice t2 (H + 1) d2)).set hg2 0 (.bool false)).set hg2 1 (.slice t3 (lK - H1) d3)).set hg2 2 (.slice none 0 0)).set hg2 3 (.slice t4 (lK + 1 - H1) d4)).mono (show w.heap.size ≤ w.heap.size + 3 by omega)
        have P2 := ((((((((O2.out.set hg1 0 (.bool false)).set hg1 1 (.slice t1 H d1)).set hg1 2 (.slice none 0 0)).set hg1 3 (.slice t2 (H + 1) d2)).set hg2 0 (.bool false)).set hg2 1 (.slice t3 (lK - H1) d3)).set hg2 2 (.slice none 0 0)).set hg2 3 (.slice t4 (lK + 1 - H1) d4)).mono (show w.heap.size ≤ w.heap.size + 3 by omega)
        rw [← hU] at P1 P2
        rw [← hU]
        refine retNTNT rfl rfl (w.heap.size + 1) (w.heap.size + 1 + 1) rfl rfl _ _ _ _ (0, 0) (0, 0) g1 g2 _ _ Try.underlying26 rfl info_ndP Try.underlying26 rfl info_ndP _ _ rfl rfl ?_
        refine ⟨(.slice t1 H d1), (.slice none 0 0), (.slice t2 (H + 1) d2), (.slice t3 (lK - H1) d3), (.slice none 0 0), (.slice t4 (lK + 1 - H1) d4), ?_, ?_, ?_, gb⟩
        rotate_left
        · rw [hr.out.2.1]; exact P1
        · rw [hr.out.2.2.1]; exact P2
        · rw [hr.out.1, hr.out.2.1, hr.out.2.2.1, emid.out]
          dsimp only [nv]
          rw [lw.out, hw'.out]
          rfl
  · have hr : Hid (nsplit n = ncheck n ∧ nlow' n = none9 ∧ nhigh' n = none9 ∧ nmid' n = []) := FAIL.out (ncheck n) _ (if_neg hz) hz (fun h => h)
    obtain ⟨Z, hZ⟩ : ∃ Z, Z = ncheck n := ⟨_, rfl⟩
    rw [← hZ] at hz hr ⊢
    replace hZ := hide hZ
    have U := hide (set8 (show w.heap.size + 1 ≠ w.heap.size + 1 + 1 by omega) XX.out YY.out (HE.out _ B1.out) (show w.heap.size ≤ w.heap.size + 1 by omega) (show w.heap.size ≤ w.heap.size + 1 + 1 by omega) (.bool false) (.slice none 0 0) (.slice none 0 0) (.slice none 0 0) (.bool false) (.slice none 0 0) (.slice none 0 0) (.slice none 0 0))
    go_wp2
    obtain ⟨U, hU, g1, g2, gb⟩ := U.out
    rw [← hU]
    refine retNTNT rfl rfl (w.heap.size + 1) (w.heap.size + 1 + 1) rfl rfl _ _ _ _ (0, 0) (0, 0) g1 g2 _ _ Try.underlying26 rfl info_ndP Try.underlying26 rfl info_ndP _ _ rfl rfl ?_
    refine ⟨.slice none 0 0, .slice none 0 0, .slice none 0 0, .slice none 0 0, .slice none 0 0, .slice none 0 0, ?_, ?_, ?_, gb⟩
    · rw [hr.out.1, hr.out.2.1, hr.out.2.2.1, hr.out.2.2.2]; rfl
    · rw [hr.out.2.1]; exact OwnN.nil _ _ _
    · rw [hr.out.2.2.1]; exact OwnN.nil _ _ _
end Go.Proofs.Ytjkpldmmijfebaa
