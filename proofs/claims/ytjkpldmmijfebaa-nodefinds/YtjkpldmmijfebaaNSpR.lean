/-
  The page's Split of nodes.
-/
import Derived.Test.YtjkpldmmijfebaaNSplitR
import Derived.Test.YtjkpldmmijfebaaNPD
namespace Go.Proofs.Ytjkpldmmijfebaa
open Go.RowKit
set_option linter.unusedVariables false
set_option linter.unusedSimpArgs false

set_option maxRecDepth 100000 in
set_option maxHeartbeats 8000000 in
theorem rsplit9_any (w : World) (kv vv dv : Value) (n : Nd) (h : RdN w kv vv dv n) (hf : nfit n) :
    Calls Try.prog 12 #[nv n kv vv dv] w fun e w' => ∃ k1 v1 d1 k2 v2 d2, e = .returned (.tuple #[nv (nlow' n) k1 v1 d1, st (nmid' n), nv (nhigh' n) k2 v2 d2, .int .i64 (nsplit n)]) ∧
      OwnN w.heap.size w' k1 v1 d1 (nlow' n) ∧ OwnN w.heap.size w' k2 v2 d2 (nhigh' n) ∧ Below w.heap.size w w' := by
  have H0 := hide h.keys
  obtain ⟨W, hW, D, X0, Y0, bW, sW⟩ := boxes4s w (.bool n.leaf) kv vv dv 25
  replace h := h.to bW
  have KC := hide (rcheck9_any W kv vv dv n h hf)
  have HN := hide (fun w1 (b : Below W.heap.size W w1) => h.to b)
  obtain ⟨D4, _⟩ := cells4 D
  have HD : Hid (∀ w1, Below W.heap.size W w1 → w1.cell? ⟨w.heap.size, 0, none⟩ = some (.bool n.leaf) ∧ w1.cell? ⟨w.heap.size, 1, none⟩ = some kv ∧ w1.cell? ⟨w.heap.size, 2, none⟩ = some vv ∧ w1.cell? ⟨w.heap.size, 3, none⟩ = some dv) := fun w1 b =>
    ⟨(b.cell (p := ⟨w.heap.size, 0, none⟩) (cell_lt D4.1)).trans D4.1, (b.cell (p := ⟨w.heap.size, 1, none⟩) (cell_lt D4.2.1)).trans D4.2.1, (b.cell (p := ⟨w.heap.size, 2, none⟩) (cell_lt D4.2.2.1)).trans D4.2.2.1, (b.cell (p := ⟨w.heap.size, 3, none⟩) (cell_lt D4.2.2.2)).trans D4.2.2.2⟩
  have HX : Hid (∀ w1, Below W.heap.size W w1 → w1.heap[w.heap.size + 1]? = some (.cells #[.bool false, .slice none 0 0, .slice none 0 0, .slice none 0 0] 25 (0, 0)) ∧ w1.heap[w.heap.size + 1 + 1]? = some (.cells #[.bool false, .slice none 0 0, .slice none 0 0, .slice none 0 0] 25 (0, 0))) := fun w1 b => ⟨(b.block _ (by omega)).trans X0, (b.block _ (by omega)).trans Y0⟩
  have HE : Hid (∀ w1, Below W.heap.size W w1 → Below w.heap.size w w1) := fun w1 b => bW.trans (b.mono bW.size)
  obtain ⟨D0, D1, D2, D3⟩ := D4
  obtain ⟨a, c, a', c', a'', c'', rfl, rfl, rfl⟩ := h.slices
  have SW := hide sW
  dsimp only [nv] at *
  clear h bW D hf X0 Y0 sW
  rw [hW] at D0 D1 D2 D3
  generalize hlK : n.keys.length = lK at *
  generalize hlV : n.vals.length = lV at *
  generalize hlD : n.kids.length = lD at *
  generalize hleaf : n.leaf = leaf at *
  replace hlK := hide hlK
  replace hlV := hide hlV
  replace hlD := hide hlD
  replace hleaf := hide hleaf
  go_enter Try.func12, Try.ntmps12
  go_wp2_with fail
  rw [← hW]
  replace hW := hide hW
  clear D0 D1 D2 D3
  refine KC.out.mono ?_
  rintro e w1 ⟨rfl, b1⟩
  clear KC
  have X1 := (HX.out w1 b1).1
  have Y1 := (HX.out w1 b1).2
  have D0 := (HD.out w1 b1).1
  have D1 := (HD.out w1 b1).2.1
  have D2 := (HD.out w1 b1).2.2.1
  have D3 := (HD.out w1 b1).2.2.2
  have x0 := (cells4 X1).1.1
  have x1 := (cells4 X1).1.2.1
  have x2 := (cells4 X1).1.2.2.1
  have x3 := (cells4 X1).1.2.2.2
  have xf0 := (cells4 X1).2 0
  have xf1 := (cells4 X1).2 1
  have xf2 := (cells4 X1).2 2
  have xf3 := (cells4 X1).2 3
  have y0 := (cells4 Y1).1.1
  have y1 := (cells4 Y1).1.2.1
  have y2 := (cells4 Y1).1.2.2.1
  have y3 := (cells4 Y1).1.2.2.2
  have yf0 := (cells4 Y1).2 0
  have yf1 := (cells4 Y1).2 1
  have yf2 := (cells4 Y1).2 2
  have yf3 := (cells4 Y1).2 3
  have B1 := hide b1
  have XX := hide X1
  have YY := hide Y1
  clear b1 X1 Y1
  have FAIL : Hid (∀ (Z : Int) (Q : Prop), nsplit n = Z → Z ≠ 0 → ((nsplit n = Z ∧ nlow' n = none9 ∧ nhigh' n = none9 ∧ nmid' n = []) → Q) → Q) := fun Z Q hz h0 k => k (by
    unfold nlow' nhigh' nmid'
    rw [hz, if_neg h0, if_neg h0, if_neg h0]
    exact ⟨rfl, rfl, rfl, rfl⟩)
  by_cases hz : ncheck n = 0
  · have hok := (ncheck_ok n).1 hz
    have few := hok.few
    have hcn := hok.2.1
    unfold ncount at hcn
    rw [hlK.out, hlV.out, hlD.out, hleaf.out] at hcn
    rw [hlK.out] at few
    have hzz := hide hz
    rw [hz]
    replace hok := hide hok
    clear hz
    cases leaf with
    | true =>
      by_cases c1 : (lK : Int) < 2
      · have hr : Hid (nsplit n = 3 ∧ nlow' n = none9 ∧ nhigh' n = none9 ∧ nmid' n = []) := FAIL.out 3 _ (by
          have q0 : nfew n := by unfold nfew; rw [hlK.out, hleaf.out]; left; omega
          unfold nsplit; rw [if_pos hzz.out, if_pos q0]) (by decide) (fun h => h)
        have g1 : decide ((lK : Int) < 2) = true := decide_eq_true c1
        have U := hide (set8 (show w.heap.size + 1 ≠ w.heap.size + 1 + 1 by omega) XX.out YY.out (HE.out _ B1.out) (show w.heap.size ≤ w.heap.size + 1 by omega) (show w.heap.size ≤ w.heap.size + 1 + 1 by omega) (.bool false) (.slice none 0 0) (.slice none 0 0) (.slice none 0 0) (.bool false) (.slice none 0 0) (.slice none 0 0) (.slice none 0 0))
        go_wp2
        obtain ⟨U, hU, g1, g2, gb⟩ := U.out
        rw [← hU]
        refine retNTNT rfl rfl (w.heap.size + 1) (w.heap.size + 1 + 1) rfl rfl _ _ _ _ (0, 0) (0, 0) g1 g2 _ _ Try.underlying25 rfl info_ndR Try.underlying25 rfl info_ndR _ _ rfl rfl ?_
        refine ⟨.slice none 0 0, .slice none 0 0, .slice none 0 0, .slice none 0 0, .slice none 0 0, .slice none 0 0, ?_, ?_, ?_, gb⟩
        · rw [hr.out.1, hr.out.2.1, hr.out.2.2.1, hr.out.2.2.2]; rfl
        · rw [hr.out.2.1]; exact OwnN.nil _ _ _
        · rw [hr.out.2.2.1]; exact OwnN.nil _ _ _
      · have hr : Hid (nsplit n = 0 ∧ nlow' n = nlow n ∧ nhigh' n = nhigh n ∧ nmid' n = nkey n (n.keys.length / 2)) := by
          have q0 : ¬ nfew n := by unfold nfew; rw [hlK.out, hleaf.out]; simp; omega
          have q : nsplit n = 0 := by unfold nsplit; rw [if_pos hzz.out, if_neg q0]
          show _ ∧ _ ∧ _ ∧ _
          unfold nlow' nhigh' nmid'
          rw [q]
          exact ⟨rfl, rfl, rfl, rfl⟩
        have g1 : decide ((lK : Int) < 2) = false := decide_eq_false (by omega)
        
        obtain ⟨H, hH⟩ : ∃ H, H = lK / 2 := ⟨_, rfl⟩
        have hH1 : (lK : Int) / 2 = (H : Int) := by omega
        have q2 : (H : Int) < (lK : Int) := by omega
        have q3 : (H : Int) ≤ (lK : Int) := by omega
        have hcn2 := hcn
        rw [if_pos rfl] at hcn2
        have capK : lK ≤ c := by have := rdS_cap (HN.out w1 B1.out).keys; rw [hlK.out] at this; exact this
        have capX : lV ≤ c' := by have := rdS_cap (HN.out w1 B1.out).vals; rw [hlV.out] at this; exact this
        have r4 : H ≤ c := by omega
        obtain ⟨x, hx⟩ := some_el n.keys (k := H) (by rw [hlK.out]; omega)
        have emid : Hid (nmid' n = x) := by show _ = _; rw [hr.out.2.2.2, hlK.out, ← hH]; unfold nkey; rw [hx]; rfl
        obtain ⟨b, off, hka, hc1⟩ := (HN.out w1 B1.out).keys.strAt hx
        subst hka
        obtain ⟨x', hx'⟩ := some_el n.vals (k := 0) (by rw [hlV.out]; omega)
        obtain ⟨b', off', hxa, _⟩ := (HN.out w1 B1.out).vals.strAt hx'
        subst hxa
        clear hx'
        have q5 : (H : Int) ≤ (lV : Int) := by omega
        have r5 : H ≤ c' := by omega
        have r6 : ¬ c = H := by omega
        have r7 : ¬ c' = H := by omega
        have e1 : Hid ((⟨true, n.keys.take H, n.vals.take H, []⟩ : Nd) = nlow n) := by show _ = _; unfold nlow; simp only [hlK.out, hleaf.out, ← hH, if_true]
        have e2 : Hid ((⟨true, n.keys.drop H, n.vals.drop H, []⟩ : Nd) = nhigh n) := by show _ = _; unfold nhigh; simp only [hlK.out, hleaf.out, ← hH, if_true]
        have z1 : (n.keys.take H).length = H := by rw [List.length_take, hlK.out]; omega
        have z2 : (n.vals.take H).length = H := by rw [List.length_take, hlV.out]; omega
        have z3 : (n.keys.drop H).length = lK - H := by rw [List.length_drop, hlK.out]
        have z4 : (n.vals.drop H).length = lV - H := by rw [List.length_drop, hlV.out]
        have K1 := hide (fun w9 (b9 : Below w1.heap.size w1 w9) => rstr_sl w9 (.slice (some ⟨b, off, none⟩) H c) (n.keys.take H) ((rdS_front (HN.out w1 B1.out).keys (q := H) (by omega)).to0 b9) (by rw [z1]; omega))
        have K2 := hide (fun w9 (b9 : Below w1.heap.size w1 w9) => rstr_sl w9 (.slice (some ⟨b', off', none⟩) H c') (n.vals.take H) ((rdS_front (HN.out w1 B1.out).vals (q := H) (by omega)).to0 b9) (by rw [z2]; omega))
        have K3 := hide (fun w9 (b9 : Below w1.heap.size w1 w9) => rstr_sl w9 (.slice (some ⟨b, off + H, none⟩) (lK - H) (c - H)) (n.keys.drop H) ((rdS_back rfl (HN.out w1 B1.out).keys (q := H) (by omega) r6).to0 b9) (by rw [z3]; omega))
        have K4 := hide (fun w9 (b9 : Below w1.heap.size w1 w9) => rstr_sl w9 (.slice (some ⟨b', off' + H, none⟩) (lV - H) (c' - H)) (n.vals.drop H) ((rdS_back rfl (HN.out w1 B1.out).vals (q := H) (by omega) r7).to0 b9) (by rw [z4]; omega))
        rw [z1] at K1
        rw [z2] at K2
        rw [z3] at K3
        rw [z4] at K4
        have hbw : b < w.heap.size := by
          obtain ⟨b'', off'', e', hc'⟩ := H0.out.strAt hx
          simp only [Option.some.injEq, Addr.mk.injEq, and_true] at e'
          rw [e'.1]; exact cell_lt hc'
        have HD1 := hide (HD.out w1 B1.out)
        have HS0 : Hid (∀ w9, Below (w.heap.size + 1) w1 w9 → (w9.cell? ⟨w.heap.size, 1, none⟩ = some (.slice (some ⟨b, off, none⟩) lK c) ∧ w9.cell? ⟨w.heap.size, 2, none⟩ = some (.slice (some ⟨b', off', none⟩) lV c')) ∧ w9.cell? ⟨b, off + H, none⟩ = some (st x)) := fun w9 b9 =>
          ⟨⟨(b9.cell (p := ⟨w.heap.size, 1, none⟩) (by show w.heap.size < w.heap.size + 1; omega)).trans HD1.out.2.1, (b9.cell (p := ⟨w.heap.size, 2, none⟩) (by show w.heap.size < w.heap.size + 1; omega)).trans HD1.out.2.2.1⟩, (b9.cell (p := ⟨b, off + H, none⟩) (by show b < w.heap.size + 1; omega)).trans hc1⟩
        have HS : Hid (∀ w9, Below w1.heap.size w1 w9 → (w9.cell? ⟨w.heap.size, 1, none⟩ = some (.slice (some ⟨b, off, none⟩) lK c) ∧ w9.cell? ⟨w.heap.size, 2, none⟩ = some (.slice (some ⟨b', off', none⟩) lV c')) ∧ w9.cell? ⟨b, off + H, none⟩ = some (st x)) := fun w9 b9 => HS0.out w9 (b9.mono (by have := B1.out.size; have := SW.out; omega))
        have HS4 : Hid (∀ (w9 : World) (m0 m1 m2 m3 : Value), Below w1.heap.size w1 w9 → (fun w9 => (w9.cell? ⟨w.heap.size, 1, none⟩ = some (.slice (some ⟨b, off, none⟩) lK c) ∧ w9.cell? ⟨w.heap.size, 2, none⟩ = some (.slice (some ⟨b', off', none⟩) lV c')) ∧ w9.cell? ⟨b, off + H, none⟩ = some (st x)) ((((w9.setCell ⟨w.heap.size + 1, 0, none⟩ m0).setCell ⟨w.heap.size + 1, 1, none⟩ m1).setCell ⟨w.heap.size + 1, 2, none⟩ m2).setCell ⟨w.heap.size + 1, 3, none⟩ m3)) := fun w9 m0 m1 m2 m3 b9 => HS0.out _ (below_set4n (b9.mono (by have := B1.out.size; have := SW.out; omega)) (Nat.le_refl _) m0 m1 m2 m3)
        clear hbw
        have FIN : Hid (∀ (w5 : World), Below w1.heap.size w1 w5 → (∀ x y z v x' y' z' v' : Value, Hid (∃ U, U = (((((((w5.setCell ⟨w.heap.size + 1, 0, none⟩ x).setCell ⟨w.heap.size + 1, 1, none⟩ y).setCell ⟨w.heap.size + 1, 2, none⟩ z).setCell ⟨w.heap.size + 1, 3, none⟩ v).setCell ⟨w.heap.size + 1 + 1, 0, none⟩ x').setCell ⟨w.heap.size + 1 + 1, 1, none⟩ y').setCell ⟨w.heap.size + 1 + 1, 2, none⟩ z').setCell ⟨w.heap.size + 1 + 1, 3, none⟩ v' ∧ U.heap[w.heap.size + 1]? = some (.cells #[x, y, z, v] 25 (0, 0)) ∧ U.heap[w.heap.size + 1 + 1]? = some (.cells #[x', y', z', v'] 25 (0, 0)) ∧ Below w.heap.size w U))) := fun w5 b5 x y z v x' y' z' v' =>
          hide (set8 (show w.heap.size + 1 ≠ w.heap.size + 1 + 1 by omega) (HX.out w5 (B1.out.trans (b5.mono B1.out.size))).1 (HX.out w5 (B1.out.trans (b5.mono B1.out.size))).2 (HE.out w5 (B1.out.trans (b5.mono B1.out.size))) (show w.heap.size ≤ w.heap.size + 1 by omega) (show w.heap.size ≤ w.heap.size + 1 + 1 by omega) x y z v x' y' z' v')
        have CX : Hid (∀ (w5 : World), Below w1.heap.size w1 w5 → (w5.cell? ⟨w.heap.size + 1, 0, none⟩ = some (.bool false) ∧ w5.cell? ⟨w.heap.size + 1, 1, none⟩ = some (.slice none 0 0) ∧ w5.cell? ⟨w.heap.size + 1, 2, none⟩ = some (.slice none 0 0) ∧ w5.cell? ⟨w.heap.size + 1, 3, none⟩ = some (.slice none 0 0)) ∧ ∀ i, w5.frozen? ⟨w.heap.size + 1, i, none⟩ = false) := fun w5 b5 => cells4 (HX.out w5 (B1.out.trans (b5.mono B1.out.size))).1
        have CY : Hid (∀ (w5 : World), Below w1.heap.size w1 w5 → (w5.cell? ⟨w.heap.size + 1 + 1, 0, none⟩ = some (.bool false) ∧ w5.cell? ⟨w.heap.size + 1 + 1, 1, none⟩ = some (.slice none 0 0) ∧ w5.cell? ⟨w.heap.size + 1 + 1, 2, none⟩ = some (.slice none 0 0) ∧ w5.cell? ⟨w.heap.size + 1 + 1, 3, none⟩ = some (.slice none 0 0)) ∧ ∀ i, w5.frozen? ⟨w.heap.size + 1 + 1, i, none⟩ = false) := fun w5 b5 => cells4 (HX.out w5 (B1.out.trans (b5.mono B1.out.size))).2
        have b0 : Below w1.heap.size w1 w1.drew := (Below.refl _ _).drew
        have s1 : Hid (w.heap.size + 3 ≤ w1.heap.size) := by have := B1.out.size; have := SW.out; show _ ≤ _; omega
        replace hx := hide hx
        replace hH := hide hH
        clear x0 x1 x2 x3 y0 y1 y2 y3 xf0 xf1 xf2 xf3 yf0 yf1 yf2 yf3 hcn hcn2 z1 z2 z3 z4
        go_wp2
        clear D0 D1 D2 D3 hc1
        refine wp_region_sched (fun w9 => (w9.cell? ⟨w.heap.size, 1, none⟩ = some (.slice (some ⟨b, off, none⟩) lK c) ∧ w9.cell? ⟨w.heap.size, 2, none⟩ = some (.slice (some ⟨b', off', none⟩) lV c')) ∧ w9.cell? ⟨b, off + H, none⟩ = some (st x)) [(0, true), (1, true), (2, true), (3, true), (5, true), (6, true), (7, true), (8, true), (11, true), (12, true), (13, true), (14, true), (15, true), (16, true), (17, true), (18, true), (19, true), (21, true), (22, true), (23, true), (24, true), (4, false), (9, false), (10, true), (20, false), (25, false), (26, true), (27, false), (28, false)] 29 mixed (by kernel_rfl) (fun _ _ _ _ h => h) ?_
        iterate 21
          refine sched_take (v := ?_) rfl (by kernel_rfl) (HS.out _ b0) ?_ ?_
          rotate_left
          · rintro w9 ⟨⟨r1, r2⟩, r3⟩
            go_simp
            try with_reducible rfl
          try simp only [Act.put, List.setIfInBounds_toArray, List.set_cons_zero, List.set_cons_succ]
        refine sched_run rfl (by kernel_rfl) fun K hK => ?_
        refine wp_call_of 29 _ _ (by rfl) #[(.slice (some ⟨b, off, none⟩) H c)] (by simp [Act.eval]) (Try.call29 _ _) (K1.out w1.drew b0) ?_
        rintro e w2 ⟨t1, d1, rfl, o1, g1⟩
        have b1 : Below w1.heap.size w1 w2 := b0.trans (g1.mono b0.size)
        refine ⟨_, rfl, hK _ _ (HS.out _ b1) ?_⟩
        clear hK K
        try simp only [Act.put, List.setIfInBounds_toArray, List.set_cons_zero, List.set_cons_succ]
        refine sched_run rfl (by kernel_rfl) fun K hK => ?_
        refine wp_call_of 29 _ _ (by rfl) #[(.slice (some ⟨b', off', none⟩) H c')] (by simp [Act.eval]) (Try.call29 _ _) (K2.out w2 b1) ?_
        rintro e w3 ⟨t2, d2, rfl, o2, g2⟩
        have b2 : Below w1.heap.size w1 w3 := b1.trans (g2.mono b1.size)
        refine ⟨_, rfl, hK _ _ (HS.out _ b2) ?_⟩
        clear hK K
        try simp only [Act.put, List.setIfInBounds_toArray, List.set_cons_zero, List.set_cons_succ]
        iterate 1
          refine sched_take (v := ?_) rfl (by kernel_rfl) (HS.out _ b2) ?_ ?_
          rotate_left
          · rintro w9 ⟨⟨r1, r2⟩, r3⟩
            go_simp
            try with_reducible rfl
          try simp only [Act.put, List.setIfInBounds_toArray, List.set_cons_zero, List.set_cons_succ]
        refine sched_run rfl (by kernel_rfl) fun K hK => ?_
        refine wp_call_of 29 _ _ (by rfl) #[(.slice (some ⟨b, off + H, none⟩) (lK - H) (c - H))] (by simp [Act.eval]) (Try.call29 _ _) (K3.out w3 b2) ?_
        rintro e w4 ⟨t3, d3, rfl, o3, g3⟩
        have b3 : Below w1.heap.size w1 w4 := b2.trans (g3.mono b2.size)
        refine ⟨_, rfl, hK _ _ (HS.out _ b3) ?_⟩
        clear hK K
        try simp only [Act.put, List.setIfInBounds_toArray, List.set_cons_zero, List.set_cons_succ]
        refine sched_run rfl (by kernel_rfl) fun K hK => ?_
        refine wp_call_of 29 _ _ (by rfl) #[(.slice (some ⟨b', off' + H, none⟩) (lV - H) (c' - H))] (by simp [Act.eval]) (Try.call29 _ _) (K4.out w4 b3) ?_
        rintro e w5 ⟨t4, d4, rfl, o4, g4⟩
        have b4 : Below w1.heap.size w1 w5 := b3.trans (g4.mono b3.size)
        refine ⟨_, rfl, hK _ _ (HS.out _ b4) ?_⟩
        clear hK K
        try simp only [Act.put, List.setIfInBounds_toArray, List.set_cons_zero, List.set_cons_succ]
        iterate 1
          refine sched_take (v := ?_) rfl (by kernel_rfl) (HS.out _ b4) ?_ ?_
          rotate_left
          · rintro w9 ⟨⟨r1, r2⟩, r3⟩
            go_simp
            try with_reducible rfl
          try simp only [Act.put, List.setIfInBounds_toArray, List.set_cons_zero, List.set_cons_succ]
        have x0 := (CX.out w5 b4).1.1
        have x1 := (CX.out w5 b4).1.2.1
        have x2 := (CX.out w5 b4).1.2.2.1
        have x3 := (CX.out w5 b4).1.2.2.2
        have xf0 := (CX.out w5 b4).2 0
        have xf1 := (CX.out w5 b4).2 1
        have xf2 := (CX.out w5 b4).2 2
        have xf3 := (CX.out w5 b4).2 3
        have y0 := (CY.out w5 b4).1.1
        have y1 := (CY.out w5 b4).1.2.1
        have y2 := (CY.out w5 b4).1.2.2.1
        have y3 := (CY.out w5 b4).1.2.2.2
        have yf0 := (CY.out w5 b4).2 0
        have yf1 := (CY.out w5 b4).2 1
        have yf2 := (CY.out w5 b4).2 2
        have yf3 := (CY.out w5 b4).2 3
        have U := (FIN.out w5 b4) (.bool true) (.slice t1 H d1) (.slice t2 H d2) (.slice none 0 0) (.bool true) (.slice t3 (lK - H) d3) (.slice t4 (lV - H) d4) (.slice none 0 0)
        have O1 : Hid (OwnN (w.heap.size + 3) w5 (.slice t1 H d1) (.slice t2 H d2) (.slice none 0 0) ⟨true, n.keys.take H, n.vals.take H, []⟩) := ⟨rows_mono (rows_to (rows_to (rows_to o1 g2) g3) g4) (by have := s1.out; have := b0.size; omega), rows_mono (rows_to (rows_to o2 g3) g4) (by have := s1.out; have := b1.size; omega), World.ownsRow_nil _ _ _ _⟩
        have O2 : Hid (OwnN (w.heap.size + 3) w5 (.slice t3 (lK - H) d3) (.slice t4 (lV - H) d4) (.slice none 0 0) ⟨true, n.keys.drop H, n.vals.drop H, []⟩) := ⟨rows_mono (rows_to o3 g4) (by have := s1.out; have := b2.size; omega), rows_mono o4 (by have := s1.out; have := b3.size; omega), World.ownsRow_nil _ _ _ _⟩
        refine sched_run rfl (by kernel_rfl) fun K hK => ?_
        have S4 := HS4.out w5 (.bool true) (.slice t1 H d1) (.slice t2 H d2) (.slice none 0 0) b4
        go_simp
        refine hK _ _ S4 ?_
        clear hK K
        try simp only [Act.put, List.setIfInBounds_toArray, List.set_cons_zero, List.set_cons_succ]
        refine sched_run rfl (by kernel_rfl) fun K hK => ?_
        go_simp
        refine hK _ _ S4 ?_
        clear hK K
        try simp only [Act.put, List.setIfInBounds_toArray, List.set_cons_zero, List.set_cons_succ]
        clear o1 o2 o3 o4 g1 g2 g3 g4 b1 b2 b3 b4 K1 K2 K3 K4 HS HS0 HS4 S4 FIN CX CY
        show wpList _ _ _ _ _ _
        dsimp only [List.drop]
        go_wp2
        obtain ⟨U, hU, g1, g2, gb⟩ := U.out
        have hg1 : w.heap.size + 1 < w.heap.size + 3 := by omega
        have hg2 : w.heap.size + 1 + 1 < w.heap.size + 3 := by omega
        have P1 := ((((((((O1.out.set hg1 0 (.bool true)).set hg1 1 (.slice t1 H d1)).set hg1 2 (.slice t2 H d2)).set hg1 3 (.slice none 0 0)).set hg2 0 (.bool true)).set hg2 1 (.slice t3 (lK - H) d3)).set hg2 2 (.slice t4 (lV - H) d4)).set hg2 3 (.slice none 0 0)).mono (show w.heap.size ≤ w.heap.size + 3 by omega)
        have P2 := ((((((((O2.out.set hg1 0 (.bool true)).set hg1 1 (.slice t1 H d1)).set hg1 2 (.slice t2 H d2)).set hg1 3 (.slice none 0 0)).set hg2 0 (.bool true)).set hg2 1 (.slice t3 (lK - H) d3)).set hg2 2 (.slice t4 (lV - H) d4)).set hg2 3 (.slice none 0 0)).mono (show w.heap.size ≤ w.heap.size + 3 by omega)
        rw [← hU] at P1 P2
        rw [e1.out] at P1
        rw [e2.out] at P2
        have lw : Hid ((nlow n).leaf = true) := by show _ = _; rw [← e1.out]
        have hw' : Hid ((nhigh n).leaf = true) := by show _ = _; rw [← e2.out]
        rw [← hU]
        refine retNTNT rfl rfl (w.heap.size + 1) (w.heap.size + 1 + 1) rfl rfl _ _ _ _ (0, 0) (0, 0) g1 g2 _ _ Try.underlying25 rfl info_ndR Try.underlying25 rfl info_ndR _ _ rfl rfl ?_
        refine ⟨(.slice t1 H d1), (.slice t2 H d2), (.slice none 0 0), (.slice t3 (lK - H) d3), (.slice t4 (lV - H) d4), (.slice none 0 0), ?_, ?_, ?_, gb⟩
        rotate_left
        · rw [hr.out.2.1]; exact P1
        · rw [hr.out.2.2.1]; exact P2
        · rw [hr.out.1, hr.out.2.1, hr.out.2.2.1, emid.out]
          dsimp only [nv]
          rw [lw.out, hw'.out]
          rfl
    | false =>
      by_cases c1 : (lK : Int) < 3
      · have hr : Hid (nsplit n = 3 ∧ nlow' n = none9 ∧ nhigh' n = none9 ∧ nmid' n = []) := FAIL.out 3 _ (by
          have q0 : nfew n := by unfold nfew; rw [hlK.out, hleaf.out]; right; exact ⟨rfl, by omega⟩
          unfold nsplit; rw [if_pos hzz.out, if_pos q0]) (by decide) (fun h => h)
        by_cases c0 : (lK : Int) < 2
        · have g1 : decide ((lK : Int) < 2) = true := decide_eq_true c0
          have U := hide (set8 (show w.heap.size + 1 ≠ w.heap.size + 1 + 1 by omega) XX.out YY.out (HE.out _ B1.out) (show w.heap.size ≤ w.heap.size + 1 by omega) (show w.heap.size ≤ w.heap.size + 1 + 1 by omega) (.bool false) (.slice none 0 0) (.slice none 0 0) (.slice none 0 0) (.bool false) (.slice none 0 0) (.slice none 0 0) (.slice none 0 0))
          go_wp2
          obtain ⟨U, hU, g1, g2, gb⟩ := U.out
          rw [← hU]
          refine retNTNT rfl rfl (w.heap.size + 1) (w.heap.size + 1 + 1) rfl rfl _ _ _ _ (0, 0) (0, 0) g1 g2 _ _ Try.underlying25 rfl info_ndR Try.underlying25 rfl info_ndR _ _ rfl rfl ?_
          refine ⟨.slice none 0 0, .slice none 0 0, .slice none 0 0, .slice none 0 0, .slice none 0 0, .slice none 0 0, ?_, ?_, ?_, gb⟩
          · rw [hr.out.1, hr.out.2.1, hr.out.2.2.1, hr.out.2.2.2]; rfl
          · rw [hr.out.2.1]; exact OwnN.nil _ _ _
          · rw [hr.out.2.2.1]; exact OwnN.nil _ _ _
        · have g1 : decide ((lK : Int) < 2) = false := decide_eq_false c0
          have g2 : decide ((lK : Int) < 3) = true := decide_eq_true c1
          have U := hide (set8 (show w.heap.size + 1 ≠ w.heap.size + 1 + 1 by omega) XX.out YY.out (HE.out _ B1.out) (show w.heap.size ≤ w.heap.size + 1 by omega) (show w.heap.size ≤ w.heap.size + 1 + 1 by omega) (.bool false) (.slice none 0 0) (.slice none 0 0) (.slice none 0 0) (.bool false) (.slice none 0 0) (.slice none 0 0) (.slice none 0 0))
          go_wp2
          obtain ⟨U, hU, g1, g2, gb⟩ := U.out
          rw [← hU]
          refine retNTNT rfl rfl (w.heap.size + 1) (w.heap.size + 1 + 1) rfl rfl _ _ _ _ (0, 0) (0, 0) g1 g2 _ _ Try.underlying25 rfl info_ndR Try.underlying25 rfl info_ndR _ _ rfl rfl ?_
          refine ⟨.slice none 0 0, .slice none 0 0, .slice none 0 0, .slice none 0 0, .slice none 0 0, .slice none 0 0, ?_, ?_, ?_, gb⟩
          · rw [hr.out.1, hr.out.2.1, hr.out.2.2.1, hr.out.2.2.2]; rfl
          · rw [hr.out.2.1]; exact OwnN.nil _ _ _
          · rw [hr.out.2.2.1]; exact OwnN.nil _ _ _
      · have hr : Hid (nsplit n = 0 ∧ nlow' n = nlow n ∧ nhigh' n = nhigh n ∧ nmid' n = nkey n (n.keys.length / 2)) := by
          have q0 : ¬ nfew n := by unfold nfew; rw [hlK.out, hleaf.out]; simp; omega
          have q : nsplit n = 0 := by unfold nsplit; rw [if_pos hzz.out, if_neg q0]
          show _ ∧ _ ∧ _ ∧ _
          unfold nlow' nhigh' nmid'
          rw [q]
          exact ⟨rfl, rfl, rfl, rfl⟩
        have g1 : decide ((lK : Int) < 2) = false := decide_eq_false (by omega)
        have g2 : decide ((lK : Int) < 3) = false := decide_eq_false (by omega)
        obtain ⟨H, hH⟩ : ∃ H, H = lK / 2 := ⟨_, rfl⟩
        have hH1 : (lK : Int) / 2 = (H : Int) := by omega
        have q2 : (H : Int) < (lK : Int) := by omega
        have q3 : (H : Int) ≤ (lK : Int) := by omega
        have hcn2 := hcn
        rw [if_neg (by decide)] at hcn2
        have capK : lK ≤ c := by have := rdS_cap (HN.out w1 B1.out).keys; rw [hlK.out] at this; exact this
        have capX : lD ≤ c'' := by have := rdS_cap (HN.out w1 B1.out).kids; rw [hlD.out] at this; exact this
        have r4 : H ≤ c := by omega
        obtain ⟨x, hx⟩ := some_el n.keys (k := H) (by rw [hlK.out]; omega)
        have emid : Hid (nmid' n = x) := by show _ = _; rw [hr.out.2.2.2, hlK.out, ← hH]; unfold nkey; rw [hx]; rfl
        obtain ⟨b, off, hka, hc1⟩ := (HN.out w1 B1.out).keys.strAt hx
        subst hka
        obtain ⟨x', hx'⟩ := some_el n.kids (k := 0) (by rw [hlD.out]; omega)
        obtain ⟨b', off', hxa, _⟩ := (HN.out w1 B1.out).kids.intAt hx'
        subst hxa
        clear hx'
        obtain ⟨H1, hH2⟩ : ∃ H1, H1 = H + 1 := ⟨_, rfl⟩
        have hj1 : (H : Int) + 1 = (H1 : Int) := by omega
        have hj3 : IntKind.i64.wrap (H1 : Int) = (H1 : Int) := IntWalk.i64_in _ (by omega)
        have q5 : (H1 : Int) ≤ (lD : Int) := by omega
        have q6 : (H1 : Int) ≤ (lK : Int) := by omega
        have r5 : H1 ≤ c'' := by omega
        have r5' : H1 ≤ c := by omega
        have r6 : ¬ c = H1 := by omega
        have r7 : ¬ c'' = H1 := by omega
        have e1 : Hid ((⟨false, n.keys.take H, [], n.kids.take H1⟩ : Nd) = nlow n) := by show _ = _; unfold nlow; simp only [hlK.out, hleaf.out, ← hH, Bool.false_eq_true, if_false, hH2]
        have e2 : Hid ((⟨false, n.keys.drop H1, [], n.kids.drop H1⟩ : Nd) = nhigh n) := by show _ = _; unfold nhigh; simp only [hlK.out, hleaf.out, ← hH, Bool.false_eq_true, if_false, hH2]
        have z1 : (n.keys.take H).length = H := by rw [List.length_take, hlK.out]; omega
        have z2 : (n.kids.take H1).length = H1 := by rw [List.length_take, hlD.out]; omega
        have z3 : (n.keys.drop H1).length = lK - H1 := by rw [List.length_drop, hlK.out]
        have z4 : (n.kids.drop H1).length = lD - H1 := by rw [List.length_drop, hlD.out]
        have K1 := hide (fun w9 (b9 : Below w1.heap.size w1 w9) => rstr_sl w9 (.slice (some ⟨b, off, none⟩) H c) (n.keys.take H) ((rdS_front (HN.out w1 B1.out).keys (q := H) (by omega)).to0 b9) (by rw [z1]; omega))
        have K2 := hide (fun w9 (b9 : Below w1.heap.size w1 w9) => rint_sl w9 (.slice (some ⟨b', off', none⟩) H1 c'') (n.kids.take H1) ((rdS_front (HN.out w1 B1.out).kids (q := H1) (by omega)).to0 b9) (by rw [z2]; omega))
        have K3 := hide (fun w9 (b9 : Below w1.heap.size w1 w9) => rstr_sl w9 (.slice (some ⟨b, off + H1, none⟩) (lK - H1) (c - H1)) (n.keys.drop H1) ((rdS_back rfl (HN.out w1 B1.out).keys (q := H1) (by omega) r6).to0 b9) (by rw [z3]; omega))
        have K4 := hide (fun w9 (b9 : Below w1.heap.size w1 w9) => rint_sl w9 (.slice (some ⟨b', off' + H1, none⟩) (lD - H1) (c'' - H1)) (n.kids.drop H1) ((rdS_back rfl (HN.out w1 B1.out).kids (q := H1) (by omega) r7).to0 b9) (by rw [z4]; omega))
        rw [z1] at K1
        rw [z2] at K2
        rw [z3] at K3
        rw [z4] at K4
        replace hH2 := hide hH2
        have hbw : b < w.heap.size := by
          obtain ⟨b'', off'', e', hc'⟩ := H0.out.strAt hx
          simp only [Option.some.injEq, Addr.mk.injEq, and_true] at e'
          rw [e'.1]; exact cell_lt hc'
        have HD1 := hide (HD.out w1 B1.out)
        have HS0 : Hid (∀ w9, Below (w.heap.size + 1) w1 w9 → (w9.cell? ⟨w.heap.size, 1, none⟩ = some (.slice (some ⟨b, off, none⟩) lK c) ∧ w9.cell? ⟨w.heap.size, 3, none⟩ = some (.slice (some ⟨b', off', none⟩) lD c'')) ∧ w9.cell? ⟨b, off + H, none⟩ = some (st x)) := fun w9 b9 =>
          ⟨⟨(b9.cell (p := ⟨w.heap.size, 1, none⟩) (by show w.heap.size < w.heap.size + 1; omega)).trans HD1.out.2.1, (b9.cell (p := ⟨w.heap.size, 3, none⟩) (by show w.heap.size < w.heap.size + 1; omega)).trans HD1.out.2.2.2⟩, (b9.cell (p := ⟨b, off + H, none⟩) (by show b < w.heap.size + 1; omega)).trans hc1⟩
        have HS : Hid (∀ w9, Below w1.heap.size w1 w9 → (w9.cell? ⟨w.heap.size, 1, none⟩ = some (.slice (some ⟨b, off, none⟩) lK c) ∧ w9.cell? ⟨w.heap.size, 3, none⟩ = some (.slice (some ⟨b', off', none⟩) lD c'')) ∧ w9.cell? ⟨b, off + H, none⟩ = some (st x)) := fun w9 b9 => HS0.out w9 (b9.mono (by have := B1.out.size; have := SW.out; omega))
        have HS4 : Hid (∀ (w9 : World) (m0 m1 m2 m3 : Value), Below w1.heap.size w1 w9 → (fun w9 => (w9.cell? ⟨w.heap.size, 1, none⟩ = some (.slice (some ⟨b, off, none⟩) lK c) ∧ w9.cell? ⟨w.heap.size, 3, none⟩ = some (.slice (some ⟨b', off', none⟩) lD c'')) ∧ w9.cell? ⟨b, off + H, none⟩ = some (st x)) ((((w9.setCell ⟨w.heap.size + 1, 0, none⟩ m0).setCell ⟨w.heap.size + 1, 1, none⟩ m1).setCell ⟨w.heap.size + 1, 2, none⟩ m2).setCell ⟨w.heap.size + 1, 3, none⟩ m3)) := fun w9 m0 m1 m2 m3 b9 => HS0.out _ (below_set4n (b9.mono (by have := B1.out.size; have := SW.out; omega)) (Nat.le_refl _) m0 m1 m2 m3)
        clear hbw
        have FIN : Hid (∀ (w5 : World), Below w1.heap.size w1 w5 → (∀ x y z v x' y' z' v' : Value, Hid (∃ U, U = (((((((w5.setCell ⟨w.heap.size + 1, 0, none⟩ x).setCell ⟨w.heap.size + 1, 1, none⟩ y).setCell ⟨w.heap.size + 1, 2, none⟩ z).setCell ⟨w.heap.size + 1, 3, none⟩ v).setCell ⟨w.heap.size + 1 + 1, 0, none⟩ x').setCell ⟨w.heap.size + 1 + 1, 1, none⟩ y').setCell ⟨w.heap.size + 1 + 1, 2, none⟩ z').setCell ⟨w.heap.size + 1 + 1, 3, none⟩ v' ∧ U.heap[w.heap.size + 1]? = some (.cells #[x, y, z, v] 25 (0, 0)) ∧ U.heap[w.heap.size + 1 + 1]? = some (.cells #[x', y', z', v'] 25 (0, 0)) ∧ Below w.heap.size w U))) := fun w5 b5 x y z v x' y' z' v' =>
          hide (set8 (show w.heap.size + 1 ≠ w.heap.size + 1 + 1 by omega) (HX.out w5 (B1.out.trans (b5.mono B1.out.size))).1 (HX.out w5 (B1.out.trans (b5.mono B1.out.size))).2 (HE.out w5 (B1.out.trans (b5.mono B1.out.size))) (show w.heap.size ≤ w.heap.size + 1 by omega) (show w.heap.size ≤ w.heap.size + 1 + 1 by omega) x y z v x' y' z' v')
        have CX : Hid (∀ (w5 : World), Below w1.heap.size w1 w5 → (w5.cell? ⟨w.heap.size + 1, 0, none⟩ = some (.bool false) ∧ w5.cell? ⟨w.heap.size + 1, 1, none⟩ = some (.slice none 0 0) ∧ w5.cell? ⟨w.heap.size + 1, 2, none⟩ = some (.slice none 0 0) ∧ w5.cell? ⟨w.heap.size + 1, 3, none⟩ = some (.slice none 0 0)) ∧ ∀ i, w5.frozen? ⟨w.heap.size + 1, i, none⟩ = false) := fun w5 b5 => cells4 (HX.out w5 (B1.out.trans (b5.mono B1.out.size))).1
        have CY : Hid (∀ (w5 : World), Below w1.heap.size w1 w5 → (w5.cell? ⟨w.heap.size + 1 + 1, 0, none⟩ = some (.bool false) ∧ w5.cell? ⟨w.heap.size + 1 + 1, 1, none⟩ = some (.slice none 0 0) ∧ w5.cell? ⟨w.heap.size + 1 + 1, 2, none⟩ = some (.slice none 0 0) ∧ w5.cell? ⟨w.heap.size + 1 + 1, 3, none⟩ = some (.slice none 0 0)) ∧ ∀ i, w5.frozen? ⟨w.heap.size + 1 + 1, i, none⟩ = false) := fun w5 b5 => cells4 (HX.out w5 (B1.out.trans (b5.mono B1.out.size))).2
        have b0 : Below w1.heap.size w1 w1.drew := (Below.refl _ _).drew
        have s1 : Hid (w.heap.size + 3 ≤ w1.heap.size) := by have := B1.out.size; have := SW.out; show _ ≤ _; omega
        replace hx := hide hx
        replace hH := hide hH
        clear x0 x1 x2 x3 y0 y1 y2 y3 xf0 xf1 xf2 xf3 yf0 yf1 yf2 yf3 hcn hcn2 z1 z2 z3 z4
        go_wp2
        clear D0 D1 D2 D3 hc1
        refine wp_region_sched (fun w9 => (w9.cell? ⟨w.heap.size, 1, none⟩ = some (.slice (some ⟨b, off, none⟩) lK c) ∧ w9.cell? ⟨w.heap.size, 3, none⟩ = some (.slice (some ⟨b', off', none⟩) lD c'')) ∧ w9.cell? ⟨b, off + H, none⟩ = some (st x)) [(0, true), (1, true), (2, true), (3, true), (5, true), (6, true), (7, true), (8, true), (9, true), (12, true), (13, true), (14, true), (15, true), (16, true), (17, true), (18, true), (19, true), (20, true), (21, true), (23, true), (24, true), (25, true), (26, true), (27, true), (4, false), (10, false), (11, true), (22, false), (28, false), (29, true), (30, false), (31, false)] 32 mixed (by kernel_rfl) (fun _ _ _ _ h => h) ?_
        iterate 24
          refine sched_take (v := ?_) rfl (by kernel_rfl) (HS.out _ b0) ?_ ?_
          rotate_left
          · rintro w9 ⟨⟨r1, r2⟩, r3⟩
            go_simp
            try with_reducible rfl
          try simp only [Act.put, List.setIfInBounds_toArray, List.set_cons_zero, List.set_cons_succ]
        refine sched_run rfl (by kernel_rfl) fun K hK => ?_
        refine wp_call_of 29 _ _ (by rfl) #[(.slice (some ⟨b, off, none⟩) H c)] (by simp [Act.eval]) (Try.call29 _ _) (K1.out w1.drew b0) ?_
        rintro e w2 ⟨t1, d1, rfl, o1, g1⟩
        have b1 : Below w1.heap.size w1 w2 := b0.trans (g1.mono b0.size)
        refine ⟨_, rfl, hK _ _ (HS.out _ b1) ?_⟩
        clear hK K
        try simp only [Act.put, List.setIfInBounds_toArray, List.set_cons_zero, List.set_cons_succ]
        refine sched_run rfl (by kernel_rfl) fun K hK => ?_
        refine wp_call_of 30 _ _ (by rfl) #[(.slice (some ⟨b', off', none⟩) H1 c'')] (by simp [Act.eval]) (Try.call30 _ _) (K2.out w2 b1) ?_
        rintro e w3 ⟨t2, d2, rfl, o2, g2⟩
        have b2 : Below w1.heap.size w1 w3 := b1.trans (g2.mono b1.size)
        refine ⟨_, rfl, hK _ _ (HS.out _ b2) ?_⟩
        clear hK K
        try simp only [Act.put, List.setIfInBounds_toArray, List.set_cons_zero, List.set_cons_succ]
        iterate 1
          refine sched_take (v := ?_) rfl (by kernel_rfl) (HS.out _ b2) ?_ ?_
          rotate_left
          · rintro w9 ⟨⟨r1, r2⟩, r3⟩
            go_simp
            try with_reducible rfl
          try simp only [Act.put, List.setIfInBounds_toArray, List.set_cons_zero, List.set_cons_succ]
        refine sched_run rfl (by kernel_rfl) fun K hK => ?_
        refine wp_call_of 29 _ _ (by rfl) #[(.slice (some ⟨b, off + H1, none⟩) (lK - H1) (c - H1))] (by simp [Act.eval]) (Try.call29 _ _) (K3.out w3 b2) ?_
        rintro e w4 ⟨t3, d3, rfl, o3, g3⟩
        have b3 : Below w1.heap.size w1 w4 := b2.trans (g3.mono b2.size)
        refine ⟨_, rfl, hK _ _ (HS.out _ b3) ?_⟩
        clear hK K
        try simp only [Act.put, List.setIfInBounds_toArray, List.set_cons_zero, List.set_cons_succ]
        refine sched_run rfl (by kernel_rfl) fun K hK => ?_
        refine wp_call_of 30 _ _ (by rfl) #[(.slice (some ⟨b', off' + H1, none⟩) (lD - H1) (c'' - H1))] (by simp [Act.eval]) (Try.call30 _ _) (K4.out w4 b3) ?_
        rintro e w5 ⟨t4, d4, rfl, o4, g4⟩
        have b4 : Below w1.heap.size w1 w5 := b3.trans (g4.mono b3.size)
        refine ⟨_, rfl, hK _ _ (HS.out _ b4) ?_⟩
        clear hK K
        try simp only [Act.put, List.setIfInBounds_toArray, List.set_cons_zero, List.set_cons_succ]
        iterate 1
          refine sched_take (v := ?_) rfl (by kernel_rfl) (HS.out _ b4) ?_ ?_
          rotate_left
          · rintro w9 ⟨⟨r1, r2⟩, r3⟩
            go_simp
            try with_reducible rfl
          try simp only [Act.put, List.setIfInBounds_toArray, List.set_cons_zero, List.set_cons_succ]
        have x0 := (CX.out w5 b4).1.1
        have x1 := (CX.out w5 b4).1.2.1
        have x2 := (CX.out w5 b4).1.2.2.1
        have x3 := (CX.out w5 b4).1.2.2.2
        have xf0 := (CX.out w5 b4).2 0
        have xf1 := (CX.out w5 b4).2 1
        have xf2 := (CX.out w5 b4).2 2
        have xf3 := (CX.out w5 b4).2 3
        have y0 := (CY.out w5 b4).1.1
        have y1 := (CY.out w5 b4).1.2.1
        have y2 := (CY.out w5 b4).1.2.2.1
        have y3 := (CY.out w5 b4).1.2.2.2
        have yf0 := (CY.out w5 b4).2 0
        have yf1 := (CY.out w5 b4).2 1
        have yf2 := (CY.out w5 b4).2 2
        have yf3 := (CY.out w5 b4).2 3
        have U := (FIN.out w5 b4) (.bool false) (.slice t1 H d1) (.slice none 0 0) (.slice t2 H1 d2) (.bool false) (.slice t3 (lK - H1) d3) (.slice none 0 0) (.slice t4 (lD - H1) d4)
        have O1 : Hid (OwnN (w.heap.size + 3) w5 (.slice t1 H d1) (.slice none 0 0) (.slice t2 H1 d2) ⟨false, n.keys.take H, [], n.kids.take H1⟩) := ⟨rows_mono (rows_to (rows_to (rows_to o1 g2) g3) g4) (by have := s1.out; have := b0.size; omega), World.ownsRow_nil _ _ _ _, rows_mono (rows_to (rows_to o2 g3) g4) (by have := s1.out; have := b1.size; omega)⟩
        have O2 : Hid (OwnN (w.heap.size + 3) w5 (.slice t3 (lK - H1) d3) (.slice none 0 0) (.slice t4 (lD - H1) d4) ⟨false, n.keys.drop H1, [], n.kids.drop H1⟩) := ⟨rows_mono (rows_to o3 g4) (by have := s1.out; have := b2.size; omega), World.ownsRow_nil _ _ _ _, rows_mono o4 (by have := s1.out; have := b3.size; omega)⟩
        refine sched_run rfl (by kernel_rfl) fun K hK => ?_
        have S4 := HS4.out w5 (.bool false) (.slice t1 H d1) (.slice none 0 0) (.slice t2 H1 d2) b4
        go_simp
        refine hK _ _ S4 ?_
        clear hK K
        try simp only [Act.put, List.setIfInBounds_toArray, List.set_cons_zero, List.set_cons_succ]
        refine sched_run rfl (by kernel_rfl) fun K hK => ?_
        go_simp
        refine hK _ _ S4 ?_
        clear hK K
        try simp only [Act.put, List.setIfInBounds_toArray, List.set_cons_zero, List.set_cons_succ]
        clear o1 o2 o3 o4 g1 g2 g3 g4 b1 b2 b3 b4 K1 K2 K3 K4 HS HS0 HS4 S4 FIN CX CY
        show wpList _ _ _ _ _ _
        dsimp only [List.drop]
        go_wp2
        obtain ⟨U, hU, g1, g2, gb⟩ := U.out
        have hg1 : w.heap.size + 1 < w.heap.size + 3 := by omega
        have hg2 : w.heap.size + 1 + 1 < w.heap.size + 3 := by omega
        have P1 := ((((((((O1.out.set hg1 0 (.bool false)).set hg1 1 (.slice t1 H d1)).set hg1 2 (.slice none 0 0)).set hg1 3 (.slice t2 H1 d2)).set hg2 0 (.bool false)).set hg2 1 (.slice t3 (lK - H1) d3)).set hg2 2 (.slice none 0 0)).set hg2 3 (.slice t4 (lD - H1) d4)).mono (show w.heap.size ≤ w.heap.size + 3 by omega)
        have P2 := ((((((((O2.out.set hg1 0 (.bool false)).set hg1 1 (.slice t1 H d1)).set hg1 2 (.slice none 0 0)).set hg1 3 (.slice t2 H1 d2)).set hg2 0 (.bool false)).set hg2 1 (.slice t3 (lK - H1) d3)).set hg2 2 (.slice none 0 0)).set hg2 3 (.slice t4 (lD - H1) d4)).mono (show w.heap.size ≤ w.heap.size + 3 by omega)
        rw [← hU] at P1 P2
        rw [e1.out] at P1
        rw [e2.out] at P2
        have lw : Hid ((nlow n).leaf = false) := by show _ = _; rw [← e1.out]
        have hw' : Hid ((nhigh n).leaf = false) := by show _ = _; rw [← e2.out]
        rw [← hU]
        refine retNTNT rfl rfl (w.heap.size + 1) (w.heap.size + 1 + 1) rfl rfl _ _ _ _ (0, 0) (0, 0) g1 g2 _ _ Try.underlying25 rfl info_ndR Try.underlying25 rfl info_ndR _ _ rfl rfl ?_
        refine ⟨(.slice t1 H d1), (.slice none 0 0), (.slice t2 H1 d2), (.slice t3 (lK - H1) d3), (.slice none 0 0), (.slice t4 (lD - H1) d4), ?_, ?_, ?_, gb⟩
        rotate_left
        · rw [hr.out.2.1]; exact P1
        · rw [hr.out.2.2.1]; exact P2
        · rw [hr.out.1, hr.out.2.1, hr.out.2.2.1, emid.out]
          dsimp only [nv]
          rw [lw.out, hw'.out]
          rfl
  · have hr : Hid (nsplit n = ncheck n ∧ nlow' n = none9 ∧ nhigh' n = none9 ∧ nmid' n = []) := FAIL.out (ncheck n) _ (if_neg hz) hz (fun h => h)
    obtain ⟨Z, hZ⟩ : ∃ Z, Z = ncheck n := ⟨_, rfl⟩
    rw [← hZ] at hz hr ⊢
    replace hZ := hide hZ
    have U := hide (set8 (show w.heap.size + 1 ≠ w.heap.size + 1 + 1 by omega) XX.out YY.out (HE.out _ B1.out) (show w.heap.size ≤ w.heap.size + 1 by omega) (show w.heap.size ≤ w.heap.size + 1 + 1 by omega) (.bool false) (.slice none 0 0) (.slice none 0 0) (.slice none 0 0) (.bool false) (.slice none 0 0) (.slice none 0 0) (.slice none 0 0))
    go_wp2
    obtain ⟨U, hU, g1, g2, gb⟩ := U.out
    rw [← hU]
    refine retNTNT rfl rfl (w.heap.size + 1) (w.heap.size + 1 + 1) rfl rfl _ _ _ _ (0, 0) (0, 0) g1 g2 _ _ Try.underlying25 rfl info_ndR Try.underlying25 rfl info_ndR _ _ rfl rfl ?_
    refine ⟨.slice none 0 0, .slice none 0 0, .slice none 0 0, .slice none 0 0, .slice none 0 0, .slice none 0 0, ?_, ?_, ?_, gb⟩
    · rw [hr.out.1, hr.out.2.1, hr.out.2.2.1, hr.out.2.2.2]; rfl
    · rw [hr.out.2.1]; exact OwnN.nil _ _ _
    · rw [hr.out.2.2.1]; exact OwnN.nil _ _ _
end Go.Proofs.Ytjkpldmmijfebaa
