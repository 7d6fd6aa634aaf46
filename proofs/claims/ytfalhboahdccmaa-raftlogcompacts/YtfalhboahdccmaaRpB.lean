/-
  The program's refusal: why an entry may not be the next one.
-/
import Derived.Test.YtfalhboahdccmaaRpA
import Derived.Test.YtfalhboahdccmaaRlE
namespace Go.Proofs.Ytfalhboahdccmaa
open Go.RowKit
set_option linter.unusedVariables false
set_option linter.unusedSimpArgs false

theorem lref_t {t : Lg} {y : Wrt} (h : y.1 < max (lterm t (lend t)) 1 ∨ 1099511627776 < y.1) : lref t y = 151 := if_pos h
theorem lref_l {t : Lg} {y : Wrt} (h : ¬ (y.1 < max (lterm t (lend t)) 1 ∨ 1099511627776 < y.1)) (h2 : 4096 < y.2.length) : lref t y = 5 := (if_neg h).trans (if_pos h2)
theorem lref_f {t : Lg} {y : Wrt} (h : ¬ (y.1 < max (lterm t (lend t)) 1 ∨ 1099511627776 < y.1)) (h2 : ¬ 4096 < y.2.length) (h3 : 4096 ≤ t.es.length ∨ 1099511627776 ≤ lend t) : lref t y = 51 := (if_neg h).trans ((if_neg h2).trans (if_pos h3))
theorem lref_y {t : Lg} {y : Wrt} (h : ¬ (y.1 < max (lterm t (lend t)) 1 ∨ 1099511627776 < y.1)) (h2 : ¬ 4096 < y.2.length) (h3 : ¬ (4096 ≤ t.es.length ∨ 1099511627776 ≤ lend t)) : lref t y = 0 := (if_neg h).trans ((if_neg h2).trans (if_neg h3))
set_option maxRecDepth 100000 in
set_option maxHeartbeats 8000000 in
theorem pref15_any (w : World) (l : Lg) (v : Value) (y : Wrt) (dv : Value) (h : RdC w v l.es) (lb : LB l) (hd : Rd w dv y.2) : Calls Try.prog 42 #[lv l v, ev y dv] w fun e w' => e = .returned (.int .i64 (lref l y)) ∧ Below w.heap.size w w' := by
  obtain ⟨W0, hW0, D, bW0, sW0⟩ := boxedN w #[.int .i64 l.base, .int .i64 l.bt, v] 28
  obtain ⟨W, hW, DE, bW1, sW1⟩ := boxedN W0 #[.int .i64 y.1, dv] 27
  have bW := bW0.trans (bW1.mono bW0.size)
  replace D := (bW1.block w.heap.size (lt_of_block D)).trans D
  rw [sW0] at DE
  have HR : Hid (∀ U, Below W.heap.size W U → RdC U v l.es) := fun U b => (h.to0 bW).to0 b
  have KE := hide (plast15_any W l v (HR.out W (Below.refl _ _)) lb)
  have KT : Hid (∀ U, Below W.heap.size W U → Calls Try.prog 31 #[lv l v, .int .i64 (lend l)] U fun e w' => e = .returned (.int .i64 (lterm l (lend l))) ∧ Below U.heap.size U w') := fun U b => ptermof15_any U l v _ (HR.out U b) lb ⟨by unfold lend; omega, Int.le_refl _⟩
  have R1 : Hid ((y.1 < max (lterm l (lend l)) 1 ∨ 1099511627776 < y.1) → lref l y = 151) := lref_t
  have R2 : Hid (¬ (y.1 < max (lterm l (lend l)) 1 ∨ 1099511627776 < y.1) → 4096 < y.2.length → lref l y = 5) := lref_l
  have R3 : Hid (¬ (y.1 < max (lterm l (lend l)) 1 ∨ 1099511627776 < y.1) → ¬ 4096 < y.2.length → (4096 ≤ l.es.length ∨ 1099511627776 ≤ lend l) → lref l y = 51) := lref_f
  have R4 : Hid (¬ (y.1 < max (lterm l (lend l)) 1 ∨ 1099511627776 < y.1) → ¬ 4096 < y.2.length → ¬ (4096 ≤ l.es.length ∨ 1099511627776 ≤ lend l) → lref l y = 0) := lref_y
  have hEb : 0 ≤ lend l ∧ lend l ≤ 200000000000000 := by have := lb.b; have := lb.n; unfold lend; omega
  have nb := lb.n
  generalize lref l y = R at *
  obtain ⟨a, cp, rfl⟩ := h.slice
  have lx : y.2.length ≤ 9223372036854775807 := by
    obtain ⟨_, _, _, q1, q2, _⟩ := hd
    exact Nat.le_trans q1 q2
  obtain ⟨da, dc, rfl⟩ := hd.slice
  obtain ⟨⟨D0, D1, D2⟩, _⟩ := cells3l D
  obtain ⟨⟨E0, E1⟩, _⟩ := cells2l DE
  clear h hd HR lb sW1 D DE bW0 bW1
  dsimp only [lv] at KE KT ⊢
  dsimp only [ev]
  generalize lterm l (lend l) = T at *
  generalize lend l = E at *
  obtain ⟨base, bt, es⟩ := l
  obtain ⟨t, x⟩ := y
  dsimp only at R1 R2 R3 R4 KE KT D0 D1 D2 E0 E1 hW0 hW nb lx ⊢
  generalize es.length = n at *
  generalize x.length = m at *
  have HS : Hid (∀ U, Below W.heap.size W U → ((U.cell? ⟨w.heap.size, 0, none⟩ = some (.int .i64 base) ∧ U.cell? ⟨w.heap.size, 1, none⟩ = some (.int .i64 bt) ∧ U.cell? ⟨w.heap.size, 2, none⟩ = some (.slice a n cp)) ∧
      (U.cell? ⟨w.heap.size + 1, 0, none⟩ = some (.int .i64 t) ∧ U.cell? ⟨w.heap.size + 1, 1, none⟩ = some (.slice da m dc)))) := fun U b =>
    ⟨⟨(b.cell (cell_lt D0)).trans D0, (b.cell (cell_lt D1)).trans D1, (b.cell (cell_lt D2)).trans D2⟩, (b.cell (cell_lt E0)).trans E0, (b.cell (cell_lt E1)).trans E1⟩
  have HW : Hid (∀ U, Below W.heap.size W U → Below w.heap.size w U) := fun U b => bW.trans (b.mono bW.size)
  have hWW : Hid (W = (w.alloc (.cells #[.int .i64 base, .int .i64 bt, .slice a n cp] 28)).alloc (.cells #[.int .i64 t, .slice da m dc] 27)) := by rw [hW0] at hW; exact hW
  clear bW hW hW0 sW0 
  rw [hWW.out] at D0 D1 D2 E0 E1 KE
  go_enter Try.func42, Try.ntmps42
  go_wp2_with fail
  refine KE.out.mono ?_
  rintro e w1 ⟨rfl, b1⟩
  rw [← hWW.out] at b1
  have B1 := hide b1
  clear b1 KE hWW D0 D1 D2 E0 E1
  go_upto_region 2 with fail
  obtain ⟨bn, hbn⟩ : ∃ b, b = decide (t < max T 1 ∨ 1099511627776 < t) := ⟨_, rfl⟩
  go_cut [8] from 9 to 20 (fun b wx => b = .bool bn ∧ Hid (Below W.heap.size W wx))
  case first =>
    have b0 := B1.out.drew
    refine wp_region_mid (fun w9 => (w9.cell? ⟨w.heap.size, 0, none⟩ = some (.int .i64 base) ∧ w9.cell? ⟨w.heap.size, 1, none⟩ = some (.int .i64 bt) ∧ w9.cell? ⟨w.heap.size, 2, none⟩ = some (.slice a n cp)) ∧
      (w9.cell? ⟨w.heap.size + 1, 0, none⟩ = some (.int .i64 t) ∧ w9.cell? ⟨w.heap.size + 1, 1, none⟩ = some (.slice da m dc))) 4 6 mixed (by kernel_rfl) (fun _ _ _ _ h => h) (HS.out _ b0) ?_
    dsimp only [List.take, List.drop]
    iterate 4
      refine take_one (v := ?_) (by rfl) ?_ ?_
      rotate_left
      · rintro w9 ⟨⟨s0, s1, s2⟩, s3, s4⟩
        go_simp
        try with_reducible rfl
      try simp only [Act.put, List.setIfInBounds_toArray, List.set_cons_zero, List.set_cons_succ]
    refine mid_one fun K hK => ?_
    refine step_call (by rfl) 31 _ _ (by rfl) #[.agg #[.int .i64 base, .int .i64 bt, .slice a n cp], .int .i64 E] (by simp [Act.eval]) (Try.call31 _ _) (KT.out _ b0) ?_
    rintro e w2 ⟨rfl, b2⟩
    have B2 := hide (b0.trans (b2.mono b0.size))
    clear b2
    refine ⟨_, rfl, hK _ _ (HS.out _ B2.out) ?_⟩
    clear hK K
    try simp only [Act.put, List.setIfInBounds_toArray, List.set_cons_zero, List.set_cons_succ]
    refine mid_one fun K hK => ?_
    rw [if_pos (by rfl)]
    go_simp
    obtain ⟨M, hM⟩ : ∃ M, M = max T 1 := ⟨_, rfl⟩
    have hM2 : (if T < 1 then (1 : Int) else T) = M := by rw [hM]; split <;> omega
    rw [hM2]
    rw [← hM] at hbn
    refine hK _ _ (HS.out _ B2.out) ?_
    clear hK K hM hM2
    try simp only [Act.put, List.setIfInBounds_toArray, List.set_cons_zero, List.set_cons_succ]
    show wpList _ _ _ _ _ _
    obtain ⟨⟨D0, D1, D2⟩, E0, E1⟩ := HS.out w2 B2.out
    by_cases g1 : t < M
    · have hd : Hid (bn = true) := hbn.trans (decide_eq_true (.inl g1))
      clear hbn
      go_wp2_with fail
      go_meet
      exact ⟨by rw [hd.out], B2⟩
    · by_cases g2 : 1099511627776 < t
      · have hd : Hid (bn = true) := hbn.trans (decide_eq_true (.inr g2))
        clear hbn
        go_wp2_with fail
        go_meet
        exact ⟨by rw [hd.out], B2⟩
      · have hd : Hid (bn = false) := hbn.trans (decide_eq_false (by omega))
        clear hbn
        go_wp2_with fail
        go_meet
        exact ⟨by rw [hd.out], B2⟩
  case rest =>
  obtain ⟨rfl, B2⟩ := hcut
  obtain ⟨⟨D0, D1, D2⟩, E0, E1⟩ := HS.out _ B2.out
  replace hbn := hide hbn
  cases bn with
  | true =>
    have hE := hide (R1.out (of_decide_eq_true hbn.out.symm))
    go_wp2
    go_ret
    exact ⟨ret_int hE.out.symm, HW.out _ B2.out⟩
  | false =>
    have hf := of_decide_eq_false hbn.out.symm
    by_cases g3 : (4096 : Int) < (m : Int)
    · have hE := hide (R2.out hf (by omega))
      clear hf hbn
      go_wp2
      go_ret
      exact ⟨ret_int hE.out.symm, HW.out _ B2.out⟩
    by_cases g4 : (4096 : Int) ≤ (n : Int)
    · have hE := hide (R3.out hf (by omega) (by omega))
      clear hf hbn
      go_wp2
      go_ret
      exact ⟨ret_int hE.out.symm, HW.out _ B2.out⟩
    by_cases g5 : 1099511627776 ≤ E
    · have hE := hide (R3.out hf (by omega) (by omega))
      clear hf hbn
      go_wp2
      go_ret
      exact ⟨ret_int hE.out.symm, HW.out _ B2.out⟩
    have hE := hide (R4.out hf (by omega) (by omega))
    clear hf hbn
    go_wp2
    go_ret
    exact ⟨ret_int hE.out.symm, HW.out _ B2.out⟩
end Go.Proofs.Ytfalhboahdccmaa
