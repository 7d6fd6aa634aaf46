/-
  The page's Check, Newer and Turn of votes.
-/
import Derived.Deep.CutRange
import Derived.Test.YtccklmhagabkaaaVtMath
namespace Go.Proofs.Ytccklmhagabkaaa
open Go.RowKit
set_option linter.unusedVariables false
set_option linter.unusedSimpArgs false

set_option maxRecDepth 100000 in
set_option maxHeartbeats 4000000 in
theorem vrcheck_any (w : World) (s : Vs) : Calls Try.prog 13 #[sv16 s] w fun e w' => e = .returned (.int .i64 (vcheck s)) ∧ Below w.heap.size w w' := by
  obtain ⟨term, has, who⟩ := s
  obtain ⟨C, hC⟩ : ∃ C : Vs, C = ⟨term, has, who⟩ := ⟨_, rfl⟩
  dsimp only [sv16]
  rw [← hC]
  obtain ⟨W, hW, D, bW, sW⟩ := boxedN w #[.int .i64 term, .bool has, .int .i64 who] 23
  obtain ⟨⟨D0, D1, D2⟩, _⟩ := cells3v D
  have HB := hide bW
  have NO : Hid ((term < 0 ∨ 1099511627776 < term ∨ who < 0 ∨ 9 ≤ who ∨ (has = false ∧ who ≠ 0)) → vcheck C = 9) := fun q => vcheck_no fun k => by
    rw [hC] at k
    obtain ⟨a1, a2, a3, a4, a5⟩ := k
    dsimp only at a1 a2 a3 a4 a5
    rcases q with q | q | q | q | q
    · omega
    · omega
    · omega
    · omega
    · exact q.2 (a5 q.1)
  have YES : Hid (¬ (term < 0 ∨ 1099511627776 < term ∨ who < 0 ∨ 9 ≤ who ∨ (has = false ∧ who ≠ 0)) → vcheck C = 0) := fun q => vcheck_ok (by
    rw [hC]
    refine ⟨by dsimp only; omega, by dsimp only; omega, by dsimp only; omega, by dsimp only; omega, fun z => ?_⟩
    by_cases y : who = 0
    · exact y
    · exact absurd (.inr (.inr (.inr (.inr ⟨z, y⟩)))) q)
  clear hC bW D sW
  rw [hW] at D0 D1 D2
  go_enter Try.func13, Try.ntmps13
  by_cases g1 : term < 0
  · have hE := hide (NO.out (.inl g1))
    go_wp2
    go_ret
    exact ⟨ret_int hE.out.symm, by rw [← hW]; exact HB.out⟩
  by_cases g2 : (1099511627776 : Int) < term
  · have hE := hide (NO.out (.inr (.inl g2)))
    go_wp2
    go_ret
    exact ⟨ret_int hE.out.symm, by rw [← hW]; exact HB.out⟩
  by_cases g3 : who < 0
  · have hE := hide (NO.out (.inr (.inr (.inl g3))))
    go_wp2
    go_ret
    exact ⟨ret_int hE.out.symm, by rw [← hW]; exact HB.out⟩
  by_cases g4 : (9 : Int) ≤ who
  · have hE := hide (NO.out (.inr (.inr (.inr (.inl g4)))))
    go_wp2
    go_ret
    exact ⟨ret_int hE.out.symm, by rw [← hW]; exact HB.out⟩
  have g4' : decide ((9 : Int) ≤ who) = false := decide_eq_false g4
  cases has with
  | true =>
    have hE := hide (YES.out (by rintro (q | q | q | q | q); exact g1 q; exact g2 q; exact g3 q; exact g4 q; exact absurd q.1 (by decide)))
    go_wp2
    go_ret
    exact ⟨ret_int hE.out.symm, by rw [← hW]; exact HB.out⟩
  | false =>
    by_cases g5 : who = 0
    · subst g5
      have hE := hide (YES.out (by rintro (q | q | q | q | q); exact g1 q; exact g2 q; exact g3 q; exact g4 q; exact q.2 rfl))
      go_wp2
      go_ret
      exact ⟨ret_int hE.out.symm, by rw [← hW]; exact HB.out⟩
    · have hE := hide (NO.out (.inr (.inr (.inr (.inr ⟨rfl, g5⟩)))))
      have g5' : (who != 0) = true := by simpa using g5
      replace g5 := hide g5
      go_wp2
      go_ret
      exact ⟨ret_int hE.out.symm, by rw [← hW]; exact HB.out⟩
set_option maxRecDepth 100000 in
theorem vrnewer_any (w : World) (l lt o ot : Int) : Calls Try.prog 15 #[.int .i64 l, .int .i64 lt, .int .i64 o, .int .i64 ot] w fun e w' => e = .returned (.bool (vnewer l lt o ot)) ∧ w = w' := by
  go_enter Try.func15, Try.ntmps15
  by_cases g1 : ot < lt
  · have hE : Hid (vnewer l lt o ot = true) := decide_eq_true (.inl g1)
    go_wp2
    go_ret
    exact ⟨ret_bool hE.out.symm, rfl⟩
  by_cases g2 : lt = ot
  · by_cases g3 : o ≤ l
    · have hE : Hid (vnewer l lt o ot = true) := decide_eq_true (.inr ⟨g2, g3⟩)
      have g1' : decide (ot < lt) = false := decide_eq_false g1
      have g3' : decide (o ≤ l) = true := decide_eq_true g3
      have g2' : (lt == ot) = true := by simpa using g2
      replace g2 := hide g2
      go_wp2
      go_ret
      exact ⟨ret_bool hE.out.symm, rfl⟩
    · have hE : Hid (vnewer l lt o ot = false) := decide_eq_false (by rintro (q | q); exact g1 q; exact g3 q.2)
      have g1' : decide (ot < lt) = false := decide_eq_false g1
      have g3' : decide (o ≤ l) = false := decide_eq_false g3
      have g2' : (lt == ot) = true := by simpa using g2
      replace g2 := hide g2
      go_wp2
      go_ret
      exact ⟨ret_bool hE.out.symm, rfl⟩
  · have hE : Hid (vnewer l lt o ot = false) := decide_eq_false (by rintro (q | q); exact g1 q; exact g2 q.1)
    have g1' : decide (ot < lt) = false := decide_eq_false g1
    have g2' : (lt == ot) = false := by simpa using g2
    replace g2 := hide g2
    go_wp2
    go_ret
    exact ⟨ret_bool hE.out.symm, rfl⟩
theorem info_vs16 : (Try.prog.info? 23).map (·.size) = some 3 := by kernel_rfl
set_option maxRecDepth 100000 in
set_option maxHeartbeats 4000000 in
theorem vrturn_any (w : World) (s : Vs) (t : Int) : Calls Try.prog 10 #[sv16 s, .int .i64 t] w fun e w' => e = .returned (.tuple #[sv16 (vturn s t).1, .bool (vturn s t).2.1, .int .i64 (vturn s t).2.2]) ∧ Below w.heap.size w w' := by
  obtain ⟨W0, hW0, D, bW0, sW0⟩ := boxedN w #[.int .i64 s.term, .bool s.has, .int .i64 s.who] 23
  obtain ⟨W, hW, DZ, bW1, sW1⟩ := boxedN W0 #[.int .i64 0, .bool false, .int .i64 0] 23
  rw [sW0] at DZ
  have bW := bW0.trans (bW1.mono bW0.size)
  replace D := (bW1.block _ (lt_of_block D)).trans D
  have HS := hide (fun U (b : Below W.heap.size W U) => (b.block _ (lt_of_block D)).trans D)
  have HZ := hide (fun U (b : Below W.heap.size W U) => (b.block _ (lt_of_block DZ)).trans DZ)
  have HE := hide (fun U (b : Below W.heap.size W U) => bW.trans (b.mono bW.size))
  have KC := hide (vrcheck_any W s)
  obtain ⟨RR, hRR⟩ : ∃ R, R = vturn s t := ⟨_, rfl⟩
  rw [← hRR]
  have RN : Hid (¬ VOk s → RR = (vnil, false, 9)) := fun k => hRR.trans (if_neg k)
  have R4 : Hid (VOk s → (t < 0 ∨ 1099511627776 < t) → RR = (vnil, false, 4)) := fun k q => hRR.trans ((if_pos k).trans (if_pos q))
  have R1 : Hid (VOk s → ¬ (t < 0 ∨ 1099511627776 < t) → s.term < t → RR = (⟨t, false, 0⟩, true, 0)) := fun k q r => hRR.trans ((if_pos k).trans ((if_neg q).trans (if_pos r)))
  have R0 : Hid (VOk s → ¬ (t < 0 ∨ 1099511627776 < t) → ¬ s.term < t → RR = (s, false, 0)) := fun k q r => hRR.trans ((if_pos k).trans ((if_neg q).trans (if_neg r)))
  have hWW : Hid (W = (w.alloc (.cells #[.int .i64 s.term, .bool s.has, .int .i64 s.who] 23)).alloc (.cells #[.int .i64 0, .bool false, .int .i64 0] 23)) := by rw [hW0] at hW; exact hW
  clear hRR bW D bW0 bW1 sW0 DZ sW1 hW hW0
  obtain ⟨⟨D0, D1, D2⟩, _⟩ := cells3v (HS.out W (Below.refl _ _))
  rw [hWW.out] at D0 D1 D2 KC
  go_enter Try.func10, Try.ntmps10
  go_wp2_with fail
  refine KC.out.mono ?_
  rintro e w1 ⟨rfl, b1⟩
  rw [← hWW.out] at b1
  clear KC hWW D0 D1 D2
  have FZ := hide (fun x y z => heap_set3v (HZ.out w1 b1) x y z)
  have FB := hide (fun x y z => below_set3v (HE.out w1 b1) (show w.heap.size ≤ w.heap.size + 1 by omega) x y z)
  obtain ⟨⟨D0, D1, D2⟩, _⟩ := cells3v (HS.out w1 b1)
  obtain ⟨⟨Z0, Z1, Z2⟩, Zf⟩ := cells3v (HZ.out w1 b1)
  have Zf0 := Zf 0
  have Zf1 := Zf 1
  have Zf2 := Zf 2
  clear Zf b1
  obtain ⟨ck, hck⟩ : ∃ c, c = vcheck s := ⟨_, rfl⟩
  rw [← hck]
  by_cases ok : VOk s
  case neg =>
    have hr := hide (RN.out ok)
    rw [vcheck_no ok] at hck
    subst hck
    go_wp2
    refine retNTT rfl rfl (w.heap.size + 1) rfl _ _ (0, 0) (FZ.out _ _ _) _ Try.underlying23 rfl info_vs16 (.bool false) rfl (.int .i64 9) rfl ?_
    rw [hr.out]
    exact ⟨rfl, FB.out _ _ _⟩
  case pos =>
    rw [vcheck_ok ok] at hck
    subst hck
    replace R4 := hide (R4.out ok)
    replace R1 := hide (R1.out ok)
    replace R0 := hide (R0.out ok)
    clear RN ok
    obtain ⟨term, has, who⟩ := s
    dsimp only at R1 R0 D0 D1 D2
    by_cases g1 : t < 0
    · have hr := hide (R4.out (.inl g1))
      go_wp2
      refine retNTT rfl rfl (w.heap.size + 1) rfl _ _ (0, 0) (FZ.out _ _ _) _ Try.underlying23 rfl info_vs16 (.bool false) rfl (.int .i64 4) rfl ?_
      rw [hr.out]
      exact ⟨rfl, FB.out _ _ _⟩
    by_cases g2 : (1099511627776 : Int) < t
    · have hr := hide (R4.out (.inr g2))
      go_wp2
      refine retNTT rfl rfl (w.heap.size + 1) rfl _ _ (0, 0) (FZ.out _ _ _) _ Try.underlying23 rfl info_vs16 (.bool false) rfl (.int .i64 4) rfl ?_
      rw [hr.out]
      exact ⟨rfl, FB.out _ _ _⟩
    by_cases g3 : term < t
    · have hr := hide (R1.out (by omega) g3)
      go_wp2
      refine retNTT rfl rfl (w.heap.size + 1) rfl _ _ (0, 0) (FZ.out _ _ _) _ Try.underlying23 rfl info_vs16 (.bool true) rfl (.int .i64 0) rfl ?_
      rw [hr.out]
      exact ⟨rfl, FB.out _ _ _⟩
    · have hr := hide (R0.out (by omega) (by omega))
      go_wp2
      refine retNTT rfl rfl (w.heap.size + 1) rfl _ _ (0, 0) (FZ.out _ _ _) _ Try.underlying23 rfl info_vs16 (.bool false) rfl (.int .i64 0) rfl ?_
      rw [hr.out]
      exact ⟨rfl, FB.out _ _ _⟩
end Go.Proofs.Ytccklmhagabkaaa
