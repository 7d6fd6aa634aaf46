/-
  What the program's calls say of votes; the law's num.
-/
import Derived.Deep.CutRange
import Derived.Test.YtccklmhagabkaaaVtMath
namespace Go.Proofs.Ytccklmhagabkaaa
open Go.RowKit
set_option linter.unusedVariables false
set_option linter.unusedSimpArgs false

structure VsFit (s : Vs) : Prop where
  t : -9223372036854775808 ≤ s.term ∧ s.term ≤ 9223372036854775807
  w : -9223372036854775808 ≤ s.who ∧ s.who ≤ 9223372036854775807
def J64 (z : Int) : Prop := -9223372036854775808 ≤ z ∧ z ≤ 9223372036854775807
structure VqFit (a : Vq) : Prop where
  t : J64 a.term
  f : J64 a.from_
  l : J64 a.last
  u : J64 a.lterm
/-- what the program's calls say (proved apart) -/
structure VoteSay : Prop where
  chk : ∀ (w : World) (s : Vs), VsFit s → Calls Try.prog 12 #[sv16 s] w fun e w' => e = .returned (.int .i64 (vcheck s)) ∧ Below w.heap.size w w'
  newer : ∀ (w : World) (l lt o ot : Int), J64 l → J64 lt → J64 o → J64 ot → Calls Try.prog 14 #[.int .i64 l, .int .i64 lt, .int .i64 o, .int .i64 ot] w fun e w' => e = .returned (.bool (vnewer l lt o ot)) ∧ Below w.heap.size w w'
  turn : ∀ (w : World) (s : Vs) (t : Int), VsFit s → J64 t → Calls Try.prog 9 #[sv16 s, .int .i64 t] w fun e w' => e = .returned (.tuple #[sv16 (vturn s t).1, .bool (vturn s t).2.1, .int .i64 (vturn s t).2.2]) ∧ Below w.heap.size w w'
  dec : ∀ (w : World) (s : Vs) (own ot : Int) (a : Vq), VsFit s → J64 own → J64 ot → VqFit a → Calls Try.prog 7 #[sv16 s, .int .i64 own, .int .i64 ot, av16 a] w fun e w' => e = .returned (.tuple #[sv16 (vdec s own ot a).1, .bool (vdec s own ot a).2.1, .int .i64 (vdec s own ot a).2.2]) ∧ Below w.heap.size w w'
set_option maxRecDepth 100000 in
theorem num16_any (w : World) (x : Int) : Calls Try.prog 11 #[.int .i64 x] w fun e w' => e = .returned (.int .i64 x) ∧ w = w' := by
  go_enter Try.func11, Try.ntmps11
  go_wp2
  go_ret
  exact ⟨rfl, rfl⟩
set_option maxRecDepth 100000 in
set_option maxHeartbeats 4000000 in
theorem vtalive_any (S : VoteSay) (w : World) : Calls Try.prog 16 #[] w fun e w' => e = .returned (.bool true) ∧ Below w.heap.size w w' := by
  have R1 : vdec ⟨3, false, 0⟩ 5 2 ⟨3, 1, 5, 2⟩ = (⟨3, true, 1⟩, true, 0) := by simp [vdec, VOk, vask, vno, vto, vnewer]
  have R2 : vdec ⟨3, true, 1⟩ 5 2 ⟨3, 2, 9, 3⟩ = (⟨3, true, 1⟩, false, 0) := by simp [vdec, VOk, vask, vno, vto, vnewer]
  have R3 : vdec ⟨3, true, 1⟩ 5 2 ⟨4, 2, 9, 3⟩ = (⟨4, true, 2⟩, true, 0) := by simp [vdec, VOk, vask, vno, vto, vnewer]
  have F : VqFit ⟨3, 1, 5, 2⟩ ∧ VqFit ⟨3, 2, 9, 3⟩ ∧ VqFit ⟨4, 2, 9, 3⟩ := ⟨⟨by unfold J64; decide, by unfold J64; decide, by unfold J64; decide, by unfold J64; decide⟩, ⟨by unfold J64; decide, by unfold J64; decide, by unfold J64; decide, by unfold J64; decide⟩, ⟨by unfold J64; decide, by unfold J64; decide, by unfold J64; decide, by unfold J64; decide⟩⟩
  have G : VsFit ⟨3, false, 0⟩ ∧ VsFit ⟨3, true, 1⟩ := ⟨⟨by decide, by decide⟩, ⟨by decide, by decide⟩⟩
  have K1 := S.dec w ⟨3, false, 0⟩ 5 2 ⟨3, 1, 5, 2⟩ G.1 (by unfold J64; decide) (by unfold J64; decide) F.1
  have K2 := fun w => S.dec w ⟨3, true, 1⟩ 5 2 ⟨3, 2, 9, 3⟩ G.2 (by unfold J64; decide) (by unfold J64; decide) F.2.1
  have K3 := fun w => S.dec w ⟨3, true, 1⟩ 5 2 ⟨4, 2, 9, 3⟩ G.2 (by unfold J64; decide) (by unfold J64; decide) F.2.2
  rw [R1] at K1
  simp only [R2] at K2
  simp only [R3] at K3
  dsimp only [sv16, av16] at K1 K2 K3
  replace K1 := hide K1
  replace K2 := hide K2
  replace K3 := hide K3
  clear R1 R2 R3 F G S
  have N := hide num16_any
  go_enter Try.func16, Try.ntmps16
  go_wp2_with fail
  refine K1.out.mono ?_
  rintro e w1 ⟨rfl, b1⟩
  clear K1
  obtain ⟨V, hV, DT, bV, sV⟩ := boxedN w1 #[.int .i64 3, .bool true, .int .i64 1] 26
  obtain ⟨⟨T0, T1, T2⟩, Tf⟩ := cells3v DT
  have Tf0 := Tf 0
  have Tf1 := Tf 1
  have Tf2 := Tf 2
  clear Tf
  have hB := hide (b1.trans (bV.mono b1.size))
  have hD := hide DT
  have h1 := hide b1.size
  have hVV := hide hV
  rw [hV] at T0 T1 T2 Tf0 Tf1 Tf2
  clear hV bV sV DT b1
  go_wp2_with fail
  rw [← hVV.out]
  refine (K2.out V).mono ?_
  rintro e w2 ⟨rfl, b2⟩
  clear T0 T1 T2 Tf0 Tf1 Tf2 K2
  have D2 := (b2.block _ (lt_of_block hD.out)).trans hD.out
  have c2 := hide (hB.out.trans (b2.mono hB.out.size))
  have D3 := hide (heap_set3v D2 (.int .i64 3) (.bool true) (.int .i64 1))
  have c3 := hide (below_set3v c2.out h1.out (.int .i64 3) (.bool true) (.int .i64 1))
  obtain ⟨⟨T0, T1, T2⟩, Tf⟩ := cells3v D2
  have Tf0 := Tf 0
  have Tf1 := Tf 1
  have Tf2 := Tf 2
  clear Tf D2 b2
  go_wp2_with fail
  refine (K3.out _).mono ?_
  rintro e w3 ⟨rfl, b3⟩
  have c4 := hide (c3.out.trans (b3.mono c3.out.size))
  clear T0 T1 T2 Tf0 Tf1 Tf2 K3 b3
  go_wp2_with fail
  obtain ⟨X, hX, _, bX, _⟩ := boxedN w3 #[.int .i64 4, .bool true, .int .i64 2] 26
  have c5 := c4.out.trans (bX.mono c4.out.size)
  rw [hX] at c5
  replace c5 := hide c5
  clear hX bX
  refine (N.out _ _).mono ?_
  rintro e w4 ⟨rfl, rfl⟩
  go_wp2_with fail
  refine (N.out _ _).mono ?_
  rintro e w4 ⟨rfl, rfl⟩
  go_wp2_with fail
  refine (N.out _ _).mono ?_
  rintro e w4 ⟨rfl, rfl⟩
  go_wp2
  go_ret
  exact ⟨rfl, c5.out⟩
end Go.Proofs.Ytccklmhagabkaaa
