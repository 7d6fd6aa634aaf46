/-
  PROVED: whatever block and octets come in, transeptlaw06.SuperTells returns true and leaves them as they were: the statement of P6.1 and P6.2 (any block as octets, any octets read as one, and which of two is picked, are as the page says).
-/
import Derived.Deep.CutRange
import Derived.Test.YtpebgepjohlklaaSAlive
import Derived.Test.YtpebgepjohlklaaSPick
import Derived.Test.YtpebgepjohlklaaSame
import Derived.Test.YtpebgepjohlklaaRSched
import Derived.Test.YtpebgepjohlklaaStep
import Derived.Test.YtpebgepjohlklaaFr
namespace Go.Proofs.Ytpebgepjohlklaa.superTells
open Go.ChangeShapes Go.WideShapes Go.ChangeAt Go.RowKit
set_option linter.unusedVariables false

set_option maxRecDepth 100000 in
set_option linter.unusedSimpArgs false in
set_option maxHeartbeats 8000000 in
theorem walk (w : World) (cs0 : Array Value) (x0 : Blk) (g0 : SBlk.rd w cs0.toList x0) (m0 : bwf x0) (a1 : Option Addr) (len1 cap1 : Nat) (x1 : List UInt8) (e1 : x1.length = len1) (g1 : Rd w (.slice a1 len1 cap1) x1) (m1 : len1 ≤ 140737488351232) (a2 : Option Addr) (len2 cap2 : Nat) (x2 : List UInt8) (e2 : x2.length = len2) (g2 : Rd w (.slice a2 len2 cap2) x2) (m2 : len2 ≤ 140737488351232) :
    Calls Try.prog 3 #[.agg cs0, .slice a1 len1 cap1, .slice a2 len2 cap2] w fun e w' => e = .returned (.bool true) ∧ Below w.heap.size w w' := by
  obtain rfl := blk_form g0
  clear g0 m0 e1 e2 m1 m2
  have KE := fun u => pencode_any u x0
  have KR := fun u => rencode_any u x0
  have KC := fun u => pcheck_any u x0
  have KQ := fun u => rcheck6_any u x0
  obtain ⟨xs, er, hx⟩ : ∃ x er, senc x0 = (x, er) := ⟨_, _, rfl⟩
  rw [hx] at KE KR
  obtain ⟨ck, hck⟩ : ∃ ck, scheck x0 = ck := ⟨_, rfl⟩
  rw [hck] at KC KQ
  clear hx hck
  obtain ⟨n0, n1, n2, n3, n4⟩ := x0
  dsimp only at KE KR KC KQ ⊢
  replace KE := hide KE
  replace KR := hide KR
  replace KC := hide KC
  replace KQ := hide KQ
  have KD := fun u h => pdecode_any u (.slice a1 len1 cap1) x1 h
  have KG := fun u h => rdecode_any u (.slice a1 len1 cap1) x1 h
  obtain ⟨p0, p1, p2, p3, p4, dr, hD⟩ : ∃ p0 p1 p2 p3 p4 er, sdec x1 = ((p0, p1, p2, p3, p4), er) := ⟨_, _, _, _, _, _, rfl⟩
  rw [hD] at KD KG
  clear hD
  dsimp only at KD KG
  replace KD := hide KD
  replace KG := hide KG
  have KP := fun u h k => ppick_any u (.slice a1 len1 cap1) (.slice a2 len2 cap2) x1 x2 h k
  have KO := fun u h k => rpick_any u (.slice a1 len1 cap1) (.slice a2 len2 cap2) x1 x2 h k
  obtain ⟨q0, q1, q2, q3, q4, nr, pr, hP⟩ : ∃ q0 q1 q2 q3 q4 nr er, spick x1 x2 = ((q0, q1, q2, q3, q4), nr, er) := ⟨_, _, _, _, _, _, _, rfl⟩
  rw [hP] at KP KO
  clear hP
  dsimp only at KP KO
  replace KP := hide KP
  replace KO := hide KO
  obtain ⟨X, hX, HM, bX, _⟩ := boxedN w #[.int .i64 n0, .int .i64 n1, .int .i64 n2, .int .i64 n3, .int .i64 n4] 23
  have CC := hide bX
  replace HM := hide HM
  replace g1 := hide (g1.to bX)
  replace g2 := hide (g2.to bX)
  clear bX
  obtain ⟨⟨m_0, m_1, m_2, m_3, m_4⟩, _⟩ := cells5 HM.out
  rw [hX] at m_0 m_1 m_2 m_3 m_4
  go_enter Try.func3, Try.ntmps3
  go_wp2_with fail
  rw [← hX]
  clear m_0 m_1 m_2 m_3 m_4
  replace hX := hide hX
  refine (KE.out X).mono ?_
  rintro e w1 ⟨v1, rfl, o1, b1⟩
  have RA := hide o1.rd
  replace HM := hide ((b1.block _ (lt_of_block HM.out)).trans HM.out)
  replace g1 := hide (g1.out.to b1)
  replace g2 := hide (g2.out.to b1)
  replace CC := hide (CC.out.trans (b1.mono CC.out.size))
  obtain ⟨s1, t1, hv1⟩ := o1.rd.slice
  subst hv1
  clear o1 b1 KE
  obtain ⟨⟨m_0, m_1, m_2, m_3, m_4⟩, _⟩ := cells5 HM.out
  go_wp2_with fail
  clear m_0 m_1 m_2 m_3 m_4
  refine (KR.out w1).mono ?_
  rintro e w2 ⟨v2, rfl, o2, b2⟩
  have RB := hide o2.rd
  replace HM := hide ((b2.block _ (lt_of_block HM.out)).trans HM.out)
  replace g1 := hide (g1.out.to b2)
  replace g2 := hide (g2.out.to b2)
  replace RA := hide (RA.out.to b2)
  replace CC := hide (CC.out.trans (b2.mono CC.out.size))
  obtain ⟨s2, t2, hv2⟩ := o2.rd.slice
  subst hv2
  clear o2 b2 KR
  go_wp2_with fail
  refine (KD.out w2 g1.out).mono ?_
  rintro e w3 ⟨rfl, b⟩
  replace HM := hide ((b.block _ (lt_of_block HM.out)).trans HM.out)
  replace g1 := hide (g1.out.to b)
  replace g2 := hide (g2.out.to b)
  replace RA := hide (RA.out.to b)
  replace RB := hide (RB.out.to b)
  replace CC := hide (CC.out.trans (b.mono CC.out.size))
  clear b KD
  obtain ⟨Y1, hY1, HA, bY1, _⟩ := boxedN w3 #[.int .i64 p0, .int .i64 p1, .int .i64 p2, .int .i64 p3, .int .i64 p4] 28
  obtain ⟨gA, hgA⟩ : ∃ g, g = w3.heap.size := ⟨_, rfl⟩
  rw [← hgA] at HA
  replace HA := hide HA
  replace HM := hide ((bY1.block _ (lt_of_block HM.out)).trans HM.out)
  replace g1 := hide (g1.out.to bY1)
  replace g2 := hide (g2.out.to bY1)
  replace RA := hide (RA.out.to bY1)
  replace RB := hide (RB.out.to bY1)
  replace CC := hide (CC.out.trans (bY1.mono CC.out.size))
  clear bY1
  go_wp2_with fail
  rw [← hY1, ← hgA]
  replace hY1 := hide hY1
  replace hgA := hide hgA
  refine (KG.out Y1 g1.out).mono ?_
  rintro e w4 ⟨rfl, b⟩
  replace HM := hide ((b.block _ (lt_of_block HM.out)).trans HM.out)
  replace HA := hide ((b.block _ (lt_of_block HA.out)).trans HA.out)
  replace g1 := hide (g1.out.to b)
  replace g2 := hide (g2.out.to b)
  replace RA := hide (RA.out.to b)
  replace RB := hide (RB.out.to b)
  replace CC := hide (CC.out.trans (b.mono CC.out.size))
  clear b KG
  obtain ⟨Y2, hY2, HB, bY2, _⟩ := boxedN w4 #[.int .i64 p0, .int .i64 p1, .int .i64 p2, .int .i64 p3, .int .i64 p4] 23
  obtain ⟨gB, hgB⟩ : ∃ g, g = w4.heap.size := ⟨_, rfl⟩
  rw [← hgB] at HB
  replace HB := hide HB
  replace HM := hide ((bY2.block _ (lt_of_block HM.out)).trans HM.out)
  replace HA := hide ((bY2.block _ (lt_of_block HA.out)).trans HA.out)
  replace g1 := hide (g1.out.to bY2)
  replace g2 := hide (g2.out.to bY2)
  replace RA := hide (RA.out.to bY2)
  replace RB := hide (RB.out.to bY2)
  replace CC := hide (CC.out.trans (bY2.mono CC.out.size))
  clear bY2
  go_wp2_with fail
  rw [← hY2, ← hgB]
  replace hY2 := hide hY2
  replace hgB := hide hgB
  refine (KP.out Y2 g1.out g2.out).mono ?_
  rintro e w5 ⟨rfl, b⟩
  replace HM := hide ((b.block _ (lt_of_block HM.out)).trans HM.out)
  replace HA := hide ((b.block _ (lt_of_block HA.out)).trans HA.out)
  replace HB := hide ((b.block _ (lt_of_block HB.out)).trans HB.out)
  replace g1 := hide (g1.out.to b)
  replace g2 := hide (g2.out.to b)
  replace RA := hide (RA.out.to b)
  replace RB := hide (RB.out.to b)
  replace CC := hide (CC.out.trans (b.mono CC.out.size))
  clear b KP
  obtain ⟨Y3, hY3, HE, bY3, _⟩ := boxedN w5 #[.int .i64 q0, .int .i64 q1, .int .i64 q2, .int .i64 q3, .int .i64 q4] 28
  obtain ⟨gE, hgE⟩ : ∃ g, g = w5.heap.size := ⟨_, rfl⟩
  rw [← hgE] at HE
  replace HE := hide HE
  replace HM := hide ((bY3.block _ (lt_of_block HM.out)).trans HM.out)
  replace HA := hide ((bY3.block _ (lt_of_block HA.out)).trans HA.out)
  replace HB := hide ((bY3.block _ (lt_of_block HB.out)).trans HB.out)
  replace g1 := hide (g1.out.to bY3)
  replace g2 := hide (g2.out.to bY3)
  replace RA := hide (RA.out.to bY3)
  replace RB := hide (RB.out.to bY3)
  replace CC := hide (CC.out.trans (bY3.mono CC.out.size))
  clear bY3
  go_wp2_with fail
  rw [← hY3, ← hgE]
  replace hY3 := hide hY3
  replace hgE := hide hgE
  refine (KO.out Y3 g1.out g2.out).mono ?_
  rintro e w6 ⟨rfl, b⟩
  replace HM := hide ((b.block _ (lt_of_block HM.out)).trans HM.out)
  replace HA := hide ((b.block _ (lt_of_block HA.out)).trans HA.out)
  replace HB := hide ((b.block _ (lt_of_block HB.out)).trans HB.out)
  replace HE := hide ((b.block _ (lt_of_block HE.out)).trans HE.out)
  replace g1 := hide (g1.out.to b)
  replace g2 := hide (g2.out.to b)
  replace RA := hide (RA.out.to b)
  replace RB := hide (RB.out.to b)
  replace CC := hide (CC.out.trans (b.mono CC.out.size))
  clear b KO
  obtain ⟨Y4, hY4, HF, bY4, _⟩ := boxedN w6 #[.int .i64 q0, .int .i64 q1, .int .i64 q2, .int .i64 q3, .int .i64 q4] 23
  obtain ⟨gF, hgF⟩ : ∃ g, g = w6.heap.size := ⟨_, rfl⟩
  rw [← hgF] at HF
  replace HF := hide HF
  replace HM := hide ((bY4.block _ (lt_of_block HM.out)).trans HM.out)
  replace HA := hide ((bY4.block _ (lt_of_block HA.out)).trans HA.out)
  replace HB := hide ((bY4.block _ (lt_of_block HB.out)).trans HB.out)
  replace HE := hide ((bY4.block _ (lt_of_block HE.out)).trans HE.out)
  replace g1 := hide (g1.out.to bY4)
  replace g2 := hide (g2.out.to bY4)
  replace RA := hide (RA.out.to bY4)
  replace RB := hide (RB.out.to bY4)
  replace CC := hide (CC.out.trans (bY4.mono CC.out.size))
  clear bY4
  go_upto_region 7 with fail
  rw [← hY4, ← hgF]
  replace hY4 := hide hY4
  replace hgF := hide hgF
  have KS := hide (same_any Y4 _ _ xs xs RA.out RB.out)
  rw [sameB_self] at KS
  go_wp2_with fail
  refine KS.out.mono ?_
  rintro e w7 ⟨rfl, nd, hw7⟩
  have b7 : Below Y4.heap.size Y4 w7 := by rw [hw7]; exact below_drewN' _ _ _
  clear hw7 KS
  replace HM := hide ((b7.block _ (lt_of_block HM.out)).trans HM.out)
  replace HA := hide ((b7.block _ (lt_of_block HA.out)).trans HA.out)
  replace HB := hide ((b7.block _ (lt_of_block HB.out)).trans HB.out)
  replace HE := hide ((b7.block _ (lt_of_block HE.out)).trans HE.out)
  replace HF := hide ((b7.block _ (lt_of_block HF.out)).trans HF.out)
  replace g1 := hide (g1.out.to b7)
  replace g2 := hide (g2.out.to b7)
  replace RA := hide (RA.out.to b7)
  replace RB := hide (RB.out.to b7)
  replace CC := hide (CC.out.trans (b7.mono CC.out.size))
  clear b7
  obtain ⟨⟨a_0, a_1, a_2, a_3, a_4⟩, _⟩ := cells5 HA.out
  obtain ⟨⟨b_0, b_1, b_2, b_3, b_4⟩, _⟩ := cells5 HB.out
  go_wp2_with fail
  refine (num6_any _ _).mono ?_
  rintro e w' ⟨rfl, rfl⟩
  go_wp2_with fail
  refine (num6_any _ _).mono ?_
  rintro e w' ⟨rfl, rfl⟩
  clear a_0 a_1 a_2 a_3 a_4 b_0 b_1 b_2 b_3 b_4
  go_wp2_with fail
  have HS : Hid (∀ w9, Below w7.heap.size w7 w9 → w9.cell? ⟨gE, 0, none⟩ = some (.int .i64 q0) ∧ w9.cell? ⟨gE, 1, none⟩ = some (.int .i64 q1) ∧ w9.cell? ⟨gE, 2, none⟩ = some (.int .i64 q2) ∧ w9.cell? ⟨gE, 3, none⟩ = some (.int .i64 q3) ∧ w9.cell? ⟨gE, 4, none⟩ = some (.int .i64 q4) ∧ w9.cell? ⟨gF, 0, none⟩ = some (.int .i64 q0) ∧ w9.cell? ⟨gF, 1, none⟩ = some (.int .i64 q1) ∧ w9.cell? ⟨gF, 2, none⟩ = some (.int .i64 q2) ∧ w9.cell? ⟨gF, 3, none⟩ = some (.int .i64 q3) ∧ w9.cell? ⟨gF, 4, none⟩ = some (.int .i64 q4) ∧ w9.cell? ⟨w.heap.size, 0, none⟩ = some (.int .i64 n0) ∧ w9.cell? ⟨w.heap.size, 1, none⟩ = some (.int .i64 n1) ∧ w9.cell? ⟨w.heap.size, 2, none⟩ = some (.int .i64 n2) ∧ w9.cell? ⟨w.heap.size, 3, none⟩ = some (.int .i64 n3) ∧ w9.cell? ⟨w.heap.size, 4, none⟩ = some (.int .i64 n4)) := fun w9 b9 => by
    obtain ⟨⟨e_0, e_1, e_2, e_3, e_4⟩, _⟩ := cells5 ((b9.block _ (lt_of_block HE.out)).trans HE.out)
    obtain ⟨⟨f_0, f_1, f_2, f_3, f_4⟩, _⟩ := cells5 ((b9.block _ (lt_of_block HF.out)).trans HF.out)
    obtain ⟨⟨m_0, m_1, m_2, m_3, m_4⟩, _⟩ := cells5 ((b9.block _ (lt_of_block HM.out)).trans HM.out)
    exact ⟨e_0, e_1, e_2, e_3, e_4, f_0, f_1, f_2, f_3, f_4, m_0, m_1, m_2, m_3, m_4⟩
  have b0 : Below w7.heap.size w7 w7.drew := (Below.refl _ _).drew
  clear HA HB g1 g2 RA RB
  refine wp_region_sched (fun w9 => w9.cell? ⟨gE, 0, none⟩ = some (.int .i64 q0) ∧ w9.cell? ⟨gE, 1, none⟩ = some (.int .i64 q1) ∧ w9.cell? ⟨gE, 2, none⟩ = some (.int .i64 q2) ∧ w9.cell? ⟨gE, 3, none⟩ = some (.int .i64 q3) ∧ w9.cell? ⟨gE, 4, none⟩ = some (.int .i64 q4) ∧ w9.cell? ⟨gF, 0, none⟩ = some (.int .i64 q0) ∧ w9.cell? ⟨gF, 1, none⟩ = some (.int .i64 q1) ∧ w9.cell? ⟨gF, 2, none⟩ = some (.int .i64 q2) ∧ w9.cell? ⟨gF, 3, none⟩ = some (.int .i64 q3) ∧ w9.cell? ⟨gF, 4, none⟩ = some (.int .i64 q4) ∧ w9.cell? ⟨w.heap.size, 0, none⟩ = some (.int .i64 n0) ∧ w9.cell? ⟨w.heap.size, 1, none⟩ = some (.int .i64 n1) ∧ w9.cell? ⟨w.heap.size, 2, none⟩ = some (.int .i64 n2) ∧ w9.cell? ⟨w.heap.size, 3, none⟩ = some (.int .i64 n3) ∧ w9.cell? ⟨w.heap.size, 4, none⟩ = some (.int .i64 n4)) [(0, true), (1, true), (2, true), (3, true), (4, true), (5, true), (6, true), (7, true), (8, true), (9, true), (11, true), (10, false), (12, true), (13, true), (14, true), (15, true), (18, true), (16, false), (17, false), (19, false), (20, true), (21, true), (22, true), (23, false), (24, true)] 25 mixed (by kernel_rfl) (fun _ _ _ _ h => h) ?_
  refine sched_take (v := ?_) rfl (by kernel_rfl) (HS.out _ b0) ?_ ?_
  rotate_left
  · rintro w9 ⟨i0, i1, i2, i3, i4, i5, i6, i7, i8, i9, i10, i11, i12, i13, i14⟩
    go_simp
    try with_reducible rfl
  try simp only [Act.put, List.setIfInBounds_toArray, List.set_cons_zero, List.set_cons_succ]
  refine sched_take (v := ?_) rfl (by kernel_rfl) (HS.out _ b0) ?_ ?_
  rotate_left
  · rintro w9 ⟨i0, i1, i2, i3, i4, i5, i6, i7, i8, i9, i10, i11, i12, i13, i14⟩
    go_simp
    try with_reducible rfl
  try simp only [Act.put, List.setIfInBounds_toArray, List.set_cons_zero, List.set_cons_succ]
  refine sched_take (v := ?_) rfl (by kernel_rfl) (HS.out _ b0) ?_ ?_
  rotate_left
  · rintro w9 ⟨i0, i1, i2, i3, i4, i5, i6, i7, i8, i9, i10, i11, i12, i13, i14⟩
    go_simp
    try with_reducible rfl
  try simp only [Act.put, List.setIfInBounds_toArray, List.set_cons_zero, List.set_cons_succ]
  refine sched_take (v := ?_) rfl (by kernel_rfl) (HS.out _ b0) ?_ ?_
  rotate_left
  · rintro w9 ⟨i0, i1, i2, i3, i4, i5, i6, i7, i8, i9, i10, i11, i12, i13, i14⟩
    go_simp
    try with_reducible rfl
  try simp only [Act.put, List.setIfInBounds_toArray, List.set_cons_zero, List.set_cons_succ]
  refine sched_take (v := ?_) rfl (by kernel_rfl) (HS.out _ b0) ?_ ?_
  rotate_left
  · rintro w9 ⟨i0, i1, i2, i3, i4, i5, i6, i7, i8, i9, i10, i11, i12, i13, i14⟩
    go_simp
    try with_reducible rfl
  try simp only [Act.put, List.setIfInBounds_toArray, List.set_cons_zero, List.set_cons_succ]
  refine sched_take (v := ?_) rfl (by kernel_rfl) (HS.out _ b0) ?_ ?_
  rotate_left
  · rintro w9 ⟨i0, i1, i2, i3, i4, i5, i6, i7, i8, i9, i10, i11, i12, i13, i14⟩
    go_simp
    try with_reducible rfl
  try simp only [Act.put, List.setIfInBounds_toArray, List.set_cons_zero, List.set_cons_succ]
  refine sched_take (v := ?_) rfl (by kernel_rfl) (HS.out _ b0) ?_ ?_
  rotate_left
  · rintro w9 ⟨i0, i1, i2, i3, i4, i5, i6, i7, i8, i9, i10, i11, i12, i13, i14⟩
    go_simp
    try with_reducible rfl
  try simp only [Act.put, List.setIfInBounds_toArray, List.set_cons_zero, List.set_cons_succ]
  refine sched_take (v := ?_) rfl (by kernel_rfl) (HS.out _ b0) ?_ ?_
  rotate_left
  · rintro w9 ⟨i0, i1, i2, i3, i4, i5, i6, i7, i8, i9, i10, i11, i12, i13, i14⟩
    go_simp
    try with_reducible rfl
  try simp only [Act.put, List.setIfInBounds_toArray, List.set_cons_zero, List.set_cons_succ]
  refine sched_take (v := ?_) rfl (by kernel_rfl) (HS.out _ b0) ?_ ?_
  rotate_left
  · rintro w9 ⟨i0, i1, i2, i3, i4, i5, i6, i7, i8, i9, i10, i11, i12, i13, i14⟩
    go_simp
    try with_reducible rfl
  try simp only [Act.put, List.setIfInBounds_toArray, List.set_cons_zero, List.set_cons_succ]
  refine sched_take (v := ?_) rfl (by kernel_rfl) (HS.out _ b0) ?_ ?_
  rotate_left
  · rintro w9 ⟨i0, i1, i2, i3, i4, i5, i6, i7, i8, i9, i10, i11, i12, i13, i14⟩
    go_simp
    try with_reducible rfl
  try simp only [Act.put, List.setIfInBounds_toArray, List.set_cons_zero, List.set_cons_succ]
  refine sched_take (v := ?_) rfl (by kernel_rfl) (HS.out _ b0) ?_ ?_
  rotate_left
  · rintro w9 ⟨i0, i1, i2, i3, i4, i5, i6, i7, i8, i9, i10, i11, i12, i13, i14⟩
    go_simp
    try with_reducible rfl
  try simp only [Act.put, List.setIfInBounds_toArray, List.set_cons_zero, List.set_cons_succ]
  refine sched_run rfl (by kernel_rfl) fun K hK => ?_
  refine wp_call_of 15 _ _ (by rfl) #[.int .i64 pr] (by simp [Act.eval]) (Try.call15 _ _) (num6_any _ _) ?_
  rintro e w' ⟨rfl, rfl⟩
  refine ⟨_, rfl, hK _ _ (HS.out _ b0) ?_⟩
  clear hK K
  try simp only [Act.put, List.setIfInBounds_toArray, List.set_cons_zero, List.set_cons_succ]
  refine sched_take (v := ?_) rfl (by kernel_rfl) (HS.out _ b0) ?_ ?_
  rotate_left
  · rintro w9 ⟨i0, i1, i2, i3, i4, i5, i6, i7, i8, i9, i10, i11, i12, i13, i14⟩
    go_simp
    try with_reducible rfl
  try simp only [Act.put, List.setIfInBounds_toArray, List.set_cons_zero, List.set_cons_succ]
  refine sched_take (v := ?_) rfl (by kernel_rfl) (HS.out _ b0) ?_ ?_
  rotate_left
  · rintro w9 ⟨i0, i1, i2, i3, i4, i5, i6, i7, i8, i9, i10, i11, i12, i13, i14⟩
    go_simp
    try with_reducible rfl
  try simp only [Act.put, List.setIfInBounds_toArray, List.set_cons_zero, List.set_cons_succ]
  refine sched_take (v := ?_) rfl (by kernel_rfl) (HS.out _ b0) ?_ ?_
  rotate_left
  · rintro w9 ⟨i0, i1, i2, i3, i4, i5, i6, i7, i8, i9, i10, i11, i12, i13, i14⟩
    go_simp
    try with_reducible rfl
  try simp only [Act.put, List.setIfInBounds_toArray, List.set_cons_zero, List.set_cons_succ]
  refine sched_take (v := ?_) rfl (by kernel_rfl) (HS.out _ b0) ?_ ?_
  rotate_left
  · rintro w9 ⟨i0, i1, i2, i3, i4, i5, i6, i7, i8, i9, i10, i11, i12, i13, i14⟩
    go_simp
    try with_reducible rfl
  try simp only [Act.put, List.setIfInBounds_toArray, List.set_cons_zero, List.set_cons_succ]
  refine sched_take (v := ?_) rfl (by kernel_rfl) (HS.out _ b0) ?_ ?_
  rotate_left
  · rintro w9 ⟨i0, i1, i2, i3, i4, i5, i6, i7, i8, i9, i10, i11, i12, i13, i14⟩
    go_simp
    try with_reducible rfl
  try simp only [Act.put, List.setIfInBounds_toArray, List.set_cons_zero, List.set_cons_succ]
  refine sched_run rfl (by kernel_rfl) fun K hK => ?_
  refine wp_call_of 16 _ _ (by rfl) #[.agg #[.int .i64 n0, .int .i64 n1, .int .i64 n2, .int .i64 n3, .int .i64 n4]] (by simp [Act.eval]) (Try.call16 _ _) (KC.out _) ?_
  rintro e u2 ⟨rfl, bb⟩
  have b2 : Below w7.heap.size w7 u2 := b0.trans (bb.mono b0.size)
  refine ⟨_, rfl, hK _ _ (HS.out _ b2) ?_⟩
  clear hK K
  try simp only [Act.put, List.setIfInBounds_toArray, List.set_cons_zero, List.set_cons_succ]
  refine sched_run rfl (by kernel_rfl) fun K hK => ?_
  refine wp_call_of 15 _ _ (by rfl) #[.int .i64 ck] (by simp [Act.eval]) (Try.call15 _ _) (num6_any _ _) ?_
  rintro e w' ⟨rfl, rfl⟩
  refine ⟨_, rfl, hK _ _ (HS.out _ b2) ?_⟩
  clear hK K
  try simp only [Act.put, List.setIfInBounds_toArray, List.set_cons_zero, List.set_cons_succ]
  refine sched_run rfl (by kernel_rfl) fun K hK => ?_
  refine wp_call_of 17 _ _ (by rfl) #[.agg #[.int .i64 n0, .int .i64 n1, .int .i64 n2, .int .i64 n3, .int .i64 n4]] (by simp [Act.eval]) (Try.call17 _ _) (KQ.out _) ?_
  rintro e u4 ⟨rfl, bb⟩
  have b4 : Below w7.heap.size w7 u4 := b2.trans (bb.mono b2.size)
  refine ⟨_, rfl, hK _ _ (HS.out _ b4) ?_⟩
  clear hK K
  try simp only [Act.put, List.setIfInBounds_toArray, List.set_cons_zero, List.set_cons_succ]
  refine sched_take (v := ?_) rfl (by kernel_rfl) (HS.out _ b4) ?_ ?_
  rotate_left
  · rintro w9 ⟨i0, i1, i2, i3, i4, i5, i6, i7, i8, i9, i10, i11, i12, i13, i14⟩
    go_simp
    try with_reducible rfl
  try simp only [Act.put, List.setIfInBounds_toArray, List.set_cons_zero, List.set_cons_succ]
  refine sched_take (v := ?_) rfl (by kernel_rfl) (HS.out _ b4) ?_ ?_
  rotate_left
  · rintro w9 ⟨i0, i1, i2, i3, i4, i5, i6, i7, i8, i9, i10, i11, i12, i13, i14⟩
    go_simp
    try with_reducible rfl
  try simp only [Act.put, List.setIfInBounds_toArray, List.set_cons_zero, List.set_cons_succ]
  refine sched_take (v := ?_) rfl (by kernel_rfl) (HS.out _ b4) ?_ ?_
  rotate_left
  · rintro w9 ⟨i0, i1, i2, i3, i4, i5, i6, i7, i8, i9, i10, i11, i12, i13, i14⟩
    go_simp
    try with_reducible rfl
  try simp only [Act.put, List.setIfInBounds_toArray, List.set_cons_zero, List.set_cons_succ]
  refine sched_run rfl (by kernel_rfl) fun K hK => ?_
  refine wp_call_of 18 _ _ (by rfl) #[] (by simp [Act.eval]) (Try.call18 _ _) (salive_any _) ?_
  rintro e u5 ⟨rfl, bb⟩
  have b5 : Below w7.heap.size w7 u5 := b4.trans (bb.mono b4.size)
  refine ⟨_, rfl, hK _ _ (HS.out _ b5) ?_⟩
  clear hK K
  try simp only [Act.put, List.setIfInBounds_toArray, List.set_cons_zero, List.set_cons_succ]
  refine sched_take (v := ?_) rfl (by kernel_rfl) (HS.out _ b5) ?_ ?_
  rotate_left
  · rintro w9 ⟨i0, i1, i2, i3, i4, i5, i6, i7, i8, i9, i10, i11, i12, i13, i14⟩
    go_simp
    try with_reducible rfl
  try simp only [Act.put, List.setIfInBounds_toArray, List.set_cons_zero, List.set_cons_succ]
  show wpList _ _ _ _ _ _
  go_wp2
  go_ret
  exact ⟨rfl, CC.out.trans (b5.mono CC.out.size)⟩

set_option maxRecDepth 100000 in
theorem lifted (os : Os) (started : os.Started) (H : Type) (enc : TypeId × Value → H) :
    ReturnsInHanded {} Try.checked os 3 .any (Rows.superTellsSpec.pre6 enc Try.prog Try.f3 Rows.superTellsRow.domain false) (Rows.superTellsSpec.post enc Try.prog Try.f3 false true false false) := by
  refine returnsInHanded_of_change_sized (C := Try.checked) own started (by kernel_rfl) Try.func3
    (ChangeSpec.witness6 (enc := enc) (C := Try.checked) false ⟨#[], #[.agg #[.int .i64 0, .int .i64 0, .int .i64 0, .int .i64 0, .int .i64 0], .slice none 0 0, .slice none 0 0], []⟩ 8 (by kernel_rfl) (by kernel_rfl) (by kernel_rfl) (by kernel_rfl)) ?_
  intro W base args ds gs before hval0 hW hcnd hsz0 _
  have hsz : (DataW.weightsEach Try.prog (Try.f3.params.toList ++ Rows.superTellsSpec.plain.varTypes Try.prog) (ds ++ gs)).all (· ≤ reachBytes) = true := hsz0
  have hval : ∀ (j : Nat) t v, Try.f3.params[j]? = some t → args[j]? = some v → Value.okWide Try.prog W .any base t v := hval0
  have hW' := hW
  obtain ⟨p, q, hA0, hV, rfl, hfz, hnd⟩ := hW
  have hA : DataW.TrodAll enc Try.prog W 0 (fun _ => true) true Try.f3.params.toList args.toList ds p := hA0
  rw [Try.params3] at hA hval hsz
  obtain ⟨v0, vs0, d0, ds0, p0, q0, hargs, rfl, rfl, h0, r0⟩ := trodAll_cons hA
  obtain ⟨v1, vs1, d1, ds1, p1, q1, rfl, rfl, rfl, h1, r1⟩ := trodAll_cons r0
  obtain ⟨v2, vs2, d2, ds2, p2, q2, rfl, rfl, rfl, h2, r2⟩ := trodAll_cons r1
  obtain ⟨rfl, rfl, rfl⟩ := trodAll_nil r2
  obtain rfl : args = #[v0, v1, v2] := by cases args; simp_all
  obtain ⟨rfl, rfl⟩ := trodVars_none hV
  obtain ⟨cs0, rfl, _⟩ := okWide_struct Try.underlying23 (hval 0 23 v0 rfl rfl)
  have lt0 : ∀ x ∈ p0, x.block < W.heap.size := by obtain ⟨m, hm⟩ := h0; exact DataW.trod_lt m _ _ _ hm
  have hh0 := h0
  obtain ⟨fu0, hf0⟩ := hh0
  obtain ⟨x0, g0, f0, b0⟩ := open_blk.opened hf0
  obtain ⟨a1, len1, cap1, rfl⟩ := okWide_slice Try.underlying24 (hval 1 24 v1 rfl rfl)
  have lt1 : ∀ x ∈ p1, x.block < W.heap.size := by obtain ⟨m, hm⟩ := h1; exact DataW.trod_lt m _ _ _ hm
  obtain ⟨x1, e1, g1, s1⟩ := open_octs h1
  obtain ⟨a2, len2, cap2, rfl⟩ := okWide_slice Try.underlying24 (hval 2 24 v2 rfl rfl)
  have lt2 : ∀ x ∈ p2, x.block < W.heap.size := by obtain ⟨m, hm⟩ := h2; exact DataW.trod_lt m _ _ _ hm
  obtain ⟨x2, e2, g2, s2⟩ := open_octs h2
  have m0 := f0 (reach_of hsz (j := 0) rfl rfl)
  have m1 := reach_octs hsz (j := 1) rfl rfl s1
  have m2 := reach_octs hsz (j := 2) rfl rfl s2
  clear hA0 hval0 hsz0 hsz
  refine (walk W cs0 x0 g0 m0 a1 len1 cap1 x1 e1 g1 m1 a2 len2 cap2 x2 e2 g2 m2).mono fun e W' ⟨he, bel⟩ => ?_
  subst he
  exact ⟨_, rfl, _, _, _, [], _, [], hW', trodAll_mk1 (shut_bool Try.underlying4 _), (trodAll_cons_mk (Below.trod laidOut (by kernel_rfl) (of_decide_eq_true (by kernel_rfl)) h0 bel lt0) (trodAll_cons_mk (Below.trod laidOut (by kernel_rfl) (of_decide_eq_true (by kernel_rfl)) h1 bel lt1) (trodAll_cons_mk (Below.trod laidOut (by kernel_rfl) (of_decide_eq_true (by kernel_rfl)) h2 bel lt2) trodAll_mk0))), rfl, bel.frame _, fun h => by cases h⟩

theorem over : Rows.superTellsRow.holds Try.pinned (OpenSpec.ofChange Rows.superTellsSpec) :=
  OpenClaim.holds_of_wide 3 Try.f3 rfl rfl rfl rfl rfl rfl rfl ⟨rfl, rfl, rfl, rfl, rfl⟩ rfl rfl rfl rfl rfl (by kernel_rfl) Try.func3 (by kernel_rfl)
    (of_decide_eq_true (by kernel_rfl)) (by unfold Func.isWrapper; first | (rw [if_pos (by decide +kernel)]; kernel_rfl) | (rw [if_neg (by decide +kernel)]; exact ⟨rfl, rfl⟩))
    (fun os started H enc _ => lifted os started H enc)

end Go.Proofs.Ytpebgepjohlklaa.superTells
namespace Go.Proofs.Ytpebgepjohlklaa
/-- THE STATEMENT -/
theorem superTells_holds : Rows.SuperTellsSaid := superTells.over
end Go.Proofs.Ytpebgepjohlklaa
