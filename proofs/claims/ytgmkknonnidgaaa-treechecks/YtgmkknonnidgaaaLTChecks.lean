/-
  PROVED: whatever pages and keys come in, transeptlaw10.TreeChecks returns true and leaves them as they were: the statement of P10.1 (whether pages are a tree, and what is found in it, is as the page says).
-/
import Derived.Test.YtgmkknonnidgaaaMergeI
import Derived.Test.YtgmkknonnidgaaaMergeQ
import Derived.Test.YtgmkknonnidgaaaMergeT
import Derived.Test.YtgmkknonnidgaaaMergeG
import Derived.Test.YtgmkknonnidgaaaSame
import Derived.Test.YtgmkknonnidgaaaRSched
namespace Go.Proofs.Ytgmkknonnidgaaa.treeChecks
open Go.ChangeShapes Go.WideShapes Go.ChangeAt Go.RowKit
set_option linter.unusedVariables false
set_option linter.unusedSimpArgs false

set_option maxRecDepth 100000 in
set_option maxHeartbeats 8000000 in
theorem walk (w : World) (cs0 : Array Value) (x0 : Tr3) (g0 : STree.rd w cs0.toList x0) (m0 : tr3fit x0) (key : Str) (hkey : key.length ≤ maxLen) (fr : Str) (hfr : fr.length ≤ maxLen) (tw : Str) (htw : tw.length ≤ maxLen) :
    Calls Try.prog 4 #[.agg cs0, st key, st fr, st tw] w fun e w' => e = .returned (.bool true) ∧ Below w.heap.size w w' := by
  obtain ⟨pv, he0, R0⟩ := tree_form g0 m0
  rw [he0]
  obtain ⟨hroot, -, hlen, hel⟩ := m0
  obtain ⟨t, ht⟩ : ∃ t, t = trOf x0 := ⟨_, rfl⟩
  have hrt : (Lit.int .i64 t.root).wf = true := by rw [ht]; exact hroot
  have hl : (t.pages.length + 1) * 32 ≤ 140737488355328 := by rw [ht]; show (x0.2.2.length + 1) * 32 ≤ _; omega
  have hx : ∀ x ∈ t.pages, x.2.length ≤ 140737488351232 := by rw [ht]; exact fun x hx => (hel x hx).2
  rw [← ht] at R0 ⊢
  clear ht he0 g0 hroot hlen hel x0 cs0
  obtain ⟨a, c, rfl⟩ := R0.slice
  obtain ⟨W, hW, DW, bW, sW⟩ := boxedN w #[.int .i64 t.root, .int .i64 t.next, .slice a t.pages.length c] 50
  have hkm : key.length ≤ 9223372036854775807 := hkey
  have RW := R0.to0 bW
  have KO := hide (pof10_any W t _ RW hl hx)
  dsimp only [tv] at KO ⊢
  obtain ⟨root, next, ps⟩ := t
  try dsimp only at *
  obtain ⟨N, hN⟩ : ∃ N, N = ps.length := ⟨_, rfl⟩
  have BW := hide bW
  have HD := hide DW
  have HR := hide RW
  have HRT := hide hrt
  have HL := hide hl
  have HX := hide hx
  obtain ⟨⟨D0, D1, D2⟩, _⟩ := cells3p DW
  rw [← hN] at KO hW HD HR D2
  rw [← hN]
  rw [hW] at D0 D1 D2
  replace hN := hide hN
  clear R0 bW DW RW hrt hl hx
  go_enter Try.func4, Try.ntmps4
  go_wp2_with fail
  rw [← hW]
  replace hW := hide hW
  refine KO.out.mono ?_
  rintro e w1 ⟨pv1, rfl, o1, b1⟩
  clear KO D0 D1 D2
  obtain ⟨a1, c1, h1⟩ := o1.shape
  try dsimp only at h1
  rw [← hN.out] at h1
  subst h1
  obtain ⟨X, hX, DX, bX, sX⟩ := boxedN w1 #[.int .i64 root, .int .i64 next, .slice a1 N c1] 26
  have bwX := b1.trans (bX.mono b1.size)
  have HO := hide (o1.to9 bX).rd
  have HRX := hide (HR.out.to0 bwX)
  have HDX := hide ((bwX.block _ (lt_of_block HD.out)).trans HD.out)
  have HOX := hide DX
  have BX := hide (BW.out.trans (bwX.mono BW.out.size))
  have KG := hide (pget10_any X ⟨root, next, ps⟩ _ key hkm HO.out HRT.out)
  obtain ⟨TG, hTG⟩ : ∃ z, z = tget ⟨root, next, ps⟩ key := ⟨_, rfl⟩
  obtain ⟨TS, hTS⟩ : ∃ z, z = tscan ⟨root, next, ps⟩ fr tw := ⟨_, rfl⟩
  obtain ⟨CK, hCK⟩ : ∃ z, z = tcheck ⟨root, next, ps⟩ := ⟨_, rfl⟩
  replace hTG := hide hTG
  replace hTS := hide hTS
  replace hCK := hide hCK
  rw [← hTG.out] at KG
  dsimp only [tv] at KG
  obtain ⟨⟨X0, X1, X2⟩, _⟩ := cells3p DX
  rw [hX] at KG X0 X1 X2
  clear o1 b1 bX DX bwX BW HD HR
  try dsimp only [tv]
  go_wp2_with fail
  refine KG.out.mono ?_
  rintro e w2 ⟨rfl, b2⟩
  rw [← hX] at b2
  replace hX := hide hX
  clear KG X0 X1 X2
  have KR := hide (rget10_any w2 ⟨root, next, ps⟩ _ key hkm (HRX.out.to0 b2))
  rw [← hTG.out] at KR
  dsimp only [tv] at KR
  have D2 := (b2.block _ (lt_of_block HDX.out)).trans HDX.out
  obtain ⟨⟨X0, X1, X2⟩, _⟩ := cells3p D2
  have B2 := hide b2
  clear b2 D2
  go_wp2_with fail
  refine KR.out.mono ?_
  rintro e w3 ⟨rfl, b3⟩
  clear KR X0 X1 X2
  have B3 := hide (B2.out.trans (b3.mono B2.out.size))
  have KP := hide (pscan10_any w3 ⟨root, next, ps⟩ _ fr tw (HO.out.to0 B3.out) HRT.out)
  rw [← hTS.out] at KP
  dsimp only [tv] at KP
  have D3 := (B3.out.block _ (lt_of_block HOX.out)).trans HOX.out
  obtain ⟨⟨X0, X1, X2⟩, _⟩ := cells3p D3
  clear b3 D3 B2
  go_wp2_with fail
  refine KP.out.mono ?_
  rintro e w4 ⟨v4, rfl, o4, b4⟩
  clear KP X0 X1 X2
  have B4 := hide (B3.out.trans (b4.mono B3.out.size))
  have KQ := hide (rscan10_any w4 ⟨root, next, ps⟩ _ fr tw (HRX.out.to0 B4.out))
  rw [← hTS.out] at KQ
  dsimp only [tv] at KQ
  have D4 := (B4.out.block _ (lt_of_block HDX.out)).trans HDX.out
  obtain ⟨⟨X0, X1, X2⟩, _⟩ := cells3p D4
  have O4 := hide o4
  clear b4 D4 B3 o4
  go_wp2_with fail
  refine KQ.out.mono ?_
  rintro e w5 ⟨v5, rfl, o5, b5⟩
  clear KQ X0 X1 X2
  have B5 := hide (B4.out.trans (b5.mono B4.out.size))
  have P4 := hide (OwnP.rd (rows_to O4.out b5))
  have P5 := hide (OwnP.rd o5)
  clear b5 o5 O4 B4
  obtain ⟨la, lc, hl4⟩ := P4.out.slice
  subst hl4
  obtain ⟨ma, mc, hm5⟩ := P5.out.slice
  subst hm5
  have D5 := hide ((B5.out.block _ (lt_of_block HDX.out)).trans HDX.out)
  have X5 := hide ((B5.out.block _ (lt_of_block HOX.out)).trans HOX.out)
  have R5 := hide (HRX.out.to0 B5.out)
  have Q5 := hide (HO.out.to0 B5.out)
  have E5 := hide (BX.out.trans (B5.out.mono BX.out.size))
  clear HDX HOX HRX HO BX B5
  have HS : Hid (∀ w9, Below w5.heap.size w5 w9 → w9.cell? ⟨w.heap.size, 0, none⟩ = some (.int .i64 root) ∧ w9.cell? ⟨w.heap.size, 1, none⟩ = some (.int .i64 next) ∧ w9.cell? ⟨w.heap.size, 2, none⟩ = some (.slice a N c) ∧ w9.cell? ⟨w1.heap.size, 0, none⟩ = some (.int .i64 root) ∧ w9.cell? ⟨w1.heap.size, 1, none⟩ = some (.int .i64 next) ∧ w9.cell? ⟨w1.heap.size, 2, none⟩ = some (.slice a1 N c1)) := fun w9 b9 => by
    obtain ⟨⟨x0, x1, x2⟩, _⟩ := cells3p ((b9.block _ (lt_of_block D5.out)).trans D5.out)
    obtain ⟨⟨y0, y1, y2⟩, _⟩ := cells3p ((b9.block _ (lt_of_block X5.out)).trans X5.out)
    exact ⟨x0, x1, x2, y0, y1, y2⟩
  have CALLS : Hid (∀ w9, Below w5.heap.size w5 w9 → (Calls Try.prog 15 #[.slice la TS.1.length lc, .slice ma TS.1.length mc] w9 fun e w' => e = .returned (.bool true) ∧ Below w9.heap.size w9 w') ∧ (Calls Try.prog 20 #[.agg #[.int .i64 root, .int .i64 next, .slice a1 N c1]] w9 fun e w' => e = .returned (.int .i64 CK) ∧ Below w9.heap.size w9 w') ∧ (Calls Try.prog 21 #[.agg #[.int .i64 root, .int .i64 next, .slice a N c]] w9 fun e w' => e = .returned (.int .i64 CK) ∧ Below w9.heap.size w9 w')) := fun w9 b9 => by
    have q1 := samep_any w9 _ _ TS.1 TS.1 (P4.out.to0 b9) (P5.out.to0 b9)
    rw [show decide (TS.1 = TS.1) = true from decide_eq_true rfl] at q1
    have q2 := pcheck10_any w9 ⟨root, next, ps⟩ _ (Q5.out.to0 b9) HRT.out
    have q3 := rcheck10_any w9 ⟨root, next, ps⟩ _ (R5.out.to0 b9)
    rw [← hCK.out] at q2 q3
    exact ⟨q1, q2, q3⟩
  have b0 : Below w5.heap.size w5 w5.drew := (Below.refl _ _).drew
  obtain ⟨g1, g2, g3⟩ := TG
  obtain ⟨ts, te⟩ := TS
  generalize ts.length = LT at *
  try dsimp only at *
  clear P4 P5
  go_upto_region 6 with fail
  refine wp_region_sched (fun w9 => w9.cell? ⟨w.heap.size, 0, none⟩ = some (.int .i64 root) ∧ w9.cell? ⟨w.heap.size, 1, none⟩ = some (.int .i64 next) ∧ w9.cell? ⟨w.heap.size, 2, none⟩ = some (.slice a N c) ∧ w9.cell? ⟨w1.heap.size, 0, none⟩ = some (.int .i64 root) ∧ w9.cell? ⟨w1.heap.size, 1, none⟩ = some (.int .i64 next) ∧ w9.cell? ⟨w1.heap.size, 2, none⟩ = some (.slice a1 N c1)) [(0, true), (1, true), (2, true), (3, true), (4, true), (5, true), (6, true), (7, true), (8, true), (9, true), (11, true), (10, false), (12, true), (13, true), (14, true), (15, true), (16, true), (17, false), (18, true), (19, true), (20, true), (21, true), (23, true), (22, false), (24, true), (25, true), (26, true), (27, true), (30, true), (28, false), (29, false), (31, false), (32, true), (33, true), (34, true), (35, true), (36, true), (37, true), (38, true), (39, true), (40, true), (41, true)] 42 mixed (by kernel_rfl) (fun _ _ _ _ h => h) ?_
  refine sched_take (v := ?_) rfl (by kernel_rfl) (HS.out _ b0) ?_ ?_
  rotate_left
  · rintro w9 ⟨q0, q1, q2, q3, q4, q5⟩
    go_simp
    try with_reducible rfl
  try simp only [Act.put, List.setIfInBounds_toArray, List.set_cons_zero, List.set_cons_succ]
  refine sched_take (v := ?_) rfl (by kernel_rfl) (HS.out _ b0) ?_ ?_
  rotate_left
  · rintro w9 ⟨q0, q1, q2, q3, q4, q5⟩
    go_simp
    try with_reducible rfl
  try simp only [Act.put, List.setIfInBounds_toArray, List.set_cons_zero, List.set_cons_succ]
  refine sched_take (v := ?_) rfl (by kernel_rfl) (HS.out _ b0) ?_ ?_
  rotate_left
  · rintro w9 ⟨q0, q1, q2, q3, q4, q5⟩
    go_simp
    try with_reducible rfl
  try simp only [Act.put, List.setIfInBounds_toArray, List.set_cons_zero, List.set_cons_succ]
  refine sched_take (v := ?_) rfl (by kernel_rfl) (HS.out _ b0) ?_ ?_
  rotate_left
  · rintro w9 ⟨q0, q1, q2, q3, q4, q5⟩
    go_simp
    try with_reducible rfl
  try simp only [Act.put, List.setIfInBounds_toArray, List.set_cons_zero, List.set_cons_succ]
  refine sched_take (v := ?_) rfl (by kernel_rfl) (HS.out _ b0) ?_ ?_
  rotate_left
  · rintro w9 ⟨q0, q1, q2, q3, q4, q5⟩
    go_simp
    try with_reducible rfl
  try simp only [Act.put, List.setIfInBounds_toArray, List.set_cons_zero, List.set_cons_succ]
  refine sched_take (v := ?_) rfl (by kernel_rfl) (HS.out _ b0) ?_ ?_
  rotate_left
  · rintro w9 ⟨q0, q1, q2, q3, q4, q5⟩
    go_simp
    try with_reducible rfl
  try simp only [Act.put, List.setIfInBounds_toArray, List.set_cons_zero, List.set_cons_succ]
  refine sched_take (v := ?_) rfl (by kernel_rfl) (HS.out _ b0) ?_ ?_
  rotate_left
  · rintro w9 ⟨q0, q1, q2, q3, q4, q5⟩
    go_simp
    try with_reducible rfl
  try simp only [Act.put, List.setIfInBounds_toArray, List.set_cons_zero, List.set_cons_succ]
  refine sched_take (v := ?_) rfl (by kernel_rfl) (HS.out _ b0) ?_ ?_
  rotate_left
  · rintro w9 ⟨q0, q1, q2, q3, q4, q5⟩
    go_simp
    try with_reducible rfl
  try simp only [Act.put, List.setIfInBounds_toArray, List.set_cons_zero, List.set_cons_succ]
  refine sched_take (v := ?_) rfl (by kernel_rfl) (HS.out _ b0) ?_ ?_
  rotate_left
  · rintro w9 ⟨q0, q1, q2, q3, q4, q5⟩
    go_simp
    try with_reducible rfl
  try simp only [Act.put, List.setIfInBounds_toArray, List.set_cons_zero, List.set_cons_succ]
  refine sched_take (v := ?_) rfl (by kernel_rfl) (HS.out _ b0) ?_ ?_
  rotate_left
  · rintro w9 ⟨q0, q1, q2, q3, q4, q5⟩
    go_simp
    try with_reducible rfl
  try simp only [Act.put, List.setIfInBounds_toArray, List.set_cons_zero, List.set_cons_succ]
  refine sched_take (v := ?_) rfl (by kernel_rfl) (HS.out _ b0) ?_ ?_
  rotate_left
  · rintro w9 ⟨q0, q1, q2, q3, q4, q5⟩
    go_simp
    try with_reducible rfl
  try simp only [Act.put, List.setIfInBounds_toArray, List.set_cons_zero, List.set_cons_succ]
  refine sched_run rfl (by kernel_rfl) fun K hK => ?_
  refine wp_call_of 10 _ _ (by rfl) #[.int .i64 g3] (by simp [Act.eval]) (Try.call10 _ _) (pnum10_any _ _) ?_
  rintro e w' ⟨rfl, rfl⟩
  refine ⟨_, rfl, hK _ _ (HS.out _ b0) ?_⟩
  clear hK K
  try simp only [Act.put, List.setIfInBounds_toArray, List.set_cons_zero, List.set_cons_succ]
  refine sched_take (v := ?_) rfl (by kernel_rfl) (HS.out _ b0) ?_ ?_
  rotate_left
  · rintro w9 ⟨q0, q1, q2, q3, q4, q5⟩
    go_simp
    try with_reducible rfl
  try simp only [Act.put, List.setIfInBounds_toArray, List.set_cons_zero, List.set_cons_succ]
  refine sched_take (v := ?_) rfl (by kernel_rfl) (HS.out _ b0) ?_ ?_
  rotate_left
  · rintro w9 ⟨q0, q1, q2, q3, q4, q5⟩
    go_simp
    try with_reducible rfl
  try simp only [Act.put, List.setIfInBounds_toArray, List.set_cons_zero, List.set_cons_succ]
  refine sched_take (v := ?_) rfl (by kernel_rfl) (HS.out _ b0) ?_ ?_
  rotate_left
  · rintro w9 ⟨q0, q1, q2, q3, q4, q5⟩
    go_simp
    try with_reducible rfl
  try simp only [Act.put, List.setIfInBounds_toArray, List.set_cons_zero, List.set_cons_succ]
  refine sched_take (v := ?_) rfl (by kernel_rfl) (HS.out _ b0) ?_ ?_
  rotate_left
  · rintro w9 ⟨q0, q1, q2, q3, q4, q5⟩
    go_simp
    try with_reducible rfl
  try simp only [Act.put, List.setIfInBounds_toArray, List.set_cons_zero, List.set_cons_succ]
  refine sched_take (v := ?_) rfl (by kernel_rfl) (HS.out _ b0) ?_ ?_
  rotate_left
  · rintro w9 ⟨q0, q1, q2, q3, q4, q5⟩
    go_simp
    try with_reducible rfl
  try simp only [Act.put, List.setIfInBounds_toArray, List.set_cons_zero, List.set_cons_succ]
  refine sched_run rfl (by kernel_rfl) fun K hK => ?_
  refine wp_call_of 15 _ _ (by rfl) #[.slice la LT lc, .slice ma LT mc] (by simp [Act.eval]) (Try.call15 _ _) ((CALLS.out _ b0).1) ?_
  rintro e v1 ⟨rfl, bb⟩
  have b1 : Below w5.heap.size w5 v1 := b0.trans (bb.mono b0.size)
  clear bb
  refine ⟨_, rfl, hK _ _ (HS.out _ b1) ?_⟩
  clear hK K
  try simp only [Act.put, List.setIfInBounds_toArray, List.set_cons_zero, List.set_cons_succ]
  refine sched_take (v := ?_) rfl (by kernel_rfl) (HS.out _ b1) ?_ ?_
  rotate_left
  · rintro w9 ⟨q0, q1, q2, q3, q4, q5⟩
    go_simp
    try with_reducible rfl
  try simp only [Act.put, List.setIfInBounds_toArray, List.set_cons_zero, List.set_cons_succ]
  refine sched_take (v := ?_) rfl (by kernel_rfl) (HS.out _ b1) ?_ ?_
  rotate_left
  · rintro w9 ⟨q0, q1, q2, q3, q4, q5⟩
    go_simp
    try with_reducible rfl
  try simp only [Act.put, List.setIfInBounds_toArray, List.set_cons_zero, List.set_cons_succ]
  refine sched_take (v := ?_) rfl (by kernel_rfl) (HS.out _ b1) ?_ ?_
  rotate_left
  · rintro w9 ⟨q0, q1, q2, q3, q4, q5⟩
    go_simp
    try with_reducible rfl
  try simp only [Act.put, List.setIfInBounds_toArray, List.set_cons_zero, List.set_cons_succ]
  refine sched_take (v := ?_) rfl (by kernel_rfl) (HS.out _ b1) ?_ ?_
  rotate_left
  · rintro w9 ⟨q0, q1, q2, q3, q4, q5⟩
    go_simp
    try with_reducible rfl
  try simp only [Act.put, List.setIfInBounds_toArray, List.set_cons_zero, List.set_cons_succ]
  refine sched_take (v := ?_) rfl (by kernel_rfl) (HS.out _ b1) ?_ ?_
  rotate_left
  · rintro w9 ⟨q0, q1, q2, q3, q4, q5⟩
    go_simp
    try with_reducible rfl
  try simp only [Act.put, List.setIfInBounds_toArray, List.set_cons_zero, List.set_cons_succ]
  refine sched_run rfl (by kernel_rfl) fun K hK => ?_
  refine wp_call_of 10 _ _ (by rfl) #[.int .i64 te] (by simp [Act.eval]) (Try.call10 _ _) (pnum10_any _ _) ?_
  rintro e w' ⟨rfl, rfl⟩
  refine ⟨_, rfl, hK _ _ (HS.out _ b1) ?_⟩
  clear hK K
  try simp only [Act.put, List.setIfInBounds_toArray, List.set_cons_zero, List.set_cons_succ]
  refine sched_take (v := ?_) rfl (by kernel_rfl) (HS.out _ b1) ?_ ?_
  rotate_left
  · rintro w9 ⟨q0, q1, q2, q3, q4, q5⟩
    go_simp
    try with_reducible rfl
  try simp only [Act.put, List.setIfInBounds_toArray, List.set_cons_zero, List.set_cons_succ]
  refine sched_take (v := ?_) rfl (by kernel_rfl) (HS.out _ b1) ?_ ?_
  rotate_left
  · rintro w9 ⟨q0, q1, q2, q3, q4, q5⟩
    go_simp
    try with_reducible rfl
  try simp only [Act.put, List.setIfInBounds_toArray, List.set_cons_zero, List.set_cons_succ]
  refine sched_take (v := ?_) rfl (by kernel_rfl) (HS.out _ b1) ?_ ?_
  rotate_left
  · rintro w9 ⟨q0, q1, q2, q3, q4, q5⟩
    go_simp
    try with_reducible rfl
  try simp only [Act.put, List.setIfInBounds_toArray, List.set_cons_zero, List.set_cons_succ]
  refine sched_take (v := ?_) rfl (by kernel_rfl) (HS.out _ b1) ?_ ?_
  rotate_left
  · rintro w9 ⟨q0, q1, q2, q3, q4, q5⟩
    go_simp
    try with_reducible rfl
  try simp only [Act.put, List.setIfInBounds_toArray, List.set_cons_zero, List.set_cons_succ]
  refine sched_take (v := ?_) rfl (by kernel_rfl) (HS.out _ b1) ?_ ?_
  rotate_left
  · rintro w9 ⟨q0, q1, q2, q3, q4, q5⟩
    go_simp
    try with_reducible rfl
  try simp only [Act.put, List.setIfInBounds_toArray, List.set_cons_zero, List.set_cons_succ]
  refine sched_run rfl (by kernel_rfl) fun K hK => ?_
  refine wp_call_of 20 _ _ (by rfl) #[.agg #[.int .i64 root, .int .i64 next, .slice a1 N c1]] (by simp [Act.eval]) (Try.call20 _ _) ((CALLS.out _ b1).2.1) ?_
  rintro e v2 ⟨rfl, bb⟩
  have b2 : Below w5.heap.size w5 v2 := b1.trans (bb.mono b1.size)
  clear bb
  refine ⟨_, rfl, hK _ _ (HS.out _ b2) ?_⟩
  clear hK K
  try simp only [Act.put, List.setIfInBounds_toArray, List.set_cons_zero, List.set_cons_succ]
  refine sched_run rfl (by kernel_rfl) fun K hK => ?_
  refine wp_call_of 10 _ _ (by rfl) #[.int .i64 CK] (by simp [Act.eval]) (Try.call10 _ _) (pnum10_any _ _) ?_
  rintro e w' ⟨rfl, rfl⟩
  refine ⟨_, rfl, hK _ _ (HS.out _ b2) ?_⟩
  clear hK K
  try simp only [Act.put, List.setIfInBounds_toArray, List.set_cons_zero, List.set_cons_succ]
  refine sched_run rfl (by kernel_rfl) fun K hK => ?_
  refine wp_call_of 21 _ _ (by rfl) #[.agg #[.int .i64 root, .int .i64 next, .slice a N c]] (by simp [Act.eval]) (Try.call21 _ _) ((CALLS.out _ b2).2.2) ?_
  rintro e v3 ⟨rfl, bb⟩
  have b3 : Below w5.heap.size w5 v3 := b2.trans (bb.mono b2.size)
  clear bb
  refine ⟨_, rfl, hK _ _ (HS.out _ b3) ?_⟩
  clear hK K
  try simp only [Act.put, List.setIfInBounds_toArray, List.set_cons_zero, List.set_cons_succ]
  refine sched_take (v := ?_) rfl (by kernel_rfl) (HS.out _ b3) ?_ ?_
  rotate_left
  · rintro w9 ⟨q0, q1, q2, q3, q4, q5⟩
    go_simp
    try with_reducible rfl
  try simp only [Act.put, List.setIfInBounds_toArray, List.set_cons_zero, List.set_cons_succ]
  refine sched_take (v := ?_) rfl (by kernel_rfl) (HS.out _ b3) ?_ ?_
  rotate_left
  · rintro w9 ⟨q0, q1, q2, q3, q4, q5⟩
    go_simp
    try with_reducible rfl
  try simp only [Act.put, List.setIfInBounds_toArray, List.set_cons_zero, List.set_cons_succ]
  refine sched_take (v := ?_) rfl (by kernel_rfl) (HS.out _ b3) ?_ ?_
  rotate_left
  · rintro w9 ⟨q0, q1, q2, q3, q4, q5⟩
    go_simp
    try with_reducible rfl
  try simp only [Act.put, List.setIfInBounds_toArray, List.set_cons_zero, List.set_cons_succ]
  refine sched_take (v := ?_) rfl (by kernel_rfl) (HS.out _ b3) ?_ ?_
  rotate_left
  · rintro w9 ⟨q0, q1, q2, q3, q4, q5⟩
    go_simp
    try with_reducible rfl
  try simp only [Act.put, List.setIfInBounds_toArray, List.set_cons_zero, List.set_cons_succ]
  refine sched_take (v := ?_) rfl (by kernel_rfl) (HS.out _ b3) ?_ ?_
  rotate_left
  · rintro w9 ⟨q0, q1, q2, q3, q4, q5⟩
    go_simp
    try with_reducible rfl
  try simp only [Act.put, List.setIfInBounds_toArray, List.set_cons_zero, List.set_cons_succ]
  refine sched_take (v := ?_) rfl (by kernel_rfl) (HS.out _ b3) ?_ ?_
  rotate_left
  · rintro w9 ⟨q0, q1, q2, q3, q4, q5⟩
    go_simp
    try with_reducible rfl
  try simp only [Act.put, List.setIfInBounds_toArray, List.set_cons_zero, List.set_cons_succ]
  refine sched_take (v := ?_) rfl (by kernel_rfl) (HS.out _ b3) ?_ ?_
  rotate_left
  · rintro w9 ⟨q0, q1, q2, q3, q4, q5⟩
    go_simp
    try with_reducible rfl
  try simp only [Act.put, List.setIfInBounds_toArray, List.set_cons_zero, List.set_cons_succ]
  refine sched_take (v := ?_) rfl (by kernel_rfl) (HS.out _ b3) ?_ ?_
  rotate_left
  · rintro w9 ⟨q0, q1, q2, q3, q4, q5⟩
    go_simp
    try with_reducible rfl
  try simp only [Act.put, List.setIfInBounds_toArray, List.set_cons_zero, List.set_cons_succ]
  refine sched_take (v := ?_) rfl (by kernel_rfl) (HS.out _ b3) ?_ ?_
  rotate_left
  · rintro w9 ⟨q0, q1, q2, q3, q4, q5⟩
    go_simp
    try with_reducible rfl
  try simp only [Act.put, List.setIfInBounds_toArray, List.set_cons_zero, List.set_cons_succ]
  refine sched_take (v := ?_) rfl (by kernel_rfl) (HS.out _ b3) ?_ ?_
  rotate_left
  · rintro w9 ⟨q0, q1, q2, q3, q4, q5⟩
    go_simp
    try with_reducible rfl
  try simp only [Act.put, List.setIfInBounds_toArray, List.set_cons_zero, List.set_cons_succ]
  show wpList _ _ _ _ _ _
  simp only [List.getElem_toArray, List.getElem_cons_succ, List.getElem_cons_zero, Act.put, List.setIfInBounds_toArray, List.set_cons_zero, List.set_cons_succ]
  have B6 := hide b3
  clear b0 b1 b2 b3
  dsimp only [List.drop]
  go_wp2
  have hNb : N ≤ 4398046511104 := by have h1 := HL.out; have h2 := hN.out; omega
  clear CALLS
  go_loopw [20] (fun p wr => ∃ k : Nat, k ≤ N ∧ p = .int .i64 k ∧ Hid (Below w5.heap.size w5 wr)) (fun p _ => N - (intOf p).toNat)
  case atStart => exact ⟨0, Nat.zero_le _, rfl, B6⟩
  case round =>
    obtain ⟨k, hk, rfl, hI⟩ := hrel
    clear B6
    obtain ⟨D0, D1, D2, X0, X1, X2⟩ := HS.out wr hI.out
    by_cases hlt : k < N
    · have hq : (k : Int) < (N : Int) := by omega
      obtain ⟨y, hy⟩ : ∃ y, ps[k]? = some y := ⟨_, List.getElem?_eq_getElem (by rw [← hN.out]; exact hlt)⟩
      obtain ⟨b, off, u, e1, hc1, hc2, hr⟩ := R5.out.wrt hy
      obtain ⟨b', off', u', e1', hc1', hc2', hr'⟩ := Q5.out.wrt hy
      subst e1 e1'
      obtain ⟨z, x⟩ := y
      dsimp only at hc1 hc2 hr hc1' hc2' hr'
      obtain ⟨au, cu, rfl⟩ := hr.slice
      obtain ⟨au', cu', rfl⟩ := hr'.slice
      have bd : Below wr.heap.size wr wr.drew := below_drewN' wr 1 _
      have bwd := hI.out.trans (bd.mono hI.out.size)
      have KC := hide (same_any wr.drew _ _ x x (hr'.to bwd) (hr.to bwd))
      rw [sameB_self] at KC
      have d1 := (bwd.cell (cell_lt hc1)).trans hc1
      have d2 := (bwd.cell (cell_lt hc2)).trans hc2
      have d3 := (bwd.cell (cell_lt hc1')).trans hc1'
      have d4 := (bwd.cell (cell_lt hc2')).trans hc2'
      have HSd := HS.out _ bwd
      have HB := hide bwd
      obtain ⟨XL, hXL⟩ : ∃ XL, XL = x.length := ⟨_, rfl⟩
      rw [← hXL] at KC d2 d4
      clear hr hr' hc1 hc2 hc1' hc2' bwd bd hI hXL hy
      go_upto_region 11 with fail
      clear D0 D1 D2 X0 X1 X2
      refine wp_region_mid (fun w9 => (w9.cell? ⟨w.heap.size, 0, none⟩ = some (.int .i64 root) ∧ w9.cell? ⟨w.heap.size, 1, none⟩ = some (.int .i64 next) ∧ w9.cell? ⟨w.heap.size, 2, none⟩ = some (.slice (some ⟨b, off, none⟩) N c) ∧ w9.cell? ⟨w1.heap.size, 0, none⟩ = some (.int .i64 root) ∧ w9.cell? ⟨w1.heap.size, 1, none⟩ = some (.int .i64 next) ∧ w9.cell? ⟨w1.heap.size, 2, none⟩ = some (.slice (some ⟨b', off', none⟩) N c1)) ∧ w9.cell? ⟨b, off + k * 2, none⟩ = some (.int .i64 z) ∧ w9.cell? ⟨b, off + k * 2 + 1, none⟩ = some (.slice au XL cu) ∧ w9.cell? ⟨b', off' + k * 2, none⟩ = some (.int .i64 z) ∧ w9.cell? ⟨b', off' + k * 2 + 1, none⟩ = some (.slice au' XL cu')) 26 28 mixed (by kernel_rfl) (fun _ _ _ _ h => h) ⟨HSd, d1, d2, d3, d4⟩ ?_
      dsimp only [List.take, List.drop]
      iterate 26
        refine take_one (v := ?_) (by rfl) ?_ ?_
        rotate_left
        · rintro w9 ⟨⟨q0, q1, q2, q3, q4, q5⟩, s1, s2, s3, s4⟩
          go_simp
          try with_reducible rfl
        try simp only [Act.put, List.setIfInBounds_toArray, List.set_cons_zero, List.set_cons_succ]
      refine mid_one fun K hK => ?_
      rw [if_pos (by rfl)]
      refine wp_call_of 13 _ _ (by rfl) #[.slice au' XL cu', .slice au XL cu] (by simp [Act.eval]) (Try.call13 _ _) KC.out ?_
      rintro e w2 ⟨rfl, n2, hw2⟩
      have b2 : Below wr.drew.heap.size wr.drew w2 := by rw [hw2]; exact below_drewN' _ _ _
      have B7 := HB.out.trans (b2.mono HB.out.size)
      have HS7 := HS.out _ B7
      have e1 := (b2.cell (cell_lt d1)).trans d1
      have e2 := (b2.cell (cell_lt d2)).trans d2
      have e3 := (b2.cell (cell_lt d3)).trans d3
      have e4 := (b2.cell (cell_lt d4)).trans d4
      clear hw2
      refine ⟨_, rfl, hK _ _ ⟨HS7, e1, e2, e3, e4⟩ ?_⟩
      clear hK K
      try simp only [Act.put, List.setIfInBounds_toArray, List.set_cons_zero, List.set_cons_succ]
      refine mid_one fun K hK => ?_
      rw [if_pos (by rfl)]
      go_simp
      refine hK _ _ ⟨HS7, e1, e2, e3, e4⟩ ?_
      clear hK K
      have I7 := hide B7
      clear e1 e2 e3 e4 d1 d2 d3 d4 HS7 B7 b2 KC HSd HB
      show wpList _ _ _ _ _ _
      go_wp2
      go_roundw
      case rel => exact ⟨k + 1, by omega, by go_num, I7⟩
      case measure => simp [intOf]; omega
    · have hq : ¬ (k : Int) < (N : Int) := by omega
      have KA := hide (palive10_any wr)
      go_wp2_with fail
      refine KA.out.mono ?_
      rintro e w8 ⟨rfl, b8⟩
      have BZ := hide (E5.out.trans ((hI.out.trans (b8.mono hI.out.size)).mono E5.out.size))
      clear b8 D0 D1 D2 X0 X1 X2
      go_wp2
      go_ret
      exact ⟨rfl, BZ.out⟩

set_option maxRecDepth 100000 in
theorem lifted (os : Os) (started : os.Started) (H : Type) (enc : TypeId × Value → H) :
    ReturnsInHanded {} Try.checked os 4 .any (Rows.treeChecksSpec.pre6 enc Try.prog Try.f4 Rows.treeChecksRow.domain false) (Rows.treeChecksSpec.post enc Try.prog Try.f4 false true false false) := by
  refine returnsInHanded_of_change_sized (C := Try.checked) own started (by kernel_rfl) Try.func4
    (ChangeSpec.witness6 (enc := enc) (C := Try.checked) false ⟨#[], #[.agg #[.int .i64 0, .int .i64 0, .slice none 0 0], .string ⟨#[]⟩, .string ⟨#[]⟩, .string ⟨#[]⟩], []⟩ 8 (by kernel_rfl) (by kernel_rfl) (by kernel_rfl) (by kernel_rfl)) ?_
  intro W base args ds gs before hval0 hW hcnd hsz0 _
  have hsz : (DataW.weightsEach Try.prog (Try.f4.params.toList ++ Rows.treeChecksSpec.plain.varTypes Try.prog) (ds ++ gs)).all (· ≤ reachBytes) = true := hsz0
  have hval : ∀ (j : Nat) t v, Try.f4.params[j]? = some t → args[j]? = some v → Value.okWide Try.prog W .any base t v := hval0
  have hW' := hW
  obtain ⟨p, q, hA0, hV, rfl, hfz, hnd⟩ := hW
  have hA : DataW.TrodAll enc Try.prog W 0 (fun _ => true) true Try.f4.params.toList args.toList ds p := hA0
  rw [Try.params4] at hA hval hsz
  obtain ⟨v0, vs0, d0, ds0, p0, q0, hargs, rfl, rfl, h0, r0⟩ := trodAll_cons hA
  obtain ⟨v1, vs1, d1, ds1, p1, q1, rfl, rfl, rfl, h1, r1⟩ := trodAll_cons r0
  obtain ⟨v2, vs2, d2, ds2, p2, q2, rfl, rfl, rfl, h2, r2⟩ := trodAll_cons r1
  obtain ⟨v3, vs3, d3, ds3, p3, q3, rfl, rfl, rfl, h3, r3⟩ := trodAll_cons r2
  obtain ⟨rfl, rfl, rfl⟩ := trodAll_nil r3
  obtain rfl : args = #[v0, v1, v2, v3] := by cases args; simp_all
  obtain ⟨rfl, rfl⟩ := trodVars_none hV
  obtain ⟨cs0, rfl, _⟩ := okWide_struct Try.underlying50 (hval 0 50 v0 rfl rfl)
  have lt0 : ∀ x ∈ p0, x.block < W.heap.size := by obtain ⟨m, hm⟩ := h0; exact DataW.trod_lt m _ _ _ hm
  have hh0 := h0
  obtain ⟨fu0, hf0⟩ := hh0
  obtain ⟨x0, g0, f0, b0⟩ := open_tree.opened hf0
  obtain ⟨x1, rfl, rfl, rfl, sl1⟩ := open_str Try.underlying9 (hval 1 9 v1 rfl rfl) h1
  obtain ⟨x2, rfl, rfl, rfl, sl2⟩ := open_str Try.underlying9 (hval 2 9 v2 rfl rfl) h2
  obtain ⟨x3, rfl, rfl, rfl, sl3⟩ := open_str Try.underlying9 (hval 3 9 v3 rfl rfl) h3
  have m0 := f0 (reach_of hsz (j := 0) rfl rfl)
  clear hA0 hval0 hsz0 hsz
  refine (walk W cs0 x0 g0 m0 x1 sl1 x2 sl2 x3 sl3).mono fun e W' ⟨he, bel⟩ => ?_
  subst he
  exact ⟨_, rfl, _, _, _, [], _, [], hW', trodAll_mk1 (shut_bool Try.underlying4 _), (trodAll_cons_mk (Below.trod laidOut (by kernel_rfl) (of_decide_eq_true (by kernel_rfl)) h0 bel lt0) (trodAll_cons_mk (shut_str Try.underlying9 sl1) (trodAll_cons_mk (shut_str Try.underlying9 sl2) (trodAll_cons_mk (shut_str Try.underlying9 sl3) trodAll_mk0)))), rfl, bel.frame _, fun h => by cases h⟩

theorem over : Rows.treeChecksRow.holds Try.pinned (OpenSpec.ofChange Rows.treeChecksSpec) :=
  OpenClaim.holds_of_wide 4 Try.f4 rfl rfl rfl rfl rfl rfl rfl ⟨rfl, rfl, rfl, rfl, rfl⟩ rfl rfl rfl rfl rfl (by kernel_rfl) Try.func4 (by kernel_rfl)
    (of_decide_eq_true (by kernel_rfl)) (by unfold Func.isWrapper; first | (rw [if_pos (by decide +kernel)]; kernel_rfl) | (rw [if_neg (by decide +kernel)]; exact ⟨rfl, rfl⟩))
    (fun os started H enc _ => lifted os started H enc)

end Go.Proofs.Ytgmkknonnidgaaa.treeChecks
namespace Go.Proofs.Ytgmkknonnidgaaa
/-- THE STATEMENT -/
theorem treeChecks_holds : Rows.TreeChecksSaid := treeChecks.over
end Go.Proofs.Ytgmkknonnidgaaa
