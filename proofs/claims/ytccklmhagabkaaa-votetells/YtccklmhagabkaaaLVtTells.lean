/-
  The walk of the law VoteTells, over what the program's calls say. (Written by gen16t.py.)
-/
import Derived.Deep.CutRange
import Derived.Test.YtccklmhagabkaaaRFan
import Derived.Test.YtccklmhagabkaaaStep
import Derived.Test.YtccklmhagabkaaaVtB
import Derived.Test.YtccklmhagabkaaaVtI
namespace Go.Proofs.Ytccklmhagabkaaa.voteTells
open Go.RowKit
set_option linter.unusedVariables false
set_option linter.unusedSimpArgs false

set_option maxRecDepth 100000 in
set_option maxHeartbeats 8000000 in
theorem walk0 (S : VoteSay) (w : World) (cs0 : Array Value) (z0 : Vs3) (g0 : SVs16.rd w cs0.toList z0) (m0 : vs3fit z0) (own : Int) (h1 : (Lit.int .i64 own).wf = true) (ot : Int) (h2 : (Lit.int .i64 ot).wf = true) (cs3 : Array Value) (z3 : Vq4) (g3 : SVq16.rd w cs3.toList z3) (m3 : vq4fit z3) (tm : Int) (h4 : (Lit.int .i64 tm).wf = true) :
    Calls Try.prog 3 #[.agg cs0, .int .i64 own, .int .i64 ot, .agg cs3, .int .i64 tm] w fun e w' => e = .returned (.bool true) ∧ Below w.heap.size w w' := by
  obtain ⟨e0, f0⟩ := vs_form g0 m0
  obtain ⟨e3, f3⟩ := vq_form g3 m3
  rw [e0, e3]
  generalize vsOf z0 = s at *
  generalize vqOf z3 = a at *
  have K1 := fun w => S.dec w s own ot a f0 (wfj h1) (wfj h2) f3
  have R1 := fun w => vrdec_any w s own ot a
  have K3 := fun w => S.turn w s tm f0 (wfj h4)
  have R3 := fun w => vrturn_any w s tm
  have KC := hide (fun w => S.chk w s f0)
  have RC := hide (fun w => vrcheck_any w s)
  have KN := fun w => S.newer w a.last a.lterm own ot f3.l f3.u (wfj h1) (wfj h2)
  have RN : ∀ w, Calls Try.prog 15 #[.int .i64 a.last, .int .i64 a.lterm, .int .i64 own, .int .i64 ot] w fun e w' => e = .returned (.bool (vnewer a.last a.lterm own ot)) ∧ Below w.heap.size w w' := fun w => (vrnewer_any w a.last a.lterm own ot).mono fun e w' h => ⟨h.1, by rw [h.2]; exact Below.refl _ _⟩
  have KA := hide (fun w => vtalive_any S w)
  have NU : Hid (∀ w x, Calls Try.prog 11 #[.int .i64 x] w fun e w' => e = .returned (.int .i64 x) ∧ Below w.heap.size w w') := fun w x => (num16_any w x).mono fun e w' h => ⟨h.1, by rw [h.2]; exact Below.refl _ _⟩
  obtain ⟨⟨⟨d1, d2, d3⟩, db, de⟩, hD⟩ : ∃ D, D = vdec s own ot a := ⟨_, rfl⟩
  obtain ⟨⟨⟨u1, u2, u3⟩, ub, ue⟩, hU⟩ : ∃ D, D = vturn s tm := ⟨_, rfl⟩
  obtain ⟨ce, hC⟩ : ∃ c, c = vcheck s := ⟨_, rfl⟩
  obtain ⟨nb, hN⟩ : ∃ c, c = vnewer a.last a.lterm own ot := ⟨_, rfl⟩
  simp only [← hD] at K1 R1
  simp only [← hU] at K3 R3
  simp only [← hC] at KC RC
  simp only [← hN] at KN RN
  obtain ⟨st, sh, sw⟩ := s
  obtain ⟨at_, af, al, au⟩ := a
  dsimp only [sv16, av16] at K1 R1 K3 R3 KC RC KN RN ⊢
  replace K1 := hide K1
  replace R1 := hide R1
  replace K3 := hide K3
  replace R3 := hide R3
  replace KN := hide KN
  replace RN := hide RN
  clear hD hU hC hN e0 e3 f0 f3 g0 m0 g3 m3 S h1 h2 h4
  obtain ⟨W0, hW0, DS, bW0, sW0⟩ := boxedN w #[.int .i64 st, .bool sh, .int .i64 sw] 23
  obtain ⟨W, hW, DA, bW1, sW1⟩ := boxedN W0 #[.int .i64 at_, .int .i64 af, .int .i64 al, .int .i64 au] 25
  rw [sW0] at DA
  replace DS := (bW1.block _ (lt_of_block DS)).trans DS
  have bW := hide (bW0.trans (bW1.mono bW0.size))
  have hWW : Hid (W = (w.alloc (.cells #[.int .i64 st, .bool sh, .int .i64 sw] 23)).alloc (.cells #[.int .i64 at_, .int .i64 af, .int .i64 al, .int .i64 au] 25)) := by rw [hW0] at hW; exact hW
  obtain ⟨⟨S0, S1, S2⟩, _⟩ := cells3v DS
  obtain ⟨⟨A0, A1, A2, A3⟩, _⟩ := cells4v DA
  have H0 : Hid (∀ U, Below W.heap.size W U → U.heap[w.heap.size]? = some (.cells #[.int .i64 st, .bool sh, .int .i64 sw] 23 (0, 0)) ∧ U.heap[w.heap.size + 1]? = some (.cells #[.int .i64 at_, .int .i64 af, .int .i64 al, .int .i64 au] 25 (0, 0))) := fun U b => ⟨(b.block _ (lt_of_block DS)).trans DS, (b.block _ (lt_of_block DA)).trans DA⟩
  rw [hWW.out] at S0 S1 S2 A0 A1 A2 A3
  clear DS DA bW0 bW1 sW0 sW1 hW hW0
  go_enter Try.func3, Try.ntmps3
  go_wp2_with fail
  rw [← hWW.out]
  refine (K1.out _).mono ?_
  rintro e w1 ⟨rfl, b1⟩
  have c1 := hide (b1)
  obtain ⟨V1, hV1, D1, bV1, sV1⟩ := boxedN w1 #[.int .i64 d1, .bool d2, .int .i64 d3] 26
  have HB1 := hide (c1.out.trans (bV1.mono c1.out.size))
  have hVV1 := hide hV1
  have HL1 := hide (b1.trans (bV1.mono b1.size))
  have HD1 : Hid (∀ U, Below V1.heap.size V1 U → U.heap[w1.heap.size]? = some (.cells #[.int .i64 d1, .bool d2, .int .i64 d3] 26 (0, 0))) := fun U b => (b.block _ (lt_of_block D1)).trans D1
  clear S0 S1 S2 A0 A1 A2 A3 b1 D1 bV1 sV1
  obtain ⟨⟨S0, S1, S2⟩, _⟩ := cells3v (H0.out _ HB1.out).1
  obtain ⟨⟨A0, A1, A2, A3⟩, _⟩ := cells4v (H0.out _ HB1.out).2
  rw [hV1] at S0 S1 S2 A0 A1 A2 A3
  clear hV1
  go_wp2_with fail
  rw [← hVV1.out]
  refine (R1.out _).mono ?_
  rintro e w2 ⟨rfl, b2⟩
  have c2 := hide (HB1.out.trans (b2.mono HB1.out.size))
  obtain ⟨V2, hV2, D2, bV2, sV2⟩ := boxedN w2 #[.int .i64 d1, .bool d2, .int .i64 d3] 23
  have HB2 := hide (c2.out.trans (bV2.mono c2.out.size))
  have hVV2 := hide hV2
  have HL2 := hide (b2.trans (bV2.mono b2.size))
  have HD2 : Hid (∀ U, Below V2.heap.size V2 U → U.heap[w2.heap.size]? = some (.cells #[.int .i64 d1, .bool d2, .int .i64 d3] 23 (0, 0))) := fun U b => (b.block _ (lt_of_block D2)).trans D2
  clear S0 S1 S2 A0 A1 A2 A3 b2 D2 bV2 sV2
  obtain ⟨⟨S0, S1, S2⟩, _⟩ := cells3v (H0.out _ HB2.out).1
  rw [hV2] at S0 S1 S2
  clear hV2
  go_wp2_with fail
  rw [← hVV2.out]
  refine (K3.out _).mono ?_
  rintro e w3 ⟨rfl, b3⟩
  have c3 := hide (HB2.out.trans (b3.mono HB2.out.size))
  obtain ⟨V3, hV3, D3, bV3, sV3⟩ := boxedN w3 #[.int .i64 u1, .bool u2, .int .i64 u3] 26
  have HB3 := hide (c3.out.trans (bV3.mono c3.out.size))
  have hVV3 := hide hV3
  have HL3 := hide (b3.trans (bV3.mono b3.size))
  have HD3 : Hid (∀ U, Below V3.heap.size V3 U → U.heap[w3.heap.size]? = some (.cells #[.int .i64 u1, .bool u2, .int .i64 u3] 26 (0, 0))) := fun U b => (b.block _ (lt_of_block D3)).trans D3
  clear S0 S1 S2 b3 D3 bV3 sV3
  obtain ⟨⟨S0, S1, S2⟩, _⟩ := cells3v (H0.out _ HB3.out).1
  rw [hV3] at S0 S1 S2
  clear hV3
  go_wp2_with fail
  rw [← hVV3.out]
  refine (R3.out _).mono ?_
  rintro e w4 ⟨rfl, b4⟩
  have c4 := hide (HB3.out.trans (b4.mono HB3.out.size))
  obtain ⟨V4, hV4, D4, bV4, sV4⟩ := boxedN w4 #[.int .i64 u1, .bool u2, .int .i64 u3] 23
  have HB4 := hide (c4.out.trans (bV4.mono c4.out.size))
  have hVV4 := hide hV4
  have HL4 := hide (b4.trans (bV4.mono b4.size))
  have HD4 : Hid (∀ U, Below V4.heap.size V4 U → U.heap[w4.heap.size]? = some (.cells #[.int .i64 u1, .bool u2, .int .i64 u3] 23 (0, 0))) := fun U b => (b.block _ (lt_of_block D4)).trans D4
  clear S0 S1 S2 b4 D4 bV4 sV4
  have HS : Hid (∀ U, Below V4.heap.size V4 U → ((U.cell? ⟨w.heap.size, 0, none⟩ = some (.int .i64 st) ∧ U.cell? ⟨w.heap.size, 1, none⟩ = some (.bool sh) ∧ U.cell? ⟨w.heap.size, 2, none⟩ = some (.int .i64 sw)) ∧ (U.cell? ⟨(w.heap.size + 1), 0, none⟩ = some (.int .i64 at_) ∧ U.cell? ⟨(w.heap.size + 1), 1, none⟩ = some (.int .i64 af) ∧ U.cell? ⟨(w.heap.size + 1), 2, none⟩ = some (.int .i64 al) ∧ U.cell? ⟨(w.heap.size + 1), 3, none⟩ = some (.int .i64 au)) ∧ (U.cell? ⟨w1.heap.size, 0, none⟩ = some (.int .i64 d1) ∧ U.cell? ⟨w1.heap.size, 1, none⟩ = some (.bool d2) ∧ U.cell? ⟨w1.heap.size, 2, none⟩ = some (.int .i64 d3)) ∧ (U.cell? ⟨w2.heap.size, 0, none⟩ = some (.int .i64 d1) ∧ U.cell? ⟨w2.heap.size, 1, none⟩ = some (.bool d2) ∧ U.cell? ⟨w2.heap.size, 2, none⟩ = some (.int .i64 d3)) ∧ (U.cell? ⟨w3.heap.size, 0, none⟩ = some (.int .i64 u1) ∧ U.cell? ⟨w3.heap.size, 1, none⟩ = some (.bool u2) ∧ U.cell? ⟨w3.heap.size, 2, none⟩ = some (.int .i64 u3)) ∧ (U.cell? ⟨w4.heap.size, 0, none⟩ = some (.int .i64 u1) ∧ U.cell? ⟨w4.heap.size, 1, none⟩ = some (.bool u2) ∧ U.cell? ⟨w4.heap.size, 2, none⟩ = some (.int .i64 u3)))) := fun U b => by
    have b3 := HL4.out.trans (b.mono HL4.out.size)
    have b2 := HL3.out.trans (b3.mono HL3.out.size)
    have b1 := HL2.out.trans (b2.mono HL2.out.size)
    obtain ⟨k1, k2⟩ := H0.out U (HB4.out.trans (b.mono HB4.out.size))
    exact ⟨(cells3v k1).1, (cells4v k2).1, (cells3v (HD1.out U b1)).1, (cells3v (HD2.out U b2)).1, (cells3v (HD3.out U b3)).1, (cells3v (HD4.out U b)).1⟩
  have HW : Hid (∀ U, Below V4.heap.size V4 U → Below w.heap.size w U) := fun U b => by
    have c := HB4.out.trans (b.mono HB4.out.size)
    exact bW.out.trans (c.mono bW.out.size)
  have b0 := (Below.refl V4.heap.size V4).drew
  clear H0 HB1 HB2 HB3 HB4 HL1 HL2 HL3 HL4 HD1 HD2 HD3 HD4 K1 R1 K3 R3 c1 c2 c3 c4 hVV1 hVV2 hVV3
  go_upto_region 5 with fail
  rw [← hVV4.out]
  clear hVV4 hV4
  refine wp_region_fan (fun w9 => (w9.cell? ⟨w.heap.size, 0, none⟩ = some (.int .i64 st) ∧ w9.cell? ⟨w.heap.size, 1, none⟩ = some (.bool sh) ∧ w9.cell? ⟨w.heap.size, 2, none⟩ = some (.int .i64 sw)) ∧ (w9.cell? ⟨(w.heap.size + 1), 0, none⟩ = some (.int .i64 at_) ∧ w9.cell? ⟨(w.heap.size + 1), 1, none⟩ = some (.int .i64 af) ∧ w9.cell? ⟨(w.heap.size + 1), 2, none⟩ = some (.int .i64 al) ∧ w9.cell? ⟨(w.heap.size + 1), 3, none⟩ = some (.int .i64 au)) ∧ (w9.cell? ⟨w1.heap.size, 0, none⟩ = some (.int .i64 d1) ∧ w9.cell? ⟨w1.heap.size, 1, none⟩ = some (.bool d2) ∧ w9.cell? ⟨w1.heap.size, 2, none⟩ = some (.int .i64 d3)) ∧ (w9.cell? ⟨w2.heap.size, 0, none⟩ = some (.int .i64 d1) ∧ w9.cell? ⟨w2.heap.size, 1, none⟩ = some (.bool d2) ∧ w9.cell? ⟨w2.heap.size, 2, none⟩ = some (.int .i64 d3)) ∧ (w9.cell? ⟨w3.heap.size, 0, none⟩ = some (.int .i64 u1) ∧ w9.cell? ⟨w3.heap.size, 1, none⟩ = some (.bool u2) ∧ w9.cell? ⟨w3.heap.size, 2, none⟩ = some (.int .i64 u3)) ∧ (w9.cell? ⟨w4.heap.size, 0, none⟩ = some (.int .i64 u1) ∧ w9.cell? ⟨w4.heap.size, 1, none⟩ = some (.bool u2) ∧ w9.cell? ⟨w4.heap.size, 2, none⟩ = some (.int .i64 u3))) 56 mixed (by simp) ?_
  generalize V4.drew = c0 at *
  refine fan_take (i := 0) (v := ?_) rfl (by kernel_rfl) (fun _ _ _ _ h => h) (by kernel_rfl) (HS.out _ b0) ?_ ?_
  rotate_left
  · rintro w9 ⟨⟨s0, s1, s2⟩, ⟨a0, a1, a2, a3⟩, ⟨x0, x1, x2⟩, ⟨y0, y1, y2⟩, ⟨p0, p1, p2⟩, q0, q1, q2⟩
    go_simp
    try with_reducible rfl
  try simp only [List.getElem_toArray, List.getElem_cons_succ, List.getElem_cons_zero, List.getElem?_toArray, List.getElem?_cons_succ, List.getElem?_cons_zero, Act.put, List.setIfInBounds_toArray, List.set_cons_zero, List.set_cons_succ]
  refine fan_take (i := 1) (v := ?_) rfl (by kernel_rfl) (fun _ _ _ _ h => h) (by kernel_rfl) (HS.out _ b0) ?_ ?_
  rotate_left
  · rintro w9 ⟨⟨s0, s1, s2⟩, ⟨a0, a1, a2, a3⟩, ⟨x0, x1, x2⟩, ⟨y0, y1, y2⟩, ⟨p0, p1, p2⟩, q0, q1, q2⟩
    go_simp
    try with_reducible rfl
  try simp only [List.getElem_toArray, List.getElem_cons_succ, List.getElem_cons_zero, List.getElem?_toArray, List.getElem?_cons_succ, List.getElem?_cons_zero, Act.put, List.setIfInBounds_toArray, List.set_cons_zero, List.set_cons_succ]
  refine fan_take (i := 2) (v := ?_) rfl (by kernel_rfl) (fun _ _ _ _ h => h) (by kernel_rfl) (HS.out _ b0) ?_ ?_
  rotate_left
  · rintro w9 ⟨⟨s0, s1, s2⟩, ⟨a0, a1, a2, a3⟩, ⟨x0, x1, x2⟩, ⟨y0, y1, y2⟩, ⟨p0, p1, p2⟩, q0, q1, q2⟩
    go_simp
    try with_reducible rfl
  try simp only [List.getElem_toArray, List.getElem_cons_succ, List.getElem_cons_zero, List.getElem?_toArray, List.getElem?_cons_succ, List.getElem?_cons_zero, Act.put, List.setIfInBounds_toArray, List.set_cons_zero, List.set_cons_succ]
  refine fan_take (i := 3) (v := ?_) rfl (by kernel_rfl) (fun _ _ _ _ h => h) (by kernel_rfl) (HS.out _ b0) ?_ ?_
  rotate_left
  · rintro w9 ⟨⟨s0, s1, s2⟩, ⟨a0, a1, a2, a3⟩, ⟨x0, x1, x2⟩, ⟨y0, y1, y2⟩, ⟨p0, p1, p2⟩, q0, q1, q2⟩
    go_simp
    try with_reducible rfl
  try simp only [List.getElem_toArray, List.getElem_cons_succ, List.getElem_cons_zero, List.getElem?_toArray, List.getElem?_cons_succ, List.getElem?_cons_zero, Act.put, List.setIfInBounds_toArray, List.set_cons_zero, List.set_cons_succ]
  refine fan_take (i := 4) (v := ?_) rfl (by kernel_rfl) (fun _ _ _ _ h => h) (by kernel_rfl) (HS.out _ b0) ?_ ?_
  rotate_left
  · rintro w9 ⟨⟨s0, s1, s2⟩, ⟨a0, a1, a2, a3⟩, ⟨x0, x1, x2⟩, ⟨y0, y1, y2⟩, ⟨p0, p1, p2⟩, q0, q1, q2⟩
    go_simp
    try with_reducible rfl
  try simp only [List.getElem_toArray, List.getElem_cons_succ, List.getElem_cons_zero, List.getElem?_toArray, List.getElem?_cons_succ, List.getElem?_cons_zero, Act.put, List.setIfInBounds_toArray, List.set_cons_zero, List.set_cons_succ]
  refine fan_take (i := 5) (v := ?_) rfl (by kernel_rfl) (fun _ _ _ _ h => h) (by kernel_rfl) (HS.out _ b0) ?_ ?_
  rotate_left
  · rintro w9 ⟨⟨s0, s1, s2⟩, ⟨a0, a1, a2, a3⟩, ⟨x0, x1, x2⟩, ⟨y0, y1, y2⟩, ⟨p0, p1, p2⟩, q0, q1, q2⟩
    go_simp
    try with_reducible rfl
  try simp only [List.getElem_toArray, List.getElem_cons_succ, List.getElem_cons_zero, List.getElem?_toArray, List.getElem?_cons_succ, List.getElem?_cons_zero, Act.put, List.setIfInBounds_toArray, List.set_cons_zero, List.set_cons_succ]
  refine fan_take (i := 6) (v := ?_) rfl (by kernel_rfl) (fun _ _ _ _ h => h) (by kernel_rfl) (HS.out _ b0) ?_ ?_
  rotate_left
  · rintro w9 ⟨⟨s0, s1, s2⟩, ⟨a0, a1, a2, a3⟩, ⟨x0, x1, x2⟩, ⟨y0, y1, y2⟩, ⟨p0, p1, p2⟩, q0, q1, q2⟩
    go_simp
    try with_reducible rfl
  try simp only [List.getElem_toArray, List.getElem_cons_succ, List.getElem_cons_zero, List.getElem?_toArray, List.getElem?_cons_succ, List.getElem?_cons_zero, Act.put, List.setIfInBounds_toArray, List.set_cons_zero, List.set_cons_succ]
  refine fan_take (i := 7) (v := ?_) rfl (by kernel_rfl) (fun _ _ _ _ h => h) (by kernel_rfl) (HS.out _ b0) ?_ ?_
  rotate_left
  · rintro w9 ⟨⟨s0, s1, s2⟩, ⟨a0, a1, a2, a3⟩, ⟨x0, x1, x2⟩, ⟨y0, y1, y2⟩, ⟨p0, p1, p2⟩, q0, q1, q2⟩
    go_simp
    try with_reducible rfl
  try simp only [List.getElem_toArray, List.getElem_cons_succ, List.getElem_cons_zero, List.getElem?_toArray, List.getElem?_cons_succ, List.getElem?_cons_zero, Act.put, List.setIfInBounds_toArray, List.set_cons_zero, List.set_cons_succ]
  refine fan_take (i := 8) (v := ?_) rfl (by kernel_rfl) (fun _ _ _ _ h => h) (by kernel_rfl) (HS.out _ b0) ?_ ?_
  rotate_left
  · rintro w9 ⟨⟨s0, s1, s2⟩, ⟨a0, a1, a2, a3⟩, ⟨x0, x1, x2⟩, ⟨y0, y1, y2⟩, ⟨p0, p1, p2⟩, q0, q1, q2⟩
    go_simp
    try with_reducible rfl
  try simp only [List.getElem_toArray, List.getElem_cons_succ, List.getElem_cons_zero, List.getElem?_toArray, List.getElem?_cons_succ, List.getElem?_cons_zero, Act.put, List.setIfInBounds_toArray, List.set_cons_zero, List.set_cons_succ]
  refine fan_take (i := 9) (v := ?_) rfl (by kernel_rfl) (fun _ _ _ _ h => h) (by kernel_rfl) (HS.out _ b0) ?_ ?_
  rotate_left
  · rintro w9 ⟨⟨s0, s1, s2⟩, ⟨a0, a1, a2, a3⟩, ⟨x0, x1, x2⟩, ⟨y0, y1, y2⟩, ⟨p0, p1, p2⟩, q0, q1, q2⟩
    go_simp
    try with_reducible rfl
  try simp only [List.getElem_toArray, List.getElem_cons_succ, List.getElem_cons_zero, List.getElem?_toArray, List.getElem?_cons_succ, List.getElem?_cons_zero, Act.put, List.setIfInBounds_toArray, List.set_cons_zero, List.set_cons_succ]
  refine fan_take (i := 11) (v := ?_) rfl (by kernel_rfl) (fun _ _ _ _ h => h) (by kernel_rfl) (HS.out _ b0) ?_ ?_
  rotate_left
  · rintro w9 ⟨⟨s0, s1, s2⟩, ⟨a0, a1, a2, a3⟩, ⟨x0, x1, x2⟩, ⟨y0, y1, y2⟩, ⟨p0, p1, p2⟩, q0, q1, q2⟩
    go_simp
    try with_reducible rfl
  try simp only [List.getElem_toArray, List.getElem_cons_succ, List.getElem_cons_zero, List.getElem?_toArray, List.getElem?_cons_succ, List.getElem?_cons_zero, Act.put, List.setIfInBounds_toArray, List.set_cons_zero, List.set_cons_succ]
  refine fan_one 10 (by kernel_rfl) ?_
  refine fan_step rfl (by kernel_rfl) fun K hK => ?_
  refine wp_call_of 11 _ _ (by rfl) #[.int .i64 de] (by simp [Act.eval]) (Try.call11 _ _) (NU.out c0 de) ?_
  rintro e c1 ⟨rfl, bb⟩
  have b1 := b0.trans (bb.mono b0.size)
  refine ⟨_, rfl, hK _ _ (HS.out _ b1) ?_⟩
  clear hK K bb
  try simp only [List.getElem_toArray, List.getElem_cons_succ, List.getElem_cons_zero, List.getElem?_toArray, List.getElem?_cons_succ, List.getElem?_cons_zero, Act.put, List.setIfInBounds_toArray, List.set_cons_zero, List.set_cons_succ]
  refine fan_take (i := 12) (v := ?_) rfl (by kernel_rfl) (fun _ _ _ _ h => h) (by kernel_rfl) (HS.out _ b1) ?_ ?_
  rotate_left
  · rintro w9 ⟨⟨s0, s1, s2⟩, ⟨a0, a1, a2, a3⟩, ⟨x0, x1, x2⟩, ⟨y0, y1, y2⟩, ⟨p0, p1, p2⟩, q0, q1, q2⟩
    go_simp
    try with_reducible rfl
  try simp only [List.getElem_toArray, List.getElem_cons_succ, List.getElem_cons_zero, List.getElem?_toArray, List.getElem?_cons_succ, List.getElem?_cons_zero, Act.put, List.setIfInBounds_toArray, List.set_cons_zero, List.set_cons_succ]
  refine fan_take (i := 13) (v := ?_) rfl (by kernel_rfl) (fun _ _ _ _ h => h) (by kernel_rfl) (HS.out _ b1) ?_ ?_
  rotate_left
  · rintro w9 ⟨⟨s0, s1, s2⟩, ⟨a0, a1, a2, a3⟩, ⟨x0, x1, x2⟩, ⟨y0, y1, y2⟩, ⟨p0, p1, p2⟩, q0, q1, q2⟩
    go_simp
    try with_reducible rfl
  try simp only [List.getElem_toArray, List.getElem_cons_succ, List.getElem_cons_zero, List.getElem?_toArray, List.getElem?_cons_succ, List.getElem?_cons_zero, Act.put, List.setIfInBounds_toArray, List.set_cons_zero, List.set_cons_succ]
  refine fan_take (i := 14) (v := ?_) rfl (by kernel_rfl) (fun _ _ _ _ h => h) (by kernel_rfl) (HS.out _ b1) ?_ ?_
  rotate_left
  · rintro w9 ⟨⟨s0, s1, s2⟩, ⟨a0, a1, a2, a3⟩, ⟨x0, x1, x2⟩, ⟨y0, y1, y2⟩, ⟨p0, p1, p2⟩, q0, q1, q2⟩
    go_simp
    try with_reducible rfl
  try simp only [List.getElem_toArray, List.getElem_cons_succ, List.getElem_cons_zero, List.getElem?_toArray, List.getElem?_cons_succ, List.getElem?_cons_zero, Act.put, List.setIfInBounds_toArray, List.set_cons_zero, List.set_cons_succ]
  refine fan_take (i := 15) (v := ?_) rfl (by kernel_rfl) (fun _ _ _ _ h => h) (by kernel_rfl) (HS.out _ b1) ?_ ?_
  rotate_left
  · rintro w9 ⟨⟨s0, s1, s2⟩, ⟨a0, a1, a2, a3⟩, ⟨x0, x1, x2⟩, ⟨y0, y1, y2⟩, ⟨p0, p1, p2⟩, q0, q1, q2⟩
    go_simp
    try with_reducible rfl
  try simp only [List.getElem_toArray, List.getElem_cons_succ, List.getElem_cons_zero, List.getElem?_toArray, List.getElem?_cons_succ, List.getElem?_cons_zero, Act.put, List.setIfInBounds_toArray, List.set_cons_zero, List.set_cons_succ]
  refine fan_take (i := 16) (v := ?_) rfl (by kernel_rfl) (fun _ _ _ _ h => h) (by kernel_rfl) (HS.out _ b1) ?_ ?_
  rotate_left
  · rintro w9 ⟨⟨s0, s1, s2⟩, ⟨a0, a1, a2, a3⟩, ⟨x0, x1, x2⟩, ⟨y0, y1, y2⟩, ⟨p0, p1, p2⟩, q0, q1, q2⟩
    go_simp
    try with_reducible rfl
  try simp only [List.getElem_toArray, List.getElem_cons_succ, List.getElem_cons_zero, List.getElem?_toArray, List.getElem?_cons_succ, List.getElem?_cons_zero, Act.put, List.setIfInBounds_toArray, List.set_cons_zero, List.set_cons_succ]
  refine fan_take (i := 17) (v := ?_) rfl (by kernel_rfl) (fun _ _ _ _ h => h) (by kernel_rfl) (HS.out _ b1) ?_ ?_
  rotate_left
  · rintro w9 ⟨⟨s0, s1, s2⟩, ⟨a0, a1, a2, a3⟩, ⟨x0, x1, x2⟩, ⟨y0, y1, y2⟩, ⟨p0, p1, p2⟩, q0, q1, q2⟩
    go_simp
    try with_reducible rfl
  try simp only [List.getElem_toArray, List.getElem_cons_succ, List.getElem_cons_zero, List.getElem?_toArray, List.getElem?_cons_succ, List.getElem?_cons_zero, Act.put, List.setIfInBounds_toArray, List.set_cons_zero, List.set_cons_succ]
  refine fan_take (i := 18) (v := ?_) rfl (by kernel_rfl) (fun _ _ _ _ h => h) (by kernel_rfl) (HS.out _ b1) ?_ ?_
  rotate_left
  · rintro w9 ⟨⟨s0, s1, s2⟩, ⟨a0, a1, a2, a3⟩, ⟨x0, x1, x2⟩, ⟨y0, y1, y2⟩, ⟨p0, p1, p2⟩, q0, q1, q2⟩
    go_simp
    try with_reducible rfl
  try simp only [List.getElem_toArray, List.getElem_cons_succ, List.getElem_cons_zero, List.getElem?_toArray, List.getElem?_cons_succ, List.getElem?_cons_zero, Act.put, List.setIfInBounds_toArray, List.set_cons_zero, List.set_cons_succ]
  refine fan_take (i := 19) (v := ?_) rfl (by kernel_rfl) (fun _ _ _ _ h => h) (by kernel_rfl) (HS.out _ b1) ?_ ?_
  rotate_left
  · rintro w9 ⟨⟨s0, s1, s2⟩, ⟨a0, a1, a2, a3⟩, ⟨x0, x1, x2⟩, ⟨y0, y1, y2⟩, ⟨p0, p1, p2⟩, q0, q1, q2⟩
    go_simp
    try with_reducible rfl
  try simp only [List.getElem_toArray, List.getElem_cons_succ, List.getElem_cons_zero, List.getElem?_toArray, List.getElem?_cons_succ, List.getElem?_cons_zero, Act.put, List.setIfInBounds_toArray, List.set_cons_zero, List.set_cons_succ]
  refine fan_take (i := 20) (v := ?_) rfl (by kernel_rfl) (fun _ _ _ _ h => h) (by kernel_rfl) (HS.out _ b1) ?_ ?_
  rotate_left
  · rintro w9 ⟨⟨s0, s1, s2⟩, ⟨a0, a1, a2, a3⟩, ⟨x0, x1, x2⟩, ⟨y0, y1, y2⟩, ⟨p0, p1, p2⟩, q0, q1, q2⟩
    go_simp
    try with_reducible rfl
  try simp only [List.getElem_toArray, List.getElem_cons_succ, List.getElem_cons_zero, List.getElem?_toArray, List.getElem?_cons_succ, List.getElem?_cons_zero, Act.put, List.setIfInBounds_toArray, List.set_cons_zero, List.set_cons_succ]
  refine fan_take (i := 21) (v := ?_) rfl (by kernel_rfl) (fun _ _ _ _ h => h) (by kernel_rfl) (HS.out _ b1) ?_ ?_
  rotate_left
  · rintro w9 ⟨⟨s0, s1, s2⟩, ⟨a0, a1, a2, a3⟩, ⟨x0, x1, x2⟩, ⟨y0, y1, y2⟩, ⟨p0, p1, p2⟩, q0, q1, q2⟩
    go_simp
    try with_reducible rfl
  try simp only [List.getElem_toArray, List.getElem_cons_succ, List.getElem_cons_zero, List.getElem?_toArray, List.getElem?_cons_succ, List.getElem?_cons_zero, Act.put, List.setIfInBounds_toArray, List.set_cons_zero, List.set_cons_succ]
  refine fan_take (i := 22) (v := ?_) rfl (by kernel_rfl) (fun _ _ _ _ h => h) (by kernel_rfl) (HS.out _ b1) ?_ ?_
  rotate_left
  · rintro w9 ⟨⟨s0, s1, s2⟩, ⟨a0, a1, a2, a3⟩, ⟨x0, x1, x2⟩, ⟨y0, y1, y2⟩, ⟨p0, p1, p2⟩, q0, q1, q2⟩
    go_simp
    try with_reducible rfl
  try simp only [List.getElem_toArray, List.getElem_cons_succ, List.getElem_cons_zero, List.getElem?_toArray, List.getElem?_cons_succ, List.getElem?_cons_zero, Act.put, List.setIfInBounds_toArray, List.set_cons_zero, List.set_cons_succ]
  refine fan_take (i := 23) (v := ?_) rfl (by kernel_rfl) (fun _ _ _ _ h => h) (by kernel_rfl) (HS.out _ b1) ?_ ?_
  rotate_left
  · rintro w9 ⟨⟨s0, s1, s2⟩, ⟨a0, a1, a2, a3⟩, ⟨x0, x1, x2⟩, ⟨y0, y1, y2⟩, ⟨p0, p1, p2⟩, q0, q1, q2⟩
    go_simp
    try with_reducible rfl
  try simp only [List.getElem_toArray, List.getElem_cons_succ, List.getElem_cons_zero, List.getElem?_toArray, List.getElem?_cons_succ, List.getElem?_cons_zero, Act.put, List.setIfInBounds_toArray, List.set_cons_zero, List.set_cons_succ]
  refine fan_take (i := 24) (v := ?_) rfl (by kernel_rfl) (fun _ _ _ _ h => h) (by kernel_rfl) (HS.out _ b1) ?_ ?_
  rotate_left
  · rintro w9 ⟨⟨s0, s1, s2⟩, ⟨a0, a1, a2, a3⟩, ⟨x0, x1, x2⟩, ⟨y0, y1, y2⟩, ⟨p0, p1, p2⟩, q0, q1, q2⟩
    go_simp
    try with_reducible rfl
  try simp only [List.getElem_toArray, List.getElem_cons_succ, List.getElem_cons_zero, List.getElem?_toArray, List.getElem?_cons_succ, List.getElem?_cons_zero, Act.put, List.setIfInBounds_toArray, List.set_cons_zero, List.set_cons_succ]
  refine fan_take (i := 25) (v := ?_) rfl (by kernel_rfl) (fun _ _ _ _ h => h) (by kernel_rfl) (HS.out _ b1) ?_ ?_
  rotate_left
  · rintro w9 ⟨⟨s0, s1, s2⟩, ⟨a0, a1, a2, a3⟩, ⟨x0, x1, x2⟩, ⟨y0, y1, y2⟩, ⟨p0, p1, p2⟩, q0, q1, q2⟩
    go_simp
    try with_reducible rfl
  try simp only [List.getElem_toArray, List.getElem_cons_succ, List.getElem_cons_zero, List.getElem?_toArray, List.getElem?_cons_succ, List.getElem?_cons_zero, Act.put, List.setIfInBounds_toArray, List.set_cons_zero, List.set_cons_succ]
  refine fan_take (i := 27) (v := ?_) rfl (by kernel_rfl) (fun _ _ _ _ h => h) (by kernel_rfl) (HS.out _ b1) ?_ ?_
  rotate_left
  · rintro w9 ⟨⟨s0, s1, s2⟩, ⟨a0, a1, a2, a3⟩, ⟨x0, x1, x2⟩, ⟨y0, y1, y2⟩, ⟨p0, p1, p2⟩, q0, q1, q2⟩
    go_simp
    try with_reducible rfl
  try simp only [List.getElem_toArray, List.getElem_cons_succ, List.getElem_cons_zero, List.getElem?_toArray, List.getElem?_cons_succ, List.getElem?_cons_zero, Act.put, List.setIfInBounds_toArray, List.set_cons_zero, List.set_cons_succ]
  refine fan_one 26 (by kernel_rfl) ?_
  refine fan_step rfl (by kernel_rfl) fun K hK => ?_
  refine wp_call_of 11 _ _ (by rfl) #[.int .i64 ue] (by simp [Act.eval]) (Try.call11 _ _) (NU.out c1 ue) ?_
  rintro e c2 ⟨rfl, bb⟩
  have b2 := b1.trans (bb.mono b1.size)
  refine ⟨_, rfl, hK _ _ (HS.out _ b2) ?_⟩
  clear hK K bb
  try simp only [List.getElem_toArray, List.getElem_cons_succ, List.getElem_cons_zero, List.getElem?_toArray, List.getElem?_cons_succ, List.getElem?_cons_zero, Act.put, List.setIfInBounds_toArray, List.set_cons_zero, List.set_cons_succ]
  refine fan_take (i := 28) (v := ?_) rfl (by kernel_rfl) (fun _ _ _ _ h => h) (by kernel_rfl) (HS.out _ b2) ?_ ?_
  rotate_left
  · rintro w9 ⟨⟨s0, s1, s2⟩, ⟨a0, a1, a2, a3⟩, ⟨x0, x1, x2⟩, ⟨y0, y1, y2⟩, ⟨p0, p1, p2⟩, q0, q1, q2⟩
    go_simp
    try with_reducible rfl
  try simp only [List.getElem_toArray, List.getElem_cons_succ, List.getElem_cons_zero, List.getElem?_toArray, List.getElem?_cons_succ, List.getElem?_cons_zero, Act.put, List.setIfInBounds_toArray, List.set_cons_zero, List.set_cons_succ]
  refine fan_take (i := 29) (v := ?_) rfl (by kernel_rfl) (fun _ _ _ _ h => h) (by kernel_rfl) (HS.out _ b2) ?_ ?_
  rotate_left
  · rintro w9 ⟨⟨s0, s1, s2⟩, ⟨a0, a1, a2, a3⟩, ⟨x0, x1, x2⟩, ⟨y0, y1, y2⟩, ⟨p0, p1, p2⟩, q0, q1, q2⟩
    go_simp
    try with_reducible rfl
  try simp only [List.getElem_toArray, List.getElem_cons_succ, List.getElem_cons_zero, List.getElem?_toArray, List.getElem?_cons_succ, List.getElem?_cons_zero, Act.put, List.setIfInBounds_toArray, List.set_cons_zero, List.set_cons_succ]
  refine fan_take (i := 30) (v := ?_) rfl (by kernel_rfl) (fun _ _ _ _ h => h) (by kernel_rfl) (HS.out _ b2) ?_ ?_
  rotate_left
  · rintro w9 ⟨⟨s0, s1, s2⟩, ⟨a0, a1, a2, a3⟩, ⟨x0, x1, x2⟩, ⟨y0, y1, y2⟩, ⟨p0, p1, p2⟩, q0, q1, q2⟩
    go_simp
    try with_reducible rfl
  try simp only [List.getElem_toArray, List.getElem_cons_succ, List.getElem_cons_zero, List.getElem?_toArray, List.getElem?_cons_succ, List.getElem?_cons_zero, Act.put, List.setIfInBounds_toArray, List.set_cons_zero, List.set_cons_succ]
  refine fan_take (i := 31) (v := ?_) rfl (by kernel_rfl) (fun _ _ _ _ h => h) (by kernel_rfl) (HS.out _ b2) ?_ ?_
  rotate_left
  · rintro w9 ⟨⟨s0, s1, s2⟩, ⟨a0, a1, a2, a3⟩, ⟨x0, x1, x2⟩, ⟨y0, y1, y2⟩, ⟨p0, p1, p2⟩, q0, q1, q2⟩
    go_simp
    try with_reducible rfl
  try simp only [List.getElem_toArray, List.getElem_cons_succ, List.getElem_cons_zero, List.getElem?_toArray, List.getElem?_cons_succ, List.getElem?_cons_zero, Act.put, List.setIfInBounds_toArray, List.set_cons_zero, List.set_cons_succ]
  refine fan_take (i := 34) (v := ?_) rfl (by kernel_rfl) (fun _ _ _ _ h => h) (by kernel_rfl) (HS.out _ b2) ?_ ?_
  rotate_left
  · rintro w9 ⟨⟨s0, s1, s2⟩, ⟨a0, a1, a2, a3⟩, ⟨x0, x1, x2⟩, ⟨y0, y1, y2⟩, ⟨p0, p1, p2⟩, q0, q1, q2⟩
    go_simp
    try with_reducible rfl
  try simp only [List.getElem_toArray, List.getElem_cons_succ, List.getElem_cons_zero, List.getElem?_toArray, List.getElem?_cons_succ, List.getElem?_cons_zero, Act.put, List.setIfInBounds_toArray, List.set_cons_zero, List.set_cons_succ]
  refine fan_one 32 (by kernel_rfl) ?_
  refine fan_step rfl (by kernel_rfl) fun K hK => ?_
  refine wp_call_of 12 _ _ (by rfl) #[.agg #[.int .i64 st, .bool sh, .int .i64 sw]] (by simp [Act.eval]) (Try.call12 _ _) (KC.out c2) ?_
  rintro e c3 ⟨rfl, bb⟩
  have b3 := b2.trans (bb.mono b2.size)
  refine ⟨_, rfl, hK _ _ (HS.out _ b3) ?_⟩
  clear hK K bb
  try simp only [List.getElem_toArray, List.getElem_cons_succ, List.getElem_cons_zero, List.getElem?_toArray, List.getElem?_cons_succ, List.getElem?_cons_zero, Act.put, List.setIfInBounds_toArray, List.set_cons_zero, List.set_cons_succ]
  refine fan_one 33 (by kernel_rfl) ?_
  refine fan_step rfl (by kernel_rfl) fun K hK => ?_
  refine wp_call_of 11 _ _ (by rfl) #[.int .i64 ce] (by simp [Act.eval]) (Try.call11 _ _) (NU.out c3 ce) ?_
  rintro e c4 ⟨rfl, bb⟩
  have b4 := b3.trans (bb.mono b3.size)
  refine ⟨_, rfl, hK _ _ (HS.out _ b4) ?_⟩
  clear hK K bb
  try simp only [List.getElem_toArray, List.getElem_cons_succ, List.getElem_cons_zero, List.getElem?_toArray, List.getElem?_cons_succ, List.getElem?_cons_zero, Act.put, List.setIfInBounds_toArray, List.set_cons_zero, List.set_cons_succ]
  refine fan_one 35 (by kernel_rfl) ?_
  refine fan_step rfl (by kernel_rfl) fun K hK => ?_
  refine wp_call_of 13 _ _ (by rfl) #[.agg #[.int .i64 st, .bool sh, .int .i64 sw]] (by simp [Act.eval]) (Try.call13 _ _) (RC.out c4) ?_
  rintro e c5 ⟨rfl, bb⟩
  have b5 := b4.trans (bb.mono b4.size)
  refine ⟨_, rfl, hK _ _ (HS.out _ b5) ?_⟩
  clear hK K bb
  try simp only [List.getElem_toArray, List.getElem_cons_succ, List.getElem_cons_zero, List.getElem?_toArray, List.getElem?_cons_succ, List.getElem?_cons_zero, Act.put, List.setIfInBounds_toArray, List.set_cons_zero, List.set_cons_succ]
  refine fan_take (i := 36) (v := ?_) rfl (by kernel_rfl) (fun _ _ _ _ h => h) (by kernel_rfl) (HS.out _ b5) ?_ ?_
  rotate_left
  · rintro w9 ⟨⟨s0, s1, s2⟩, ⟨a0, a1, a2, a3⟩, ⟨x0, x1, x2⟩, ⟨y0, y1, y2⟩, ⟨p0, p1, p2⟩, q0, q1, q2⟩
    go_simp
    try with_reducible rfl
  try simp only [List.getElem_toArray, List.getElem_cons_succ, List.getElem_cons_zero, List.getElem?_toArray, List.getElem?_cons_succ, List.getElem?_cons_zero, Act.put, List.setIfInBounds_toArray, List.set_cons_zero, List.set_cons_succ]
  refine fan_take (i := 37) (v := ?_) rfl (by kernel_rfl) (fun _ _ _ _ h => h) (by kernel_rfl) (HS.out _ b5) ?_ ?_
  rotate_left
  · rintro w9 ⟨⟨s0, s1, s2⟩, ⟨a0, a1, a2, a3⟩, ⟨x0, x1, x2⟩, ⟨y0, y1, y2⟩, ⟨p0, p1, p2⟩, q0, q1, q2⟩
    go_simp
    try with_reducible rfl
  try simp only [List.getElem_toArray, List.getElem_cons_succ, List.getElem_cons_zero, List.getElem?_toArray, List.getElem?_cons_succ, List.getElem?_cons_zero, Act.put, List.setIfInBounds_toArray, List.set_cons_zero, List.set_cons_succ]
  refine fan_take (i := 38) (v := ?_) rfl (by kernel_rfl) (fun _ _ _ _ h => h) (by kernel_rfl) (HS.out _ b5) ?_ ?_
  rotate_left
  · rintro w9 ⟨⟨s0, s1, s2⟩, ⟨a0, a1, a2, a3⟩, ⟨x0, x1, x2⟩, ⟨y0, y1, y2⟩, ⟨p0, p1, p2⟩, q0, q1, q2⟩
    go_simp
    try with_reducible rfl
  try simp only [List.getElem_toArray, List.getElem_cons_succ, List.getElem_cons_zero, List.getElem?_toArray, List.getElem?_cons_succ, List.getElem?_cons_zero, Act.put, List.setIfInBounds_toArray, List.set_cons_zero, List.set_cons_succ]
  refine fan_take (i := 39) (v := ?_) rfl (by kernel_rfl) (fun _ _ _ _ h => h) (by kernel_rfl) (HS.out _ b5) ?_ ?_
  rotate_left
  · rintro w9 ⟨⟨s0, s1, s2⟩, ⟨a0, a1, a2, a3⟩, ⟨x0, x1, x2⟩, ⟨y0, y1, y2⟩, ⟨p0, p1, p2⟩, q0, q1, q2⟩
    go_simp
    try with_reducible rfl
  try simp only [List.getElem_toArray, List.getElem_cons_succ, List.getElem_cons_zero, List.getElem?_toArray, List.getElem?_cons_succ, List.getElem?_cons_zero, Act.put, List.setIfInBounds_toArray, List.set_cons_zero, List.set_cons_succ]
  refine fan_take (i := 40) (v := ?_) rfl (by kernel_rfl) (fun _ _ _ _ h => h) (by kernel_rfl) (HS.out _ b5) ?_ ?_
  rotate_left
  · rintro w9 ⟨⟨s0, s1, s2⟩, ⟨a0, a1, a2, a3⟩, ⟨x0, x1, x2⟩, ⟨y0, y1, y2⟩, ⟨p0, p1, p2⟩, q0, q1, q2⟩
    go_simp
    try with_reducible rfl
  try simp only [List.getElem_toArray, List.getElem_cons_succ, List.getElem_cons_zero, List.getElem?_toArray, List.getElem?_cons_succ, List.getElem?_cons_zero, Act.put, List.setIfInBounds_toArray, List.set_cons_zero, List.set_cons_succ]
  refine fan_take (i := 41) (v := ?_) rfl (by kernel_rfl) (fun _ _ _ _ h => h) (by kernel_rfl) (HS.out _ b5) ?_ ?_
  rotate_left
  · rintro w9 ⟨⟨s0, s1, s2⟩, ⟨a0, a1, a2, a3⟩, ⟨x0, x1, x2⟩, ⟨y0, y1, y2⟩, ⟨p0, p1, p2⟩, q0, q1, q2⟩
    go_simp
    try with_reducible rfl
  try simp only [List.getElem_toArray, List.getElem_cons_succ, List.getElem_cons_zero, List.getElem?_toArray, List.getElem?_cons_succ, List.getElem?_cons_zero, Act.put, List.setIfInBounds_toArray, List.set_cons_zero, List.set_cons_succ]
  refine fan_take (i := 42) (v := ?_) rfl (by kernel_rfl) (fun _ _ _ _ h => h) (by kernel_rfl) (HS.out _ b5) ?_ ?_
  rotate_left
  · rintro w9 ⟨⟨s0, s1, s2⟩, ⟨a0, a1, a2, a3⟩, ⟨x0, x1, x2⟩, ⟨y0, y1, y2⟩, ⟨p0, p1, p2⟩, q0, q1, q2⟩
    go_simp
    try with_reducible rfl
  try simp only [List.getElem_toArray, List.getElem_cons_succ, List.getElem_cons_zero, List.getElem?_toArray, List.getElem?_cons_succ, List.getElem?_cons_zero, Act.put, List.setIfInBounds_toArray, List.set_cons_zero, List.set_cons_succ]
  refine fan_take (i := 43) (v := ?_) rfl (by kernel_rfl) (fun _ _ _ _ h => h) (by kernel_rfl) (HS.out _ b5) ?_ ?_
  rotate_left
  · rintro w9 ⟨⟨s0, s1, s2⟩, ⟨a0, a1, a2, a3⟩, ⟨x0, x1, x2⟩, ⟨y0, y1, y2⟩, ⟨p0, p1, p2⟩, q0, q1, q2⟩
    go_simp
    try with_reducible rfl
  try simp only [List.getElem_toArray, List.getElem_cons_succ, List.getElem_cons_zero, List.getElem?_toArray, List.getElem?_cons_succ, List.getElem?_cons_zero, Act.put, List.setIfInBounds_toArray, List.set_cons_zero, List.set_cons_succ]
  refine fan_take (i := 44) (v := ?_) rfl (by kernel_rfl) (fun _ _ _ _ h => h) (by kernel_rfl) (HS.out _ b5) ?_ ?_
  rotate_left
  · rintro w9 ⟨⟨s0, s1, s2⟩, ⟨a0, a1, a2, a3⟩, ⟨x0, x1, x2⟩, ⟨y0, y1, y2⟩, ⟨p0, p1, p2⟩, q0, q1, q2⟩
    go_simp
    try with_reducible rfl
  try simp only [List.getElem_toArray, List.getElem_cons_succ, List.getElem_cons_zero, List.getElem?_toArray, List.getElem?_cons_succ, List.getElem?_cons_zero, Act.put, List.setIfInBounds_toArray, List.set_cons_zero, List.set_cons_succ]
  refine fan_take (i := 46) (v := ?_) rfl (by kernel_rfl) (fun _ _ _ _ h => h) (by kernel_rfl) (HS.out _ b5) ?_ ?_
  rotate_left
  · rintro w9 ⟨⟨s0, s1, s2⟩, ⟨a0, a1, a2, a3⟩, ⟨x0, x1, x2⟩, ⟨y0, y1, y2⟩, ⟨p0, p1, p2⟩, q0, q1, q2⟩
    go_simp
    try with_reducible rfl
  try simp only [List.getElem_toArray, List.getElem_cons_succ, List.getElem_cons_zero, List.getElem?_toArray, List.getElem?_cons_succ, List.getElem?_cons_zero, Act.put, List.setIfInBounds_toArray, List.set_cons_zero, List.set_cons_succ]
  refine fan_take (i := 47) (v := ?_) rfl (by kernel_rfl) (fun _ _ _ _ h => h) (by kernel_rfl) (HS.out _ b5) ?_ ?_
  rotate_left
  · rintro w9 ⟨⟨s0, s1, s2⟩, ⟨a0, a1, a2, a3⟩, ⟨x0, x1, x2⟩, ⟨y0, y1, y2⟩, ⟨p0, p1, p2⟩, q0, q1, q2⟩
    go_simp
    try with_reducible rfl
  try simp only [List.getElem_toArray, List.getElem_cons_succ, List.getElem_cons_zero, List.getElem?_toArray, List.getElem?_cons_succ, List.getElem?_cons_zero, Act.put, List.setIfInBounds_toArray, List.set_cons_zero, List.set_cons_succ]
  refine fan_take (i := 48) (v := ?_) rfl (by kernel_rfl) (fun _ _ _ _ h => h) (by kernel_rfl) (HS.out _ b5) ?_ ?_
  rotate_left
  · rintro w9 ⟨⟨s0, s1, s2⟩, ⟨a0, a1, a2, a3⟩, ⟨x0, x1, x2⟩, ⟨y0, y1, y2⟩, ⟨p0, p1, p2⟩, q0, q1, q2⟩
    go_simp
    try with_reducible rfl
  try simp only [List.getElem_toArray, List.getElem_cons_succ, List.getElem_cons_zero, List.getElem?_toArray, List.getElem?_cons_succ, List.getElem?_cons_zero, Act.put, List.setIfInBounds_toArray, List.set_cons_zero, List.set_cons_succ]
  refine fan_take (i := 49) (v := ?_) rfl (by kernel_rfl) (fun _ _ _ _ h => h) (by kernel_rfl) (HS.out _ b5) ?_ ?_
  rotate_left
  · rintro w9 ⟨⟨s0, s1, s2⟩, ⟨a0, a1, a2, a3⟩, ⟨x0, x1, x2⟩, ⟨y0, y1, y2⟩, ⟨p0, p1, p2⟩, q0, q1, q2⟩
    go_simp
    try with_reducible rfl
  try simp only [List.getElem_toArray, List.getElem_cons_succ, List.getElem_cons_zero, List.getElem?_toArray, List.getElem?_cons_succ, List.getElem?_cons_zero, Act.put, List.setIfInBounds_toArray, List.set_cons_zero, List.set_cons_succ]
  refine fan_take (i := 50) (v := ?_) rfl (by kernel_rfl) (fun _ _ _ _ h => h) (by kernel_rfl) (HS.out _ b5) ?_ ?_
  rotate_left
  · rintro w9 ⟨⟨s0, s1, s2⟩, ⟨a0, a1, a2, a3⟩, ⟨x0, x1, x2⟩, ⟨y0, y1, y2⟩, ⟨p0, p1, p2⟩, q0, q1, q2⟩
    go_simp
    try with_reducible rfl
  try simp only [List.getElem_toArray, List.getElem_cons_succ, List.getElem_cons_zero, List.getElem?_toArray, List.getElem?_cons_succ, List.getElem?_cons_zero, Act.put, List.setIfInBounds_toArray, List.set_cons_zero, List.set_cons_succ]
  refine fan_take (i := 51) (v := ?_) rfl (by kernel_rfl) (fun _ _ _ _ h => h) (by kernel_rfl) (HS.out _ b5) ?_ ?_
  rotate_left
  · rintro w9 ⟨⟨s0, s1, s2⟩, ⟨a0, a1, a2, a3⟩, ⟨x0, x1, x2⟩, ⟨y0, y1, y2⟩, ⟨p0, p1, p2⟩, q0, q1, q2⟩
    go_simp
    try with_reducible rfl
  try simp only [List.getElem_toArray, List.getElem_cons_succ, List.getElem_cons_zero, List.getElem?_toArray, List.getElem?_cons_succ, List.getElem?_cons_zero, Act.put, List.setIfInBounds_toArray, List.set_cons_zero, List.set_cons_succ]
  refine fan_one 45 (by kernel_rfl) ?_
  refine fan_step rfl (by kernel_rfl) fun K hK => ?_
  refine wp_call_of 14 _ _ (by rfl) #[.int .i64 al, .int .i64 au, .int .i64 own, .int .i64 ot] (by simp [Act.eval]) (Try.call14 _ _) (KN.out c5) ?_
  rintro e c6 ⟨rfl, bb⟩
  have b6 := b5.trans (bb.mono b5.size)
  refine ⟨_, rfl, hK _ _ (HS.out _ b6) ?_⟩
  clear hK K bb
  try simp only [List.getElem_toArray, List.getElem_cons_succ, List.getElem_cons_zero, List.getElem?_toArray, List.getElem?_cons_succ, List.getElem?_cons_zero, Act.put, List.setIfInBounds_toArray, List.set_cons_zero, List.set_cons_succ]
  refine fan_one 52 (by kernel_rfl) ?_
  refine fan_step rfl (by kernel_rfl) fun K hK => ?_
  refine wp_call_of 15 _ _ (by rfl) #[.int .i64 al, .int .i64 au, .int .i64 own, .int .i64 ot] (by simp [Act.eval]) (Try.call15 _ _) (RN.out c6) ?_
  rintro e c7 ⟨rfl, bb⟩
  have b7 := b6.trans (bb.mono b6.size)
  refine ⟨_, rfl, hK _ _ (HS.out _ b7) ?_⟩
  clear hK K bb
  try simp only [List.getElem_toArray, List.getElem_cons_succ, List.getElem_cons_zero, List.getElem?_toArray, List.getElem?_cons_succ, List.getElem?_cons_zero, Act.put, List.setIfInBounds_toArray, List.set_cons_zero, List.set_cons_succ]
  refine fan_take (i := 53) (v := ?_) rfl (by kernel_rfl) (fun _ _ _ _ h => h) (by kernel_rfl) (HS.out _ b7) ?_ ?_
  rotate_left
  · rintro w9 ⟨⟨s0, s1, s2⟩, ⟨a0, a1, a2, a3⟩, ⟨x0, x1, x2⟩, ⟨y0, y1, y2⟩, ⟨p0, p1, p2⟩, q0, q1, q2⟩
    go_simp
    try with_reducible rfl
  try simp only [List.getElem_toArray, List.getElem_cons_succ, List.getElem_cons_zero, List.getElem?_toArray, List.getElem?_cons_succ, List.getElem?_cons_zero, Act.put, List.setIfInBounds_toArray, List.set_cons_zero, List.set_cons_succ]
  refine fan_take (i := 54) (v := ?_) rfl (by kernel_rfl) (fun _ _ _ _ h => h) (by kernel_rfl) (HS.out _ b7) ?_ ?_
  rotate_left
  · rintro w9 ⟨⟨s0, s1, s2⟩, ⟨a0, a1, a2, a3⟩, ⟨x0, x1, x2⟩, ⟨y0, y1, y2⟩, ⟨p0, p1, p2⟩, q0, q1, q2⟩
    go_simp
    try with_reducible rfl
  try simp only [List.getElem_toArray, List.getElem_cons_succ, List.getElem_cons_zero, List.getElem?_toArray, List.getElem?_cons_succ, List.getElem?_cons_zero, Act.put, List.setIfInBounds_toArray, List.set_cons_zero, List.set_cons_succ]
  refine fan_take (i := 55) (v := ?_) rfl (by kernel_rfl) (fun _ _ _ _ h => h) (by kernel_rfl) (HS.out _ b7) ?_ ?_
  rotate_left
  · rintro w9 ⟨⟨s0, s1, s2⟩, ⟨a0, a1, a2, a3⟩, ⟨x0, x1, x2⟩, ⟨y0, y1, y2⟩, ⟨p0, p1, p2⟩, q0, q1, q2⟩
    go_simp
    try with_reducible rfl
  try simp only [List.getElem_toArray, List.getElem_cons_succ, List.getElem_cons_zero, List.getElem?_toArray, List.getElem?_cons_succ, List.getElem?_cons_zero, Act.put, List.setIfInBounds_toArray, List.set_cons_zero, List.set_cons_succ]
  refine fan_done (by kernel_rfl) ?_
  show wpList _ _ _ _ _ _
  have BF := hide b7
  clear b0 b1 b2 b3 b4 b5 b6 b7
  go_wp2_with fail
  refine (KA.out _).mono ?_
  rintro e w9 ⟨rfl, b9⟩
  have BZ := hide (BF.out.trans (b9.mono BF.out.size))
  clear b9
  go_wp2
  go_ret
  exact ⟨rfl, HW.out _ BZ.out⟩
end Go.Proofs.Ytccklmhagabkaaa.voteTells
