/-
  PROVED: whatever state, marks, and numbers come in, transeptlaw04.DiskCrashes returns true and leaves them as they were: the statement of P4.2 (what a crash leaves is the page's).
-/
import Derived.Test.YthomioojkpmmgaaDIn
import Derived.Test.YthomioojkpmmgaaDOf
import Derived.Test.YthomioojkpmmgaaDSame
import Derived.Test.YthomioojkpmmgaaDAlive
import Derived.Deep.RegionHeld3
namespace Go.Proofs.Ythomioojkpmmgaa.diskCrashes
open Go.ChangeShapes Go.WideShapes Go.ChangeAt Go.RowKit
set_option linter.unusedVariables false

set_option maxRecDepth 100000 in
set_option maxHeartbeats 4000000 in
theorem walk (w : World) (cs0 : Array Value) (x0 : Dsk) (g0 : SStR.rd w cs0.toList x0) (m0 : (x0.1.length * 24 ≤ 140737488351232 ∧ ∀ x ∈ x0.1, x.length ≤ 140737488351232) ∧ (x0.2.length * 32 ≤ 140737488351232 ∧ ∀ y ∈ x0.2, True ∧ y.2.length ≤ 140737488351232))
    (a1 : Option Addr) (len1 cap1 : Nat) (x1 : List Bool) (g1 : SKeep.rd w [.slice a1 len1 cap1] x1) (m1 : x1.length * 1 ≤ 140737488351232 ∧ ∀ x ∈ x1, True) (a2 : Int) (w2' : (Lit.int .i64 a2).wf = true) (a3 : Int) (w3' : (Lit.int .i64 a3).wf = true) :
    Calls Try.prog 4 #[.agg cs0, .slice a1 len1 cap1, .int .i64 a2, .int .i64 a3] w fun e w' => e = .returned (.bool true) ∧ Below w.heap.size w w' := by
  obtain ⟨sv, cv, rfl, h1, h2⟩ := state_form g0
  have HF := hide (state_fit m0)
  obtain ⟨kv, ek, hk⟩ := g1
  simp only [List.cons.injEq, and_true] at ek
  subst ek
  clear g0 m0 m1 w2' w3'
  obtain ⟨sa, sc, rfl⟩ := h1.slice
  obtain ⟨ca, cc0, rfl⟩ := h2.slice
  obtain ⟨D1, D2, er, hD⟩ : ∃ D1 D2 er, dcrash x0 x1 a2 a3 = ((D1, D2), er) := ⟨_, _, _, rfl⟩
  replace hD := hide hD
  obtain ⟨US, hUS, S0, S1, cc, _⟩ := boxed2 w (.slice sa x0.1.length sc) (.slice ca x0.2.length cc0) 25
  replace h1 := h1.to0 cc
  replace h2 := h2.to0 cc
  replace hk := hk.to0 cc
  go_enter Try.func4, Try.ntmps4
  have KK := hide (of_any _ _ _ x0 h1 h2 HF.out)
  rw [hUS] at S0 S1
  go_wp2_with fail
  rw [← hUS] at S0 S1
  rw [← hUS]
  replace hUS := hide hUS
  refine KK.out.mono ?_
  rintro e w1 ⟨sX, cX, rfl, oX, bb⟩
  clear KK
  obtain ⟨rX, qX⟩ := oX.rd2
  clear oX
  try dsimp only at rX qX
  obtain ⟨alX, clX, rfl⟩ := rX.slice
  obtain ⟨acX, cdX, rfl⟩ := qX.slice
  replace S0 := (bb.cell (cell_lt S0)).trans S0
  replace S1 := (bb.cell (cell_lt S1)).trans S1
  replace h1 := h1.to0 bb
  replace h2 := h2.to0 bb
  replace hk := hk.to0 bb
  replace cc := cc.trans (bb.mono cc.size)
  clear bb
  obtain ⟨UX, hUX, X0, X1, bU, _⟩ := boxed2 w1 (.slice alX x0.1.length clX) (.slice acX x0.2.length cdX) 29
  replace S0 := (bU.cell (cell_lt S0)).trans S0
  replace S1 := (bU.cell (cell_lt S1)).trans S1
  replace h1 := h1.to0 bU
  replace h2 := h2.to0 bU
  replace hk := hk.to0 bU
  replace rX := rX.to0 bU
  replace qX := qX.to0 bU
  replace cc := cc.trans (bU.mono cc.size)
  clear bU
  have KK := hide (dcrash_any _ _ _ _ x0 x1 a2 a3 rX qX hk)
  rw [hD.out] at KK
  rw [hUX] at S0 S1 X0 X1
  go_wp2_with fail
  rw [← hUX] at S0 S1 X0 X1
  rw [← hUX]
  replace hUX := hide hUX
  refine KK.out.mono ?_
  rintro e w2 ⟨sP, cP, rfl, oP, bb⟩
  clear KK
  obtain ⟨rP, qP⟩ := oP.rd2
  clear oP
  try dsimp only at rP qP
  obtain ⟨alP, clP, rfl⟩ := rP.slice
  obtain ⟨acP, cdP, rfl⟩ := qP.slice
  replace S0 := (bb.cell (cell_lt S0)).trans S0
  replace S1 := (bb.cell (cell_lt S1)).trans S1
  replace X0 := (bb.cell (cell_lt X0)).trans X0
  replace X1 := (bb.cell (cell_lt X1)).trans X1
  replace h1 := h1.to0 bb
  replace h2 := h2.to0 bb
  replace hk := hk.to0 bb
  replace rX := rX.to0 bb
  replace qX := qX.to0 bb
  replace cc := cc.trans (bb.mono cc.size)
  clear bb
  obtain ⟨UP, hUP, P0, P1, bU, _⟩ := boxed2 w2 (.slice alP D1.length clP) (.slice acP D2.length cdP) 29
  replace S0 := (bU.cell (cell_lt S0)).trans S0
  replace S1 := (bU.cell (cell_lt S1)).trans S1
  replace X0 := (bU.cell (cell_lt X0)).trans X0
  replace X1 := (bU.cell (cell_lt X1)).trans X1
  replace h1 := h1.to0 bU
  replace h2 := h2.to0 bU
  replace hk := hk.to0 bU
  replace rX := rX.to0 bU
  replace qX := qX.to0 bU
  replace rP := rP.to0 bU
  replace qP := qP.to0 bU
  replace cc := cc.trans (bU.mono cc.size)
  clear bU
  have KK := hide (rcrash_any _ _ _ _ x0 x1 a2 a3 h1 h2 hk)
  rw [hD.out] at KK
  rw [hUP] at S0 S1 X0 X1 P0 P1
  go_wp2_with fail
  rw [← hUP] at S0 S1 X0 X1 P0 P1
  rw [← hUP]
  replace hUP := hide hUP
  refine KK.out.mono ?_
  rintro e w3 ⟨sQ, cQ, rfl, oQ, bb⟩
  clear KK
  obtain ⟨rQ, qQ⟩ := oQ.rd2
  clear oQ
  try dsimp only at rQ qQ
  obtain ⟨alQ, clQ, rfl⟩ := rQ.slice
  obtain ⟨acQ, cdQ, rfl⟩ := qQ.slice
  replace S0 := (bb.cell (cell_lt S0)).trans S0
  replace S1 := (bb.cell (cell_lt S1)).trans S1
  replace X0 := (bb.cell (cell_lt X0)).trans X0
  replace X1 := (bb.cell (cell_lt X1)).trans X1
  replace P0 := (bb.cell (cell_lt P0)).trans P0
  replace P1 := (bb.cell (cell_lt P1)).trans P1
  replace h1 := h1.to0 bb
  replace h2 := h2.to0 bb
  replace hk := hk.to0 bb
  replace rX := rX.to0 bb
  replace qX := qX.to0 bb
  replace rP := rP.to0 bb
  replace qP := qP.to0 bb
  replace cc := cc.trans (bb.mono cc.size)
  clear bb
  obtain ⟨UQ, hUQ, Q0, Q1, bU, _⟩ := boxed2 w3 (.slice alQ D1.length clQ) (.slice acQ D2.length cdQ) 25
  replace S0 := (bU.cell (cell_lt S0)).trans S0
  replace S1 := (bU.cell (cell_lt S1)).trans S1
  replace X0 := (bU.cell (cell_lt X0)).trans X0
  replace X1 := (bU.cell (cell_lt X1)).trans X1
  replace P0 := (bU.cell (cell_lt P0)).trans P0
  replace P1 := (bU.cell (cell_lt P1)).trans P1
  replace h1 := h1.to0 bU
  replace h2 := h2.to0 bU
  replace hk := hk.to0 bU
  replace rX := rX.to0 bU
  replace qX := qX.to0 bU
  replace rP := rP.to0 bU
  replace qP := qP.to0 bU
  replace rQ := rQ.to0 bU
  replace qQ := qQ.to0 bU
  replace cc := cc.trans (bU.mono cc.size)
  clear bU
  have KK := hide (alike_any _ _ _ _ _ (D1, D2) rP qP rQ qQ)
  rw [hUQ] at S0 S1 X0 X1 P0 P1 Q0 Q1
  go_wp2_with fail
  rw [← hUQ] at S0 S1 X0 X1 P0 P1 Q0 Q1
  rw [← hUQ]
  replace hUQ := hide hUQ
  refine KK.out.mono ?_
  rintro e w4 ⟨rfl, bb⟩
  clear KK
  replace S0 := (bb.cell (cell_lt S0)).trans S0
  replace S1 := (bb.cell (cell_lt S1)).trans S1
  replace X0 := (bb.cell (cell_lt X0)).trans X0
  replace X1 := (bb.cell (cell_lt X1)).trans X1
  replace P0 := (bb.cell (cell_lt P0)).trans P0
  replace P1 := (bb.cell (cell_lt P1)).trans P1
  replace Q0 := (bb.cell (cell_lt Q0)).trans Q0
  replace Q1 := (bb.cell (cell_lt Q1)).trans Q1
  replace h1 := h1.to0 bb
  replace h2 := h2.to0 bb
  replace hk := hk.to0 bb
  replace rX := rX.to0 bb
  replace qX := qX.to0 bb
  replace rP := rP.to0 bb
  replace qP := qP.to0 bb
  replace rQ := rQ.to0 bb
  replace qQ := qQ.to0 bb
  replace cc := cc.trans (bb.mono cc.size)
  clear bb
  go_wp2_with fail
  refine (num4_any _ _).mono ?_
  have KK := trivial
  rintro e w' ⟨rfl, rfl⟩
  clear KK
  have KK := hide (alike_any _ _ _ _ _ x0 rX qX h1 h2)
  go_wp2_with fail
  refine KK.out.mono ?_
  rintro e w5 ⟨rfl, bb⟩
  clear KK
  replace S0 := (bb.cell (cell_lt S0)).trans S0
  replace S1 := (bb.cell (cell_lt S1)).trans S1
  replace X0 := (bb.cell (cell_lt X0)).trans X0
  replace X1 := (bb.cell (cell_lt X1)).trans X1
  replace P0 := (bb.cell (cell_lt P0)).trans P0
  replace P1 := (bb.cell (cell_lt P1)).trans P1
  replace Q0 := (bb.cell (cell_lt Q0)).trans Q0
  replace Q1 := (bb.cell (cell_lt Q1)).trans Q1
  replace h1 := h1.to0 bb
  replace h2 := h2.to0 bb
  replace hk := hk.to0 bb
  replace rX := rX.to0 bb
  replace qX := qX.to0 bb
  replace rP := rP.to0 bb
  replace qP := qP.to0 bb
  replace rQ := rQ.to0 bb
  replace qQ := qQ.to0 bb
  replace cc := cc.trans (bb.mono cc.size)
  clear bb
  go_wp2_with fail
  refine (dalive_any _).mono ?_
  have KK := trivial
  rintro e w6 ⟨rfl, bb⟩
  clear KK
  replace S0 := (bb.cell (cell_lt S0)).trans S0
  replace S1 := (bb.cell (cell_lt S1)).trans S1
  replace X0 := (bb.cell (cell_lt X0)).trans X0
  replace X1 := (bb.cell (cell_lt X1)).trans X1
  replace P0 := (bb.cell (cell_lt P0)).trans P0
  replace P1 := (bb.cell (cell_lt P1)).trans P1
  replace Q0 := (bb.cell (cell_lt Q0)).trans Q0
  replace Q1 := (bb.cell (cell_lt Q1)).trans Q1
  replace h1 := h1.to0 bb
  replace h2 := h2.to0 bb
  replace hk := hk.to0 bb
  replace rX := rX.to0 bb
  replace qX := qX.to0 bb
  replace rP := rP.to0 bb
  replace qP := qP.to0 bb
  replace rQ := rQ.to0 bb
  replace qQ := qQ.to0 bb
  replace cc := cc.trans (bb.mono cc.size)
  clear bb
  go_wp2
  go_ret
  exact ⟨rfl, cc⟩

set_option maxRecDepth 100000 in
theorem lifted (os : Os) (started : os.Started) (H : Type) (enc : TypeId × Value → H) :
    ReturnsInHanded {} Try.checked os 4 .any (Rows.diskCrashesSpec.pre6 enc Try.prog Try.f4 Rows.diskCrashesRow.domain false) (Rows.diskCrashesSpec.post enc Try.prog Try.f4 false true false false) := by
  refine returnsInHanded_of_change_sized (C := Try.checked) own started (by kernel_rfl) Try.func4
    (ChangeSpec.witness6 (enc := enc) (C := Try.checked) false ⟨#[], #[.agg #[.slice none 0 0, .slice none 0 0], .slice none 0 0, .int .i64 0, .int .i64 0], []⟩ 8 (by kernel_rfl) (by kernel_rfl) (by kernel_rfl) (by kernel_rfl)) ?_
  intro W base args ds gs before hval0 hW hcnd hsz0 _
  have hsz : (DataW.weightsEach Try.prog (Try.f4.params.toList ++ Rows.diskCrashesSpec.plain.varTypes Try.prog) (ds ++ gs)).all (· ≤ reachBytes) = true := hsz0
  have hval : ∀ (j : Nat) t v, Try.f4.params[j]? = some t → args[j]? = some v → Value.okWide Try.prog W .any base t v := hval0
  have hW' := hW
  obtain ⟨p, q, hA0, hV, rfl, hfz, hnd⟩ := hW
  have hA : DataW.TrodAll enc Try.prog W 0 (fun _ => true) true Try.f4.params.toList args.toList ds p := hA0
  rw [Try.params4] at hA hval hsz
  obtain ⟨v0, vs0, d0, ds0, p0, q0, hargs, rfl, rfl, h0, r0⟩ := trodAll_cons hA
  obtain ⟨v1, vs1, d1, ds1, p1, q1, rfl, rfl, rfl, h1, r1⟩ := trodAll_cons r0
  obtain ⟨v2, vs2, d2, ds2, p2, q2, rfl, rfl, rfl, h2, r2⟩ := trodAll_cons r1
  obtain ⟨v3, vs3, d3, ds3, p3, q3, rfl, rfl, rfl, h3, r3⟩ := trodAll_cons r2
  obtain ⟨rfl, rfl, rfl⟩ := trodAll_nil r3
  obtain rfl : args = #[v0, v1, v2, v3] := by cases args; simp_all
  obtain ⟨rfl, rfl⟩ := trodVars_none hV
  obtain ⟨cs0, rfl, _⟩ := okWide_struct Try.underlying25 (hval 0 25 v0 rfl rfl)
  have lt0 : ∀ x ∈ p0, x.block < W.heap.size := by obtain ⟨m, hm⟩ := h0; exact DataW.trod_lt m _ _ _ hm
  have hh0 := h0
  obtain ⟨fu0, hf0⟩ := hh0
  obtain ⟨x0, g0, f0, b0⟩ := open_state.opened hf0
  obtain ⟨a1, len1, cap1, rfl⟩ := okWide_slice Try.underlying52 (hval 1 52 v1 rfl rfl)
  have lt1 : ∀ x ∈ p1, x.block < W.heap.size := by obtain ⟨m, hm⟩ := h1; exact DataW.trod_lt m _ _ _ hm
  have hh1 := h1
  obtain ⟨fu1, hf1⟩ := hh1
  obtain ⟨x1, g1, f1, b1⟩ := open_bools.opened hf1
  obtain ⟨a2, rfl, rfl, rfl, w2⟩ := open_int Try.underlying3 (hval 2 3 v2 rfl rfl) h2
  obtain ⟨a3, rfl, rfl, rfl, w3⟩ := open_int Try.underlying3 (hval 3 3 v3 rfl rfl) h3
  have m0 := f0 (reach_of hsz (j := 0) rfl rfl)
  have m1 := f1 (reach_of hsz (j := 1) rfl rfl)
  clear hA0 hval0 hsz0 hsz
  refine (walk W cs0 x0 g0 m0 a1 len1 cap1 x1 g1 m1 a2 w2 a3 w3).mono fun e W' ⟨he, bel⟩ => ?_
  subst he
  exact ⟨_, rfl, _, _, _, [], _, [], hW', trodAll_mk1 (shut_bool Try.underlying4 _), (trodAll_cons_mk (Below.trod laidOut (by kernel_rfl) (of_decide_eq_true (by kernel_rfl)) h0 bel lt0) (trodAll_cons_mk (Below.trod laidOut (by kernel_rfl) (of_decide_eq_true (by kernel_rfl)) h1 bel lt1) (trodAll_cons_mk (shut_int Try.underlying3 w2) (trodAll_cons_mk (shut_int Try.underlying3 w3) trodAll_mk0)))), rfl, bel.frame _, fun h => by cases h⟩

theorem over : Rows.diskCrashesRow.holds Try.pinned (OpenSpec.ofChange Rows.diskCrashesSpec) :=
  OpenClaim.holds_of_wide 4 Try.f4 rfl rfl rfl rfl rfl rfl rfl ⟨rfl, rfl, rfl, rfl, rfl⟩ rfl rfl rfl rfl rfl (by kernel_rfl) Try.func4 (by kernel_rfl)
    (of_decide_eq_true (by kernel_rfl)) (by unfold Func.isWrapper; first | (rw [if_pos (by decide +kernel)]; kernel_rfl) | (rw [if_neg (by decide +kernel)]; exact ⟨rfl, rfl⟩))
    (fun os started H enc _ => lifted os started H enc)

end Go.Proofs.Ythomioojkpmmgaa.diskCrashes
namespace Go.Proofs.Ythomioojkpmmgaa
/-- THE STATEMENT -/
theorem diskCrashes_holds : Rows.DiskCrashesSaid := diskCrashes.over
end Go.Proofs.Ythomioojkpmmgaa
