/-
  PROVED: whatever state, octets and numbers come in, transeptlaw04.DiskTells returns true and leaves them as they were: the statement of P4.1 and P4.2 (what each call makes of a disk is the page's).
-/
import Derived.Test.YthomioojkpmmgaaDIn
import Derived.Test.YthomioojkpmmgaaDOf
import Derived.Test.YthomioojkpmmgaaDSame
import Derived.Test.YthomioojkpmmgaaDAlive
import Derived.Deep.RegionHeld3
namespace Go.Proofs.Ythomioojkpmmgaa.diskTells
open Go.ChangeShapes Go.WideShapes Go.ChangeAt Go.RowKit
set_option linter.unusedVariables false

set_option maxRecDepth 100000 in
set_option maxHeartbeats 4000000 in
theorem walk (w : World) (cs0 : Array Value) (x0 : Dsk) (g0 : SStR.rd w cs0.toList x0) (m0 : (x0.1.length * 24 ≤ 140737488351232 ∧ ∀ x ∈ x0.1, x.length ≤ 140737488351232) ∧ (x0.2.length * 32 ≤ 140737488351232 ∧ ∀ y ∈ x0.2, True ∧ y.2.length ≤ 140737488351232))
    (a1 : Int) (w1' : (Lit.int .i64 a1).wf = true) (a2 : Option Addr) (len2 cap2 : Nat) (x2 : List UInt8) (e2 : x2.length = len2) (g2 : Rd w (.slice a2 len2 cap2) x2) (m2 : len2 ≤ 140737488351232) (a3 : Int) (w3' : (Lit.int .i64 a3).wf = true) (a4 : Int) (w4' : (Lit.int .u8 a4).wf = true) :
    Calls Try.prog 3 #[.agg cs0, .int .i64 a1, .slice a2 len2 cap2, .int .i64 a3, .int .u8 a4] w fun e w' => e = .returned (.bool true) ∧ Below w.heap.size w w' := by
  obtain ⟨sv, cv, rfl, h1, h2⟩ := state_form g0
  have HF := hide (state_fit m0)
  obtain ⟨bb4, rfl⟩ : ∃ b : UInt8, a4 = (b.toNat : Int) := by
    have hb : 0 ≤ a4 ∧ a4 ≤ 255 := by simpa [Lit.wf, IntKind.min, IntKind.max, IntKind.signed, IntKind.bits] using w4'
    exact ⟨UInt8.ofNat a4.toNat, by rw [UInt8.toNat_ofNat_of_lt' (by show _ < 256; omega), Int.toNat_of_nonneg hb.1]⟩
  subst e2
  clear g0 m0 w1' w3' w4'
  obtain ⟨sa, sc, rfl⟩ := h1.slice
  obtain ⟨ca, cc0, rfl⟩ := h2.slice
  obtain ⟨P1, P2, eP, hP⟩ : ∃ D1 D2 er, dput x0 a1 x2 = ((D1, D2), er) := ⟨_, _, _, rfl⟩
  replace hP := hide hP
  obtain ⟨F1, F2, eF, hF⟩ : ∃ D1 D2 er, dflush x0 = ((D1, D2), er) := ⟨_, _, _, rfl⟩
  replace hF := hide hF
  obtain ⟨T1, T2, eT, hT⟩ : ∃ D1 D2 er, drot x0 a1 a3 bb4 = ((D1, D2), er) := ⟨_, _, _, rfl⟩
  replace hT := hide hT
  obtain ⟨G1, eG, hG⟩ : ∃ G er, dget x0 a1 = (G, er) := ⟨_, _, rfl⟩
  replace hG := hide hG
  obtain ⟨ck, hck⟩ : ∃ ck, dcheck x0 = ck := ⟨_, rfl⟩
  replace hck := hide hck
  obtain ⟨US, hUS, S0, S1, cc, _⟩ := boxed2 w (.slice sa x0.1.length sc) (.slice ca x0.2.length cc0) 25
  replace h1 := h1.to0 cc
  replace h2 := h2.to0 cc
  replace g2 := g2.to cc
  go_enter Try.func3, Try.ntmps3
  have KK := hide (of_any _ _ _ x0 h1 h2 HF.out)
  rw [hUS] at S0 S1
  go_wp2_with fail
  rw [← hUS] at S0 S1
  rw [← hUS]
  replace hUS := hide hUS
  refine KK.out.mono ?_
  rintro e w1 ⟨sX, cX, rfl, oX, bb⟩
  clear KK
  obtain ⟨rX, qX⟩ := oX.rd2
  clear oX
  obtain ⟨alX, clX, rfl⟩ := rX.slice
  obtain ⟨acX, cdX, rfl⟩ := qX.slice
  replace S0 := (bb.cell (cell_lt S0)).trans S0
  replace S1 := (bb.cell (cell_lt S1)).trans S1
  replace h1 := h1.to0 bb
  replace h2 := h2.to0 bb
  replace g2 := g2.to bb
  replace cc := cc.trans (bb.mono cc.size)
  clear bb
  have KK := hide (copy_any _ _ x2 g2 (by omega))
  go_wp2_with fail
  refine KK.out.mono ?_
  rintro e w2 ⟨vO, rfl, oO, bb⟩
  clear KK
  have rO := oO.rd
  clear oO
  try dsimp only at rO
  obtain ⟨alO, clO, rfl⟩ := rO.slice
  replace S0 := (bb.cell (cell_lt S0)).trans S0
  replace S1 := (bb.cell (cell_lt S1)).trans S1
  replace h1 := h1.to0 bb
  replace h2 := h2.to0 bb
  replace rX := rX.to0 bb
  replace qX := qX.to0 bb
  replace g2 := g2.to bb
  replace cc := cc.trans (bb.mono cc.size)
  clear bb
  obtain ⟨UX, hUX, X0, X1, bU, _⟩ := boxed2 w2 (.slice alX x0.1.length clX) (.slice acX x0.2.length cdX) 29
  replace S0 := (bU.cell (cell_lt S0)).trans S0
  replace S1 := (bU.cell (cell_lt S1)).trans S1
  replace h1 := h1.to0 bU
  replace h2 := h2.to0 bU
  replace rX := rX.to0 bU
  replace qX := qX.to0 bU
  replace g2 := g2.to bU
  replace rO := rO.to bU
  replace cc := cc.trans (bU.mono cc.size)
  clear bU
  have KK := hide (dput_any _ _ _ _ x0 a1 x2 rX qX rO)
  rw [hP.out] at KK
  rw [hUX] at S0 S1 X0 X1
  go_wp2_with fail
  rw [← hUX] at S0 S1 X0 X1
  rw [← hUX]
  replace hUX := hide hUX
  refine KK.out.mono ?_
  rintro e w3 ⟨sA, cA, rfl, oA, bb⟩
  clear KK
  obtain ⟨rA, qA⟩ := oA.rd2
  clear oA
  try dsimp only at rA qA
  obtain ⟨alA, clA, rfl⟩ := rA.slice
  obtain ⟨acA, cdA, rfl⟩ := qA.slice
  replace S0 := (bb.cell (cell_lt S0)).trans S0
  replace S1 := (bb.cell (cell_lt S1)).trans S1
  replace X0 := (bb.cell (cell_lt X0)).trans X0
  replace X1 := (bb.cell (cell_lt X1)).trans X1
  replace h1 := h1.to0 bb
  replace h2 := h2.to0 bb
  replace rX := rX.to0 bb
  replace qX := qX.to0 bb
  replace g2 := g2.to bb
  replace rO := rO.to bb
  replace cc := cc.trans (bb.mono cc.size)
  clear bb
  obtain ⟨UA, hUA, A0, A1, bU, _⟩ := boxed2 w3 (.slice alA P1.length clA) (.slice acA P2.length cdA) 29
  replace S0 := (bU.cell (cell_lt S0)).trans S0
  replace S1 := (bU.cell (cell_lt S1)).trans S1
  replace X0 := (bU.cell (cell_lt X0)).trans X0
  replace X1 := (bU.cell (cell_lt X1)).trans X1
  replace h1 := h1.to0 bU
  replace h2 := h2.to0 bU
  replace rX := rX.to0 bU
  replace qX := qX.to0 bU
  replace rA := rA.to0 bU
  replace qA := qA.to0 bU
  replace g2 := g2.to bU
  replace rO := rO.to bU
  replace cc := cc.trans (bU.mono cc.size)
  clear bU
  have KK := hide (rput_any _ _ _ _ x0 a1 x2 h1 h2 g2)
  rw [hP.out] at KK
  rw [hUA] at S0 S1 X0 X1 A0 A1
  go_wp2_with fail
  rw [← hUA] at S0 S1 X0 X1 A0 A1
  rw [← hUA]
  replace hUA := hide hUA
  refine KK.out.mono ?_
  rintro e w4 ⟨sB, cB, rfl, oB, bb⟩
  clear KK
  obtain ⟨rB, qB⟩ := oB.rd2
  clear oB
  try dsimp only at rB qB
  obtain ⟨alB, clB, rfl⟩ := rB.slice
  obtain ⟨acB, cdB, rfl⟩ := qB.slice
  replace S0 := (bb.cell (cell_lt S0)).trans S0
  replace S1 := (bb.cell (cell_lt S1)).trans S1
  replace X0 := (bb.cell (cell_lt X0)).trans X0
  replace X1 := (bb.cell (cell_lt X1)).trans X1
  replace A0 := (bb.cell (cell_lt A0)).trans A0
  replace A1 := (bb.cell (cell_lt A1)).trans A1
  replace h1 := h1.to0 bb
  replace h2 := h2.to0 bb
  replace rX := rX.to0 bb
  replace qX := qX.to0 bb
  replace rA := rA.to0 bb
  replace qA := qA.to0 bb
  replace g2 := g2.to bb
  replace rO := rO.to bb
  replace cc := cc.trans (bb.mono cc.size)
  clear bb
  obtain ⟨UB, hUB, B0, B1, bU, _⟩ := boxed2 w4 (.slice alB P1.length clB) (.slice acB P2.length cdB) 25
  replace S0 := (bU.cell (cell_lt S0)).trans S0
  replace S1 := (bU.cell (cell_lt S1)).trans S1
  replace X0 := (bU.cell (cell_lt X0)).trans X0
  replace X1 := (bU.cell (cell_lt X1)).trans X1
  replace A0 := (bU.cell (cell_lt A0)).trans A0
  replace A1 := (bU.cell (cell_lt A1)).trans A1
  replace h1 := h1.to0 bU
  replace h2 := h2.to0 bU
  replace rX := rX.to0 bU
  replace qX := qX.to0 bU
  replace rA := rA.to0 bU
  replace qA := qA.to0 bU
  replace rB := rB.to0 bU
  replace qB := qB.to0 bU
  replace g2 := g2.to bU
  replace rO := rO.to bU
  replace cc := cc.trans (bU.mono cc.size)
  clear bU
  have KK := hide (dget_any _ _ _ x0 a1 rX qX)
  rw [hG.out] at KK
  rw [hUB] at S0 S1 X0 X1 A0 A1 B0 B1
  go_wp2_with fail
  rw [← hUB] at S0 S1 X0 X1 A0 A1 B0 B1
  rw [← hUB]
  replace hUB := hide hUB
  refine KK.out.mono ?_
  rintro e w5 ⟨vC, rfl, oC, bb⟩
  clear KK
  have rC := oC.rd
  clear oC
  try dsimp only at rC
  obtain ⟨alC, clC, rfl⟩ := rC.slice
  replace S0 := (bb.cell (cell_lt S0)).trans S0
  replace S1 := (bb.cell (cell_lt S1)).trans S1
  replace X0 := (bb.cell (cell_lt X0)).trans X0
  replace X1 := (bb.cell (cell_lt X1)).trans X1
  replace A0 := (bb.cell (cell_lt A0)).trans A0
  replace A1 := (bb.cell (cell_lt A1)).trans A1
  replace B0 := (bb.cell (cell_lt B0)).trans B0
  replace B1 := (bb.cell (cell_lt B1)).trans B1
  replace h1 := h1.to0 bb
  replace h2 := h2.to0 bb
  replace rX := rX.to0 bb
  replace qX := qX.to0 bb
  replace rA := rA.to0 bb
  replace qA := qA.to0 bb
  replace rB := rB.to0 bb
  replace qB := qB.to0 bb
  replace g2 := g2.to bb
  replace rO := rO.to bb
  replace cc := cc.trans (bb.mono cc.size)
  clear bb
  have KK := hide (rget_any _ _ _ x0 a1 h1 h2)
  rw [hG.out] at KK
  go_wp2_with fail
  refine KK.out.mono ?_
  rintro e w6 ⟨vD, rfl, oD, bb⟩
  clear KK
  have rD := oD.rd
  clear oD
  try dsimp only at rD
  obtain ⟨alD, clD, rfl⟩ := rD.slice
  replace S0 := (bb.cell (cell_lt S0)).trans S0
  replace S1 := (bb.cell (cell_lt S1)).trans S1
  replace X0 := (bb.cell (cell_lt X0)).trans X0
  replace X1 := (bb.cell (cell_lt X1)).trans X1
  replace A0 := (bb.cell (cell_lt A0)).trans A0
  replace A1 := (bb.cell (cell_lt A1)).trans A1
  replace B0 := (bb.cell (cell_lt B0)).trans B0
  replace B1 := (bb.cell (cell_lt B1)).trans B1
  replace h1 := h1.to0 bb
  replace h2 := h2.to0 bb
  replace rX := rX.to0 bb
  replace qX := qX.to0 bb
  replace rA := rA.to0 bb
  replace qA := qA.to0 bb
  replace rB := rB.to0 bb
  replace qB := qB.to0 bb
  replace g2 := g2.to bb
  replace rO := rO.to bb
  replace rC := rC.to bb
  replace cc := cc.trans (bb.mono cc.size)
  clear bb
  have KK := hide (dflush_any _ _ _ x0 rX qX)
  rw [hF.out] at KK
  go_wp2_with fail
  refine KK.out.mono ?_
  rintro e w7 ⟨sE, cE, rfl, oE, bb⟩
  clear KK
  obtain ⟨rE, qE⟩ := oE.rd2
  clear oE
  try dsimp only at rE qE
  obtain ⟨alE, clE, rfl⟩ := rE.slice
  obtain ⟨acE, cdE, rfl⟩ := qE.slice
  replace S0 := (bb.cell (cell_lt S0)).trans S0
  replace S1 := (bb.cell (cell_lt S1)).trans S1
  replace X0 := (bb.cell (cell_lt X0)).trans X0
  replace X1 := (bb.cell (cell_lt X1)).trans X1
  replace A0 := (bb.cell (cell_lt A0)).trans A0
  replace A1 := (bb.cell (cell_lt A1)).trans A1
  replace B0 := (bb.cell (cell_lt B0)).trans B0
  replace B1 := (bb.cell (cell_lt B1)).trans B1
  replace h1 := h1.to0 bb
  replace h2 := h2.to0 bb
  replace rX := rX.to0 bb
  replace qX := qX.to0 bb
  replace rA := rA.to0 bb
  replace qA := qA.to0 bb
  replace rB := rB.to0 bb
  replace qB := qB.to0 bb
  replace g2 := g2.to bb
  replace rO := rO.to bb
  replace rC := rC.to bb
  replace rD := rD.to bb
  replace cc := cc.trans (bb.mono cc.size)
  clear bb
  obtain ⟨UE, hUE, E0, E1, bU, _⟩ := boxed2 w7 (.slice alE F1.length clE) (.slice acE F2.length cdE) 29
  replace S0 := (bU.cell (cell_lt S0)).trans S0
  replace S1 := (bU.cell (cell_lt S1)).trans S1
  replace X0 := (bU.cell (cell_lt X0)).trans X0
  replace X1 := (bU.cell (cell_lt X1)).trans X1
  replace A0 := (bU.cell (cell_lt A0)).trans A0
  replace A1 := (bU.cell (cell_lt A1)).trans A1
  replace B0 := (bU.cell (cell_lt B0)).trans B0
  replace B1 := (bU.cell (cell_lt B1)).trans B1
  replace h1 := h1.to0 bU
  replace h2 := h2.to0 bU
  replace rX := rX.to0 bU
  replace qX := qX.to0 bU
  replace rA := rA.to0 bU
  replace qA := qA.to0 bU
  replace rB := rB.to0 bU
  replace qB := qB.to0 bU
  replace rE := rE.to0 bU
  replace qE := qE.to0 bU
  replace g2 := g2.to bU
  replace rO := rO.to bU
  replace rC := rC.to bU
  replace rD := rD.to bU
  replace cc := cc.trans (bU.mono cc.size)
  clear bU
  have KK := hide (rflush_any _ _ _ x0 h1 h2 (by have := HF.out.2.2.1; omega))
  rw [hF.out] at KK
  rw [hUE] at S0 S1 X0 X1 A0 A1 B0 B1 E0 E1
  go_wp2_with fail
  rw [← hUE] at S0 S1 X0 X1 A0 A1 B0 B1 E0 E1
  rw [← hUE]
  replace hUE := hide hUE
  refine KK.out.mono ?_
  rintro e w8 ⟨sH, cH, rfl, oH, bb⟩
  clear KK
  obtain ⟨rH, qH⟩ := oH.rd2
  clear oH
  try dsimp only at rH qH
  obtain ⟨alH, clH, rfl⟩ := rH.slice
  obtain ⟨acH, cdH, rfl⟩ := qH.slice
  replace S0 := (bb.cell (cell_lt S0)).trans S0
  replace S1 := (bb.cell (cell_lt S1)).trans S1
  replace X0 := (bb.cell (cell_lt X0)).trans X0
  replace X1 := (bb.cell (cell_lt X1)).trans X1
  replace A0 := (bb.cell (cell_lt A0)).trans A0
  replace A1 := (bb.cell (cell_lt A1)).trans A1
  replace B0 := (bb.cell (cell_lt B0)).trans B0
  replace B1 := (bb.cell (cell_lt B1)).trans B1
  replace E0 := (bb.cell (cell_lt E0)).trans E0
  replace E1 := (bb.cell (cell_lt E1)).trans E1
  replace h1 := h1.to0 bb
  replace h2 := h2.to0 bb
  replace rX := rX.to0 bb
  replace qX := qX.to0 bb
  replace rA := rA.to0 bb
  replace qA := qA.to0 bb
  replace rB := rB.to0 bb
  replace qB := qB.to0 bb
  replace rE := rE.to0 bb
  replace qE := qE.to0 bb
  replace g2 := g2.to bb
  replace rO := rO.to bb
  replace rC := rC.to bb
  replace rD := rD.to bb
  replace cc := cc.trans (bb.mono cc.size)
  clear bb
  obtain ⟨UH, hUH, H0, H1, bU, _⟩ := boxed2 w8 (.slice alH F1.length clH) (.slice acH F2.length cdH) 25
  replace S0 := (bU.cell (cell_lt S0)).trans S0
  replace S1 := (bU.cell (cell_lt S1)).trans S1
  replace X0 := (bU.cell (cell_lt X0)).trans X0
  replace X1 := (bU.cell (cell_lt X1)).trans X1
  replace A0 := (bU.cell (cell_lt A0)).trans A0
  replace A1 := (bU.cell (cell_lt A1)).trans A1
  replace B0 := (bU.cell (cell_lt B0)).trans B0
  replace B1 := (bU.cell (cell_lt B1)).trans B1
  replace E0 := (bU.cell (cell_lt E0)).trans E0
  replace E1 := (bU.cell (cell_lt E1)).trans E1
  replace h1 := h1.to0 bU
  replace h2 := h2.to0 bU
  replace rX := rX.to0 bU
  replace qX := qX.to0 bU
  replace rA := rA.to0 bU
  replace qA := qA.to0 bU
  replace rB := rB.to0 bU
  replace qB := qB.to0 bU
  replace rE := rE.to0 bU
  replace qE := qE.to0 bU
  replace rH := rH.to0 bU
  replace qH := qH.to0 bU
  replace g2 := g2.to bU
  replace rO := rO.to bU
  replace rC := rC.to bU
  replace rD := rD.to bU
  replace cc := cc.trans (bU.mono cc.size)
  clear bU
  have KK := hide (drot_any _ _ _ x0 a1 a3 bb4 rX qX)
  rw [hT.out] at KK
  rw [hUH] at S0 S1 X0 X1 A0 A1 B0 B1 E0 E1 H0 H1
  go_wp2_with fail
  rw [← hUH] at S0 S1 X0 X1 A0 A1 B0 B1 E0 E1 H0 H1
  rw [← hUH]
  replace hUH := hide hUH
  refine KK.out.mono ?_
  rintro e w9 ⟨sI, cI, rfl, oI, bb⟩
  clear KK
  obtain ⟨rI, qI⟩ := oI.rd2
  clear oI
  try dsimp only at rI qI
  obtain ⟨alI, clI, rfl⟩ := rI.slice
  obtain ⟨acI, cdI, rfl⟩ := qI.slice
  replace S0 := (bb.cell (cell_lt S0)).trans S0
  replace S1 := (bb.cell (cell_lt S1)).trans S1
  replace X0 := (bb.cell (cell_lt X0)).trans X0
  replace X1 := (bb.cell (cell_lt X1)).trans X1
  replace A0 := (bb.cell (cell_lt A0)).trans A0
  replace A1 := (bb.cell (cell_lt A1)).trans A1
  replace B0 := (bb.cell (cell_lt B0)).trans B0
  replace B1 := (bb.cell (cell_lt B1)).trans B1
  replace E0 := (bb.cell (cell_lt E0)).trans E0
  replace E1 := (bb.cell (cell_lt E1)).trans E1
  replace H0 := (bb.cell (cell_lt H0)).trans H0
  replace H1 := (bb.cell (cell_lt H1)).trans H1
  replace h1 := h1.to0 bb
  replace h2 := h2.to0 bb
  replace rX := rX.to0 bb
  replace qX := qX.to0 bb
  replace rA := rA.to0 bb
  replace qA := qA.to0 bb
  replace rB := rB.to0 bb
  replace qB := qB.to0 bb
  replace rE := rE.to0 bb
  replace qE := qE.to0 bb
  replace rH := rH.to0 bb
  replace qH := qH.to0 bb
  replace g2 := g2.to bb
  replace rO := rO.to bb
  replace rC := rC.to bb
  replace rD := rD.to bb
  replace cc := cc.trans (bb.mono cc.size)
  clear bb
  obtain ⟨UI, hUI, I0, I1, bU, _⟩ := boxed2 w9 (.slice alI T1.length clI) (.slice acI T2.length cdI) 29
  replace S0 := (bU.cell (cell_lt S0)).trans S0
  replace S1 := (bU.cell (cell_lt S1)).trans S1
  replace X0 := (bU.cell (cell_lt X0)).trans X0
  replace X1 := (bU.cell (cell_lt X1)).trans X1
  replace A0 := (bU.cell (cell_lt A0)).trans A0
  replace A1 := (bU.cell (cell_lt A1)).trans A1
  replace B0 := (bU.cell (cell_lt B0)).trans B0
  replace B1 := (bU.cell (cell_lt B1)).trans B1
  replace E0 := (bU.cell (cell_lt E0)).trans E0
  replace E1 := (bU.cell (cell_lt E1)).trans E1
  replace H0 := (bU.cell (cell_lt H0)).trans H0
  replace H1 := (bU.cell (cell_lt H1)).trans H1
  replace h1 := h1.to0 bU
  replace h2 := h2.to0 bU
  replace rX := rX.to0 bU
  replace qX := qX.to0 bU
  replace rA := rA.to0 bU
  replace qA := qA.to0 bU
  replace rB := rB.to0 bU
  replace qB := qB.to0 bU
  replace rE := rE.to0 bU
  replace qE := qE.to0 bU
  replace rH := rH.to0 bU
  replace qH := qH.to0 bU
  replace rI := rI.to0 bU
  replace qI := qI.to0 bU
  replace g2 := g2.to bU
  replace rO := rO.to bU
  replace rC := rC.to bU
  replace rD := rD.to bU
  replace cc := cc.trans (bU.mono cc.size)
  clear bU
  have KK := hide (rrot_any _ _ _ x0 a1 a3 bb4 h1 h2)
  rw [hT.out] at KK
  rw [hUI] at S0 S1 X0 X1 A0 A1 B0 B1 E0 E1 H0 H1 I0 I1
  go_wp2_with fail
  rw [← hUI] at S0 S1 X0 X1 A0 A1 B0 B1 E0 E1 H0 H1 I0 I1
  rw [← hUI]
  replace hUI := hide hUI
  refine KK.out.mono ?_
  rintro e w10 ⟨sJ, cJ, rfl, oJ, bb⟩
  clear KK
  obtain ⟨rJ, qJ⟩ := oJ.rd2
  clear oJ
  try dsimp only at rJ qJ
  obtain ⟨alJ, clJ, rfl⟩ := rJ.slice
  obtain ⟨acJ, cdJ, rfl⟩ := qJ.slice
  replace S0 := (bb.cell (cell_lt S0)).trans S0
  replace S1 := (bb.cell (cell_lt S1)).trans S1
  replace X0 := (bb.cell (cell_lt X0)).trans X0
  replace X1 := (bb.cell (cell_lt X1)).trans X1
  replace A0 := (bb.cell (cell_lt A0)).trans A0
  replace A1 := (bb.cell (cell_lt A1)).trans A1
  replace B0 := (bb.cell (cell_lt B0)).trans B0
  replace B1 := (bb.cell (cell_lt B1)).trans B1
  replace E0 := (bb.cell (cell_lt E0)).trans E0
  replace E1 := (bb.cell (cell_lt E1)).trans E1
  replace H0 := (bb.cell (cell_lt H0)).trans H0
  replace H1 := (bb.cell (cell_lt H1)).trans H1
  replace I0 := (bb.cell (cell_lt I0)).trans I0
  replace I1 := (bb.cell (cell_lt I1)).trans I1
  replace h1 := h1.to0 bb
  replace h2 := h2.to0 bb
  replace rX := rX.to0 bb
  replace qX := qX.to0 bb
  replace rA := rA.to0 bb
  replace qA := qA.to0 bb
  replace rB := rB.to0 bb
  replace qB := qB.to0 bb
  replace rE := rE.to0 bb
  replace qE := qE.to0 bb
  replace rH := rH.to0 bb
  replace qH := qH.to0 bb
  replace rI := rI.to0 bb
  replace qI := qI.to0 bb
  replace g2 := g2.to bb
  replace rO := rO.to bb
  replace rC := rC.to bb
  replace rD := rD.to bb
  replace cc := cc.trans (bb.mono cc.size)
  clear bb
  obtain ⟨UJ, hUJ, J0, J1, bU, _⟩ := boxed2 w10 (.slice alJ T1.length clJ) (.slice acJ T2.length cdJ) 25
  replace S0 := (bU.cell (cell_lt S0)).trans S0
  replace S1 := (bU.cell (cell_lt S1)).trans S1
  replace X0 := (bU.cell (cell_lt X0)).trans X0
  replace X1 := (bU.cell (cell_lt X1)).trans X1
  replace A0 := (bU.cell (cell_lt A0)).trans A0
  replace A1 := (bU.cell (cell_lt A1)).trans A1
  replace B0 := (bU.cell (cell_lt B0)).trans B0
  replace B1 := (bU.cell (cell_lt B1)).trans B1
  replace E0 := (bU.cell (cell_lt E0)).trans E0
  replace E1 := (bU.cell (cell_lt E1)).trans E1
  replace H0 := (bU.cell (cell_lt H0)).trans H0
  replace H1 := (bU.cell (cell_lt H1)).trans H1
  replace I0 := (bU.cell (cell_lt I0)).trans I0
  replace I1 := (bU.cell (cell_lt I1)).trans I1
  replace h1 := h1.to0 bU
  replace h2 := h2.to0 bU
  replace rX := rX.to0 bU
  replace qX := qX.to0 bU
  replace rA := rA.to0 bU
  replace qA := qA.to0 bU
  replace rB := rB.to0 bU
  replace qB := qB.to0 bU
  replace rE := rE.to0 bU
  replace qE := qE.to0 bU
  replace rH := rH.to0 bU
  replace qH := qH.to0 bU
  replace rI := rI.to0 bU
  replace qI := qI.to0 bU
  replace rJ := rJ.to0 bU
  replace qJ := qJ.to0 bU
  replace g2 := g2.to bU
  replace rO := rO.to bU
  replace rC := rC.to bU
  replace rD := rD.to bU
  replace cc := cc.trans (bU.mono cc.size)
  clear bU
  have KK := hide (alike_any _ _ _ _ _ (P1, P2) rA qA rB qB)
  rw [hUJ] at S0 S1 X0 X1 A0 A1 B0 B1 E0 E1 H0 H1 I0 I1 J0 J1
  go_wp2_with fail
  rw [← hUJ] at S0 S1 X0 X1 A0 A1 B0 B1 E0 E1 H0 H1 I0 I1 J0 J1
  rw [← hUJ]
  replace hUJ := hide hUJ
  refine KK.out.mono ?_
  rintro e w11 ⟨rfl, bb⟩
  clear KK
  replace S0 := (bb.cell (cell_lt S0)).trans S0
  replace S1 := (bb.cell (cell_lt S1)).trans S1
  replace X0 := (bb.cell (cell_lt X0)).trans X0
  replace X1 := (bb.cell (cell_lt X1)).trans X1
  replace A0 := (bb.cell (cell_lt A0)).trans A0
  replace A1 := (bb.cell (cell_lt A1)).trans A1
  replace B0 := (bb.cell (cell_lt B0)).trans B0
  replace B1 := (bb.cell (cell_lt B1)).trans B1
  replace E0 := (bb.cell (cell_lt E0)).trans E0
  replace E1 := (bb.cell (cell_lt E1)).trans E1
  replace H0 := (bb.cell (cell_lt H0)).trans H0
  replace H1 := (bb.cell (cell_lt H1)).trans H1
  replace I0 := (bb.cell (cell_lt I0)).trans I0
  replace I1 := (bb.cell (cell_lt I1)).trans I1
  replace J0 := (bb.cell (cell_lt J0)).trans J0
  replace J1 := (bb.cell (cell_lt J1)).trans J1
  replace h1 := h1.to0 bb
  replace h2 := h2.to0 bb
  replace rX := rX.to0 bb
  replace qX := qX.to0 bb
  replace rA := rA.to0 bb
  replace qA := qA.to0 bb
  replace rB := rB.to0 bb
  replace qB := qB.to0 bb
  replace rE := rE.to0 bb
  replace qE := qE.to0 bb
  replace rH := rH.to0 bb
  replace qH := qH.to0 bb
  replace rI := rI.to0 bb
  replace qI := qI.to0 bb
  replace rJ := rJ.to0 bb
  replace qJ := qJ.to0 bb
  replace g2 := g2.to bb
  replace rO := rO.to bb
  replace rC := rC.to bb
  replace rD := rD.to bb
  replace cc := cc.trans (bb.mono cc.size)
  clear bb
  go_wp2_with fail
  refine (num4_any _ _).mono ?_
  have KK := trivial
  rintro e w' ⟨rfl, rfl⟩
  clear KK
  clear A0 A1 B0 B1 rA qA rB qB
  have KK := hide (same_any _ _ _ _ _ rC rD)
  rw [sameB_self] at KK
  go_wp2_with fail
  refine KK.out.mono ?_
  rintro e wq ⟨rfl, nq, hw⟩
  have bb := below_drewN' w11 nq w11.heap.size
  rw [← hw] at bb
  clear KK hw
  replace S0 := (bb.cell (cell_lt S0)).trans S0
  replace S1 := (bb.cell (cell_lt S1)).trans S1
  replace X0 := (bb.cell (cell_lt X0)).trans X0
  replace X1 := (bb.cell (cell_lt X1)).trans X1
  replace E0 := (bb.cell (cell_lt E0)).trans E0
  replace E1 := (bb.cell (cell_lt E1)).trans E1
  replace H0 := (bb.cell (cell_lt H0)).trans H0
  replace H1 := (bb.cell (cell_lt H1)).trans H1
  replace I0 := (bb.cell (cell_lt I0)).trans I0
  replace I1 := (bb.cell (cell_lt I1)).trans I1
  replace J0 := (bb.cell (cell_lt J0)).trans J0
  replace J1 := (bb.cell (cell_lt J1)).trans J1
  replace h1 := h1.to0 bb
  replace h2 := h2.to0 bb
  replace rX := rX.to0 bb
  replace qX := qX.to0 bb
  replace rE := rE.to0 bb
  replace qE := qE.to0 bb
  replace rH := rH.to0 bb
  replace qH := qH.to0 bb
  replace rI := rI.to0 bb
  replace qI := qI.to0 bb
  replace rJ := rJ.to0 bb
  replace qJ := qJ.to0 bb
  replace g2 := g2.to bb
  replace rO := rO.to bb
  replace rC := rC.to bb
  replace rD := rD.to bb
  replace cc := cc.trans (bb.mono cc.size)
  clear bb
  clear rC rD
  go_wp2_with fail
  refine (num4_any _ _).mono ?_
  have KK := trivial
  rintro e w' ⟨rfl, rfl⟩
  clear KK
  have KK := hide (alike_any _ _ _ _ _ (F1, F2) rE qE rH qH)
  go_wp2_with fail
  refine KK.out.mono ?_
  rintro e w12 ⟨rfl, bb⟩
  clear KK
  replace S0 := (bb.cell (cell_lt S0)).trans S0
  replace S1 := (bb.cell (cell_lt S1)).trans S1
  replace X0 := (bb.cell (cell_lt X0)).trans X0
  replace X1 := (bb.cell (cell_lt X1)).trans X1
  replace E0 := (bb.cell (cell_lt E0)).trans E0
  replace E1 := (bb.cell (cell_lt E1)).trans E1
  replace H0 := (bb.cell (cell_lt H0)).trans H0
  replace H1 := (bb.cell (cell_lt H1)).trans H1
  replace I0 := (bb.cell (cell_lt I0)).trans I0
  replace I1 := (bb.cell (cell_lt I1)).trans I1
  replace J0 := (bb.cell (cell_lt J0)).trans J0
  replace J1 := (bb.cell (cell_lt J1)).trans J1
  replace h1 := h1.to0 bb
  replace h2 := h2.to0 bb
  replace rX := rX.to0 bb
  replace qX := qX.to0 bb
  replace rE := rE.to0 bb
  replace qE := qE.to0 bb
  replace rH := rH.to0 bb
  replace qH := qH.to0 bb
  replace rI := rI.to0 bb
  replace qI := qI.to0 bb
  replace rJ := rJ.to0 bb
  replace qJ := qJ.to0 bb
  replace g2 := g2.to bb
  replace rO := rO.to bb
  replace cc := cc.trans (bb.mono cc.size)
  clear bb
  go_wp2_with fail
  refine (num4_any _ _).mono ?_
  have KK := trivial
  rintro e w' ⟨rfl, rfl⟩
  clear KK
  clear E0 E1 H0 H1 rE qE rH qH
  have KK := hide (alike_any _ _ _ _ _ (T1, T2) rI qI rJ qJ)
  go_wp2_with fail
  refine KK.out.mono ?_
  rintro e w13 ⟨rfl, bb⟩
  clear KK
  replace S0 := (bb.cell (cell_lt S0)).trans S0
  replace S1 := (bb.cell (cell_lt S1)).trans S1
  replace X0 := (bb.cell (cell_lt X0)).trans X0
  replace X1 := (bb.cell (cell_lt X1)).trans X1
  replace I0 := (bb.cell (cell_lt I0)).trans I0
  replace I1 := (bb.cell (cell_lt I1)).trans I1
  replace J0 := (bb.cell (cell_lt J0)).trans J0
  replace J1 := (bb.cell (cell_lt J1)).trans J1
  replace h1 := h1.to0 bb
  replace h2 := h2.to0 bb
  replace rX := rX.to0 bb
  replace qX := qX.to0 bb
  replace rI := rI.to0 bb
  replace qI := qI.to0 bb
  replace rJ := rJ.to0 bb
  replace qJ := qJ.to0 bb
  replace g2 := g2.to bb
  replace rO := rO.to bb
  replace cc := cc.trans (bb.mono cc.size)
  clear bb
  go_wp2_with fail
  refine (num4_any _ _).mono ?_
  have KK := trivial
  rintro e w' ⟨rfl, rfl⟩
  clear KK
  clear I0 I1 J0 J1 rI qI rJ qJ
  have bel0 : Below w13.heap.size w13 w13.drew := (Below.refl _ _).drew
  have hsame := fun (u : World) (b : Below w13.heap.size w13 u) => same_any u _ _ x2 x2 (rO.to b) (g2.to b)
  simp only [sameB_self] at hsame
  have HSAME := hide hsame
  have SOF : Hid (∀ u, Below w13.heap.size w13 u → u.cell? ⟨w.heap.size, 0, none⟩ = some (.slice sa x0.1.length sc) ∧ u.cell? ⟨w.heap.size, 1, none⟩ = some (.slice ca x0.2.length cc0) ∧ u.cell? ⟨w2.heap.size, 0, none⟩ = some (.slice alX x0.1.length clX) ∧ u.cell? ⟨w2.heap.size, 1, none⟩ = some (.slice acX x0.2.length cdX)) := fun u b => ⟨(b.cell (cell_lt S0)).trans S0, (b.cell (cell_lt S1)).trans S1, (b.cell (cell_lt X0)).trans X0, (b.cell (cell_lt X1)).trans X1⟩
  have ALL := hide (And.intro h1 (And.intro h2 (And.intro rX qX)))
  clear hsame h1 h2 rX qX g2 rO
  go_wp2
  go_region_held3 (fun w' => w'.cell? ⟨w.heap.size, 0, none⟩ = some (.slice sa x0.1.length sc) ∧ w'.cell? ⟨w.heap.size, 1, none⟩ = some (.slice ca x0.2.length cc0) ∧ w'.cell? ⟨w2.heap.size, 0, none⟩ = some (.slice alX x0.1.length clX) ∧ w'.cell? ⟨w2.heap.size, 1, none⟩ = some (.slice acX x0.2.length cdX)) (exact SOF.out _ (by assumption)) (first
    | (refine step_call_w (by rfl) 22 _ _ (by rfl) #[.agg #[.slice alX x0.1.length clX, .slice acX x0.2.length cdX]] (by simp [Act.eval]) (Try.call22 _ _) (dcheck_any _ _ _ x0 (ALL.out.2.2.1.to0 bel0) (ALL.out.2.2.2.to0 bel0)) ?_; rintro e wa ⟨rfl, ba⟩; have bel1 := bel0.trans (ba.mono bel0.size); refine ⟨_, rfl, ?_⟩)
    | (refine step_call_w (by rfl) 20 _ _ (by rfl) #[.int .i64 (dcheck x0)] (by simp [Act.eval]) (Try.call20 _ _) (num4_any _ _) ?_; rintro e w' ⟨rfl, rfl⟩; refine ⟨_, rfl, ?_⟩)
    | (refine step_call_w (by rfl) 23 _ _ (by rfl) #[.agg #[.slice sa x0.1.length sc, .slice ca x0.2.length cc0]] (by simp [Act.eval]) (Try.call23 _ _) (rcheck_any _ _ _ x0 (ALL.out.1.to0 bel1) (ALL.out.2.1.to0 bel1)) ?_; rintro e wb ⟨rfl, bb⟩; have bel2 := bel1.trans (bb.mono bel1.size); refine ⟨_, rfl, ?_⟩)
    | (refine step_call_w (by rfl) 19 _ _ (by rfl) #[.agg #[.slice alX x0.1.length clX, .slice acX x0.2.length cdX], .agg #[.slice sa x0.1.length sc, .slice ca x0.2.length cc0]] (by simp [Act.eval]) (Try.call19 _ _) (alike_any _ _ _ _ _ x0 (ALL.out.2.2.1.to0 bel2) (ALL.out.2.2.2.to0 bel2) (ALL.out.1.to0 bel2) (ALL.out.2.1.to0 bel2)) ?_; rintro e wc ⟨rfl, bc⟩; have bel3 := bel2.trans (bc.mono bel2.size); refine ⟨_, rfl, ?_⟩)
    | (refine step_call_w (by rfl) 21 _ _ (by rfl) #[.slice alO x2.length clO, .slice a2 x2.length cap2] (by simp [Act.eval]) (Try.call21 _ _) (HSAME.out _ bel3) ?_; rintro e wd ⟨rfl, nq, hwd⟩; have bel4 : Below w13.heap.size w13 wd := (by rw [hwd]; exact bel3.trans (below_drewN' _ _ _)); clear hwd; refine ⟨_, rfl, ?_⟩)
    | (refine step_call_w (by rfl) 24 _ _ (by rfl) #[] (by simp) (Try.call24 _ _) (dalive_any _) ?_; rintro e we ⟨rfl, be⟩; have bel5 := bel4.trans (be.mono bel4.size); refine ⟨_, rfl, ?_⟩))
  all_goals
    go_wp2
    go_ret
    exact ⟨rfl, cc.trans (bel5.mono cc.size)⟩

set_option maxRecDepth 100000 in
theorem lifted (os : Os) (started : os.Started) (H : Type) (enc : TypeId × Value → H) :
    ReturnsInHanded {} Try.checked os 3 .any (Rows.diskTellsSpec.pre6 enc Try.prog Try.f3 Rows.diskTellsRow.domain false) (Rows.diskTellsSpec.post enc Try.prog Try.f3 false true false false) := by
  refine returnsInHanded_of_change_sized (C := Try.checked) own started (by kernel_rfl) Try.func3
    (ChangeSpec.witness6 (enc := enc) (C := Try.checked) false ⟨#[], #[.agg #[.slice none 0 0, .slice none 0 0], .int .i64 0, .slice none 0 0, .int .i64 0, .int .u8 0], []⟩ 8 (by kernel_rfl) (by kernel_rfl) (by kernel_rfl) (by kernel_rfl)) ?_
  intro W base args ds gs before hval0 hW hcnd hsz0 _
  have hsz : (DataW.weightsEach Try.prog (Try.f3.params.toList ++ Rows.diskTellsSpec.plain.varTypes Try.prog) (ds ++ gs)).all (· ≤ reachBytes) = true := hsz0
  have hval : ∀ (j : Nat) t v, Try.f3.params[j]? = some t → args[j]? = some v → Value.okWide Try.prog W .any base t v := hval0
  have hW' := hW
  obtain ⟨p, q, hA0, hV, rfl, hfz, hnd⟩ := hW
  have hA : DataW.TrodAll enc Try.prog W 0 (fun _ => true) true Try.f3.params.toList args.toList ds p := hA0
  rw [Try.params3] at hA hval hsz
  obtain ⟨v0, vs0, d0, ds0, p0, q0, hargs, rfl, rfl, h0, r0⟩ := trodAll_cons hA
  obtain ⟨v1, vs1, d1, ds1, p1, q1, rfl, rfl, rfl, h1, r1⟩ := trodAll_cons r0
  obtain ⟨v2, vs2, d2, ds2, p2, q2, rfl, rfl, rfl, h2, r2⟩ := trodAll_cons r1
  obtain ⟨v3, vs3, d3, ds3, p3, q3, rfl, rfl, rfl, h3, r3⟩ := trodAll_cons r2
  obtain ⟨v4, vs4, d4, ds4, p4, q4, rfl, rfl, rfl, h4, r4⟩ := trodAll_cons r3
  obtain ⟨rfl, rfl, rfl⟩ := trodAll_nil r4
  obtain rfl : args = #[v0, v1, v2, v3, v4] := by cases args; simp_all
  obtain ⟨rfl, rfl⟩ := trodVars_none hV
  obtain ⟨cs0, rfl, _⟩ := okWide_struct Try.underlying25 (hval 0 25 v0 rfl rfl)
  have lt0 : ∀ x ∈ p0, x.block < W.heap.size := by obtain ⟨m, hm⟩ := h0; exact DataW.trod_lt m _ _ _ hm
  have hh0 := h0
  obtain ⟨fu0, hf0⟩ := hh0
  obtain ⟨x0, g0, f0, b0⟩ := open_state.opened hf0
  obtain ⟨a1, rfl, rfl, rfl, w1⟩ := open_int Try.underlying3 (hval 1 3 v1 rfl rfl) h1
  obtain ⟨a2, len2, cap2, rfl⟩ := okWide_slice Try.underlying26 (hval 2 26 v2 rfl rfl)
  have lt2 : ∀ x ∈ p2, x.block < W.heap.size := by obtain ⟨m, hm⟩ := h2; exact DataW.trod_lt m _ _ _ hm
  obtain ⟨x2, e2, g2, s2⟩ := open_octs h2
  obtain ⟨a3, rfl, rfl, rfl, w3⟩ := open_int Try.underlying3 (hval 3 3 v3 rfl rfl) h3
  obtain ⟨a4, rfl, rfl, rfl, w4⟩ := open_int Try.underlying5 (hval 4 5 v4 rfl rfl) h4
  have m0 := f0 (reach_of hsz (j := 0) rfl rfl)
  have m2 := reach_octs hsz (j := 2) rfl rfl s2
  clear hA0 hval0 hsz0 hsz
  refine (walk W cs0 x0 g0 m0 a1 w1 a2 len2 cap2 x2 e2 g2 m2 a3 w3 a4 w4).mono fun e W' ⟨he, bel⟩ => ?_
  subst he
  exact ⟨_, rfl, _, _, _, [], _, [], hW', trodAll_mk1 (shut_bool Try.underlying4 _), (trodAll_cons_mk (Below.trod laidOut (by kernel_rfl) (of_decide_eq_true (by kernel_rfl)) h0 bel lt0) (trodAll_cons_mk (shut_int Try.underlying3 w1) (trodAll_cons_mk (Below.trod laidOut (by kernel_rfl) (of_decide_eq_true (by kernel_rfl)) h2 bel lt2) (trodAll_cons_mk (shut_int Try.underlying3 w3) (trodAll_cons_mk (shut_int Try.underlying5 w4) trodAll_mk0))))), rfl, bel.frame _, fun h => by cases h⟩

theorem over : Rows.diskTellsRow.holds Try.pinned (OpenSpec.ofChange Rows.diskTellsSpec) :=
  OpenClaim.holds_of_wide 3 Try.f3 rfl rfl rfl rfl rfl rfl rfl ⟨rfl, rfl, rfl, rfl, rfl⟩ rfl rfl rfl rfl rfl (by kernel_rfl) Try.func3 (by kernel_rfl)
    (of_decide_eq_true (by kernel_rfl)) (by unfold Func.isWrapper; first | (rw [if_pos (by decide +kernel)]; kernel_rfl) | (rw [if_neg (by decide +kernel)]; exact ⟨rfl, rfl⟩))
    (fun os started H enc _ => lifted os started H enc)

end Go.Proofs.Ythomioojkpmmgaa.diskTells
namespace Go.Proofs.Ythomioojkpmmgaa
/-- THE STATEMENT -/
theorem diskTells_holds : Rows.DiskTellsSaid := diskTells.over
end Go.Proofs.Ythomioojkpmmgaa
