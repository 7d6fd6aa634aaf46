/-
  PROVED: whatever map, number and extent come in, transeptlaw05.ExtentTells returns true and leaves them as they were: the statement of P5.1 and P5.2 (of any map: what is given, taken, freed, and the room, are the page's; the map that was handed in stays).
-/
import Derived.Test.YtacfcgklncckiaaEIn
import Derived.Test.YtacfcgklncckiaaEAlive
import Derived.Test.YtacfcgklncckiaaEFreeR
import Derived.Test.YtacfcgklncckiaaRSched
import Derived.Test.YtacfcgklncckiaaStep
namespace Go.Proofs.Ytacfcgklncckiaa.extentTells
open Go.ChangeShapes Go.WideShapes Go.ChangeAt Go.RowKit
set_option linter.unusedVariables false

set_option maxRecDepth 100000 in
set_option maxHeartbeats 8000000 in
set_option linter.unusedSimpArgs false in
theorem walk (w : World) (cs0 : Array Value) (x0 : EMap) (g0 : SMapE.rd w cs0.toList x0) (m0 : (Lit.int .i64 x0.1).wf = true ∧ (x0.2.length * 16 ≤ 140737488351232 ∧ ∀ y ∈ x0.2, (Lit.int .i64 y.1).wf = true ∧ (Lit.int .i64 y.2).wf = true)) (a1 : Int) (w1' : (Lit.int .i64 a1).wf = true) (cs2 : Array Value) (x2 : Ext) (g2 : SExt.rd w cs2.toList x2) (m2 : (Lit.int .i64 x2.1).wf = true ∧ (Lit.int .i64 x2.2).wf = true) :
    Calls Try.prog 3 #[.agg cs0, .int .i64 a1, .agg cs2] w fun e w' => e = .returned (.bool true) ∧ Below w.heap.size w w' := by
  obtain rfl := ext_form g2
  have hx := (wf_int m2.1).2
  clear g2 m2
  obtain ⟨fv, rfl, h⟩ := emap_form g0
  obtain ⟨hin, hm⟩ := emap_in m0
  clear g0 m0
  obtain ⟨sa, sc, rfl⟩ := h.slice
  have cc : Below w.heap.size w w := Below.refl _ _
  obtain ⟨D1, D2, p, q, er, hA⟩ : ∃ D1 D2 p q er, ealloc x0 a1 = ((D1, D2), (p, q), er) := ⟨_, _, _, _, _, rfl⟩
  replace hA := hide hA
  obtain ⟨E1, E2, fr, hT⟩ : ∃ E1 E2 fr, etake x0 x2 = ((E1, E2), fr) := ⟨_, _, _, rfl⟩
  replace hT := hide hT
  obtain ⟨G1, G2, gr, hF⟩ : ∃ G1 G2 gr, efree x0 x2 = ((G1, G2), gr) := ⟨_, _, _, rfl⟩
  replace hF := hide hF
  obtain ⟨r1, r2, r3, hR⟩ : ∃ r1 r2 r3, eroom x0 = (r1, r2, r3) := ⟨_, _, _, rfl⟩
  replace hR := hide hR
  obtain ⟨N1, N2, nr, hN⟩ : ∃ N1 N2 nr, enew a1 = ((N1, N2), nr) := ⟨_, _, _, rfl⟩
  replace hN := hide hN
  obtain ⟨XM, hXM, M, bX, sXM⟩ := boxed2b w (.int .i64 x0.1) (.slice sa x0.2.length sc) 24
  replace M := hide M
  replace h := h.to0 bX
  replace cc := cc.trans (bX.mono cc.size)
  replace hXM := hide hXM
  clear bX
  obtain ⟨XV, hXV, V, bX, sXV⟩ := boxed2b XM (.int .i64 x2.1) (.int .i64 x2.2) 26
  rw [sXM] at V
  replace V := hide V
  replace M := hide ((bX.block _ (lt_of_block M.out)).trans M.out)
  replace h := h.to0 bX
  replace cc := cc.trans (bX.mono cc.size)
  rw [hXM.out] at hXV
  replace hXV := hide hXV
  clear bX
  go_enter Try.func3, Try.ntmps3
  have KK := hide (of5_any XV _ x0 h hm)
  try dsimp only at KK
  obtain ⟨m0, m1, _, _⟩ := cells2 M.out
  obtain ⟨v0, v1, _, _⟩ := cells2 V.out
  rw [hXV.out] at m0 m1 v0 v1
  go_wp2_with fail
  rw [← hXV.out]
  clear m0 m1 v0 v1
  refine KK.out.mono ?_
  rintro e w1 ⟨f, rfl, o, bb⟩
  clear KK
  try dsimp only at o
  have ro := ownE_rd o
  clear o
  obtain ⟨ao, co, hv⟩ := ro.slice
  subst hv
  replace M := hide ((bb.block _ (lt_of_block M.out)).trans M.out)
  replace V := hide ((bb.block _ (lt_of_block V.out)).trans V.out)
  replace h := h.to0 bb
  replace cc := cc.trans (bb.mono cc.size)
  clear bb
  obtain ⟨XO, hXO, O, bX, sXO⟩ := boxed2b w1 (.int .i64 x0.1) (.slice ao x0.2.length co) 27
  replace O := hide O
  replace M := hide ((bX.block _ (lt_of_block M.out)).trans M.out)
  replace V := hide ((bX.block _ (lt_of_block V.out)).trans V.out)
  replace h := h.to0 bX
  replace ro := ro.to0 bX
  replace cc := cc.trans (bX.mono cc.size)
  replace hXO := hide hXO
  clear bX
  have KK := hide (palloc_any XO _ x0 a1 ro hin)
  rw [hA.out] at KK
  try dsimp only at KK
  obtain ⟨m0, m1, _, _⟩ := cells2 M.out
  obtain ⟨v0, v1, _, _⟩ := cells2 V.out
  obtain ⟨o0, o1, _, _⟩ := cells2 O.out
  rw [hXO.out] at m0 m1 v0 v1 o0 o1
  go_wp2_with fail
  rw [← hXO.out]
  clear m0 m1 v0 v1 o0 o1
  refine KK.out.mono ?_
  rintro e w2 ⟨f, rfl, o, bb⟩
  clear KK
  try dsimp only at o
  have ra := ownE_rd o
  clear o
  obtain ⟨aa, ca, hv⟩ := ra.slice
  subst hv
  replace M := hide ((bb.block _ (lt_of_block M.out)).trans M.out)
  replace V := hide ((bb.block _ (lt_of_block V.out)).trans V.out)
  replace O := hide ((bb.block _ (lt_of_block O.out)).trans O.out)
  replace h := h.to0 bb
  replace ro := ro.to0 bb
  replace cc := cc.trans (bb.mono cc.size)
  clear bb
  obtain ⟨XK, hXK, K, bX, sXK⟩ := boxed2b w2 (.int .i64 D1) (.slice aa D2.length ca) 27
  replace K := hide K
  replace M := hide ((bX.block _ (lt_of_block M.out)).trans M.out)
  replace V := hide ((bX.block _ (lt_of_block V.out)).trans V.out)
  replace O := hide ((bX.block _ (lt_of_block O.out)).trans O.out)
  replace h := h.to0 bX
  replace ro := ro.to0 bX
  replace ra := ra.to0 bX
  replace cc := cc.trans (bX.mono cc.size)
  replace hXK := hide hXK
  clear bX
  obtain ⟨XE, hXE, E, bX, sXE⟩ := boxed2b XK (.int .i64 p) (.int .i64 q) 26
  rw [sXK] at E
  replace E := hide E
  replace M := hide ((bX.block _ (lt_of_block M.out)).trans M.out)
  replace V := hide ((bX.block _ (lt_of_block V.out)).trans V.out)
  replace O := hide ((bX.block _ (lt_of_block O.out)).trans O.out)
  replace K := hide ((bX.block _ (lt_of_block K.out)).trans K.out)
  replace h := h.to0 bX
  replace ro := ro.to0 bX
  replace ra := ra.to0 bX
  replace cc := cc.trans (bX.mono cc.size)
  rw [hXK.out] at hXE
  replace hXE := hide hXE
  clear bX
  have KK := hide (ralloc_any XE _ x0 a1 h hin)
  rw [hA.out] at KK
  try dsimp only at KK
  obtain ⟨m0, m1, _, _⟩ := cells2 M.out
  obtain ⟨v0, v1, _, _⟩ := cells2 V.out
  obtain ⟨o0, o1, _, _⟩ := cells2 O.out
  obtain ⟨k0, k1, _, _⟩ := cells2 K.out
  obtain ⟨e0, e1, _, _⟩ := cells2 E.out
  rw [hXE.out] at m0 m1 v0 v1 o0 o1 k0 k1 e0 e1
  go_wp2_with fail
  rw [← hXE.out]
  clear m0 m1 v0 v1 o0 o1 k0 k1 e0 e1
  refine KK.out.mono ?_
  rintro e w3 ⟨f, rfl, o, bb⟩
  clear KK
  try dsimp only at o
  have rb := ownE_rd o
  clear o
  obtain ⟨ab, cb, hv⟩ := rb.slice
  subst hv
  replace M := hide ((bb.block _ (lt_of_block M.out)).trans M.out)
  replace V := hide ((bb.block _ (lt_of_block V.out)).trans V.out)
  replace O := hide ((bb.block _ (lt_of_block O.out)).trans O.out)
  replace K := hide ((bb.block _ (lt_of_block K.out)).trans K.out)
  replace E := hide ((bb.block _ (lt_of_block E.out)).trans E.out)
  replace h := h.to0 bb
  replace ro := ro.to0 bb
  replace ra := ra.to0 bb
  replace cc := cc.trans (bb.mono cc.size)
  clear bb
  obtain ⟨XB, hXB, B, bX, sXB⟩ := boxed2b w3 (.int .i64 D1) (.slice ab D2.length cb) 24
  replace B := hide B
  replace M := hide ((bX.block _ (lt_of_block M.out)).trans M.out)
  replace V := hide ((bX.block _ (lt_of_block V.out)).trans V.out)
  replace O := hide ((bX.block _ (lt_of_block O.out)).trans O.out)
  replace K := hide ((bX.block _ (lt_of_block K.out)).trans K.out)
  replace E := hide ((bX.block _ (lt_of_block E.out)).trans E.out)
  replace h := h.to0 bX
  replace ro := ro.to0 bX
  replace ra := ra.to0 bX
  replace rb := rb.to0 bX
  replace cc := cc.trans (bX.mono cc.size)
  replace hXB := hide hXB
  clear bX
  obtain ⟨XF, hXF, F, bX, sXF⟩ := boxed2b XB (.int .i64 p) (.int .i64 q) 26
  rw [sXB] at F
  replace F := hide F
  replace M := hide ((bX.block _ (lt_of_block M.out)).trans M.out)
  replace V := hide ((bX.block _ (lt_of_block V.out)).trans V.out)
  replace O := hide ((bX.block _ (lt_of_block O.out)).trans O.out)
  replace K := hide ((bX.block _ (lt_of_block K.out)).trans K.out)
  replace E := hide ((bX.block _ (lt_of_block E.out)).trans E.out)
  replace B := hide ((bX.block _ (lt_of_block B.out)).trans B.out)
  replace h := h.to0 bX
  replace ro := ro.to0 bX
  replace ra := ra.to0 bX
  replace rb := rb.to0 bX
  replace cc := cc.trans (bX.mono cc.size)
  rw [hXB.out] at hXF
  replace hXF := hide hXF
  clear bX
  have KK := hide (ptake_any XF _ x0 x2 ro hin hx)
  rw [hT.out] at KK
  try dsimp only at KK
  obtain ⟨m0, m1, _, _⟩ := cells2 M.out
  obtain ⟨v0, v1, _, _⟩ := cells2 V.out
  obtain ⟨o0, o1, _, _⟩ := cells2 O.out
  obtain ⟨k0, k1, _, _⟩ := cells2 K.out
  obtain ⟨e0, e1, _, _⟩ := cells2 E.out
  obtain ⟨b0, b1, _, _⟩ := cells2 B.out
  obtain ⟨f0, f1, _, _⟩ := cells2 F.out
  rw [hXF.out] at m0 m1 v0 v1 o0 o1 k0 k1 e0 e1 b0 b1 f0 f1
  go_wp2_with fail
  rw [← hXF.out]
  clear m0 m1 v0 v1 o0 o1 k0 k1 e0 e1 b0 b1 f0 f1
  refine KK.out.mono ?_
  rintro e w4 ⟨f, rfl, o, bb⟩
  clear KK
  try dsimp only at o
  have rc := ownE_rd o
  clear o
  obtain ⟨ac, kc, hv⟩ := rc.slice
  subst hv
  replace M := hide ((bb.block _ (lt_of_block M.out)).trans M.out)
  replace V := hide ((bb.block _ (lt_of_block V.out)).trans V.out)
  replace O := hide ((bb.block _ (lt_of_block O.out)).trans O.out)
  replace K := hide ((bb.block _ (lt_of_block K.out)).trans K.out)
  replace E := hide ((bb.block _ (lt_of_block E.out)).trans E.out)
  replace B := hide ((bb.block _ (lt_of_block B.out)).trans B.out)
  replace F := hide ((bb.block _ (lt_of_block F.out)).trans F.out)
  replace h := h.to0 bb
  replace ro := ro.to0 bb
  replace ra := ra.to0 bb
  replace rb := rb.to0 bb
  replace cc := cc.trans (bb.mono cc.size)
  clear bb
  obtain ⟨XC, hXC, C, bX, sXC⟩ := boxed2b w4 (.int .i64 E1) (.slice ac E2.length kc) 27
  replace C := hide C
  replace M := hide ((bX.block _ (lt_of_block M.out)).trans M.out)
  replace V := hide ((bX.block _ (lt_of_block V.out)).trans V.out)
  replace O := hide ((bX.block _ (lt_of_block O.out)).trans O.out)
  replace K := hide ((bX.block _ (lt_of_block K.out)).trans K.out)
  replace E := hide ((bX.block _ (lt_of_block E.out)).trans E.out)
  replace B := hide ((bX.block _ (lt_of_block B.out)).trans B.out)
  replace F := hide ((bX.block _ (lt_of_block F.out)).trans F.out)
  replace h := h.to0 bX
  replace ro := ro.to0 bX
  replace ra := ra.to0 bX
  replace rb := rb.to0 bX
  replace rc := rc.to0 bX
  replace cc := cc.trans (bX.mono cc.size)
  replace hXC := hide hXC
  clear bX
  have KK := hide (rtake_any XC _ x0 x2 h hin hx)
  rw [hT.out] at KK
  try dsimp only at KK
  obtain ⟨m0, m1, _, _⟩ := cells2 M.out
  obtain ⟨v0, v1, _, _⟩ := cells2 V.out
  obtain ⟨o0, o1, _, _⟩ := cells2 O.out
  obtain ⟨k0, k1, _, _⟩ := cells2 K.out
  obtain ⟨e0, e1, _, _⟩ := cells2 E.out
  obtain ⟨b0, b1, _, _⟩ := cells2 B.out
  obtain ⟨f0, f1, _, _⟩ := cells2 F.out
  obtain ⟨c0, c1, _, _⟩ := cells2 C.out
  rw [hXC.out] at m0 m1 v0 v1 o0 o1 k0 k1 e0 e1 b0 b1 f0 f1 c0 c1
  go_wp2_with fail
  rw [← hXC.out]
  clear m0 m1 v0 v1 o0 o1 k0 k1 e0 e1 b0 b1 f0 f1 c0 c1
  refine KK.out.mono ?_
  rintro e w5 ⟨f, rfl, o, bb⟩
  clear KK
  try dsimp only at o
  have rd := ownE_rd o
  clear o
  obtain ⟨ad, cd, hv⟩ := rd.slice
  subst hv
  replace M := hide ((bb.block _ (lt_of_block M.out)).trans M.out)
  replace V := hide ((bb.block _ (lt_of_block V.out)).trans V.out)
  replace O := hide ((bb.block _ (lt_of_block O.out)).trans O.out)
  replace K := hide ((bb.block _ (lt_of_block K.out)).trans K.out)
  replace E := hide ((bb.block _ (lt_of_block E.out)).trans E.out)
  replace B := hide ((bb.block _ (lt_of_block B.out)).trans B.out)
  replace F := hide ((bb.block _ (lt_of_block F.out)).trans F.out)
  replace C := hide ((bb.block _ (lt_of_block C.out)).trans C.out)
  replace h := h.to0 bb
  replace ro := ro.to0 bb
  replace ra := ra.to0 bb
  replace rb := rb.to0 bb
  replace rc := rc.to0 bb
  replace cc := cc.trans (bb.mono cc.size)
  clear bb
  obtain ⟨XD, hXD, D, bX, sXD⟩ := boxed2b w5 (.int .i64 E1) (.slice ad E2.length cd) 24
  replace D := hide D
  replace M := hide ((bX.block _ (lt_of_block M.out)).trans M.out)
  replace V := hide ((bX.block _ (lt_of_block V.out)).trans V.out)
  replace O := hide ((bX.block _ (lt_of_block O.out)).trans O.out)
  replace K := hide ((bX.block _ (lt_of_block K.out)).trans K.out)
  replace E := hide ((bX.block _ (lt_of_block E.out)).trans E.out)
  replace B := hide ((bX.block _ (lt_of_block B.out)).trans B.out)
  replace F := hide ((bX.block _ (lt_of_block F.out)).trans F.out)
  replace C := hide ((bX.block _ (lt_of_block C.out)).trans C.out)
  replace h := h.to0 bX
  replace ro := ro.to0 bX
  replace ra := ra.to0 bX
  replace rb := rb.to0 bX
  replace rc := rc.to0 bX
  replace rd := rd.to0 bX
  replace cc := cc.trans (bX.mono cc.size)
  replace hXD := hide hXD
  clear bX
  have KK := hide (pfree_any XD _ x0 x2 ro hin hx)
  rw [hF.out] at KK
  try dsimp only at KK
  obtain ⟨m0, m1, _, _⟩ := cells2 M.out
  obtain ⟨v0, v1, _, _⟩ := cells2 V.out
  obtain ⟨o0, o1, _, _⟩ := cells2 O.out
  obtain ⟨k0, k1, _, _⟩ := cells2 K.out
  obtain ⟨e0, e1, _, _⟩ := cells2 E.out
  obtain ⟨b0, b1, _, _⟩ := cells2 B.out
  obtain ⟨f0, f1, _, _⟩ := cells2 F.out
  obtain ⟨c0, c1, _, _⟩ := cells2 C.out
  obtain ⟨d0, d1, _, _⟩ := cells2 D.out
  rw [hXD.out] at m0 m1 v0 v1 o0 o1 k0 k1 e0 e1 b0 b1 f0 f1 c0 c1 d0 d1
  go_wp2_with fail
  rw [← hXD.out]
  clear m0 m1 v0 v1 o0 o1 k0 k1 e0 e1 b0 b1 f0 f1 c0 c1 d0 d1
  refine KK.out.mono ?_
  rintro e w6 ⟨f, rfl, o, bb⟩
  clear KK
  try dsimp only at o
  have ru := ownE_rd o
  clear o
  obtain ⟨au, cu, hv⟩ := ru.slice
  subst hv
  replace M := hide ((bb.block _ (lt_of_block M.out)).trans M.out)
  replace V := hide ((bb.block _ (lt_of_block V.out)).trans V.out)
  replace O := hide ((bb.block _ (lt_of_block O.out)).trans O.out)
  replace K := hide ((bb.block _ (lt_of_block K.out)).trans K.out)
  replace E := hide ((bb.block _ (lt_of_block E.out)).trans E.out)
  replace B := hide ((bb.block _ (lt_of_block B.out)).trans B.out)
  replace F := hide ((bb.block _ (lt_of_block F.out)).trans F.out)
  replace C := hide ((bb.block _ (lt_of_block C.out)).trans C.out)
  replace D := hide ((bb.block _ (lt_of_block D.out)).trans D.out)
  replace h := h.to0 bb
  replace ro := ro.to0 bb
  replace ra := ra.to0 bb
  replace rb := rb.to0 bb
  replace rc := rc.to0 bb
  replace rd := rd.to0 bb
  replace cc := cc.trans (bb.mono cc.size)
  clear bb
  obtain ⟨XU, hXU, U, bX, sXU⟩ := boxed2b w6 (.int .i64 G1) (.slice au G2.length cu) 27
  replace U := hide U
  replace M := hide ((bX.block _ (lt_of_block M.out)).trans M.out)
  replace V := hide ((bX.block _ (lt_of_block V.out)).trans V.out)
  replace O := hide ((bX.block _ (lt_of_block O.out)).trans O.out)
  replace K := hide ((bX.block _ (lt_of_block K.out)).trans K.out)
  replace E := hide ((bX.block _ (lt_of_block E.out)).trans E.out)
  replace B := hide ((bX.block _ (lt_of_block B.out)).trans B.out)
  replace F := hide ((bX.block _ (lt_of_block F.out)).trans F.out)
  replace C := hide ((bX.block _ (lt_of_block C.out)).trans C.out)
  replace D := hide ((bX.block _ (lt_of_block D.out)).trans D.out)
  replace h := h.to0 bX
  replace ro := ro.to0 bX
  replace ra := ra.to0 bX
  replace rb := rb.to0 bX
  replace rc := rc.to0 bX
  replace rd := rd.to0 bX
  replace ru := ru.to0 bX
  replace cc := cc.trans (bX.mono cc.size)
  replace hXU := hide hXU
  clear bX
  have KK := hide (rfree_any XU _ x0 x2 h hin hx)
  rw [hF.out] at KK
  try dsimp only at KK
  obtain ⟨m0, m1, _, _⟩ := cells2 M.out
  obtain ⟨v0, v1, _, _⟩ := cells2 V.out
  obtain ⟨o0, o1, _, _⟩ := cells2 O.out
  obtain ⟨k0, k1, _, _⟩ := cells2 K.out
  obtain ⟨e0, e1, _, _⟩ := cells2 E.out
  obtain ⟨b0, b1, _, _⟩ := cells2 B.out
  obtain ⟨f0, f1, _, _⟩ := cells2 F.out
  obtain ⟨c0, c1, _, _⟩ := cells2 C.out
  obtain ⟨d0, d1, _, _⟩ := cells2 D.out
  obtain ⟨u0, u1, _, _⟩ := cells2 U.out
  rw [hXU.out] at m0 m1 v0 v1 o0 o1 k0 k1 e0 e1 b0 b1 f0 f1 c0 c1 d0 d1 u0 u1
  go_wp2_with fail
  rw [← hXU.out]
  clear m0 m1 v0 v1 o0 o1 k0 k1 e0 e1 b0 b1 f0 f1 c0 c1 d0 d1 u0 u1
  refine KK.out.mono ?_
  rintro e w7 ⟨f, rfl, o, bb⟩
  clear KK
  try dsimp only at o
  have rv := ownE_rd o
  clear o
  obtain ⟨av, cv, hv⟩ := rv.slice
  subst hv
  replace M := hide ((bb.block _ (lt_of_block M.out)).trans M.out)
  replace V := hide ((bb.block _ (lt_of_block V.out)).trans V.out)
  replace O := hide ((bb.block _ (lt_of_block O.out)).trans O.out)
  replace K := hide ((bb.block _ (lt_of_block K.out)).trans K.out)
  replace E := hide ((bb.block _ (lt_of_block E.out)).trans E.out)
  replace B := hide ((bb.block _ (lt_of_block B.out)).trans B.out)
  replace F := hide ((bb.block _ (lt_of_block F.out)).trans F.out)
  replace C := hide ((bb.block _ (lt_of_block C.out)).trans C.out)
  replace D := hide ((bb.block _ (lt_of_block D.out)).trans D.out)
  replace U := hide ((bb.block _ (lt_of_block U.out)).trans U.out)
  replace h := h.to0 bb
  replace ro := ro.to0 bb
  replace ra := ra.to0 bb
  replace rb := rb.to0 bb
  replace rc := rc.to0 bb
  replace rd := rd.to0 bb
  replace ru := ru.to0 bb
  replace cc := cc.trans (bb.mono cc.size)
  clear bb
  obtain ⟨XY, hXY, Y, bX, sXY⟩ := boxed2b w7 (.int .i64 G1) (.slice av G2.length cv) 24
  replace Y := hide Y
  replace M := hide ((bX.block _ (lt_of_block M.out)).trans M.out)
  replace V := hide ((bX.block _ (lt_of_block V.out)).trans V.out)
  replace O := hide ((bX.block _ (lt_of_block O.out)).trans O.out)
  replace K := hide ((bX.block _ (lt_of_block K.out)).trans K.out)
  replace E := hide ((bX.block _ (lt_of_block E.out)).trans E.out)
  replace B := hide ((bX.block _ (lt_of_block B.out)).trans B.out)
  replace F := hide ((bX.block _ (lt_of_block F.out)).trans F.out)
  replace C := hide ((bX.block _ (lt_of_block C.out)).trans C.out)
  replace D := hide ((bX.block _ (lt_of_block D.out)).trans D.out)
  replace U := hide ((bX.block _ (lt_of_block U.out)).trans U.out)
  replace h := h.to0 bX
  replace ro := ro.to0 bX
  replace ra := ra.to0 bX
  replace rb := rb.to0 bX
  replace rc := rc.to0 bX
  replace rd := rd.to0 bX
  replace ru := ru.to0 bX
  replace rv := rv.to0 bX
  replace cc := cc.trans (bX.mono cc.size)
  replace hXY := hide hXY
  clear bX
  have KK := hide (proom_any XY _ x0 ro hin)
  rw [hR.out] at KK
  try dsimp only at KK
  obtain ⟨m0, m1, _, _⟩ := cells2 M.out
  obtain ⟨v0, v1, _, _⟩ := cells2 V.out
  obtain ⟨o0, o1, _, _⟩ := cells2 O.out
  obtain ⟨k0, k1, _, _⟩ := cells2 K.out
  obtain ⟨e0, e1, _, _⟩ := cells2 E.out
  obtain ⟨b0, b1, _, _⟩ := cells2 B.out
  obtain ⟨f0, f1, _, _⟩ := cells2 F.out
  obtain ⟨c0, c1, _, _⟩ := cells2 C.out
  obtain ⟨d0, d1, _, _⟩ := cells2 D.out
  obtain ⟨u0, u1, _, _⟩ := cells2 U.out
  obtain ⟨y0, y1, _, _⟩ := cells2 Y.out
  rw [hXY.out] at m0 m1 v0 v1 o0 o1 k0 k1 e0 e1 b0 b1 f0 f1 c0 c1 d0 d1 u0 u1 y0 y1
  go_wp2_with fail
  rw [← hXY.out]
  clear m0 m1 v0 v1 o0 o1 k0 k1 e0 e1 b0 b1 f0 f1 c0 c1 d0 d1 u0 u1 y0 y1
  refine KK.out.mono ?_
  rintro e w8 ⟨rfl, bb⟩
  clear KK
  replace M := hide ((bb.block _ (lt_of_block M.out)).trans M.out)
  replace V := hide ((bb.block _ (lt_of_block V.out)).trans V.out)
  replace O := hide ((bb.block _ (lt_of_block O.out)).trans O.out)
  replace K := hide ((bb.block _ (lt_of_block K.out)).trans K.out)
  replace E := hide ((bb.block _ (lt_of_block E.out)).trans E.out)
  replace B := hide ((bb.block _ (lt_of_block B.out)).trans B.out)
  replace F := hide ((bb.block _ (lt_of_block F.out)).trans F.out)
  replace C := hide ((bb.block _ (lt_of_block C.out)).trans C.out)
  replace D := hide ((bb.block _ (lt_of_block D.out)).trans D.out)
  replace U := hide ((bb.block _ (lt_of_block U.out)).trans U.out)
  replace Y := hide ((bb.block _ (lt_of_block Y.out)).trans Y.out)
  replace h := h.to0 bb
  replace ro := ro.to0 bb
  replace ra := ra.to0 bb
  replace rb := rb.to0 bb
  replace rc := rc.to0 bb
  replace rd := rd.to0 bb
  replace ru := ru.to0 bb
  replace rv := rv.to0 bb
  replace cc := cc.trans (bb.mono cc.size)
  clear bb
  have KK := hide (room_any w8 _ x0 h hin)
  rw [hR.out] at KK
  try dsimp only at KK
  obtain ⟨m0, m1, _, _⟩ := cells2 M.out
  obtain ⟨v0, v1, _, _⟩ := cells2 V.out
  obtain ⟨o0, o1, _, _⟩ := cells2 O.out
  obtain ⟨k0, k1, _, _⟩ := cells2 K.out
  obtain ⟨e0, e1, _, _⟩ := cells2 E.out
  obtain ⟨b0, b1, _, _⟩ := cells2 B.out
  obtain ⟨f0, f1, _, _⟩ := cells2 F.out
  obtain ⟨c0, c1, _, _⟩ := cells2 C.out
  obtain ⟨d0, d1, _, _⟩ := cells2 D.out
  obtain ⟨u0, u1, _, _⟩ := cells2 U.out
  obtain ⟨y0, y1, _, _⟩ := cells2 Y.out
  go_wp2_with fail
  clear m0 m1 v0 v1 o0 o1 k0 k1 e0 e1 b0 b1 f0 f1 c0 c1 d0 d1 u0 u1 y0 y1
  refine KK.out.mono ?_
  rintro e w9 ⟨rfl, bb⟩
  clear KK
  replace M := hide ((bb.block _ (lt_of_block M.out)).trans M.out)
  replace V := hide ((bb.block _ (lt_of_block V.out)).trans V.out)
  replace O := hide ((bb.block _ (lt_of_block O.out)).trans O.out)
  replace K := hide ((bb.block _ (lt_of_block K.out)).trans K.out)
  replace E := hide ((bb.block _ (lt_of_block E.out)).trans E.out)
  replace B := hide ((bb.block _ (lt_of_block B.out)).trans B.out)
  replace F := hide ((bb.block _ (lt_of_block F.out)).trans F.out)
  replace C := hide ((bb.block _ (lt_of_block C.out)).trans C.out)
  replace D := hide ((bb.block _ (lt_of_block D.out)).trans D.out)
  replace U := hide ((bb.block _ (lt_of_block U.out)).trans U.out)
  replace Y := hide ((bb.block _ (lt_of_block Y.out)).trans Y.out)
  replace h := h.to0 bb
  replace ro := ro.to0 bb
  replace ra := ra.to0 bb
  replace rb := rb.to0 bb
  replace rc := rc.to0 bb
  replace rd := rd.to0 bb
  replace ru := ru.to0 bb
  replace rv := rv.to0 bb
  replace cc := cc.trans (bb.mono cc.size)
  clear bb
  have KK := hide (pnew_any w9 a1)
  rw [hN.out] at KK
  try dsimp only at KK
  obtain ⟨m0, m1, _, _⟩ := cells2 M.out
  obtain ⟨v0, v1, _, _⟩ := cells2 V.out
  obtain ⟨o0, o1, _, _⟩ := cells2 O.out
  obtain ⟨k0, k1, _, _⟩ := cells2 K.out
  obtain ⟨e0, e1, _, _⟩ := cells2 E.out
  obtain ⟨b0, b1, _, _⟩ := cells2 B.out
  obtain ⟨f0, f1, _, _⟩ := cells2 F.out
  obtain ⟨c0, c1, _, _⟩ := cells2 C.out
  obtain ⟨d0, d1, _, _⟩ := cells2 D.out
  obtain ⟨u0, u1, _, _⟩ := cells2 U.out
  obtain ⟨y0, y1, _, _⟩ := cells2 Y.out
  go_wp2_with fail
  clear m0 m1 v0 v1 o0 o1 k0 k1 e0 e1 b0 b1 f0 f1 c0 c1 d0 d1 u0 u1 y0 y1
  refine KK.out.mono ?_
  rintro e w10 ⟨f, rfl, o, bb⟩
  clear KK
  try dsimp only at o
  have rn := ownE_rd o
  clear o
  obtain ⟨an, cn, hv⟩ := rn.slice
  subst hv
  replace M := hide ((bb.block _ (lt_of_block M.out)).trans M.out)
  replace V := hide ((bb.block _ (lt_of_block V.out)).trans V.out)
  replace O := hide ((bb.block _ (lt_of_block O.out)).trans O.out)
  replace K := hide ((bb.block _ (lt_of_block K.out)).trans K.out)
  replace E := hide ((bb.block _ (lt_of_block E.out)).trans E.out)
  replace B := hide ((bb.block _ (lt_of_block B.out)).trans B.out)
  replace F := hide ((bb.block _ (lt_of_block F.out)).trans F.out)
  replace C := hide ((bb.block _ (lt_of_block C.out)).trans C.out)
  replace D := hide ((bb.block _ (lt_of_block D.out)).trans D.out)
  replace U := hide ((bb.block _ (lt_of_block U.out)).trans U.out)
  replace Y := hide ((bb.block _ (lt_of_block Y.out)).trans Y.out)
  replace h := h.to0 bb
  replace ro := ro.to0 bb
  replace ra := ra.to0 bb
  replace rb := rb.to0 bb
  replace rc := rc.to0 bb
  replace rd := rd.to0 bb
  replace ru := ru.to0 bb
  replace rv := rv.to0 bb
  replace cc := cc.trans (bb.mono cc.size)
  clear bb
  obtain ⟨XN, hXN, N, bX, sXN⟩ := boxed2b w10 (.int .i64 N1) (.slice an N2.length cn) 27
  replace N := hide N
  replace M := hide ((bX.block _ (lt_of_block M.out)).trans M.out)
  replace V := hide ((bX.block _ (lt_of_block V.out)).trans V.out)
  replace O := hide ((bX.block _ (lt_of_block O.out)).trans O.out)
  replace K := hide ((bX.block _ (lt_of_block K.out)).trans K.out)
  replace E := hide ((bX.block _ (lt_of_block E.out)).trans E.out)
  replace B := hide ((bX.block _ (lt_of_block B.out)).trans B.out)
  replace F := hide ((bX.block _ (lt_of_block F.out)).trans F.out)
  replace C := hide ((bX.block _ (lt_of_block C.out)).trans C.out)
  replace D := hide ((bX.block _ (lt_of_block D.out)).trans D.out)
  replace U := hide ((bX.block _ (lt_of_block U.out)).trans U.out)
  replace Y := hide ((bX.block _ (lt_of_block Y.out)).trans Y.out)
  replace h := h.to0 bX
  replace ro := ro.to0 bX
  replace ra := ra.to0 bX
  replace rb := rb.to0 bX
  replace rc := rc.to0 bX
  replace rd := rd.to0 bX
  replace ru := ru.to0 bX
  replace rv := rv.to0 bX
  replace rn := rn.to0 bX
  replace cc := cc.trans (bX.mono cc.size)
  replace hXN := hide hXN
  clear bX
  have KK := hide (rnew_any XN a1)
  rw [hN.out] at KK
  try dsimp only at KK
  obtain ⟨m0, m1, _, _⟩ := cells2 M.out
  obtain ⟨v0, v1, _, _⟩ := cells2 V.out
  obtain ⟨o0, o1, _, _⟩ := cells2 O.out
  obtain ⟨k0, k1, _, _⟩ := cells2 K.out
  obtain ⟨e0, e1, _, _⟩ := cells2 E.out
  obtain ⟨b0, b1, _, _⟩ := cells2 B.out
  obtain ⟨f0, f1, _, _⟩ := cells2 F.out
  obtain ⟨c0, c1, _, _⟩ := cells2 C.out
  obtain ⟨d0, d1, _, _⟩ := cells2 D.out
  obtain ⟨u0, u1, _, _⟩ := cells2 U.out
  obtain ⟨y0, y1, _, _⟩ := cells2 Y.out
  obtain ⟨n0, n1, _, _⟩ := cells2 N.out
  rw [hXN.out] at m0 m1 v0 v1 o0 o1 k0 k1 e0 e1 b0 b1 f0 f1 c0 c1 d0 d1 u0 u1 y0 y1 n0 n1
  go_wp2_with fail
  rw [← hXN.out]
  clear m0 m1 v0 v1 o0 o1 k0 k1 e0 e1 b0 b1 f0 f1 c0 c1 d0 d1 u0 u1 y0 y1 n0 n1
  refine KK.out.mono ?_
  rintro e w11 ⟨f, rfl, o, bb⟩
  clear KK
  try dsimp only at o
  have rz := ownE_rd o
  clear o
  obtain ⟨az, cz, hv⟩ := rz.slice
  subst hv
  replace M := hide ((bb.block _ (lt_of_block M.out)).trans M.out)
  replace V := hide ((bb.block _ (lt_of_block V.out)).trans V.out)
  replace O := hide ((bb.block _ (lt_of_block O.out)).trans O.out)
  replace K := hide ((bb.block _ (lt_of_block K.out)).trans K.out)
  replace E := hide ((bb.block _ (lt_of_block E.out)).trans E.out)
  replace B := hide ((bb.block _ (lt_of_block B.out)).trans B.out)
  replace F := hide ((bb.block _ (lt_of_block F.out)).trans F.out)
  replace C := hide ((bb.block _ (lt_of_block C.out)).trans C.out)
  replace D := hide ((bb.block _ (lt_of_block D.out)).trans D.out)
  replace U := hide ((bb.block _ (lt_of_block U.out)).trans U.out)
  replace Y := hide ((bb.block _ (lt_of_block Y.out)).trans Y.out)
  replace N := hide ((bb.block _ (lt_of_block N.out)).trans N.out)
  replace h := h.to0 bb
  replace ro := ro.to0 bb
  replace ra := ra.to0 bb
  replace rb := rb.to0 bb
  replace rc := rc.to0 bb
  replace rd := rd.to0 bb
  replace ru := ru.to0 bb
  replace rv := rv.to0 bb
  replace rn := rn.to0 bb
  replace cc := cc.trans (bb.mono cc.size)
  clear bb
  obtain ⟨XZ, hXZ, Z, bX, sXZ⟩ := boxed2b w11 (.int .i64 N1) (.slice az N2.length cz) 24
  replace Z := hide Z
  replace M := hide ((bX.block _ (lt_of_block M.out)).trans M.out)
  replace V := hide ((bX.block _ (lt_of_block V.out)).trans V.out)
  replace O := hide ((bX.block _ (lt_of_block O.out)).trans O.out)
  replace K := hide ((bX.block _ (lt_of_block K.out)).trans K.out)
  replace E := hide ((bX.block _ (lt_of_block E.out)).trans E.out)
  replace B := hide ((bX.block _ (lt_of_block B.out)).trans B.out)
  replace F := hide ((bX.block _ (lt_of_block F.out)).trans F.out)
  replace C := hide ((bX.block _ (lt_of_block C.out)).trans C.out)
  replace D := hide ((bX.block _ (lt_of_block D.out)).trans D.out)
  replace U := hide ((bX.block _ (lt_of_block U.out)).trans U.out)
  replace Y := hide ((bX.block _ (lt_of_block Y.out)).trans Y.out)
  replace N := hide ((bX.block _ (lt_of_block N.out)).trans N.out)
  replace h := h.to0 bX
  replace ro := ro.to0 bX
  replace ra := ra.to0 bX
  replace rb := rb.to0 bX
  replace rc := rc.to0 bX
  replace rd := rd.to0 bX
  replace ru := ru.to0 bX
  replace rv := rv.to0 bX
  replace rn := rn.to0 bX
  replace rz := rz.to0 bX
  replace cc := cc.trans (bX.mono cc.size)
  replace hXZ := hide hXZ
  clear bX
  have KK := hide (same5_any XZ _ _ (D1, D2) (D1, D2) ra rb)
  try dsimp only at KK
  obtain ⟨m0, m1, _, _⟩ := cells2 M.out
  obtain ⟨v0, v1, _, _⟩ := cells2 V.out
  obtain ⟨o0, o1, _, _⟩ := cells2 O.out
  obtain ⟨k0, k1, _, _⟩ := cells2 K.out
  obtain ⟨e0, e1, _, _⟩ := cells2 E.out
  obtain ⟨b0, b1, _, _⟩ := cells2 B.out
  obtain ⟨f0, f1, _, _⟩ := cells2 F.out
  obtain ⟨c0, c1, _, _⟩ := cells2 C.out
  obtain ⟨d0, d1, _, _⟩ := cells2 D.out
  obtain ⟨u0, u1, _, _⟩ := cells2 U.out
  obtain ⟨y0, y1, _, _⟩ := cells2 Y.out
  obtain ⟨n0, n1, _, _⟩ := cells2 N.out
  obtain ⟨z0, z1, _, _⟩ := cells2 Z.out
  rw [hXZ.out] at m0 m1 v0 v1 o0 o1 k0 k1 e0 e1 b0 b1 f0 f1 c0 c1 d0 d1 u0 u1 y0 y1 n0 n1 z0 z1
  go_wp2_with fail
  rw [← hXZ.out]
  clear m0 m1 v0 v1 o0 o1 k0 k1 e0 e1 b0 b1 f0 f1 c0 c1 d0 d1 u0 u1 y0 y1 n0 n1 z0 z1
  refine KK.out.mono ?_
  rintro e w12 ⟨rfl, bb⟩
  clear KK
  rw [sameM_self]
  replace M := hide ((bb.block _ (lt_of_block M.out)).trans M.out)
  replace V := hide ((bb.block _ (lt_of_block V.out)).trans V.out)
  replace O := hide ((bb.block _ (lt_of_block O.out)).trans O.out)
  replace K := hide ((bb.block _ (lt_of_block K.out)).trans K.out)
  replace E := hide ((bb.block _ (lt_of_block E.out)).trans E.out)
  replace B := hide ((bb.block _ (lt_of_block B.out)).trans B.out)
  replace F := hide ((bb.block _ (lt_of_block F.out)).trans F.out)
  replace C := hide ((bb.block _ (lt_of_block C.out)).trans C.out)
  replace D := hide ((bb.block _ (lt_of_block D.out)).trans D.out)
  replace U := hide ((bb.block _ (lt_of_block U.out)).trans U.out)
  replace Y := hide ((bb.block _ (lt_of_block Y.out)).trans Y.out)
  replace N := hide ((bb.block _ (lt_of_block N.out)).trans N.out)
  replace Z := hide ((bb.block _ (lt_of_block Z.out)).trans Z.out)
  replace h := h.to0 bb
  replace ro := ro.to0 bb
  replace ra := ra.to0 bb
  replace rb := rb.to0 bb
  replace rc := rc.to0 bb
  replace rd := rd.to0 bb
  replace ru := ru.to0 bb
  replace rv := rv.to0 bb
  replace rn := rn.to0 bb
  replace rz := rz.to0 bb
  replace cc := cc.trans (bb.mono cc.size)
  clear bb
  obtain ⟨m0, m1, _, _⟩ := cells2 M.out
  obtain ⟨v0, v1, _, _⟩ := cells2 V.out
  obtain ⟨o0, o1, _, _⟩ := cells2 O.out
  obtain ⟨k0, k1, _, _⟩ := cells2 K.out
  obtain ⟨e0, e1, _, _⟩ := cells2 E.out
  obtain ⟨b0, b1, _, _⟩ := cells2 B.out
  obtain ⟨f0, f1, _, _⟩ := cells2 F.out
  obtain ⟨c0, c1, _, _⟩ := cells2 C.out
  obtain ⟨d0, d1, _, _⟩ := cells2 D.out
  obtain ⟨u0, u1, _, _⟩ := cells2 U.out
  obtain ⟨y0, y1, _, _⟩ := cells2 Y.out
  obtain ⟨n0, n1, _, _⟩ := cells2 N.out
  obtain ⟨z0, z1, _, _⟩ := cells2 Z.out
  go_wp2_with fail
  clear m0 m1 v0 v1 o0 o1 k0 k1 e0 e1 b0 b1 f0 f1 c0 c1 d0 d1 u0 u1 y0 y1 n0 n1 z0 z1
  refine (num5_any _ _).mono ?_
  rintro e w' ⟨rfl, rfl⟩
  have KK := hide (same5_any w12 _ _ (E1, E2) (E1, E2) rc rd)
  try dsimp only at KK
  obtain ⟨m0, m1, _, _⟩ := cells2 M.out
  obtain ⟨v0, v1, _, _⟩ := cells2 V.out
  obtain ⟨o0, o1, _, _⟩ := cells2 O.out
  obtain ⟨k0, k1, _, _⟩ := cells2 K.out
  obtain ⟨e0, e1, _, _⟩ := cells2 E.out
  obtain ⟨b0, b1, _, _⟩ := cells2 B.out
  obtain ⟨f0, f1, _, _⟩ := cells2 F.out
  obtain ⟨c0, c1, _, _⟩ := cells2 C.out
  obtain ⟨d0, d1, _, _⟩ := cells2 D.out
  obtain ⟨u0, u1, _, _⟩ := cells2 U.out
  obtain ⟨y0, y1, _, _⟩ := cells2 Y.out
  obtain ⟨n0, n1, _, _⟩ := cells2 N.out
  obtain ⟨z0, z1, _, _⟩ := cells2 Z.out
  go_wp2_with fail
  clear m0 m1 v0 v1 o0 o1 k0 k1 e0 e1 b0 b1 f0 f1 c0 c1 d0 d1 u0 u1 y0 y1 n0 n1 z0 z1
  refine KK.out.mono ?_
  rintro e w13 ⟨rfl, bb⟩
  clear KK
  rw [sameM_self]
  replace M := hide ((bb.block _ (lt_of_block M.out)).trans M.out)
  replace V := hide ((bb.block _ (lt_of_block V.out)).trans V.out)
  replace O := hide ((bb.block _ (lt_of_block O.out)).trans O.out)
  replace K := hide ((bb.block _ (lt_of_block K.out)).trans K.out)
  replace E := hide ((bb.block _ (lt_of_block E.out)).trans E.out)
  replace B := hide ((bb.block _ (lt_of_block B.out)).trans B.out)
  replace F := hide ((bb.block _ (lt_of_block F.out)).trans F.out)
  replace C := hide ((bb.block _ (lt_of_block C.out)).trans C.out)
  replace D := hide ((bb.block _ (lt_of_block D.out)).trans D.out)
  replace U := hide ((bb.block _ (lt_of_block U.out)).trans U.out)
  replace Y := hide ((bb.block _ (lt_of_block Y.out)).trans Y.out)
  replace N := hide ((bb.block _ (lt_of_block N.out)).trans N.out)
  replace Z := hide ((bb.block _ (lt_of_block Z.out)).trans Z.out)
  replace h := h.to0 bb
  replace ro := ro.to0 bb
  replace ra := ra.to0 bb
  replace rb := rb.to0 bb
  replace rc := rc.to0 bb
  replace rd := rd.to0 bb
  replace ru := ru.to0 bb
  replace rv := rv.to0 bb
  replace rn := rn.to0 bb
  replace rz := rz.to0 bb
  replace cc := cc.trans (bb.mono cc.size)
  clear bb
  obtain ⟨m0, m1, _, _⟩ := cells2 M.out
  obtain ⟨v0, v1, _, _⟩ := cells2 V.out
  obtain ⟨o0, o1, _, _⟩ := cells2 O.out
  obtain ⟨k0, k1, _, _⟩ := cells2 K.out
  obtain ⟨e0, e1, _, _⟩ := cells2 E.out
  obtain ⟨b0, b1, _, _⟩ := cells2 B.out
  obtain ⟨f0, f1, _, _⟩ := cells2 F.out
  obtain ⟨c0, c1, _, _⟩ := cells2 C.out
  obtain ⟨d0, d1, _, _⟩ := cells2 D.out
  obtain ⟨u0, u1, _, _⟩ := cells2 U.out
  obtain ⟨y0, y1, _, _⟩ := cells2 Y.out
  obtain ⟨n0, n1, _, _⟩ := cells2 N.out
  obtain ⟨z0, z1, _, _⟩ := cells2 Z.out
  go_wp2_with fail
  clear m0 m1 v0 v1 o0 o1 k0 k1 e0 e1 b0 b1 f0 f1 c0 c1 d0 d1 u0 u1 y0 y1 n0 n1 z0 z1
  refine (num5_any _ _).mono ?_
  rintro e w' ⟨rfl, rfl⟩
  have KK := hide (same5_any w13 _ _ (G1, G2) (G1, G2) ru rv)
  try dsimp only at KK
  obtain ⟨m0, m1, _, _⟩ := cells2 M.out
  obtain ⟨v0, v1, _, _⟩ := cells2 V.out
  obtain ⟨o0, o1, _, _⟩ := cells2 O.out
  obtain ⟨k0, k1, _, _⟩ := cells2 K.out
  obtain ⟨e0, e1, _, _⟩ := cells2 E.out
  obtain ⟨b0, b1, _, _⟩ := cells2 B.out
  obtain ⟨f0, f1, _, _⟩ := cells2 F.out
  obtain ⟨c0, c1, _, _⟩ := cells2 C.out
  obtain ⟨d0, d1, _, _⟩ := cells2 D.out
  obtain ⟨u0, u1, _, _⟩ := cells2 U.out
  obtain ⟨y0, y1, _, _⟩ := cells2 Y.out
  obtain ⟨n0, n1, _, _⟩ := cells2 N.out
  obtain ⟨z0, z1, _, _⟩ := cells2 Z.out
  go_wp2_with fail
  clear m0 m1 v0 v1 o0 o1 k0 k1 e0 e1 b0 b1 f0 f1 c0 c1 d0 d1 u0 u1 y0 y1 n0 n1 z0 z1
  refine KK.out.mono ?_
  rintro e w14 ⟨rfl, bb⟩
  clear KK
  rw [sameM_self]
  replace M := hide ((bb.block _ (lt_of_block M.out)).trans M.out)
  replace V := hide ((bb.block _ (lt_of_block V.out)).trans V.out)
  replace O := hide ((bb.block _ (lt_of_block O.out)).trans O.out)
  replace K := hide ((bb.block _ (lt_of_block K.out)).trans K.out)
  replace E := hide ((bb.block _ (lt_of_block E.out)).trans E.out)
  replace B := hide ((bb.block _ (lt_of_block B.out)).trans B.out)
  replace F := hide ((bb.block _ (lt_of_block F.out)).trans F.out)
  replace C := hide ((bb.block _ (lt_of_block C.out)).trans C.out)
  replace D := hide ((bb.block _ (lt_of_block D.out)).trans D.out)
  replace U := hide ((bb.block _ (lt_of_block U.out)).trans U.out)
  replace Y := hide ((bb.block _ (lt_of_block Y.out)).trans Y.out)
  replace N := hide ((bb.block _ (lt_of_block N.out)).trans N.out)
  replace Z := hide ((bb.block _ (lt_of_block Z.out)).trans Z.out)
  replace h := h.to0 bb
  replace ro := ro.to0 bb
  replace ra := ra.to0 bb
  replace rb := rb.to0 bb
  replace rc := rc.to0 bb
  replace rd := rd.to0 bb
  replace ru := ru.to0 bb
  replace rv := rv.to0 bb
  replace rn := rn.to0 bb
  replace rz := rz.to0 bb
  replace cc := cc.trans (bb.mono cc.size)
  clear bb
  obtain ⟨m0, m1, _, _⟩ := cells2 M.out
  obtain ⟨v0, v1, _, _⟩ := cells2 V.out
  obtain ⟨o0, o1, _, _⟩ := cells2 O.out
  obtain ⟨k0, k1, _, _⟩ := cells2 K.out
  obtain ⟨e0, e1, _, _⟩ := cells2 E.out
  obtain ⟨b0, b1, _, _⟩ := cells2 B.out
  obtain ⟨f0, f1, _, _⟩ := cells2 F.out
  obtain ⟨c0, c1, _, _⟩ := cells2 C.out
  obtain ⟨d0, d1, _, _⟩ := cells2 D.out
  obtain ⟨u0, u1, _, _⟩ := cells2 U.out
  obtain ⟨y0, y1, _, _⟩ := cells2 Y.out
  obtain ⟨n0, n1, _, _⟩ := cells2 N.out
  obtain ⟨z0, z1, _, _⟩ := cells2 Z.out
  go_wp2_with fail
  clear m0 m1 v0 v1 o0 o1 k0 k1 e0 e1 b0 b1 f0 f1 c0 c1 d0 d1 u0 u1 y0 y1 n0 n1 z0 z1
  refine (num5_any _ _).mono ?_
  rintro e w' ⟨rfl, rfl⟩
  obtain ⟨m0, m1, _, _⟩ := cells2 M.out
  obtain ⟨v0, v1, _, _⟩ := cells2 V.out
  obtain ⟨o0, o1, _, _⟩ := cells2 O.out
  obtain ⟨k0, k1, _, _⟩ := cells2 K.out
  obtain ⟨e0, e1, _, _⟩ := cells2 E.out
  obtain ⟨b0, b1, _, _⟩ := cells2 B.out
  obtain ⟨f0, f1, _, _⟩ := cells2 F.out
  obtain ⟨c0, c1, _, _⟩ := cells2 C.out
  obtain ⟨d0, d1, _, _⟩ := cells2 D.out
  obtain ⟨u0, u1, _, _⟩ := cells2 U.out
  obtain ⟨y0, y1, _, _⟩ := cells2 Y.out
  obtain ⟨n0, n1, _, _⟩ := cells2 N.out
  obtain ⟨z0, z1, _, _⟩ := cells2 Z.out
  go_wp2_with fail
  clear m0 m1 v0 v1 o0 o1 k0 k1 e0 e1 b0 b1 f0 f1 c0 c1 d0 d1 u0 u1 y0 y1 n0 n1 z0 z1
  refine (num5_any _ _).mono ?_
  rintro e w' ⟨rfl, rfl⟩
  obtain ⟨m0, m1, _, _⟩ := cells2 M.out
  obtain ⟨v0, v1, _, _⟩ := cells2 V.out
  obtain ⟨o0, o1, _, _⟩ := cells2 O.out
  obtain ⟨k0, k1, _, _⟩ := cells2 K.out
  obtain ⟨e0, e1, _, _⟩ := cells2 E.out
  obtain ⟨b0, b1, _, _⟩ := cells2 B.out
  obtain ⟨f0, f1, _, _⟩ := cells2 F.out
  obtain ⟨c0, c1, _, _⟩ := cells2 C.out
  obtain ⟨d0, d1, _, _⟩ := cells2 D.out
  obtain ⟨u0, u1, _, _⟩ := cells2 U.out
  obtain ⟨y0, y1, _, _⟩ := cells2 Y.out
  obtain ⟨n0, n1, _, _⟩ := cells2 N.out
  obtain ⟨z0, z1, _, _⟩ := cells2 Z.out
  go_wp2_with fail
  have HS : Hid (∀ w9, Below w14.heap.size w14 w9 → w9.cell? ⟨w10.heap.size, 0, none⟩ = some (.int .i64 N1) ∧ w9.cell? ⟨w10.heap.size, 1, none⟩ = some (.slice an N2.length cn) ∧ w9.cell? ⟨w11.heap.size, 0, none⟩ = some (.int .i64 N1) ∧ w9.cell? ⟨w11.heap.size, 1, none⟩ = some (.slice az N2.length cz) ∧ w9.cell? ⟨w1.heap.size, 0, none⟩ = some (.int .i64 x0.1) ∧ w9.cell? ⟨w1.heap.size, 1, none⟩ = some (.slice ao x0.2.length co) ∧ w9.cell? ⟨w.heap.size, 0, none⟩ = some (.int .i64 x0.1) ∧ w9.cell? ⟨w.heap.size, 1, none⟩ = some (.slice sa x0.2.length sc)) := fun w9 b9 => by
    obtain ⟨n0, n1, _, _⟩ := cells2 ((b9.block _ (lt_of_block N.out)).trans N.out)
    obtain ⟨z0, z1, _, _⟩ := cells2 ((b9.block _ (lt_of_block Z.out)).trans Z.out)
    obtain ⟨o0, o1, _, _⟩ := cells2 ((b9.block _ (lt_of_block O.out)).trans O.out)
    obtain ⟨m0, m1, _, _⟩ := cells2 ((b9.block _ (lt_of_block M.out)).trans M.out)
    exact ⟨n0, n1, z0, z1, o0, o1, m0, m1⟩
  have CALLS : Hid (∀ w9, Below w14.heap.size w14 w9 → (Calls Try.prog 20 #[.agg #[.int .i64 N1, .slice an N2.length cn], .agg #[.int .i64 N1, .slice az N2.length cz]] w9 fun e w' => e = .returned (.bool true) ∧ Below w9.heap.size w9 w') ∧ (Calls Try.prog 22 #[.agg #[.int .i64 x0.1, .slice ao x0.2.length co]] w9 fun e w' => e = .returned (.int .i64 (echeck x0)) ∧ Below w9.heap.size w9 w') ∧ (Calls Try.prog 23 #[.agg #[.int .i64 x0.1, .slice sa x0.2.length sc]] w9 fun e w' => e = .returned (.int .i64 (echeck x0)) ∧ Below w9.heap.size w9 w') ∧ (Calls Try.prog 20 #[.agg #[.int .i64 x0.1, .slice ao x0.2.length co], .agg #[.int .i64 x0.1, .slice sa x0.2.length sc]] w9 fun e w' => e = .returned (.bool true) ∧ Below w9.heap.size w9 w')) := fun w9 b9 => by
    have q1 := same5_any w9 _ _ (N1, N2) (N1, N2) (rn.to0 b9) (rz.to0 b9)
    have q2 := same5_any w9 _ _ x0 x0 (ro.to0 b9) (h.to0 b9)
    rw [sameM_self] at q1 q2
    exact ⟨q1, pcheck_any w9 _ x0 (ro.to0 b9) hin, recheck_any w9 _ x0 (h.to0 b9) hin, q2⟩
  generalize echeck x0 = ck at *
  have CC := hide cc
  clear m0 m1 v0 v1 o0 o1 k0 k1 e0 e1 b0 b1 f0 f1 c0 c1 d0 d1 u0 u1 y0 y1 n0 n1 z0 z1
  clear h ro ra rb rc rd ru rv rn rz cc
  have b0 : Below w14.heap.size w14 w14.drew := (Below.refl _ _).drew
  refine wp_region_sched (fun w9 => w9.cell? ⟨w10.heap.size, 0, none⟩ = some (.int .i64 N1) ∧ w9.cell? ⟨w10.heap.size, 1, none⟩ = some (.slice an N2.length cn) ∧ w9.cell? ⟨w11.heap.size, 0, none⟩ = some (.int .i64 N1) ∧ w9.cell? ⟨w11.heap.size, 1, none⟩ = some (.slice az N2.length cz) ∧ w9.cell? ⟨w1.heap.size, 0, none⟩ = some (.int .i64 x0.1) ∧ w9.cell? ⟨w1.heap.size, 1, none⟩ = some (.slice ao x0.2.length co) ∧ w9.cell? ⟨w.heap.size, 0, none⟩ = some (.int .i64 x0.1) ∧ w9.cell? ⟨w.heap.size, 1, none⟩ = some (.slice sa x0.2.length sc)) [(0, true), (1, true), (2, false), (3, true), (4, true), (6, true), (5, false), (7, true), (8, true), (9, true), (10, true), (13, true), (11, false), (12, false), (14, false), (15, true), (16, true), (17, true), (18, true), (19, true), (20, false), (21, true), (22, true), (23, false), (24, true)] 25 mixed (by kernel_rfl) (fun _ _ _ _ h => h) ?_
  refine sched_take (v := ?_) rfl (by kernel_rfl) (HS.out _ b0) ?_ ?_
  rotate_left
  · rintro w9 ⟨q0, q1, q2, q3, q4, q5, q6, q7⟩
    go_simp
    try with_reducible rfl
  try simp only [Act.put, List.setIfInBounds_toArray, List.set_cons_zero, List.set_cons_succ]
  refine sched_take (v := ?_) rfl (by kernel_rfl) (HS.out _ b0) ?_ ?_
  rotate_left
  · rintro w9 ⟨q0, q1, q2, q3, q4, q5, q6, q7⟩
    go_simp
    try with_reducible rfl
  try simp only [Act.put, List.setIfInBounds_toArray, List.set_cons_zero, List.set_cons_succ]
  refine sched_run rfl (by kernel_rfl) fun K hK => ?_
  refine wp_call_of 20 _ _ (by rfl) #[.agg #[(.int .i64 N1), (.slice an N2.length cn)], .agg #[(.int .i64 N1), (.slice az N2.length cz)]] (by simp [Act.eval]) (Try.call20 _ _) ((CALLS.out _ b0).1) ?_
  rintro e v1 ⟨rfl, bb⟩
  have b1 : Below w14.heap.size w14 v1 := b0.trans (bb.mono b0.size)
  refine ⟨_, rfl, hK _ _ (HS.out _ b1) ?_⟩
  clear hK K
  try simp only [Act.put, List.setIfInBounds_toArray, List.set_cons_zero, List.set_cons_succ]
  refine sched_take (v := ?_) rfl (by kernel_rfl) (HS.out _ b1) ?_ ?_
  rotate_left
  · rintro w9 ⟨q0, q1, q2, q3, q4, q5, q6, q7⟩
    go_simp
    try with_reducible rfl
  try simp only [Act.put, List.setIfInBounds_toArray, List.set_cons_zero, List.set_cons_succ]
  refine sched_take (v := ?_) rfl (by kernel_rfl) (HS.out _ b1) ?_ ?_
  rotate_left
  · rintro w9 ⟨q0, q1, q2, q3, q4, q5, q6, q7⟩
    go_simp
    try with_reducible rfl
  try simp only [Act.put, List.setIfInBounds_toArray, List.set_cons_zero, List.set_cons_succ]
  refine sched_take (v := ?_) rfl (by kernel_rfl) (HS.out _ b1) ?_ ?_
  rotate_left
  · rintro w9 ⟨q0, q1, q2, q3, q4, q5, q6, q7⟩
    go_simp
    try with_reducible rfl
  try simp only [Act.put, List.setIfInBounds_toArray, List.set_cons_zero, List.set_cons_succ]
  refine sched_run rfl (by kernel_rfl) fun K hK => ?_
  refine wp_call_of 21 _ _ (by rfl) #[.int .i64 nr] (by simp [Act.eval]) (Try.call21 _ _) (num5_any _ _) ?_
  rintro e w' ⟨rfl, rfl⟩
  refine ⟨_, rfl, hK _ _ (HS.out _ b1) ?_⟩
  clear hK K
  try simp only [Act.put, List.setIfInBounds_toArray, List.set_cons_zero, List.set_cons_succ]
  refine sched_take (v := ?_) rfl (by kernel_rfl) (HS.out _ b1) ?_ ?_
  rotate_left
  · rintro w9 ⟨q0, q1, q2, q3, q4, q5, q6, q7⟩
    go_simp
    try with_reducible rfl
  try simp only [Act.put, List.setIfInBounds_toArray, List.set_cons_zero, List.set_cons_succ]
  refine sched_take (v := ?_) rfl (by kernel_rfl) (HS.out _ b1) ?_ ?_
  rotate_left
  · rintro w9 ⟨q0, q1, q2, q3, q4, q5, q6, q7⟩
    go_simp
    try with_reducible rfl
  try simp only [Act.put, List.setIfInBounds_toArray, List.set_cons_zero, List.set_cons_succ]
  refine sched_take (v := ?_) rfl (by kernel_rfl) (HS.out _ b1) ?_ ?_
  rotate_left
  · rintro w9 ⟨q0, q1, q2, q3, q4, q5, q6, q7⟩
    go_simp
    try with_reducible rfl
  try simp only [Act.put, List.setIfInBounds_toArray, List.set_cons_zero, List.set_cons_succ]
  refine sched_take (v := ?_) rfl (by kernel_rfl) (HS.out _ b1) ?_ ?_
  rotate_left
  · rintro w9 ⟨q0, q1, q2, q3, q4, q5, q6, q7⟩
    go_simp
    try with_reducible rfl
  try simp only [Act.put, List.setIfInBounds_toArray, List.set_cons_zero, List.set_cons_succ]
  refine sched_take (v := ?_) rfl (by kernel_rfl) (HS.out _ b1) ?_ ?_
  rotate_left
  · rintro w9 ⟨q0, q1, q2, q3, q4, q5, q6, q7⟩
    go_simp
    try with_reducible rfl
  try simp only [Act.put, List.setIfInBounds_toArray, List.set_cons_zero, List.set_cons_succ]
  refine sched_run rfl (by kernel_rfl) fun K hK => ?_
  refine wp_call_of 22 _ _ (by rfl) #[.agg #[(.int .i64 x0.1), (.slice ao x0.2.length co)]] (by simp [Act.eval]) (Try.call22 _ _) ((CALLS.out _ b1).2.1) ?_
  rintro e v3 ⟨rfl, bb⟩
  have b3 : Below w14.heap.size w14 v3 := b1.trans (bb.mono b1.size)
  refine ⟨_, rfl, hK _ _ (HS.out _ b3) ?_⟩
  clear hK K
  try simp only [Act.put, List.setIfInBounds_toArray, List.set_cons_zero, List.set_cons_succ]
  refine sched_run rfl (by kernel_rfl) fun K hK => ?_
  refine wp_call_of 21 _ _ (by rfl) #[.int .i64 ck] (by simp [Act.eval]) (Try.call21 _ _) (num5_any _ _) ?_
  rintro e w' ⟨rfl, rfl⟩
  refine ⟨_, rfl, hK _ _ (HS.out _ b3) ?_⟩
  clear hK K
  try simp only [Act.put, List.setIfInBounds_toArray, List.set_cons_zero, List.set_cons_succ]
  refine sched_run rfl (by kernel_rfl) fun K hK => ?_
  refine wp_call_of 23 _ _ (by rfl) #[.agg #[(.int .i64 x0.1), (.slice sa x0.2.length sc)]] (by simp [Act.eval]) (Try.call23 _ _) ((CALLS.out _ b3).2.2.1) ?_
  rintro e v5 ⟨rfl, bb⟩
  have b5 : Below w14.heap.size w14 v5 := b3.trans (bb.mono b3.size)
  refine ⟨_, rfl, hK _ _ (HS.out _ b5) ?_⟩
  clear hK K
  try simp only [Act.put, List.setIfInBounds_toArray, List.set_cons_zero, List.set_cons_succ]
  refine sched_take (v := ?_) rfl (by kernel_rfl) (HS.out _ b5) ?_ ?_
  rotate_left
  · rintro w9 ⟨q0, q1, q2, q3, q4, q5, q6, q7⟩
    go_simp
    try with_reducible rfl
  try simp only [Act.put, List.setIfInBounds_toArray, List.set_cons_zero, List.set_cons_succ]
  refine sched_take (v := ?_) rfl (by kernel_rfl) (HS.out _ b5) ?_ ?_
  rotate_left
  · rintro w9 ⟨q0, q1, q2, q3, q4, q5, q6, q7⟩
    go_simp
    try with_reducible rfl
  try simp only [Act.put, List.setIfInBounds_toArray, List.set_cons_zero, List.set_cons_succ]
  refine sched_take (v := ?_) rfl (by kernel_rfl) (HS.out _ b5) ?_ ?_
  rotate_left
  · rintro w9 ⟨q0, q1, q2, q3, q4, q5, q6, q7⟩
    go_simp
    try with_reducible rfl
  try simp only [Act.put, List.setIfInBounds_toArray, List.set_cons_zero, List.set_cons_succ]
  refine sched_take (v := ?_) rfl (by kernel_rfl) (HS.out _ b5) ?_ ?_
  rotate_left
  · rintro w9 ⟨q0, q1, q2, q3, q4, q5, q6, q7⟩
    go_simp
    try with_reducible rfl
  try simp only [Act.put, List.setIfInBounds_toArray, List.set_cons_zero, List.set_cons_succ]
  refine sched_take (v := ?_) rfl (by kernel_rfl) (HS.out _ b5) ?_ ?_
  rotate_left
  · rintro w9 ⟨q0, q1, q2, q3, q4, q5, q6, q7⟩
    go_simp
    try with_reducible rfl
  try simp only [Act.put, List.setIfInBounds_toArray, List.set_cons_zero, List.set_cons_succ]
  refine sched_run rfl (by kernel_rfl) fun K hK => ?_
  refine wp_call_of 20 _ _ (by rfl) #[.agg #[(.int .i64 x0.1), (.slice ao x0.2.length co)], .agg #[(.int .i64 x0.1), (.slice sa x0.2.length sc)]] (by simp [Act.eval]) (Try.call20 _ _) ((CALLS.out _ b5).2.2.2) ?_
  rintro e v6 ⟨rfl, bb⟩
  have b6 : Below w14.heap.size w14 v6 := b5.trans (bb.mono b5.size)
  refine ⟨_, rfl, hK _ _ (HS.out _ b6) ?_⟩
  clear hK K
  try simp only [Act.put, List.setIfInBounds_toArray, List.set_cons_zero, List.set_cons_succ]
  refine sched_take (v := ?_) rfl (by kernel_rfl) (HS.out _ b6) ?_ ?_
  rotate_left
  · rintro w9 ⟨q0, q1, q2, q3, q4, q5, q6, q7⟩
    go_simp
    try with_reducible rfl
  try simp only [Act.put, List.setIfInBounds_toArray, List.set_cons_zero, List.set_cons_succ]
  refine sched_take (v := ?_) rfl (by kernel_rfl) (HS.out _ b6) ?_ ?_
  rotate_left
  · rintro w9 ⟨q0, q1, q2, q3, q4, q5, q6, q7⟩
    go_simp
    try with_reducible rfl
  try simp only [Act.put, List.setIfInBounds_toArray, List.set_cons_zero, List.set_cons_succ]
  refine sched_run rfl (by kernel_rfl) fun K hK => ?_
  refine wp_call_of 24 _ _ (by rfl) #[] (by simp [Act.eval]) (Try.call24 _ _) (ealive_any _) ?_
  rintro e v7 ⟨rfl, bb⟩
  have b7 : Below w14.heap.size w14 v7 := b6.trans (bb.mono b6.size)
  refine ⟨_, rfl, hK _ _ (HS.out _ b7) ?_⟩
  clear hK K
  try simp only [Act.put, List.setIfInBounds_toArray, List.set_cons_zero, List.set_cons_succ]
  refine sched_take (v := ?_) rfl (by kernel_rfl) (HS.out _ b7) ?_ ?_
  rotate_left
  · rintro w9 ⟨q0, q1, q2, q3, q4, q5, q6, q7⟩
    go_simp
    try with_reducible rfl
  try simp only [Act.put, List.setIfInBounds_toArray, List.set_cons_zero, List.set_cons_succ]
  show wpList _ _ _ _ _ _
  go_wp2
  go_ret
  exact ⟨rfl, CC.out.trans (b7.mono CC.out.size)⟩

set_option maxRecDepth 100000 in
theorem lifted (os : Os) (started : os.Started) (H : Type) (enc : TypeId × Value → H) :
    ReturnsInHanded {} Try.checked os 3 .any (Rows.extentTellsSpec.pre6 enc Try.prog Try.f3 Rows.extentTellsRow.domain false) (Rows.extentTellsSpec.post enc Try.prog Try.f3 false true false false) := by
  refine returnsInHanded_of_change_sized (C := Try.checked) own started (by kernel_rfl) Try.func3
    (ChangeSpec.witness6 (enc := enc) (C := Try.checked) false ⟨#[], #[.agg #[.int .i64 0, .slice none 0 0], .int .i64 0, .agg #[.int .i64 0, .int .i64 0]], []⟩ 8 (by kernel_rfl) (by kernel_rfl) (by kernel_rfl) (by kernel_rfl)) ?_
  intro W base args ds gs before hval0 hW hcnd hsz0 _
  have hsz : (DataW.weightsEach Try.prog (Try.f3.params.toList ++ Rows.extentTellsSpec.plain.varTypes Try.prog) (ds ++ gs)).all (· ≤ reachBytes) = true := hsz0
  have hval : ∀ (j : Nat) t v, Try.f3.params[j]? = some t → args[j]? = some v → Value.okWide Try.prog W .any base t v := hval0
  have hW' := hW
  obtain ⟨p, q, hA0, hV, rfl, hfz, hnd⟩ := hW
  have hA : DataW.TrodAll enc Try.prog W 0 (fun _ => true) true Try.f3.params.toList args.toList ds p := hA0
  rw [Try.params3] at hA hval hsz
  obtain ⟨v0, vs0, d0, ds0, p0, q0, hargs, rfl, rfl, h0, r0⟩ := trodAll_cons hA
  obtain ⟨v1, vs1, d1, ds1, p1, q1, rfl, rfl, rfl, h1, r1⟩ := trodAll_cons r0
  obtain ⟨v2, vs2, d2, ds2, p2, q2, rfl, rfl, rfl, h2, r2⟩ := trodAll_cons r1
  obtain ⟨rfl, rfl, rfl⟩ := trodAll_nil r2
  obtain rfl : args = #[v0, v1, v2] := by cases args; simp_all
  obtain ⟨rfl, rfl⟩ := trodVars_none hV
  obtain ⟨cs0, rfl, _⟩ := okWide_struct Try.underlying24 (hval 0 24 v0 rfl rfl)
  have lt0 : ∀ x ∈ p0, x.block < W.heap.size := by obtain ⟨m, hm⟩ := h0; exact DataW.trod_lt m _ _ _ hm
  have hh0 := h0
  obtain ⟨fu0, hf0⟩ := hh0
  obtain ⟨x0, g0, f0, b0⟩ := open_emap.opened hf0
  obtain ⟨a1, rfl, rfl, rfl, w1⟩ := open_int Try.underlying3 (hval 1 3 v1 rfl rfl) h1
  obtain ⟨cs2, rfl, _⟩ := okWide_struct Try.underlying26 (hval 2 26 v2 rfl rfl)
  have lt2 : ∀ x ∈ p2, x.block < W.heap.size := by obtain ⟨m, hm⟩ := h2; exact DataW.trod_lt m _ _ _ hm
  have hh2 := h2
  obtain ⟨fu2, hf2⟩ := hh2
  obtain ⟨x2, g2, f2, b2⟩ := open_ext.opened hf2
  have m0 := f0 (reach_of hsz (j := 0) rfl rfl)
  have m2 := f2 (reach_of hsz (j := 2) rfl rfl)
  clear hA0 hval0 hsz0 hsz
  refine (walk W cs0 x0 g0 m0 a1 w1 cs2 x2 g2 m2).mono fun e W' ⟨he, bel⟩ => ?_
  subst he
  exact ⟨_, rfl, _, _, _, [], _, [], hW', trodAll_mk1 (shut_bool Try.underlying4 _), (trodAll_cons_mk (Below.trod laidOut (by kernel_rfl) (of_decide_eq_true (by kernel_rfl)) h0 bel lt0) (trodAll_cons_mk (shut_int Try.underlying3 w1) (trodAll_cons_mk (Below.trod laidOut (by kernel_rfl) (of_decide_eq_true (by kernel_rfl)) h2 bel lt2) trodAll_mk0))), rfl, bel.frame _, fun h => by cases h⟩

theorem over : Rows.extentTellsRow.holds Try.pinned (OpenSpec.ofChange Rows.extentTellsSpec) :=
  OpenClaim.holds_of_wide 3 Try.f3 rfl rfl rfl rfl rfl rfl rfl ⟨rfl, rfl, rfl, rfl, rfl⟩ rfl rfl rfl rfl rfl (by kernel_rfl) Try.func3 (by kernel_rfl)
    (of_decide_eq_true (by kernel_rfl)) (by unfold Func.isWrapper; first | (rw [if_pos (by decide +kernel)]; kernel_rfl) | (rw [if_neg (by decide +kernel)]; exact ⟨rfl, rfl⟩))
    (fun os started H enc _ => lifted os started H enc)

end Go.Proofs.Ytacfcgklncckiaa.extentTells
namespace Go.Proofs.Ytacfcgklncckiaa
/-- THE STATEMENT -/
theorem extentTells_holds : Rows.ExtentTellsSaid := extentTells.over
end Go.Proofs.Ytacfcgklncckiaa
