/-
  PROVED: whatever map and number come in, transeptlaw05.ExtentBack returns true and leaves them as they were: the statement of P5.3 (what was allocated and is freed again leaves the map as it was).
-/
import Derived.Test.YtacfcgklncckiaaEIn
import Derived.Test.YtacfcgklncckiaaEAlive
namespace Go.Proofs.Ytacfcgklncckiaa.extentBack
open Go.ChangeShapes Go.WideShapes Go.ChangeAt Go.RowKit
set_option linter.unusedVariables false

set_option maxRecDepth 100000 in
set_option maxHeartbeats 4000000 in
theorem walk (w : World) (cs0 : Array Value) (x0 : EMap) (g0 : SMapE.rd w cs0.toList x0) (m0 : (Lit.int .i64 x0.1).wf = true ∧ (x0.2.length * 16 ≤ 140737488351232 ∧ ∀ y ∈ x0.2, (Lit.int .i64 y.1).wf = true ∧ (Lit.int .i64 y.2).wf = true)) (a1 : Int) (w1' : (Lit.int .i64 a1).wf = true) :
    Calls Try.prog 4 #[.agg cs0, .int .i64 a1] w fun e w' => e = .returned (.bool true) ∧ Below w.heap.size w w' := by
  obtain ⟨fv, rfl, h⟩ := emap_form g0
  obtain ⟨hin, hm⟩ := emap_in m0
  clear g0 m0
  obtain ⟨sa, sc, rfl⟩ := h.slice
  have cc : Below w.heap.size w w := Below.refl _ _
  obtain ⟨D1, D2, p, q, er, hD⟩ : ∃ D1 D2 p q er, ealloc x0 a1 = ((D1, D2), (p, q), er) := ⟨_, _, _, _, _, rfl⟩
  have hN := hide (ealloc_no (m := x0) (s := a1))
  have hY := hide (ealloc_back (m := x0) (s := a1))
  rw [hD] at hN hY
  try dsimp only at hN hY
  replace hD := hide hD
  obtain ⟨XM, hXM, M, bX, sXM⟩ := boxed2b w (.int .i64 x0.1) (.slice sa x0.2.length sc) 24
  replace M := hide M
  replace h := h.to0 bX
  replace cc := cc.trans (bX.mono cc.size)
  replace hXM := hide hXM
  clear bX
  go_enter Try.func4, Try.ntmps4
  have KK := hide (ealive_any XM)
  try dsimp only at KK
  obtain ⟨m0, m1, _, _⟩ := cells2 M.out
  rw [hXM.out] at m0 m1
  go_wp2_with fail
  rw [← hXM.out]
  clear m0 m1
  refine KK.out.mono ?_
  rintro e w1 ⟨rfl, bb⟩
  clear KK
  replace M := hide ((bb.block _ (lt_of_block M.out)).trans M.out)
  replace h := h.to0 bb
  replace cc := cc.trans (bb.mono cc.size)
  clear bb
  have KK := hide (of5_any w1 _ x0 h hm)
  try dsimp only at KK
  obtain ⟨m0, m1, _, _⟩ := cells2 M.out
  go_wp2_with fail
  clear m0 m1
  refine KK.out.mono ?_
  rintro e w2 ⟨f, rfl, o, bb⟩
  clear KK
  try dsimp only at o
  have ro := ownE_rd o
  clear o
  obtain ⟨ao, co, hv⟩ := ro.slice
  subst hv
  replace M := hide ((bb.block _ (lt_of_block M.out)).trans M.out)
  replace h := h.to0 bb
  replace cc := cc.trans (bb.mono cc.size)
  clear bb
  obtain ⟨XO, hXO, O, bX, sXO⟩ := boxed2b w2 (.int .i64 x0.1) (.slice ao x0.2.length co) 27
  replace O := hide O
  replace M := hide ((bX.block _ (lt_of_block M.out)).trans M.out)
  replace h := h.to0 bX
  replace ro := ro.to0 bX
  replace cc := cc.trans (bX.mono cc.size)
  replace hXO := hide hXO
  clear bX
  have KK := hide (palloc_any XO _ x0 a1 ro hin)
  rw [hD.out] at KK
  try dsimp only at KK
  obtain ⟨m0, m1, _, _⟩ := cells2 M.out
  obtain ⟨o0, o1, _, _⟩ := cells2 O.out
  rw [hXO.out] at m0 m1 o0 o1
  go_wp2_with fail
  rw [← hXO.out]
  clear m0 m1 o0 o1
  refine KK.out.mono ?_
  rintro e w3 ⟨f, rfl, o, bb⟩
  clear KK
  try dsimp only at o
  have ra := ownE_rd o
  clear o
  obtain ⟨aa, ca, hv⟩ := ra.slice
  subst hv
  replace M := hide ((bb.block _ (lt_of_block M.out)).trans M.out)
  replace O := hide ((bb.block _ (lt_of_block O.out)).trans O.out)
  replace h := h.to0 bb
  replace ro := ro.to0 bb
  replace cc := cc.trans (bb.mono cc.size)
  clear bb
  obtain ⟨XA, hXA, A, bX, sXA⟩ := boxed2b w3 (.int .i64 D1) (.slice aa D2.length ca) 27
  replace A := hide A
  replace M := hide ((bX.block _ (lt_of_block M.out)).trans M.out)
  replace O := hide ((bX.block _ (lt_of_block O.out)).trans O.out)
  replace h := h.to0 bX
  replace ro := ro.to0 bX
  replace ra := ra.to0 bX
  replace cc := cc.trans (bX.mono cc.size)
  replace hXA := hide hXA
  clear bX
  obtain ⟨XE, hXE, E, bX, sXE⟩ := boxed2b XA (.int .i64 p) (.int .i64 q) 26
  rw [sXA] at E
  replace E := hide E
  replace M := hide ((bX.block _ (lt_of_block M.out)).trans M.out)
  replace O := hide ((bX.block _ (lt_of_block O.out)).trans O.out)
  replace A := hide ((bX.block _ (lt_of_block A.out)).trans A.out)
  replace h := h.to0 bX
  replace ro := ro.to0 bX
  replace ra := ra.to0 bX
  replace cc := cc.trans (bX.mono cc.size)
  rw [hXA.out] at hXE
  replace hXE := hide hXE
  clear bX
  obtain ⟨m0, m1, _, _⟩ := cells2 M.out
  obtain ⟨o0, o1, _, _⟩ := cells2 O.out
  obtain ⟨a0, a1, _, _⟩ := cells2 A.out
  obtain ⟨e0, e1, _, _⟩ := cells2 E.out
  rw [hXE.out] at m0 m1 o0 o1 a0 a1 e0 e1
  go_wp2_with fail
  rw [← hXE.out]
  clear m0 m1 o0 o1 a0 a1 e0 e1
  refine (num5_any _ _).mono ?_
  rintro e w' ⟨rfl, rfl⟩
  by_cases her : er = 0
  · obtain ⟨hf, ht, hq, hok⟩ := hY.out her
    replace hf := hide hf
    replace ht := hide ht
    have hin2 : eIn D2 := in_small fun x hx => by have := eSec_of hok x hx; omega
    have hp : p ≤ 9223372036854775807 := by
      obtain ⟨_, _, y, hy⟩ := ealloc_cases (m := x0) (s := a1) (by rw [hD.out]; exact her)
      obtain ⟨pre, post, e1, _, _, e2⟩ := ealloc_at (ealloc_cases (m := x0) (s := a1) (by rw [hD.out]; exact her)).1 (ealloc_cases (m := x0) (s := a1) (by rw [hD.out]; exact her)).2.1 hy
      rw [hD.out] at e2
      simp only [Prod.mk.injEq] at e2
      have := hin y (by rw [e1]; simp)
      omega
    subst her
    subst hq
    clear hN hY hok
    have KK := hide (pfree_any XE _ (D1, D2) (p, q) ra hin2 hp)
    rw [hf.out] at KK
    try dsimp only at KK
    obtain ⟨m0, m1, _, _⟩ := cells2 M.out
    obtain ⟨o0, o1, _, _⟩ := cells2 O.out
    obtain ⟨a0, a1, _, _⟩ := cells2 A.out
    obtain ⟨e0, e1, _, _⟩ := cells2 E.out
    go_wp2_with fail
    clear m0 m1 o0 o1 a0 a1 e0 e1
    refine KK.out.mono ?_
    rintro e w4 ⟨f, rfl, o, bb⟩
    clear KK
    try dsimp only at o
    have rb := ownE_rd o
    clear o
    obtain ⟨ab, cb, hv⟩ := rb.slice
    subst hv
    replace M := hide ((bb.block _ (lt_of_block M.out)).trans M.out)
    replace O := hide ((bb.block _ (lt_of_block O.out)).trans O.out)
    replace A := hide ((bb.block _ (lt_of_block A.out)).trans A.out)
    replace E := hide ((bb.block _ (lt_of_block E.out)).trans E.out)
    replace h := h.to0 bb
    replace ro := ro.to0 bb
    replace ra := ra.to0 bb
    replace cc := cc.trans (bb.mono cc.size)
    clear bb
    obtain ⟨XF, hXF, F, bX, sXF⟩ := boxed2b w4 (.int .i64 x0.1) (.slice ab x0.2.length cb) 27
    replace F := hide F
    replace M := hide ((bX.block _ (lt_of_block M.out)).trans M.out)
    replace O := hide ((bX.block _ (lt_of_block O.out)).trans O.out)
    replace A := hide ((bX.block _ (lt_of_block A.out)).trans A.out)
    replace E := hide ((bX.block _ (lt_of_block E.out)).trans E.out)
    replace h := h.to0 bX
    replace ro := ro.to0 bX
    replace ra := ra.to0 bX
    replace rb := rb.to0 bX
    replace cc := cc.trans (bX.mono cc.size)
    replace hXF := hide hXF
    clear bX
    have KK := hide (ptake_any XF _ x0 (p, q) ro hin hp)
    rw [ht.out] at KK
    try dsimp only at KK
    obtain ⟨m0, m1, _, _⟩ := cells2 M.out
    obtain ⟨o0, o1, _, _⟩ := cells2 O.out
    obtain ⟨a0, a1, _, _⟩ := cells2 A.out
    obtain ⟨e0, e1, _, _⟩ := cells2 E.out
    obtain ⟨f0, f1, _, _⟩ := cells2 F.out
    rw [hXF.out] at m0 m1 o0 o1 a0 a1 e0 e1 f0 f1
    go_wp2_with fail
    rw [← hXF.out]
    clear m0 m1 o0 o1 a0 a1 e0 e1 f0 f1
    refine KK.out.mono ?_
    rintro e w5 ⟨f, rfl, o, bb⟩
    clear KK
    try dsimp only at o
    have rd := ownE_rd o
    clear o
    obtain ⟨ad, cd, hv⟩ := rd.slice
    subst hv
    replace M := hide ((bb.block _ (lt_of_block M.out)).trans M.out)
    replace O := hide ((bb.block _ (lt_of_block O.out)).trans O.out)
    replace A := hide ((bb.block _ (lt_of_block A.out)).trans A.out)
    replace E := hide ((bb.block _ (lt_of_block E.out)).trans E.out)
    replace F := hide ((bb.block _ (lt_of_block F.out)).trans F.out)
    replace h := h.to0 bb
    replace ro := ro.to0 bb
    replace ra := ra.to0 bb
    replace rb := rb.to0 bb
    replace cc := cc.trans (bb.mono cc.size)
    clear bb
    obtain ⟨XG, hXG, G, bX, sXG⟩ := boxed2b w5 (.int .i64 D1) (.slice ad D2.length cd) 27
    replace G := hide G
    replace M := hide ((bX.block _ (lt_of_block M.out)).trans M.out)
    replace O := hide ((bX.block _ (lt_of_block O.out)).trans O.out)
    replace A := hide ((bX.block _ (lt_of_block A.out)).trans A.out)
    replace E := hide ((bX.block _ (lt_of_block E.out)).trans E.out)
    replace F := hide ((bX.block _ (lt_of_block F.out)).trans F.out)
    replace h := h.to0 bX
    replace ro := ro.to0 bX
    replace ra := ra.to0 bX
    replace rb := rb.to0 bX
    replace rd := rd.to0 bX
    replace cc := cc.trans (bX.mono cc.size)
    replace hXG := hide hXG
    clear bX
    obtain ⟨m0, m1, _, _⟩ := cells2 M.out
    obtain ⟨o0, o1, _, _⟩ := cells2 O.out
    obtain ⟨a0, a1, _, _⟩ := cells2 A.out
    obtain ⟨e0, e1, _, _⟩ := cells2 E.out
    obtain ⟨f0, f1, _, _⟩ := cells2 F.out
    obtain ⟨g0, g1, _, _⟩ := cells2 G.out
    rw [hXG.out] at m0 m1 o0 o1 a0 a1 e0 e1 f0 f1 g0 g1
    go_wp2_with fail
    rw [← hXG.out]
    clear m0 m1 o0 o1 a0 a1 e0 e1 f0 f1 g0 g1
    refine (num5_any _ _).mono ?_
    rintro e w' ⟨rfl, rfl⟩
    obtain ⟨m0, m1, _, _⟩ := cells2 M.out
    obtain ⟨o0, o1, _, _⟩ := cells2 O.out
    obtain ⟨a0, a1, _, _⟩ := cells2 A.out
    obtain ⟨e0, e1, _, _⟩ := cells2 E.out
    obtain ⟨f0, f1, _, _⟩ := cells2 F.out
    obtain ⟨g0, g1, _, _⟩ := cells2 G.out
    go_wp2_with fail
    clear m0 m1 o0 o1 a0 a1 e0 e1 f0 f1 g0 g1
    refine (num5_any _ _).mono ?_
    rintro e w' ⟨rfl, rfl⟩
    have KK := hide (same5_any XG _ _ x0 x0 rb h)
    try dsimp only at KK
    obtain ⟨m0, m1, _, _⟩ := cells2 M.out
    obtain ⟨o0, o1, _, _⟩ := cells2 O.out
    obtain ⟨a0, a1, _, _⟩ := cells2 A.out
    obtain ⟨e0, e1, _, _⟩ := cells2 E.out
    obtain ⟨f0, f1, _, _⟩ := cells2 F.out
    obtain ⟨g0, g1, _, _⟩ := cells2 G.out
    go_wp2_with fail
    clear m0 m1 o0 o1 a0 a1 e0 e1 f0 f1 g0 g1
    refine KK.out.mono ?_
    rintro e w6 ⟨rfl, bb⟩
    clear KK
    rw [sameM_self]
    replace M := hide ((bb.block _ (lt_of_block M.out)).trans M.out)
    replace O := hide ((bb.block _ (lt_of_block O.out)).trans O.out)
    replace A := hide ((bb.block _ (lt_of_block A.out)).trans A.out)
    replace E := hide ((bb.block _ (lt_of_block E.out)).trans E.out)
    replace F := hide ((bb.block _ (lt_of_block F.out)).trans F.out)
    replace G := hide ((bb.block _ (lt_of_block G.out)).trans G.out)
    replace h := h.to0 bb
    replace ro := ro.to0 bb
    replace ra := ra.to0 bb
    replace rb := rb.to0 bb
    replace rd := rd.to0 bb
    replace cc := cc.trans (bb.mono cc.size)
    clear bb
    have KK := hide (sameExt_any w6 _ _ D2 D2 rd ra)
    rw [show sameE D2 D2 = true from by simp [sameE]] at KK
    obtain ⟨m0, m1, _, _⟩ := cells2 M.out
    obtain ⟨o0, o1, _, _⟩ := cells2 O.out
    obtain ⟨a0, a1, _, _⟩ := cells2 A.out
    obtain ⟨e0, e1, _, _⟩ := cells2 E.out
    obtain ⟨f0, f1, _, _⟩ := cells2 F.out
    obtain ⟨g0, g1, _, _⟩ := cells2 G.out
    go_wp2_with fail
    clear m0 m1 o0 o1 a0 a1 e0 e1 f0 f1 g0 g1
    refine KK.out.mono ?_
    rintro e wz ⟨rfl, nz, rfl⟩
    go_wp2
    go_ret
    exact ⟨rfl, cc.trans (below_drewN' _ _ _)⟩
  · obtain ⟨h1, h2⟩ := hN.out her
    simp only [Prod.mk.injEq] at h1 h2
    obtain ⟨rfl, rfl⟩ := h1
    obtain ⟨rfl, rfl⟩ := h2
    have hbe : (er != 0) = true := by simpa using her
    replace her := hide her
    clear hN hY
    obtain ⟨a0, a1, _, _⟩ := cells2 A.out
    obtain ⟨e0, e1, _, _⟩ := cells2 E.out
    go_wp2
    go_ret
    exact ⟨rfl, cc⟩

set_option maxRecDepth 100000 in
theorem lifted (os : Os) (started : os.Started) (H : Type) (enc : TypeId × Value → H) :
    ReturnsInHanded {} Try.checked os 4 .any (Rows.extentBackSpec.pre6 enc Try.prog Try.f4 Rows.extentBackRow.domain false) (Rows.extentBackSpec.post enc Try.prog Try.f4 false true false false) := by
  refine returnsInHanded_of_change_sized (C := Try.checked) own started (by kernel_rfl) Try.func4
    (ChangeSpec.witness6 (enc := enc) (C := Try.checked) false ⟨#[], #[.agg #[.int .i64 0, .slice none 0 0], .int .i64 0], []⟩ 8 (by kernel_rfl) (by kernel_rfl) (by kernel_rfl) (by kernel_rfl)) ?_
  intro W base args ds gs before hval0 hW hcnd hsz0 _
  have hsz : (DataW.weightsEach Try.prog (Try.f4.params.toList ++ Rows.extentBackSpec.plain.varTypes Try.prog) (ds ++ gs)).all (· ≤ reachBytes) = true := hsz0
  have hval : ∀ (j : Nat) t v, Try.f4.params[j]? = some t → args[j]? = some v → Value.okWide Try.prog W .any base t v := hval0
  have hW' := hW
  obtain ⟨p, q, hA0, hV, rfl, hfz, hnd⟩ := hW
  have hA : DataW.TrodAll enc Try.prog W 0 (fun _ => true) true Try.f4.params.toList args.toList ds p := hA0
  rw [Try.params4] at hA hval hsz
  obtain ⟨v0, vs0, d0, ds0, p0, q0, hargs, rfl, rfl, h0, r0⟩ := trodAll_cons hA
  obtain ⟨v1, vs1, d1, ds1, p1, q1, rfl, rfl, rfl, h1, r1⟩ := trodAll_cons r0
  obtain ⟨rfl, rfl, rfl⟩ := trodAll_nil r1
  obtain rfl : args = #[v0, v1] := by cases args; simp_all
  obtain ⟨rfl, rfl⟩ := trodVars_none hV
  obtain ⟨cs0, rfl, _⟩ := okWide_struct Try.underlying24 (hval 0 24 v0 rfl rfl)
  have lt0 : ∀ x ∈ p0, x.block < W.heap.size := by obtain ⟨m, hm⟩ := h0; exact DataW.trod_lt m _ _ _ hm
  have hh0 := h0
  obtain ⟨fu0, hf0⟩ := hh0
  obtain ⟨x0, g0, f0, b0⟩ := open_emap.opened hf0
  obtain ⟨a1, rfl, rfl, rfl, w1⟩ := open_int Try.underlying3 (hval 1 3 v1 rfl rfl) h1
  have m0 := f0 (reach_of hsz (j := 0) rfl rfl)
  clear hA0 hval0 hsz0 hsz
  refine (walk W cs0 x0 g0 m0 a1 w1).mono fun e W' ⟨he, bel⟩ => ?_
  subst he
  exact ⟨_, rfl, _, _, _, [], _, [], hW', trodAll_mk1 (shut_bool Try.underlying4 _), (trodAll_cons_mk (Below.trod laidOut (by kernel_rfl) (of_decide_eq_true (by kernel_rfl)) h0 bel lt0) (trodAll_cons_mk (shut_int Try.underlying3 w1) trodAll_mk0)), rfl, bel.frame _, fun h => by cases h⟩

theorem over : Rows.extentBackRow.holds Try.pinned (OpenSpec.ofChange Rows.extentBackSpec) :=
  OpenClaim.holds_of_wide 4 Try.f4 rfl rfl rfl rfl rfl rfl rfl ⟨rfl, rfl, rfl, rfl, rfl⟩ rfl rfl rfl rfl rfl (by kernel_rfl) Try.func4 (by kernel_rfl)
    (of_decide_eq_true (by kernel_rfl)) (by unfold Func.isWrapper; first | (rw [if_pos (by decide +kernel)]; kernel_rfl) | (rw [if_neg (by decide +kernel)]; exact ⟨rfl, rfl⟩))
    (fun os started H enc _ => lifted os started H enc)

end Go.Proofs.Ytacfcgklncckiaa.extentBack
namespace Go.Proofs.Ytacfcgklncckiaa
/-- THE STATEMENT -/
theorem extentBack_holds : Rows.ExtentBackSaid := extentBack.over
end Go.Proofs.Ytacfcgklncckiaa
