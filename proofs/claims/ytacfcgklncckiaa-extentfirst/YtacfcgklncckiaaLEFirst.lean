/-
  PROVED: whatever map and number come in, transeptlaw05.ExtentFirst returns true and leaves them as they were: the statement of P5.1 (what is given is the lowest place that is large enough).
-/
import Derived.Test.YtacfcgklncckiaaEIn
import Derived.Test.YtacfcgklncckiaaEAlive
namespace Go.Proofs.Ytacfcgklncckiaa.extentFirst
open Go.ChangeShapes Go.WideShapes Go.ChangeAt Go.RowKit
set_option linter.unusedVariables false

set_option maxRecDepth 100000 in
set_option maxHeartbeats 4000000 in
theorem walk (w : World) (cs0 : Array Value) (x0 : EMap) (g0 : SMapE.rd w cs0.toList x0) (m0 : (Lit.int .i64 x0.1).wf = true ∧ (x0.2.length * 16 ≤ 140737488351232 ∧ ∀ y ∈ x0.2, (Lit.int .i64 y.1).wf = true ∧ (Lit.int .i64 y.2).wf = true)) (a1 : Int) (w1' : (Lit.int .i64 a1).wf = true) :
    Calls Try.prog 6 #[.agg cs0, .int .i64 a1] w fun e w' => e = .returned (.bool true) ∧ Below w.heap.size w w' := by
  obtain ⟨fv, rfl, h⟩ := emap_form g0
  obtain ⟨hin, hm⟩ := emap_in m0
  clear g0 m0
  obtain ⟨sa, sc, rfl⟩ := h.slice
  have cc : Below w.heap.size w w := Below.refl _ _
  have lb := h.bd
  obtain ⟨D1, D2, p, q, er, hD⟩ : ∃ D1 D2 p q er, ealloc x0 a1 = ((D1, D2), (p, q), er) := ⟨_, _, _, _, _, rfl⟩
  have HS := hide (ealloc_state (m := x0) (s := a1))
  have HR := hide (ealloc_range (m := x0) (s := a1))
  have HN := hide (ealloc_none (m := x0) (s := a1))
  have HY := hide (fun y => ealloc_some (m := x0) (s := a1) (y := y))
  rw [hD] at HS HR HN HY
  replace hD := hide hD
  obtain ⟨XM, hXM, M, bX, sXM⟩ := boxed2b w (.int .i64 x0.1) (.slice sa x0.2.length sc) 24
  replace M := hide M
  replace h := h.to0 bX
  replace cc := cc.trans (bX.mono cc.size)
  replace hXM := hide hXM
  clear bX
  go_enter Try.func6, Try.ntmps6
  have KK := hide (ealive_any XM)
  try dsimp only at KK
  obtain ⟨m0, m1, _, _⟩ := cells2 M.out
  rw [hXM.out] at m0 m1
  go_wp2_with fail
  rw [← hXM.out]
  clear m0 m1
  refine KK.out.mono ?_
  rintro e w1 ⟨rfl, bb⟩
  clear KK
  replace M := hide ((bb.block _ (lt_of_block M.out)).trans M.out)
  replace h := h.to0 bb
  replace cc := cc.trans (bb.mono cc.size)
  clear bb
  have KK := hide (of5_any w1 _ x0 h hm)
  try dsimp only at KK
  obtain ⟨m0, m1, _, _⟩ := cells2 M.out
  go_wp2_with fail
  clear m0 m1
  refine KK.out.mono ?_
  rintro e w2 ⟨f, rfl, o, bb⟩
  clear KK
  try dsimp only at o
  have ro := ownE_rd o
  clear o
  obtain ⟨ao, co, hv⟩ := ro.slice
  subst hv
  replace M := hide ((bb.block _ (lt_of_block M.out)).trans M.out)
  replace h := h.to0 bb
  replace cc := cc.trans (bb.mono cc.size)
  clear bb
  have KK := hide (palloc_any w2 _ x0 a1 ro hin)
  rw [hD.out] at KK
  try dsimp only at KK
  obtain ⟨m0, m1, _, _⟩ := cells2 M.out
  go_wp2_with fail
  clear m0 m1
  refine KK.out.mono ?_
  rintro e w3 ⟨f, rfl, o, bb⟩
  clear KK
  try dsimp only at o
  have ra := ownE_rd o
  clear o
  obtain ⟨aa, ca, hv⟩ := ra.slice
  subst hv
  replace M := hide ((bb.block _ (lt_of_block M.out)).trans M.out)
  replace h := h.to0 bb
  replace ro := ro.to0 bb
  replace cc := cc.trans (bb.mono cc.size)
  clear bb
  obtain ⟨XA, hXA, A, bX, sXA⟩ := boxed2b w3 (.int .i64 D1) (.slice aa D2.length ca) 27
  replace A := hide A
  replace M := hide ((bX.block _ (lt_of_block M.out)).trans M.out)
  replace h := h.to0 bX
  replace ro := ro.to0 bX
  replace ra := ra.to0 bX
  replace cc := cc.trans (bX.mono cc.size)
  replace hXA := hide hXA
  clear bX
  obtain ⟨XE, hXE, E, bX, sXE⟩ := boxed2b XA (.int .i64 p) (.int .i64 q) 26
  rw [sXA] at E
  replace E := hide E
  replace M := hide ((bX.block _ (lt_of_block M.out)).trans M.out)
  replace A := hide ((bX.block _ (lt_of_block A.out)).trans A.out)
  replace h := h.to0 bX
  replace ro := ro.to0 bX
  replace ra := ra.to0 bX
  replace cc := cc.trans (bX.mono cc.size)
  rw [hXA.out] at hXE
  replace hXE := hide hXE
  clear bX
  have KK := hide (recheck_any XE _ x0 h hin)
  try dsimp only at KK
  obtain ⟨m0, m1, _, _⟩ := cells2 M.out
  obtain ⟨a0, a1, _, _⟩ := cells2 A.out
  obtain ⟨e0, e1, _, _⟩ := cells2 E.out
  rw [hXE.out] at m0 m1 a0 a1 e0 e1
  go_wp2_with fail
  rw [← hXE.out]
  clear m0 m1 a0 a1 e0 e1
  refine KK.out.mono ?_
  rintro e w4 ⟨rfl, bb⟩
  clear KK
  replace M := hide ((bb.block _ (lt_of_block M.out)).trans M.out)
  replace A := hide ((bb.block _ (lt_of_block A.out)).trans A.out)
  replace E := hide ((bb.block _ (lt_of_block E.out)).trans E.out)
  replace h := h.to0 bb
  replace ro := ro.to0 bb
  replace ra := ra.to0 bb
  replace cc := cc.trans (bb.mono cc.size)
  clear bb
  by_cases hok : EOk x0
  · rw [echeck_ok hok]
    by_cases hs : a1 < 1
    · have hz := HR.out hok hs
      simp only [Prod.mk.injEq] at hz
      have hbe : (er != 0) = true := by rw [hz.2.2]; decide
      have hp0 : p = 0 := hz.2.1.1
      have hq0 : q = 0 := hz.2.1.2
      subst hp0 hq0
      clear HS HR HN HY
      obtain ⟨e0, e1, _, _⟩ := cells2 E.out
      obtain ⟨m0, m1, _, _⟩ := cells2 M.out
      go_wp2_with fail
      refine (num5_any _ _).mono ?_
      rintro e w' ⟨rfl, rfl⟩
      go_wp2
      go_ret
      exact ⟨rfl, cc⟩
    · have hs' : 1 ≤ a1 := by omega
      have HOK := hide hok
      obtain ⟨m0, m1, _, _⟩ := cells2 M.out
      go_wp2
      go_loopw [8] (fun i wr => ∃ k : Nat, k ≤ x0.2.length ∧ i = .int .i64 k ∧ wr = w4 ∧ Hid (∀ y ∈ x0.2.take k, (fun x y => decide (a1 ≤ y - x)) y.1 (y.1 + y.2) = false)) (fun i _ => x0.2.length - (intOf i).toNat)
      case atStart => exact ⟨0, Nat.zero_le _, rfl, rfl, hide (fun y hy => by simp at hy)⟩
      case round =>
        obtain ⟨k, hk, rfl, rfl, hH⟩ := hrel
        by_cases hlt : k < x0.2.length
        · have hqi : (k : Int) < (x0.2.length : Int) := by omega
          obtain ⟨x, hx, hxm⟩ := ext_at x0.2 hlt
          obtain ⟨bb, off, rfl, hc1, hc2⟩ := h.ext hx
          by_cases hsx : a1 ≤ x.2
          · have hI := eIdx_hit (p := fun x y => decide (a1 ≤ y - x)) hx (by simp; omega) hH.out
            have hz := (HY.out x HOK.out hs' (by rw [hI]; exact hlt) (by rw [hI]; exact hx)).2
            simp only [Prod.mk.injEq] at hz
            obtain ⟨_, ⟨rfl, rfl⟩, rfl⟩ := hz
            obtain ⟨e0, e1, _, _⟩ := cells2 E.out
            have KN := hide (fun n => Calls.flip (num5_any (wr.drewN n) 0))
            clear hI hH HS HR HN HY hx hxm
            go_wp2
            go_quiet ((go_at_call 21; exact Calls.quiet_of_same (KN.out _)))
            go_wp2
            go_ret
            exact ⟨rfl, cc.trans (below_drewN' _ _ _)⟩
          · have hsx' : x.2 < a1 := by omega
            replace hx := hide hx
            clear HS HR HN HY
            go_wp2
            go_roundw
            case rel =>
              refine ⟨k + 1, by omega, by go_num, trivial, hide (fun y hy => ?_)⟩
              rw [List.take_add_one, hx.out] at hy
              rcases List.mem_append.1 hy with hy | hy
              · exact hH.out y hy
              · simp at hy; subst hy; simp; omega
            case measure => simp [intOf]; omega
        · have hqi : ¬ (k : Int) < (x0.2.length : Int) := by omega
          have hall := hH.out
          rw [List.take_of_length_le (by omega)] at hall
          have hz := HN.out HOK.out hs' (by rw [eIdx_none hall]; omega)
          simp only [Prod.mk.injEq] at hz
          obtain ⟨_, ⟨rfl, rfl⟩, rfl⟩ := hz
          clear HS HR HN HY hall hH
          go_wp2_with fail
          refine (num5_any _ _).mono ?_
          rintro e w' ⟨rfl, rfl⟩
          go_wp2
          go_ret
          exact ⟨rfl, cc⟩
  · rw [echeck_no hok]
    have hz := HS.out hok
    simp only [Prod.mk.injEq] at hz
    have hbe : (er != 0) = true := by rw [hz.2.2]; decide
    have hp0 : p = 0 := hz.2.1.1
    have hq0 : q = 0 := hz.2.1.2
    subst hp0 hq0
    clear HS HR HN HY
    obtain ⟨e0, e1, _, _⟩ := cells2 E.out
    obtain ⟨m0, m1, _, _⟩ := cells2 M.out
    go_wp2_with fail
    refine (num5_any _ _).mono ?_
    rintro e w' ⟨rfl, rfl⟩
    go_wp2
    go_ret
    exact ⟨rfl, cc⟩


set_option maxRecDepth 100000 in
theorem lifted (os : Os) (started : os.Started) (H : Type) (enc : TypeId × Value → H) :
    ReturnsInHanded {} Try.checked os 6 .any (Rows.extentFirstSpec.pre6 enc Try.prog Try.f6 Rows.extentFirstRow.domain false) (Rows.extentFirstSpec.post enc Try.prog Try.f6 false true false false) := by
  refine returnsInHanded_of_change_sized (C := Try.checked) own started (by kernel_rfl) Try.func6
    (ChangeSpec.witness6 (enc := enc) (C := Try.checked) false ⟨#[], #[.agg #[.int .i64 0, .slice none 0 0], .int .i64 0], []⟩ 8 (by kernel_rfl) (by kernel_rfl) (by kernel_rfl) (by kernel_rfl)) ?_
  intro W base args ds gs before hval0 hW hcnd hsz0 _
  have hsz : (DataW.weightsEach Try.prog (Try.f6.params.toList ++ Rows.extentFirstSpec.plain.varTypes Try.prog) (ds ++ gs)).all (· ≤ reachBytes) = true := hsz0
  have hval : ∀ (j : Nat) t v, Try.f6.params[j]? = some t → args[j]? = some v → Value.okWide Try.prog W .any base t v := hval0
  have hW' := hW
  obtain ⟨p, q, hA0, hV, rfl, hfz, hnd⟩ := hW
  have hA : DataW.TrodAll enc Try.prog W 0 (fun _ => true) true Try.f6.params.toList args.toList ds p := hA0
  rw [Try.params6] at hA hval hsz
  obtain ⟨v0, vs0, d0, ds0, p0, q0, hargs, rfl, rfl, h0, r0⟩ := trodAll_cons hA
  obtain ⟨v1, vs1, d1, ds1, p1, q1, rfl, rfl, rfl, h1, r1⟩ := trodAll_cons r0
  obtain ⟨rfl, rfl, rfl⟩ := trodAll_nil r1
  obtain rfl : args = #[v0, v1] := by cases args; simp_all
  obtain ⟨rfl, rfl⟩ := trodVars_none hV
  obtain ⟨cs0, rfl, _⟩ := okWide_struct Try.underlying24 (hval 0 24 v0 rfl rfl)
  have lt0 : ∀ x ∈ p0, x.block < W.heap.size := by obtain ⟨m, hm⟩ := h0; exact DataW.trod_lt m _ _ _ hm
  have hh0 := h0
  obtain ⟨fu0, hf0⟩ := hh0
  obtain ⟨x0, g0, f0, b0⟩ := open_emap.opened hf0
  obtain ⟨a1, rfl, rfl, rfl, w1⟩ := open_int Try.underlying3 (hval 1 3 v1 rfl rfl) h1
  have m0 := f0 (reach_of hsz (j := 0) rfl rfl)
  clear hA0 hval0 hsz0 hsz
  refine (walk W cs0 x0 g0 m0 a1 w1).mono fun e W' ⟨he, bel⟩ => ?_
  subst he
  exact ⟨_, rfl, _, _, _, [], _, [], hW', trodAll_mk1 (shut_bool Try.underlying4 _), (trodAll_cons_mk (Below.trod laidOut (by kernel_rfl) (of_decide_eq_true (by kernel_rfl)) h0 bel lt0) (trodAll_cons_mk (shut_int Try.underlying3 w1) trodAll_mk0)), rfl, bel.frame _, fun h => by cases h⟩

theorem over : Rows.extentFirstRow.holds Try.pinned (OpenSpec.ofChange Rows.extentFirstSpec) :=
  OpenClaim.holds_of_wide 6 Try.f6 rfl rfl rfl rfl rfl rfl rfl ⟨rfl, rfl, rfl, rfl, rfl⟩ rfl rfl rfl rfl rfl (by kernel_rfl) Try.func6 (by kernel_rfl)
    (of_decide_eq_true (by kernel_rfl)) (by unfold Func.isWrapper; first | (rw [if_pos (by decide +kernel)]; kernel_rfl) | (rw [if_neg (by decide +kernel)]; exact ⟨rfl, rfl⟩))
    (fun os started H enc _ => lifted os started H enc)

end Go.Proofs.Ytacfcgklncckiaa.extentFirst
namespace Go.Proofs.Ytacfcgklncckiaa
/-- THE STATEMENT -/
theorem extentFirst_holds : Rows.ExtentFirstSaid := extentFirst.over
end Go.Proofs.Ytacfcgklncckiaa
