/-
  PROVED: whatever batches and number come in, transeptlaw08.WalBack returns true and leaves them as they were: the statement of P8.4 (what was flushed is recovered, all of it, in order).
-/
import Derived.Test.YtibkanmboglcgaaWIn
import Derived.Test.YtibkanmboglcgaaWLe
import Derived.Test.YtibkanmboglcgaaWProg
namespace Go.Proofs.Ytibkanmboglcgaa.walBack
open Go.ChangeShapes Go.WideShapes Go.ChangeAt Go.RowKit
set_option linter.unusedVariables false

set_option maxRecDepth 100000 in
set_option maxHeartbeats 2000000 in
theorem walk (w : World) (a0 : Option Addr) (len0 cap0 : Nat) (x0 : List (List (List UInt8))) (g0 : SBat.rd w [.slice a0 len0 cap0] x0) (m0 : x0.length * 24 ≤ 140737488351232 ∧ ∀ z ∈ x0, z.length * 24 ≤ 140737488351232 ∧ ∀ x ∈ z, x.length ≤ 140737488351232) (a1 : Int) (w1' : (Lit.int .i64 a1).wf = true) :
    Calls Try.prog 5 #[.slice a0 len0 cap0, .int .i64 a1] w fun e w' => e = .returned (.bool true) ∧ Below w.heap.size w w' := by
  obtain ⟨v, e, h0⟩ := g0
  simp only [List.cons.injEq, and_true] at e
  subst e
  obtain ⟨a, c, e⟩ := h0.slice
  simp only [Value.slice.injEq] at e
  obtain ⟨rfl, rfl, rfl⟩ := e
  have hbl : ∀ b ∈ x0, b.length ≤ 10000000000000 := fun b hb => by have := (m0.2 b hb).1; omega
  have z1 := Int.lt_tmod_of_pos a1 (b := 300) (by decide)
  have z2 := Int.tmod_lt_of_pos a1 (b := 300) (by decide)
  have z3 := Int.emod_nonneg (a1.tmod 300) (b := 300) (by decide)
  have z4 := Int.emod_lt_of_pos (a1.tmod 300) (b := 300) (by decide)
  obtain ⟨M, hM⟩ : ∃ M : Int, 1 + a1.tmod 300 % 300 = M := ⟨_, rfl⟩
  have hM1 : 1 ≤ M := by omega
  have hM2 : M ≤ 300 := by omega
  have HM := hide hM
  have H0 := hide h0
  have HBL := hide hbl
  clear h0 hbl m0 hM
  go_enter Try.func5, Try.ntmps5
  go_wp2_with fail
  refine (walive_any wal_say _).mono ?_
  rintro e w1 ⟨rfl, b1⟩
  have KL := hide (laid_any wal_say w1 _ x0 M (H0.out.to0 b1) ⟨hM1, hM2⟩ HBL.out)
  have B1 := hide b1
  clear b1
  go_wp2_with fail
  simp only [Int.add_emod_right, HM.out]
  refine KL.out.mono ?_
  rintro e w2 ⟨sv, wv, rv, gs, rfl, hLs, o1, r1, ro, b2⟩
  clear KL z1 z2 z3 z4
  have R0 := hide (ro.rd b2)
  obtain ⟨sa, sc, hsv⟩ := o1.rdS.slice
  obtain ⟨wa, wc0, hwv⟩ := r1.slice
  obtain ⟨ra, rc, hrv⟩ := R0.out.slice
  obtain ⟨G, hG⟩ : ∃ G, G = gs.length := ⟨_, rfl⟩
  obtain ⟨N, hN⟩ : ∃ N, N = flen gs := ⟨_, rfl⟩
  rw [wsegs_len, ← hG] at hsv
  simp only [List.length_nil] at hwv
  rw [show gs.flatten.length = flen gs from rfl, ← hN] at hrv
  rw [← hN]
  subst hsv hwv hrv
  obtain ⟨X, hX, X0, bX, sX⟩ := boxedN w2 #[.slice sa G sc, .int .i64 (N : Int), .slice wa 0 wc0] 28
  obtain ⟨⟨T0, T1, T2⟩, _⟩ := cells3 X0
  have KR := hide (wal_say.recoverS X _ (wsegs 0 gs) (o1.rdS.to0 bX) (hLs.short (by omega)))
  rw [wrecover_laid (by have := hLs.len; omega) hLs.sh hLs.ne (by have := hLs.fl; omega)] at KR
  dsimp only at KR
  rw [show gs.flatten.length = flen gs from rfl, ← hN] at KR
  have X0' := hide X0
  have C1 := hide (B1.out.trans ((b2.trans (bX.mono b2.size)).mono B1.out.size))
  have R1 := hide (R0.out.to0 bX)
  replace hN := hide hN
  replace hG := hide hG
  rw [hX] at T0 T1 T2
  clear o1 r1 ro b2 bX X0 R0
  go_wp2_with fail
  rw [← hX]
  replace hX := hide hX
  clear T0 T1 T2
  refine KR.out.mono ?_
  rintro e w3 ⟨sv3, wv3, rv3, rfl, ⟨q1, q2, q3⟩, b3⟩
  clear KR
  obtain ⟨pa, pc, h1⟩ := q1.slice
  obtain ⟨pb, pd, h2⟩ := q2.slice
  obtain ⟨pe, pf, h3⟩ := q3.slice
  rw [wsegs_len, ← hG.out] at h1
  simp only [List.length_nil] at h2
  rw [show gs.flatten.length = flen gs from rfl, ← hN.out] at h3
  subst h1 h2 h3
  obtain ⟨Y, hY, Y0, bY, sY⟩ := boxedN w3 #[.slice pa G pc, .int .i64 (N : Int), .slice pb 0 pd] 28
  obtain ⟨⟨Y1, Y2, Y3⟩, _⟩ := cells3 Y0
  have c3 := b3.trans (bY.mono b3.size)
  obtain ⟨⟨T0, T1, T2⟩, _⟩ := cells3 ((c3.block _ (lt_of_block X0'.out)).trans X0'.out)
  have KS := hide (dsameLists_any Y _ _ gs.flatten (q3.to0 bY) (R1.out.to0 c3))
  have C3 := hide (C1.out.trans (c3.mono C1.out.size))
  rw [hY] at Y1 Y2 Y3 T0 T1 T2
  clear q1 q2 q3 b3 bY Y0 c3
  go_wp2_with fail
  rw [← hY]
  rw [← hY] at Y1 Y2 Y3 T0 T1 T2
  replace hY := hide hY
  refine (num8_any _ _).mono ?_
  rintro e w' ⟨rfl, rfl⟩
  go_wp2_with fail
  refine KS.out.mono ?_
  rintro e w4 ⟨rfl, n4, hw4⟩
  have b4 : Below Y.heap.size Y w4 := by rw [hw4]; exact below_drewN' _ _ _
  replace Y1 := (b4.cell (cell_lt Y1)).trans Y1
  replace Y2 := (b4.cell (cell_lt Y2)).trans Y2
  replace Y3 := (b4.cell (cell_lt Y3)).trans Y3
  replace T1 := (b4.cell (cell_lt T1)).trans T1
  have C4 := hide (C3.out.trans (b4.mono C3.out.size))
  clear KS hw4 b4 T0 T2
  go_wp2
  go_ret
  exact ⟨rfl, C4.out⟩

set_option maxRecDepth 100000 in
theorem lifted (os : Os) (started : os.Started) (H : Type) (enc : TypeId × Value → H) :
    ReturnsInHanded {} Try.checked os 5 .any (Rows.walBackSpec.pre6 enc Try.prog Try.f5 Rows.walBackRow.domain false) (Rows.walBackSpec.post enc Try.prog Try.f5 false true false false) := by
  refine returnsInHanded_of_change_sized (C := Try.checked) own started (by kernel_rfl) Try.func5
    (ChangeSpec.witness6 (enc := enc) (C := Try.checked) false ⟨#[], #[.slice none 0 0, .int .i64 0], []⟩ 8 (by kernel_rfl) (by kernel_rfl) (by kernel_rfl) (by kernel_rfl)) ?_
  intro W base args ds gs before hval0 hW hcnd hsz0 _
  have hsz : (DataW.weightsEach Try.prog (Try.f5.params.toList ++ Rows.walBackSpec.plain.varTypes Try.prog) (ds ++ gs)).all (· ≤ reachBytes) = true := hsz0
  have hval : ∀ (j : Nat) t v, Try.f5.params[j]? = some t → args[j]? = some v → Value.okWide Try.prog W .any base t v := hval0
  have hW' := hW
  obtain ⟨p, q, hA0, hV, rfl, hfz, hnd⟩ := hW
  have hA : DataW.TrodAll enc Try.prog W 0 (fun _ => true) true Try.f5.params.toList args.toList ds p := hA0
  rw [Try.params5] at hA hval hsz
  obtain ⟨v0, vs0, d0, ds0, p0, q0, hargs, rfl, rfl, h0, r0⟩ := trodAll_cons hA
  obtain ⟨v1, vs1, d1, ds1, p1, q1, rfl, rfl, rfl, h1, r1⟩ := trodAll_cons r0
  obtain ⟨rfl, rfl, rfl⟩ := trodAll_nil r1
  obtain rfl : args = #[v0, v1] := by cases args; simp_all
  obtain ⟨rfl, rfl⟩ := trodVars_none hV
  obtain ⟨a0, len0, cap0, rfl⟩ := okWide_slice Try.underlying60 (hval 0 60 v0 rfl rfl)
  have lt0 : ∀ x ∈ p0, x.block < W.heap.size := by obtain ⟨m, hm⟩ := h0; exact DataW.trod_lt m _ _ _ hm
  have hh0 := h0
  obtain ⟨fu0, hf0⟩ := hh0
  obtain ⟨x0, g0, f0, b0⟩ := open_batches.opened hf0
  obtain ⟨a1, rfl, rfl, rfl, w1⟩ := open_int Try.underlying3 (hval 1 3 v1 rfl rfl) h1
  have m0 := f0 (reach_of hsz (j := 0) rfl rfl)
  clear hA0 hval0 hsz0 hsz
  refine (walk W a0 len0 cap0 x0 g0 m0 a1 w1).mono fun e W' ⟨he, bel⟩ => ?_
  subst he
  exact ⟨_, rfl, _, _, _, [], _, [], hW', trodAll_mk1 (shut_bool Try.underlying4 _), (trodAll_cons_mk (Below.trod laidOut (by kernel_rfl) (of_decide_eq_true (by kernel_rfl)) h0 bel lt0) (trodAll_cons_mk (shut_int Try.underlying3 w1) trodAll_mk0)), rfl, bel.frame _, fun h => by cases h⟩

theorem over : Rows.walBackRow.holds Try.pinned (OpenSpec.ofChange Rows.walBackSpec) :=
  OpenClaim.holds_of_wide 5 Try.f5 rfl rfl rfl rfl rfl rfl rfl ⟨rfl, rfl, rfl, rfl, rfl⟩ rfl rfl rfl rfl rfl (by kernel_rfl) Try.func5 (by kernel_rfl)
    (of_decide_eq_true (by kernel_rfl)) (by unfold Func.isWrapper; first | (rw [if_pos (by decide +kernel)]; kernel_rfl) | (rw [if_neg (by decide +kernel)]; exact ⟨rfl, rfl⟩))
    (fun os started H enc _ => lifted os started H enc)

end Go.Proofs.Ytibkanmboglcgaa.walBack
namespace Go.Proofs.Ytibkanmboglcgaa
/-- THE STATEMENT -/
theorem walBack_holds : Rows.WalBackSaid := walBack.over
end Go.Proofs.Ytibkanmboglcgaa
