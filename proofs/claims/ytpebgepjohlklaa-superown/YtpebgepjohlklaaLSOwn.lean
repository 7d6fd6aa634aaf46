/-
  PROVED: whatever block comes in, transeptlaw06.SuperOwn returns true and leaves it as it was: the statement of P6.6 (what is answered is its holder's).
-/
import Derived.Test.YtpebgepjohlklaaSAlive
import Derived.Test.YtpebgepjohlklaaSpoil
import Derived.Test.YtpebgepjohlklaaSame
namespace Go.Proofs.Ytpebgepjohlklaa.superOwn
open Go.ChangeShapes Go.WideShapes Go.ChangeAt Go.RowKit
set_option linter.unusedVariables false

theorem senc_len (b : Blk) : (senc b).1.length ≤ 64 := by
  by_cases h : bok b
  · rw [senc_ok h]; exact Nat.le_of_eq (sencO_len b)
  · rw [senc_no h]; simp
set_option maxRecDepth 100000 in
set_option maxHeartbeats 4000000 in
theorem walk (w : World) (cs0 : Array Value) (x0 : Blk) (g0 : SBlk.rd w cs0.toList x0) (m0 : bwf x0) :
    Calls Try.prog 7 #[.agg cs0] w fun e w' => e = .returned (.bool true) ∧ Below w.heap.size w w' := by
  obtain rfl := blk_form g0
  clear g0 m0
  have KE := fun u => pencode_any u x0
  have hl := senc_len x0
  obtain ⟨xs, er, hx⟩ : ∃ x er, senc x0 = (x, er) := ⟨_, _, rfl⟩
  rw [hx] at KE hl
  clear hx
  obtain ⟨n0, n1, n2, n3, n4⟩ := x0
  dsimp only at KE hl ⊢
  replace KE := hide KE
  replace hl := hide hl
  obtain ⟨X, hX, X0, bX, sX⟩ := boxedN w #[.int .i64 n0, .int .i64 n1, .int .i64 n2, .int .i64 n3, .int .i64 n4] 23
  go_enter Try.func7, Try.ntmps7
  go_wp2_with fail
  rw [← hX]
  replace hX := hide hX
  refine (salive_any X).mono ?_
  rintro e w1 ⟨rfl, b1⟩
  have c1 := bX.trans (b1.mono bX.size)
  have X1 : w1.heap[w.heap.size]? = _ := (b1.block _ (by omega)).trans X0
  obtain ⟨⟨d0, d1, d2, d3, d4⟩, _⟩ := cells5 X1
  clear X0 bX b1
  go_wp2_with fail
  refine (KE.out w1).mono ?_
  rintro e w2 ⟨v2, rfl, o2, b2⟩
  have X2 := (b2.block _ (lt_of_block X1)).trans X1
  have c2 := c1.trans (b2.mono c1.size)
  have KC := hide (copy_any w2 v2 xs o2.rd (by have := hl.out; omega))
  have q2 := hide o2.rd
  obtain ⟨a2, e2, hv2⟩ := o2.rd.slice
  subst hv2
  clear d0 d1 d2 d3 d4 X1 c1 b2 o2
  go_wp2_with fail
  refine KC.out.mono ?_
  rintro e w3 ⟨v3, rfl, o3, b3⟩
  have X3 := (b3.block _ (lt_of_block X2)).trans X2
  have c3 := c2.trans (b3.mono c2.size)
  have q3 := hide (And.intro (q2.out.to b3) o3.rd)
  obtain ⟨a3, e3, hv3⟩ := o3.rd.slice
  subst hv3
  obtain ⟨⟨d0, d1, d2, d3, d4⟩, _⟩ := cells5 X3
  clear X2 c2 b3 o3 KC q2
  go_wp2_with fail
  refine (KE.out w3).mono ?_
  rintro e w4 ⟨v4, rfl, o4, b4⟩
  have KS := hide (spoil_any w3.heap.size w4 v4 xs o4 (by have := hl.out; omega))
  have hfr := hide o4.from
  have hsz := hide b4.size
  replace b4 := hide b4
  replace c3 := hide c3
  obtain ⟨a4, e4, hv4⟩ := o4.rd.slice
  subst hv4
  clear d0 d1 d2 d3 d4 X3 o4 KE
  go_wp2_with fail
  refine KS.out.mono ?_
  rintro e w5 ⟨rfl, gr⟩
  have b5 : Below w3.heap.size w3 w5 := b4.out.grown gr hsz.out hfr.out
  have c5 := hide (c3.out.trans (b5.mono c3.out.size))
  have K6 := hide (same_any w5 _ _ xs xs (q3.out.1.to b5) (q3.out.2.to b5))
  rw [sameB_self] at K6
  clear KS gr b5 q3
  go_wp2_with fail
  refine K6.out.mono ?_
  rintro e w6 ⟨rfl, nd, rfl⟩
  go_wp2
  go_ret
  exact ⟨rfl, c5.out.trans (below_drewN' _ _ _)⟩

set_option maxRecDepth 100000 in
theorem lifted (os : Os) (started : os.Started) (H : Type) (enc : TypeId × Value → H) :
    ReturnsInHanded {} Try.checked os 7 .any (Rows.superOwnSpec.pre6 enc Try.prog Try.f7 Rows.superOwnRow.domain false) (Rows.superOwnSpec.post enc Try.prog Try.f7 false true false false) := by
  refine returnsInHanded_of_change_sized (C := Try.checked) own started (by kernel_rfl) Try.func7
    (ChangeSpec.witness6 (enc := enc) (C := Try.checked) false ⟨#[], #[.agg #[.int .i64 0, .int .i64 0, .int .i64 0, .int .i64 0, .int .i64 0]], []⟩ 8 (by kernel_rfl) (by kernel_rfl) (by kernel_rfl) (by kernel_rfl)) ?_
  intro W base args ds gs before hval0 hW hcnd hsz0 _
  have hsz : (DataW.weightsEach Try.prog (Try.f7.params.toList ++ Rows.superOwnSpec.plain.varTypes Try.prog) (ds ++ gs)).all (· ≤ reachBytes) = true := hsz0
  have hval : ∀ (j : Nat) t v, Try.f7.params[j]? = some t → args[j]? = some v → Value.okWide Try.prog W .any base t v := hval0
  have hW' := hW
  obtain ⟨p, q, hA0, hV, rfl, hfz, hnd⟩ := hW
  have hA : DataW.TrodAll enc Try.prog W 0 (fun _ => true) true Try.f7.params.toList args.toList ds p := hA0
  rw [Try.params7] at hA hval hsz
  obtain ⟨v0, vs0, d0, ds0, p0, q0, hargs, rfl, rfl, h0, r0⟩ := trodAll_cons hA
  obtain ⟨rfl, rfl, rfl⟩ := trodAll_nil r0
  obtain rfl : args = #[v0] := by cases args; simp_all
  obtain ⟨rfl, rfl⟩ := trodVars_none hV
  obtain ⟨cs0, rfl, _⟩ := okWide_struct Try.underlying23 (hval 0 23 v0 rfl rfl)
  have lt0 : ∀ x ∈ p0, x.block < W.heap.size := by obtain ⟨m, hm⟩ := h0; exact DataW.trod_lt m _ _ _ hm
  have hh0 := h0
  obtain ⟨fu0, hf0⟩ := hh0
  obtain ⟨x0, g0, f0, b0⟩ := open_blk.opened hf0
  have m0 := f0 (reach_of hsz (j := 0) rfl rfl)
  clear hA0 hval0 hsz0 hsz
  refine (walk W cs0 x0 g0 m0).mono fun e W' ⟨he, bel⟩ => ?_
  subst he
  exact ⟨_, rfl, _, _, _, [], _, [], hW', trodAll_mk1 (shut_bool Try.underlying4 _), (trodAll_cons_mk (Below.trod laidOut (by kernel_rfl) (of_decide_eq_true (by kernel_rfl)) h0 bel lt0) trodAll_mk0), rfl, bel.frame _, fun h => by cases h⟩

theorem over : Rows.superOwnRow.holds Try.pinned (OpenSpec.ofChange Rows.superOwnSpec) :=
  OpenClaim.holds_of_wide 7 Try.f7 rfl rfl rfl rfl rfl rfl rfl ⟨rfl, rfl, rfl, rfl, rfl⟩ rfl rfl rfl rfl rfl (by kernel_rfl) Try.func7 (by kernel_rfl)
    (of_decide_eq_true (by kernel_rfl)) (by unfold Func.isWrapper; first | (rw [if_pos (by decide +kernel)]; kernel_rfl) | (rw [if_neg (by decide +kernel)]; exact ⟨rfl, rfl⟩))
    (fun os started H enc _ => lifted os started H enc)

end Go.Proofs.Ytpebgepjohlklaa.superOwn
namespace Go.Proofs.Ytpebgepjohlklaa
/-- THE STATEMENT -/
theorem superOwn_holds : Rows.SuperOwnSaid := superOwn.over
end Go.Proofs.Ytpebgepjohlklaa
