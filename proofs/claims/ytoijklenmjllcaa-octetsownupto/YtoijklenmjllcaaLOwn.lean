/-
  PROVED: whatever octets and size come in (together of bulk at most 1048576: the statement's second form), transeptlaw01.OctetsOwn returns true and leaves the octets as they were: the statement of P1.7 (what is answered is its holder's: it stays as it was when what was handed in is written over).
-/
import Derived.Test.YtoijklenmjllcaaFrame
import Derived.Test.YtoijklenmjllcaaSpoil
import Derived.Test.YtoijklenmjllcaaCutBoth
import Derived.Test.YtoijklenmjllcaaRefTurn
namespace Go.Proofs.Ytoijklenmjllcaa.octetsOwn
open Go.ChangeShapes Go.WideShapes Go.ChangeAt Go.RowKit
set_option linter.unusedVariables false

set_option maxHeartbeats 1000000 in
theorem walk (w : World) (a0 : Option Addr) (len0 cap0 : Nat) (x0 : List UInt8) (e0 : x0.length = len0) (g0 : Rd w (.slice a0 len0 cap0) x0) (m0 : len0 ≤ 1048576) (a1 : Int) (w1 : (Lit.int .i64 a1).wf = true) :
    Calls Try.prog 7 #[.slice a0 len0 cap0, .int .i64 a1] w fun e w' => e = .returned (.bool true) ∧ Below w.heap.size w w' := by
  obtain ⟨er, xss, hsays, kc, kr⟩ := cut_says x0 (by rw [e0]; exact m0) a1
  have KC := hide kc
  have KR := hide kr
  have E0 := hide e0
  have hm : x0.length ≤ 1048576 := by rw [e0]; exact m0
  clear e0 w1 kc kr hsays
  go_enter Try.func7, Try.ntmps7
  go_wp2_with fail
  refine (alive_any w).mono ?_
  rintro e w1 ⟨rfl, b1⟩
  go_wp2_with fail
  refine (copy_any _ _ x0 (g0.to b1) (by omega)).mono ?_
  rintro e w2 ⟨v2, rfl, o2, b2⟩
  have c2 : Below w.heap.size w w2 := b1.trans (b2.mono b1.size)
  go_wp2_with fail
  refine (turn_any _ _ x0 o2.rd (by omega)).mono ?_
  rintro e w3 ⟨v3, rfl, o3, b3⟩
  have c3 : Below w.heap.size w w3 := c2.trans (b3.mono c2.size)
  have o2a := o2.below (Nat.le_refl _) b3
  go_wp2_with fail
  refine (KC.out _ _ o2a.rd).mono ?_
  rintro e w4 ⟨v4, rfl, o4, b4⟩
  have c4 : Below w.heap.size w w4 := c3.trans (b4.mono c3.size)
  have o2b := o2a.below (Nat.le_refl _) b4
  have o3b := o3.below (Nat.le_refl _) b4
  go_wp2_with fail
  refine (KR.out _ _ (g0.to c4)).mono ?_
  rintro e w5 ⟨v5, rfl, o5, b5⟩
  have c5 : Below w.heap.size w w5 := c4.trans (b5.mono c4.size)
  have o2c := o2b.below (Nat.le_refl _) b5
  have o3c := o3b.below (Nat.le_refl _) b5
  have o4c := ownL_below o4 (Nat.le_refl _) b5
  have hrow2 : ∀ g, v2.ownBlock = some g → w1.heap.size ≤ g ∧ g < w2.heap.size := World.ownsRow.lt o2
  go_wp2_with fail
  refine (spoil_any _ _ _ _ o2c (by omega)).mono ?_
  rintro e w6 ⟨rfl, hg6⟩
  have c6 : Below w.heap.size w w6 := c5.grown hg6 c5.size (fun g hg => Nat.le_trans b1.size (hrow2 g hg).1)
  have o3d := ownB_kept o3c hg6 (fun g hg => (hrow2 g hg).2)
  have o4d := (ownL_kept o4c hg6 (fun g hg => by have := (hrow2 g hg).2; have := b3.size; omega)).rd
  have o5d := (ownL_kept o5 hg6 (fun g hg => by have := (hrow2 g hg).2; have := b3.size; have := b4.size; omega)).rd
  have g6 := g0.to c6
  clear b1 b2 b3 b4 b5 c2 c3 c4 c5 o2 o2a o2b o2c o3 o3b o3c o4 o4c o5 hg6 hrow2
  go_wp2_with fail
  refine (num_any _ _).mono ?_
  rintro e w' ⟨rfl, rfl⟩
  go_wp2_with fail
  have hq := sameLists_any _ _ _ _ _ o4d o5d
  rw [sameLB_eq rfl] at hq
  refine hq.mono ?_
  rintro e w7 ⟨rfl, m, hw⟩
  have c7 : Below w.heap.size w w7 := by rw [hw]; exact c6.trans (below_drewN' _ _ _)
  have o7 : Rd w7 v3 (tn x0) := by rw [hw]; exact o3d.rd.drewN _
  clear hq hw o4d o5d o3d c6 g6
  go_wp2_with fail
  refine (refTurn_any _ _ x0 (g0.to c7) (by omega)).mono ?_
  rintro e w8 ⟨v8, rfl, o8, b8⟩
  have c8 : Below w.heap.size w w8 := c7.trans (b8.mono c7.size)
  have o7b := o7.to b8
  clear b8 c7 o7
  go_wp2_with fail
  have hq := same_any _ _ _ _ _ o7b o8.rd
  rw [sameB_self] at hq
  refine hq.mono ?_
  rintro e w9 ⟨rfl, m9, hw⟩
  have c9 : Below w.heap.size w w9 := by rw [hw]; exact c8.trans (below_drewN' _ _ _)
  clear hq hw o7b o8 c8
  go_wp2
  go_ret
  exact ⟨rfl, c9⟩

set_option maxRecDepth 100000 in
theorem lifted (os : Os) (started : os.Started) (H : Type) (enc : TypeId × Value → H) (F : Stop.Interp) :
    ReturnsInHanded {} Try.checked os 7 .any ((Rows.OpenSpec.upto Rows.octetsOwnSpec).pre6 enc Try.prog Try.f7 Rows.octetsOwnUptoRow.domain false) (((Rows.OpenSpec.upto Rows.octetsOwnSpec).at F).post enc Try.prog Try.f7 false true false false) := by
  refine returnsInHanded_of_cond (C := Try.checked) (s := Rows.OpenSpec.upto Rows.octetsOwnSpec) (k := Rows.uptoSmall) rfl own started (by kernel_rfl) Try.func7
    (OpenSpec.witness (enc := enc) (C := Try.checked) (s := Rows.OpenSpec.upto Rows.octetsOwnSpec) (k := Rows.uptoSmall) rfl false ⟨#[], #[.slice none 0 0, .int .i64 0], []⟩ 8 (by kernel_rfl) (by kernel_rfl) (by kernel_rfl)
      (x := ([.nil, .lit (.int .i64 0)], [], [])) (by kernel_rfl) rfl (by kernel_rfl)) ?_
  intro W base args ds gs before hval0 hW _ hk _
  have hval : ∀ (j : Nat) t v, Try.f7.params[j]? = some t → args[j]? = some v → Value.okWide Try.prog W .any base t v := hval0
  have hW' := hW
  obtain ⟨p, q, hA0, hV, rfl, hfz, hnd⟩ := hW
  have hA : DataW.TrodAll enc Try.prog W 0 (fun _ => true) true Try.f7.params.toList args.toList ds p := hA0
  rw [Try.params7] at hA hval
  obtain ⟨v0, vs0, d0, ds0, p0, q0, hargs, rfl, rfl, h0, r0⟩ := trodAll_cons hA
  obtain ⟨v1, vs1, d1, ds1, p1, q1, rfl, rfl, rfl, h1, r1⟩ := trodAll_cons r0
  obtain ⟨rfl, rfl, rfl⟩ := trodAll_nil r1
  obtain rfl : args = #[v0, v1] := by cases args; simp_all
  obtain ⟨rfl, rfl⟩ := trodVars_none hV
  obtain ⟨a0, len0, cap0, rfl⟩ := okWide_slice Try.underlying22 (hval 0 22 v0 rfl rfl)
  have lt0 : ∀ x ∈ p0, x.block < W.heap.size := by obtain ⟨m, hm⟩ := h0; exact DataW.trod_lt m _ _ _ hm
  obtain ⟨x0, e0, g0, s0⟩ := open_octs h0
  obtain ⟨a1, rfl, rfl, rfl, w1⟩ := open_int Try.underlying3 (hval 1 3 v1 rfl rfl) h1
  simp only [List.append_nil] at hk
  have m0 := small_octs hk (d := d0) (by simp) s0
  clear hA0 hval0
  refine (walk W a0 len0 cap0 x0 e0 g0 m0 a1 w1).mono fun e W' ⟨he, bel⟩ => ?_
  subst he
  exact ⟨_, rfl, _, _, _, [], _, [], hW', trodAll_mk1 (shut_bool Try.underlying4 _), (trodAll_cons_mk (Below.trod laidOut (by kernel_rfl) (of_decide_eq_true (by kernel_rfl)) h0 bel lt0) (trodAll_cons_mk (shut_int Try.underlying3 w1) trodAll_mk0)), rfl, bel.frame _, fun h => by cases h⟩

theorem over : Rows.octetsOwnUptoRow.holds Try.pinned (Rows.OpenSpec.upto Rows.octetsOwnSpec) :=
  OpenClaim.holds_of_cond 7 Try.f7 rfl rfl rfl rfl rfl rfl rfl ⟨rfl, rfl, rfl, rfl, rfl⟩ rfl rfl rfl rfl rfl (by kernel_rfl) Try.func7 (by kernel_rfl)
    (of_decide_eq_true (by kernel_rfl)) (by unfold Func.isWrapper; first | (rw [if_pos (by decide +kernel)]; kernel_rfl) | (rw [if_neg (by decide +kernel)]; exact ⟨rfl, rfl⟩))
    (fun os started H enc _ F => lifted os started H enc F)

end Go.Proofs.Ytoijklenmjllcaa.octetsOwn
namespace Go.Proofs.Ytoijklenmjllcaa
/-- THE STATEMENT -/
theorem octetsOwn_holds : Rows.OctetsOwnUptoSaid := octetsOwn.over
end Go.Proofs.Ytoijklenmjllcaa
