/-
  PROVED: whatever two texts come in (together at most 1048576 octets: the second form), transeptlaw02.CrcGoesOn returns true and leaves both as they were: the statement of P2.3 (the sum of two texts is the first one's, gone on with the second; and the two sums, joined).
-/
import Derived.Test.YtakedbopjfaadaaFr
import Derived.Test.YtakedbopjfaadaaCAlive
import Derived.Test.YtakedbopjfaadaaApp
namespace Go.Proofs.Ytakedbopjfaadaa.crcGoesOn
open Go.ChangeShapes Go.WideShapes Go.ChangeAt Go.RowKit
set_option linter.unusedVariables false

theorem goes (a b : List UInt8) (h : b.length ≤ 1048576) : ext (sum a) b = sum (a ++ b) ∧ jn (sum a) (sum b) (b.length : Int) = sum (a ++ b) ∧ je (b.length : Int) = 0 := by
  have ho : outJ (b.length : Int) = false := by simp [outJ]; omega
  refine ⟨(ext_app 0 a b).symm, ?_, by simp [je, ho]⟩
  rw [sum_join]
  simp [jn, ho]

set_option maxHeartbeats 1000000 in
theorem walk (w : World) (a0 : Option Addr) (len0 cap0 : Nat) (x0 : List UInt8) (e0 : x0.length = len0) (g0 : Rd w (.slice a0 len0 cap0) x0) (m0 : len0 ≤ 1048576) (a1 : Option Addr) (len1 cap1 : Nat) (x1 : List UInt8) (e1 : x1.length = len1) (g1 : Rd w (.slice a1 len1 cap1) x1) (m1 : len1 ≤ 1048576) :
    Calls Try.prog 4 #[.slice a0 len0 cap0, .slice a1 len1 cap1] w fun e w' => e = .returned (.bool true) ∧ Below w.heap.size w w' := by
  have hm0 : x0.length ≤ 1048576 := by rw [e0]; exact m0
  have hm1 : x1.length ≤ 1048576 := by rw [e1]; exact m1
  obtain ⟨p1, p2, p3⟩ := goes x0 x1 hm1
  rw [e1] at p2 p3
  have P1 := hide p1
  have P2 := hide p2
  have P3 := hide p3
  have hd : decide ((1048576 : Int) < (len1 : Int)) = false := by simp; omega
  have s0 := sum_lt x0
  have s1 := sum_lt x1
  clear e0 e1 m0 p1 p2 p3
  go_enter Try.func4, Try.ntmps4
  go_wp2_with fail
  refine (alive_any w).mono ?_
  rintro e w1 ⟨rfl, b1⟩
  replace g0 := g0.to b1
  replace g1 := g1.to b1
  go_wp2_with fail
  refine (copy_any _ _ x0 g0 (by omega)).mono ?_
  rintro e w2 ⟨v2, rfl, o2, b2⟩
  have c2 := b1.trans (b2.mono b1.size)
  have d2 := g1.to b2
  go_wp2_with (at_builtin; refine wpList_append_octs rfl _ _ rfl w1.heap.size _ _ x0 x1 rfl rfl o2 d2 (by omega) b2.size ?_; intro v3 w3 o3 b3 _)
  have c3 : Below w1.heap.size w1 w3 := b2.trans b3
  have c3w := b1.trans (c3.mono b1.size)
  replace g0 := g0.to c3
  replace g1 := g1.to c3
  have r3 := o3.rd
  clear o3 b3 o2 d2 c2 b2 c3 b1
  refine (sum_any _ _ x0 g0 (by omega)).mono ?_
  rintro e w4 ⟨rfl, b4⟩
  replace g0 := g0.to b4
  replace g1 := g1.to b4
  replace r3 := r3.to b4
  have c4 := c3w.trans (b4.mono c3w.size)
  clear b4 c3w
  go_wp2_with fail
  refine (sum_any _ _ x1 g1 (by omega)).mono ?_
  rintro e w5 ⟨rfl, b5⟩
  replace g0 := g0.to b5
  replace g1 := g1.to b5
  replace r3 := r3.to b5
  have c5 := c4.trans (b5.mono c4.size)
  clear b5 c4
  go_wp2_with fail
  refine (join_any _ (sum x0) (sum x1) (len1 : Int) s0 s1).mono ?_
  rintro e w' ⟨rfl, rfl⟩
  rw [P2.out, P3.out]
  go_wp2_with fail
  refine (sum_any _ _ (x0 ++ x1) r3 (by rw [List.length_append]; omega)).mono ?_
  rintro e w6 ⟨rfl, b6⟩
  replace g0 := g0.to b6
  replace g1 := g1.to b6
  replace r3 := r3.to b6
  have c6 := c5.trans (b6.mono c5.size)
  clear b6 c5
  go_wp2_with fail
  refine (sum_any _ _ x0 g0 (by omega)).mono ?_
  rintro e w7 ⟨rfl, b7⟩
  replace g1 := g1.to b7
  replace r3 := r3.to b7
  have c7 := c6.trans (b7.mono c6.size)
  clear b7 c6 g0
  go_wp2_with fail
  refine (ext_any _ (sum x0) _ x1 s0 g1 (by omega)).mono ?_
  rintro e w8 ⟨rfl, b8⟩
  rw [P1.out]
  replace r3 := r3.to b8
  have c8 := c7.trans (b8.mono c7.size)
  clear b8 c7 g1
  go_wp2_with fail
  refine (num_any _ _).mono ?_
  rintro e w' ⟨rfl, rfl⟩
  go_wp2_with fail
  refine (sum_any _ _ (x0 ++ x1) r3 (by rw [List.length_append]; omega)).mono ?_
  rintro e w9 ⟨rfl, b9⟩
  have c9 := c8.trans (b9.mono c8.size)
  clear b9 c8 r3
  go_wp2
  go_ret
  exact ⟨rfl, c9⟩

set_option maxRecDepth 100000 in
theorem lifted (os : Os) (started : os.Started) (H : Type) (enc : TypeId × Value → H) (F : Stop.Interp) :
    ReturnsInHanded {} Try.checked os 4 .any ((Rows.OpenSpec.upto Rows.crcGoesOnSpec).pre6 enc Try.prog Try.f4 Rows.crcGoesOnUptoRow.domain false) (((Rows.OpenSpec.upto Rows.crcGoesOnSpec).at F).post enc Try.prog Try.f4 false true false false) := by
  refine returnsInHanded_of_cond (C := Try.checked) (s := Rows.OpenSpec.upto Rows.crcGoesOnSpec) (k := Rows.uptoSmall) rfl own started (by kernel_rfl) Try.func4
    (OpenSpec.witness (enc := enc) (C := Try.checked) (s := Rows.OpenSpec.upto Rows.crcGoesOnSpec) (k := Rows.uptoSmall) rfl false ⟨#[], #[.slice none 0 0, .slice none 0 0], []⟩ 8 (by kernel_rfl) (by kernel_rfl) (by kernel_rfl)
      (x := ([.nil, .nil], [], [])) (by kernel_rfl) rfl (by kernel_rfl)) ?_
  intro W base args ds gs before hval0 hW _ hk _
  have hval : ∀ (j : Nat) t v, Try.f4.params[j]? = some t → args[j]? = some v → Value.okWide Try.prog W .any base t v := hval0
  have hW' := hW
  obtain ⟨p, q, hA0, hV, rfl, hfz, hnd⟩ := hW
  have hA : DataW.TrodAll enc Try.prog W 0 (fun _ => true) true Try.f4.params.toList args.toList ds p := hA0
  rw [Try.params4] at hA hval
  obtain ⟨v0, vs0, d0, ds0, p0, q0, hargs, rfl, rfl, h0, r0⟩ := trodAll_cons hA
  obtain ⟨v1, vs1, d1, ds1, p1, q1, rfl, rfl, rfl, h1, r1⟩ := trodAll_cons r0
  obtain ⟨rfl, rfl, rfl⟩ := trodAll_nil r1
  obtain rfl : args = #[v0, v1] := by cases args; simp_all
  obtain ⟨rfl, rfl⟩ := trodVars_none hV
  obtain ⟨a0, len0, cap0, rfl⟩ := okWide_slice Try.underlying22 (hval 0 22 v0 rfl rfl)
  have lt0 : ∀ x ∈ p0, x.block < W.heap.size := by obtain ⟨m, hm⟩ := h0; exact DataW.trod_lt m _ _ _ hm
  obtain ⟨x0, e0, g0, s0⟩ := open_octs h0
  obtain ⟨a1, len1, cap1, rfl⟩ := okWide_slice Try.underlying22 (hval 1 22 v1 rfl rfl)
  have lt1 : ∀ x ∈ p1, x.block < W.heap.size := by obtain ⟨m, hm⟩ := h1; exact DataW.trod_lt m _ _ _ hm
  obtain ⟨x1, e1, g1, s1⟩ := open_octs h1
  simp only [List.append_nil] at hk
  have m0 := small_octs hk (d := d0) (by simp) s0
  have m1 := small_octs hk (d := d1) (by simp) s1
  clear hA0 hval0
  refine (walk W a0 len0 cap0 x0 e0 g0 m0 a1 len1 cap1 x1 e1 g1 m1).mono fun e W' ⟨he, bel⟩ => ?_
  subst he
  exact ⟨_, rfl, _, _, _, [], _, [], hW', trodAll_mk1 (shut_bool Try.underlying4 _), (trodAll_cons_mk (Below.trod laidOut (by kernel_rfl) (of_decide_eq_true (by kernel_rfl)) h0 bel lt0) (trodAll_cons_mk (Below.trod laidOut (by kernel_rfl) (of_decide_eq_true (by kernel_rfl)) h1 bel lt1) trodAll_mk0)), rfl, bel.frame _, fun h => by cases h⟩

theorem over : Rows.crcGoesOnUptoRow.holds Try.pinned (Rows.OpenSpec.upto Rows.crcGoesOnSpec) :=
  OpenClaim.holds_of_cond 4 Try.f4 rfl rfl rfl rfl rfl rfl rfl ⟨rfl, rfl, rfl, rfl, rfl⟩ rfl rfl rfl rfl rfl (by kernel_rfl) Try.func4 (by kernel_rfl)
    (of_decide_eq_true (by kernel_rfl)) (by unfold Func.isWrapper; first | (rw [if_pos (by decide +kernel)]; kernel_rfl) | (rw [if_neg (by decide +kernel)]; exact ⟨rfl, rfl⟩))
    (fun os started H enc _ F => lifted os started H enc F)

end Go.Proofs.Ytakedbopjfaadaa.crcGoesOn
namespace Go.Proofs.Ytakedbopjfaadaa
/-- THE STATEMENT -/
theorem crcGoesOn_holds : Rows.CrcGoesOnUptoSaid := crcGoesOn.over
end Go.Proofs.Ytakedbopjfaadaa
