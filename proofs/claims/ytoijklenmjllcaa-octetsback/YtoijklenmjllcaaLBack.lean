/-
  PROVED: whatever number, size and octets come in, transeptlaw01.OctetsBack returns true and leaves the octets as they were: the statement of P1.4 and P1.5 (Get of Put is the number; octets turned twice are what they were, and weigh as much turned once). No condition but the form's own.
-/
import Derived.Test.YtoijklenmjllcaaFrame
import Derived.Test.YtoijklenmjllcaaWeight
import Derived.Test.YtoijklenmjllcaaGet
namespace Go.Proofs.Ytoijklenmjllcaa.octetsBack
open Go.ChangeShapes Go.WideShapes Go.ChangeAt Go.RowKit
set_option linter.unusedVariables false

/-- behind the refusals: what Put answers is no error, or an error and no octets -/
theorem put_or (n : Nat) (hn : n < 18446744073709551616) (size : Int) :
    (∀ u : World, Calls Try.prog 21 #[.int .u64 (n : Int), .int .i64 size] u fun e w' => e = .returned (.tuple #[.slice none 0 0, .int .i64 4]) ∧ Below u.heap.size u w') ∨
    ∃ s : Nat, size = (s : Int) ∧ 1 ≤ s ∧ s ≤ 8 ∧ n < 2 ^ (8 * s) ∧ ∀ u : World, Calls Try.prog 21 #[.int .u64 (n : Int), .int .i64 size] u fun e w' => ∃ v, e = .returned (.tuple #[v, .int .i64 0]) ∧ OwnB u.heap.size w' v (oc n s) ∧ Below u.heap.size u w' := by
  by_cases h : size < 1 ∨ 8 < size
  · exact .inl fun u => put_range n size u h
  · obtain ⟨s, rfl⟩ := Int.eq_ofNat_of_zero_le (show 0 ≤ size by omega)
    by_cases hs : n < 2 ^ (8 * s)
    · exact .inr ⟨s, rfl, by omega, by omega, hs, fun u => put_yes n s u (by omega) (by omega) hs hn⟩
    · exact .inl fun u => put_wide n s u (by omega) (by omega) (by omega)

set_option maxHeartbeats 1000000 in
theorem walk (w : World) (a0 : Int) (w0 : (Lit.int .u64 a0).wf = true) (a1 : Int) (w1 : (Lit.int .i64 a1).wf = true) (a2 : Option Addr) (len2 cap2 : Nat) (x2 : List UInt8) (e2 : x2.length = len2) (g2 : Rd w (.slice a2 len2 cap2) x2) (m2 : len2 ≤ 140737488351232) :
    Calls Try.prog 4 #[.int .u64 a0, .int .i64 a1, .slice a2 len2 cap2] w fun e w' => e = .returned (.bool true) ∧ Below w.heap.size w w' := by
  have hx : 0 ≤ a0 ∧ a0 ≤ 18446744073709551615 := by simpa [Lit.wf, IntKind.min, IntKind.max, IntKind.signed, IntKind.bits] using w0
  obtain ⟨n, rfl⟩ := Int.eq_ofNat_of_zero_le hx.1
  have E2 := hide e2
  have hp := put_or n (by omega) a1
  have bW : wt x2 ≤ 8 * len2 := by rw [← e2]; exact wt_le _
  clear e2 w0 w1 hx
  go_enter Try.func4, Try.ntmps4
  go_wp2_with fail
  refine (alive_any w).mono ?_
  rintro e w1 ⟨rfl, b1⟩
  go_wp2_with fail
  refine (turn_any _ _ x2 (g2.to b1) (by rw [E2.out]; omega)).mono ?_
  rintro e w2 ⟨v2, rfl, o2, b2⟩
  have c2 : Below w.heap.size w w2 := b1.trans (b2.mono b1.size)
  go_wp2_with fail
  refine (turn_any _ _ (tn x2) o2.rd (by rw [tn_length, E2.out]; omega)).mono ?_
  rintro e w3 ⟨v3, rfl, o3, b3⟩
  rw [tn_tn] at o3
  have c3 : Below w.heap.size w w3 := c2.trans (b3.mono c2.size)
  have o2' := o2.rd.to b3
  clear b1 b2 b3 o2
  go_wp2_with fail
  have hq := same_any _ _ _ x2 x2 o3.rd (g2.to c3)
  rw [sameB_self] at hq
  refine hq.mono ?_
  rintro e w4 ⟨rfl, k, hw⟩
  have c4 : Below w.heap.size w w4 := by rw [hw]; exact c3.trans (below_drewN' _ _ _)
  have o4 : Rd w4 v2 (tn x2) := by rw [hw]; exact o2'.drewN _
  clear hq hw o3 o2' c3 c2
  go_wp2_with fail
  refine (weight_any _ _ (tn x2) o4 (by rw [tn_length, E2.out]; omega)).mono ?_
  rintro e w5 ⟨rfl, rfl⟩
  rw [wt_tn]
  go_wp2_with fail
  refine (weight_any _ _ x2 (g2.to c4) (by rw [E2.out]; omega)).mono ?_
  rintro e w5 ⟨rfl, rfl⟩
  generalize wt x2 = V at *
  go_wp2_with fail
  rcases hp with hp | ⟨s, rfl, h1, h8, hn, hp⟩
  · refine (hp _).mono ?_
    rintro e w6 ⟨rfl, b6⟩
    have c6 := c4.trans (b6.mono c4.size)
    clear b6 c4 o4
    go_wp2_with (go_at_call 18; refine (num_any _ _).mono ?_; rintro e w' ⟨rfl, rfl⟩)
    go_ret
    exact ⟨rfl, c6⟩
  · refine (hp _).mono ?_
    rintro e w6 ⟨v6, rfl, o6, b6⟩
    have c6 := c4.trans (b6.mono c4.size)
    have r6 := o6.rd
    obtain ⟨ao, cp, rfl⟩ := r6.slice
    rw [oc_length] at r6 ⊢
    have HN := hide hn
    clear b6 c4 o4 o6 hn hp
    go_wp2_with (go_at_call 18; refine (num_any _ _).mono ?_; rintro e w' ⟨rfl, rfl⟩)
    have hg := get_yes _ _ (oc n s) r6 (by rw [oc_length]; exact h1) (by rw [oc_length]; exact h8)
    rw [numOf_oc n s HN.out] at hg
    refine hg.mono ?_
    rintro e w7 ⟨rfl, b7⟩
    have c7 := c6.trans (b7.mono c6.size)
    clear b7 c6 r6 hg
    go_wp2_with (go_at_call 18; refine (num_any _ _).mono ?_; rintro e w' ⟨rfl, rfl⟩)
    go_ret
    exact ⟨rfl, c7⟩

set_option maxRecDepth 100000 in
theorem lifted (os : Os) (started : os.Started) (H : Type) (enc : TypeId × Value → H) :
    ReturnsInHanded {} Try.checked os 4 .any (Rows.octetsBackSpec.pre6 enc Try.prog Try.f4 Rows.octetsBackRow.domain false) (Rows.octetsBackSpec.post enc Try.prog Try.f4 false true false false) := by
  refine returnsInHanded_of_change_sized (C := Try.checked) own started (by kernel_rfl) Try.func4
    (ChangeSpec.witness6 (enc := enc) (C := Try.checked) false ⟨#[], #[.int .u64 0, .int .i64 0, .slice none 0 0], []⟩ 8 (by kernel_rfl) (by kernel_rfl) (by kernel_rfl) (by kernel_rfl)) ?_
  intro W base args ds gs before hval0 hW hcnd hsz0 _
  have hsz : (DataW.weightsEach Try.prog (Try.f4.params.toList ++ Rows.octetsBackSpec.plain.varTypes Try.prog) (ds ++ gs)).all (· ≤ reachBytes) = true := hsz0
  have hval : ∀ (j : Nat) t v, Try.f4.params[j]? = some t → args[j]? = some v → Value.okWide Try.prog W .any base t v := hval0
  have hW' := hW
  obtain ⟨p, q, hA0, hV, rfl, hfz, hnd⟩ := hW
  have hA : DataW.TrodAll enc Try.prog W 0 (fun _ => true) true Try.f4.params.toList args.toList ds p := hA0
  rw [Try.params4] at hA hval hsz
  obtain ⟨v0, vs0, d0, ds0, p0, q0, hargs, rfl, rfl, h0, r0⟩ := trodAll_cons hA
  obtain ⟨v1, vs1, d1, ds1, p1, q1, rfl, rfl, rfl, h1, r1⟩ := trodAll_cons r0
  obtain ⟨v2, vs2, d2, ds2, p2, q2, rfl, rfl, rfl, h2, r2⟩ := trodAll_cons r1
  obtain ⟨rfl, rfl, rfl⟩ := trodAll_nil r2
  obtain rfl : args = #[v0, v1, v2] := by cases args; simp_all
  obtain ⟨rfl, rfl⟩ := trodVars_none hV
  obtain ⟨a0, rfl, rfl, rfl, w0⟩ := open_int Try.underlying40 (hval 0 40 v0 rfl rfl) h0
  obtain ⟨a1, rfl, rfl, rfl, w1⟩ := open_int Try.underlying3 (hval 1 3 v1 rfl rfl) h1
  obtain ⟨a2, len2, cap2, rfl⟩ := okWide_slice Try.underlying22 (hval 2 22 v2 rfl rfl)
  have lt2 : ∀ x ∈ p2, x.block < W.heap.size := by obtain ⟨m, hm⟩ := h2; exact DataW.trod_lt m _ _ _ hm
  obtain ⟨x2, e2, g2, s2⟩ := open_octs h2
  have m2 := reach_octs hsz (j := 2) rfl rfl s2
  clear hA0 hval0 hsz0 hsz
  refine (walk W a0 w0 a1 w1 a2 len2 cap2 x2 e2 g2 m2).mono fun e W' ⟨he, bel⟩ => ?_
  subst he
  exact ⟨_, rfl, _, _, _, [], _, [], hW', trodAll_mk1 (shut_bool Try.underlying4 _), (trodAll_cons_mk (shut_int Try.underlying40 w0) (trodAll_cons_mk (shut_int Try.underlying3 w1) (trodAll_cons_mk (Below.trod laidOut (by kernel_rfl) (of_decide_eq_true (by kernel_rfl)) h2 bel lt2) trodAll_mk0))), rfl, bel.frame _, fun h => by cases h⟩

theorem over : Rows.octetsBackRow.holds Try.pinned (OpenSpec.ofChange Rows.octetsBackSpec) :=
  OpenClaim.holds_of_wide 4 Try.f4 rfl rfl rfl rfl rfl rfl rfl ⟨rfl, rfl, rfl, rfl, rfl⟩ rfl rfl rfl rfl rfl (by kernel_rfl) Try.func4 (by kernel_rfl)
    (of_decide_eq_true (by kernel_rfl)) (by unfold Func.isWrapper; first | (rw [if_pos (by decide +kernel)]; kernel_rfl) | (rw [if_neg (by decide +kernel)]; exact ⟨rfl, rfl⟩))
    (fun os started H enc _ => lifted os started H enc)

end Go.Proofs.Ytoijklenmjllcaa.octetsBack
namespace Go.Proofs.Ytoijklenmjllcaa
/-- THE STATEMENT -/
theorem octetsBack_holds : Rows.OctetsBackSaid := octetsBack.over
end Go.Proofs.Ytoijklenmjllcaa
