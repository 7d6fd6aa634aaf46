/-
  PROVED: whatever octets and numbers come in, transeptlaw02.CrcParts returns true and leaves both as they were: the statement of P2.3 (a text summed in any pieces has one sum). No condition beyond the form's own reach.
-/
import Derived.Test.YtakedbopjfaadaaFrI
import Derived.Test.YtakedbopjfaadaaCAlive
import Derived.Test.YtakedbopjfaadaaSub
namespace Go.Proofs.Ytakedbopjfaadaa.crcParts
open Go.ChangeShapes Go.WideShapes Go.ChangeAt Go.RowKit
set_option linter.unusedVariables false

theorem part (xs : List UInt8) {q to : Nat} (h : q ≤ to) (h2 : to ≤ xs.length) : ext (sum (xs.take q)) ((xs.take to).drop q) = sum (xs.take to) := by
  have e : xs.take to = xs.take q ++ (xs.take to).drop q := by
    have := (List.take_append_drop q (xs.take to)).symm
    rw [List.take_take, Nat.min_eq_left h] at this
    exact this
  conv => rhs; rw [e]
  exact (ext_app 0 _ _).symm

set_option maxHeartbeats 1000000 in
theorem walk (w : World) (a0 : Option Addr) (len0 cap0 : Nat) (x0 : List UInt8) (e0 : x0.length = len0) (g0 : Rd w (.slice a0 len0 cap0) x0) (m0 : len0 ≤ 140737488351232) (a1 : Option Addr) (len1 cap1 : Nat) (x1 : List Int) (e1 : x1.length = len1) (g1 : RdI w (.slice a1 len1 cap1) x1) (m1 : len1 ≤ 140737488351232) :
    Calls Try.prog 7 #[.slice a0 len0 cap0, .slice a1 len1 cap1] w fun e w' => e = .returned (.bool true) ∧ Below w.heap.size w w' := by
  have hm : x0.length ≤ 140737488351232 := by rw [e0]; exact m0
  replace e0 := hide e0
  replace e1 := hide e1
  go_enter Try.func7, Try.ntmps7
  go_wp2_with fail
  refine (alive_any w).mono ?_
  rintro e w1 ⟨rfl, b1⟩
  go_wp2_with fail
  have hq := sum_any _ _ _ (rd_nil w1) (by decide)
  refine hq.mono ?_
  clear hq
  rintro e w2 ⟨rfl, b2⟩
  have c2 := b1.trans (b2.mono b1.size)
  replace g0 := g0.to c2
  replace g1 := g1.to c2
  clear b1 b2
  go_wp2
  go_loopw [5, 6, 7] (fun c p i wr => ∃ k q : Nat, k ≤ len1 ∧ k ≤ 100 ∧ q ≤ len0 ∧ i = .int .i64 k ∧ p = .int .i64 q ∧ c = .int .u32 (sum (x0.take q) : Nat) ∧ Below w2.heap.size w2 wr) (fun _ _ i _ => 100 - (intOf i).toNat)
  case atStart => exact ⟨0, 0, Nat.zero_le _, Nat.zero_le _, Nat.zero_le _, rfl, rfl, rfl, Below.refl _ _⟩
  case round =>
    obtain ⟨k, q, hk, hk2, hql, rfl, rfl, rfl, hb⟩ := hrel
    replace g0 := g0.to hb
    replace g1 := g1.to hb
    by_cases hlt : k < len1 ∧ k < 100
    · obtain ⟨hl1, hl2⟩ := hlt
      have t1 : (k : Int) < (len1 : Int) := by omega
      have t2 : (k : Int) < 100 := by omega
      obtain ⟨a1', c1', ee, _, _, _, hwf, r1⟩ := g1
      cases ee
      rcases r1 with r1 | ⟨b1, o1, rfl, hc1⟩
      · rw [r1] at hl1; simp at hl1
      have cl := hc1 k (by rw [e1.out]; exact hl1)
      have hz : -9223372036854775808 ≤ x1.getD k 0 ∧ x1.getD k 0 ≤ 9223372036854775807 := by
        have hi : k < x1.length := by rw [e1.out]; exact hl1
        have := hwf x1[k] (List.getElem_mem hi)
        rw [show x1.getD k 0 = x1[k] from by simp [hi]]
        simpa [Lit.wf, IntKind.min, IntKind.max, IntKind.signed, IntKind.bits] using this
      generalize x1.getD k 0 = z at *
      have z1 := Int.lt_tmod_of_pos z (b := 7) (by decide)
      have z2 := Int.tmod_lt_of_pos z (b := 7) (by decide)
      have z3 := Int.emod_nonneg (z.tmod 7) (b := 7) (by decide)
      have z4 := Int.emod_lt_of_pos (z.tmod 7) (b := 7) (by decide)
      obtain ⟨to, hto⟩ : ∃ to : Nat, min ((q : Int) + z.tmod 7 % 7) (len0 : Int) = (to : Int) := ⟨(min ((q : Int) + z.tmod 7 % 7) (len0 : Int)).toNat, by omega⟩
      have y1 : q ≤ to := by omega
      have y2 : to ≤ len0 := by omega
      obtain ⟨A, hA, s1⟩ := rd_cut g0 y1 y2
      have hpart := hide (part x0 y1 (by rw [e0.out]; exact y2))
      have hel : ((x0.take to).drop q).length ≤ 1000000000000000 := by simp; omega
      have hcap : to ≤ cap0 := by obtain ⟨_, _, e, l, _⟩ := g0; cases e; have := e0.out; omega
      have hs := sum_lt (x0.take q)
      have y3 : (q : Int) ≤ (to : Int) := by omega
      have y4 : (to : Int) ≤ (cap0 : Int) := by omega
      clear hc1 hwf
      generalize (x0.take to).drop q = X at *
      generalize sum (x0.take q) = s at *
      go_wp2_with fail
      refine (ext_any _ _ _ X hs s1 hel).mono ?_
      rintro e w3 ⟨rfl, b3⟩
      rw [hpart.out]
      have HB := hide (hb.trans (b3.mono hb.size))
      clear s1 b3 hb g0
      go_wp2
      go_roundw
      case rel => exact ⟨k + 1, to, by omega, by omega, y2, by go_num, rfl, rfl, HB.out⟩
      case measure => simp [intOf]; omega
    · have hcap : len0 ≤ cap0 := by obtain ⟨_, _, e, l, _⟩ := g0; cases e; have := e0.out; omega
      obtain ⟨A, hA, s1⟩ := rd_cut g0 hql (Nat.le_refl _)
      have hpart := part x0 (q := q) (to := len0) hql (by rw [e0.out]; exact Nat.le_refl _)
      have hel : ((x0.take len0).drop q).length ≤ 1000000000000000 := by simp; omega
      rw [show x0.take len0 = x0 from List.take_of_length_le (by rw [e0.out]; exact Nat.le_refl _)] at s1 hpart hel
      have hs := sum_lt (x0.take q)
      have y3 : (q : Int) ≤ (len0 : Int) := by omega
      have y4 : (len0 : Int) ≤ (cap0 : Int) := by omega
      replace hpart := hide hpart
      generalize x0.drop q = X at *
      generalize sum (x0.take q) = s at *
      clear g1
      have c3 := c2.trans (hb.mono c2.size)
      clear hb c2
      by_cases hl1 : k < len1
      · have t1 : (k : Int) < (len1 : Int) := by omega
        have t2 : decide ((k : Int) < 100) = false := by simp; omega
        go_wp2_with fail
        refine (ext_any _ _ _ X hs s1 hel).mono ?_
        rintro e w3 ⟨rfl, b3⟩
        rw [hpart.out]
        have c4 := c3.trans (b3.mono c3.size)
        replace g0 := g0.to b3
        clear s1 b3 c3
        go_wp2_with fail
        refine (sum_any _ _ x0 g0 (by omega)).mono ?_
        rintro e w4 ⟨rfl, b4⟩
        have c5 := c4.trans (b4.mono c4.size)
        go_wp2
        go_ret
        exact ⟨rfl, c5⟩
      · have t1 : decide ((k : Int) < (len1 : Int)) = false := by simp; omega
        go_wp2_with fail
        refine (ext_any _ _ _ X hs s1 hel).mono ?_
        rintro e w3 ⟨rfl, b3⟩
        rw [hpart.out]
        have c4 := c3.trans (b3.mono c3.size)
        replace g0 := g0.to b3
        clear s1 b3 c3
        go_wp2_with fail
        refine (sum_any _ _ x0 g0 (by omega)).mono ?_
        rintro e w4 ⟨rfl, b4⟩
        have c5 := c4.trans (b4.mono c4.size)
        go_wp2
        go_ret
        exact ⟨rfl, c5⟩

set_option maxRecDepth 100000 in
theorem lifted (os : Os) (started : os.Started) (H : Type) (enc : TypeId × Value → H) :
    ReturnsInHanded {} Try.checked os 7 .any (Rows.crcPartsSpec.pre6 enc Try.prog Try.f7 Rows.crcPartsRow.domain false) (Rows.crcPartsSpec.post enc Try.prog Try.f7 false true false false) := by
  refine returnsInHanded_of_change_sized (C := Try.checked) own started (by kernel_rfl) Try.func7
    (ChangeSpec.witness6 (enc := enc) (C := Try.checked) false ⟨#[], #[.slice none 0 0, .slice none 0 0], []⟩ 8 (by kernel_rfl) (by kernel_rfl) (by kernel_rfl) (by kernel_rfl)) ?_
  intro W base args ds gs before hval0 hW hcnd hsz0 _
  have hsz : (DataW.weightsEach Try.prog (Try.f7.params.toList ++ Rows.crcPartsSpec.plain.varTypes Try.prog) (ds ++ gs)).all (· ≤ reachBytes) = true := hsz0
  have hval : ∀ (j : Nat) t v, Try.f7.params[j]? = some t → args[j]? = some v → Value.okWide Try.prog W .any base t v := hval0
  have hW' := hW
  obtain ⟨p, q, hA0, hV, rfl, hfz, hnd⟩ := hW
  have hA : DataW.TrodAll enc Try.prog W 0 (fun _ => true) true Try.f7.params.toList args.toList ds p := hA0
  rw [Try.params7] at hA hval hsz
  obtain ⟨v0, vs0, d0, ds0, p0, q0, hargs, rfl, rfl, h0, r0⟩ := trodAll_cons hA
  obtain ⟨v1, vs1, d1, ds1, p1, q1, rfl, rfl, rfl, h1, r1⟩ := trodAll_cons r0
  obtain ⟨rfl, rfl, rfl⟩ := trodAll_nil r1
  obtain rfl : args = #[v0, v1] := by cases args; simp_all
  obtain ⟨rfl, rfl⟩ := trodVars_none hV
  obtain ⟨a0, len0, cap0, rfl⟩ := okWide_slice Try.underlying22 (hval 0 22 v0 rfl rfl)
  have lt0 : ∀ x ∈ p0, x.block < W.heap.size := by obtain ⟨m, hm⟩ := h0; exact DataW.trod_lt m _ _ _ hm
  obtain ⟨x0, e0, g0, s0⟩ := open_octs h0
  obtain ⟨a1, len1, cap1, rfl⟩ := okWide_slice Try.underlying38 (hval 1 38 v1 rfl rfl)
  have lt1 : ∀ x ∈ p1, x.block < W.heap.size := by obtain ⟨m, hm⟩ := h1; exact DataW.trod_lt m _ _ _ hm
  obtain ⟨x1, e1, g1, s1⟩ := open_nums h1
  have m0 := reach_octs hsz (j := 0) rfl rfl s0
  have m1 := reach_nums hsz (j := 1) rfl rfl s1
  clear hA0 hval0 hsz0 hsz
  refine (walk W a0 len0 cap0 x0 e0 g0 m0 a1 len1 cap1 x1 e1 g1 m1).mono fun e W' ⟨he, bel⟩ => ?_
  subst he
  exact ⟨_, rfl, _, _, _, [], _, [], hW', trodAll_mk1 (shut_bool Try.underlying4 _), (trodAll_cons_mk (Below.trod laidOut (by kernel_rfl) (of_decide_eq_true (by kernel_rfl)) h0 bel lt0) (trodAll_cons_mk (Below.trod laidOut (by kernel_rfl) (of_decide_eq_true (by kernel_rfl)) h1 bel lt1) trodAll_mk0)), rfl, bel.frame _, fun h => by cases h⟩

theorem over : Rows.crcPartsRow.holds Try.pinned (OpenSpec.ofChange Rows.crcPartsSpec) :=
  OpenClaim.holds_of_wide 7 Try.f7 rfl rfl rfl rfl rfl rfl rfl ⟨rfl, rfl, rfl, rfl, rfl⟩ rfl rfl rfl rfl rfl (by kernel_rfl) Try.func7 (by kernel_rfl)
    (of_decide_eq_true (by kernel_rfl)) (by unfold Func.isWrapper; first | (rw [if_pos (by decide +kernel)]; kernel_rfl) | (rw [if_neg (by decide +kernel)]; exact ⟨rfl, rfl⟩))
    (fun os started H enc _ => lifted os started H enc)

end Go.Proofs.Ytakedbopjfaadaa.crcParts
namespace Go.Proofs.Ytakedbopjfaadaa
/-- THE STATEMENT -/
theorem crcParts_holds : Rows.CrcPartsSaid := crcParts.over
end Go.Proofs.Ytakedbopjfaadaa
