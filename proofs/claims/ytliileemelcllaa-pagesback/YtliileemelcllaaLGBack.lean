/-
  PROVED: whatever numbers and octets come in, transeptlaw07.PagesBack returns true and leaves them as they were: the statement of P7.3 (what was written is read; by another number it is not).
-/
import Derived.Deep.CutRange
import Derived.Test.YtliileemelcllaaPgSay
import Derived.Test.YtliileemelcllaaPgRMath
import Derived.Test.YtliileemelcllaaDCrashP
import Derived.Test.YtliileemelcllaaSame
import Derived.Test.YtliileemelcllaaFr
import Derived.Test.YtliileemelcllaaPgProg
namespace Go.Proofs.Ytliileemelcllaa.pagesBack
open Go.ChangeShapes Go.WideShapes Go.ChangeAt Go.RowKit
set_option linter.unusedVariables false

theorem dnew8 : dnew 8 = ((z64s 8, []), 0) := dnew_yes (n := 8) (by decide) (by decide)
set_option maxRecDepth 100000 in
set_option linter.unusedSimpArgs false in
set_option maxHeartbeats 8000000 in
theorem walkS (S : PagesSay) (w : World) (a0 : Int) (w0' : (Lit.int .i64 a0).wf = true) (a1 : Int) (w1' : (Lit.int .i64 a1).wf = true) (a2 : Option Addr) (len2 cap2 : Nat) (x2 : List UInt8) (e2 : x2.length = len2) (g2 : Rd w (.slice a2 len2 cap2) x2) (m2 : len2 ≤ 140737488351232) :
    Calls Try.prog 5 #[.int .i64 a0, .int .i64 a1, .slice a2 len2 cap2] w fun e w' => e = .returned (.bool true) ∧ Below w.heap.size w w' := by
  have hid : -9223372036854775808 ≤ a0 ∧ a0 ≤ 9223372036854775807 := by simpa [Lit.wf, IntKind.min, IntKind.max, IntKind.signed, IntKind.bits] using w0'
  have hio : -9223372036854775808 ≤ a1 ∧ a1 ≤ 9223372036854775807 := by simpa [Lit.wf, IntKind.min, IntKind.max, IntKind.signed, IntKind.bits] using w1'
  clear w0' w1'
  subst e2
  have ok8 := hide (dok_new (n := 8) (by decide) (by decide))
  have hwr := hide (fun h => @pgwrite_yes (z64s 8, []) 2 a0 x2 ok8.out (by decide) (by rw [z64s_len]; decide) h (by decide))
  have hbk := hide (fun h => @pgread_back (z64s 8, []) 2 a0 x2 ok8.out (by decide) (by rw [z64s_len]; decide) h (by decide))
  have hen := hide (fun h => @pgwrite_enc (z64s 8, []) 2 a0 x2 (pgsect_0.2 ⟨ok8.out, by decide, by rw [z64s_len]; decide⟩) h)
  have hz := hide (@pgenc_zero a0 x2)
  have hrg := hide (@pgenc_yes a0 x2)
  obtain ⟨er, he⟩ : ∃ er, (pgenc a0 x2).2 = er := ⟨_, rfl⟩
  obtain ⟨td, tr, hT⟩ : ∃ td tr, pgwrite (z64s 8, []) 2 a0 x2 = (td, tr) := ⟨_, _, rfl⟩
  rw [hT] at hwr hbk hen
  rw [he] at hwr hbk hen hz
  dsimp only at hbk
  replace hT := hide hT
  have CC := hide (Below.refl w.heap.size w)
  replace g2 := hide g2
  go_enter Try.func5, Try.ntmps5
  go_wp2_with fail
  refine (pgalive_any S w).mono ?_
  rintro e w1 ⟨rfl, b⟩
  replace g2 := hide (g2.out.to b)
  replace CC := hide (CC.out.trans (b.mono CC.out.size))
  clear b
  have KN := hide (dnew_any w1 8)
  rw [dnew8] at KN
  dsimp only at KN
  go_wp2_with fail
  refine KN.out.mono ?_
  rintro e w2 ⟨ds, dc, rfl, o, b⟩
  clear KN
  replace g2 := hide (g2.out.to b)
  replace CC := hide (CC.out.trans (b.mono CC.out.size))
  clear b
  obtain ⟨P1, P2⟩ := Own.fst (c := [ds]) (d := [dc]) o rfl
  obtain ⟨da, dx, hs⟩ := P1.rdS.slice
  obtain ⟨db, dy, hc⟩ := P2.rdS.slice
  rw [z64s_len] at hs
  replace hc : dc = .slice db 0 dy := hc
  subst hs hc
  have d1 := hide P1.rdS
  have d2 := hide P2.rdS
  clear P1 P2 o
  obtain ⟨Y1, hY1, HD, bY1, _⟩ := boxedN w2 #[.slice da 8 dx, .slice db 0 dy] 43
  obtain ⟨gD, hgD⟩ : ∃ g, g = w2.heap.size := ⟨_, rfl⟩
  rw [← hgD] at HD
  replace HD := hide HD
  replace g2 := hide (g2.out.to bY1)
  replace d1 := hide (d1.out.to0 bY1)
  replace d2 := hide (d2.out.to0 bY1)
  replace CC := hide (CC.out.trans (bY1.mono CC.out.size))
  clear bY1
  have K := hide (S.writeS Y1 _ _ _ (z64s 8, []) 2 a0 x2 d1.out d2.out g2.out (by decide) hid m2)
  rw [hT.out] at K
  dsimp only at K
  obtain ⟨d_0, d_1, _, _⟩ := row2_cells HD.out
  rw [hY1] at d_0 d_1
  rw [hgD] at d_0 d_1
  go_wp2_with fail
  clear d_0 d_1
  rw [← hY1, ← hgD]
  replace hY1 := hide hY1
  replace hgD := hide hgD
  refine K.out.mono ?_
  rintro e w3 ⟨ts, tc, rfl, o, b⟩
  clear K
  replace HD := hide ((b.block _ (lt_of_block HD.out)).trans HD.out)
  replace g2 := hide (g2.out.to b)
  replace d1 := hide (d1.out.to0 b)
  replace d2 := hide (d2.out.to0 b)
  replace CC := hide (CC.out.trans (b.mono CC.out.size))
  clear b
  obtain ⟨P1, P2⟩ := Own.fst (c := [ts]) (d := [tc]) o rfl
  obtain ⟨ta, tx, hs⟩ := P1.rdS.slice
  obtain ⟨tb, ty, hc⟩ := P2.rdS.slice
  subst hs hc
  have t1 := hide P1.rdS
  have t2 := hide P2.rdS
  clear P1 P2 o
  obtain ⟨Y2, hY2, HT, bY2, _⟩ := boxedN w3 #[.slice ta td.1.length tx, .slice tb td.2.length ty] 43
  obtain ⟨gT, hgT⟩ : ∃ g, g = w3.heap.size := ⟨_, rfl⟩
  rw [← hgT] at HT
  replace HT := hide HT
  replace HD := hide ((bY2.block _ (lt_of_block HD.out)).trans HD.out)
  replace g2 := hide (g2.out.to bY2)
  replace d1 := hide (d1.out.to0 bY2)
  replace d2 := hide (d2.out.to0 bY2)
  replace t1 := hide (t1.out.to0 bY2)
  replace t2 := hide (t2.out.to0 bY2)
  replace CC := hide (CC.out.trans (bY2.mono CC.out.size))
  clear bY2
  go_upto_region 5 with fail
  rw [← hY2, ← hgT]
  replace hY2 := hide hY2
  replace hgT := hide hgT
  go_wp2_with fail
  refine (num7_any _ _).mono ?_
  rintro e w' ⟨rfl, rfl⟩
  by_cases h0 : er = 0
  ·
    have hw := hide (hwr.out h0)
    have hb := hide (hbk.out h0)
    obtain ⟨_, hlen, _⟩ := hz.out h0
    have htr : tr = 0 := by have := hw.out; rw [Prod.mk.injEq] at this; exact this.2
    subst htr
    have hR1 : Hid (pgread td 2 a0 = (x2, 0)) := by show _ = _; have := hb.out a0; rw [if_pos rfl] at this; exact this
    obtain ⟨ox, oe, hR2⟩ : ∃ ox oe, pgread td 2 a1 = (ox, oe) := ⟨_, _, rfl⟩
    have hoe : Hid (a1 ≠ a0 → oe = 21) := fun hne => by have := hb.out a1; rw [if_neg hne, hR2, Prod.mk.injEq] at this; exact this.2
    replace hR2 := hide hR2
    clear hw hb hlen
    go_wp2_with fail
    refine (num7_any _ _).mono ?_
    rintro e w' ⟨rfl, rfl⟩
    have K := hide (S.readS Y2 _ _ td 2 a0 t1.out t2.out (by decide) hid)
    rw [hR1.out] at K
    dsimp only at K
    obtain ⟨t_0, t_1, _, _⟩ := row2_cells HT.out
    go_wp2_with fail
    clear t_0 t_1
    refine K.out.mono ?_
    rintro e w4 ⟨v, rfl, o, b⟩
    clear K
    replace HD := hide ((b.block _ (lt_of_block HD.out)).trans HD.out)
    replace HT := hide ((b.block _ (lt_of_block HT.out)).trans HT.out)
    replace g2 := hide (g2.out.to b)
    replace d1 := hide (d1.out.to0 b)
    replace d2 := hide (d2.out.to0 b)
    replace t1 := hide (t1.out.to0 b)
    replace t2 := hide (t2.out.to0 b)
    replace CC := hide (CC.out.trans (b.mono CC.out.size))
    clear b
    have RA := hide o.rd
    obtain ⟨s4, t4, hv4⟩ := o.rd.slice
    subst hv4
    clear o
    have K := hide (S.readS w4 _ _ td 2 a1 t1.out t2.out (by decide) hio)
    rw [hR2.out] at K
    dsimp only at K
    obtain ⟨t_0, t_1, _, _⟩ := row2_cells HT.out
    go_wp2_with fail
    clear t_0 t_1
    refine K.out.mono ?_
    rintro e w5 ⟨v, rfl, o, b⟩
    clear K
    replace HD := hide ((b.block _ (lt_of_block HD.out)).trans HD.out)
    replace HT := hide ((b.block _ (lt_of_block HT.out)).trans HT.out)
    replace g2 := hide (g2.out.to b)
    replace d1 := hide (d1.out.to0 b)
    replace d2 := hide (d2.out.to0 b)
    replace t1 := hide (t1.out.to0 b)
    replace t2 := hide (t2.out.to0 b)
    replace RA := hide (RA.out.to b)
    replace CC := hide (CC.out.trans (b.mono CC.out.size))
    clear b
    have RB := hide o.rd
    obtain ⟨s5, t5, hv5⟩ := o.rd.slice
    subst hv5
    clear o
    go_wp2_with fail
    refine (num7_any _ _).mono ?_
    rintro e w' ⟨rfl, rfl⟩
    have KS := hide (same_any w5 _ _ x2 x2 RA.out g2.out)
    rw [sameB_self] at KS
    go_wp2_with fail
    refine KS.out.mono ?_
    rintro e w6 ⟨rfl, nd, hw⟩
    have b : Below w5.heap.size w5 w6 := by rw [hw]; exact below_drewN' _ _ _
    clear hw KS
    replace HD := hide ((b.block _ (lt_of_block HD.out)).trans HD.out)
    replace HT := hide ((b.block _ (lt_of_block HT.out)).trans HT.out)
    replace g2 := hide (g2.out.to b)
    replace d1 := hide (d1.out.to0 b)
    replace d2 := hide (d2.out.to0 b)
    replace t1 := hide (t1.out.to0 b)
    replace t2 := hide (t2.out.to0 b)
    replace RA := hide (RA.out.to b)
    replace CC := hide (CC.out.trans (b.mono CC.out.size))
    clear b
    by_cases hne : a1 = a0
    ·
      subst hne
      go_wp2
      go_ret
      exact ⟨rfl, CC.out⟩
    ·
      have hnb : (a1 == a0) = false := beq_eq_false_iff_ne.2 hne
      obtain rfl := hoe.out hne
      replace hne := hide hne
      go_wp2_with fail
      refine (num7_any _ _).mono ?_
      rintro e w' ⟨rfl, rfl⟩
      go_wp2
      go_ret
      exact ⟨rfl, CC.out⟩
  ·
    have hw := hide (hen.out h0)
    have htr : tr = er := by have := hw.out; rw [Prod.mk.injEq] at this; exact this.2
    subst htr
    have hne : (tr != 0) = true := by simpa using h0
    have hbad : (a0 < 0 ∨ 2147483647 < a0) ∨ 244 < x2.length := by
      refine Decidable.byContradiction fun hn => h0 ?_
      have h1 : ¬ (a0 < 0 ∨ 2147483647 < a0) := fun h => hn (.inl h)
      have h2 : ¬ 244 < x2.length := fun h => hn (.inr h)
      rw [← he, hrg.out h1 h2]
    replace h0 := hide h0
    clear hw
    go_wp2_with fail
    refine (num7_any _ _).mono ?_
    rintro e w' ⟨rfl, rfl⟩
    by_cases q1 : a0 < 0
    ·
      go_wp2
      go_ret
      exact ⟨rfl, CC.out⟩
    ·
      by_cases q2 : (2147483648 : Int) ≤ a0
      ·
        go_wp2
        go_ret
        exact ⟨rfl, CC.out⟩
      ·
        have q3 : (244 : Int) < (x2.length : Int) := by omega
        go_wp2
        go_ret
        exact ⟨rfl, CC.out⟩

theorem walk (w : World) (a0 : Int) (w0' : (Lit.int .i64 a0).wf = true) (a1 : Int) (w1' : (Lit.int .i64 a1).wf = true) (a2 : Option Addr) (len2 cap2 : Nat) (x2 : List UInt8) (e2 : x2.length = len2) (g2 : Rd w (.slice a2 len2 cap2) x2) (m2 : len2 ≤ 140737488351232) :
    Calls Try.prog 5 #[.int .i64 a0, .int .i64 a1, .slice a2 len2 cap2] w fun e w' => e = .returned (.bool true) ∧ Below w.heap.size w w' :=
  walkS pages_say w a0 w0' a1 w1' a2 len2 cap2 x2 e2 g2 m2

set_option maxRecDepth 100000 in
theorem lifted (os : Os) (started : os.Started) (H : Type) (enc : TypeId × Value → H) :
    ReturnsInHanded {} Try.checked os 5 .any (Rows.pagesBackSpec.pre6 enc Try.prog Try.f5 Rows.pagesBackRow.domain false) (Rows.pagesBackSpec.post enc Try.prog Try.f5 false true false false) := by
  refine returnsInHanded_of_change_sized (C := Try.checked) own started (by kernel_rfl) Try.func5
    (ChangeSpec.witness6 (enc := enc) (C := Try.checked) false ⟨#[], #[.int .i64 0, .int .i64 0, .slice none 0 0], []⟩ 8 (by kernel_rfl) (by kernel_rfl) (by kernel_rfl) (by kernel_rfl)) ?_
  intro W base args ds gs before hval0 hW hcnd hsz0 _
  have hsz : (DataW.weightsEach Try.prog (Try.f5.params.toList ++ Rows.pagesBackSpec.plain.varTypes Try.prog) (ds ++ gs)).all (· ≤ reachBytes) = true := hsz0
  have hval : ∀ (j : Nat) t v, Try.f5.params[j]? = some t → args[j]? = some v → Value.okWide Try.prog W .any base t v := hval0
  have hW' := hW
  obtain ⟨p, q, hA0, hV, rfl, hfz, hnd⟩ := hW
  have hA : DataW.TrodAll enc Try.prog W 0 (fun _ => true) true Try.f5.params.toList args.toList ds p := hA0
  rw [Try.params5] at hA hval hsz
  obtain ⟨v0, vs0, d0, ds0, p0, q0, hargs, rfl, rfl, h0, r0⟩ := trodAll_cons hA
  obtain ⟨v1, vs1, d1, ds1, p1, q1, rfl, rfl, rfl, h1, r1⟩ := trodAll_cons r0
  obtain ⟨v2, vs2, d2, ds2, p2, q2, rfl, rfl, rfl, h2, r2⟩ := trodAll_cons r1
  obtain ⟨rfl, rfl, rfl⟩ := trodAll_nil r2
  obtain rfl : args = #[v0, v1, v2] := by cases args; simp_all
  obtain ⟨rfl, rfl⟩ := trodVars_none hV
  obtain ⟨a0, rfl, rfl, rfl, w0⟩ := open_int Try.underlying3 (hval 0 3 v0 rfl rfl) h0
  obtain ⟨a1, rfl, rfl, rfl, w1⟩ := open_int Try.underlying3 (hval 1 3 v1 rfl rfl) h1
  obtain ⟨a2, len2, cap2, rfl⟩ := okWide_slice Try.underlying22 (hval 2 22 v2 rfl rfl)
  have lt2 : ∀ x ∈ p2, x.block < W.heap.size := by obtain ⟨m, hm⟩ := h2; exact DataW.trod_lt m _ _ _ hm
  obtain ⟨x2, e2, g2, s2⟩ := open_octs h2
  have m2 := reach_octs hsz (j := 2) rfl rfl s2
  clear hA0 hval0 hsz0 hsz
  refine (walk W a0 w0 a1 w1 a2 len2 cap2 x2 e2 g2 m2).mono fun e W' ⟨he, bel⟩ => ?_
  subst he
  exact ⟨_, rfl, _, _, _, [], _, [], hW', trodAll_mk1 (shut_bool Try.underlying4 _), (trodAll_cons_mk (shut_int Try.underlying3 w0) (trodAll_cons_mk (shut_int Try.underlying3 w1) (trodAll_cons_mk (Below.trod laidOut (by kernel_rfl) (of_decide_eq_true (by kernel_rfl)) h2 bel lt2) trodAll_mk0))), rfl, bel.frame _, fun h => by cases h⟩

theorem over : Rows.pagesBackRow.holds Try.pinned (OpenSpec.ofChange Rows.pagesBackSpec) :=
  OpenClaim.holds_of_wide 5 Try.f5 rfl rfl rfl rfl rfl rfl rfl ⟨rfl, rfl, rfl, rfl, rfl⟩ rfl rfl rfl rfl rfl (by kernel_rfl) Try.func5 (by kernel_rfl)
    (of_decide_eq_true (by kernel_rfl)) (by unfold Func.isWrapper; first | (rw [if_pos (by decide +kernel)]; kernel_rfl) | (rw [if_neg (by decide +kernel)]; exact ⟨rfl, rfl⟩))
    (fun os started H enc _ => lifted os started H enc)

end Go.Proofs.Ytliileemelcllaa.pagesBack
namespace Go.Proofs.Ytliileemelcllaa
/-- THE STATEMENT -/
theorem pagesBack_holds : Rows.PagesBackSaid := pagesBack.over
end Go.Proofs.Ytliileemelcllaa
