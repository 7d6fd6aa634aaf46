/- Several texts in one: LQGrows. -/
import Derived.Deep.Cut
import Derived.Deep.CutRange
import Derived.Test.YtnkbolgbpdjpcaaGoLQGrows1
set_option linter.unusedVariables false
set_option linter.unusedSimpArgs false
namespace Go.Proofs.Ytnkbolgbpdjpcaa.quorumGrows
open Go.ChangeShapes Go.WideShapes Go.ChangeAt Go.RowKit
theorem qcm_least {l : List Int} {c f : Int} (h : (qcm l c f).2 = 0) : c ≤ (qcm l c f).1 := by
 unfold qcm at h ⊢
 split
 ·rename_i h1
  rw [if_pos h1] at h
  split
  ·split <;> dsimp only <;> omega
  ·rename_i h2
   rw [if_neg h2] at h
   simp at h
 ·rename_i h1
  rw [if_neg h1] at h
  exact absurd h h1
theorem more_at (x m : Int) (hx : 0 ≤ x ∧ x ≤ 1099511627776) : ∃ d : Int, 0 ≤ d ∧ d < 1000 ∧ (m.tmod 1000 + 1000).tmod 1000 = d ∧ wrap64 (m.tmod 1000 + 1000) = m.tmod 1000 + 1000 ∧ wrap64 (x + d) = x + d ∧ x ≤ min (x + d) 1099511627776 ∧ min (x + d) 1099511627776 ≤ 1099511627776 := by
 obtain ⟨p, hp, h1, h2, h3⟩ := swap_at m (N := 1000) (by omega)
 have e : ((1000 : Nat) : Int) = 1000 := rfl
 rw [e] at h1 h2 h3
 refine ⟨p, by omega, by omega, h1, ?_, ?_, by omega, by omega⟩
 ·unfold wrap64; omega
 ·unfold wrap64; omega
set_option maxRecDepth 100000 in
theorem at_at (m : Int) {L : Nat} (h : 0 < L) (h2 : L ≤ 9) : ∃ p : Nat, p < L ∧ (m.tmod (L : Int) + (L : Int)).tmod (L : Int) = (p : Int) ∧ wrap64 (m.tmod (L : Int) + (L : Int)) = m.tmod (L : Int) + (L : Int) ∧ (p : Int) < (L : Int) ∧ ¬ (L : Int) = 0 := by
 obtain ⟨p, hp, h1, h2, h3⟩ := swap_at m h
 exact ⟨p, hp, h1, by unfold wrap64; omega, by omega, by omega⟩
set_option maxRecDepth 100000 in
set_option maxHeartbeats 4000000 in
theorem walk (w : World) (a0 : Option Addr) (len0 cap0 : Nat) (l : List Int) (g0 : SIntL.rd w [.slice a0 len0 cap0] l) (m0 : l.length * 8 ≤ 140737488351232 ∧ ∀ x ∈ l, (Lit.int .i64 x).wf = true) (b1 : Int) (w1' : (Lit.int .i64 b1).wf = true) (b2 : Int) (w2' : (Lit.int .i64 b2).wf = true) (b3 : Int) (w3' : (Lit.int .i64 b3).wf = true) (b4 : Int) (w4' : (Lit.int .i64 b4).wf = true) :
  Calls Try.prog 5 #[.slice a0 len0 cap0, .int .i64 b1, .int .i64 b2, .int .i64 b3, .int .i64 b4] w fun e w' => e = .returned (.bool true) ∧ Below w.heap.size w w' := by
 obtain ⟨v0, e0, R0⟩ := g0
 obtain rfl : v0 = .slice a0 len0 cap0 := by simpa using e0.symm
 obtain ⟨_, _, e⟩ := R0.slice
 simp only [Value.slice.injEq] at e
 obtain ⟨rfl, rfl, rfl⟩ := e
 have q0 := m0.1
 clear e0 m0 w1' w2' w3' w4'
 have H0 := hide R0
 have KV := hide (qalive_any w)
 have KS := hide (fun (u : World) (bu : Below w.heap.size w u) => pagreed_any u _ l (R0.to0 bu))
 have KP := hide (fun (u : World) (bu : Below w.heap.size w u) => pcommit_any u _ l b3 b4 (R0.to0 bu))
 have hqb := qag_bad (l := l)
 have hqo := qag_ok (l := l)
 obtain ⟨a, e, hae⟩ : ∃ a e, qag l = (a, e) := ⟨_, _, rfl⟩
 have HAE := hide hae
 rw [hae] at KS hqb hqo
 dsimp only at KS hqb hqo
 clear R0 hae
 go_enter Try.func5, Try.ntmps5
 go_wp2_with fail
 refine KV.out.mono ?_
 rintro e' w1 ⟨rfl, c1⟩
 have B1 := hide c1
 have KA := hide (KS.out w1 c1)
 clear c1 KV
 go_wp2_with fail
 refine KA.out.mono ?_
 rintro e' w2 ⟨rfl, c2⟩
 have B2 := hide (B1.out.trans (c2.mono B1.out.size))
 have KN := hide (fun n => qnum_any w2 n)
 clear c2 KA B1
 by_cases he : e = 0
 ·subst he
  obtain ⟨hb, hi, hag⟩ := hqo rfl
  obtain rfl := (Prod.mk.inj hag).1
  obtain ⟨hm0, hm1, hl9⟩ := qmaj_le hb
  have hreach := hide (qagr_reach hb)
  have hlp : 0 < l.length := by omega
  have HI := hide hi
  have KC := hide (copyInt_any w2 _ l (H0.out.to0 B2.out) (by omega))
  obtain ⟨p, hpL, p1, p2, p3, p4⟩ := at_at b1 (L := l.length) (by omega) hl9
  obtain ⟨x, hx⟩ := some_el l hpL
  obtain ⟨d, d0, d1, d2, d3, d4, d5, d6⟩ := more_at x b2 (hi x (List.mem_of_getElem? hx))
  have hg := hide (fun y (h1 : x ≤ y) (h2 : y ≤ 1099511627776) => qag_grows (l := l) (by rw [HAE.out]) hx h1 h2)
  have HX := hide hx
  have HD := hide (And.intro d5 d6)
  have HB := hide hb
  obtain ⟨A, hA⟩ : ∃ A, A = qagr l := ⟨_, rfl⟩
  rw [← hA] at hreach hg HAE ⊢
  replace hA := hide hA
  clear hb hi hag hx d5 d6 hqb hqo hpL
  go_wp2_with fail
  refine (KN.out _).mono ?_
  rintro e' w3 ⟨rfl, rfl⟩
  go_wp2_with fail
  refine KC.out.mono ?_
  rintro e' w3 ⟨v3, rfl, o3, c3⟩
  have B3 := hide (B2.out.trans (c3.mono B2.out.size))
  obtain ⟨ao, oc, rfl, ol, om, hgo⟩ := (show OwnI w2.heap.size w3 v3 l from o3).slice
  obtain ⟨g, rfl, _⟩ := hgo.resolve_left (fun h => by rw [h] at hlp; simp at hlp)
  have hgB : w2.heap.size ≤ g := by
   rcases o3.2 with ⟨h, _⟩ | ⟨g', cap, cur, hv, hb, _⟩
   ·cases h
   ·simp only [Value.slice.injEq, Option.some.injEq, Addr.mk.injEq, and_true] at hv
    omega
  obtain ⟨xa, xf⟩ := ownJ_at o3 HX.out
  have O3 := hide o3
  have HF : Hid (∀ y, OwnJ w2.heap.size (w3.setCell ⟨g, p, none⟩ (.int .i64 y)) (.slice (some ⟨g, 0, none⟩) l.length oc) (l.set p y) ∧ Below w.heap.size w (w3.setCell ⟨g, p, none⟩ (.int .i64 y))) := fun y => ⟨ownJ_set o3 rfl p y, B3.out.setCell (p := ⟨g, p, none⟩) (by show _ ≤ g; have := B2.out.size; omega) _⟩
  clear o3 c3 hgo KC KN
  go_upto_region 8 with fail
  go_cut [] from 45 to 58 (fun wx => ∃ y : Int, Hid (OwnJ w2.heap.size wx (.slice (some ⟨g, 0, none⟩) l.length oc) (l.set p y) ∧ Below w.heap.size w wx ∧ x ≤ y ∧ y ≤ 1099511627776))
  case first =>
   have z1 : x ≤ x + d := by omega
   have z2 := HD.out
   have z3 : x ≤ 1099511627776 := by omega
   clear HD KS KP
   go_wp2_with fail
   all_goals (go_meet; exact ⟨min (x + d) 1099511627776, hide ⟨(HF.out _).1, (HF.out _).2, z2.1, z2.2⟩⟩)
  case rest =>
  obtain ⟨y, hy⟩ := hcut
  obtain ⟨hg1, hg2⟩ := hg.out y hy.out.2.2.1 hy.out.2.2.2
  obtain ⟨bq, fq, hbq⟩ : ∃ bq fq, qag (l.set p y) = (bq, fq) := ⟨_, _, rfl⟩
  have KB := hide (pagreed_any wc _ (l.set p y) (OwnJ.rd hy.out.1))
  rw [hbq] at hg1 hg2 KB
  dsimp only at hg1 hg2 KB
  subst hg1
  have B4 := hide hy.out.2.1
  clear hbq hy hg HF HD xa xf
  go_wp2_with fail
  refine KB.out.mono ?_
  rintro e' w5 ⟨rfl, c5⟩
  have B5 := hide (B4.out.trans (c5.mono B4.out.size))
  clear c5 KB p1 p2 p3 p4 d2 d3 d4
  go_wp2
  go_loopw [17, 18] (fun c i wx => ∃ k n r : Nat, k ≤ l.length ∧ r ≤ k ∧ i = .int .i64 k ∧ c = .int .i64 r ∧ Hid (r = qreach (l.take k) A) ∧ Hid (wx = w5.drewN n)) (fun _ i _ => l.length - (intOf i).toNat)
  case atStart => exact ⟨0, 0, 0, Nat.zero_le _, Nat.le_refl _, rfl, rfl, hide rfl, hide rfl⟩
  case round =>
   obtain ⟨k, n, r, hk, hr, rfl, rfl, ht, hw⟩ := hrel
   by_cases hlt : k < l.length
   ·have hq : (k : Int) < (l.length : Int) := by omega
    obtain ⟨z, hz⟩ := some_el l hlt
    have bd := below_drewN' w5 n w5.heap.size
    rw [← hw.out] at bd
    obtain ⟨r1, o1, rfl, y1⟩ := (H0.out.to0 (B5.out.trans (bd.mono B5.out.size))).intAt hz
    have e1 := hide (qreach_next hz A)
    clear bd hz
    by_cases c1 : A ≤ z
    ·go_wp2
     go_roundw
     case rel => exact ⟨k + 1, n, r + 1, by omega, by omega, by go_num, by go_num, hide (by rw [e1.out, if_pos c1, ht.out]), hw⟩
     case measure => simp [intOf]; omega
    ·go_wp2
     go_roundw
     case rel => exact ⟨k + 1, n, r, by omega, by omega, by go_num, rfl, hide (by rw [e1.out, if_neg c1, ht.out]; rfl), hw⟩
     case measure => simp [intOf]; omega
   ·have hq : ¬ (k : Int) < (l.length : Int) := by omega
    have hrr : r = qreach l A := by
     have := ht.out
     rw [List.take_of_length_le (by omega)] at this
     exact this
    have hmaj : (l.length : Int) < 2 * (r : Int) := by
     have h1 := hreach.out
     rw [← hrr] at h1
     unfold qmaj at h1
     omega
    have hr9 : r ≤ 9 := by omega
    have B6 := hide (show Below w.heap.size w wr from by rw [hw.out]; exact B5.out.trans ((below_drewN' w5 n w5.heap.size).mono B5.out.size))
    have KC := hide (KP.out wr B6.out)
    have hle := qcm_least (l := l) (c := b3) (f := b4)
    obtain ⟨cq, gq, hcq⟩ : ∃ cq gq, qcm l b3 b4 = (cq, gq) := ⟨_, _, rfl⟩
    rw [hcq] at KC hle
    dsimp only at KC hle
    clear hcq hrr ht hw hlt
    go_wp2_with fail
    refine KC.out.mono ?_
    rintro e' w7 ⟨rfl, c7⟩
    have B7 := hide (B6.out.trans (c7.mono B6.out.size))
    have KN := hide (fun n => qnum_any w7 n)
    clear c7 KC
    by_cases hgq : gq = 0
    ·subst hgq
     have hc3 : ¬ cq < b3 := by have := hle rfl; omega
     clear hle
     go_wp2_with fail
     refine (KN.out _).mono ?_
     rintro e' w8 ⟨rfl, rfl⟩
     go_wp2_with fail
     refine (KN.out _).mono ?_
     rintro e' w8 ⟨rfl, rfl⟩
     go_wp2
     go_ret
     exact ⟨rfl, B7.out⟩
    ·have hg2' : (gq == 0) = false := by simpa using hgq
     clear hle
     go_wp2_with fail
     refine (KN.out _).mono ?_
     rintro e' w8 ⟨rfl, rfl⟩
     go_wp2_with fail
     refine (KN.out _).mono ?_
     rintro e' w8 ⟨rfl, rfl⟩
     go_wp2
     go_ret
     exact ⟨rfl, B7.out⟩
 ·have ha : a = 0 := by have := hqb he; exact (Prod.mk.inj this).1
  subst ha
  have he2 : (e != 0) = true := by simpa using he
  clear he hqb hqo
  go_wp2_with fail
  refine (KN.out _).mono ?_
  rintro e' w3 ⟨rfl, rfl⟩
  go_wp2
  go_ret
  exact ⟨rfl, B2.out⟩
set_option maxRecDepth 100000 in
theorem lifted (os : Os) (started : os.Started) (H : Type) (enc : TypeId × Value → H) :
  ReturnsInHanded {} Try.checked os 5 .any (Rows.quorumGrowsSpec.pre6 enc Try.prog Try.f5 Rows.quorumGrowsRow.domain false) (Rows.quorumGrowsSpec.post enc Try.prog Try.f5 false true false false) := by
 refine returnsInHanded_of_change_sized (C := Try.checked) own started (by kernel_rfl) Try.func5
  (ChangeSpec.witness6 (enc := enc) (C := Try.checked) false ⟨#[], #[.slice none 0 0, .int .i64 0, .int .i64 0, .int .i64 0, .int .i64 0], []⟩ 8 (by kernel_rfl) (by kernel_rfl) (by kernel_rfl) (by kernel_rfl)) ?_
 intro W base args ds gs before hval0 hW hcnd hsz0 _
 have hsz : (DataW.weightsEach Try.prog (Try.f5.params.toList ++ Rows.quorumGrowsSpec.plain.varTypes Try.prog) (ds ++ gs)).all (· ≤ reachBytes) = true := hsz0
 have hval : ∀ (j : Nat) t v, Try.f5.params[j]? = some t → args[j]? = some v → Value.okWide Try.prog W .any base t v := hval0
 have hW' := hW
 obtain ⟨p, q, hA0, hV, rfl, hfz, hnd⟩ := hW
 have hA : DataW.TrodAll enc Try.prog W 0 (fun _ => true) true Try.f5.params.toList args.toList ds p := hA0
 rw [Try.params5] at hA hval hsz
 obtain ⟨v0, vs0, d0, ds0, p0, q0, hargs, rfl, rfl, h0, r0⟩ := trodAll_cons hA
 obtain ⟨v1, vs1, d1, ds1, p1, q1, rfl, rfl, rfl, h1, r1⟩ := trodAll_cons r0
 obtain ⟨v2, vs2, d2, ds2, p2, q2, rfl, rfl, rfl, h2, r2⟩ := trodAll_cons r1
 obtain ⟨v3, vs3, d3, ds3, p3, q3, rfl, rfl, rfl, h3, r3⟩ := trodAll_cons r2
 obtain ⟨v4, vs4, d4, ds4, p4, q4, rfl, rfl, rfl, h4, r4⟩ := trodAll_cons r3
 obtain ⟨rfl, rfl, rfl⟩ := trodAll_nil r4
 obtain rfl : args = #[v0, v1, v2, v3, v4] := by cases args; simp_all
 obtain ⟨rfl, rfl⟩ := trodVars_none hV
 obtain ⟨a0, len0, cap0, rfl⟩ := okWide_slice Try.underlying22 (hval 0 22 v0 rfl rfl)
 have lt0 : ∀ x ∈ p0, x.block < W.heap.size := by obtain ⟨m, hm⟩ := h0; exact DataW.trod_lt m _ _ _ hm
 have hh0 := h0
 obtain ⟨fu0, hf0⟩ := hh0
 obtain ⟨x0, g0, f0, b0⟩ := open_int14.opened hf0
 obtain ⟨a1, rfl, rfl, rfl, w1⟩ := open_int Try.underlying3 (hval 1 3 v1 rfl rfl) h1
 obtain ⟨a2, rfl, rfl, rfl, w2⟩ := open_int Try.underlying3 (hval 2 3 v2 rfl rfl) h2
 obtain ⟨a3, rfl, rfl, rfl, w3⟩ := open_int Try.underlying3 (hval 3 3 v3 rfl rfl) h3
 obtain ⟨a4, rfl, rfl, rfl, w4⟩ := open_int Try.underlying3 (hval 4 3 v4 rfl rfl) h4
 have m0 := f0 (reach_of hsz (j := 0) rfl rfl)
 clear hA0 hval0 hsz0 hsz
 refine (walk W a0 len0 cap0 x0 g0 m0 a1 w1 a2 w2 a3 w3 a4 w4).mono fun e W' ⟨he, bel⟩ => ?_
 subst he
 exact ⟨_, rfl, _, _, _, [], _, [], hW', trodAll_mk1 (shut_bool Try.underlying4 _), (trodAll_cons_mk (Below.trod laidOut (by kernel_rfl) (of_decide_eq_true (by kernel_rfl)) h0 bel lt0) (trodAll_cons_mk (shut_int Try.underlying3 w1) (trodAll_cons_mk (shut_int Try.underlying3 w2) (trodAll_cons_mk (shut_int Try.underlying3 w3) (trodAll_cons_mk (shut_int Try.underlying3 w4) trodAll_mk0))))), rfl, bel.frame _, fun h => by cases h⟩
theorem over : Rows.quorumGrowsRow.holds Try.pinned (OpenSpec.ofChange Rows.quorumGrowsSpec) :=
 OpenClaim.holds_of_wide 5 Try.f5 rfl rfl rfl rfl rfl rfl rfl ⟨rfl, rfl, rfl, rfl, rfl⟩ rfl rfl rfl rfl rfl (by kernel_rfl) Try.func5 (by kernel_rfl)
  (of_decide_eq_true (by kernel_rfl)) (by unfold Func.isWrapper; first | (rw [if_pos (by decide +kernel)]; kernel_rfl) | (rw [if_neg (by decide +kernel)]; exact ⟨rfl, rfl⟩))
  (fun os started H enc _ => lifted os started H enc)
end Go.Proofs.Ytnkbolgbpdjpcaa.quorumGrows
namespace Go.Proofs.Ytnkbolgbpdjpcaa
theorem quorumGrows_holds : Rows.QuorumGrowsSaid := quorumGrows.over
end Go.Proofs.Ytnkbolgbpdjpcaa
