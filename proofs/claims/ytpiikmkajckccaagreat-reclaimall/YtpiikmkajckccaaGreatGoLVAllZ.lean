/- Several texts in one: VPE LVAll. -/
import Derived.Deep.QuietTactic
import Derived.BigQuiet
import Derived.Laws.Cover1
import Derived.Test.YtpiikmkajckccaaGreatShelf
import Derived.Test.YtpiikmkajckccaaGreatGoLVAll4
import Derived.Test.YtpiikmkajckccaaGreatGoLVAll6
set_option linter.unusedVariables false
set_option linter.unusedSimpArgs false
namespace Go.Proofs.YtpiikmkajckccaaGreat
open Go.RowKit Go.Maps Go.Sort Go.Shelf
theorem mapI_perm {w : World} {bm n : Nat} {m : Int → Option Value} {R : List Int} (h : MapI w bm n m) (hm : ∀ i, (m i).isSome = decide (i ∈ R)) (hn : R.Nodup) (hw : ∀ x ∈ R, (Lit.int .i64 x).wf = true) :
  ∃ D : DataW Value, w.ownsMap Tryz.prog 3 rdH bm n D ∧ R.Perm (intKeys D) ∧ Maps.size D = R.length := by
 obtain ⟨D, hown, hD⟩ := h
 obtain ⟨es, e1, hpw, _⟩ := hown.entries keyI
 obtain ⟨es', e2, hko⟩ := hown.keysOf
 obtain rfl : es = es' := by rw [e1] at e2; simpa using e2
 subst e1
 have hk : ∀ p ∈ es, ∃ x, p.1 = .int .i64 x ∧ (Lit.int .i64 x).wf = true := fun p hp => by
  obtain ⟨v, hv⟩ := hko p hp
  obtain ⟨x, _, hx, hl⟩ := Maps.keyOf_i64 Tryz.underlying3 hv
  exact ⟨x, hx, hl⟩
 have hp : R.Perm (intKeys (.map es)) := perm_intKeys hpw (fun p hp => by obtain ⟨x, h, _⟩ := hk p hp; exact ⟨x, h⟩) hn fun x => by
  by_cases hx : (Lit.int .i64 x).wf = true
  ·rw [(hD x hx).1, hm x]; simp
  ·constructor
   ·intro h; exact absurd (hw x h) hx
   ·intro h
    rw [has_eq, List.any_eq_true] at h
    obtain ⟨p, hp, hs⟩ := h
    obtain ⟨a, ha, hl⟩ := hk p hp
    rw [ha] at hs
    have : a = x := by simpa [Lit.sameKey] using hs
    rw [this] at hl
    exact absurd hl hx
 refine ⟨_, hown, hp, ?_⟩
 have := hp.length_eq
 simpa [intKeys, Maps.size] using this.symm
theorem vsorts (m : Nat) : AnyZI.SortsIn Tryz.prog Tryz.sortedA_ren Fence.wide m :=
 ⟨fun blk off cap ss W hH hblk hsz => callsIn_wide.2 (AnyM.slices_Sort_int Tryz.sortA blk off cap ss W hH hblk hsz),
  fun p cap W => callsIn_wide.2 (AnyM.slices_Sort_int_none Tryz.sortA p cap W)⟩
theorem vkeys_any (w : World) (bm : Nat) : Calls Tryz.prog 25 #[.map (some bm)] w fun e w' =>
  e = .returned (.func (.func 53) #[] #[.pointer (some ⟨w.heap.size, 0, none⟩)]) ∧ w' = w.alloc (.cells #[.map (some bm)] 66) :=
 (callsIn_wide (n := 5)).1 (AnyZI.keys_in Tryz.keysA Fence.wide 5 trivial rfl (some bm) w)
theorem vsorted_any (w : World) (bm n : Nat) (D : DataW Value) (hown : w.ownsMap Tryz.prog 3 rdH bm n D) (hmax : Maps.size D ≤ 65536) {sz : Nat} (hsz : w.heap.size = sz) :
  Calls Tryz.prog 24 #[.func (.func 53) #[] #[.pointer (some ⟨sz, 0, none⟩)]] (w.alloc (.cells #[.map (some bm)] 66)) fun e w' =>
  ∃ (v : Value) (ss A : List Int), e = .returned v ∧ ss.Perm (intKeys D) ∧ A = ss.mergeSort (fun x y => decide (x ≤ y)) ∧ OwnJ w.heap.size w' v A ∧ Below w.heap.size w w' := by
 subst hsz
 have hbl := hown.lt
 have hseq : SeqGives Fence.wide 2 Tryz.prog 53 #[.pointer (some ⟨w.heap.size, 0, none⟩)] encZ (fun ss => ss.Perm (intKeys D)) (Maps.size D) (w.alloc (.cells #[.map (some bm)] 66)) :=
  AnyZI.keys_gives (ρ := Tryz.keysA_ren) { Tryz.keysA with } Fence.wide _ trivial rfl (by omega) w.heap.size bm n D _ (by simp) (by simp) (by
   obtain ⟨es, clock, hb, Ft, hs, hD⟩ := hown
   exact ⟨es, clock, (Below.heap_alloc _ _ bm hbl).trans hb, Ft, hs, hD⟩)
 have cS := AnyZI.sorted_in Tryz.sortedA Fence.wide 5 trivial trivial trivial trivial rfl (by omega) (vsorts _) (enters_of Tryz.func52 (by kernel_rfl) rfl) 53 #[.pointer (some ⟨w.heap.size, 0, none⟩)] trivial (enters_of Tryz.func53 (by kernel_rfl) rfl) _ _ (by rw [maxLen]; omega) (by omega) _ hseq
 change CallsIn _ _ Tryz.prog 24 _ _ _ at cS
 refine ((callsIn_wide (n := 5)).1 cS).mono ?_
 rintro e w' ⟨v, ss, rfl, hS, hrow, hnil, hb⟩
 have hrow' := ownsRow_base_a hrow (show w.heap.size ≤ _ by simp)
 refine ⟨v, ss, _, rfl, hS, rfl, ?_, ((Below.refl _ w).alloc (Nat.le_refl _) _).trans (hb.mono (by simp))⟩
 show World.ownsRow _ _ _ _ _ _ _
 rw [List.length_mergeSort]
 exact hrow'
def LiR (w w' : World) (t : Tr) (rs : List Int) (e : Ending) : Prop :=
 (lvE t rs = 0 ∧ ∃ a v, e = .returned (.tuple #[v, .int .i64 0]) ∧ OwnJ w.heap.size w' v a ∧ LvR t rs a ∧ Below w.heap.size w w') ∨
 (lvE t rs ≠ 0 ∧ e = .returned (.tuple #[.slice none 0 0, .int .i64 (lvE t rs)]) ∧ Below w.heap.size w w')
theorem sort_live {t : Tr} {rs R ss : List Int} (hR : R.Nodup) (hp : ss.Perm R) (hi : ∀ x, x ∈ R ↔ Lv t rs x) : LvR t rs (ss.mergeSort (fun x y => decide (x ≤ y))) := by
 have hq : (ss.mergeSort (fun x y => decide (x ≤ y))).Perm R := (List.mergeSort_perm ss _).trans hp
 refine ⟨?_, fun x => by rw [hq.mem_iff, hi x]⟩
 have h1 : (ss.mergeSort (fun x y => decide (x ≤ y))).Pairwise (fun a b => decide (a ≤ b) = true) := List.pairwise_mergeSort (fun a b c h1 h2 => by simp only [decide_eq_true_eq] at *; omega) (fun a b => by simp only [Bool.or_eq_true, decide_eq_true_eq]; omega) ss
 have h2 : (ss.mergeSort (fun x y => decide (x ≤ y))).Nodup := hq.nodup_iff.2 hR
 have h3 := List.Pairwise.and h1 h2
 exact h3.imp fun {a b} h => by
  have := h.1
  simp only [decide_eq_true_eq] at this
  have := h.2
  omega
set_option maxRecDepth 100000 in
set_option maxHeartbeats 4000000 in
theorem vlive_any (w : World) (t : Tr) (pv rv : Value) (rs : List Int) (h : RdC w pv t.pages) (hx : ∀ x ∈ t.pages, x.2.length ≤ 140737488351232) (hroot : (Lit.int .i64 t.root).wf = true) (hr : RdI w rv rs) (hrw : ∀ r ∈ rs, (Lit.int .i64 r).wf = true) (hrl : rs.length ≤ 9223372036854775807) :
  Calls Tryz.prog 8 #[tv t pv, rv] w fun e w' => LiR w w' t rs e := by
 obtain ⟨W, hW, D, bW, sW⟩ := boxedN w #[.int .i64 t.root, .int .i64 t.next, pv] 28
 have KC := hide (vsearch_any W t pv rv rs (h.to0 bW) hx hroot (hr.to0 bW) hrw hrl)
 obtain ⟨a, c, rfl⟩ := h.slice
 obtain ⟨ra, rc, rfl⟩ := hr.slice
 have HB := hide bW
 obtain ⟨⟨E0, E1, E2⟩, EF⟩ := cells3p D
 obtain ⟨RL, hRL⟩ : ∃ L, L = rs.length := ⟨_, rfl⟩
 rw [← hRL] at KC hrl ⊢
 replace hRL := hide hRL
 dsimp only [tv] at KC ⊢
 rw [hW] at E0 E1 E2 EF KC
 replace hroot := hide hroot
 replace hrw := hide hrw
 replace hx := hide hx
 clear h hr bW D sW
 go_enter Tryz.func8, Tryz.ntmps8
 go_wp2_with fail
 refine KC.out.mono ?_
 rintro e w1 h1
 rw [← hW] at h1
 clear KC E0 E1 E2 EF
 rcases h1 with ⟨h1, bm, R, rfl, v1, i1⟩ | ⟨h1, rfl, b1⟩
 ·have B1 := HB.out.trans (v1.bel.mono HB.out.size)
  obtain ⟨Y, hY, DY, bY, sY⟩ := boxedN w1 #[.slice a t.pages.length c, .map (some bm)] 68
  have vY := v1.to bY
  obtain ⟨m, m1, m2, m3⟩ := vY.map
  obtain ⟨⟨ps0, hps0⟩, _⟩ := (lvE_ok h1).1
  obtain ⟨d0, _, hN, _⟩ := tprs_top hps0
  have hw9 : ∀ x ∈ R, (Lit.int .i64 x).wf = true := fun x hx => by
   have := vY.pg x hx
   cases hp : tpage t.pages x with
   | none => exact absurd hp this
   | some z => exact (tpage_id hN.2.2.1 hN.2.1 hp).2
  obtain ⟨DD, o1, p1, s1⟩ := mapI_perm m1 m2 vY.nod hw9
  have hle : Maps.size DD ≤ 65536 := by
   rw [s1]
   have h5 := vY.len
   have h6 := tups_len hN.2.2.1 hN.1
   have := hN.2.1
   omega
  have KK := hide (vkeys_any Y bm)
  have KS := hide (vsorted_any Y bm R.length DD o1 hle sY)
  have BY := hide (B1.trans (bY.mono B1.size))
  have sY' := hide sY
  obtain ⟨⟨F0, F1⟩, FF⟩ := cells2r DY
  have hF : Hid (∀ ss : List Int, ss.Perm (intKeys DD) → LvR t rs (ss.mergeSort (fun x y => decide (x ≤ y)))) := fun ss hs => sort_live vY.nod (hs.trans p1.symm) i1
  replace h1 := hide h1
  rw [hY] at F0 F1 FF KK KS
  dsimp only [sev]
  clear v1 vY m1 m2 m3 o1 p1 s1 hle hw9 DY bY sY i1 B1 hN hps0
  go_wp2_with fail
  refine KK.out.mono ?_
  rintro e w2 ⟨rfl, rfl⟩
  go_wp2_with fail
  refine KS.out.mono ?_
  rintro e w3 ⟨v, ss, A, rfl, p3, hA, o3, b3⟩
  have hL := hide (hF.out ss p3)
  rw [← hA] at hL
  clear hA
  rw [← hY] at o3 b3
  have O3 := hide (rows_mono o3 BY.out.size)
  have B3 := hide (BY.out.trans (b3.mono BY.out.size))
  obtain ⟨va, vc, rfl⟩ := (OwnJ.rd o3).slice
  clear o3 b3 p3 KK KS F0 F1 FF
  go_wp2
  go_ret2
  exact .inl ⟨h1.out, _, _, rfl, O3.out, hL.out, B3.out⟩
 ·obtain ⟨Y, hY, DY, bY, sY⟩ := boxedN w1 #[.slice none 0 0, .map none] 68
  have B1 := HB.out.trans (b1.mono HB.out.size)
  have BY := hide (B1.trans (bY.mono B1.size))
  obtain ⟨er, her⟩ : ∃ er, er = lvE t rs := ⟨_, rfl⟩
  rw [← her] at h1 ⊢
  replace her := hide her
  rw [hY] at BY
  clear DY bY sY B1 b1 hY
  go_wp2
  go_ret2
  exact .inr ⟨by rw [← her.out]; exact h1, by rw [← her.out]; rfl, BY.out⟩
end Go.Proofs.YtpiikmkajckccaaGreat

namespace Go.Proofs.YtpiikmkajckccaaGreat.reclaimAll
open Go.ChangeShapes Go.WideShapes Go.ChangeAt Go.RowKit
set_option maxRecDepth 100000 in
set_option maxHeartbeats 16000000 in
theorem walk (w : World) (a0 : Option Addr) (len0 cap0 : Nat) (ls : List Sp3) (g0 : SSteps10.rd w [.slice a0 len0 cap0] ls) (m0 : ls.length * 40 ≤ 140737488351232 ∧ ∀ x ∈ ls, sp3fit x) :
  Calls Tryz.prog 4 #[.slice a0 len0 cap0] w fun e w' => e = .returned (.bool true) ∧ Below w.heap.size w w' := by
 obtain ⟨v0, e0, R0⟩ := g0
 obtain rfl : v0 = .slice a0 len0 cap0 := by simpa using e0.symm
 have HF := hide m0.2
 have HR := hide R0
 clear e0 m0 R0
 have KA := hide (palive11_any w)
 go_enter Tryz.func4, Tryz.ntmps4
 go_wp2_with fail
 refine KA.out.mono ?_
 rintro e w1 ⟨rfl, b1⟩
 clear KA
 have KB := hide (pbuild_any w1 _ ls (HR.out.to0 b1) HF.out)
 have B1 := hide b1
 clear b1
 go_wp2_with fail
 refine KB.out.mono ?_
 rintro e w2 ⟨t, pv, want, wv, rfl, bu, b2⟩
 obtain ⟨pa, pc, hpv⟩ := bu.own.shape
 obtain ⟨pn, hpn⟩ : ∃ n, n = t.pages.length := ⟨_, rfl⟩
 rw [← hpn] at hpv
 subst hpv
 replace hpn := hide hpn
 obtain ⟨wa, wc, hwv⟩ := (OwnP.rd bu.wnt).slice
 obtain ⟨wn, hwn⟩ : ∃ n, n = want.length := ⟨_, rfl⟩
 rw [← hwn] at hwv
 subst hwv
 replace hwn := hide hwn
 obtain ⟨root, hrn⟩ : ∃ z, z = t.root := ⟨_, rfl⟩
 obtain ⟨next, hnn⟩ : ∃ z, z = t.next := ⟨_, rfl⟩
 dsimp only [tv]
 rw [← hrn, ← hnn]
 obtain ⟨W, hW, DW, bW, sW⟩ := boxedN w2 #[.int .i64 root, .int .i64 next, .slice pa pn pc] 28
 have BU := hide (bu.to bW)
 have B2 := hide (B1.out.trans ((b2.trans (bW.mono b2.size)).mono B1.out.size))
 obtain ⟨⟨A0, A1, A2⟩, AF⟩ := cells3p DW
 have hpr := hide bu.prs
 replace hrn := hide hrn
 replace hnn := hide hnn
 have KS := vsweep_any W t (.slice pa pn pc) (.slice none 0 0) [] BU.out.own.rd BU.out.big BU.out.rwf (rdI_nil W) (fun r hr => by cases hr) (by decide)
 dsimp only [tv] at KS
 rw [← hrn.out, ← hnn.out] at KS
 replace KS := hide KS
 rw [hW] at A0 A1 A2 AF KS
 clear KB bu b2 DW bW sW
 go_wp2_with fail
 refine KS.out.mono ?_
 rintro e w3 h3
 rw [← hW] at h3
 clear KS A0 A1 A2 AF
 replace hW := hide hW
 rcases h3 with ⟨_, A, pv3, hA, rfl, o3, b3⟩ | ⟨h6, _⟩
 rotate_left
 ·exact absurd (sw_ok hpr.out) h6
 have hAL := sw_len hpr.out hA
 obtain ⟨sa, sc, hp3⟩ := o3.shape
 rw [hAL] at hp3
 obtain ⟨KL, hKL⟩ : ∃ n, n = A.length := ⟨_, rfl⟩
 rw [← hKL] at hp3
 subst hp3
 obtain ⟨N9, hN9⟩ : ∃ n : Int, n = (t.pages.length : Int) - ((keepP A t.pages).length : Int) := ⟨_, rfl⟩
 rw [← hN9]
 clear hN9
 dsimp only [tv]
 rw [← hrn.out, ← hnn.out]
 obtain ⟨V, hV, DV, bV, sV⟩ := boxedN w3 #[.int .i64 root, .int .i64 next, .slice sa KL sc] 28
 have bWV := b3.trans (bV.mono b3.size)
 have O3 := hide (o3.to9 bV)
 have W3 := hide (BU.out.to bWV).wnt
 have B3 := hide (B2.out.trans (bWV.mono B2.out.size))
 have hpS := hide (sw_prs hA hpr.out)
 have hbg := hide (sw_big (a := A) BU.out.big)
 have KL1 := vlive_any V (swT t A) (.slice sa KL sc) (.slice none 0 0) [] O3.out.rd hbg.out BU.out.rwf (rdI_nil V) (fun r hr => by cases hr) (by decide)
 dsimp only [tv] at KL1
 rw [← hrn.out, ← hnn.out] at KL1
 replace KL1 := hide KL1
 have HV := hide DV
 obtain ⟨⟨A0, A1, A2⟩, AF⟩ := cells3p DV
 rw [hV] at A0 A1 A2 AF KL1
 replace hA := hide hA
 replace hKL := hide hKL
 clear o3 b3 DV bV sV bWV hAL
 go_wp2_with fail
 refine KL1.out.mono ?_
 rintro e w4 h4
 rw [← hV] at h4
 clear KL1 A0 A1 A2 AF
 replace hV := hide hV
 rcases h4 with ⟨_, A', v4, rfl, o4, hA', b4⟩ | ⟨h6, _⟩
 rotate_left
 ·exact absurd (sw_ok hpS.out) h6
 obtain rfl := sw_live hpr.out hA.out hA'
 obtain ⟨la, lc, hl4⟩ := (OwnJ.rd o4).slice
 rw [← hKL.out] at hl4
 subst hl4
 have KS1 := pscan10_any w4 (swT t A') (.slice sa KL sc) [] [] (O3.out.to9 b4).rd BU.out.rwf
 rw [tscan_is11 hpS.out] at KS1
 dsimp only [tv] at KS1
 rw [← hrn.out, ← hnn.out] at KS1
 replace KS1 := hide KS1
 have D4 := (b4.block _ (lt_of_block HV.out)).trans HV.out
 obtain ⟨⟨A0, A1, A2⟩, AF⟩ := cells3p D4
 have W4 := hide (rows_to W3.out b4)
 have B4 := hide (B3.out.trans (b4.mono B3.out.size))
 have HD4 := hide D4
 clear o4 hA' b4 D4
 go_wp2_with fail
 refine KS1.out.mono ?_
 rintro e w5 ⟨v5, rfl, o5, b5⟩
 clear KS1 A0 A1 A2 AF
 have KN := hide (fun w => pnum11_any w 0)
 have KE := hide (samep_any w5 _ _ _ _ (OwnP.rd o5) (OwnP.rd (rows_to W4.out b5)))
 rw [decide_eq_true rfl] at KE
 obtain ⟨va5, vc5, hv5⟩ := (OwnP.rd o5).slice
 rw [← hwn.out] at hv5
 subst hv5
 have D5 := hide ((b5.block _ (lt_of_block HD4.out)).trans HD4.out)
 obtain ⟨⟨A0, A1, A2⟩, AF⟩ := cells3p D5.out
 have B5 := hide (B4.out.trans (b5.mono B4.out.size))
 have hz : Hid (wn = 0 → KL = 0) := fun h => by
  have hw : want = [] := List.eq_nil_of_length_eq_zero (hwn.out.symm.trans h)
  have h1 := hpr.out
  rw [hw] at h1
  rw [hKL.out, sw_nil h1 hA.out]
  rfl
 clear o5 b5
 go_wp2_with fail
 refine (KN.out _).mono ?_
 rintro e w6 ⟨rfl, rfl⟩
 go_wp2_with fail
 refine (KN.out _).mono ?_
 rintro e w6 ⟨rfl, rfl⟩
 go_wp2_with fail
 refine (KN.out _).mono ?_
 rintro e w6 ⟨rfl, rfl⟩
 go_wp2_with fail
 refine KE.out.mono ?_
 rintro e w6 ⟨rfl, b6⟩
 have B6 := hide (B5.out.trans (b6.mono B5.out.size))
 clear A0 A1 A2 AF KE
 obtain ⟨⟨A0, A1, A2⟩, AF⟩ := cells3p ((b6.block _ (lt_of_block D5.out)).trans D5.out)
 clear b6
 by_cases hw0 : wn = 0
 ·have hk0 := hz.out hw0
  subst hw0
  subst hk0
  go_wp2
  go_ret
  exact ⟨rfl, B6.out⟩
 ·have hq : (0 : Int) < (wn : Int) := by omega
  go_wp2
  go_ret
  exact ⟨rfl, B6.out⟩
set_option maxRecDepth 100000 in
theorem lifted (os : Os) (started : os.Started) (H : Type) (enc : TypeId × Value → H) :
  ReturnsInHanded {} Tryz.checked os 4 .any (Rows.reclaimAllSpec.pre6 enc Tryz.prog Tryz.f4 Rows.reclaimAllRow.domain false) (Rows.reclaimAllSpec.post enc Tryz.prog Tryz.f4 false true false false) := by
 refine returnsInHanded_of_change_sized (C := Tryz.checked) own started (by kernel_rfl) Tryz.func4
  (ChangeSpec.witness6 (enc := enc) (C := Tryz.checked) false ⟨#[], #[.slice none 0 0], []⟩ 8 (by kernel_rfl) (by kernel_rfl) (by kernel_rfl) (by kernel_rfl)) ?_
 intro W base args ds gs before hval0 hW hcnd hsz0 _
 have hsz : (DataW.weightsEach Tryz.prog (Tryz.f4.params.toList ++ Rows.reclaimAllSpec.plain.varTypes Tryz.prog) (ds ++ gs)).all (· ≤ reachBytes) = true := hsz0
 have hval : ∀ (j : Nat) t v, Tryz.f4.params[j]? = some t → args[j]? = some v → Value.okWide Tryz.prog W .any base t v := hval0
 have hW' := hW
 obtain ⟨p, q, hA0, hV, rfl, hfz, hnd⟩ := hW
 have hA : DataW.TrodAll enc Tryz.prog W 0 (fun _ => true) true Tryz.f4.params.toList args.toList ds p := hA0
 rw [Tryz.params4] at hA hval hsz
 obtain ⟨v0, vs0, d0, ds0, p0, q0, hargs, rfl, rfl, h0, r0⟩ := trodAll_cons hA
 obtain ⟨rfl, rfl, rfl⟩ := trodAll_nil r0
 obtain rfl : args = #[v0] := by cases args; simp_all
 obtain ⟨rfl, rfl⟩ := trodVars_none hV
 obtain ⟨a0, len0, cap0, rfl⟩ := okWide_slice Tryz.underlying49 (hval 0 49 v0 rfl rfl)
 have lt0 : ∀ x ∈ p0, x.block < W.heap.size := by obtain ⟨m, hm⟩ := h0; exact DataW.trod_lt m _ _ _ hm
 have hh0 := h0
 obtain ⟨fu0, hf0⟩ := hh0
 obtain ⟨x0, g0, f0, b0⟩ := open_steps10.opened hf0
 have m0 := f0 (reach_of hsz (j := 0) rfl rfl)
 clear hA0 hval0 hsz0 hsz
 refine (walk W a0 len0 cap0 x0 g0 m0).mono fun e W' ⟨he, bel⟩ => ?_
 subst he
 exact ⟨_, rfl, _, _, _, [], _, [], hW', trodAll_mk1 (shut_bool Tryz.underlying4 _), (trodAll_cons_mk (Below.trod laidOut (by kernel_rfl) (of_decide_eq_true (by kernel_rfl)) h0 bel lt0) trodAll_mk0), rfl, bel.frame _, fun h => by cases h⟩
theorem over : Rows.reclaimAllRow.holds Tryz.pinned (OpenSpec.ofChange Rows.reclaimAllSpec) :=
 OpenClaim.holds_of_wide 4 Tryz.f4 rfl rfl rfl rfl rfl rfl rfl ⟨rfl, rfl, rfl, rfl, rfl⟩ rfl rfl rfl rfl rfl (by kernel_rfl) Tryz.func4 (by kernel_rfl)
  (of_decide_eq_true (by kernel_rfl)) (by unfold Func.isWrapper; first | (rw [if_pos (by decide +kernel)]; kernel_rfl) | (rw [if_neg (by decide +kernel)]; exact ⟨rfl, rfl⟩))
  (fun os started H enc _ => lifted os started H enc)
end Go.Proofs.YtpiikmkajckccaaGreat.reclaimAll
namespace Go.Proofs.YtpiikmkajckccaaGreat
theorem reclaimAll_holds : Rows.ReclaimAllSaid := reclaimAll.over
end Go.Proofs.YtpiikmkajckccaaGreat
