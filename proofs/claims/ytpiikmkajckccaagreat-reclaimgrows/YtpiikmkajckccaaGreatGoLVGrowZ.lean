/- Several texts in one: VPE LVGrow. -/
import Derived.Deep.QuietTactic
import Derived.BigQuiet
import Derived.Laws.Cover1
import Derived.Test.YtpiikmkajckccaaGreatShelf
import Derived.Test.YtpiikmkajckccaaGreatGoLVGrow5
import Derived.Test.YtpiikmkajckccaaGreatGoLVGrow1
set_option linter.unusedVariables false
set_option linter.unusedSimpArgs false
namespace Go.Proofs.YtpiikmkajckccaaGreat
open Go.RowKit Go.Maps Go.Sort Go.Shelf
theorem mapI_perm {w : World} {bm n : Nat} {m : Int → Option Value} {R : List Int} (h : MapI w bm n m) (hm : ∀ i, (m i).isSome = decide (i ∈ R)) (hn : R.Nodup) (hw : ∀ x ∈ R, (Lit.int .i64 x).wf = true) :
  ∃ D : DataW Value, w.ownsMap Tryz.prog 3 rdH bm n D ∧ R.Perm (intKeys D) ∧ Maps.size D = R.length := by
 obtain ⟨D, hown, hD⟩ := h
 obtain ⟨es, e1, hpw, _⟩ := hown.entries keyI
 obtain ⟨es', e2, hko⟩ := hown.keysOf
 obtain rfl : es = es' := by rw [e1] at e2; simpa using e2
 subst e1
 have hk : ∀ p ∈ es, ∃ x, p.1 = .int .i64 x ∧ (Lit.int .i64 x).wf = true := fun p hp => by
  obtain ⟨v, hv⟩ := hko p hp
  obtain ⟨x, _, hx, hl⟩ := Maps.keyOf_i64 Tryz.underlying3 hv
  exact ⟨x, hx, hl⟩
 have hp : R.Perm (intKeys (.map es)) := perm_intKeys hpw (fun p hp => by obtain ⟨x, h, _⟩ := hk p hp; exact ⟨x, h⟩) hn fun x => by
  by_cases hx : (Lit.int .i64 x).wf = true
  ·rw [(hD x hx).1, hm x]; simp
  ·constructor
   ·intro h; exact absurd (hw x h) hx
   ·intro h
    rw [has_eq, List.any_eq_true] at h
    obtain ⟨p, hp, hs⟩ := h
    obtain ⟨a, ha, hl⟩ := hk p hp
    rw [ha] at hs
    have : a = x := by simpa [Lit.sameKey] using hs
    rw [this] at hl
    exact absurd hl hx
 refine ⟨_, hown, hp, ?_⟩
 have := hp.length_eq
 simpa [intKeys, Maps.size] using this.symm
theorem vsorts (m : Nat) : AnyZI.SortsIn Tryz.prog Tryz.sortedA_ren Fence.wide m :=
 ⟨fun blk off cap ss W hH hblk hsz => callsIn_wide.2 (AnyM.slices_Sort_int Tryz.sortA blk off cap ss W hH hblk hsz),
  fun p cap W => callsIn_wide.2 (AnyM.slices_Sort_int_none Tryz.sortA p cap W)⟩
theorem vkeys_any (w : World) (bm : Nat) : Calls Tryz.prog 25 #[.map (some bm)] w fun e w' =>
  e = .returned (.func (.func 53) #[] #[.pointer (some ⟨w.heap.size, 0, none⟩)]) ∧ w' = w.alloc (.cells #[.map (some bm)] 66) :=
 (callsIn_wide (n := 5)).1 (AnyZI.keys_in Tryz.keysA Fence.wide 5 trivial rfl (some bm) w)
theorem vsorted_any (w : World) (bm n : Nat) (D : DataW Value) (hown : w.ownsMap Tryz.prog 3 rdH bm n D) (hmax : Maps.size D ≤ 65536) {sz : Nat} (hsz : w.heap.size = sz) :
  Calls Tryz.prog 24 #[.func (.func 53) #[] #[.pointer (some ⟨sz, 0, none⟩)]] (w.alloc (.cells #[.map (some bm)] 66)) fun e w' =>
  ∃ (v : Value) (ss A : List Int), e = .returned v ∧ ss.Perm (intKeys D) ∧ A = ss.mergeSort (fun x y => decide (x ≤ y)) ∧ OwnJ w.heap.size w' v A ∧ Below w.heap.size w w' := by
 subst hsz
 have hbl := hown.lt
 have hseq : SeqGives Fence.wide 2 Tryz.prog 53 #[.pointer (some ⟨w.heap.size, 0, none⟩)] encZ (fun ss => ss.Perm (intKeys D)) (Maps.size D) (w.alloc (.cells #[.map (some bm)] 66)) :=
  AnyZI.keys_gives (ρ := Tryz.keysA_ren) { Tryz.keysA with } Fence.wide _ trivial rfl (by omega) w.heap.size bm n D _ (by simp) (by simp) (by
   obtain ⟨es, clock, hb, Ft, hs, hD⟩ := hown
   exact ⟨es, clock, (Below.heap_alloc _ _ bm hbl).trans hb, Ft, hs, hD⟩)
 have cS := AnyZI.sorted_in Tryz.sortedA Fence.wide 5 trivial trivial trivial trivial rfl (by omega) (vsorts _) (enters_of Tryz.func52 (by kernel_rfl) rfl) 53 #[.pointer (some ⟨w.heap.size, 0, none⟩)] trivial (enters_of Tryz.func53 (by kernel_rfl) rfl) _ _ (by rw [maxLen]; omega) (by omega) _ hseq
 change CallsIn _ _ Tryz.prog 24 _ _ _ at cS
 refine ((callsIn_wide (n := 5)).1 cS).mono ?_
 rintro e w' ⟨v, ss, rfl, hS, hrow, hnil, hb⟩
 have hrow' := ownsRow_base_a hrow (show w.heap.size ≤ _ by simp)
 refine ⟨v, ss, _, rfl, hS, rfl, ?_, ((Below.refl _ w).alloc (Nat.le_refl _) _).trans (hb.mono (by simp))⟩
 show World.ownsRow _ _ _ _ _ _ _
 rw [List.length_mergeSort]
 exact hrow'
def LiR (w w' : World) (t : Tr) (rs : List Int) (e : Ending) : Prop :=
 (lvE t rs = 0 ∧ ∃ a v, e = .returned (.tuple #[v, .int .i64 0]) ∧ OwnJ w.heap.size w' v a ∧ LvR t rs a ∧ Below w.heap.size w w') ∨
 (lvE t rs ≠ 0 ∧ e = .returned (.tuple #[.slice none 0 0, .int .i64 (lvE t rs)]) ∧ Below w.heap.size w w')
theorem sort_live {t : Tr} {rs R ss : List Int} (hR : R.Nodup) (hp : ss.Perm R) (hi : ∀ x, x ∈ R ↔ Lv t rs x) : LvR t rs (ss.mergeSort (fun x y => decide (x ≤ y))) := by
 have hq : (ss.mergeSort (fun x y => decide (x ≤ y))).Perm R := (List.mergeSort_perm ss _).trans hp
 refine ⟨?_, fun x => by rw [hq.mem_iff, hi x]⟩
 have h1 : (ss.mergeSort (fun x y => decide (x ≤ y))).Pairwise (fun a b => decide (a ≤ b) = true) := List.pairwise_mergeSort (fun a b c h1 h2 => by simp only [decide_eq_true_eq] at *; omega) (fun a b => by simp only [Bool.or_eq_true, decide_eq_true_eq]; omega) ss
 have h2 : (ss.mergeSort (fun x y => decide (x ≤ y))).Nodup := hq.nodup_iff.2 hR
 have h3 := List.Pairwise.and h1 h2
 exact h3.imp fun {a b} h => by
  have := h.1
  simp only [decide_eq_true_eq] at this
  have := h.2
  omega
set_option maxRecDepth 100000 in
set_option maxHeartbeats 4000000 in
theorem vlive_any (w : World) (t : Tr) (pv rv : Value) (rs : List Int) (h : RdC w pv t.pages) (hx : ∀ x ∈ t.pages, x.2.length ≤ 140737488351232) (hroot : (Lit.int .i64 t.root).wf = true) (hr : RdI w rv rs) (hrw : ∀ r ∈ rs, (Lit.int .i64 r).wf = true) (hrl : rs.length ≤ 9223372036854775807) :
  Calls Tryz.prog 8 #[tv t pv, rv] w fun e w' => LiR w w' t rs e := by
 obtain ⟨W, hW, D, bW, sW⟩ := boxedN w #[.int .i64 t.root, .int .i64 t.next, pv] 28
 have KC := hide (vsearch_any W t pv rv rs (h.to0 bW) hx hroot (hr.to0 bW) hrw hrl)
 obtain ⟨a, c, rfl⟩ := h.slice
 obtain ⟨ra, rc, rfl⟩ := hr.slice
 have HB := hide bW
 obtain ⟨⟨E0, E1, E2⟩, EF⟩ := cells3p D
 obtain ⟨RL, hRL⟩ : ∃ L, L = rs.length := ⟨_, rfl⟩
 rw [← hRL] at KC hrl ⊢
 replace hRL := hide hRL
 dsimp only [tv] at KC ⊢
 rw [hW] at E0 E1 E2 EF KC
 replace hroot := hide hroot
 replace hrw := hide hrw
 replace hx := hide hx
 clear h hr bW D sW
 go_enter Tryz.func8, Tryz.ntmps8
 go_wp2_with fail
 refine KC.out.mono ?_
 rintro e w1 h1
 rw [← hW] at h1
 clear KC E0 E1 E2 EF
 rcases h1 with ⟨h1, bm, R, rfl, v1, i1⟩ | ⟨h1, rfl, b1⟩
 ·have B1 := HB.out.trans (v1.bel.mono HB.out.size)
  obtain ⟨Y, hY, DY, bY, sY⟩ := boxedN w1 #[.slice a t.pages.length c, .map (some bm)] 68
  have vY := v1.to bY
  obtain ⟨m, m1, m2, m3⟩ := vY.map
  obtain ⟨⟨ps0, hps0⟩, _⟩ := (lvE_ok h1).1
  obtain ⟨d0, _, hN, _⟩ := tprs_top hps0
  have hw9 : ∀ x ∈ R, (Lit.int .i64 x).wf = true := fun x hx => by
   have := vY.pg x hx
   cases hp : tpage t.pages x with
   | none => exact absurd hp this
   | some z => exact (tpage_id hN.2.2.1 hN.2.1 hp).2
  obtain ⟨DD, o1, p1, s1⟩ := mapI_perm m1 m2 vY.nod hw9
  have hle : Maps.size DD ≤ 65536 := by
   rw [s1]
   have h5 := vY.len
   have h6 := tups_len hN.2.2.1 hN.1
   have := hN.2.1
   omega
  have KK := hide (vkeys_any Y bm)
  have KS := hide (vsorted_any Y bm R.length DD o1 hle sY)
  have BY := hide (B1.trans (bY.mono B1.size))
  have sY' := hide sY
  obtain ⟨⟨F0, F1⟩, FF⟩ := cells2r DY
  have hF : Hid (∀ ss : List Int, ss.Perm (intKeys DD) → LvR t rs (ss.mergeSort (fun x y => decide (x ≤ y)))) := fun ss hs => sort_live vY.nod (hs.trans p1.symm) i1
  replace h1 := hide h1
  rw [hY] at F0 F1 FF KK KS
  dsimp only [sev]
  clear v1 vY m1 m2 m3 o1 p1 s1 hle hw9 DY bY sY i1 B1 hN hps0
  go_wp2_with fail
  refine KK.out.mono ?_
  rintro e w2 ⟨rfl, rfl⟩
  go_wp2_with fail
  refine KS.out.mono ?_
  rintro e w3 ⟨v, ss, A, rfl, p3, hA, o3, b3⟩
  have hL := hide (hF.out ss p3)
  rw [← hA] at hL
  clear hA
  rw [← hY] at o3 b3
  have O3 := hide (rows_mono o3 BY.out.size)
  have B3 := hide (BY.out.trans (b3.mono BY.out.size))
  obtain ⟨va, vc, rfl⟩ := (OwnJ.rd o3).slice
  clear o3 b3 p3 KK KS F0 F1 FF
  go_wp2
  go_ret2
  exact .inl ⟨h1.out, _, _, rfl, O3.out, hL.out, B3.out⟩
 ·obtain ⟨Y, hY, DY, bY, sY⟩ := boxedN w1 #[.slice none 0 0, .map none] 68
  have B1 := HB.out.trans (b1.mono HB.out.size)
  have BY := hide (B1.trans (bY.mono B1.size))
  obtain ⟨er, her⟩ : ∃ er, er = lvE t rs := ⟨_, rfl⟩
  rw [← her] at h1 ⊢
  replace her := hide her
  rw [hY] at BY
  clear DY bY sY B1 b1 hY
  go_wp2
  go_ret2
  exact .inr ⟨by rw [← her.out]; exact h1, by rw [← her.out]; rfl, BY.out⟩
end Go.Proofs.YtpiikmkajckccaaGreat

namespace Go.Proofs.YtpiikmkajckccaaGreat.reclaimGrows
open Go.ChangeShapes Go.WideShapes Go.ChangeAt Go.RowKit
set_option maxRecDepth 100000 in
set_option maxHeartbeats 32000000 in
theorem walk (w : World) (a0 : Option Addr) (len0 cap0 : Nat) (ls : List Sp3) (g0 : SSteps10.rd w [.slice a0 len0 cap0] ls) (m0 : ls.length * 40 ≤ 140737488351232 ∧ ∀ x ∈ ls, sp3fit x) (ev : Int) (hev : (Lit.int .i64 ev).wf = true) :
  Calls Tryz.prog 5 #[.slice a0 len0 cap0, .int .i64 ev] w fun e w' => e = .returned (.bool true) ∧ Below w.heap.size w w' := by
 obtain ⟨v0, e0, R0⟩ := g0
 obtain rfl : v0 = .slice a0 len0 cap0 := by simpa using e0.symm
 have HF := hide m0.2
 have HR := hide R0
 obtain ⟨a0', c0', h0'⟩ := R0.slice
 simp only [Value.slice.injEq] at h0'
 obtain ⟨rfl, hM, rfl⟩ := h0'
 replace hM := hide hM
 clear e0 m0 R0
 have KA := hide (palive11_any w)
 go_enter Tryz.func5, Tryz.ntmps5
 go_wp2_with fail
 refine KA.out.mono ?_
 rintro e w1 ⟨rfl, b1⟩
 clear KA
 have B1 := hide b1
 clear b1
 go_upto_region 3 with fail
 go_cut [1] from 19 to 23 (fun v wx => ∃ E : Nat, v = .int .i64 E ∧ 1 ≤ E ∧ E ≤ 20 ∧ w1 = wx)
 case first =>
  obtain ⟨E, hE1, hE2, hE⟩ := mod20 ev
  obtain ⟨x1, hx1⟩ : ∃ x, x = ev.tmod 20 := ⟨_, rfl⟩
  have hx3 : -20 < x1 ∧ x1 < 20 := by
   have h1 := Int.tmod_lt_of_pos ev (show (0 : Int) < 20 by omega)
   have h2 := Int.lt_tmod_of_pos ev (show (0 : Int) < 20 by omega)
   omega
  have hx4 : IntKind.i64.wrap (x1 + 20) = x1 + 20 := IntWalk.i64_in _ (by omega)
  replace hev := hide hev
  go_wp2_with fail
  go_meet
  case rel => exact ⟨E, by rw [← hE], hE1, hE2, rfl⟩
 case rest =>
 obtain ⟨E, rfl, hE1, hE2, rfl⟩ := hcut
 have hE0 : ((E : Int) == 0) = false := by simp; omega
 have hE3 : ¬ (E : Int) = 0 := by omega
 have KN0 := hide (pnew10_any w1)
 dsimp only [tv] at KN0
 go_wp2_with fail
 refine KN0.out.mono ?_
 rintro e w2 ⟨rfl, b2⟩
 obtain ⟨W, hW, DW, bW, sW⟩ := boxedN w2 #[.int .i64 0, .int .i64 1, .slice none 0 0] 28
 have HI : Hid (∃ t pv rs, GI w1 W w2.heap.size t pv rs (.slice none 0 0) 0) :=
  ⟨⟨0, 1, []⟩, .slice none 0 0, [], ⟨OwnX.nil _ _ _, ⟨_, ta0⟩, by decide, (fun x hx => by cases hx), World.ownsRow_nil _ _ _ _, by decide, (fun r hr => by cases hr), DW, b2.trans (bW.mono b2.size), b2.size⟩⟩
 clear KN0 b2 DW bW
 go_wp2
 rw [← hW]
 replace hW := hide hW
 obtain ⟨g3, hg⟩ : ∃ g, g = w2.heap.size := ⟨_, rfl⟩
 rw [← hg] at HI ⊢
 clear hg sW
 go_loopw [6, 8] (fun v6 p wr => ∃ (k : Nat) (rv : Value), rv = v6 ∧ k ≤ len0 ∧ k ≤ 60 ∧ p = .int .i64 k ∧ Hid (∃ t pv rs, GI w1 wr g3 t pv rs rv k)) (fun _ p _ => len0 - (intOf p).toNat)
 case atStart => exact ⟨0, _, rfl, Nat.zero_le _, Nat.zero_le _, rfl, HI⟩
 case round =>
  obtain ⟨k, rv, rfl, hk, hk4, rfl, hI⟩ := hrel
  clear HI
  obtain ⟨w5, hwo⟩ : ∃ x, x = wr := ⟨_, rfl⟩
  subst hwo
  obtain ⟨t, pv, rs, hB⟩ := hI.out
  obtain ⟨pa, pc, hpv⟩ := hB.own.shape
  obtain ⟨pn, hpn⟩ : ∃ n, n = t.pages.length := ⟨_, rfl⟩
  rw [← hpn] at hpv
  subst hpv
  replace hpn := hide hpn
  obtain ⟨ra, rc, hrv⟩ := (OwnJ.rd hB.ro).slice
  obtain ⟨RL, hRL⟩ : ∃ n, n = rs.length := ⟨_, rfl⟩
  rw [← hRL] at hrv
  replace hRL := hide hRL
  subst hrv
  obtain ⟨root, hrn⟩ : ∃ z, z = t.root := ⟨_, rfl⟩
  obtain ⟨next, hnn⟩ : ∃ z, z = t.next := ⟨_, rfl⟩
  have hTB := hB.tb
  rw [← hrn, ← hnn] at hTB
  replace hrn := hide hrn
  replace hnn := hide hnn
  obtain ⟨⟨A0, A1, A2⟩, AF⟩ := cells3p hTB
  replace hB := hide hB
  have BZ := hide (B1.out.trans (hB.out.bel.mono B1.out.size))
  clear hI hTB
  by_cases hlt : k < len0 ∧ k < 60
  ·obtain ⟨hlt, hlt4⟩ := hlt
   have hq : (k : Int) < (len0 : Int) := by omega
   have hq4 : (k : Int) < 60 := by omega
   obtain ⟨rm, hrm⟩ : ∃ rm : Nat, (k : Int).tmod (E : Int) = (rm : Int) := ⟨((k : Int).tmod (E : Int)).toNat, by have := Int.tmod_nonneg (E : Int) (show (0 : Int) ≤ k by omega); omega⟩
   obtain ⟨y, hy⟩ : ∃ y, ls[k]? = some y := ⟨_, List.getElem?_eq_getElem (by rw [← hM.out]; exact hlt)⟩
   have hfy := HF.out y (List.mem_of_getElem? hy)
   obtain ⟨wh, key, val⟩ := y
   have hkl : Hid (key.length ≤ 9223372036854775807) := hfy.2.1
   have hvl : Hid (val.length ≤ 9223372036854775807) := hfy.2.2
   obtain ⟨Y, hY, DY, bY, sY⟩ := boxedN w5 #[.int .i64 root, .int .i64 next, .slice pa pn pc] 28
   have hYb := hB.out.bel.trans (bY.mono hB.out.bel.size)
   obtain ⟨sb, so, rfl, s0, s1, s2⟩ := (HR.out.to0 (B1.out.trans (hYb.mono B1.out.size))).spAt hy
   dsimp only at s0 s1 s2
   obtain ⟨sb', so', he', s0', s1', s2'⟩ := (HR.out.to0 (B1.out.trans (hB.out.bel.mono B1.out.size))).spAt hy
   simp only [Option.some.injEq, Addr.mk.injEq, and_true] at he'
   obtain ⟨rfl, rfl⟩ := he'
   dsimp only at s1' s2'
   have HS : Hid (∀ w9, Below w5.heap.size w5 w9 → w9.cell? ⟨g3, 0, none⟩ = some (.int .i64 root) ∧ w9.cell? ⟨g3, 1, none⟩ = some (.int .i64 next) ∧ w9.cell? ⟨g3, 2, none⟩ = some (.slice pa pn pc) ∧ w9.cell? ⟨sb, so + k * 3 + 1, none⟩ = some (st key) ∧ w9.cell? ⟨sb, so + k * 3 + 2, none⟩ = some (st val)) := fun w9 b9 =>
    ⟨(b9.cell (cell_lt A0)).trans A0, (b9.cell (cell_lt A1)).trans A1, (b9.cell (cell_lt A2)).trans A2, (b9.cell (cell_lt s1')).trans s1', (b9.cell (cell_lt s2')).trans s2'⟩
   have BY := hide bY
   have HDY := hide DY
   have s0z := hide s0
   rw [hY] at s0
   have lg9 : Hid (w5.heap.size ≤ w5.heap.size) := Nat.le_refl _
   replace hy := hide hy
   replace hfy := hide hfy
   clear s1 s2 s0' s1' s2' DY bY sY hYb
   by_cases h0 : wh = 0
   ·subst h0
    go_upto_region 12 with fail
    have KU : Hid (∀ w9, Below w5.heap.size w5 w9 → Calls Tryz.prog 20 #[.agg #[.int .i64 root, .int .i64 next, .slice pa pn pc], st key, st val] w9 fun e w6 => ∃ u ua un9 uc err, e = .returned (.tuple #[.agg #[.int .i64 u.root, .int .i64 u.next, .slice ua un9 uc], .int .i64 err]) ∧ CB1 w9.heap.size w6 t u (.slice ua un9 uc) err ∧ Below w9.heap.size w9 w6) := fun w9 b9 => by
     have h9 := pput_any w9 t (.slice pa pn pc) key val (hB.out.to b9).own.rd hB.out.big hB.out.rwf hkl.out
     dsimp only [tv] at h9
     rw [← hrn.out, ← hnn.out] at h9
     exact Calls.mono h9 fun e w6 h => by obtain ⟨u, a9, n9, c9, er, q1, q2, q3⟩ := h.to; exact ⟨u, a9, n9, c9, er, q1, PutB.cb1 q2, q3⟩
    rw [← hY]
    replace hY := hide hY
    go_cut [10] from 25 to 85 (fun ee wx => ∃ (u : Tr) (ua : Option Addr) (un9 uc : Nat) (err : Int), ee = .int .i64 err ∧ Hid (Below w5.heap.size w5 wx ∧ wx.heap[w5.heap.size]? = some (.cells #[.int .i64 u.root, .int .i64 u.next, .slice ua un9 uc] 28 (0, 0)) ∧ CB1 w5.heap.size wx t u (.slice ua un9 uc) err))
    case first =>
     have b0 : Below w5.heap.size w5 Y.drew := BY.out.trans ((below_drewN' Y 1 _ : Below Y.heap.size Y Y.drew).mono BY.out.size)
     have h9 : Y.drew.heap[w5.heap.size]? = some (.cells #[.int .i64 root, .int .i64 next, .slice pa pn pc] 28 (0, 0)) := ((below_drewN' Y 1 _ : Below Y.heap.size Y Y.drew).block _ (lt_of_block HDY.out)).trans HDY.out
     have lg9 := lg9.out
     refine wp_region_fan (fun w9 => w9.cell? ⟨g3, 0, none⟩ = some (.int .i64 root) ∧ w9.cell? ⟨g3, 1, none⟩ = some (.int .i64 next) ∧ w9.cell? ⟨g3, 2, none⟩ = some (.slice pa pn pc) ∧ w9.cell? ⟨sb, so + k * 3 + 1, none⟩ = some (st key) ∧ w9.cell? ⟨sb, so + k * 3 + 2, none⟩ = some (st val)) 16 mixed (by simp) ?_
     generalize Y.drew = c0 at *
     clear A0 A1 A2 AF s0
     refine fan_take (i := 0) (v := ?_) rfl (by kernel_rfl) (fun _ _ _ _ h => h) (by kernel_rfl) (HS.out _ b0) ?_ ?_
     rotate_left
     ·rintro w9 ⟨t0, t1, t2, t3, t4⟩
      go_simp
      try with_reducible rfl
     try simp only [Act.put, List.setIfInBounds_toArray, List.set_cons_zero, List.set_cons_succ]
     refine fan_take (i := 1) (v := ?_) rfl (by kernel_rfl) (fun _ _ _ _ h => h) (by kernel_rfl) (HS.out _ b0) ?_ ?_
     rotate_left
     ·rintro w9 ⟨t0, t1, t2, t3, t4⟩
      go_simp
      try with_reducible rfl
     try simp only [Act.put, List.setIfInBounds_toArray, List.set_cons_zero, List.set_cons_succ]
     refine fan_take (i := 2) (v := ?_) rfl (by kernel_rfl) (fun _ _ _ _ h => h) (by kernel_rfl) (HS.out _ b0) ?_ ?_
     rotate_left
     ·rintro w9 ⟨t0, t1, t2, t3, t4⟩
      go_simp
      try with_reducible rfl
     try simp only [Act.put, List.setIfInBounds_toArray, List.set_cons_zero, List.set_cons_succ]
     refine fan_take (i := 3) (v := ?_) rfl (by kernel_rfl) (fun _ _ _ _ h => h) (by kernel_rfl) (HS.out _ b0) ?_ ?_
     rotate_left
     ·rintro w9 ⟨t0, t1, t2, t3, t4⟩
      go_simp
      try with_reducible rfl
     try simp only [Act.put, List.setIfInBounds_toArray, List.set_cons_zero, List.set_cons_succ]
     refine fan_take (i := 4) (v := ?_) rfl (by kernel_rfl) (fun _ _ _ _ h => h) (by kernel_rfl) (HS.out _ b0) ?_ ?_
     rotate_left
     ·rintro w9 ⟨t0, t1, t2, t3, t4⟩
      go_simp
      try with_reducible rfl
     try simp only [Act.put, List.setIfInBounds_toArray, List.set_cons_zero, List.set_cons_succ]
     refine fan_take (i := 5) (v := ?_) rfl (by kernel_rfl) (fun _ _ _ _ h => h) (by kernel_rfl) (HS.out _ b0) ?_ ?_
     rotate_left
     ·rintro w9 ⟨t0, t1, t2, t3, t4⟩
      go_simp
      try with_reducible rfl
     try simp only [Act.put, List.setIfInBounds_toArray, List.set_cons_zero, List.set_cons_succ]
     refine fan_take (i := 6) (v := ?_) rfl (by kernel_rfl) (fun _ _ _ _ h => h) (by kernel_rfl) (HS.out _ b0) ?_ ?_
     rotate_left
     ·rintro w9 ⟨t0, t1, t2, t3, t4⟩
      go_simp
      try with_reducible rfl
     try simp only [Act.put, List.setIfInBounds_toArray, List.set_cons_zero, List.set_cons_succ]
     refine fan_take (i := 7) (v := ?_) rfl (by kernel_rfl) (fun _ _ _ _ h => h) (by kernel_rfl) (HS.out _ b0) ?_ ?_
     rotate_left
     ·rintro w9 ⟨t0, t1, t2, t3, t4⟩
      go_simp
      try with_reducible rfl
     try simp only [Act.put, List.setIfInBounds_toArray, List.set_cons_zero, List.set_cons_succ]
     refine fan_take (i := 8) (v := ?_) rfl (by kernel_rfl) (fun _ _ _ _ h => h) (by kernel_rfl) (HS.out _ b0) ?_ ?_
     rotate_left
     ·rintro w9 ⟨t0, t1, t2, t3, t4⟩
      go_simp
      try with_reducible rfl
     try simp only [Act.put, List.setIfInBounds_toArray, List.set_cons_zero, List.set_cons_succ]
     refine fan_take (i := 9) (v := ?_) rfl (by kernel_rfl) (fun _ _ _ _ h => h) (by kernel_rfl) (HS.out _ b0) ?_ ?_
     rotate_left
     ·rintro w9 ⟨t0, t1, t2, t3, t4⟩
      go_simp
      try with_reducible rfl
     try simp only [Act.put, List.setIfInBounds_toArray, List.set_cons_zero, List.set_cons_succ]
     refine fan_take (i := 10) (v := ?_) rfl (by kernel_rfl) (fun _ _ _ _ h => h) (by kernel_rfl) (HS.out _ b0) ?_ ?_
     rotate_left
     ·rintro w9 ⟨t0, t1, t2, t3, t4⟩
      go_simp
      try with_reducible rfl
     try simp only [Act.put, List.setIfInBounds_toArray, List.set_cons_zero, List.set_cons_succ]
     refine fan_one 11 (by kernel_rfl) ?_
     refine fan_step rfl (by kernel_rfl) fun K hK => ?_
     refine wp_call_of 20 _ _ (by rfl) #[.agg #[.int .i64 root, .int .i64 next, .slice pa pn pc], st key, st val] (by simp [Act.eval]) (Tryz.call20 _ _) (KU.out _ b0) ?_
     rintro e c2 ⟨u, ua, un9, uc, err, rfl, pB, bF⟩
     have b2 := b0.trans (bF.mono b0.size)
     replace pB := CB1.base (B := w5.heap.size) pB b0.size
     replace h9 := (bF.block _ (lt_of_block h9)).trans h9
     clear bF
     refine ⟨_, rfl, hK _ _ (HS.out _ b2) ?_⟩
     clear hK K
     try simp only [Act.put, List.setIfInBounds_toArray, List.set_cons_zero, List.set_cons_succ]
     refine fan_take (i := 12) (v := ?_) rfl (by kernel_rfl) (fun _ _ _ _ h => h) (by kernel_rfl) (HS.out _ b2) ?_ ?_
     rotate_left
     ·rintro w9 ⟨t0, t1, t2, t3, t4⟩
      go_simp
      try with_reducible rfl
     try simp only [Act.put, List.setIfInBounds_toArray, List.set_cons_zero, List.set_cons_succ]
     refine fan_take (i := 13) (v := ?_) rfl (by kernel_rfl) (fun _ _ _ _ h => h) (by kernel_rfl) (HS.out _ b2) ?_ ?_
     rotate_left
     ·rintro w9 ⟨t0, t1, t2, t3, t4⟩
      go_simp
      try with_reducible rfl
     try simp only [Act.put, List.setIfInBounds_toArray, List.set_cons_zero, List.set_cons_succ]
     refine fan_take (i := 14) (v := ?_) rfl (by kernel_rfl) (fun _ _ _ _ h => h) (by kernel_rfl) (HS.out _ b2) ?_ ?_
     rotate_left
     ·rintro w9 ⟨t0, t1, t2, t3, t4⟩
      go_simp
      try with_reducible rfl
     try simp only [Act.put, List.setIfInBounds_toArray, List.set_cons_zero, List.set_cons_succ]
     refine fan_one 15 (by kernel_rfl) ?_
     have y9 := cells3p h9
     obtain ⟨⟨y0, y1, y2⟩, yF⟩ := y9
     refine fan_step rfl (by kernel_rfl) fun K hK => ?_
     go_simp
     obtain ⟨d1, hd⟩ : ∃ d, d = ((c2.setCell ⟨w5.heap.size, 0, none⟩ (.int .i64 u.root)).setCell ⟨w5.heap.size, 1, none⟩ (.int .i64 u.next)).setCell ⟨w5.heap.size, 2, none⟩ (.slice ua un9 uc) := ⟨_, rfl⟩
     rw [← hd]
     have e1 : Below w5.heap.size w5 d1 := by rw [hd]; exact below_set3t b2 lg9 _ _ _
     have i9 : d1.heap[w5.heap.size]? = some (.cells #[(.int .i64 u.root), (.int .i64 u.next), (.slice ua un9 uc)] 28 (0, 0)) := by rw [hd]; exact heap_set3t h9 _ _ _
     have kd := fun e (he : e ≠ 28) => s3_keep9 h9 (.int .i64 u.root) (.int .i64 u.next) (.slice ua un9 uc) he
     rw [← hd] at kd
     have pD := CB1.keep pB kd
     refine hK _ _ (HS.out _ e1) ?_
     clear hK K y0 y1 y2 yF hd kd
     try simp only [Act.put, List.setIfInBounds_toArray, List.set_cons_zero, List.set_cons_succ]
     refine fan_done (by kernel_rfl) ?_
     show wpList _ _ _ _ _ _
     have FIN := hide (And.intro e1 (And.intro i9 pD))
     clear e1 i9 pD pB h9 b2 b0
     go_wp2_with fail
     go_meet
     case rel => exact ⟨u, _, _, _, err, rfl, FIN⟩
    case rest =>
     obtain ⟨u, ua, un9, uc, err, rfl, hC⟩ := hcut
     have hO := hide (hB.out.to hC.out.1)
     have KN := hide (pnum11_any wc err)
     clear A0 A1 A2 AF s0
     go_wp2_with fail
     refine KN.out.mono ?_
     rintro e w7 ⟨rfl, rfl⟩
     clear KN
     obtain ⟨w6, hw6⟩ : ∃ x, x = wc := ⟨_, rfl⟩
     subst hw6
     go_upto_if 70 with fail
     go_cut [] from 25 to 85 (fun wx => Hid (∃ t2 pv2, GI w1 wx g3 t2 pv2 rs (.slice ra RL rc) (k + 1)))
     case first =>
      by_cases herr : err = 0
      ·subst herr
       have hOK : OwnPg w5.heap.size w6 (.slice ua un9 uc) u.pages ∧ ∃ ps, Chg t u ps := by
        rcases hC.out.2.2 with q | ⟨_, q⟩
        ·exact absurd rfl q
        ·exact q
       obtain ⟨q3, ps, q5⟩ := hOK
       have hTB := hO.out.tb
       rw [← hrn.out, ← hnn.out] at hTB
       obtain ⟨⟨A0, A1, A2⟩, AF⟩ := cells3p hTB
       obtain ⟨⟨U0, U1, U2⟩, UF⟩ := cells3p hC.out.2.1
       have FIN := hide (hO.out.put q5 (OwnPg.base q3 hB.out.bel.size))
       clear hTB q3 q5
       go_wp2_with fail
       go_meet
       case rel => exact ⟨_, _, FIN.out⟩
      ·have hne : (err == 0) = false := by simpa using herr
       replace herr := hide herr
       have FIN := hide (hO.out.more (Nat.le_succ k))
       go_wp2_with fail
       go_meet
       case rel => exact ⟨_, _, FIN.out⟩
     case rest =>
      obtain ⟨t2, pv2, hG⟩ := hcut.out
      obtain ⟨pa2, pc2, hpv2⟩ := hG.own.shape
      obtain ⟨pn2, hpn2⟩ : ∃ n, n = t2.pages.length := ⟨_, rfl⟩
      rw [← hpn2] at hpv2
      subst hpv2
      obtain ⟨root2, hrn2⟩ : ∃ z, z = t2.root := ⟨_, rfl⟩
      have hTB := hG.tb
      rw [← hrn2] at hTB
      obtain ⟨⟨A0, A1, A2⟩, AF⟩ := cells3p hTB
      replace hG := hide hG
      replace hrn2 := hide hrn2
      replace hpn2 := hide hpn2
      obtain ⟨w8, hw8⟩ : ∃ x, x = wc := ⟨_, rfl⟩
      subst hw8
      clear hTB hcut
      by_cases hm0 : rm = 0
      ·have hme : ((rm : Int) == 0) = true := by simp [hm0]
       replace hm0 := hide hm0
       by_cases hl16 : RL < 16
       ·have hlq : (RL : Int) < 16 := by omega
        obtain ⟨X1, hX1, D1, bX1, sX1⟩ := boxedN w8 #[.int .i64 root2] 3
        have C1 := cellN D1 (i := 0) rfl
        have OJ := hide (rows_to hG.out.ro bX1)
        have hl1 : Hid ((rs.length + 1) * 8 ≤ 140737488355328) := by show _ ≤ _; have := hG.out.l1; omega
        have hBX : Hid (w1.heap.size ≤ X1.heap.size) := Nat.le_trans hG.out.bel.size bX1.size
        have BX1 := hide bX1
        have hl16' : Hid (rs.length < 16) := by show _ < _; rw [← hRL.out]; exact hl16
        replace C1 := hide C1
        rw [hX1] at C1 OJ hBX
        clear D1 bX1
        go_wp2_with (at_builtin; refine wpList_appJ9 rfl _ _ rfl w1.heap.size _ rs root2 w8.heap.size rfl rfl OJ.out C1.out hl1.out hBX.out ?_; intro v4 w4 o4 b4 k4; rw [← hX1] at b4 k4; have FIN := hide (hG.out.note hl16'.out (fun e he => (KeepT.below BX1.out).trans (k4 e he)) ((hG.out.bel.trans (BX1.out.mono hG.out.bel.size)).trans b4) (by rw [← hrn2.out]; exact o4)); clear o4 b4 k4 hX1)
        go_roundw
        case rel => exact ⟨k + 1, _, rfl, by omega, by omega, by go_num, ⟨_, _, _, FIN.out⟩⟩
        case measure => simp [intOf]; omega
       ·have hlq : ¬ (RL : Int) < 16 := by omega
        go_wp2
        go_roundw
        case rel => exact ⟨k + 1, _, rfl, by omega, by omega, by go_num, ⟨_, _, _, hG.out⟩⟩
        case measure => simp [intOf]; omega
      ·have hme : ((rm : Int) == 0) = false := by simpa using hm0
       replace hm0 := hide hm0
       go_wp2
       go_roundw
       case rel => exact ⟨k + 1, _, rfl, by omega, by omega, by go_num, ⟨_, _, _, hG.out⟩⟩
       case measure => simp [intOf]; omega
   ·have hq0 : (wh == 0) = false := by simpa using h0
    go_upto_region 13 with fail
    have KU : Hid (∀ w9, Below w5.heap.size w5 w9 → Calls Tryz.prog 21 #[.agg #[.int .i64 root, .int .i64 next, .slice pa pn pc], st key] w9 fun e w6 => ∃ u ua un9 uc was err, e = .returned (.tuple #[.agg #[.int .i64 u.root, .int .i64 u.next, .slice ua un9 uc], .bool was, .int .i64 err]) ∧ CB1 w9.heap.size w6 t u (.slice ua un9 uc) err ∧ Below w9.heap.size w9 w6) := fun w9 b9 => by
     have h9 := pdel_any w9 t (.slice pa pn pc) key (hB.out.to b9).own.rd hB.out.big hB.out.rwf hkl.out
     dsimp only [tv] at h9
     rw [← hrn.out, ← hnn.out] at h9
     exact Calls.mono h9 fun e w6 h => by obtain ⟨u, a9, n9, c9, ws, er, q1, q2, q3⟩ := h.to; exact ⟨u, a9, n9, c9, ws, er, q1, DelB.cb1 q2, q3⟩
    rw [← hY]
    replace hY := hide hY
    go_cut [10] from 25 to 85 (fun ee wx => ∃ (u : Tr) (ua : Option Addr) (un9 uc : Nat) (err : Int), ee = .int .i64 err ∧ Hid (Below w5.heap.size w5 wx ∧ wx.heap[w5.heap.size]? = some (.cells #[.int .i64 u.root, .int .i64 u.next, .slice ua un9 uc] 28 (0, 0)) ∧ CB1 w5.heap.size wx t u (.slice ua un9 uc) err))
    case first =>
     have b0 : Below w5.heap.size w5 Y.drew := BY.out.trans ((below_drewN' Y 1 _ : Below Y.heap.size Y Y.drew).mono BY.out.size)
     have h9 : Y.drew.heap[w5.heap.size]? = some (.cells #[.int .i64 root, .int .i64 next, .slice pa pn pc] 28 (0, 0)) := ((below_drewN' Y 1 _ : Below Y.heap.size Y Y.drew).block _ (lt_of_block HDY.out)).trans HDY.out
     have lg9 := lg9.out
     refine wp_region_fan (fun w9 => w9.cell? ⟨g3, 0, none⟩ = some (.int .i64 root) ∧ w9.cell? ⟨g3, 1, none⟩ = some (.int .i64 next) ∧ w9.cell? ⟨g3, 2, none⟩ = some (.slice pa pn pc) ∧ w9.cell? ⟨sb, so + k * 3 + 1, none⟩ = some (st key) ∧ w9.cell? ⟨sb, so + k * 3 + 2, none⟩ = some (st val)) 12 mixed (by simp) ?_
     generalize Y.drew = c0 at *
     clear A0 A1 A2 AF s0
     refine fan_take (i := 0) (v := ?_) rfl (by kernel_rfl) (fun _ _ _ _ h => h) (by kernel_rfl) (HS.out _ b0) ?_ ?_
     rotate_left
     ·rintro w9 ⟨t0, t1, t2, t3, t4⟩
      go_simp
      try with_reducible rfl
     try simp only [Act.put, List.setIfInBounds_toArray, List.set_cons_zero, List.set_cons_succ]
     refine fan_take (i := 1) (v := ?_) rfl (by kernel_rfl) (fun _ _ _ _ h => h) (by kernel_rfl) (HS.out _ b0) ?_ ?_
     rotate_left
     ·rintro w9 ⟨t0, t1, t2, t3, t4⟩
      go_simp
      try with_reducible rfl
     try simp only [Act.put, List.setIfInBounds_toArray, List.set_cons_zero, List.set_cons_succ]
     refine fan_take (i := 2) (v := ?_) rfl (by kernel_rfl) (fun _ _ _ _ h => h) (by kernel_rfl) (HS.out _ b0) ?_ ?_
     rotate_left
     ·rintro w9 ⟨t0, t1, t2, t3, t4⟩
      go_simp
      try with_reducible rfl
     try simp only [Act.put, List.setIfInBounds_toArray, List.set_cons_zero, List.set_cons_succ]
     refine fan_take (i := 3) (v := ?_) rfl (by kernel_rfl) (fun _ _ _ _ h => h) (by kernel_rfl) (HS.out _ b0) ?_ ?_
     rotate_left
     ·rintro w9 ⟨t0, t1, t2, t3, t4⟩
      go_simp
      try with_reducible rfl
     try simp only [Act.put, List.setIfInBounds_toArray, List.set_cons_zero, List.set_cons_succ]
     refine fan_take (i := 4) (v := ?_) rfl (by kernel_rfl) (fun _ _ _ _ h => h) (by kernel_rfl) (HS.out _ b0) ?_ ?_
     rotate_left
     ·rintro w9 ⟨t0, t1, t2, t3, t4⟩
      go_simp
      try with_reducible rfl
     try simp only [Act.put, List.setIfInBounds_toArray, List.set_cons_zero, List.set_cons_succ]
     refine fan_take (i := 5) (v := ?_) rfl (by kernel_rfl) (fun _ _ _ _ h => h) (by kernel_rfl) (HS.out _ b0) ?_ ?_
     rotate_left
     ·rintro w9 ⟨t0, t1, t2, t3, t4⟩
      go_simp
      try with_reducible rfl
     try simp only [Act.put, List.setIfInBounds_toArray, List.set_cons_zero, List.set_cons_succ]
     refine fan_one 6 (by kernel_rfl) ?_
     refine fan_step rfl (by kernel_rfl) fun K hK => ?_
     refine wp_call_of 21 _ _ (by rfl) #[.agg #[.int .i64 root, .int .i64 next, .slice pa pn pc], st key] (by simp [Act.eval]) (Tryz.call21 _ _) (KU.out _ b0) ?_
     rintro e c2 ⟨u, ua, un9, uc, was, err, rfl, pB, bF⟩
     have b2 := b0.trans (bF.mono b0.size)
     replace pB := CB1.base (B := w5.heap.size) pB b0.size
     replace h9 := (bF.block _ (lt_of_block h9)).trans h9
     clear bF
     refine ⟨_, rfl, hK _ _ (HS.out _ b2) ?_⟩
     clear hK K
     try simp only [Act.put, List.setIfInBounds_toArray, List.set_cons_zero, List.set_cons_succ]
     refine fan_take (i := 7) (v := ?_) rfl (by kernel_rfl) (fun _ _ _ _ h => h) (by kernel_rfl) (HS.out _ b2) ?_ ?_
     rotate_left
     ·rintro w9 ⟨t0, t1, t2, t3, t4⟩
      go_simp
      try with_reducible rfl
     try simp only [Act.put, List.setIfInBounds_toArray, List.set_cons_zero, List.set_cons_succ]
     refine fan_take (i := 8) (v := ?_) rfl (by kernel_rfl) (fun _ _ _ _ h => h) (by kernel_rfl) (HS.out _ b2) ?_ ?_
     rotate_left
     ·rintro w9 ⟨t0, t1, t2, t3, t4⟩
      go_simp
      try with_reducible rfl
     try simp only [Act.put, List.setIfInBounds_toArray, List.set_cons_zero, List.set_cons_succ]
     refine fan_take (i := 9) (v := ?_) rfl (by kernel_rfl) (fun _ _ _ _ h => h) (by kernel_rfl) (HS.out _ b2) ?_ ?_
     rotate_left
     ·rintro w9 ⟨t0, t1, t2, t3, t4⟩
      go_simp
      try with_reducible rfl
     try simp only [Act.put, List.setIfInBounds_toArray, List.set_cons_zero, List.set_cons_succ]
     refine fan_take (i := 10) (v := ?_) rfl (by kernel_rfl) (fun _ _ _ _ h => h) (by kernel_rfl) (HS.out _ b2) ?_ ?_
     rotate_left
     ·rintro w9 ⟨t0, t1, t2, t3, t4⟩
      go_simp
      try with_reducible rfl
     try simp only [Act.put, List.setIfInBounds_toArray, List.set_cons_zero, List.set_cons_succ]
     refine fan_one 11 (by kernel_rfl) ?_
     have y9 := cells3p h9
     obtain ⟨⟨y0, y1, y2⟩, yF⟩ := y9
     refine fan_step rfl (by kernel_rfl) fun K hK => ?_
     go_simp
     obtain ⟨d1, hd⟩ : ∃ d, d = ((c2.setCell ⟨w5.heap.size, 0, none⟩ (.int .i64 u.root)).setCell ⟨w5.heap.size, 1, none⟩ (.int .i64 u.next)).setCell ⟨w5.heap.size, 2, none⟩ (.slice ua un9 uc) := ⟨_, rfl⟩
     rw [← hd]
     have e1 : Below w5.heap.size w5 d1 := by rw [hd]; exact below_set3t b2 lg9 _ _ _
     have i9 : d1.heap[w5.heap.size]? = some (.cells #[(.int .i64 u.root), (.int .i64 u.next), (.slice ua un9 uc)] 28 (0, 0)) := by rw [hd]; exact heap_set3t h9 _ _ _
     have kd := fun e (he : e ≠ 28) => s3_keep9 h9 (.int .i64 u.root) (.int .i64 u.next) (.slice ua un9 uc) he
     rw [← hd] at kd
     have pD := CB1.keep pB kd
     refine hK _ _ (HS.out _ e1) ?_
     clear hK K y0 y1 y2 yF hd kd
     try simp only [Act.put, List.setIfInBounds_toArray, List.set_cons_zero, List.set_cons_succ]
     refine fan_done (by kernel_rfl) ?_
     show wpList _ _ _ _ _ _
     have FIN := hide (And.intro e1 (And.intro i9 pD))
     clear e1 i9 pD pB h9 b2 b0
     go_wp2_with fail
     go_meet
     case rel => exact ⟨u, _, _, _, err, rfl, FIN⟩
    case rest =>
     obtain ⟨u, ua, un9, uc, err, rfl, hC⟩ := hcut
     have hO := hide (hB.out.to hC.out.1)
     have KN := hide (pnum11_any wc err)
     clear A0 A1 A2 AF s0
     go_wp2_with fail
     refine KN.out.mono ?_
     rintro e w7 ⟨rfl, rfl⟩
     clear KN
     obtain ⟨w6, hw6⟩ : ∃ x, x = wc := ⟨_, rfl⟩
     subst hw6
     go_upto_if 70 with fail
     go_cut [] from 25 to 85 (fun wx => Hid (∃ t2 pv2, GI w1 wx g3 t2 pv2 rs (.slice ra RL rc) (k + 1)))
     case first =>
      by_cases herr : err = 0
      ·subst herr
       have hOK : OwnPg w5.heap.size w6 (.slice ua un9 uc) u.pages ∧ ∃ ps, Chg t u ps := by
        rcases hC.out.2.2 with q | ⟨_, q⟩
        ·exact absurd rfl q
        ·exact q
       obtain ⟨q3, ps, q5⟩ := hOK
       have hTB := hO.out.tb
       rw [← hrn.out, ← hnn.out] at hTB
       obtain ⟨⟨A0, A1, A2⟩, AF⟩ := cells3p hTB
       obtain ⟨⟨U0, U1, U2⟩, UF⟩ := cells3p hC.out.2.1
       have FIN := hide (hO.out.put q5 (OwnPg.base q3 hB.out.bel.size))
       clear hTB q3 q5
       go_wp2_with fail
       go_meet
       case rel => exact ⟨_, _, FIN.out⟩
      ·have hne : (err == 0) = false := by simpa using herr
       replace herr := hide herr
       have FIN := hide (hO.out.more (Nat.le_succ k))
       go_wp2_with fail
       go_meet
       case rel => exact ⟨_, _, FIN.out⟩
     case rest =>
      obtain ⟨t2, pv2, hG⟩ := hcut.out
      obtain ⟨pa2, pc2, hpv2⟩ := hG.own.shape
      obtain ⟨pn2, hpn2⟩ : ∃ n, n = t2.pages.length := ⟨_, rfl⟩
      rw [← hpn2] at hpv2
      subst hpv2
      obtain ⟨root2, hrn2⟩ : ∃ z, z = t2.root := ⟨_, rfl⟩
      have hTB := hG.tb
      rw [← hrn2] at hTB
      obtain ⟨⟨A0, A1, A2⟩, AF⟩ := cells3p hTB
      replace hG := hide hG
      replace hrn2 := hide hrn2
      replace hpn2 := hide hpn2
      obtain ⟨w8, hw8⟩ : ∃ x, x = wc := ⟨_, rfl⟩
      subst hw8
      clear hTB hcut
      by_cases hm0 : rm = 0
      ·have hme : ((rm : Int) == 0) = true := by simp [hm0]
       replace hm0 := hide hm0
       by_cases hl16 : RL < 16
       ·have hlq : (RL : Int) < 16 := by omega
        obtain ⟨X1, hX1, D1, bX1, sX1⟩ := boxedN w8 #[.int .i64 root2] 3
        have C1 := cellN D1 (i := 0) rfl
        have OJ := hide (rows_to hG.out.ro bX1)
        have hl1 : Hid ((rs.length + 1) * 8 ≤ 140737488355328) := by show _ ≤ _; have := hG.out.l1; omega
        have hBX : Hid (w1.heap.size ≤ X1.heap.size) := Nat.le_trans hG.out.bel.size bX1.size
        have BX1 := hide bX1
        have hl16' : Hid (rs.length < 16) := by show _ < _; rw [← hRL.out]; exact hl16
        replace C1 := hide C1
        rw [hX1] at C1 OJ hBX
        clear D1 bX1
        go_wp2_with (at_builtin; refine wpList_appJ9 rfl _ _ rfl w1.heap.size _ rs root2 w8.heap.size rfl rfl OJ.out C1.out hl1.out hBX.out ?_; intro v4 w4 o4 b4 k4; rw [← hX1] at b4 k4; have FIN := hide (hG.out.note hl16'.out (fun e he => (KeepT.below BX1.out).trans (k4 e he)) ((hG.out.bel.trans (BX1.out.mono hG.out.bel.size)).trans b4) (by rw [← hrn2.out]; exact o4)); clear o4 b4 k4 hX1)
        go_roundw
        case rel => exact ⟨k + 1, _, rfl, by omega, by omega, by go_num, ⟨_, _, _, FIN.out⟩⟩
        case measure => simp [intOf]; omega
       ·have hlq : ¬ (RL : Int) < 16 := by omega
        go_wp2
        go_roundw
        case rel => exact ⟨k + 1, _, rfl, by omega, by omega, by go_num, ⟨_, _, _, hG.out⟩⟩
        case measure => simp [intOf]; omega
      ·have hme : ((rm : Int) == 0) = false := by simpa using hm0
       replace hm0 := hide hm0
       go_wp2
       go_roundw
       case rel => exact ⟨k + 1, _, rfl, by omega, by omega, by go_num, ⟨_, _, _, hG.out⟩⟩
       case measure => simp [intOf]; omega
  ·have hz : ¬ k < len0 ∨ (k < len0 ∧ ¬ k < 60) := by omega
   go_upto_region 8 with fail
   go_cut [32] from 25 to 85 (fun s wx => s = .bool false ∧ w5 = wx)
   case first =>
    rcases hz with hz | ⟨hz, hz4⟩
    ·have hq : ¬ (k : Int) < (len0 : Int) := by omega
     go_wp2_with fail
     go_meet
     case rel => exact ⟨rfl, rfl⟩
    ·have hq : (k : Int) < (len0 : Int) := by omega
     have hq4 : ¬ (k : Int) < 60 := by omega
     go_wp2_with fail
     go_meet
     case rel => exact ⟨rfl, rfl⟩
   case rest =>
    obtain ⟨rfl, rfl⟩ := hcut
    replace hz := hide hz
    clear A0 A1 A2 AF
    have hRLc : Hid (RL ≤ rc ∧ RL ≤ 16) := by
     refine ⟨?_, by rw [hRL.out]; exact hB.out.l1⟩
     rw [hRL.out]
     exact rdS_cap (OwnJ.rd hB.out.ro)
    have hpb : Hid (pn ≤ 65536) := by
     obtain ⟨qq, hqq⟩ := hB.out.prs
     have hT := (tprs_num hqq).1
     have h1 := tups_len hT.2.2.1 hT.1
     have h2 := hT.2.1
     show _ ≤ _
     rw [hpn.out]
     omega
    go_wp2
    go_loopw [7, 11] (fun v7 p wr => ∃ q lst : Nat, q ≤ RL + 1 ∧ lst ≤ 65536 ∧ v7 = .int .i64 lst ∧ p = .int .i64 q ∧ Hid (Below w5.heap.size w5 wr ∧ ∀ B, LvR t (rs.take q) B → lst ≤ B.length)) (fun _ p _ => RL + 1 - (intOf p).toNat)
    case atStart => exact ⟨0, 0, Nat.zero_le _, Nat.zero_le _, rfl, rfl, hide ⟨Below.refl _ _, fun B _ => Nat.zero_le _⟩⟩
    case round =>
     obtain ⟨q, lst, hqR, hls, rfl, rfl, hJ⟩ := hrel
     have hBr := hide (hB.out.to hJ.out.1)
     have BZr := hide (BZ.out.trans (hJ.out.1.mono BZ.out.size))
     by_cases hlq : q ≤ RL
     ·have hqq : (q : Int) ≤ (RL : Int) := by omega
      have hq16 : q ≤ 16 := by have := hRLc.out.2; omega
      have hTB := hBr.out.tb
      rw [← hrn.out, ← hnn.out] at hTB
      obtain ⟨⟨A0, A1, A2⟩, AF⟩ := cells3p hTB
      have HS : Hid (∀ w9, Below wr.heap.size wr w9 → w9.cell? ⟨g3, 0, none⟩ = some (.int .i64 root) ∧ w9.cell? ⟨g3, 1, none⟩ = some (.int .i64 next) ∧ w9.cell? ⟨g3, 2, none⟩ = some (.slice pa pn pc)) := fun w9 b9 =>
       ⟨(b9.cell (cell_lt A0)).trans A0, (b9.cell (cell_lt A1)).trans A1, (b9.cell (cell_lt A2)).trans A2⟩
      have KT : Hid (∀ w9, Below wr.heap.size wr w9 → Calls Tryz.prog 8 #[.agg #[.int .i64 root, .int .i64 next, .slice pa pn pc], .slice ra q rc] w9 fun e w6 => ∃ (A : List Int) (la9 : Option Addr) (lc9 : Nat), e = .returned (.tuple #[.slice la9 A.length lc9, .int .i64 0]) ∧ OwnJ w9.heap.size w6 (.slice la9 A.length lc9) A ∧ LvR t (rs.take q) A ∧ Below w9.heap.size w9 w6) := fun w9 b9 => by
       have hrd : RdI w9 (.slice ra q rc) (rs.take q) := rdS_front (OwnJ.rd (hBr.out.to b9).ro) hlq
       have h9 := vlive_any w9 t (.slice pa pn pc) (.slice ra q rc) (rs.take q) (hBr.out.to b9).own.rd hB.out.big hB.out.rwf hrd (fun r hr => hB.out.rsw r (List.mem_of_mem_take hr)) (by rw [List.length_take]; have := hB.out.l1; omega)
       dsimp only [tv] at h9
       rw [← hrn.out, ← hnn.out] at h9
       refine Calls.mono h9 ?_
       rintro e w6 (⟨_, A, v6, rfl, o6, hA, b6⟩ | ⟨q0, _⟩)
       ·obtain ⟨a6, c6, h6⟩ := (OwnJ.rd o6).slice
        subst h6
        exact ⟨A, a6, c6, rfl, o6, hA, b6⟩
       ·exact absurd (hB.out.lv q).2 q0
      have hcq : (q : Int) ≤ (rc : Int) := by have := hRLc.out.1; omega
      have hcn : q ≤ rc := by have := hRLc.out.1; omega
      clear hTB
      go_upto_region 21 with fail
      go_cut [12, 13] from 86 to 148 (fun vv ee wx => ∃ (A : List Int) (la9 : Option Addr) (lc9 AL : Nat), vv = .slice la9 AL lc9 ∧ ee = .int .i64 0 ∧ Hid (OwnJ wr.heap.size wx (.slice la9 AL lc9) A ∧ LvR t (rs.take q) A ∧ Below wr.heap.size wr wx))
      case first =>
       have b0 : Below wr.heap.size wr wr.drew := below_drewN' wr 1 _
       refine wp_region_fan (fun w9 => w9.cell? ⟨g3, 0, none⟩ = some (.int .i64 root) ∧ w9.cell? ⟨g3, 1, none⟩ = some (.int .i64 next) ∧ w9.cell? ⟨g3, 2, none⟩ = some (.slice pa pn pc)) 9 mixed (by simp) ?_
       generalize wr.drew = c0 at *
       clear A0 A1 A2 AF
       refine fan_take (i := 0) (v := ?_) rfl (by kernel_rfl) (fun _ _ _ _ h => h) (by kernel_rfl) (HS.out _ b0) ?_ ?_
       rotate_left
       ·rintro w9 ⟨t0, t1, t2⟩
        go_simp
        try with_reducible rfl
       try simp only [Act.put, List.setIfInBounds_toArray, List.set_cons_zero, List.set_cons_succ]
       refine fan_take (i := 1) (v := ?_) rfl (by kernel_rfl) (fun _ _ _ _ h => h) (by kernel_rfl) (HS.out _ b0) ?_ ?_
       rotate_left
       ·rintro w9 ⟨t0, t1, t2⟩
        go_simp
        try with_reducible rfl
       try simp only [Act.put, List.setIfInBounds_toArray, List.set_cons_zero, List.set_cons_succ]
       refine fan_take (i := 2) (v := ?_) rfl (by kernel_rfl) (fun _ _ _ _ h => h) (by kernel_rfl) (HS.out _ b0) ?_ ?_
       rotate_left
       ·rintro w9 ⟨t0, t1, t2⟩
        go_simp
        try with_reducible rfl
       try simp only [Act.put, List.setIfInBounds_toArray, List.set_cons_zero, List.set_cons_succ]
       refine fan_take (i := 3) (v := ?_) rfl (by kernel_rfl) (fun _ _ _ _ h => h) (by kernel_rfl) (HS.out _ b0) ?_ ?_
       rotate_left
       ·rintro w9 ⟨t0, t1, t2⟩
        go_simp
        try with_reducible rfl
       try simp only [Act.put, List.setIfInBounds_toArray, List.set_cons_zero, List.set_cons_succ]
       refine fan_one 4 (by kernel_rfl) ?_
       refine fan_step rfl (by kernel_rfl) fun K hK => ?_
       refine wp_call_of 8 _ _ (by rfl) #[.agg #[.int .i64 root, .int .i64 next, .slice pa pn pc], .slice ra q rc] (by simp [Act.eval]) (Tryz.call8 _ _) (KT.out _ b0) ?_
       rintro e c2 ⟨A, la9, lc9, rfl, oA, hA, bF⟩
       have b2 := b0.trans (bF.mono b0.size)
       clear bF
       refine ⟨_, rfl, hK _ _ (HS.out _ b2) ?_⟩
       clear hK K
       try simp only [Act.put, List.setIfInBounds_toArray, List.set_cons_zero, List.set_cons_succ]
       refine fan_take (i := 5) (v := ?_) rfl (by kernel_rfl) (fun _ _ _ _ h => h) (by kernel_rfl) (HS.out _ b2) ?_ ?_
       rotate_left
       ·rintro w9 ⟨t0, t1, t2⟩
        go_simp
        try with_reducible rfl
       try simp only [Act.put, List.setIfInBounds_toArray, List.set_cons_zero, List.set_cons_succ]
       refine fan_take (i := 6) (v := ?_) rfl (by kernel_rfl) (fun _ _ _ _ h => h) (by kernel_rfl) (HS.out _ b2) ?_ ?_
       rotate_left
       ·rintro w9 ⟨t0, t1, t2⟩
        go_simp
        try with_reducible rfl
       try simp only [Act.put, List.setIfInBounds_toArray, List.set_cons_zero, List.set_cons_succ]
       refine fan_take (i := 7) (v := ?_) rfl (by kernel_rfl) (fun _ _ _ _ h => h) (by kernel_rfl) (HS.out _ b2) ?_ ?_
       rotate_left
       ·rintro w9 ⟨t0, t1, t2⟩
        go_simp
        try with_reducible rfl
       try simp only [Act.put, List.setIfInBounds_toArray, List.set_cons_zero, List.set_cons_succ]
       refine fan_one 8 (by kernel_rfl) ?_
       refine fan_step rfl (by kernel_rfl) fun K hK => ?_
       go_simp
       refine hK _ _ (HS.out _ b2) ?_
       clear hK K
       try simp only [Act.put, List.setIfInBounds_toArray, List.set_cons_zero, List.set_cons_succ]
       refine fan_done (by kernel_rfl) ?_
       show wpList _ _ _ _ _ _
       have FIN : Hid (OwnJ wr.heap.size c2 (.slice la9 A.length lc9) A ∧ LvR t (rs.take q) A ∧ Below wr.heap.size wr c2) := ⟨rows_mono oA b0.size, hA, b2⟩
       clear oA hA b2 b0
       go_wp2_with fail
       go_meet
       case rel => exact ⟨A, _, _, _, rfl, rfl, FIN⟩
      case rest =>
       obtain ⟨A, la9, lc9, AL, rfl, rfl, hC0⟩ := hcut
       have hC := hide (And.intro (show AL = A.length by obtain ⟨_, _, e⟩ := (OwnJ.rd hC0.out.1).slice; simp only [Value.slice.injEq] at e; exact e.2.1) hC0.out)
       have hlq' := hide hlq
       clear hC0
       obtain ⟨w6, hw6⟩ : ∃ x, x = wc := ⟨_, rfl⟩
       subst hw6
       have hBc := hide (hBr.out.to hC.out.2.2.2)
       have KN := hide (pnum11_any w6 0)
       clear A0 A1 A2 AF
       go_wp2_with fail
       refine KN.out.mono ?_
       rintro e w7 ⟨rfl, rfl⟩
       clear KN
       have hTB := hBc.out.tb
       rw [← hrn.out, ← hnn.out] at hTB
       obtain ⟨⟨A0, A1, A2⟩, AF⟩ := cells3p hTB
       have hlst : lst ≤ AL := by rw [hC.out.1]; exact hJ.out.2 A hC.out.2.2.1
       have hpag : AL ≤ pn := by rw [hC.out.1, hpn.out]; exact live_le hC.out.2.2.1 (hB.out.lv q).1
       have hd1 : ¬ (AL : Int) < (lst : Int) := by omega
       have hd2 : ¬ (pn : Int) < (AL : Int) := by omega
       have hpb' := hpb.out
       clear hTB
       go_wp2
       clear A0 A1 A2 AF
       go_loopw [14] (fun p wr => ∃ j : Nat, j ≤ q ∧ p = .int .i64 j ∧ Hid (Below w6.heap.size w6 wr)) (fun p _ => q - (intOf p).toNat)
       case atStart => exact ⟨0, Nat.zero_le _, rfl, Below.refl _ _⟩
       case round =>
        obtain ⟨j, hjq, rfl, hJ3⟩ := hrel
        obtain ⟨w8, hw8⟩ : ∃ x, x = wr := ⟨_, rfl⟩
        subst hw8
        by_cases hlj : j < q
        ·have hqj : (j : Int) < (q : Int) := by omega
         have hlj' := hide hlj
         have hj16 : j ≤ 16 := by omega
         have hjR : (j : Int) < (RL : Int) := by omega
         obtain ⟨r, hr⟩ := some_el rs (k := j) (by rw [← hRL.out]; omega)
         obtain ⟨rb, ro9, hra, cr⟩ := (OwnJ.rd (hBc.out.to hJ3.out).ro).intAt hr
         subst hra
         have hrA : Hid (r ≠ 0 → r ∈ A) := fun h0 => live_root hC.out.2.2.1 (hB.out.lv q).1 (List.mem_of_getElem? (by rw [List.getElem?_take_of_lt hlj]; exact hr)) h0
         replace hr := hide hr
         go_wp2
         go_loopw [15, 16] (fun bv p wr => ∃ (i : Nat) (bb : Bool), i ≤ AL ∧ bv = .bool bb ∧ p = .int .i64 i ∧ Hid (Below w8.heap.size w8 wr ∧ bb = ((r == 0) || (A.take i).any (fun x => x == r)))) (fun _ p _ => AL - (intOf p).toNat)
         case atStart => exact ⟨0, _, Nat.zero_le _, rfl, rfl, hide ⟨Below.refl _ _, by simp⟩⟩
         case round =>
          obtain ⟨i, bb, hiA, rfl, rfl, hJ4⟩ := hrel
          obtain ⟨w9, hw9⟩ : ∃ x, x = wr := ⟨_, rfl⟩
          subst hw9
          by_cases hli : i < AL
          ·have hqi : (i : Int) < (AL : Int) := by omega
           obtain ⟨x, hx⟩ := some_el A (k := i) (by rw [← hC.out.1]; exact hli)
           have hOA : OwnJ w6.heap.size w6 (.slice la9 AL lc9) A → True := fun _ => trivial
           have hb69 := hJ3.out.trans (hJ4.out.1.mono hJ3.out.size)
           obtain ⟨xb, xo, hxa, cx⟩ := (OwnJ.rd (rows_to hC.out.2.1 hb69)).intAt hx
           subst hxa
           have cr' := (hJ4.out.1.cell (cell_lt cr)).trans cr
           have hI4 : Hid (∀ (b' : Bool) (w' : World), Below w9.heap.size w9 w' → b' = (bb || (x == r)) → Below w8.heap.size w8 w' ∧ b' = ((r == 0) || (A.take (i + 1)).any (fun x => x == r))) := fun b' w' hw' hb' => by
            refine ⟨hJ4.out.1.trans (hw'.mono hJ4.out.1.size), ?_⟩
            rw [hb', hJ4.out.2, List.take_add_one, hx]
            simp [Bool.or_assoc]
           replace hx := hide hx
           clear hOA hb69
           have bd : Below w9.heap.size w9 w9.drew := below_drewN' w9 1 _
           have d1 := (bd.cell (cell_lt cx)).trans cx
           have d2 := (bd.cell (cell_lt cr')).trans cr'
           have HBD := hide bd
           have hli' := hide hli
           clear bd
           cases bb with
           | true =>
            go_upto_region 31 with fail
            refine wp_region_mid (fun w' => w'.cell? ⟨xb, xo + i, none⟩ = some (.int .i64 x) ∧ w'.cell? ⟨rb, ro9 + j, none⟩ = some (.int .i64 r)) 12 12 mixed (by kernel_rfl) (fun _ _ _ _ h => h) ⟨d1, d2⟩ ?_
            dsimp only [List.take, List.drop]
            iterate 2
             refine take_one (v := ?_) (by rfl) ?_ ?_
             rotate_left
             ·rintro w' ⟨s1, s2⟩
              go_simp
              try with_reducible rfl
             try simp only [Act.put, List.setIfInBounds_toArray, List.set_cons_zero, List.set_cons_succ]
            iterate 9
             refine ⟨undef, .inr ⟨by rfl, rfl⟩, ?_⟩
             try simp only [Act.put, List.setIfInBounds_toArray, List.set_cons_zero, List.set_cons_succ]
            refine take_one (v := ?_) (by rfl) ?_ ?_
            rotate_left
            ·rintro w' ⟨s1, s2⟩
             go_simp
             try with_reducible rfl
            try simp only [Act.put, List.setIfInBounds_toArray, List.set_cons_zero, List.set_cons_succ]
            show wpList _ _ _ _ _ _
            have FIN := hide (hI4.out true w9.drew HBD.out (by simp))
            go_wp2
            go_roundw
            case rel => exact ⟨i + 1, true, hli'.out, rfl, by go_num, FIN⟩
            case measure => have := hli'.out; simp [intOf]; omega
           | false =>
            go_upto_region 31 with fail
            refine wp_region_mid (fun w' => w'.cell? ⟨xb, xo + i, none⟩ = some (.int .i64 x) ∧ w'.cell? ⟨rb, ro9 + j, none⟩ = some (.int .i64 r)) 12 12 mixed (by kernel_rfl) (fun _ _ _ _ h => h) ⟨d1, d2⟩ ?_
            dsimp only [List.take, List.drop]
            iterate 12
             refine take_one (v := ?_) (by rfl) ?_ ?_
             rotate_left
             ·rintro w' ⟨s1, s2⟩
              go_simp
              try with_reducible rfl
             try simp only [Act.put, List.setIfInBounds_toArray, List.set_cons_zero, List.set_cons_succ]
            show wpList _ _ _ _ _ _
            have FIN := hide (hI4.out (x == r) w9.drew HBD.out (by simp))
            go_wp2
            go_roundw
            case rel => exact ⟨i + 1, (x == r), hli'.out, rfl, by go_num, FIN⟩
            case measure => have := hli'.out; simp [intOf]; omega
          ·have hqi : ¬ (i : Int) < (AL : Int) := by omega
           have hbt : bb = true := by
            rw [hJ4.out.2]
            have ht : A.take i = A := List.take_of_length_le (by rw [← hC.out.1]; omega)
            rw [ht]
            by_cases h0 : r = 0
            ·simp [h0]
            ·have := hrA.out h0
             simp only [Bool.or_eq_true, List.any_eq_true]
             exact .inr ⟨r, this, by simp⟩
           subst hbt
           have hb89 := hide (hJ3.out.trans (hJ4.out.1.mono hJ3.out.size))
           go_wp2
           go_roundw
           case rel => exact ⟨j + 1, hlj'.out, by have := hlj'.out; have := hlq'.out; have := hRLc.out.2; go_num, hb89⟩
           case measure => have := hlj'.out; have := hlq'.out; have := hRLc.out.2; simp [intOf]; omega
        ·have hqj : ¬ (j : Int) < (q : Int) := by omega
         have hb9 := hide ((hJ.out.1.trans (hC.out.2.2.2.mono hJ.out.1.size)).trans (hJ3.out.mono (Nat.le_trans hJ.out.1.size hC.out.2.2.2.size)))
         have hnew : Hid (∀ B, LvR t (rs.take (q + 1)) B → AL ≤ B.length) := fun B hBB => by
          rw [hC.out.1]
          refine live_mono hC.out.2.2.1 hBB fun r hr => ?_
          rw [List.take_add_one]
          exact List.mem_append_left _ hr
         have hAL : AL ≤ 65536 := by omega
         go_wp2
         go_roundw
         case rel => exact ⟨q + 1, AL, Nat.succ_le_succ hlq'.out, hAL, rfl, by have := hlq'.out; have := hRLc.out.2; go_num, hide ⟨hb9.out, hnew.out⟩⟩
         case measure => have := hlq'.out; have := hRLc.out.2; simp [intOf]; omega
     ·have hqq : ¬ (q : Int) ≤ (RL : Int) := by omega
      go_wp2
      go_ret
      exact ⟨rfl, BZr.out⟩
set_option maxRecDepth 100000 in
theorem lifted (os : Os) (started : os.Started) (H : Type) (enc : TypeId × Value → H) :
  ReturnsInHanded {} Tryz.checked os 5 .any (Rows.reclaimGrowsSpec.pre6 enc Tryz.prog Tryz.f5 Rows.reclaimGrowsRow.domain false) (Rows.reclaimGrowsSpec.post enc Tryz.prog Tryz.f5 false true false false) := by
 refine returnsInHanded_of_change_sized (C := Tryz.checked) own started (by kernel_rfl) Tryz.func5
  (ChangeSpec.witness6 (enc := enc) (C := Tryz.checked) false ⟨#[], #[.slice none 0 0, .int .i64 0], []⟩ 8 (by kernel_rfl) (by kernel_rfl) (by kernel_rfl) (by kernel_rfl)) ?_
 intro W base args ds gs before hval0 hW hcnd hsz0 _
 have hsz : (DataW.weightsEach Tryz.prog (Tryz.f5.params.toList ++ Rows.reclaimGrowsSpec.plain.varTypes Tryz.prog) (ds ++ gs)).all (· ≤ reachBytes) = true := hsz0
 have hval : ∀ (j : Nat) t v, Tryz.f5.params[j]? = some t → args[j]? = some v → Value.okWide Tryz.prog W .any base t v := hval0
 have hW' := hW
 obtain ⟨p, q, hA0, hV, rfl, hfz, hnd⟩ := hW
 have hA : DataW.TrodAll enc Tryz.prog W 0 (fun _ => true) true Tryz.f5.params.toList args.toList ds p := hA0
 rw [Tryz.params5] at hA hval hsz
 obtain ⟨v0, vs0, d0, ds0, p0, q0, hargs, rfl, rfl, h0, r0⟩ := trodAll_cons hA
 obtain ⟨v1, vs1, d1, ds1, p1, q1, rfl, rfl, rfl, h1, r1⟩ := trodAll_cons r0
 obtain ⟨rfl, rfl, rfl⟩ := trodAll_nil r1
 obtain rfl : args = #[v0, v1] := by cases args; simp_all
 obtain ⟨rfl, rfl⟩ := trodVars_none hV
 obtain ⟨a0, len0, cap0, rfl⟩ := okWide_slice Tryz.underlying49 (hval 0 49 v0 rfl rfl)
 have lt0 : ∀ x ∈ p0, x.block < W.heap.size := by obtain ⟨m, hm⟩ := h0; exact DataW.trod_lt m _ _ _ hm
 have hh0 := h0
 obtain ⟨fu0, hf0⟩ := hh0
 obtain ⟨x0, g0, f0, b0⟩ := open_steps10.opened hf0
 obtain ⟨a1, rfl, rfl, rfl, w1⟩ := open_int Tryz.underlying3 (hval 1 3 v1 rfl rfl) h1
 have m0 := f0 (reach_of hsz (j := 0) rfl rfl)
 clear hA0 hval0 hsz0 hsz
 refine (walk W a0 len0 cap0 x0 g0 m0 a1 w1).mono fun e W' ⟨he, bel⟩ => ?_
 subst he
 exact ⟨_, rfl, _, _, _, [], _, [], hW', trodAll_mk1 (shut_bool Tryz.underlying4 _), (trodAll_cons_mk (Below.trod laidOut (by kernel_rfl) (of_decide_eq_true (by kernel_rfl)) h0 bel lt0) (trodAll_cons_mk (shut_int Tryz.underlying3 w1) trodAll_mk0)), rfl, bel.frame _, fun h => by cases h⟩
theorem over : Rows.reclaimGrowsRow.holds Tryz.pinned (OpenSpec.ofChange Rows.reclaimGrowsSpec) :=
 OpenClaim.holds_of_wide 5 Tryz.f5 rfl rfl rfl rfl rfl rfl rfl ⟨rfl, rfl, rfl, rfl, rfl⟩ rfl rfl rfl rfl rfl (by kernel_rfl) Tryz.func5 (by kernel_rfl)
  (of_decide_eq_true (by kernel_rfl)) (by unfold Func.isWrapper; first | (rw [if_pos (by decide +kernel)]; kernel_rfl) | (rw [if_neg (by decide +kernel)]; exact ⟨rfl, rfl⟩))
  (fun os started H enc _ => lifted os started H enc)
end Go.Proofs.YtpiikmkajckccaaGreat.reclaimGrows
namespace Go.Proofs.YtpiikmkajckccaaGreat
theorem reclaimGrows_holds : Rows.ReclaimGrowsSaid := reclaimGrows.over
end Go.Proofs.YtpiikmkajckccaaGreat
