/- Several texts in one: VPE VU LVTells. -/
import Derived.Deep.QuietTactic
import Derived.BigQuiet
import Derived.Laws.Cover1
import Derived.Test.YtpiikmkajckccaaGreatShelf
import Derived.Test.YtpiikmkajckccaaGreatGoLVTells4
import Derived.Test.YtpiikmkajckccaaGreatGoLVTells6
import Derived.Test.YtpiikmkajckccaaGreatGoLVTells2
import Derived.Test.YtpiikmkajckccaaGreatGoLVTells1
set_option linter.unusedVariables false
set_option linter.unusedSimpArgs false
namespace Go.Proofs.YtpiikmkajckccaaGreat
open Go.RowKit Go.Maps Go.Sort Go.Shelf
theorem mapI_perm {w : World} {bm n : Nat} {m : Int → Option Value} {R : List Int} (h : MapI w bm n m) (hm : ∀ i, (m i).isSome = decide (i ∈ R)) (hn : R.Nodup) (hw : ∀ x ∈ R, (Lit.int .i64 x).wf = true) :
  ∃ D : DataW Value, w.ownsMap Tryz.prog 3 rdH bm n D ∧ R.Perm (intKeys D) ∧ Maps.size D = R.length := by
 obtain ⟨D, hown, hD⟩ := h
 obtain ⟨es, e1, hpw, _⟩ := hown.entries keyI
 obtain ⟨es', e2, hko⟩ := hown.keysOf
 obtain rfl : es = es' := by rw [e1] at e2; simpa using e2
 subst e1
 have hk : ∀ p ∈ es, ∃ x, p.1 = .int .i64 x ∧ (Lit.int .i64 x).wf = true := fun p hp => by
  obtain ⟨v, hv⟩ := hko p hp
  obtain ⟨x, _, hx, hl⟩ := Maps.keyOf_i64 Tryz.underlying3 hv
  exact ⟨x, hx, hl⟩
 have hp : R.Perm (intKeys (.map es)) := perm_intKeys hpw (fun p hp => by obtain ⟨x, h, _⟩ := hk p hp; exact ⟨x, h⟩) hn fun x => by
  by_cases hx : (Lit.int .i64 x).wf = true
  ·rw [(hD x hx).1, hm x]; simp
  ·constructor
   ·intro h; exact absurd (hw x h) hx
   ·intro h
    rw [has_eq, List.any_eq_true] at h
    obtain ⟨p, hp, hs⟩ := h
    obtain ⟨a, ha, hl⟩ := hk p hp
    rw [ha] at hs
    have : a = x := by simpa [Lit.sameKey] using hs
    rw [this] at hl
    exact absurd hl hx
 refine ⟨_, hown, hp, ?_⟩
 have := hp.length_eq
 simpa [intKeys, Maps.size] using this.symm
theorem vsorts (m : Nat) : AnyZI.SortsIn Tryz.prog Tryz.sortedA_ren Fence.wide m :=
 ⟨fun blk off cap ss W hH hblk hsz => callsIn_wide.2 (AnyM.slices_Sort_int Tryz.sortA blk off cap ss W hH hblk hsz),
  fun p cap W => callsIn_wide.2 (AnyM.slices_Sort_int_none Tryz.sortA p cap W)⟩
theorem vkeys_any (w : World) (bm : Nat) : Calls Tryz.prog 25 #[.map (some bm)] w fun e w' =>
  e = .returned (.func (.func 53) #[] #[.pointer (some ⟨w.heap.size, 0, none⟩)]) ∧ w' = w.alloc (.cells #[.map (some bm)] 66) :=
 (callsIn_wide (n := 5)).1 (AnyZI.keys_in Tryz.keysA Fence.wide 5 trivial rfl (some bm) w)
theorem vsorted_any (w : World) (bm n : Nat) (D : DataW Value) (hown : w.ownsMap Tryz.prog 3 rdH bm n D) (hmax : Maps.size D ≤ 65536) {sz : Nat} (hsz : w.heap.size = sz) :
  Calls Tryz.prog 24 #[.func (.func 53) #[] #[.pointer (some ⟨sz, 0, none⟩)]] (w.alloc (.cells #[.map (some bm)] 66)) fun e w' =>
  ∃ (v : Value) (ss A : List Int), e = .returned v ∧ ss.Perm (intKeys D) ∧ A = ss.mergeSort (fun x y => decide (x ≤ y)) ∧ OwnJ w.heap.size w' v A ∧ Below w.heap.size w w' := by
 subst hsz
 have hbl := hown.lt
 have hseq : SeqGives Fence.wide 2 Tryz.prog 53 #[.pointer (some ⟨w.heap.size, 0, none⟩)] encZ (fun ss => ss.Perm (intKeys D)) (Maps.size D) (w.alloc (.cells #[.map (some bm)] 66)) :=
  AnyZI.keys_gives (ρ := Tryz.keysA_ren) { Tryz.keysA with } Fence.wide _ trivial rfl (by omega) w.heap.size bm n D _ (by simp) (by simp) (by
   obtain ⟨es, clock, hb, Ft, hs, hD⟩ := hown
   exact ⟨es, clock, (Below.heap_alloc _ _ bm hbl).trans hb, Ft, hs, hD⟩)
 have cS := AnyZI.sorted_in Tryz.sortedA Fence.wide 5 trivial trivial trivial trivial rfl (by omega) (vsorts _) (enters_of Tryz.func52 (by kernel_rfl) rfl) 53 #[.pointer (some ⟨w.heap.size, 0, none⟩)] trivial (enters_of Tryz.func53 (by kernel_rfl) rfl) _ _ (by rw [maxLen]; omega) (by omega) _ hseq
 change CallsIn _ _ Tryz.prog 24 _ _ _ at cS
 refine ((callsIn_wide (n := 5)).1 cS).mono ?_
 rintro e w' ⟨v, ss, rfl, hS, hrow, hnil, hb⟩
 have hrow' := ownsRow_base_a hrow (show w.heap.size ≤ _ by simp)
 refine ⟨v, ss, _, rfl, hS, rfl, ?_, ((Below.refl _ w).alloc (Nat.le_refl _) _).trans (hb.mono (by simp))⟩
 show World.ownsRow _ _ _ _ _ _ _
 rw [List.length_mergeSort]
 exact hrow'
def LiR (w w' : World) (t : Tr) (rs : List Int) (e : Ending) : Prop :=
 (lvE t rs = 0 ∧ ∃ a v, e = .returned (.tuple #[v, .int .i64 0]) ∧ OwnJ w.heap.size w' v a ∧ LvR t rs a ∧ Below w.heap.size w w') ∨
 (lvE t rs ≠ 0 ∧ e = .returned (.tuple #[.slice none 0 0, .int .i64 (lvE t rs)]) ∧ Below w.heap.size w w')
theorem sort_live {t : Tr} {rs R ss : List Int} (hR : R.Nodup) (hp : ss.Perm R) (hi : ∀ x, x ∈ R ↔ Lv t rs x) : LvR t rs (ss.mergeSort (fun x y => decide (x ≤ y))) := by
 have hq : (ss.mergeSort (fun x y => decide (x ≤ y))).Perm R := (List.mergeSort_perm ss _).trans hp
 refine ⟨?_, fun x => by rw [hq.mem_iff, hi x]⟩
 have h1 : (ss.mergeSort (fun x y => decide (x ≤ y))).Pairwise (fun a b => decide (a ≤ b) = true) := List.pairwise_mergeSort (fun a b c h1 h2 => by simp only [decide_eq_true_eq] at *; omega) (fun a b => by simp only [Bool.or_eq_true, decide_eq_true_eq]; omega) ss
 have h2 : (ss.mergeSort (fun x y => decide (x ≤ y))).Nodup := hq.nodup_iff.2 hR
 have h3 := List.Pairwise.and h1 h2
 exact h3.imp fun {a b} h => by
  have := h.1
  simp only [decide_eq_true_eq] at this
  have := h.2
  omega
set_option maxRecDepth 100000 in
set_option maxHeartbeats 4000000 in
theorem vlive_any (w : World) (t : Tr) (pv rv : Value) (rs : List Int) (h : RdC w pv t.pages) (hx : ∀ x ∈ t.pages, x.2.length ≤ 140737488351232) (hroot : (Lit.int .i64 t.root).wf = true) (hr : RdI w rv rs) (hrw : ∀ r ∈ rs, (Lit.int .i64 r).wf = true) (hrl : rs.length ≤ 9223372036854775807) :
  Calls Tryz.prog 8 #[tv t pv, rv] w fun e w' => LiR w w' t rs e := by
 obtain ⟨W, hW, D, bW, sW⟩ := boxedN w #[.int .i64 t.root, .int .i64 t.next, pv] 28
 have KC := hide (vsearch_any W t pv rv rs (h.to0 bW) hx hroot (hr.to0 bW) hrw hrl)
 obtain ⟨a, c, rfl⟩ := h.slice
 obtain ⟨ra, rc, rfl⟩ := hr.slice
 have HB := hide bW
 obtain ⟨⟨E0, E1, E2⟩, EF⟩ := cells3p D
 obtain ⟨RL, hRL⟩ : ∃ L, L = rs.length := ⟨_, rfl⟩
 rw [← hRL] at KC hrl ⊢
 replace hRL := hide hRL
 dsimp only [tv] at KC ⊢
 rw [hW] at E0 E1 E2 EF KC
 replace hroot := hide hroot
 replace hrw := hide hrw
 replace hx := hide hx
 clear h hr bW D sW
 go_enter Tryz.func8, Tryz.ntmps8
 go_wp2_with fail
 refine KC.out.mono ?_
 rintro e w1 h1
 rw [← hW] at h1
 clear KC E0 E1 E2 EF
 rcases h1 with ⟨h1, bm, R, rfl, v1, i1⟩ | ⟨h1, rfl, b1⟩
 ·have B1 := HB.out.trans (v1.bel.mono HB.out.size)
  obtain ⟨Y, hY, DY, bY, sY⟩ := boxedN w1 #[.slice a t.pages.length c, .map (some bm)] 68
  have vY := v1.to bY
  obtain ⟨m, m1, m2, m3⟩ := vY.map
  obtain ⟨⟨ps0, hps0⟩, _⟩ := (lvE_ok h1).1
  obtain ⟨d0, _, hN, _⟩ := tprs_top hps0
  have hw9 : ∀ x ∈ R, (Lit.int .i64 x).wf = true := fun x hx => by
   have := vY.pg x hx
   cases hp : tpage t.pages x with
   | none => exact absurd hp this
   | some z => exact (tpage_id hN.2.2.1 hN.2.1 hp).2
  obtain ⟨DD, o1, p1, s1⟩ := mapI_perm m1 m2 vY.nod hw9
  have hle : Maps.size DD ≤ 65536 := by
   rw [s1]
   have h5 := vY.len
   have h6 := tups_len hN.2.2.1 hN.1
   have := hN.2.1
   omega
  have KK := hide (vkeys_any Y bm)
  have KS := hide (vsorted_any Y bm R.length DD o1 hle sY)
  have BY := hide (B1.trans (bY.mono B1.size))
  have sY' := hide sY
  obtain ⟨⟨F0, F1⟩, FF⟩ := cells2r DY
  have hF : Hid (∀ ss : List Int, ss.Perm (intKeys DD) → LvR t rs (ss.mergeSort (fun x y => decide (x ≤ y)))) := fun ss hs => sort_live vY.nod (hs.trans p1.symm) i1
  replace h1 := hide h1
  rw [hY] at F0 F1 FF KK KS
  dsimp only [sev]
  clear v1 vY m1 m2 m3 o1 p1 s1 hle hw9 DY bY sY i1 B1 hN hps0
  go_wp2_with fail
  refine KK.out.mono ?_
  rintro e w2 ⟨rfl, rfl⟩
  go_wp2_with fail
  refine KS.out.mono ?_
  rintro e w3 ⟨v, ss, A, rfl, p3, hA, o3, b3⟩
  have hL := hide (hF.out ss p3)
  rw [← hA] at hL
  clear hA
  rw [← hY] at o3 b3
  have O3 := hide (rows_mono o3 BY.out.size)
  have B3 := hide (BY.out.trans (b3.mono BY.out.size))
  obtain ⟨va, vc, rfl⟩ := (OwnJ.rd o3).slice
  clear o3 b3 p3 KK KS F0 F1 FF
  go_wp2
  go_ret2
  exact .inl ⟨h1.out, _, _, rfl, O3.out, hL.out, B3.out⟩
 ·obtain ⟨Y, hY, DY, bY, sY⟩ := boxedN w1 #[.slice none 0 0, .map none] 68
  have B1 := HB.out.trans (b1.mono HB.out.size)
  have BY := hide (B1.trans (bY.mono B1.size))
  obtain ⟨er, her⟩ : ∃ er, er = lvE t rs := ⟨_, rfl⟩
  rw [← her] at h1 ⊢
  replace her := hide her
  rw [hY] at BY
  clear DY bY sY B1 b1 hY
  go_wp2
  go_ret2
  exact .inr ⟨by rw [← her.out]; exact h1, by rw [← her.out]; rfl, BY.out⟩
end Go.Proofs.YtpiikmkajckccaaGreat

namespace Go.Proofs.YtpiikmkajckccaaGreat
open Go.RowKit
theorem lv_exists {t : Tr} {rs : List Int} (h : lvE t rs = 0) : ∃ a, LvR t rs a :=
 ⟨_, upto_live (lvE_ok h).1 (S := seenOf t ++ rs.flatMap fun r => seenOf (atR t r)) (fun x => by unfold Lv; simp [List.mem_append, List.mem_flatMap]) (n := t.next.toNat) (by omega)⟩
structure LvT (t : Tr) (rs A : List Int) (u : Tr) (n : Int) : Prop where
 yes : lvE t rs = 0 → LvR t rs A ∧ u = swT t A ∧ n = (t.pages.length : Int) - ((keepP A t.pages).length : Int)
 no : lvE t rs ≠ 0 → A = [] ∧ u = ⟨0, 0, []⟩ ∧ n = 0
theorem lvT_exists (t : Tr) (rs : List Int) : ∃ A u n, LvT t rs A u n := by
 by_cases h : lvE t rs = 0
 ·obtain ⟨a, ha⟩ := lv_exists h
  exact ⟨a, _, _, ⟨fun _ => ⟨ha, rfl, rfl⟩, fun k => absurd h k⟩⟩
 ·exact ⟨[], _, _, ⟨fun k => absurd k h, fun _ => ⟨rfl, rfl, rfl⟩⟩⟩
theorem LvT.len {t : Tr} {rs A : List Int} {u : Tr} {n : Int} (h : LvT t rs A u n) : u.pages.length ≤ t.pages.length := by
 by_cases k : lvE t rs = 0
 ·rw [(h.yes k).2.1]; exact keep_le _ _
 ·rw [(h.no k).2.1]; exact Nat.zero_le _
theorem vlive_u (w : World) (t : Tr) (pv rv : Value) (rs A : List Int) (u : Tr) (n : Int) (hT : LvT t rs A u n) (h : RdC w pv t.pages) (hx : ∀ x ∈ t.pages, x.2.length ≤ 140737488351232) (hroot : (Lit.int .i64 t.root).wf = true) (hr : RdI w rv rs) (hrw : ∀ r ∈ rs, (Lit.int .i64 r).wf = true) (hrl : rs.length ≤ 9223372036854775807) :
  Calls Tryz.prog 8 #[tv t pv, rv] w fun e w' => ∃ v, e = .returned (.tuple #[v, .int .i64 (lvE t rs)]) ∧ RdI w' v A ∧ Below w.heap.size w w' := by
 refine (vlive_any w t pv rv rs h hx hroot hr hrw hrl).mono ?_
 rintro e w' (⟨h1, a, v, rfl, o, ha, b⟩ | ⟨h1, rfl, b⟩)
 ·obtain rfl := (hT.yes h1).1.eq ha
  exact ⟨v, by rw [h1], OwnJ.rd o, b⟩
 ·rw [(hT.no h1).1]
  exact ⟨_, rfl, rdI_nil w', b⟩
theorem rlive_u (w : World) (t : Tr) (pv rv : Value) (rs A : List Int) (u : Tr) (n : Int) (hT : LvT t rs A u n) (h : RdC w pv t.pages) (hr : RdI w rv rs) (hrl : rs.length ≤ 9223372036854775807) :
  Calls Tryz.prog 9 #[tv t pv, rv] w fun e w' => ∃ v, e = .returned (.tuple #[v, .int .i64 (lvE t rs)]) ∧ RdI w' v A ∧ Below w.heap.size w w' := by
 refine (rlive_any w t pv rv rs h hr hrl).mono ?_
 rintro e w' (⟨h1, a, v, rfl, o, ha, b⟩ | ⟨h1, rfl, b⟩)
 ·obtain rfl := (hT.yes h1).1.eq ha
  exact ⟨v, by rw [h1], OwnJ.rd o, b⟩
 ·rw [(hT.no h1).1]
  exact ⟨_, rfl, rdI_nil w', b⟩
theorem vsweep_u (w : World) (t : Tr) (pv rv : Value) (rs A : List Int) (u : Tr) (n : Int) (hT : LvT t rs A u n) (h : RdC w pv t.pages) (hx : ∀ x ∈ t.pages, x.2.length ≤ 140737488351232) (hroot : (Lit.int .i64 t.root).wf = true) (hr : RdI w rv rs) (hrw : ∀ r ∈ rs, (Lit.int .i64 r).wf = true) (hrl : rs.length ≤ 9223372036854775807) :
  Calls Tryz.prog 10 #[tv t pv, rv] w fun e w' => ∃ v, e = .returned (.tuple #[tv u v, .int .i64 n, .int .i64 (lvE t rs)]) ∧ RdC w' v u.pages ∧ Below w.heap.size w w' := by
 refine (vsweep_any w t pv rv rs h hx hroot hr hrw hrl).mono ?_
 rintro e w' (⟨h1, a, v, ha, rfl, o, b⟩ | ⟨h1, rfl, b⟩)
 ·obtain ⟨k1, rfl, rfl⟩ := hT.yes h1
  obtain rfl := k1.eq ha
  exact ⟨v, by rw [h1], OwnX.rd o, b⟩
 ·obtain ⟨_, rfl, rfl⟩ := hT.no h1
  exact ⟨_, rfl, RdS.nil _ _, b⟩
theorem rsweep_u (w : World) (t : Tr) (pv rv : Value) (rs A : List Int) (u : Tr) (n : Int) (hT : LvT t rs A u n) (h : RdC w pv t.pages) (hr : RdI w rv rs) (hrl : rs.length ≤ 9223372036854775807) :
  Calls Tryz.prog 11 #[tv t pv, rv] w fun e w' => ∃ v, e = .returned (.tuple #[tv u v, .int .i64 n, .int .i64 (lvE t rs)]) ∧ RdC w' v u.pages ∧ Below w.heap.size w w' := by
 refine (rsweep_any w t pv rv rs h hr hrl).mono ?_
 rintro e w' (⟨h1, a, v, ha, rfl, o, b⟩ | ⟨h1, rfl, b⟩)
 ·obtain ⟨k1, rfl, rfl⟩ := hT.yes h1
  obtain rfl := k1.eq ha
  exact ⟨v, by rw [h1], o.rd b, b⟩
 ·obtain ⟨_, rfl, rfl⟩ := hT.no h1
  exact ⟨_, rfl, RdS.nil _ _, b⟩
end Go.Proofs.YtpiikmkajckccaaGreat

namespace Go.Proofs.YtpiikmkajckccaaGreat.reclaimTells
open Go.ChangeShapes Go.WideShapes Go.ChangeAt Go.RowKit
theorem open_intw : Opens SIntL 25 (fun xs => xs.length * 8 ≤ 140737488351232 ∧ ∀ x ∈ xs, (Lit.int .i64 x).wf = true) (fun xs => (xs.map (fun _ => 1)).sum) :=
 (opens_intw Tryz.underlying3 (by kernel_rfl)).list Tryz.underlying25 (by kernel_rfl) (by kernel_rfl) (by decide)
set_option maxRecDepth 100000 in
set_option maxHeartbeats 16000000 in
theorem walk (w : World) (cs0 : Array Value) (x0 : Tr3) (g0 : STree.rd w cs0.toList x0) (m0 : tr3fit x0) (a1 : Option Addr) (len1 cap1 : Nat) (rs : List Int) (g1 : SIntL.rd w [.slice a1 len1 cap1] rs) (m1 : rs.length * 8 ≤ 140737488351232 ∧ ∀ x ∈ rs, (Lit.int .i64 x).wf = true) :
  Calls Tryz.prog 3 #[.agg cs0, .slice a1 len1 cap1] w fun e w' => e = .returned (.bool true) ∧ Below w.heap.size w w' := by
 obtain ⟨pv, he0, R0⟩ := tree_form g0 m0
 rw [he0]
 obtain ⟨hroot, -, hlen, hel⟩ := m0
 obtain ⟨t, ht⟩ : ∃ t, t = trOf x0 := ⟨_, rfl⟩
 have hrt : (Lit.int .i64 t.root).wf = true := by rw [ht]; exact hroot
 have hl : (t.pages.length + 1) * 32 ≤ 140737488355328 := by rw [ht]; show (x0.2.2.length + 1) * 32 ≤ _; omega
 have hx : ∀ x ∈ t.pages, x.2.length ≤ 140737488351232 := by rw [ht]; exact fun x hx => (hel x hx).2
 rw [← ht] at R0 ⊢
 clear ht he0 g0 hroot hlen hel x0 cs0
 obtain ⟨v1, e1, R1⟩ := g1
 obtain rfl : v1 = .slice a1 len1 cap1 := by simpa using e1.symm
 obtain ⟨_, _, e1'⟩ := R1.slice
 simp only [Value.slice.injEq] at e1'
 obtain ⟨rfl, rfl, rfl⟩ := e1'
 have hrs8 := m1.1
 have HRW := hide m1.2
 have hrl : rs.length ≤ 9223372036854775807 := by omega
 obtain ⟨A, u, nn, hT⟩ := lvT_exists t rs
 obtain ⟨a, c, rfl⟩ := R0.slice
 obtain ⟨W, hW, DW, bW, sW⟩ := boxedN w #[.int .i64 t.root, .int .i64 t.next, .slice a t.pages.length c] 24
 have RW := R0.to0 bW
 have KO := hide (pof10_any W t _ RW hl hx)
 dsimp only [tv] at KO ⊢
 obtain ⟨root, hrn⟩ : ∃ z, z = t.root := ⟨_, rfl⟩
 obtain ⟨next, hnn⟩ : ∃ z, z = t.next := ⟨_, rfl⟩
 obtain ⟨N, hN⟩ : ∃ N, N = t.pages.length := ⟨_, rfl⟩
 obtain ⟨RN, hRN⟩ : ∃ N, N = rs.length := ⟨_, rfl⟩
 obtain ⟨er, her⟩ : ∃ z, z = lvE t rs := ⟨_, rfl⟩
 have BW := hide bW
 have HD := hide DW
 have HR := hide RW
 have HQ := hide (R1.to0 bW)
 have HRT := hide hrt
 have HL := hide hl
 have HX := hide hx
 have HTT := hide hT
 obtain ⟨⟨D0, D1, D2⟩, DF⟩ := cells3p DW
 rw [← hRN] at hrs8 hrl HQ ⊢
 rw [← hN] at KO hW HD HR D2 ⊢
 rw [← hrn] at KO hW HD D0 ⊢
 rw [← hnn] at KO hW HD D1 ⊢
 have KI := fun w9 (b9 : Below W.heap.size W w9) => copyInt_sl w9 (.slice a1 RN cap1) rs (HQ.out.to0 b9) (by rw [← hRN]; omega)
 rw [← hRN] at KI
 replace KI := hide KI
 rw [hW] at D0 D1 D2 DF
 rw [hW] at KO
 replace hN := hide hN
 replace hRN := hide hRN
 replace hrn := hide hrn
 replace hnn := hide hnn
 replace her := hide her
 replace hrs8 := hide hrs8
 clear R0 R1 bW DW RW hrt hl hx m1 e1 hT sW
 go_enter Tryz.func3, Tryz.ntmps3
 go_wp2_with fail
 refine KO.out.mono ?_
 rintro e w1 ⟨pv1, rfl, o1, b1⟩
 rw [← hW] at b1
 replace hW := hide hW
 clear KO D0 D1 D2 DF
 obtain ⟨pa, pc, h1⟩ := o1.shape
 try dsimp only at h1
 rw [← hN.out] at h1
 subst h1
 dsimp only
 go_wp2_with fail
 refine (KI.out _ b1).mono ?_
 rintro e w2 ⟨ia, ic, rfl, o2, b2⟩
 clear KI
 -- the tree of the program's own, in its box
 obtain ⟨V, hV, DV, bV, sV⟩ := boxedN w2 #[.int .i64 root, .int .i64 next, .slice pa N pc] 28
 have b12 := b2.trans (bV.mono b2.size)
 have bWV := b1.trans (b12.mono b1.size)
 have HO := hide (OwnX.rd (o1.to9 b12))
 have HI := hide (OwnJ.rd (rows_to o2 bV))
 have HTV := hide ((bWV.block _ (lt_of_block HD.out)).trans HD.out)
 have HOV := hide DV
 have BV := hide (BW.out.trans (bWV.mono BW.out.size))
 have HRV := hide (HR.out.to0 bWV)
 have HQV := hide (HQ.out.to0 bWV)
 obtain ⟨gO, hgO⟩ : ∃ g, g = w2.heap.size := ⟨_, rfl⟩
 rw [← hgO] at HOV
 have K1 : Hid (∀ w9, Below V.heap.size V w9 → Calls Tryz.prog 8 #[.agg #[.int .i64 root, .int .i64 next, .slice pa N pc], .slice ia RN ic] w9 fun e w' => ∃ v, e = .returned (.tuple #[v, .int .i64 er]) ∧ RdI w' v A ∧ Below w9.heap.size w9 w') := fun w9 b9 => by
  have h9 := vlive_u w9 t (.slice pa N pc) (.slice ia RN ic) rs A u nn HTT.out (HO.out.to0 b9) HX.out HRT.out (HI.out.to0 b9) HRW.out (by rw [← hRN.out]; exact hrl)
  dsimp only [tv] at h9
  rw [← hrn.out, ← hnn.out, ← her.out] at h9
  exact h9
 have K2 : Hid (∀ w9, Below V.heap.size V w9 → Calls Tryz.prog 9 #[.agg #[.int .i64 root, .int .i64 next, .slice a N c], .slice a1 RN cap1] w9 fun e w' => ∃ v, e = .returned (.tuple #[v, .int .i64 er]) ∧ RdI w' v A ∧ Below w9.heap.size w9 w') := fun w9 b9 => by
  have h9 := rlive_u w9 t (.slice a N c) (.slice a1 RN cap1) rs A u nn HTT.out (HRV.out.to0 b9) (HQV.out.to0 b9) (by rw [← hRN.out]; exact hrl)
  dsimp only [tv] at h9
  rw [← hrn.out, ← hnn.out, ← her.out] at h9
  exact h9
 have K3 : Hid (∀ w9, Below V.heap.size V w9 → Calls Tryz.prog 10 #[.agg #[.int .i64 root, .int .i64 next, .slice pa N pc], .slice ia RN ic] w9 fun e w' => ∃ v, e = .returned (.tuple #[tv u v, .int .i64 nn, .int .i64 er]) ∧ RdC w' v u.pages ∧ Below w9.heap.size w9 w') := fun w9 b9 => by
  have h9 := vsweep_u w9 t (.slice pa N pc) (.slice ia RN ic) rs A u nn HTT.out (HO.out.to0 b9) HX.out HRT.out (HI.out.to0 b9) HRW.out (by rw [← hRN.out]; exact hrl)
  dsimp only [tv] at h9 ⊢
  rw [← hrn.out, ← hnn.out, ← her.out] at h9
  exact h9
 have K4 : Hid (∀ w9, Below V.heap.size V w9 → Calls Tryz.prog 11 #[.agg #[.int .i64 root, .int .i64 next, .slice a N c], .slice a1 RN cap1] w9 fun e w' => ∃ v, e = .returned (.tuple #[tv u v, .int .i64 nn, .int .i64 er]) ∧ RdC w' v u.pages ∧ Below w9.heap.size w9 w') := fun w9 b9 => by
  have h9 := rsweep_u w9 t (.slice a N c) (.slice a1 RN cap1) rs A u nn HTT.out (HRV.out.to0 b9) (HQV.out.to0 b9) (by rw [← hRN.out]; exact hrl)
  dsimp only [tv] at h9 ⊢
  rw [← hrn.out, ← hnn.out, ← her.out] at h9
  exact h9
 have CT : Hid (∀ w9, Below V.heap.size V w9 → (w9.cell? ⟨w.heap.size, 0, none⟩ = some (.int .i64 root) ∧ w9.cell? ⟨w.heap.size, 1, none⟩ = some (.int .i64 next) ∧ w9.cell? ⟨w.heap.size, 2, none⟩ = some (.slice a N c)) ∧ (w9.cell? ⟨gO, 0, none⟩ = some (.int .i64 root) ∧ w9.cell? ⟨gO, 1, none⟩ = some (.int .i64 next) ∧ w9.cell? ⟨gO, 2, none⟩ = some (.slice pa N pc))) := fun w9 b9 =>
  ⟨(cells3p ((b9.block _ (lt_of_block HTV.out)).trans HTV.out)).1, (cells3p ((b9.block _ (lt_of_block HOV.out)).trans HOV.out)).1⟩
 obtain ⟨⟨A0, A1, A2⟩, C0, C1, C2⟩ := CT.out V (Below.refl _ _)
 rw [hgO] at C0 C1 C2
 have hVr := hide (Below.refl V.heap.size V)
 rw [hV] at A0 A1 A2 C0 C1 C2
 clear o1 o2 b1 b2 bV DV sV b12 bWV
 dsimp only
 go_wp2_with fail
 rw [← hV]
 refine (K1.out _ hVr.out).mono ?_
 rintro e w3 ⟨v3, rfl, r3, b3⟩
 rw [← hgO]
 replace hgO := hide hgO
 replace hV := hide hV
 clear A0 A1 A2 C0 C1 C2 K1 hVr
 obtain ⟨la, lc, hv3⟩ := r3.slice
 obtain ⟨AN, hAN⟩ : ∃ n, n = A.length := ⟨_, rfl⟩
 rw [← hAN] at hv3
 subst hv3
 replace hAN := hide hAN
 have HR3 := hide r3
 have B3 := hide b3
 obtain ⟨⟨A0, A1, A2⟩, C0, C1, C2⟩ := CT.out w3 b3
 clear r3 b3
 dsimp only
 go_wp2_with fail
 refine (K2.out _ B3.out).mono ?_
 rintro e w4 ⟨v4, rfl, r4, b4⟩
 clear A0 A1 A2 C0 C1 C2 K2
 obtain ⟨ma, mc, hv4⟩ := r4.slice
 rw [← hAN.out] at hv4
 subst hv4
 have HR4 := hide r4
 have B4 := hide (B3.out.trans (b4.mono B3.out.size))
 have HR34 := hide (HR3.out.to0 b4)
 obtain ⟨⟨A0, A1, A2⟩, C0, C1, C2⟩ := CT.out w4 B4.out
 clear r4 b4 HR3
 dsimp only
 go_wp2_with fail
 refine (K3.out _ B4.out).mono ?_
 rintro e wd ⟨v5, rfl, r5, b5⟩
 clear A0 A1 A2 C0 C1 C2 K3
 obtain ⟨ca, cc, hv5⟩ := r5.slice
 obtain ⟨UN, hUN⟩ : ∃ n, n = u.pages.length := ⟨_, rfl⟩
 rw [← hUN] at hv5
 subst hv5
 replace hUN := hide hUN
 dsimp only [tv]
 obtain ⟨X, hX, DX, bX, sX⟩ := boxedN wd #[.int .i64 u.root, .int .i64 u.next, .slice ca UN cc] 28
 have b5X := b5.trans (bX.mono b5.size)
 have B5 := hide (B4.out.trans (b5X.mono B4.out.size))
 have HR5 := hide (r5.to0 bX)
 have HRA := hide (HR34.out.to0 b5X)
 have HRB := hide (HR4.out.to0 b5X)
 have HDX := hide DX
 obtain ⟨⟨A0, A1, A2⟩, C0, C1, C2⟩ := CT.out X B5.out
 rw [hX] at A0 A1 A2 C0 C1 C2
 clear r5 b5 DX bX sX b5X HR34 HR4
 go_wp2_with fail
 rw [← hX]
 replace hX := hide hX
 refine (K4.out _ B5.out).mono ?_
 rintro e we ⟨v6, rfl, r6, b6⟩
 clear A0 A1 A2 C0 C1 C2 K4
 obtain ⟨da, dc, hv6⟩ := r6.slice
 rw [← hUN.out] at hv6
 subst hv6
 dsimp only [tv]
 obtain ⟨Y, hY, DY, bY, sY⟩ := boxedN we #[.int .i64 u.root, .int .i64 u.next, .slice da UN dc] 24
 have b6Y := b6.trans (bY.mono b6.size)
 have B6 := hide (B5.out.trans (b6Y.mono B5.out.size))
 have HR6 := hide (r6.to0 bY)
 have HR5' := hide (HR5.out.to0 b6Y)
 have HRA' := hide (HRA.out.to0 b6Y)
 have HRB' := hide (HRB.out.to0 b6Y)
 have HDY := hide DY
 have HDX' := hide ((b6Y.block _ (lt_of_block HDX.out)).trans HDX.out)
 have BT := hide (BV.out.trans (B6.out.mono BV.out.size))
 have KSI := hide (sameInt_any Y (.slice la AN lc) (.slice ma AN mc) A A (by rw [hAN.out]; rw [hAN.out] at HRA'; exact HRA'.out) (by rw [hAN.out]; rw [hAN.out] at HRB'; exact HRB'.out))
 rw [decide_eq_true rfl] at KSI
 have CY : Hid (∀ w9, Below Y.heap.size Y w9 → (w9.cell? ⟨wd.heap.size, 0, none⟩ = some (.int .i64 u.root) ∧ w9.cell? ⟨wd.heap.size, 1, none⟩ = some (.int .i64 u.next) ∧ w9.cell? ⟨wd.heap.size, 2, none⟩ = some (.slice ca UN cc)) ∧ (w9.cell? ⟨we.heap.size, 0, none⟩ = some (.int .i64 u.root) ∧ w9.cell? ⟨we.heap.size, 1, none⟩ = some (.int .i64 u.next) ∧ w9.cell? ⟨we.heap.size, 2, none⟩ = some (.slice da UN dc))) := fun w9 b9 =>
  ⟨(cells3p ((b9.block _ (lt_of_block HDX'.out)).trans HDX'.out)).1, (cells3p ((b9.block _ (lt_of_block HDY.out)).trans HDY.out)).1⟩
 clear r6 b6 DY bY sY b6Y HR5 HRA HRB HDX
 go_wp2_with fail
 rw [← hY]
 replace hY := hide hY
 refine KSI.out.mono ?_
 rintro e w7 ⟨rfl, nd, hw7⟩
 have b7 : Below Y.heap.size Y w7 := by rw [hw7]; exact below_drewN' _ _ _
 have B7 := hide b7
 obtain ⟨⟨E0, E1, E2⟩, F0, F1, F2⟩ := CY.out w7 b7
 obtain ⟨⟨A0, A1, A2⟩, C0, C1, C2⟩ := CT.out w7 (B6.out.trans (b7.mono B6.out.size))
 clear hw7 b7 KSI
 go_wp2_with fail
 refine (pnum11_any _ _).mono ?_
 rintro e w8 ⟨rfl, rfl⟩
 go_wp2_with fail
 refine (pnum11_any _ _).mono ?_
 rintro e w8 ⟨rfl, rfl⟩
 go_wp2
 clear A0 A1 A2 C0 C1 C2 E0 E1 E2 F0 F1 F2
 have hUb : UN ≤ 4398046511104 := by have h1 := HTT.out.len; have h2 := HL.out; rw [hUN.out]; omega
 go_loopw [17] (fun p wr => ∃ k : Nat, k ≤ UN ∧ p = .int .i64 k ∧ Hid (Below Y.heap.size Y wr)) (fun p _ => UN - (intOf p).toNat)
 case atStart => exact ⟨0, Nat.zero_le _, rfl, B7⟩
 case round =>
  obtain ⟨k, hk, rfl, BH⟩ := hrel
  obtain ⟨⟨E0, E1, E2⟩, F0, F1, F2⟩ := CY.out wr BH.out
  by_cases hlt : k < UN
  ·have hq : (k : Int) < (UN : Int) := by omega
   obtain ⟨y, hy⟩ := some_el u.pages (k := k) (by rw [← hUN.out]; exact hlt)
   have Q5 := HR5'.out.to0 BH.out
   have Q6 := HR6.out.to0 BH.out
   obtain ⟨b1, o1, u1, e1, hc1, hc2, hr1⟩ := Q5.wrt hy
   subst e1
   obtain ⟨b2, o2, u2, e2, hd1, hd2, hr2⟩ := Q6.wrt hy
   subst e2
   obtain ⟨z, x⟩ := y
   dsimp only at hc1 hc2 hd1 hd2 hr1 hr2
   obtain ⟨x1, y1, rfl⟩ := hr1.slice
   obtain ⟨x2, y2, rfl⟩ := hr2.slice
   have b0 : Below wr.heap.size wr wr.drew := below_drewN' wr 1 _
   have KS : Hid (∀ w9, Below wr.heap.size wr w9 → Calls Tryz.prog 14 #[.slice x1 x.length y1, .slice x2 x.length y2] w9 fun e w' => e = .returned (.bool true) ∧ Below w9.heap.size w9 w') := fun w9 b9 => by
    have h9 := same_any w9 _ _ x x (hr1.to b9) (hr2.to b9)
    rw [sameB_self] at h9
    refine h9.mono ?_
    rintro e w' ⟨rfl, n9, rfl⟩
    exact ⟨rfl, below_drewN' _ _ _⟩
   obtain ⟨XL, hXL⟩ : ∃ XL, XL = x.length := ⟨_, rfl⟩
   rw [← hXL] at KS hc2 hd2
   have HS : Hid (∀ w9, Below wr.heap.size wr w9 → w9.cell? ⟨wd.heap.size, 2, none⟩ = some (.slice (some ⟨b1, o1, none⟩) UN cc) ∧ w9.cell? ⟨we.heap.size, 2, none⟩ = some (.slice (some ⟨b2, o2, none⟩) UN dc) ∧ w9.cell? ⟨b1, o1 + k * 2, none⟩ = some (.int .i64 z) ∧ w9.cell? ⟨b1, o1 + k * 2 + 1, none⟩ = some (.slice x1 XL y1) ∧ w9.cell? ⟨b2, o2 + k * 2, none⟩ = some (.int .i64 z) ∧ w9.cell? ⟨b2, o2 + k * 2 + 1, none⟩ = some (.slice x2 XL y2)) := fun w9 b9 =>
    ⟨(b9.cell (cell_lt E2)).trans E2, (b9.cell (cell_lt F2)).trans F2, (b9.cell (cell_lt hc1)).trans hc1, (b9.cell (cell_lt hc2)).trans hc2, (b9.cell (cell_lt hd1)).trans hd1, (b9.cell (cell_lt hd2)).trans hd2⟩
   clear Q5 Q6 hr1 hr2 hXL hy
   go_upto_region 11 with fail
   clear E0 E1 E2 F0 F1 F2 hc1 hc2 hd1 hd2
   refine wp_region_sched (fun w9 => w9.cell? ⟨wd.heap.size, 2, none⟩ = some (.slice (some ⟨b1, o1, none⟩) UN cc) ∧ w9.cell? ⟨we.heap.size, 2, none⟩ = some (.slice (some ⟨b2, o2, none⟩) UN dc) ∧ w9.cell? ⟨b1, o1 + k * 2, none⟩ = some (.int .i64 z) ∧ w9.cell? ⟨b1, o1 + k * 2 + 1, none⟩ = some (.slice x1 XL y1) ∧ w9.cell? ⟨b2, o2 + k * 2, none⟩ = some (.int .i64 z) ∧ w9.cell? ⟨b2, o2 + k * 2 + 1, none⟩ = some (.slice x2 XL y2)) [(0, true), (1, true), (2, true), (3, true), (4, true), (5, true), (6, true), (7, true), (8, true), (9, true), (10, true), (11, true), (12, true), (13, true), (14, true), (15, true), (16, true), (17, true), (18, true), (19, true), (20, true), (21, true), (22, true), (23, true), (24, true), (25, true), (26, false), (27, true)] 28 mixed (by kernel_rfl) (fun _ _ _ _ h => h) ?_
   generalize wr.drew = c0 at *
   refine sched_take (v := ?_) rfl (by kernel_rfl) (HS.out _ b0) ?_ ?_
   rotate_left
   ·rintro w9 ⟨q0, q1, q2, q3, q4, q5⟩
    go_simp
    try with_reducible rfl
   try simp only [List.getElem_toArray, List.getElem_cons_succ, List.getElem_cons_zero, List.getElem?_toArray, List.getElem?_cons_succ, List.getElem?_cons_zero, Act.put, List.setIfInBounds_toArray, List.set_cons_zero, List.set_cons_succ]
   refine sched_take (v := ?_) rfl (by kernel_rfl) (HS.out _ b0) ?_ ?_
   rotate_left
   ·rintro w9 ⟨q0, q1, q2, q3, q4, q5⟩
    go_simp
    try with_reducible rfl
   try simp only [List.getElem_toArray, List.getElem_cons_succ, List.getElem_cons_zero, List.getElem?_toArray, List.getElem?_cons_succ, List.getElem?_cons_zero, Act.put, List.setIfInBounds_toArray, List.set_cons_zero, List.set_cons_succ]
   refine sched_take (v := ?_) rfl (by kernel_rfl) (HS.out _ b0) ?_ ?_
   rotate_left
   ·rintro w9 ⟨q0, q1, q2, q3, q4, q5⟩
    go_simp
    try with_reducible rfl
   try simp only [List.getElem_toArray, List.getElem_cons_succ, List.getElem_cons_zero, List.getElem?_toArray, List.getElem?_cons_succ, List.getElem?_cons_zero, Act.put, List.setIfInBounds_toArray, List.set_cons_zero, List.set_cons_succ]
   refine sched_take (v := ?_) rfl (by kernel_rfl) (HS.out _ b0) ?_ ?_
   rotate_left
   ·rintro w9 ⟨q0, q1, q2, q3, q4, q5⟩
    go_simp
    try with_reducible rfl
   try simp only [List.getElem_toArray, List.getElem_cons_succ, List.getElem_cons_zero, List.getElem?_toArray, List.getElem?_cons_succ, List.getElem?_cons_zero, Act.put, List.setIfInBounds_toArray, List.set_cons_zero, List.set_cons_succ]
   refine sched_take (v := ?_) rfl (by kernel_rfl) (HS.out _ b0) ?_ ?_
   rotate_left
   ·rintro w9 ⟨q0, q1, q2, q3, q4, q5⟩
    go_simp
    try with_reducible rfl
   try simp only [List.getElem_toArray, List.getElem_cons_succ, List.getElem_cons_zero, List.getElem?_toArray, List.getElem?_cons_succ, List.getElem?_cons_zero, Act.put, List.setIfInBounds_toArray, List.set_cons_zero, List.set_cons_succ]
   refine sched_take (v := ?_) rfl (by kernel_rfl) (HS.out _ b0) ?_ ?_
   rotate_left
   ·rintro w9 ⟨q0, q1, q2, q3, q4, q5⟩
    go_simp
    try with_reducible rfl
   try simp only [List.getElem_toArray, List.getElem_cons_succ, List.getElem_cons_zero, List.getElem?_toArray, List.getElem?_cons_succ, List.getElem?_cons_zero, Act.put, List.setIfInBounds_toArray, List.set_cons_zero, List.set_cons_succ]
   refine sched_take (v := ?_) rfl (by kernel_rfl) (HS.out _ b0) ?_ ?_
   rotate_left
   ·rintro w9 ⟨q0, q1, q2, q3, q4, q5⟩
    go_simp
    try with_reducible rfl
   try simp only [List.getElem_toArray, List.getElem_cons_succ, List.getElem_cons_zero, List.getElem?_toArray, List.getElem?_cons_succ, List.getElem?_cons_zero, Act.put, List.setIfInBounds_toArray, List.set_cons_zero, List.set_cons_succ]
   refine sched_take (v := ?_) rfl (by kernel_rfl) (HS.out _ b0) ?_ ?_
   rotate_left
   ·rintro w9 ⟨q0, q1, q2, q3, q4, q5⟩
    go_simp
    try with_reducible rfl
   try simp only [List.getElem_toArray, List.getElem_cons_succ, List.getElem_cons_zero, List.getElem?_toArray, List.getElem?_cons_succ, List.getElem?_cons_zero, Act.put, List.setIfInBounds_toArray, List.set_cons_zero, List.set_cons_succ]
   refine sched_take (v := ?_) rfl (by kernel_rfl) (HS.out _ b0) ?_ ?_
   rotate_left
   ·rintro w9 ⟨q0, q1, q2, q3, q4, q5⟩
    go_simp
    try with_reducible rfl
   try simp only [List.getElem_toArray, List.getElem_cons_succ, List.getElem_cons_zero, List.getElem?_toArray, List.getElem?_cons_succ, List.getElem?_cons_zero, Act.put, List.setIfInBounds_toArray, List.set_cons_zero, List.set_cons_succ]
   refine sched_take (v := ?_) rfl (by kernel_rfl) (HS.out _ b0) ?_ ?_
   rotate_left
   ·rintro w9 ⟨q0, q1, q2, q3, q4, q5⟩
    go_simp
    try with_reducible rfl
   try simp only [List.getElem_toArray, List.getElem_cons_succ, List.getElem_cons_zero, List.getElem?_toArray, List.getElem?_cons_succ, List.getElem?_cons_zero, Act.put, List.setIfInBounds_toArray, List.set_cons_zero, List.set_cons_succ]
   refine sched_take (v := ?_) rfl (by kernel_rfl) (HS.out _ b0) ?_ ?_
   rotate_left
   ·rintro w9 ⟨q0, q1, q2, q3, q4, q5⟩
    go_simp
    try with_reducible rfl
   try simp only [List.getElem_toArray, List.getElem_cons_succ, List.getElem_cons_zero, List.getElem?_toArray, List.getElem?_cons_succ, List.getElem?_cons_zero, Act.put, List.setIfInBounds_toArray, List.set_cons_zero, List.set_cons_succ]
   refine sched_take (v := ?_) rfl (by kernel_rfl) (HS.out _ b0) ?_ ?_
   rotate_left
   ·rintro w9 ⟨q0, q1, q2, q3, q4, q5⟩
    go_simp
    try with_reducible rfl
   try simp only [List.getElem_toArray, List.getElem_cons_succ, List.getElem_cons_zero, List.getElem?_toArray, List.getElem?_cons_succ, List.getElem?_cons_zero, Act.put, List.setIfInBounds_toArray, List.set_cons_zero, List.set_cons_succ]
   refine sched_take (v := ?_) rfl (by kernel_rfl) (HS.out _ b0) ?_ ?_
   rotate_left
   ·rintro w9 ⟨q0, q1, q2, q3, q4, q5⟩
    go_simp
    try with_reducible rfl
   try simp only [List.getElem_toArray, List.getElem_cons_succ, List.getElem_cons_zero, List.getElem?_toArray, List.getElem?_cons_succ, List.getElem?_cons_zero, Act.put, List.setIfInBounds_toArray, List.set_cons_zero, List.set_cons_succ]
   refine sched_take (v := ?_) rfl (by kernel_rfl) (HS.out _ b0) ?_ ?_
   rotate_left
   ·rintro w9 ⟨q0, q1, q2, q3, q4, q5⟩
    go_simp
    try with_reducible rfl
   try simp only [List.getElem_toArray, List.getElem_cons_succ, List.getElem_cons_zero, List.getElem?_toArray, List.getElem?_cons_succ, List.getElem?_cons_zero, Act.put, List.setIfInBounds_toArray, List.set_cons_zero, List.set_cons_succ]
   refine sched_take (v := ?_) rfl (by kernel_rfl) (HS.out _ b0) ?_ ?_
   rotate_left
   ·rintro w9 ⟨q0, q1, q2, q3, q4, q5⟩
    go_simp
    try with_reducible rfl
   try simp only [List.getElem_toArray, List.getElem_cons_succ, List.getElem_cons_zero, List.getElem?_toArray, List.getElem?_cons_succ, List.getElem?_cons_zero, Act.put, List.setIfInBounds_toArray, List.set_cons_zero, List.set_cons_succ]
   refine sched_take (v := ?_) rfl (by kernel_rfl) (HS.out _ b0) ?_ ?_
   rotate_left
   ·rintro w9 ⟨q0, q1, q2, q3, q4, q5⟩
    go_simp
    try with_reducible rfl
   try simp only [List.getElem_toArray, List.getElem_cons_succ, List.getElem_cons_zero, List.getElem?_toArray, List.getElem?_cons_succ, List.getElem?_cons_zero, Act.put, List.setIfInBounds_toArray, List.set_cons_zero, List.set_cons_succ]
   refine sched_take (v := ?_) rfl (by kernel_rfl) (HS.out _ b0) ?_ ?_
   rotate_left
   ·rintro w9 ⟨q0, q1, q2, q3, q4, q5⟩
    go_simp
    try with_reducible rfl
   try simp only [List.getElem_toArray, List.getElem_cons_succ, List.getElem_cons_zero, List.getElem?_toArray, List.getElem?_cons_succ, List.getElem?_cons_zero, Act.put, List.setIfInBounds_toArray, List.set_cons_zero, List.set_cons_succ]
   refine sched_take (v := ?_) rfl (by kernel_rfl) (HS.out _ b0) ?_ ?_
   rotate_left
   ·rintro w9 ⟨q0, q1, q2, q3, q4, q5⟩
    go_simp
    try with_reducible rfl
   try simp only [List.getElem_toArray, List.getElem_cons_succ, List.getElem_cons_zero, List.getElem?_toArray, List.getElem?_cons_succ, List.getElem?_cons_zero, Act.put, List.setIfInBounds_toArray, List.set_cons_zero, List.set_cons_succ]
   refine sched_take (v := ?_) rfl (by kernel_rfl) (HS.out _ b0) ?_ ?_
   rotate_left
   ·rintro w9 ⟨q0, q1, q2, q3, q4, q5⟩
    go_simp
    try with_reducible rfl
   try simp only [List.getElem_toArray, List.getElem_cons_succ, List.getElem_cons_zero, List.getElem?_toArray, List.getElem?_cons_succ, List.getElem?_cons_zero, Act.put, List.setIfInBounds_toArray, List.set_cons_zero, List.set_cons_succ]
   refine sched_take (v := ?_) rfl (by kernel_rfl) (HS.out _ b0) ?_ ?_
   rotate_left
   ·rintro w9 ⟨q0, q1, q2, q3, q4, q5⟩
    go_simp
    try with_reducible rfl
   try simp only [List.getElem_toArray, List.getElem_cons_succ, List.getElem_cons_zero, List.getElem?_toArray, List.getElem?_cons_succ, List.getElem?_cons_zero, Act.put, List.setIfInBounds_toArray, List.set_cons_zero, List.set_cons_succ]
   refine sched_take (v := ?_) rfl (by kernel_rfl) (HS.out _ b0) ?_ ?_
   rotate_left
   ·rintro w9 ⟨q0, q1, q2, q3, q4, q5⟩
    go_simp
    try with_reducible rfl
   try simp only [List.getElem_toArray, List.getElem_cons_succ, List.getElem_cons_zero, List.getElem?_toArray, List.getElem?_cons_succ, List.getElem?_cons_zero, Act.put, List.setIfInBounds_toArray, List.set_cons_zero, List.set_cons_succ]
   refine sched_take (v := ?_) rfl (by kernel_rfl) (HS.out _ b0) ?_ ?_
   rotate_left
   ·rintro w9 ⟨q0, q1, q2, q3, q4, q5⟩
    go_simp
    try with_reducible rfl
   try simp only [List.getElem_toArray, List.getElem_cons_succ, List.getElem_cons_zero, List.getElem?_toArray, List.getElem?_cons_succ, List.getElem?_cons_zero, Act.put, List.setIfInBounds_toArray, List.set_cons_zero, List.set_cons_succ]
   refine sched_take (v := ?_) rfl (by kernel_rfl) (HS.out _ b0) ?_ ?_
   rotate_left
   ·rintro w9 ⟨q0, q1, q2, q3, q4, q5⟩
    go_simp
    try with_reducible rfl
   try simp only [List.getElem_toArray, List.getElem_cons_succ, List.getElem_cons_zero, List.getElem?_toArray, List.getElem?_cons_succ, List.getElem?_cons_zero, Act.put, List.setIfInBounds_toArray, List.set_cons_zero, List.set_cons_succ]
   refine sched_take (v := ?_) rfl (by kernel_rfl) (HS.out _ b0) ?_ ?_
   rotate_left
   ·rintro w9 ⟨q0, q1, q2, q3, q4, q5⟩
    go_simp
    try with_reducible rfl
   try simp only [List.getElem_toArray, List.getElem_cons_succ, List.getElem_cons_zero, List.getElem?_toArray, List.getElem?_cons_succ, List.getElem?_cons_zero, Act.put, List.setIfInBounds_toArray, List.set_cons_zero, List.set_cons_succ]
   refine sched_take (v := ?_) rfl (by kernel_rfl) (HS.out _ b0) ?_ ?_
   rotate_left
   ·rintro w9 ⟨q0, q1, q2, q3, q4, q5⟩
    go_simp
    try with_reducible rfl
   try simp only [List.getElem_toArray, List.getElem_cons_succ, List.getElem_cons_zero, List.getElem?_toArray, List.getElem?_cons_succ, List.getElem?_cons_zero, Act.put, List.setIfInBounds_toArray, List.set_cons_zero, List.set_cons_succ]
   refine sched_take (v := ?_) rfl (by kernel_rfl) (HS.out _ b0) ?_ ?_
   rotate_left
   ·rintro w9 ⟨q0, q1, q2, q3, q4, q5⟩
    go_simp
    try with_reducible rfl
   try simp only [List.getElem_toArray, List.getElem_cons_succ, List.getElem_cons_zero, List.getElem?_toArray, List.getElem?_cons_succ, List.getElem?_cons_zero, Act.put, List.setIfInBounds_toArray, List.set_cons_zero, List.set_cons_succ]
   refine sched_run rfl (by kernel_rfl) fun K hK => ?_
   refine wp_call_of 14 _ _ (by rfl) #[.slice x1 XL y1, .slice x2 XL y2] (by simp [Act.eval]) (Tryz.call14 _ _) (KS.out _ b0) ?_
   rintro e v1 ⟨rfl, bb⟩
   have b1' : Below wr.heap.size wr v1 := b0.trans (bb.mono b0.size)
   clear bb
   refine ⟨_, rfl, hK _ _ (HS.out _ b1') ?_⟩
   clear hK K
   try simp only [List.getElem_toArray, List.getElem_cons_succ, List.getElem_cons_zero, List.getElem?_toArray, List.getElem?_cons_succ, List.getElem?_cons_zero, Act.put, List.setIfInBounds_toArray, List.set_cons_zero, List.set_cons_succ]
   refine sched_take (v := ?_) rfl (by kernel_rfl) (HS.out _ b1') ?_ ?_
   rotate_left
   ·rintro w9 ⟨q0, q1, q2, q3, q4, q5⟩
    go_simp
    try with_reducible rfl
   try simp only [List.getElem_toArray, List.getElem_cons_succ, List.getElem_cons_zero, List.getElem?_toArray, List.getElem?_cons_succ, List.getElem?_cons_zero, Act.put, List.setIfInBounds_toArray, List.set_cons_zero, List.set_cons_succ]
   show wpList _ _ _ _ _ _
   try simp only [List.getElem_toArray, List.getElem_cons_succ, List.getElem_cons_zero, Act.put, List.setIfInBounds_toArray, List.set_cons_zero, List.set_cons_succ]
   have B6 := hide (BH.out.trans (b1'.mono BH.out.size))
   clear b0 b1' KS HS
   dsimp only [List.drop]
   go_wp2
   go_roundw
   case rel => exact ⟨k + 1, by omega, by go_num, B6⟩
   case measure => simp [intOf]; omega
  ·have hq : ¬ (k : Int) < (UN : Int) := by omega
   have BE := hide (BT.out.trans (BH.out.mono BT.out.size))
   have BVr := hide (B6.out.trans (BH.out.mono B6.out.size))
   have KSI := hide (sameInt_any wr (.slice ia RN ic) (.slice a1 RN cap1) rs rs (by have := HI.out.to0 BVr.out; rw [hRN.out]; rw [hRN.out] at this; exact this) (by have := HQV.out.to0 BVr.out; rw [hRN.out]; rw [hRN.out] at this; exact this))
   rw [decide_eq_true rfl] at KSI
   go_wp2_with fail
   refine KSI.out.mono ?_
   rintro e w8 ⟨rfl, nd, hw8⟩
   have b8 : Below wr.heap.size wr w8 := by rw [hw8]; exact below_drewN' _ _ _
   have B8 := hide (BE.out.trans (b8.mono BE.out.size))
   clear hw8 b8 KSI E0 E1 E2 F0 F1 F2
   go_wp2_with fail
   refine (palive11_any w8).mono ?_
   rintro e w9 ⟨rfl, b9⟩
   have B9 := hide (B8.out.trans (b9.mono B8.out.size))
   clear b9
   go_wp2
   go_ret
   exact ⟨rfl, B9.out⟩
set_option maxRecDepth 100000 in
theorem lifted (os : Os) (started : os.Started) (H : Type) (enc : TypeId × Value → H) :
  ReturnsInHanded {} Tryz.checked os 3 .any (Rows.reclaimTellsSpec.pre6 enc Tryz.prog Tryz.f3 Rows.reclaimTellsRow.domain false) (Rows.reclaimTellsSpec.post enc Tryz.prog Tryz.f3 false true false false) := by
 refine returnsInHanded_of_change_sized (C := Tryz.checked) own started (by kernel_rfl) Tryz.func3
  (ChangeSpec.witness6 (enc := enc) (C := Tryz.checked) false ⟨#[], #[.agg #[.int .i64 0, .int .i64 0, .slice none 0 0], .slice none 0 0], []⟩ 8 (by kernel_rfl) (by kernel_rfl) (by kernel_rfl) (by kernel_rfl)) ?_
 intro W base args ds gs before hval0 hW hcnd hsz0 _
 have hsz : (DataW.weightsEach Tryz.prog (Tryz.f3.params.toList ++ Rows.reclaimTellsSpec.plain.varTypes Tryz.prog) (ds ++ gs)).all (· ≤ reachBytes) = true := hsz0
 have hval : ∀ (j : Nat) t v, Tryz.f3.params[j]? = some t → args[j]? = some v → Value.okWide Tryz.prog W .any base t v := hval0
 have hW' := hW
 obtain ⟨p, q, hA0, hV, rfl, hfz, hnd⟩ := hW
 have hA : DataW.TrodAll enc Tryz.prog W 0 (fun _ => true) true Tryz.f3.params.toList args.toList ds p := hA0
 rw [Tryz.params3] at hA hval hsz
 obtain ⟨v0, vs0, d0, ds0, p0, q0, hargs, rfl, rfl, h0, r0⟩ := trodAll_cons hA
 obtain ⟨v1, vs1, d1, ds1, p1, q1, rfl, rfl, rfl, h1, r1⟩ := trodAll_cons r0
 obtain ⟨rfl, rfl, rfl⟩ := trodAll_nil r1
 obtain rfl : args = #[v0, v1] := by cases args; simp_all
 obtain ⟨rfl, rfl⟩ := trodVars_none hV
 obtain ⟨cs0, rfl, _⟩ := okWide_struct Tryz.underlying24 (hval 0 24 v0 rfl rfl)
 have lt0 : ∀ x ∈ p0, x.block < W.heap.size := by obtain ⟨m, hm⟩ := h0; exact DataW.trod_lt m _ _ _ hm
 have hh0 := h0
 obtain ⟨fu0, hf0⟩ := hh0
 obtain ⟨x0, g0, f0, b0⟩ := open_tree.opened hf0
 obtain ⟨a1, len1, cap1, rfl⟩ := okWide_slice Tryz.underlying25 (hval 1 25 v1 rfl rfl)
 have lt1 : ∀ x ∈ p1, x.block < W.heap.size := by obtain ⟨m, hm⟩ := h1; exact DataW.trod_lt m _ _ _ hm
 have hh1 := h1
 obtain ⟨fu1, hf1⟩ := hh1
 obtain ⟨x1, g1, f1, b1⟩ := open_intw.opened hf1
 have m0 := f0 (reach_of hsz (j := 0) rfl rfl)
 have m1 := f1 (reach_of hsz (j := 1) rfl rfl)
 clear hA0 hval0 hsz0 hsz
 refine (walk W cs0 x0 g0 m0 a1 len1 cap1 x1 g1 m1).mono fun e W' ⟨he, bel⟩ => ?_
 subst he
 exact ⟨_, rfl, _, _, _, [], _, [], hW', trodAll_mk1 (shut_bool Tryz.underlying4 _), (trodAll_cons_mk (Below.trod laidOut (by kernel_rfl) (of_decide_eq_true (by kernel_rfl)) h0 bel lt0) (trodAll_cons_mk (Below.trod laidOut (by kernel_rfl) (of_decide_eq_true (by kernel_rfl)) h1 bel lt1) trodAll_mk0)), rfl, bel.frame _, fun h => by cases h⟩
theorem over : Rows.reclaimTellsRow.holds Tryz.pinned (OpenSpec.ofChange Rows.reclaimTellsSpec) :=
 OpenClaim.holds_of_wide 3 Tryz.f3 rfl rfl rfl rfl rfl rfl rfl ⟨rfl, rfl, rfl, rfl, rfl⟩ rfl rfl rfl rfl rfl (by kernel_rfl) Tryz.func3 (by kernel_rfl)
  (of_decide_eq_true (by kernel_rfl)) (by unfold Func.isWrapper; first | (rw [if_pos (by decide +kernel)]; kernel_rfl) | (rw [if_neg (by decide +kernel)]; exact ⟨rfl, rfl⟩))
  (fun os started H enc _ => lifted os started H enc)
end Go.Proofs.YtpiikmkajckccaaGreat.reclaimTells
namespace Go.Proofs.YtpiikmkajckccaaGreat
theorem reclaimTells_holds : Rows.ReclaimTellsSaid := reclaimTells.over
end Go.Proofs.YtpiikmkajckccaaGreat
