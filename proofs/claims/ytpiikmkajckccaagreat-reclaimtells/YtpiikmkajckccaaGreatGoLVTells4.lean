/- Several texts in one: TPD TPE TQB VPC VRA VPD TOf TPF TQC TQI TQD TQE TQF TPG TPH TAl TRk TCut TMid TRow TBr TRep TReq TRes. -/
import Derived.Deep.QuietTactic
import Derived.BigQuiet
import Derived.Laws.Cover1
import Derived.Test.YtpiikmkajckccaaGreatGoLVTells3
import Derived.Test.YtpiikmkajckccaaGreatGoLVTells2
import Derived.Deep.LoopGhost
import Derived.OwnWalkIn
import Derived.Test.YtpiikmkajckccaaGreatGoLVTells1
import Derived.Laws.StructEq
import Derived.Laws.CopyOwn
import Derived.Laws.OwnMore
import Derived.Lib.AppendZerosOnto
import Derived.Lib.Overlaps
import Derived.Laws.Externs
set_option linter.unusedVariables false
set_option linter.unusedSimpArgs false
namespace Go.Proofs.YtpiikmkajckccaaGreat
open Go.RowKit
def RchR (w0 w w' : World) (B g bm : Nat) (t : Tr) (pv : Value) (o : Option Sw) (e : Ending) : Prop := ∃ R : Bool, e = .returned (.bool R) ∧ KpM g bm w w' ∧
 ((R = true ∧ ∃ s' m', o = some s' ∧ s'.prs.length ≤ 4096 ∧ PWk w0 w' B g bm t pv s' m') ∨ (R = false ∧ ∀ s', o = some s' → 4096 < s'.prs.length))
theorem RchR.no {w0 w w' : World} {B g bm : Nat} {t : Tr} {pv : Value} {o : Option Sw} {b : Bool} (hb : b = false) (h : KpM g bm w w') (ho : o = none) : RchR w0 w w' B g bm t pv o (.returned (.bool b)) :=
 ⟨false, by rw [hb], h, .inr ⟨rfl, fun s' e => by rw [ho] at e; cases e⟩⟩
theorem leaf_fin {o : Option Sw} {s : Sw} {nd : Nd} {f : Nat} {id d : Int} (hW : o = if nd.keys = [] ∨ (s.dep ≠ none ∧ s.dep ≠ some f) then none else some ⟨id :: s.seen, some f, s.prs ++ npr nd⟩) (hlv : nd.vals.length = nd.keys.length) (hdep : s.dep = none ↔ s.prs = [])
  (hd : d = 16 - (f : Int)) {D : Int} (hD : D = match s.dep with | none => 0 | some f => 16 - (f : Int)) :
  ((0 < nd.keys.length ∧ d = (if s.prs.length = 0 then d else D) ∧ s.prs.length + nd.keys.length ≤ 4096) → o = some ⟨id :: s.seen, some f, s.prs ++ npr nd⟩ ∧ (s.prs ++ npr nd).length ≤ 4096) ∧
  (¬ (0 < nd.keys.length ∧ d = (if s.prs.length = 0 then d else D) ∧ s.prs.length + nd.keys.length ≤ 4096) → ∀ s', o = some s' → 4096 < s'.prs.length) := by
 have hl : (s.prs ++ npr nd).length = s.prs.length + nd.keys.length := by rw [List.length_append, npr, List.length_zip, hlv, Nat.min_self]
 refine ⟨fun ⟨h1, h2, h3⟩ => ?_, fun h s' hs' => ?_⟩
 ·refine ⟨?_, by omega⟩
  rw [hW, if_neg]
  rintro (h4 | ⟨h4, h5⟩)
  ·rw [h4] at h1; simp at h1
  ·by_cases h0 : s.prs.length = 0
   ·exact h4 (hdep.2 (List.eq_nil_of_length_eq_zero h0))
   ·rw [if_neg h0] at h2
    cases hd2 : s.dep with
    | none => exact h4 hd2
    | some f' =>
     rw [hd2] at hD
     dsimp only at hD
     exact h5 (by rw [hd2]; congr 1; omega)
 ·rw [hW] at hs'
  split at hs'
  ·cases hs'
  ·rename_i hc
   simp only [Option.some.injEq] at hs'
   subst hs'
   show 4096 < (s.prs ++ npr nd).length
   rw [hl]
   apply Nat.lt_of_not_le
   intro h5
   refine h ⟨?_, ?_, h5⟩
   ·apply Nat.pos_of_ne_zero
    intro h6
    exact hc (.inl (List.eq_nil_of_length_eq_zero h6))
   ·by_cases h0 : s.prs.length = 0
    ·rw [if_pos h0]
    ·rw [if_neg h0]
     cases hd2 : s.dep with
     | none => exact absurd (by rw [hdep.1 hd2]; rfl) h0
     | some f' =>
      rw [hd2] at hD
      dsimp only at hD
      by_cases ef : f' = f
      ·subst ef; omega
      ·exact absurd (.inr ⟨by rw [hd2]; simp, by rw [hd2]; simpa using ef⟩) hc
theorem wk_outs {l : List Wrt} {f : Nat} {id : Int} {lo : Str} {hi : Option Str} {s : Sw} {x : List UInt8} (hx : tpage l id = some x) (h : (ndec x).1.keys.all (kin lo hi) = false) : wk l f id lo hi s = none := by
 cases f with
 | zero => rfl
 | succ f => unfold wk; rw [hx]; simp [h]
set_option maxRecDepth 100000 in
set_option maxHeartbeats 4000000 in
theorem preach_any (w0 : World) (t : Tr) (pv : Value) (B g bm : Nat) (hN : 1 ≤ t.next ∧ t.next ≤ 65536) (hU : tups t.next t.pages t.pages.length) :
  ∀ (f : Nat), f ≤ 16 → ∀ (w : World) (s : Sw) (m : Int → Option Value) (id : Int) (lo : Str) (hi : Option Str), PWk w0 w B g bm t pv s m → s.prs.length ≤ 4096 → B ≤ w.heap.size → HiOk hi → (Lit.int .i64 id).wf = true →
  Calls Tryz.prog 59 #[.pointer (some ⟨g, 0, none⟩), .int .i64 id, .int .i64 (17 - (f : Int)), sv lo hi] w fun e w' => RchR w0 w w' B g bm t pv (wk t.pages f id lo hi s) e := by
 intro f
 induction f with
 | zero =>
  intro hf w s m id lo hi H hs4 hBw hh hid
  obtain ⟨root, next, ps⟩ := t
  obtain ⟨a, c, rfl⟩ := H.pg.slice
  have lp : ps.length ≤ 65536 := by have := tups_len hU hN.1; dsimp only at this hN; omega
  obtain ⟨dep, hdep⟩ : ∃ d : Int, d = 17 - ((0 : Nat) : Int) := ⟨_, rfl⟩
  dsimp only [sv]
  obtain ⟨hs, hhs⟩ : ∃ x, x = hi.getD [] := ⟨_, rfl⟩
  rw [← hdep, ← hhs]
  have hd16 : dep > 16 := by omega
  replace hdep := hide hdep
  replace hhs := hide hhs
  obtain ⟨W, hW, DW, bW, sW⟩ := boxedN w #[st lo, st hs] 94
  have HW := H.to bW
  have KP := hide (pdata_at w0 W _ ⟨root, next, ps⟩ id HW.pg HW.bel (tups_up hU) lp)
  obtain ⟨⟨C0, C1, C2, C3⟩, ⟨C4, C5⟩, CF⟩ := HW.cell
  dsimp only at C0 C1 C2 C3 C4 C5 hN
  rw [hW] at C0 C1 C2 C3 C4 C5 CF KP
  replace H := hide H
  replace HW := hide HW
  replace hU := hide hU
  replace lp := hide lp
  replace hN := hide hN
  replace hh := hide hh
  replace hid := hide hid
  replace hBw := hide hBw
  replace hs4 := hide hs4
  have BW := hide bW
  have DW' := hide DW
  clear bW DW
  go_enter Tryz.func59, Tryz.ntmps59
  go_wp2_with fail
  refine KP.out.mono ?_
  rintro e w1 ⟨bv, ok, rfl, hp, b1⟩
  rw [← hW] at b1
  clear C0 C1 C2 C3 C4 C5 CF KP
  replace hW := hide hW
  have H1 := HW.out.to b1
  have K1 := hide (KpM.of (g := g) (m := bm) (BW.out.trans (b1.mono BW.out.size)))
  have S1 := hide ((b1.block _ (lt_of_block DW'.out)).trans DW'.out)
  obtain ⟨⟨C0, C1, C2, C3⟩, ⟨C4, C5⟩, CF⟩ := H1.cell
  dsimp only at C0 C1 C2 C3 C4 C5
  have hlk := H1.map.look Tryz.underlying107 (zeroNd w1) hid.out true
  simp only [if_true] at hlk
  by_cases hin : id ∈ s.seen
  ·have hs2 : (m id).isSome = true := by rw [H1.has]; exact decide_eq_true hin
   obtain ⟨v, hv⟩ := Option.isSome_iff_exists.1 hs2
   obtain ⟨x, nd, kv, vv, dv, _, _, rfl, ho, _⟩ := H1.nds id v hv
   rw [hv] at hlk
   have hz : Hid (wk ps 0 id lo hi s = none) := wk_seen hin
   dsimp only [Option.getD, Option.isSome, nv] at hlk
   obtain ⟨ka, kc, va, vc, da, dc, rfl, rfl, rfl⟩ := ho.rd.slices
   replace hin := hide hin
   replace hp := hide hp
   replace hv := hide hv
   obtain ⟨V, hV, DV, bV, sV⟩ := boxedN w1 #[.bool nd.leaf, .slice ka nd.keys.length kc, .slice va nd.vals.length vc, .slice da nd.kids.length dc] 98
   have KV := hide (K1.out.trans (KpM.of bV))
   rw [hV] at KV
   clear hs2 ho DV bV sV hV
   go_wp2
   go_ret
   exact RchR.no rfl KV.out hz.out
  ·have hs2 : m id = none := by
    have h1 := H1.has id
    rw [decide_eq_false hin] at h1
    cases hm : m id with
    | none => rfl
    | some v => rw [hm] at h1; cases h1
   rw [hs2] at hlk
   dsimp only [Option.getD, Option.isSome] at hlk
   obtain ⟨V, hV, DV, bV, sV⟩ := boxedN w1 #[.bool false, .slice none 0 0, .slice none 0 0, .slice none 0 0] 98
   have KV := hide (K1.out.trans (KpM.of bV))
   have HV := hide (H1.to bV)
   have SV := hide ((bV.block _ (lt_of_block S1.out)).trans S1.out)
   replace hs2 := hide hs2
   clear DV bV H1 K1 S1
   cases ok with
   | false =>
    have hz : Hid (wk ps 0 id lo hi s = none) := by
     refine wk_none ?_
     rcases hp with ⟨o, _⟩ | ⟨_, o, _⟩
     ·cases o
     ·exact o
    rw [hV] at KV
    clear hp
    replace hin := hide hin
    go_wp2
    go_ret
    exact RchR.no rfl KV.out hz.out
   | true =>
    replace hp := hide hp
    replace hin := hide hin
    rw [hV] at KV
    go_wp2
    go_ret
    exact RchR.no rfl KV.out rfl
 | succ f ih =>
  intro hf w s m id lo hi H hs4 hBw hh hid
  obtain ⟨root, next, ps⟩ := t
  obtain ⟨a, c, rfl⟩ := H.pg.slice
  have lp : ps.length ≤ 65536 := by have := tups_len hU hN.1; dsimp only at this hN; omega
  obtain ⟨dep, hdep⟩ : ∃ d : Int, d = 17 - ((f + 1 : Nat) : Int) := ⟨_, rfl⟩
  dsimp only [sv]
  obtain ⟨hs, hhs⟩ : ∃ x, x = hi.getD [] := ⟨_, rfl⟩
  rw [← hdep, ← hhs]
  have hd16 : ¬ dep > 16 := by omega
  replace hdep := hide hdep
  replace hhs := hide hhs
  obtain ⟨W, hW, DW, bW, sW⟩ := boxedN w #[st lo, st hs] 94
  have HW := H.to bW
  have KP := hide (pdata_at w0 W _ ⟨root, next, ps⟩ id HW.pg HW.bel (tups_up hU) lp)
  obtain ⟨⟨C0, C1, C2, C3⟩, ⟨C4, C5⟩, CF⟩ := HW.cell
  dsimp only at C0 C1 C2 C3 C4 C5 hN
  rw [hW] at C0 C1 C2 C3 C4 C5 CF KP
  replace H := hide H
  replace HW := hide HW
  replace hU := hide hU
  replace ih := hide ih
  replace lp := hide lp
  replace hN := hide hN
  replace hh := hide hh
  replace hid := hide hid
  replace hBw := hide hBw
  replace hs4 := hide hs4
  have BW := hide bW
  have DW' := hide DW
  clear bW DW
  go_enter Tryz.func59, Tryz.ntmps59
  go_wp2_with fail
  refine KP.out.mono ?_
  rintro e w1 ⟨bv, ok, rfl, hp, b1⟩
  rw [← hW] at b1
  clear C0 C1 C2 C3 C4 C5 CF KP
  replace hW := hide hW
  have H1 := HW.out.to b1
  have K1 := hide (KpM.of (g := g) (m := bm) (BW.out.trans (b1.mono BW.out.size)))
  have S1 := hide ((b1.block _ (lt_of_block DW'.out)).trans DW'.out)
  obtain ⟨⟨C0, C1, C2, C3⟩, ⟨C4, C5⟩, CF⟩ := H1.cell
  dsimp only at C0 C1 C2 C3 C4 C5
  have hlk := H1.map.look Tryz.underlying107 (zeroNd w1) hid.out true
  simp only [if_true] at hlk
  by_cases hin : id ∈ s.seen
  ·have hs2 : (m id).isSome = true := by rw [H1.has]; exact decide_eq_true hin
   obtain ⟨v, hv⟩ := Option.isSome_iff_exists.1 hs2
   obtain ⟨x, nd, kv, vv, dv, _, _, rfl, ho, _⟩ := H1.nds id v hv
   rw [hv] at hlk
   have hz : Hid (wk ps (f + 1) id lo hi s = none) := wk_seen hin
   dsimp only [Option.getD, Option.isSome, nv] at hlk
   obtain ⟨ka, kc, va, vc, da, dc, rfl, rfl, rfl⟩ := ho.rd.slices
   replace hin := hide hin
   replace hp := hide hp
   replace hv := hide hv
   obtain ⟨V, hV, DV, bV, sV⟩ := boxedN w1 #[.bool nd.leaf, .slice ka nd.keys.length kc, .slice va nd.vals.length vc, .slice da nd.kids.length dc] 98
   have KV := hide (K1.out.trans (KpM.of bV))
   rw [hV] at KV
   clear hs2 ho DV bV sV hV
   go_wp2
   go_ret
   exact RchR.no rfl KV.out hz.out
  ·have hs2 : m id = none := by
    have h1 := H1.has id
    rw [decide_eq_false hin] at h1
    cases hm : m id with
    | none => rfl
    | some v => rw [hm] at h1; cases h1
   rw [hs2] at hlk
   dsimp only [Option.getD, Option.isSome] at hlk
   obtain ⟨V, hV, DV, bV, sV⟩ := boxedN w1 #[.bool false, .slice none 0 0, .slice none 0 0, .slice none 0 0] 98
   have KV := hide (K1.out.trans (KpM.of bV))
   have HV := hide (H1.to bV)
   have SV := hide ((bV.block _ (lt_of_block S1.out)).trans S1.out)
   replace hs2 := hide hs2
   clear DV bV H1 K1 S1
   cases ok with
   | false =>
    have hz : Hid (wk ps (f + 1) id lo hi s = none) := by
     refine wk_none ?_
     rcases hp with ⟨o, _⟩ | ⟨_, o, _⟩
     ·cases o
     ·exact o
    rw [hV] at KV
    clear hp
    replace hin := hide hin
    go_wp2
    go_ret
    exact RchR.no rfl KV.out hz.out
   | true =>
    obtain ⟨x, hx, hr⟩ : ∃ x, tpage ps id = some x ∧ Rd w0 bv x := by
     rcases hp with ⟨_, o⟩ | ⟨o, _⟩
     ·exact o
     ·cases o
    clear hp
    replace hin := hide hin
    have KD := hide (pdecD_any V bv x (hr.to HV.out.bel))
    replace hx := hide hx
    clear hr
    rw [hV] at KD
    go_wp2_with fail
    refine KD.out.mono ?_
    rintro e w3 ⟨kv, vv, dv, rfl, hon, b3, hdj⟩
    replace hdj := hide hdj
    rw [← hV] at b3 hon
    clear C0 C1 C2 C3 C4 C5 CF hlk KD
    replace hV := hide hV
    obtain ⟨nd, hnd⟩ : ∃ nd, nd = (ndec x).1 := ⟨_, rfl⟩
    obtain ⟨err, herr⟩ : ∃ err, err = (ndec x).2 := ⟨_, rfl⟩
    rw [← hnd] at hon ⊢
    rw [← herr]
    obtain ⟨U, hUU, DU, bU, sU⟩ := boxedN w3 #[.bool nd.leaf, kv, vv, dv] 98
    have bb := b3.trans (bU.mono b3.size)
    have HU1 := hide (HV.out.to bb)
    have KU := hide (KV.out.trans (KpM.of bb))
    have SU := hide ((bb.block _ (lt_of_block SV.out)).trans SV.out)
    have hBV : B ≤ V.heap.size := Nat.le_trans hBw.out KV.out.2.1
    have ON := hide ((hon.to bU).mono hBV)
    have hnb : Hid (B ≤ w3.heap.size ∧ B ≤ w.heap.size) := ⟨Nat.le_trans hBV b3.size, hBw.out⟩
    obtain ⟨⟨E0, E1, E2, E3⟩, EF⟩ := cells4 DU
    obtain ⟨ka, kc, va, vc, da, dc, rfl, rfl, rfl⟩ := hon.rd.slices
    obtain ⟨⟨S0, S1⟩, _⟩ := cells2r SU.out
    obtain ⟨⟨C0, C1, C2, C3⟩, ⟨C4, C5⟩, CF⟩ := HU1.out.cell
    dsimp only at C0 C1 C2 C3 C4 C5
    have KC := hide (pcont_any U lo hi hh.out _ nd.keys ON.out.rd.keys)
    dsimp only [sv] at KC
    rw [← hhs.out, hUU] at KC
    have DU' := hide DU
    rw [hUU] at E0 E1 E2 E3 S0 S1 C0 C1 C2 C3 C4 C5 CF
    have hfr := hide (rows_new HV.out.nds hon)
    clear DU b3 bU bb hon KV HV SV hBV
    by_cases he : err = 0
    ·subst he
     have hd : Hid (ndec x = (nd, 0)) := by show _ = _; rw [hnd, herr]
     replace hnd := hide hnd
     replace herr := hide herr
     go_wp2_with fail
     refine KC.out.mono ?_
     rintro e w4 ⟨R, rfl, hR, b4⟩
     rw [← hUU] at b4
     clear E0 E1 E2 E3 S0 S1 C0 C1 C2 C3 C4 C5 CF KC
     replace hUU := hide hUU
     have H4 := hide (HU1.out.to b4)
     have K4 := hide (KU.out.trans (KpM.of b4))
     have N4 := hide (ON.out.to b4)
     have D4 := hide ((b4.block _ (lt_of_block DU'.out)).trans DU'.out)
     have S4 := hide ((b4.block _ (lt_of_block SU.out)).trans SU.out)
     clear HU1 KU ON DU' SU b4
     cases R with
     | true =>
      have hz : Hid (wk ps (f + 1) id lo hi s = none) := wk_outs hx.out (by rw [← hnd.out]; exact hR.1 rfl)
      clear hR
      go_wp2
      go_ret
      exact RchR.no rfl K4.out hz.out
     | false =>
      have hall : Hid (nd.keys.all (kin lo hi) = true) := by
       show _ = _
       cases hq : nd.keys.all (kin lo hi) with
       | true => rfl
       | false => have := hR.2 hq; cases this
      clear hR
      have hb1 := hide (tpage_bd hU.out hx.out)
      have hlen : Hid (s.seen.length < maxLen) := by
       have := nodup_len 65536 s.seen H4.out.ok.1 (fun i hi => by have h1 := H4.out.ok.2.1 i hi; have h2 := hN.out; dsimp only at h1; omega)
       show _ < _
       unfold maxLen; omega
      have bD : Below w4.heap.size w4 w4.drew := below_drewN' w4 1 _
      have HD := H4.out.to bD
      obtain ⟨w5, hrun, hmap, hgr⟩ := HD.map.store Tryz.underlying107 hlen.out hid.out (nv nd (.slice ka nd.keys.length kc) (.slice va nd.vals.length vc) (.slice da nd.kids.length dc))
      have ND : NdOf ps B w4.drew id (nv nd (.slice ka nd.keys.length kc) (.slice va nd.vals.length vc) (.slice da nd.kids.length dc)) := ⟨x, nd, _, _, _, hx.out, hd.out, rfl, N4.out.to bD, hdj.out⟩
      obtain ⟨P5, k5⟩ := HD.see hgr hmap hb1.out hin.out ND hfr.out
      have DD := (bD.block _ (lt_of_block D4.out)).trans D4.out
      obtain ⟨⟨E0, E1, E2, E3⟩, EF⟩ := cells4 DD
      obtain ⟨⟨C0, C1, C2, C3⟩, ⟨C4, C5⟩, CF⟩ := HD.cell
      have hgn : Hid (g < B ∧ bm < B) := ⟨H4.out.hg.2, H4.out.hm.2⟩
      have N5 := hide (k5.node (N4.out.to bD) hgn.out.1 hgn.out.2)
      have D5 := hide ((k5.1 _ (lt_of_block DD) (by have := hgn.out; have := hnb.out; omega) (by have := hgn.out; have := hnb.out; omega)).trans DD)
      have SD := (bD.block _ (lt_of_block S4.out)).trans S4.out
      have S5 := hide ((k5.1 _ (lt_of_block SD) (by have := hgn.out; have := hnb.out; omega) (by have := hgn.out; have := hnb.out; omega)).trans SD)
      have K5 := hide ((K4.out.trans (KpM.of bD)).trans k5)
      obtain ⟨m5, P5⟩ : ∃ m5, PWk w0 w5 B g bm ⟨root, next, ps⟩ (.slice a ps.length c) ⟨id :: s.seen, s.dep, s.prs⟩ m5 := ⟨_, P5⟩
      replace P5 := hide P5
      dsimp only [nv] at hrun
      have hrun' := hide hrun
      clear HD hmap hgr ND k5 DD SD bD hrun H4 K4 N4 D4 S4
      go_wp2
      refine wp_region_mid (fun w' => w'.cell? ⟨g, 3, none⟩ = some (.map (some bm)) ∧ w'.cell? ⟨w3.heap.size, 0, none⟩ = some (.bool nd.leaf) ∧ w'.cell? ⟨w3.heap.size, 1, none⟩ = some (.slice ka nd.keys.length kc) ∧ w'.cell? ⟨w3.heap.size, 2, none⟩ = some (.slice va nd.vals.length vc) ∧ w'.cell? ⟨w3.heap.size, 3, none⟩ = some (.slice da nd.kids.length dc)) 6 6 mixed (by kernel_rfl) (fun _ _ _ _ h => h) ⟨C3, E0, E1, E2, E3⟩ ?_
      dsimp only [List.take, List.drop]
      iterate 6
       refine take_one (v := ?_) (by rfl) ?_ ?_
       rotate_left
       ·rintro w' ⟨s1, s2, s3, s4, s5⟩
        go_simp
        try with_reducible rfl
       try simp only [Act.put, List.setIfInBounds_toArray, List.set_cons_zero, List.set_cons_succ]
      show wpList _ _ _ _ _ _
      have hrun := hrun'.out
      clear C0 C1 C2 C3 C4 C5 CF E0 E1 E2 E3 EF
      obtain ⟨⟨E0, E1, E2, E3⟩, EF⟩ := cells4 D5.out
      have hok : NOk nd := by have := (ndec_back (xs := x) (by rw [hd.out])).1; rw [hd.out] at this; exact this
      have hK3 : nd.keys.length ≤ 300 := (npr_len hok).2
      replace hok := hide hok
      cases hlf : nd.leaf with
      | true =>
       rw [hlf] at E0 hrun
       have hlv : Hid (nd.vals.length = nd.keys.length) := by
        have h1 := hok.out.2.1
        unfold ncount at h1
        rw [if_pos hlf] at h1
        exact h1.1
       have hW := wk_leaf (f := f) hx.out hin.out hd.out hall.out hlf
       have hL : s.prs.length ≤ 100000000 := by have := P5.out.ok.len hN.out.2; dsimp only at this; omega
       have hdep' : dep = 16 - (f : Int) := by have := hdep.out; omega
       have FIN := hide (leaf_fin hW hlv.out P5.out.dep hdep' (D := sdep s) (by unfold sdep; rfl))
       have KCt := hide (pcount_any w5 g _ _ _ _ s.prs.length nd.keys.length _ dep P5.out.box hL (by omega))
       replace hlf := hide hlf
       clear hW hL
       replace hdep' := hide hdep'
       go_wp2_with fail
       refine KCt.out.mono ?_
       rintro e w6 ⟨R2, rfl, kg, hbx, hR2⟩
       have K6 : KpM g bm w5 w6 := ⟨fun b h1 h2 _ => kg.1 b h1 h2, kg.2.1, fun C h1 _ h3 => kg.2.2 C h1 h3⟩
       have RR : Hid (RchR w0 w w6 B g bm ⟨root, next, ps⟩ (.slice a ps.length c) (wk ps (f + 1) id lo hi s) (.returned (.bool R2))) := by
        refine ⟨R2, rfl, K5.out.trans K6, ?_⟩
        cases hr : R2 with
        | true =>
         have hc := hR2.1 hr
         obtain ⟨f1, f2⟩ := FIN.out.1 hc
         refine .inl ⟨rfl, _, m5, f1, f2, ?_⟩
         have hnl : (npr nd).length = nd.keys.length := by rw [npr, List.length_zip, hlv.out, Nat.min_self]
         refine P5.out.leaf kg ?_ (fun h => by rw [h] at hnl; have := hc.1; simp at hnl; omega) ?_
         ·rw [hnl, ← hdep'.out, hc.2.1]
          exact hbx
         ·exact H.out.ok.see hb1.out hin.out (some f) (npr_len hok.out).1
        | false => exact .inr ⟨rfl, FIN.out.2 (fun h => by have := hR2.2 h; rw [hr] at this; cases this)⟩
       clear kg hbx hR2 K6 KCt FIN
       go_wp2
       go_ret
       exact RR.out
      | false =>
       rw [hlf] at E0 hrun
       have hW := hide (wk_inner (f := f) hx.out hin.out hd.out hall.out hlf)
       obtain ⟨s1, hs1'⟩ : ∃ s1 : Sw, s1 = ⟨id :: s.seen, s.dep, s.prs⟩ := ⟨_, rfl⟩
       rw [← hs1'] at P5 hW
       have hDK : nd.kids.length = nd.keys.length + 1 := by
        have h1 := hok.out.2.1
        unfold ncount at h1
        rw [hlf, if_neg (by decide)] at h1
        exact h1.2.2
       obtain ⟨D, hD⟩ : ∃ D, D = nd.kids.length := ⟨_, rfl⟩
       obtain ⟨KK, hKK⟩ : ∃ K, K = nd.keys.length := ⟨_, rfl⟩
       have hD3 : D ≤ 301 := by omega
       have hDK' : Hid (D = KK + 1) := by show _ = _; omega
       rw [← hD] at hrun E3 D5 N5
       rw [← hKK] at hrun E1 D5 N5
       rw [← hD, ← hKK]
       replace hDK := hide hDK
       replace hD := hide hD
       replace hKK := hide hKK
       obtain ⟨dp, hdp⟩ : ∃ d : Int, dep + 1 = d := ⟨_, rfl⟩
       have hdw : IntKind.i64.wrap dp = dp := IntWalk.i64_in _ (by have := hdep.out; omega)
       have hde : Hid (dp = 17 - (f : Int)) := by show _ = _; have := hdep.out; omega
       replace hlf := hide hlf
       replace hs1' := hide hs1'
       go_wp2
       clear hrun E0 E1 E2 E3 EF
       go_loopw [75] (fun p wr => ∃ k : Nat, k ≤ D ∧ p = .int .i64 k ∧ Hid (∃ s' m', wkK (wk ps f) nd lo hi 0 (nd.kids.take k) s1 = some s' ∧ s'.prs.length ≤ 4096 ∧ PWk w0 wr B g bm ⟨root, next, ps⟩ (.slice a ps.length c) s' m' ∧ KpM g bm w5 wr)) (fun p _ => D - (intOf p).toNat)
       case atStart => exact ⟨0, Nat.zero_le _, rfl, hide ⟨s1, m5, rfl, by rw [hs1'.out]; exact hs4.out, P5.out, KpM.refl _ _ _⟩⟩
       case round =>
        obtain ⟨k, hk, rfl, hI⟩ := hrel
        obtain ⟨s2, m2, q1, q2, q3, q4⟩ := hI.out
        clear hI
        have N6 := q4.node N5.out hgn.out.1 hgn.out.2
        have D6 := (q4.1 _ (lt_of_block D5.out) (by have := hgn.out; have := hnb.out; omega) (by have := hgn.out; have := hnb.out; omega)).trans D5.out
        have S6 := (q4.1 _ (lt_of_block S5.out) (by have := hgn.out; have := hnb.out; omega) (by have := hgn.out; have := hnb.out; omega)).trans S5.out
        obtain ⟨⟨E0, E1, E2, E3⟩, EF⟩ := cells4 D6
        obtain ⟨⟨T0, T1⟩, _⟩ := cells2r S6
        by_cases hlt : k < D
        ·have hq : (k : Int) < (D : Int) := by omega
         obtain ⟨kid, hkid⟩ := some_el nd.kids (k := k) (by rw [← hD.out]; exact hlt)
         obtain ⟨b3, off3, e3, hc3⟩ := N6.rd.kids.intAt hkid
         have KO := hide (pofkid_any wr lo hi (.slice ka KK kc) nd k N6.rd.keys (by have := hDK'.out; rw [← hKK.out]; omega))
         have hst : Hid (wkK (wk ps f) nd lo hi 0 (nd.kids.take (k + 1)) s1 = wk ps f kid (kidLo nd lo k) (kidHi nd hi k) s2) := by show _ = _; rw [wkK_take _ _ _ _ _ _ hkid, q1]; rfl
         have hkw : Hid ((Lit.int .i64 kid).wf = true) := by
          have := hok.out.2.2.2.1 k (by rw [← hD.out]; exact hlt)
          rw [hkid] at this
          simp only [Option.getD_some] at this
          exact WalkArith.wf_i64 (by omega)
         have hho : Hid (HiOk (kidHi nd hi k)) := by
          unfold kidHi
          split
          ·rename_i hlk
           have := (hok.out.1 k hlk).1
           unfold nkey at this
           intro h9
           simp only [Option.some.injEq, List.getD_eq_getElem?_getD] at h9
           rw [h9] at this
           simp at this
          ·exact hh.out
         have R3 := hide (And.intro q1 (And.intro q2 (And.intro q3 q4)))
         have hBr : Hid (B ≤ wr.heap.size) := Nat.le_trans hBw.out (Nat.le_trans K5.out.2.1 q4.2.1)
         replace hkid := hide hkid
         dsimp only [sv] at KO
         rw [← hhs.out] at KO
         clear q1 q2 q3 q4 N6 D6 S6
         subst e3
         go_wp2_with fail
         refine KO.out.mono ?_
         rintro e w7 ⟨rfl, b7⟩
         have KR := hide (ih.out (by omega) w7 s2 m2 kid (kidLo nd lo k) (kidHi nd hi k) (R3.out.2.2.1.to b7) R3.out.2.1 (Nat.le_trans hBr.out b7.size) hho.out hkw.out)
         rw [← hde.out] at KR
         have K7 := hide (R3.out.2.2.2.trans (KpM.of b7))
         clear b7 KO
         go_wp2_with fail
         refine KR.out.mono ?_
         rintro e w8 ⟨R8, rfl, k8, h8⟩
         cases R8 with
         | true =>
          have hI' : Hid (∃ s' m', wkK (wk ps f) nd lo hi 0 (nd.kids.take (k + 1)) s1 = some s' ∧ s'.prs.length ≤ 4096 ∧ PWk w0 w8 B g bm ⟨root, next, ps⟩ (.slice a ps.length c) s' m' ∧ KpM g bm w5 w8) := by
           rcases h8 with ⟨_, s', m', p1, p2, p3⟩ | ⟨p, _⟩
           ·exact ⟨s', m', by rw [hst.out]; exact p1, p2, p3, K7.out.trans k8⟩
           ·cases p
          clear h8 k8 KR
          go_wp2
          go_roundw
          case rel => exact ⟨k + 1, by omega, by go_num, hI'⟩
          case measure => simp [intOf]; omega
         | false =>
          have RR : Hid (RchR w0 w w8 B g bm ⟨root, next, ps⟩ (.slice a ps.length c) (wk ps (f + 1) id lo hi s) (.returned (.bool false))) := by
           refine ⟨false, rfl, K5.out.trans (K7.out.trans k8), .inr ⟨rfl, fun s' hs' => ?_⟩⟩
           rw [hW.out] at hs'
           obtain ⟨sk, z1, z2⟩ := wkK_at (wk_mono ps f) nd lo hi nd.kids s1 s' hs' (nd.kids.length - (k + 1)) (k + 1) (by rw [← hD.out]; omega)
           rw [hst.out] at z1
           rcases h8 with ⟨p, _⟩ | ⟨_, p⟩
           ·cases p
           ·have := p sk z1; omega
          clear h8 k8 KR
          go_wp2
          go_ret
          exact RR.out
        ·have hq : ¬ (k : Int) < (D : Int) := by omega
         have ht : nd.kids.take k = nd.kids := List.take_of_length_le (by rw [← hD.out]; omega)
         rw [ht, ← hW.out] at q1
         have RR : Hid (RchR w0 w wr B g bm ⟨root, next, ps⟩ (.slice a ps.length c) (wk ps (f + 1) id lo hi s) (.returned (.bool true))) := ⟨true, rfl, K5.out.trans q4, .inl ⟨rfl, s2, m2, q1, q2, q3⟩⟩
         clear q1 q2 q3 q4 ht N6 D6 S6
         go_wp2
         go_ret
         exact RR.out
    ·have hq : (err != 0) = true := by simpa using he
     have hz : Hid (wk ps (f + 1) id lo hi s = none) := wk_bad hx.out (by rw [← herr]; exact he)
     replace he := hide he
     replace hnd := hide hnd
     replace herr := hide herr
     rw [hUU] at KU
     go_wp2
     go_ret
     exact RchR.no rfl KU.out hz.out
end Go.Proofs.YtpiikmkajckccaaGreat

namespace Go.Proofs.YtpiikmkajckccaaGreat
open Go.RowKit
theorem TNum.p {t : Tr} (h : TNum t) : PNum t := ⟨h.1, h.2.1, h.2.2.1⟩
theorem twalk_num {t : Tr} {s : Sw} (h : twalk t = some s) : t.root = 0 ∨ tpage t.pages t.root ≠ none := by
 unfold twalk at h
 by_cases e : t.root = 0
 ·exact .inl e
 ·rw [if_neg e] at h
  refine .inr fun h1 => ?_
  rw [wk_none h1] at h
  cases h
theorem tprs_of {t : Tr} {s : Sw} (hp : PNum t) (h : twalk t = some s) (hl : s.prs.length ≤ 4096) : tprs t = some s.prs := by
 unfold tprs
 rw [if_pos (show TNum t from ⟨hp.1, hp.2.1, hp.2.2, twalk_num h⟩), h]
 simp [hl]
theorem tprs_no {t : Tr} (h : ¬ PNum t) : tprs t = none := by
 unfold tprs
 rw [if_neg fun h1 => h h1.p]
theorem tprs_no2 {t : Tr} (h : ∀ s, twalk t = some s → 4096 < s.prs.length) : tprs t = none := by
 unfold tprs
 split
 ·cases hw : twalk t with
  | none => rfl
  | some s =>
   have := h s hw
   simp [show ¬ s.prs.length ≤ 4096 by omega]
 ·rfl
def WofR (w w' : World) (t : Tr) (pv : Value) (e : Ending) : Prop :=
 (∃ g bm B s m, e = .returned (.tuple #[.pointer (some ⟨g, 0, none⟩), .int .i64 0]) ∧ PNum t ∧ twalk t = some s ∧ s.prs.length ≤ 4096 ∧ PWk w w' B g bm t pv s m ∧ B ≤ w'.heap.size) ∨
 (e = .returned (.tuple #[.pointer none, .int .i64 9]) ∧ tprs t = none ∧ Below w.heap.size w w')
set_option maxRecDepth 100000 in
set_option maxHeartbeats 2000000 in
theorem pwalkof_any (w : World) (t : Tr) (pv : Value) (h : RdC w pv t.pages) (hroot : (Lit.int .i64 t.root).wf = true) : Calls Tryz.prog 36 #[tv t pv] w fun e w' => WofR w w' t pv e := by
 have hmm := @run_makeMap Tryz.prog
 obtain ⟨root, next, ps⟩ := t
 obtain ⟨a, c, rfl⟩ := h.slice
 obtain ⟨W, hW, DW, bW, sW⟩ := boxedN w #[.int .i64 root, .int .i64 next, .slice a ps.length c] 28
 obtain ⟨⟨D0, D1, D2⟩, _⟩ := cells3p DW
 dsimp only [tv] at *
 obtain ⟨M, hM⟩ : ∃ M, M = W.alloc (.map #[] 0) := ⟨_, rfl⟩
 have sM : M.heap.size = w.heap.size + 1 + 1 := by rw [hM]; simp [sW]
 have bM : Below W.heap.size W M := by rw [hM]; exact (Below.refl _ _).alloc (Nat.le_refl _) _
 obtain ⟨X, hX, DX, bX, sX⟩ := boxedN M #[.int .i64 root, .int .i64 next, .slice a ps.length c, .map (some (w.heap.size + 1)), .int .i64 0, .int .i64 0] 109
 have mI : MapI M (w.heap.size + 1) 0 fun _ => none := by rw [hM, ← sW]; exact MapI.made W
 have bw := bW.trans ((bM.mono bW.size).trans (bX.mono (by omega)))
 have P0 : PWk w X (w.heap.size + 1 + 1 + 1) (w.heap.size + 1 + 1) (w.heap.size + 1) ⟨root, next, ps⟩ (.slice a ps.length c) ⟨[], none, []⟩ (fun _ => none) :=
  ⟨by rw [← sM]; exact DX, mI.kept (bX.block _ mI.lt), (fun i => by simp), (fun i v hv => by cases hv), h, ⟨List.nodup_nil, (fun i hi => by cases hi), Nat.zero_le _⟩, by simp, bw, by omega, by omega, (fun i j v u hv => by cases hv)⟩
 have KN := hide (pnumd_any X (.slice a ps.length c) ⟨root, next, ps⟩ (h.to0 bw))
 obtain ⟨⟨C0, C1, C2, C3⟩, ⟨C4, C5⟩, CF⟩ := P0.cell
 dsimp only [tv] at KN C0 C1 C2 C3 C4 C5
 rw [hW] at D0 D1 D2
 have HP := hide P0
 rw [hX, hM, hW] at KN C0 C1 C2 C3 C4 C5 CF
 clear h DW bW DX bX bM mI bw P0
 go_enter Tryz.func36, Tryz.ntmps36
 go_wp2_with fail
 refine KN.out.mono ?_
 rintro e w1 ⟨R, rfl, hR, b1⟩
 rw [← hW, ← hM, ← hX] at b1
 clear KN C0 C1 C2 C3 C4 C5 CF D0 D1 D2
 replace hX := hide hX
 replace hM := hide hM
 replace hW := hide hW
 have P1 := HP.out.to b1
 have hBs : Hid (w.heap.size + 1 + 1 + 1 ≤ w1.heap.size) := by have := b1.size; show _ ≤ _; omega
 obtain ⟨⟨C0, C1, C2, C3⟩, ⟨C4, C5⟩, CF⟩ := P1.cell
 dsimp only at C0 C1 C2 C3 C4 C5
 clear HP b1
 cases R with
 | false =>
  have hz : Hid (tprs ⟨root, next, ps⟩ = none) := tprs_no fun h => by have := hR.2 h; cases this
  have PB := hide P1.bel
  clear hR P1
  go_wp2
  go_ret2
  exact .inr ⟨rfl, hz.out, PB.out⟩
 | true =>
  have hp : Hid (PNum ⟨root, next, ps⟩) := hR.1 rfl
  have HP1 := hide P1
  have KR := hide (preach_any w ⟨root, next, ps⟩ (.slice a ps.length c) (w.heap.size + 1 + 1 + 1) (w.heap.size + 1 + 1) (w.heap.size + 1) ⟨hp.out.1, hp.out.2.1⟩ hp.out.2.2 16 (Nat.le_refl _) w1 _ _ root [] none P1 (Nat.zero_le _) hBs.out (fun h => by cases h) hroot)
  rw [show (17 - ((16 : Nat) : Int)) = 1 from rfl] at KR
  replace hroot := hide hroot
  clear hR P1
  by_cases r0 : root = 0
  ·have hr : Hid (twalk ⟨root, next, ps⟩ = some ⟨[], none, []⟩) := by show _ = _; unfold twalk; rw [if_pos r0]
   have r1 : (root != 0) = false := by simp [r0]
   replace r0 := hide r0
   go_wp2
   go_ret2
   exact .inl ⟨_, _, _, _, _, rfl, hp.out, hr.out, Nat.zero_le _, HP1.out, hBs.out⟩
  ·have hr : Hid (twalk ⟨root, next, ps⟩ = wk ps 16 root [] none ⟨[], none, []⟩) := by show _ = _; unfold twalk; rw [if_neg r0]
   have r1 : (root != 0) = true := by simp [r0]
   replace r0 := hide r0
   go_wp2_with fail
   refine KR.out.mono ?_
   rintro e w7 ⟨R7, rfl, k7, h7⟩
   clear KR
   cases R7 with
   | true =>
    obtain ⟨s', m', q1, q2, q3⟩ : ∃ s' m', wk ps 16 root [] none ⟨[], none, []⟩ = some s' ∧ s'.prs.length ≤ 4096 ∧ PWk w w7 (w.heap.size + 1 + 1 + 1) (w.heap.size + 1 + 1) (w.heap.size + 1) ⟨root, next, ps⟩ (.slice a ps.length c) s' m' := by
     rcases h7 with ⟨_, p⟩ | ⟨p, _⟩
     ·exact p
     ·cases p
    have Q := hide (And.intro (hr.out.trans q1) (And.intro q2 (And.intro q3 (Nat.le_trans hBs.out k7.2.1))))
    clear h7 k7 q1 q2 q3
    go_wp2
    go_ret2
    exact .inl ⟨_, _, _, _, _, rfl, hp.out, Q.out.1, Q.out.2.1, Q.out.2.2.1, Q.out.2.2.2⟩
   | false =>
    have hz : Hid (tprs ⟨root, next, ps⟩ = none) := tprs_no2 fun s hs => by
     rw [hr.out] at hs
     rcases h7 with ⟨p, _⟩ | ⟨_, p⟩
     ·cases p
     ·exact p s hs
    have PB := hide (HP1.out.bel.trans (k7.2.2 w.heap.size (by omega) (by omega) HP1.out.bel.size))
    clear h7 k7
    go_wp2
    go_ret2
    exact .inr ⟨rfl, hz.out, PB.out⟩
set_option maxRecDepth 100000 in
set_option maxHeartbeats 2000000 in
theorem pcheck10_any (w : World) (t : Tr) (pv : Value) (h : RdC w pv t.pages) (hroot : (Lit.int .i64 t.root).wf = true) : Calls Tryz.prog 66 #[tv t pv] w fun e w' => e = .returned (.int .i64 (tcheck t)) ∧ Below w.heap.size w w' := by
 obtain ⟨W, hW, D, bW, sW⟩ := boxedN w #[.int .i64 t.root, .int .i64 t.next, pv] 28
 have KN := hide (pwalkof_any W t pv (h.to0 bW) hroot)
 obtain ⟨a, c, rfl⟩ := h.slice
 obtain ⟨⟨D0, D1, D2⟩, _⟩ := cells3p D
 have HB := hide bW
 rw [hW] at D0 D1 D2 KN
 dsimp only [tv] at KN ⊢
 clear h bW D sW hroot
 generalize t.root = root at *
 generalize t.next = next at *
 generalize t.pages.length = L at *
 go_enter Tryz.func66, Tryz.ntmps66
 go_wp2_with fail
 refine KN.out.mono ?_
 rintro e w1 hp
 rw [← hW] at hp
 rcases hp with ⟨g, bm, B, s, m, rfl, p1, p2, p3, p4, _⟩ | ⟨rfl, p1, p2⟩
 ·have hc : Hid (tcheck t = 0) := by show _ = _; unfold tcheck; rw [tprs_of p1 p2 p3]
  have B1 := hide (HB.out.trans (p4.bel.mono HB.out.size))
  clear p1 p2 p3 p4 KN HB hW D0 D1 D2
  go_wp2
  go_ret
  exact ⟨ret_i9 hc.out.symm, B1.out⟩
 ·have hc : Hid (tcheck t = 9) := by show _ = _; unfold tcheck; rw [p1]
  have B1 := hide (HB.out.trans (p2.mono HB.out.size))
  clear p1 p2 KN HB hW D0 D1 D2
  go_wp2
  go_ret
  exact ⟨ret_i9 hc.out.symm, B1.out⟩
def WforR (w w' : World) (t : Tr) (pv : Value) (k : Str) (e : Ending) : Prop :=
 (∃ g bm B s m, e = .returned (.tuple #[.pointer (some ⟨g, 0, none⟩), .int .i64 0]) ∧ tkey k = true ∧ PNum t ∧ twalk t = some s ∧ s.prs.length ≤ 4096 ∧ PWk w w' B g bm t pv s m ∧ B ≤ w'.heap.size) ∨
 (∃ err, e = .returned (.tuple #[.pointer none, .int .i64 err]) ∧ ((tprs t = none ∧ err = 9) ∨ (∃ l, tprs t = some l ∧ tkey k = false ∧ err = 91)) ∧ Below w.heap.size w w')
theorem PWk.from {w0 w v : World} {B g bm : Nat} {t : Tr} {pv : Value} {s : Sw} {m : Int → Option Value} (h : PWk w0 w B g bm t pv s m) (hb : Below v.heap.size v w0) (hr : RdC v pv t.pages) : PWk v w B g bm t pv s m :=
 ⟨h.box, h.map, h.has, h.nds, hr, h.ok, h.dep, hb.trans (h.bel.mono hb.size), ⟨Nat.le_trans hb.size h.hg.1, h.hg.2⟩, ⟨Nat.le_trans hb.size h.hm.1, h.hm.2⟩, h.apt⟩
set_option maxRecDepth 100000 in
set_option maxHeartbeats 2000000 in
theorem pwalkfor_any (w : World) (t : Tr) (pv : Value) (k : Str) (hk : k.length ≤ 9223372036854775807) (h : RdC w pv t.pages) (hroot : (Lit.int .i64 t.root).wf = true) : Calls Tryz.prog 41 #[tv t pv, st k] w fun e w' => WforR w w' t pv k e := by
 obtain ⟨W, hW, D, bW, sW⟩ := boxedN w #[.int .i64 t.root, .int .i64 t.next, pv] 28
 have KN := hide (pwalkof_any W t pv (h.to0 bW) hroot)
 have HH := hide h
 obtain ⟨a, c, rfl⟩ := h.slice
 obtain ⟨⟨D0, D1, D2⟩, _⟩ := cells3p D
 have HB := hide bW
 rw [hW] at D0 D1 D2 KN
 dsimp only [tv] at KN ⊢
 clear h bW D sW hroot
 go_enter Tryz.func41, Tryz.ntmps41
 go_wp2_with fail
 refine KN.out.mono ?_
 rintro e w1 hp
 rw [← hW] at hp
 rcases hp with ⟨g, bm, B, s, m, rfl, p1, p2, p3, p4, p5⟩ | ⟨rfl, p1, p2⟩
 ·have ht : Hid (tprs t = some s.prs) := tprs_of p1 p2 p3
  have P4 := hide (p4.from HB.out HH.out)
  have QQ := hide (And.intro p1 (And.intro p2 (And.intro p3 p5)))
  have hkd : Hid (tkey k = decide (1 ≤ k.length ∧ k.length ≤ 32)) := (rfl : _ = _)
  clear p1 p2 p3 p4 p5 KN hW D0 D1 D2
  by_cases c1 : (k.length : Int) < 1
  ·have hz : Hid (tkey k = false) := by show _ = _; rw [hkd.out]; exact decide_eq_false (by omega)
   go_wp2
   go_ret2
   exact .inr ⟨_, rfl, .inr ⟨_, ht.out, hz.out, rfl⟩, P4.out.bel⟩
  ·by_cases c2 : (k.length : Int) > 32
   ·have hz : Hid (tkey k = false) := by show _ = _; rw [hkd.out]; exact decide_eq_false (by omega)
    go_wp2
    go_ret2
    exact .inr ⟨_, rfl, .inr ⟨_, ht.out, hz.out, rfl⟩, P4.out.bel⟩
   ·have hz : Hid (tkey k = true) := by show _ = _; rw [hkd.out]; exact decide_eq_true (by omega)
    go_wp2
    go_ret2
    exact .inl ⟨_, _, _, _, _, rfl, hz.out, QQ.out.1, QQ.out.2.1, QQ.out.2.2.1, P4.out, QQ.out.2.2.2⟩
 ·have B1 := hide (HB.out.trans (p2.mono HB.out.size))
  replace p1 := hide p1
  clear p2 KN HB hW D0 D1 D2
  go_wp2
  go_ret2
  exact .inr ⟨_, rfl, .inl ⟨p1.out, rfl⟩, B1.out⟩
end Go.Proofs.YtpiikmkajckccaaGreat

namespace Go.Proofs.YtpiikmkajckccaaGreat
open Go.RowKit
def tatE (t : Tr) (root : Int) : Int := if tcheck t ≠ 0 then tcheck t else if root ≠ 0 ∧ tpage t.pages root = none then 71 else tcheck ⟨root, t.next, t.pages⟩
def AtR (w w' : World) (t : Tr) (root : Int) (e : Ending) : Prop :=
 (tatE t root = 0 ∧ ∃ pv', e = .returned (.tuple #[tv ⟨root, t.next, t.pages⟩ pv', .int .i64 0]) ∧ OwnPg w.heap.size w' pv' t.pages ∧ Below w.heap.size w w') ∨
 (tatE t root ≠ 0 ∧ e = .returned (.tuple #[tv ⟨0, 0, []⟩ (.slice none 0 0), .int .i64 (tatE t root)]) ∧ Below w.heap.size w w')
theorem tcheck_num {t : Tr} (h : tcheck t = 0) : PNum t := by
 unfold tcheck at h
 cases ht : tprs t with
 | none => rw [ht] at h; cases h
 | some l =>
  unfold tprs at ht
  split at ht
  ·rename_i hn; exact hn.p
  ·cases ht
set_option maxRecDepth 100000 in
set_option maxHeartbeats 4000000 in
theorem pat_any (w : World) (t : Tr) (pv : Value) (root : Int) (h : RdC w pv t.pages) (hx : ∀ x ∈ t.pages, x.2.length ≤ 140737488351232) (hroot : (Lit.int .i64 t.root).wf = true) (hroot2 : (Lit.int .i64 root).wf = true) :
  Calls Tryz.prog 67 #[tv t pv, .int .i64 root] w fun e w' => AtR w w' t root e := by
 obtain ⟨W, hW, DW, bW, sW⟩ := boxedN w #[.int .i64 t.root, .int .i64 t.next, pv] 28
 obtain ⟨X, hX, DX, bX, sX⟩ := boxedN W #[.int .i64 0, .int .i64 0, .slice none 0 0] 28
 have bWX := bW.trans (bX.mono bW.size)
 have KC := hide (pcheck10_any X t pv (h.to0 bWX) hroot)
 obtain ⟨a, c, rfl⟩ := h.slice
 have BX := hide bWX
 have D1 := (bX.block _ (lt_of_block DW)).trans DW
 rw [sW] at DX
 have HD := hide (And.intro D1 DX)
 obtain ⟨⟨E0, E1, E2⟩, EF⟩ := cells3p D1
 obtain ⟨⟨F0, F1, F2⟩, FF⟩ := cells3p DX
 have HH := hide h
 rw [hX, hW] at E0 E1 E2 EF F0 F1 F2 FF KC
 dsimp only [tv] at KC ⊢
 clear h bW bX DW DX D1 bWX
 replace hroot := hide hroot
 replace hroot2 := hide hroot2
 replace hx := hide hx
 go_enter Tryz.func67, Tryz.ntmps67
 go_wp2_with fail
 refine KC.out.mono ?_
 rintro e w1 ⟨rfl, b1⟩
 rw [← hW, ← hX] at b1
 clear E0 E1 E2 EF F0 F1 F2 FF KC
 replace hX := hide hX
 replace hW := hide hW
 have B1 := hide (BX.out.trans (b1.mono BX.out.size))
 have D1 := (b1.block _ (lt_of_block HD.out.1)).trans HD.out.1
 have R1 := (b1.block _ (lt_of_block HD.out.2)).trans HD.out.2
 obtain ⟨⟨E0, E1, E2⟩, EF⟩ := cells3p D1
 obtain ⟨⟨F0, F1, F2⟩, FF⟩ := cells3p R1
 have HD1 := hide (And.intro D1 R1)
 clear D1 R1 b1 HD BX
 obtain ⟨err, herr⟩ : ∃ err, err = tcheck t := ⟨_, rfl⟩
 rw [← herr]
 by_cases he : err = 0
 ·have hpn := tcheck_num (herr.symm.trans he)
  have hlen : t.pages.length ≤ 65536 := by have := tups_len hpn.2.2 hpn.1; have := hpn.2.1; omega
  have KD := hide (pdata_at w1 w1 (.slice a t.pages.length c) t root (HH.out.to0 B1.out) (Below.refl _ _) (tups_up hpn.2.2) hlen)
  dsimp only [tv] at KD
  have hc0 : Hid (tcheck t = 0) := herr.symm.trans he
  subst he
  clear herr
  replace hpn := hide hpn
  replace hlen := hide hlen
  go_wp2_with fail
  refine KD.out.mono ?_
  rintro e w2 ⟨bv, ok, rfl, hp, b2⟩
  have B2 := hide (B1.out.trans (b2.mono B1.out.size))
  have D2 := (b2.block _ (lt_of_block HD1.out.1)).trans HD1.out.1
  have R2 := (b2.block _ (lt_of_block HD1.out.2)).trans HD1.out.2
  clear E0 E1 E2 EF F0 F1 F2 FF KD b2
  obtain ⟨⟨E0, E1, E2⟩, EF⟩ := cells3p D2
  obtain ⟨⟨F0, F1, F2⟩, FF⟩ := cells3p R2
  by_cases hn : root ≠ 0 ∧ tpage t.pages root = none
  ·have hz : Hid (tatE t root = 71) := by show _ = _; unfold tatE; rw [if_neg (by rw [hc0.out]; simp), if_pos hn]
   have hok : ok = false := by
    rcases hp with ⟨_, x, q, _⟩ | ⟨q, _⟩
    ·rw [hn.2] at q; cases q
    ·exact q
   subst hok
   have hr0 : (root != 0) = true := by simpa using hn.1
   replace hn := hide hn
   replace hp := hide hp
   have HR := hide R2
   clear D2 R2
   go_wp2
   (try simp only [Exit.inBlock, Exit.then])
   refine retNT rfl rfl (w.heap.size + 1) rfl _ _ (0, 0) (heap_set3t HR.out _ _ _) _ Tryz.underlying28 rfl info_tr _ rfl ?_
   refine .inr ⟨by rw [hz.out]; decide, by rw [hz.out]; rfl, below_set3t B2.out (show w.heap.size ≤ w.heap.size + 1 by omega) _ _ _⟩
  ·have hgo : ((root != 0) && !ok) = false := by
    by_cases r0 : root = 0
    ·simp [r0]
    ·rcases hp with ⟨q, _⟩ | ⟨_, q, _⟩
     ·simp [q]
     ·exact absurd ⟨r0, q⟩ hn
   have hz : Hid (tatE t root = tcheck ⟨root, t.next, t.pages⟩) := by show _ = _; unfold tatE; rw [if_neg (by rw [hc0.out]; simp), if_neg hn]
   obtain ⟨V, hV⟩ : ∃ V, V = w2.setCell ⟨w.heap.size, 0, none⟩ (.int .i64 root) := ⟨_, rfl⟩
   have d0 := heap_setN D2 0 (.int .i64 root)
   have D3 : V.heap[w.heap.size]? = some (.cells #[.int .i64 root, .int .i64 t.next, .slice a t.pages.length c] 28 (0, 0)) := by rw [hV]; simpa using d0
   have R3 : V.heap[w.heap.size + 1]? = some (.cells #[.int .i64 0, .int .i64 0, .slice none 0 0] 28 (0, 0)) := by rw [hV]; exact (Below.heap_setCell _ _ _ _ (show w.heap.size + 1 ≠ w.heap.size by omega)).trans R2
   have B3 : Below w.heap.size w V := by rw [hV]; exact B2.out.setCell (Nat.le_refl _) _
   have KC2 := hide (pcheck10_any V ⟨root, t.next, t.pages⟩ (.slice a t.pages.length c) (HH.out.to0 B3) hroot2.out)
   dsimp only [tv] at KC2
   obtain ⟨⟨G0, G1, G2⟩, GF⟩ := cells3p D3
   have HD3 := hide (And.intro D3 R3)
   have HB3 := hide B3
   rw [hV] at KC2 G0 G1 G2 GF
   replace hn := hide hn
   replace hp := hide hp
   clear D2 R2 D3 R3 B3 d0
   cases hrr : (root != 0) with
   | true =>
    have hokk : ok = true := by rw [hrr] at hgo; simpa using hgo
    subst hokk
    clear hgo
    go_wp2_with fail
    refine KC2.out.mono ?_
    rintro e w4 ⟨rfl, b4⟩
    rw [← hV] at b4
    have B4 := hide (HB3.out.trans (b4.mono HB3.out.size))
    have D4 := (b4.block _ (lt_of_block HD3.out.1)).trans HD3.out.1
    have R4 := (b4.block _ (lt_of_block HD3.out.2)).trans HD3.out.2
    clear E0 E1 E2 EF F0 F1 F2 FF G0 G1 G2 GF KC2 b4
    replace hV := hide hV
    obtain ⟨⟨E0, E1, E2⟩, EF⟩ := cells3p D4
    obtain ⟨⟨F0, F1, F2⟩, FF⟩ := cells3p R4
    have HR := hide R4
    have HD4 := hide D4
    obtain ⟨er2, her2⟩ : ∃ er, er = tcheck ⟨root, t.next, t.pages⟩ := ⟨_, rfl⟩
    rw [← her2] at hz ⊢
    clear her2
    by_cases he2 : er2 = 0
    ·subst he2
     have KP := hide (pcopied_any w4 ⟨root, t.next, t.pages⟩ (.slice a t.pages.length c) (HH.out.to0 B4.out) hlen.out hx.out)
     dsimp only [tv] at KP
     clear D4 R4
     go_wp2_with fail
     refine KP.out.mono ?_
     rintro e w5 ⟨pv5, rfl, o5, b5⟩
     obtain ⟨a5, c5, h5⟩ := o5.shape
     subst h5
     have R5 := (b5.block _ (lt_of_block HR.out)).trans HR.out
     have HR5 := hide R5
     obtain ⟨⟨F0, F1, F2⟩, FF⟩ := cells3p R5
     have B5 := hide (B4.out.trans (b5.mono B4.out.size))
     have O5 := hide o5
     clear o5 b5 KP R5
     go_wp2
     (try simp only [Exit.inBlock, Exit.then])
     refine retNT rfl rfl (w.heap.size + 1) rfl _ _ (0, 0) (heap_set3t HR5.out _ _ _) _ Tryz.underlying28 rfl info_tr _ rfl ?_
     refine .inl ⟨hz.out, _, rfl, ?_, below_set3t B5.out (show w.heap.size ≤ w.heap.size + 1 by omega) _ _ _⟩
     have k := fun e (he : e ≠ 28) => s3_keep9 HR5.out (.int .i64 root) (.int .i64 t.next) (.slice a5 t.pages.length c5) he
     exact OwnX.base (O5.out.keepT (k _ (by decide)) (k _ (by decide))) B4.out.size
    ·have hq : (er2 != 0) = true := by simpa using he2
     have HE : Hid (er2 ≠ 0) := he2
     replace he2 := hide he2
     clear D4 R4
     go_wp2
     (try simp only [Exit.inBlock, Exit.then])
     refine retNT rfl rfl (w.heap.size + 1) rfl _ _ (0, 0) (heap_set3t HR.out _ _ _) _ Tryz.underlying28 rfl info_tr _ rfl ?_
     refine .inr ⟨by rw [hz.out]; exact HE.out, by rw [hz.out]; rfl, below_set3t B4.out (show w.heap.size ≤ w.heap.size + 1 by omega) _ _ _⟩
   | false =>
    clear hgo
    go_wp2_with fail
    refine KC2.out.mono ?_
    rintro e w4 ⟨rfl, b4⟩
    rw [← hV] at b4
    have B4 := hide (HB3.out.trans (b4.mono HB3.out.size))
    have D4 := (b4.block _ (lt_of_block HD3.out.1)).trans HD3.out.1
    have R4 := (b4.block _ (lt_of_block HD3.out.2)).trans HD3.out.2
    clear E0 E1 E2 EF F0 F1 F2 FF G0 G1 G2 GF KC2 b4
    replace hV := hide hV
    obtain ⟨⟨E0, E1, E2⟩, EF⟩ := cells3p D4
    obtain ⟨⟨F0, F1, F2⟩, FF⟩ := cells3p R4
    have HR := hide R4
    have HD4 := hide D4
    obtain ⟨er2, her2⟩ : ∃ er, er = tcheck ⟨root, t.next, t.pages⟩ := ⟨_, rfl⟩
    rw [← her2] at hz ⊢
    clear her2
    by_cases he2 : er2 = 0
    ·subst he2
     have KP := hide (pcopied_any w4 ⟨root, t.next, t.pages⟩ (.slice a t.pages.length c) (HH.out.to0 B4.out) hlen.out hx.out)
     dsimp only [tv] at KP
     clear D4 R4
     go_wp2_with fail
     refine KP.out.mono ?_
     rintro e w5 ⟨pv5, rfl, o5, b5⟩
     obtain ⟨a5, c5, h5⟩ := o5.shape
     subst h5
     have R5 := (b5.block _ (lt_of_block HR.out)).trans HR.out
     have HR5 := hide R5
     obtain ⟨⟨F0, F1, F2⟩, FF⟩ := cells3p R5
     have B5 := hide (B4.out.trans (b5.mono B4.out.size))
     have O5 := hide o5
     clear o5 b5 KP R5
     go_wp2
     (try simp only [Exit.inBlock, Exit.then])
     refine retNT rfl rfl (w.heap.size + 1) rfl _ _ (0, 0) (heap_set3t HR5.out _ _ _) _ Tryz.underlying28 rfl info_tr _ rfl ?_
     refine .inl ⟨hz.out, _, rfl, ?_, below_set3t B5.out (show w.heap.size ≤ w.heap.size + 1 by omega) _ _ _⟩
     have k := fun e (he : e ≠ 28) => s3_keep9 HR5.out (.int .i64 root) (.int .i64 t.next) (.slice a5 t.pages.length c5) he
     exact OwnX.base (O5.out.keepT (k _ (by decide)) (k _ (by decide))) B4.out.size
    ·have hq : (er2 != 0) = true := by simpa using he2
     have HE : Hid (er2 ≠ 0) := he2
     replace he2 := hide he2
     clear D4 R4
     go_wp2
     (try simp only [Exit.inBlock, Exit.then])
     refine retNT rfl rfl (w.heap.size + 1) rfl _ _ (0, 0) (heap_set3t HR.out _ _ _) _ Tryz.underlying28 rfl info_tr _ rfl ?_
     refine .inr ⟨by rw [hz.out]; exact HE.out, by rw [hz.out]; rfl, below_set3t B4.out (show w.heap.size ≤ w.heap.size + 1 by omega) _ _ _⟩
 ·have hz : Hid (tatE t root = err) := by show _ = _; unfold tatE; rw [if_pos (by rw [← herr]; exact he), ← herr]
  have hq : (err != 0) = true := by simpa using he
  have HE : Hid (err ≠ 0) := he
  clear herr
  replace he := hide he
  have HR := hide HD1.out.2
  go_wp2
  (try simp only [Exit.inBlock, Exit.then])
  refine retNT rfl rfl (w.heap.size + 1) rfl _ _ (0, 0) (heap_set3t HR.out _ _ _) _ Tryz.underlying28 rfl info_tr _ rfl ?_
  refine .inr ⟨by rw [hz.out]; exact HE.out, by rw [hz.out]; rfl, below_set3t B1.out (show w.heap.size ≤ w.heap.size + 1 by omega) _ _ _⟩
end Go.Proofs.YtpiikmkajckccaaGreat

namespace Go.Proofs.YtpiikmkajckccaaGreat
open Go.RowKit
def rootsE (t : Tr) : List Int → Int
 | [] => 0
 | r :: rs => if tatE t r ≠ 0 then tatE t r else rootsE t rs
def lvE (t : Tr) (rs : List Int) : Int := if tcheck t ≠ 0 then tcheck t else if 16 < rs.length then 3 else rootsE t rs
theorem rootsE_at {t : Tr} : ∀ {rs : List Int} {k : Nat} {r : Int}, (∀ j q, j < k → rs[j]? = some q → tatE t q = 0) → rs[k]? = some r → tatE t r ≠ 0 → rootsE t rs = tatE t r
 | [], k, r, _, h, _ => by simp at h
 | q :: rs, 0, r, _, h, hr => by
  simp only [List.getElem?_cons_zero, Option.some.injEq] at h
  subst h
  rw [rootsE, if_pos hr]
 | q :: rs, k + 1, r, hb, h, hr => by
  have h0 := hb 0 q (Nat.succ_pos k) (by simp)
  rw [rootsE, if_neg (by simp [h0])]
  exact rootsE_at (fun j q hj hq => hb (j + 1) q (Nat.succ_lt_succ hj) (by simpa using hq)) (by simpa using h) hr
theorem rootsE_ok {t : Tr} : ∀ {rs : List Int}, (∀ r ∈ rs, tatE t r = 0) → rootsE t rs = 0
 | [], _ => rfl
 | q :: rs, h => by
  rw [rootsE, if_neg (by simp [h q (by simp)])]
  exact rootsE_ok fun r hr => h r (by simp [hr])
theorem rootsE_zero {t : Tr} : ∀ {rs : List Int}, rootsE t rs = 0 → ∀ r ∈ rs, tatE t r = 0
 | q :: rs, h, r, hr => by
  rw [rootsE] at h
  split at h
  ·rename_i h1; exact absurd h h1
  ·rename_i h1
   rcases List.mem_cons.1 hr with rfl | hr
   ·simpa using h1
   ·exact rootsE_zero h r hr
theorem tat_prs {t : Tr} {r : Int} (h : tatE t r = 0) : (∃ ps, tprs t = some ps) ∧ ∃ ps, tprs (atR t r) = some ps := by
 have hc : ∀ {u : Tr}, tcheck u = 0 → ∃ ps, tprs u = some ps := fun {u} h => by
  unfold tcheck at h
  cases hp : tprs u with
  | none => rw [hp] at h; cases h
  | some l => exact ⟨l, rfl⟩
 unfold tatE at h
 split at h
 ·rename_i h1; exact absurd h h1
 ·rename_i h1
  split at h
  ·cases h
  ·exact ⟨hc (by simpa using h1), hc h⟩
theorem lvE_ok {t : Tr} {rs : List Int} (h : lvE t rs = 0) : LvOk t rs ∧ rs.length ≤ 16 := by
 unfold lvE at h
 split at h
 ·rename_i h1; exact absurd h h1
 ·rename_i h1
  split at h
  ·cases h
  ·rename_i h2
   refine ⟨⟨?_, fun r hr => (tat_prs (rootsE_zero h r hr)).2⟩, by omega⟩
   have h1 : tcheck t = 0 := by simpa using h1
   unfold tcheck at h1
   cases hp : tprs t with
   | none => rw [hp] at h1; cases h1
   | some l => exact ⟨l, rfl⟩
theorem lvE_of {t : Tr} {rs : List Int} (h : LvOk t rs) (hl : rs.length ≤ 16) : lvE t rs = 0 := by
 obtain ⟨⟨ps, h1⟩, h2⟩ := h
 have hc : ∀ {u : Tr} {q : List Pr}, tprs u = some q → tcheck u = 0 := fun {u q} h => by unfold tcheck; rw [h]
 unfold lvE
 rw [if_neg (by simp [hc h1]), if_neg (by omega)]
 refine rootsE_ok fun r hr => ?_
 obtain ⟨q, h3⟩ := h2 r hr
 obtain ⟨d, h4, h5, h6⟩ := tprs_top h3
 unfold tatE
 rw [if_neg (by simp [hc h1]), if_neg ?_]
 ·exact hc h3
 ·rintro ⟨h7, h8⟩
  rcases h5.2.2.2 with h9 | h9
  ·exact h7 h9
  ·exact h9 h8
set_option maxRecDepth 100000 in
set_option maxHeartbeats 4000000 in
theorem vmaybe_any (w : World) (t : Tr) (pv rv : Value) (rs : List Int) (h : RdC w pv t.pages) (hx : ∀ x ∈ t.pages, x.2.length ≤ 140737488351232) (hroot : (Lit.int .i64 t.root).wf = true) (hr : RdI w rv rs) (hrw : ∀ r ∈ rs, (Lit.int .i64 r).wf = true) (hrl : rs.length ≤ 9223372036854775807) :
  Calls Tryz.prog 49 #[tv t pv, rv] w fun e w' => e = .returned (.int .i64 (lvE t rs)) ∧ Below w.heap.size w w' := by
 obtain ⟨W, hW, D, bW, sW⟩ := boxedN w #[.int .i64 t.root, .int .i64 t.next, pv] 28
 have KC := hide (pcheck10_any W t pv (h.to0 bW) hroot)
 obtain ⟨a, c, rfl⟩ := h.slice
 obtain ⟨ra, rc, rfl⟩ := hr.slice
 have HH := hide h
 have HR := hide hr
 have HB := hide bW
 have HD := hide D
 obtain ⟨⟨E0, E1, E2⟩, EF⟩ := cells3p D
 obtain ⟨RL, hRL⟩ : ∃ L, L = rs.length := ⟨_, rfl⟩
 rw [← hRL] at HR hrl ⊢
 replace hRL := hide hRL
 dsimp only [tv] at KC ⊢
 rw [hW] at E0 E1 E2 EF KC
 replace hx := hide hx
 replace hroot := hide hroot
 replace hrw := hide hrw
 clear h hr bW D sW
 go_enter Tryz.func49, Tryz.ntmps49
 go_wp2_with fail
 refine KC.out.mono ?_
 rintro e w1 ⟨rfl, b1⟩
 rw [← hW] at b1
 clear KC E0 E1 E2 EF
 have B1 := hide (HB.out.trans (b1.mono HB.out.size))
 have D1 := hide ((b1.block _ (lt_of_block HD.out)).trans HD.out)
 have b1' := hide b1
 clear b1
 obtain ⟨err, herr⟩ : ∃ err, err = tcheck t := ⟨_, rfl⟩
 rw [← herr]
 replace hW := hide hW
 by_cases he : err = 0
 ·have hc0 : Hid (tcheck t = 0) := herr.symm.trans he
  subst he
  clear herr
  by_cases h16 : (16 : Int) < (RL : Int)
  ·have hE : Hid (lvE t rs = 3) := by show _ = _; unfold lvE; rw [if_neg (by simp [hc0.out]), if_pos (by rw [← hRL.out]; omega)]
   go_wp2
   go_ret
   exact ⟨by rw [hE.out]; rfl, B1.out⟩
  ·go_wp2
   go_loopw [20] (fun p wr => ∃ k : Nat, k ≤ RL ∧ p = .int .i64 k ∧ Hid (Below w1.heap.size w1 wr ∧ ∀ j q, j < k → rs[j]? = some q → tatE t q = 0)) (fun p _ => RL - (intOf p).toNat)
   case atStart => exact ⟨0, Nat.zero_le _, rfl, hide ⟨Below.refl _ _, fun j q hj => by omega⟩⟩
   case round =>
    obtain ⟨k, hk, rfl, hI⟩ := hrel
    have D2 := (hI.out.1.block _ (lt_of_block D1.out)).trans D1.out
    have B2 := hide (B1.out.trans (hI.out.1.mono B1.out.size))
    obtain ⟨⟨E0, E1, E2⟩, EF⟩ := cells3p D2
    clear D2
    by_cases hlt : k < RL
    ·have hq : (k : Int) < (RL : Int) := by omega
     obtain ⟨r, hr⟩ := some_el rs (k := k) (by rw [← hRL.out]; exact hlt)
     obtain ⟨b3, off3, e3, hc3⟩ := (HR.out.to0 B2.out).intAt hr
     have KA := hide (pat_any wr t (.slice a t.pages.length c) r (HH.out.to0 B2.out) hx.out hroot.out (hrw.out r (List.mem_of_getElem? hr)))
     dsimp only [tv] at KA
     replace hr := hide hr
     subst e3
     go_wp2_with fail
     refine KA.out.mono ?_
     rintro e w2 h2
     clear KA E0 E1 E2 EF hc3
     rcases h2 with ⟨h2, pv2, rfl, o2, b2⟩ | ⟨h2, rfl, b2⟩
     ·obtain ⟨a2, c2, rfl⟩ := o2.rd.slice
      dsimp only [tv]
      obtain ⟨Y, hY, DY, bY, sY⟩ := boxedN w2 #[.int .i64 r, .int .i64 t.next, .slice a2 t.pages.length c2] 28
      have hI' : Hid (Below w1.heap.size w1 Y ∧ ∀ j q, j < k + 1 → rs[j]? = some q → tatE t q = 0) := by
       have b3 := b2.trans (bY.mono b2.size)
       refine ⟨hI.out.1.trans (b3.mono hI.out.1.size), fun j q hj hq9 => ?_⟩
       by_cases e : j = k
       ·subst e; rw [hr.out] at hq9; cases hq9; exact h2
       ·exact hI.out.2 j q (by omega) hq9
      rw [hY] at hI'
      clear DY bY sY hY o2 b2
      replace h2 := hide h2
      go_wp2
      go_roundw
      case rel => exact ⟨k + 1, by omega, by go_num, hI'⟩
      case measure => simp [intOf]; omega
     ·obtain ⟨er, her⟩ : ∃ er, er = tatE t r := ⟨_, rfl⟩
      rw [← her] at h2 ⊢
      have hE : Hid (lvE t rs = er) := by
       show _ = _
       unfold lvE
       rw [if_neg (by simp [hc0.out]), if_neg (by rw [← hRL.out]; omega), rootsE_at hI.out.2 hr.out (by rw [← her]; exact h2), her]
      obtain ⟨Y, hY, DY, bY, sY⟩ := boxedN w2 #[.int .i64 0, .int .i64 0, .slice none 0 0] 28
      have B3 : Hid (Below w.heap.size w Y) := by
       have b3 := b2.trans (bY.mono b2.size)
       exact B2.out.trans (b3.mono B2.out.size)
      rw [hY] at B3
      dsimp only [tv]
      clear DY bY sY hY b2 her
      go_wp2
      go_ret
      exact ⟨by rw [hE.out]; rfl, B3.out⟩
    ·have hq : ¬ (k : Int) < (RL : Int) := by omega
     have hE : Hid (lvE t rs = 0) := by
      show _ = _
      unfold lvE
      rw [if_neg (by simp [hc0.out]), if_neg (by rw [← hRL.out]; omega)]
      refine rootsE_ok fun r hr => ?_
      obtain ⟨i, hi⟩ := mem_at hr
      have := (List.getElem?_eq_some_iff.1 hi).1
      exact hI.out.2 i r (by rw [← hRL.out] at this; omega) hi
     go_wp2
     go_ret
     exact ⟨by rw [hE.out]; rfl, B2.out⟩
 ·have hE : Hid (lvE t rs = err) := by show _ = _; unfold lvE; rw [if_pos (by rw [← herr]; exact he), herr]
  clear herr
  go_wp2
  go_ret
  exact ⟨by rw [hE.out]; rfl, B1.out⟩
end Go.Proofs.YtpiikmkajckccaaGreat

namespace Go.Proofs.YtpiikmkajckccaaGreat
open Go.RowKit
def thereB (l : List Wrt) (root : Int) : Bool := (root == 0) || l.any (fun y => y.1 == root)
theorem there_is {l : List Wrt} {root : Int} : thereB l root = true ↔ ¬ (root ≠ 0 ∧ tpage l root = none) := by
 unfold thereB
 by_cases h0 : root = 0
 ·simp [h0]
 ·rw [Bool.or_eq_true, List.any_eq_true]
  constructor
  ·rintro (h | ⟨y, hy, e⟩) ⟨_, h2⟩
   ·exact h0 (by simpa using h)
   ·have := tpage_ne hy
    have e' : y.1 = root := by simpa using e
    rw [e'] at this
    exact this h2
  ·intro h
   refine .inr ?_
   cases hp : tpage l root with
   | none => exact absurd ⟨h0, hp⟩ h
   | some z => exact ⟨(root, z), tpage_mem hp, by simp⟩
theorem tcheck_two (t : Tr) : tcheck t = 0 ∨ tcheck t = 9 := by
 unfold tcheck
 cases tprs t with
 | none => exact .inr rfl
 | some l => exact .inl rfl
def RAtR (w w' : World) (t : Tr) (pv : Value) (root : Int) (e : Ending) : Prop :=
 (tatE t root = 0 ∧ e = .returned (.tuple #[tv ⟨root, t.next, t.pages⟩ pv, .int .i64 0]) ∧ Below w.heap.size w w') ∨
 (tatE t root ≠ 0 ∧ e = .returned (.tuple #[tv ⟨0, 0, []⟩ (.slice none 0 0), .int .i64 (tatE t root)]) ∧ Below w.heap.size w w')
theorem info_tr11 : (Tryz.prog.info? 24).map (·.size) = some 3 := by kernel_rfl
set_option maxRecDepth 100000 in
set_option maxHeartbeats 4000000 in
theorem rat_any (w : World) (t : Tr) (pv : Value) (root : Int) (h : RdC w pv t.pages) :
  Calls Tryz.prog 28 #[tv t pv, .int .i64 root] w fun e w' => RAtR w w' t pv root e := by
 obtain ⟨W, hW, D, bW, sW⟩ := boxedN w #[.int .i64 t.root, .int .i64 t.next, pv] 24
 obtain ⟨X, hX, DX, bX, sX⟩ := boxedN W #[.int .i64 0, .int .i64 0, .slice none 0 0] 24
 have bWX := bW.trans (bX.mono bW.size)
 have KC := hide (rcheck10_any X t pv (h.to0 bWX))
 obtain ⟨a, c, rfl⟩ := h.slice
 have HH := hide h
 have HB := hide bWX
 have D1 := (bX.block _ (lt_of_block D)).trans D
 rw [sW] at DX
 have HD := hide (And.intro D1 DX)
 obtain ⟨⟨E0, E1, E2⟩, EF⟩ := cells3p D1
 obtain ⟨L, hL⟩ : ∃ L, L = t.pages.length := ⟨_, rfl⟩
 dsimp only [tv] at KC ⊢
 rw [← hL] at KC HD E2 HH hW ⊢
 replace hL := hide hL
 rw [hX, hW] at E0 E1 E2 EF KC
 clear h bW bX D D1 DX sW sX bWX
 go_enter Tryz.func28, Tryz.ntmps28
 go_wp2_with fail
 refine KC.out.mono ?_
 rintro e w1 ⟨rfl, b1⟩
 rw [← hW, ← hX] at b1
 clear KC E0 E1 E2 EF
 have B1 := hide (HB.out.trans (b1.mono HB.out.size))
 have T1 := (b1.block _ (lt_of_block HD.out.1)).trans HD.out.1
 have R1 := (b1.block _ (lt_of_block HD.out.2)).trans HD.out.2
 have HD1 := hide (And.intro T1 R1)
 replace hW := hide hW
 replace hX := hide hX
 obtain ⟨err, herr⟩ : ∃ err, err = tcheck t := ⟨_, rfl⟩
 rw [← herr]
 clear b1
 by_cases he : err = 0
 ·have hc0 : Hid (tcheck t = 0) := herr.symm.trans he
  subst he
  clear herr
  have hlen : L ≤ 65536 := by
   have hpn := tcheck_num hc0.out
   have h1 := tups_len hpn.2.2 hpn.1
   have h2 := hpn.2.1
   rw [hL.out]
   omega
  clear T1 R1
  go_wp2
  go_loopw [7, 8] (fun bv p wr => ∃ (i : Nat) (bb : Bool), i ≤ L ∧ bv = .bool bb ∧ p = .int .i64 i ∧ Hid (Below w1.heap.size w1 wr ∧ bb = ((root == 0) || (t.pages.take i).any (fun y => y.1 == root)))) (fun _ p _ => L - (intOf p).toNat)
  case atStart => exact ⟨0, _, Nat.zero_le _, rfl, rfl, hide ⟨Below.refl _ _, by simp⟩⟩
  case round =>
   obtain ⟨i, bb, hi, rfl, rfl, hI⟩ := hrel
   have B2 := hide (B1.out.trans (hI.out.1.mono B1.out.size))
   have T2 := (hI.out.1.block _ (lt_of_block HD1.out.1)).trans HD1.out.1
   have R2 := (hI.out.1.block _ (lt_of_block HD1.out.2)).trans HD1.out.2
   obtain ⟨⟨E0, E1, E2⟩, EF⟩ := cells3p T2
   by_cases hlt : i < L
   ·have hq : (i : Int) < (L : Int) := by omega
    obtain ⟨y, hy⟩ := some_el t.pages (k := i) (by rw [← hL.out]; exact hlt)
    obtain ⟨b, off, u, e1, hc1, hc2, hr⟩ := HH.out.wrt hy
    subst e1
    replace hc1 := (B2.out.cell (cell_lt hc1)).trans hc1
    obtain ⟨z, hz⟩ : ∃ z, z = y.1 := ⟨_, rfl⟩
    rw [← hz] at hc1
    have hI' : Hid (∀ b', b' = (bb || (z == root)) → Below w1.heap.size w1 wr ∧ b' = ((root == 0) || (t.pages.take (i + 1)).any (fun y => y.1 == root))) := fun b' hb' => by
     refine ⟨hI.out.1, ?_⟩
     rw [hb', hI.out.2, List.take_add_one, hy]
     simp [Bool.or_assoc, hz]
    replace hz := hide hz
    replace hy := hide hy
    clear hc2 hr T2 R2
    cases bb with
    | true =>
     go_wp2
     go_roundw
     case rel => exact ⟨i + 1, true, hlt, rfl, by go_num, hide (hI'.out _ (by simp))⟩
     case measure => simp [intOf]; omega
    | false =>
     go_wp2
     go_roundw
     case rel => exact ⟨i + 1, (z == root), hlt, rfl, by go_num, hide (hI'.out _ (by simp))⟩
     case measure => simp [intOf]; omega
   ·have hq : ¬ (i : Int) < (L : Int) := by omega
    have hbt : bb = thereB t.pages root := by
     rw [hI.out.2]
     have ht : t.pages.take i = t.pages := List.take_of_length_le (by rw [← hL.out]; omega)
     rw [ht]
     rfl
    have HR2 := hide R2
    obtain ⟨⟨F0, F1, F2⟩, FF⟩ := cells3p R2
    cases bb with
    | false =>
     have hz : Hid (tatE t root = 71) := by
      show _ = _
      unfold tatE
      rw [if_neg (by simp [hc0.out]), if_pos ?_]
      by_cases h9 : root ≠ 0 ∧ tpage t.pages root = none
      ·exact h9
      ·rw [there_is.2 h9] at hbt; cases hbt
     clear hbt T2 R2
     go_wp2
     (try simp only [Exit.inBlock, Exit.then])
     have hgg := heap_set3t HR2.out (.int .i64 0) (.int .i64 0) (.slice none 0 0)
     refine retNT rfl rfl (w.heap.size + 1) rfl _ _ (0, 0) hgg _ Tryz.underlying24 rfl info_tr11 _ rfl ?_
     exact .inr ⟨by rw [hz.out]; decide, by rw [hz.out]; rfl, below_set3t B2.out (show w.heap.size ≤ w.heap.size + 1 by omega) _ _ _⟩
    | true =>
     have hz : Hid (tatE t root = tcheck ⟨root, t.next, t.pages⟩) := by
      show _ = _
      unfold tatE
      rw [if_neg (by simp [hc0.out]), if_neg (there_is.1 hbt.symm)]
     obtain ⟨V, hV⟩ : ∃ V, V = wr.setCell ⟨w.heap.size, 0, none⟩ (.int .i64 root) := ⟨_, rfl⟩
     have d0 := heap_setN T2 0 (.int .i64 root)
     have D3 : V.heap[w.heap.size]? = some (.cells #[.int .i64 root, .int .i64 t.next, .slice a L c] 24 (0, 0)) := by rw [hV]; simpa using d0
     have R3 : V.heap[w.heap.size + 1]? = some (.cells #[.int .i64 0, .int .i64 0, .slice none 0 0] 24 (0, 0)) := by rw [hV]; exact (Below.heap_setCell _ _ _ _ (show w.heap.size + 1 ≠ w.heap.size by omega)).trans R2
     have B3 : Below w.heap.size w V := by rw [hV]; exact B2.out.setCell (Nat.le_refl _) _
     have KC2 := hide (rcheck10_any V ⟨root, t.next, t.pages⟩ (.slice a L c) (HH.out.to0 B3))
     dsimp only [tv] at KC2
     obtain ⟨⟨G0, G1, G2⟩, GF⟩ := cells3p D3
     have HD3 := hide (And.intro D3 R3)
     have HB3 := hide B3
     rw [hV] at KC2 G0 G1 G2 GF
     clear hbt T2 R2 d0 D3 R3 B3 F0 F1 F2 FF
     go_wp2_with fail
     refine KC2.out.mono ?_
     rintro e w2 ⟨rfl, b2⟩
     rw [← hV] at b2
     clear KC2 E0 E1 E2 EF G0 G1 G2 GF
     replace hV := hide hV
     have B4 := hide (HB3.out.trans (b2.mono HB3.out.size))
     have T4 := (b2.block _ (lt_of_block HD3.out.1)).trans HD3.out.1
     have R4 := (b2.block _ (lt_of_block HD3.out.2)).trans HD3.out.2
     have HR4 := hide R4
     obtain ⟨⟨G0, G1, G2⟩, GF⟩ := cells3p T4
     obtain ⟨⟨F0, F1, F2⟩, FF⟩ := cells3p R4
     clear b2 T4 R4
     rcases tcheck_two ⟨root, t.next, t.pages⟩ with h2 | h2
     ·rw [h2]
      have hz2 : Hid (tatE t root = 0) := hz.out.trans h2
      replace h2 := hide h2
      go_wp2
      (try simp only [Exit.inBlock, Exit.then])
      have hgg := heap_set3t HR4.out (.int .i64 root) (.int .i64 t.next) (.slice a L c)
      refine retNT rfl rfl (w.heap.size + 1) rfl _ _ (0, 0) hgg _ Tryz.underlying24 rfl info_tr11 _ rfl ?_
      exact .inl ⟨hz2.out, rfl, below_set3t B4.out (show w.heap.size ≤ w.heap.size + 1 by omega) _ _ _⟩
     ·rw [h2]
      have hz2 : Hid (tatE t root = 9) := hz.out.trans h2
      replace h2 := hide h2
      go_wp2
      (try simp only [Exit.inBlock, Exit.then])
      have hgg := heap_set3t HR4.out (.int .i64 0) (.int .i64 0) (.slice none 0 0)
      refine retNT rfl rfl (w.heap.size + 1) rfl _ _ (0, 0) hgg _ Tryz.underlying24 rfl info_tr11 _ rfl ?_
      exact .inr ⟨by rw [hz2.out]; decide, by rw [hz2.out]; rfl, below_set3t B4.out (show w.heap.size ≤ w.heap.size + 1 by omega) _ _ _⟩
 ·have hE : Hid (tatE t root = err) := by show _ = _; unfold tatE; rw [if_pos (by rw [← herr]; exact he), herr]
  have HR1 := hide R1
  obtain ⟨⟨F0, F1, F2⟩, FF⟩ := cells3p R1
  clear herr T1 R1
  go_wp2
  (try simp only [Exit.inBlock, Exit.then])
  have hgg := heap_set3t HR1.out (.int .i64 0) (.int .i64 0) (.slice none 0 0)
  refine retNT rfl rfl (w.heap.size + 1) rfl _ _ (0, 0) hgg _ Tryz.underlying24 rfl info_tr11 _ rfl ?_
  exact .inr ⟨by rw [hE.out]; exact he, by rw [hE.out]; rfl, below_set3t B1.out (show w.heap.size ≤ w.heap.size + 1 by omega) _ _ _⟩
end Go.Proofs.YtpiikmkajckccaaGreat

namespace Go.Proofs.YtpiikmkajckccaaGreat
open Go.RowKit
theorem seen_none {t : Tr} (x : Int) : ¬ x ∈ seenOf (atR t 0) := by simp [seenOf, twalk]
theorem vfrom_root (w0 w : World) (t : Tr) (pv : Value) (bm : Nat) (hpg : RdC w0 pv t.pages) (R : List Int) (r : Int) {ps : List Pr} (hr : tprs (atR t r) = some ps) (hV : VSt w0 w bm t.pages R) (hc : Clo t.pages R) :
  Calls Tryz.prog 50 #[sev pv bm, .int .i64 r] w fun e w' => ∃ R', e = .returned (.tuple #[]) ∧ VSt w0 w' bm t.pages R' ∧ KpM bm bm w w' ∧ Clo t.pages R' ∧ ∀ x, x ∈ R' ↔ x ∈ R ∨ x ∈ seenOf (atR t r) := by
 have hp : pv.oneCell' = true := by obtain ⟨a, c, rfl⟩ := hpg.slice; rfl
 obtain ⟨d, h1, h2, h3⟩ := tprs_top hr
 by_cases h0 : r = 0
 ·subst h0
  refine (vfrom_zero w pv bm hp).mono ?_
  rintro e w' ⟨rfl, b⟩
  exact ⟨R, rfl, hV.to b, KpM.of b, hc, fun x => ⟨.inl, fun h => h.elim (fun h => h) fun h => absurd h (seen_none x)⟩⟩
 ·have hf := frm_top h1 h0 hc
  rcases h1 with ⟨h9, _⟩ | ⟨_, hd, h4, h5, _⟩
  ·exact absurd h9 h0
  ·refine (vfrom_any w0 pv bm t.pages hpg h2.2.2.1 ⟨h2.1, h2.2.1⟩ d r [] none h4 w R hV).mono ?_
   rintro e w' ⟨rfl, v, k⟩
   exact ⟨_, rfl, v, k, hf.2, hf.1⟩
def SeR (w w' : World) (t : Tr) (pv : Value) (rs : List Int) (e : Ending) : Prop :=
 (lvE t rs = 0 ∧ ∃ bm R, e = .returned (.tuple #[sev pv bm, .int .i64 0]) ∧ VSt w w' bm t.pages R ∧ ∀ x, x ∈ R ↔ Lv t rs x) ∨
 (lvE t rs ≠ 0 ∧ e = .returned (.tuple #[.agg #[.slice none 0 0, .map none], .int .i64 (lvE t rs)]) ∧ Below w.heap.size w w')
theorem info_se : (Tryz.prog.info? 68).map (·.size) = some 2 := by kernel_rfl
theorem VSt.set2 {w0 w : World} {bm : Nat} {ps : List Wrt} {R : List Int} (h : VSt w0 w bm ps R) {g : Nat} (hg : g ≠ bm) (hs : w0.heap.size ≤ g) (x y : Value) : VSt w0 ((w.setCell ⟨g, 0, none⟩ x).setCell ⟨g, 1, none⟩ y) bm ps R := by
 obtain ⟨m, h1, h2⟩ := h.map
 have e : ((w.setCell ⟨g, 0, none⟩ x).setCell ⟨g, 1, none⟩ y).heap[bm]? = w.heap[bm]? := (Below.heap_setCell _ _ _ _ (Ne.symm hg)).trans (Below.heap_setCell _ _ _ _ (Ne.symm hg))
 exact ⟨⟨m, h1.kept e, h2⟩, h.nod, h.pg, below_set2 h.bel hs x y, h.bm⟩
theorem lv_take {t : Tr} {rs : List Int} {k : Nat} {r : Int} (hr : rs[k]? = some r) (x : Int) : Lv t (rs.take (k + 1)) x ↔ Lv t (rs.take k) x ∨ x ∈ seenOf (atR t r) := by
 unfold Lv
 rw [List.take_add_one, hr]
 simp only [Option.toList_some, List.mem_append, List.mem_singleton]
 constructor
 ·rintro (h | ⟨q, h1 | rfl, h2⟩)
  ·exact .inl (.inl h)
  ·exact .inl (.inr ⟨q, h1, h2⟩)
  ·exact .inr h2
 ·rintro ((h | ⟨q, h1, h2⟩) | h)
  ·exact .inl h
  ·exact .inr ⟨q, .inl h1, h2⟩
  ·exact .inr ⟨r, .inr rfl, h⟩
structure SLo (w Y wr : World) (bm : Nat) (t : Tr) (rs : List Int) (k : Nat) (R : List Int) : Prop where
 st : VSt w wr bm t.pages R
 clo : Clo t.pages R
 is : ∀ x, x ∈ R ↔ Lv t (rs.take k) x
 kp : KpM bm bm Y wr
set_option maxRecDepth 100000 in
set_option maxHeartbeats 4000000 in
theorem vsearch_any (w : World) (t : Tr) (pv rv : Value) (rs : List Int) (h : RdC w pv t.pages) (hx : ∀ x ∈ t.pages, x.2.length ≤ 140737488351232) (hroot : (Lit.int .i64 t.root).wf = true) (hr : RdI w rv rs) (hrw : ∀ r ∈ rs, (Lit.int .i64 r).wf = true) (hrl : rs.length ≤ 9223372036854775807) :
  Calls Tryz.prog 23 #[tv t pv, rv] w fun e w' => SeR w w' t pv rs e := by
 have hmm := @run_makeMap Tryz.prog
 obtain ⟨W, hW, D, bW, sW⟩ := boxedN w #[.int .i64 t.root, .int .i64 t.next, pv] 28
 obtain ⟨X, hX, DX, bX, sX⟩ := boxedN W #[.slice none 0 0, .map none] 68
 have bWX := bW.trans (bX.mono bW.size)
 have KC := hide (vmaybe_any X t pv rv rs (h.to0 bWX) hx hroot (hr.to0 bWX) hrw hrl)
 obtain ⟨a, c, rfl⟩ := h.slice
 obtain ⟨ra, rc, rfl⟩ := hr.slice
 have HH := hide h
 have HR := hide hr
 have HB := hide bWX
 have D1 := (bX.block _ (lt_of_block D)).trans D
 rw [sW] at DX
 have HD := hide (And.intro D1 DX)
 obtain ⟨⟨E0, E1, E2⟩, EF⟩ := cells3p D1
 obtain ⟨⟨F0, F1⟩, FF⟩ := cells2r DX
 obtain ⟨RL, hRL⟩ : ∃ L, L = rs.length := ⟨_, rfl⟩
 rw [← hRL] at HR KC hrl ⊢
 replace hRL := hide hRL
 dsimp only [tv] at KC ⊢
 rw [hX, hW] at E0 E1 E2 EF F0 F1 FF KC
 have hsz : Hid (X.heap.size = w.heap.size + 1 + 1) := by show _ = _; omega
 replace hroot := hide hroot
 replace hrw := hide hrw
 replace hx := hide hx
 clear h hr bW bX D D1 DX sW sX bWX
 go_enter Tryz.func23, Tryz.ntmps23
 go_wp2_with fail
 refine KC.out.mono ?_
 rintro e w1 ⟨rfl, b1⟩
 rw [← hW, ← hX] at b1
 clear KC E0 E1 E2 EF F0 F1 FF
 have B1 := hide (HB.out.trans (b1.mono HB.out.size))
 have D1 := (b1.block _ (lt_of_block HD.out.1)).trans HD.out.1
 have R1 := (b1.block _ (lt_of_block HD.out.2)).trans HD.out.2
 have hs1 : Hid (w.heap.size + 1 + 1 ≤ w1.heap.size) := by have := b1.size; show _ ≤ _; rw [← hsz.out]; exact this
 replace hW := hide hW
 replace hX := hide hX
 obtain ⟨err, herr⟩ : ∃ err, err = lvE t rs := ⟨_, rfl⟩
 rw [← herr]
 have HD1 := hide (And.intro D1 R1)
 by_cases he : err = 0
 ·have hc0 : Hid (lvE t rs = 0) := herr.symm.trans he
  subst he
  clear herr b1
  obtain ⟨M, hM⟩ : ∃ M, M = w1.alloc (.map #[] 0) := ⟨_, rfl⟩
  have sM : M.heap.size = w1.heap.size + 1 := by rw [hM]; simp
  have bM : Below w1.heap.size w1 M := by rw [hM]; exact (Below.refl _ _).alloc (Nat.le_refl _) _
  have mI : MapI M w1.heap.size 0 fun _ => none := by rw [hM]; exact MapI.made w1
  obtain ⟨Y, hY, DY, bY, sY⟩ := boxedN M #[.slice a t.pages.length c, .map (some w1.heap.size)] 68
  rw [sM] at DY
  have bMY := bM.trans (bY.mono bM.size)
  have V0 : VSt w Y w1.heap.size t.pages [] := ⟨⟨_, mI.kept (bY.block _ mI.lt), fun i => by simp, fun i v hv => by cases hv⟩, List.nodup_nil, fun x hx => (by cases hx), B1.out.trans (bMY.mono B1.out.size), B1.out.size⟩
  obtain ⟨⟨ps0, hps0⟩, hrs⟩ := (lvE_ok hc0.out).1
  have KF := hide (vfrom_root w Y t (.slice a t.pages.length c) w1.heap.size HH.out [] t.root hps0 V0 (fun p hp => by cases hp))
  have D2 := (bMY.block _ (lt_of_block D1)).trans D1
  have R2 := (bMY.block _ (lt_of_block R1)).trans R1
  have HD2 := hide (And.intro D2 (And.intro R2 DY))
  obtain ⟨⟨E0, E1, E2⟩, EF⟩ := cells3p D1
  obtain ⟨⟨G0, G1, G2⟩, GF⟩ := cells3p D2
  obtain ⟨⟨F0, F1⟩, FF⟩ := cells2r DY
  dsimp only [sev] at KF
  rw [hY, hM] at G0 G1 G2 GF F0 F1 FF KF
  replace hrs := hide hrs
  clear D1 R1 D2 R2 DY V0 mI bM bY bMY sM sY HD1
  go_wp2_with fail
  refine KF.out.mono ?_
  rintro e w2 ⟨R, rfl, v2, k2, c2, i2⟩
  rw [← hM, ← hY] at k2
  have HI : Hid (SLo w Y w2 w1.heap.size t rs 0 R) := ⟨v2, c2, fun x => by rw [i2 x]; simp [Lv], k2⟩
  clear KF E0 E1 E2 EF G0 G1 G2 GF F0 F1 FF v2 k2 c2 i2
  replace hY := hide hY
  replace hM := hide hM
  go_wp2
  go_loopw [27] (fun p wr => ∃ k : Nat, k ≤ RL ∧ p = .int .i64 k ∧ Hid (∃ R, SLo w Y wr w1.heap.size t rs k R)) (fun p _ => RL - (intOf p).toNat)
  case atStart => exact ⟨0, Nat.zero_le _, rfl, hide ⟨R, HI.out⟩⟩
  case round =>
   obtain ⟨k, hk, rfl, hI⟩ := hrel
   obtain ⟨R, hS⟩ := hI.out
   have hl2 := hs1.out
   have DT := (hS.kp.1 _ (lt_of_block HD2.out.1) (by omega) (by omega)).trans HD2.out.1
   have DR := (hS.kp.1 _ (lt_of_block HD2.out.2.1) (by omega) (by omega)).trans HD2.out.2.1
   have DS := (hS.kp.1 _ (lt_of_block HD2.out.2.2) (by omega) (by omega)).trans HD2.out.2.2
   obtain ⟨⟨F0, F1⟩, FF⟩ := cells2r DS
   by_cases hlt : k < RL
   ·have hq : (k : Int) < (RL : Int) := by omega
    obtain ⟨r, hr⟩ := some_el rs (k := k) (by rw [← hRL.out]; exact hlt)
    obtain ⟨b3, off3, e3, hc3⟩ := (HR.out.to0 hS.st.bel).intAt hr
    obtain ⟨q, hq9⟩ := hrs.out r (List.mem_of_getElem? hr)
    have KF := hide (vfrom_root w wr t (.slice a t.pages.length c) w1.heap.size HH.out R r hq9 hS.st hS.clo)
    dsimp only [sev] at KF
    have HS := hide hS
    have hr' := hide hr
    subst e3
    clear DT DR DS hS hI hr hq9 hl2
    go_wp2_with fail
    refine KF.out.mono ?_
    rintro e w3 ⟨R3, rfl, v3, k3, c3, i3⟩
    have hI' : Hid (∃ R, SLo w Y w3 w1.heap.size t rs (k + 1) R) := ⟨R3, v3, c3, fun x => by rw [i3 x, HS.out.is x, lv_take hr'.out x], HS.out.kp.trans k3⟩
    clear KF v3 k3 c3 i3 F0 F1 FF hc3
    go_wp2
    go_roundw
    case rel => exact ⟨k + 1, by omega, by go_num, hI'⟩
    case measure => simp [intOf]; omega
   ·have hq : ¬ (k : Int) < (RL : Int) := by omega
    have ht : rs.take k = rs := List.take_of_length_le (by rw [← hRL.out]; omega)
    have hF : Hid (∀ x y, VSt w ((wr.setCell ⟨w.heap.size + 1, 0, none⟩ x).setCell ⟨w.heap.size + 1, 1, none⟩ y) w1.heap.size t.pages R) := fun x y => hS.st.set2 (by omega) (by omega) x y
    have hF2 : Hid (∀ x, x ∈ R ↔ Lv t rs x) := fun x => by rw [hS.is x, ht]
    have HDR := hide DR
    obtain ⟨⟨G0, G1⟩, GF⟩ := cells2r DR
    clear hS hI DT DR DS ht hl2
    go_wp2
    (try simp only [Exit.inBlock, Exit.then])
    refine retNT rfl rfl (w.heap.size + 1) rfl _ _ (0, 0) (heap_set2 HDR.out _ _) _ Tryz.underlying68 rfl info_se _ rfl ?_
    exact .inl ⟨hc0.out, _, _, rfl, hF.out _ _, hF2.out⟩
 ·have hE : Hid (lvE t rs ≠ 0) := by show _ ≠ _; rw [← herr]; exact he
  have hE2 : Hid (lvE t rs = err) := herr.symm
  have HDR := hide R1
  obtain ⟨⟨G0, G1⟩, GF⟩ := cells2r R1
  clear herr D1 R1 b1
  go_wp2
  (try simp only [Exit.inBlock, Exit.then])
  refine retNT rfl rfl (w.heap.size + 1) rfl _ _ (0, 0) (heap_set2 HDR.out _ _) _ Tryz.underlying68 rfl info_se _ rfl ?_
  exact .inr ⟨hE.out, by rw [hE2.out]; rfl, below_set2 B1.out (show w.heap.size ≤ w.heap.size + 1 by omega) _ _⟩
end Go.Proofs.YtpiikmkajckccaaGreat

namespace Go.Proofs.YtpiikmkajckccaaGreat
open Go.RowKit
set_option maxRecDepth 100000 in
set_option maxHeartbeats 4000000 in
theorem pof10_any (w : World) (t : Tr) (pv : Value) (h : RdC w pv t.pages) (hl : (t.pages.length + 1) * 32 ≤ 140737488355328) (hx : ∀ x ∈ t.pages, x.2.length ≤ 140737488351232) :
  Calls Tryz.prog 6 #[tv t pv] w fun e w' => ∃ pv', e = .returned (tv t pv') ∧ OwnPg w.heap.size w' pv' t.pages ∧ Below w.heap.size w w' := by
 obtain ⟨root, next, ps⟩ := t
 obtain ⟨a, c, rfl⟩ := h.slice
 dsimp only [tv] at *
 obtain ⟨W, hW, DW, bW, sW⟩ := boxedN w #[.int .i64 root, .int .i64 next, .slice a ps.length c] 24
 obtain ⟨X, hX, DX, bX, sX⟩ := boxedN W #[.int .i64 0, .int .i64 0, .slice none 0 0] 28
 obtain ⟨Y, hY, DY, bY, sY⟩ := boxedN X #[.int .i64 root, .int .i64 next, .slice none 0 0] 28
 have bWX := bW.trans (bX.mono bW.size)
 have bWY := bWX.trans (bY.mono bWX.size)
 have O1 : OwnPg Y.heap.size Y (.slice none 0 0) [] := ⟨[], rfl, World.ownsRow_nil _ _ _ _, fun i hi => by simp at hi⟩
 have D0 := (bX.block _ (lt_of_block DW)).trans DW
 obtain ⟨⟨E0, E1, E2⟩, EF⟩ := cells3p D0
 have D1 := (bY.block _ (lt_of_block D0)).trans D0
 have X1 := (bY.block _ (lt_of_block DX)).trans DX
 have HH := hide h
 have HY := hide bWY
 have hBX := hide D1
 have hRX := hide X1
 have hOX := hide DY
 rw [sW] at hRX
 rw [sX, sW] at hOX
 have hsz : Hid (Y.heap.size = w.heap.size + 1 + 1 + 1) := by show _ = _; rw [sY, sX, sW]
 have HI : Hid (OwnPg Y.heap.size Y (.slice none 0 0) (ps.take 0) ∧ Y.heap[w.heap.size + 1 + 1]? = some (.cells #[.int .i64 root, .int .i64 next, .slice none 0 0] 28 (0, 0)) ∧ Y.heap[w.heap.size]? = some (.cells #[.int .i64 root, .int .i64 next, .slice a ps.length c] 24 (0, 0)) ∧ Y.heap[w.heap.size + 1]? = some (.cells #[.int .i64 0, .int .i64 0, .slice none 0 0] 28 (0, 0)) ∧ Below w.heap.size w Y) := ⟨O1, hOX.out, hBX.out, hRX.out, bWY⟩
 rw [hX, hW] at E0 E1 E2 EF
 clear h bW bX DW DX D1 X1 O1 bWX bWY DY D0 bY
 go_enter Tryz.func6, Tryz.ntmps6
 go_wp2
 rw [← hW, ← hX, ← hY]
 replace hX := hide hX
 replace hW := hide hW
 replace hY := hide hY
 clear E0 E1 E2 EF hBX hRX hOX
 go_loopw [4] (fun p wr => ∃ k : Nat, k ≤ ps.length ∧ p = .int .i64 k ∧ ∃ v, Hid (OwnPg Y.heap.size wr v (ps.take k) ∧ wr.heap[w.heap.size + 1 + 1]? = some (.cells #[.int .i64 root, .int .i64 next, v] 28 (0, 0)) ∧ wr.heap[w.heap.size]? = some (.cells #[.int .i64 root, .int .i64 next, .slice a ps.length c] 24 (0, 0)) ∧ wr.heap[w.heap.size + 1]? = some (.cells #[.int .i64 0, .int .i64 0, .slice none 0 0] 28 (0, 0)) ∧ Below w.heap.size w wr)) (fun p _ => ps.length - (intOf p).toNat)
 case atStart => exact ⟨0, Nat.zero_le _, rfl, _, HI⟩
 case round =>
  obtain ⟨k, hk, rfl, v, hI⟩ := hrel
  clear HI
  obtain ⟨oa, oc, ho⟩ := hI.out.1.shape
  rw [List.length_take, Nat.min_eq_left hk] at ho
  subst ho
  obtain ⟨⟨A0, A1, A2⟩, AF⟩ := cells3p hI.out.2.2.1
  obtain ⟨⟨T0, T1, T2⟩, TF⟩ := cells3p hI.out.2.1
  by_cases hlt : k < ps.length
  ·have hq : (k : Int) < (ps.length : Int) := by omega
   obtain ⟨y, hy⟩ : ∃ y, ps[k]? = some y := ⟨_, List.getElem?_eq_getElem hlt⟩
   have hxl := hx y (List.mem_of_getElem? hy)
   have hsn := hide (take_snoc9 hy)
   obtain ⟨b, off, u, e1, hc1, hc2, hr⟩ := HH.out.wrt hy
   subst e1
   obtain ⟨z, x⟩ := y
   dsimp only at hc1 hc2 hr hxl
   obtain ⟨au, cu, rfl⟩ := hr.slice
   replace hc1 := (hI.out.2.2.2.2.cell (cell_lt hc1)).trans hc1
   replace hc2 := (hI.out.2.2.2.2.cell (cell_lt hc2)).trans hc2
   have bd : Below wr.heap.size wr wr.drew := below_drewN' wr 1 _
   have KC := hide (copy_any wr.drew _ x ((hr.to hI.out.2.2.2.2).to bd) (by omega))
   have hn : (k + 1) * 32 ≤ 140737488355328 := by omega
   have hlk : Hid ((ps.take k).length = k) := by show _ = _; rw [List.length_take, Nat.min_eq_left hk]
   obtain ⟨XL, hXL⟩ : ∃ XL, XL = x.length := ⟨_, rfl⟩
   rw [← hXL] at KC hc2
   replace hXL := hide hXL
   have d1 := (bd.cell (cell_lt hc1)).trans hc1
   have d2 := (bd.cell (cell_lt hc2)).trans hc2
   have d3 := (bd.cell (cell_lt A2)).trans A2
   have d4 := (bd.cell (cell_lt T2)).trans T2
   clear hr hy A0 A1 T0 T1
   go_upto_region 5 with fail
   clear A2 AF T2 TF hc1 hc2
   refine wp_region_mid (fun w' => w'.cell? ⟨b, off + k * 2, none⟩ = some (.int .i64 z) ∧ w'.cell? ⟨b, off + k * 2 + 1, none⟩ = some (.slice au XL cu) ∧ w'.cell? ⟨w.heap.size, 2, none⟩ = some (.slice (some ⟨b, off, none⟩) ps.length c) ∧ w'.cell? ⟨w.heap.size + 1 + 1, 2, none⟩ = some (.slice oa k oc)) 14 17 mixed (by kernel_rfl) (fun _ _ _ _ h => h) ⟨d1, d2, d3, d4⟩ ?_
   dsimp only [List.take, List.drop]
   iterate 14
    refine take_one (v := ?_) (by rfl) ?_ ?_
    rotate_left
    ·rintro w' ⟨s1, s2, s3, s4⟩
     go_simp
     try with_reducible rfl
    try simp only [Act.put, List.setIfInBounds_toArray, List.set_cons_zero, List.set_cons_succ]
   refine mid_one fun K hK => ?_
   refine step_call (by rfl) 22 _ _ (by rfl) #[.slice au XL cu] (by simp [Act.eval]) (Tryz.call22 _ _) KC.out ?_
   rintro e w2 ⟨v2, rfl, o2, b2⟩
   obtain ⟨va, vc, hv2⟩ := o2.rd.slice
   rw [← hXL.out] at hv2
   subst hv2
   have x1 := (b2.cell (cell_lt d1)).trans d1
   have x2 := (b2.cell (cell_lt d2)).trans d2
   have x3 := (b2.cell (cell_lt d3)).trans d3
   have x4 := (b2.cell (cell_lt d4)).trans d4
   refine ⟨_, rfl, hK _ _ ⟨x1, x2, x3, x4⟩ ?_⟩
   clear hK K
   have bw2 := bd.trans (b2.mono bd.size)
   have I2 := hide (And.intro (hI.out.1.to9 bw2) (And.intro ((bw2.block _ (lt_of_block hI.out.2.1)).trans hI.out.2.1) (And.intro ((bw2.block _ (lt_of_block hI.out.2.2.1)).trans hI.out.2.2.1) (And.intro ((bw2.block _ (lt_of_block hI.out.2.2.2.1)).trans hI.out.2.2.2.1) (hI.out.2.2.2.2.trans (bw2.mono hI.out.2.2.2.2.size))))))
   have O2 : Hid (OwnB Y.heap.size w2 (.slice va XL vc) x) := rows_mono o2 (by rw [hsz.out]; have := lt_of_block hI.out.2.1; have := bd.size; omega)
   have HS : Hid (Y.heap.size ≤ w2.heap.size) := by
    show _ ≤ _
    rw [hsz.out]
    have := lt_of_block hI.out.2.1
    have := bw2.size
    omega
   clear b2 o2 KC d1 d2 d3 d4 hI bw2 bd
   try simp only [Act.put, List.setIfInBounds_toArray, List.set_cons_zero, List.set_cons_succ]
   refine mid_one fun K hK => ?_
   rw [if_pos (by rfl)]
   go_simp
   refine hK _ _ ⟨x1, x2, x3, x4⟩ ?_
   clear hK K
   refine mid_one fun K hK => ?_
   rw [if_pos (by rfl)]
   go_simp
   refine hK _ _ ⟨cellAl9 x1 _, cellAl9 x2 _, cellAl9 x3 _, cellAl9 x4 _⟩ ?_
   clear hK K x1 x2 x3 x4
   show wpList _ _ _ _ _ _
   obtain ⟨Z, hZ, DZ, bZ, sZ⟩ := boxedN w2 #[.int .i64 z, .slice va XL vc] 44
   obtain ⟨⟨Z0, Z1⟩, _⟩ := cells2r DZ
   have OZ : OwnPg Y.heap.size Z (.slice oa k oc) (ps.take k) := I2.out.1.to9 bZ
   have SZ : OwnB Y.heap.size Z (.slice va XL vc) x := rows_to O2.out bZ
   have hB : Y.heap.size ≤ Z.heap.size := by have := HS.out; have := bZ.size; omega
   rw [hZ] at Z0 Z1 OZ SZ hB
   refine wpList_appPg rfl _ _ rfl Y.heap.size (.slice oa k oc) (ps.take k) (z, x) (.slice va XL vc) w2.heap.size rfl rfl OZ SZ rfl Z0 Z1 (by rw [hlk.out]; exact hn) hB ?_
   intro v5 w5 o5 g5 b5 _
   rw [← hZ] at b5
   rw [← hsn.out] at o5
   obtain ⟨na, nc, hv5⟩ := o5.shape
   generalize (ps.take (k + 1)).length = nl at hv5
   subst hv5
   have bZ2 := hide bZ
   have blk : ∀ j, j < Y.heap.size → ∀ o, w2.heap[j]? = some o → w5.heap[j]? = some o := fun j hj o ho => (b5.block j hj).trans ((bZ2.out.block j (lt_of_block ho)).trans ho)
   have T5 := blk _ (by rw [hsz.out]; omega) _ I2.out.2.1
   have A5 := blk _ (by rw [hsz.out]; omega) _ I2.out.2.2.1
   have R5 := blk _ (by rw [hsz.out]; omega) _ I2.out.2.2.2.1
   have bb5 : Below w.heap.size w w5 := (I2.out.2.2.2.2.trans (bZ2.out.mono I2.out.2.2.2.2.size)).trans (b5.mono (by rw [hsz.out]; omega))
   obtain ⟨⟨T0, T1, T2⟩, TF⟩ := cells3p T5
   have d0 := heap_setN T5 2 (.slice na nl nc)
   have D7 : (w5.setCell ⟨w.heap.size + 1 + 1, 2, none⟩ (.slice na nl nc)).heap[w.heap.size + 1 + 1]? = some (.cells #[.int .i64 root, .int .i64 next, (.slice na nl nc)] 28 (0, 0)) := by simpa using d0
   have A7 : (w5.setCell ⟨w.heap.size + 1 + 1, 2, none⟩ (.slice na nl nc)).heap[w.heap.size]? = _ := (Below.heap_setCell _ _ _ _ (show w.heap.size ≠ w.heap.size + 1 + 1 by omega)).trans A5
   have R7 : (w5.setCell ⟨w.heap.size + 1 + 1, 2, none⟩ (.slice na nl nc)).heap[w.heap.size + 1]? = _ := (Below.heap_setCell _ _ _ _ (show w.heap.size + 1 ≠ w.heap.size + 1 + 1 by omega)).trans R5
   have kk : ∀ e, e ≠ 28 → KeepT e w5 (w5.setCell ⟨w.heap.size + 1 + 1, 2, none⟩ (.slice na nl nc)) := fun e he => KeepT.set (a := ⟨w.heap.size + 1 + 1, 2, none⟩) T5 he _
   have I5 := hide (And.intro (o5.keepT (kk _ (by decide)) (kk _ (by decide))) (And.intro D7 (And.intro A7 (And.intro R7 (bb5.setCell (p := ⟨w.heap.size + 1 + 1, 2, none⟩) (show w.heap.size ≤ w.heap.size + 1 + 1 by omega) (.slice na nl nc))))))
   clear o5 g5 b5 Z0 Z1 OZ SZ hB DZ bZ hZ I2 O2 blk A5 R5 bb5 d0 D7 A7 R7 kk bZ2 T5 HS
   go_wp2
   go_roundw
   case rel => exact ⟨k + 1, by omega, by go_num, _, I5⟩
   case measure => simp [intOf]; omega
  ·have hq : ¬ (k : Int) < (ps.length : Int) := by omega
   obtain rfl : k = ps.length := by omega
   have htk : ps.take ps.length = ps := List.take_of_length_le (by omega)
   rw [htk] at hI
   have R6 := hI.out.2.2.2.1
   obtain ⟨⟨F0, F1, F2⟩, FF⟩ := cells3p R6
   have HR := hide R6
   have OO := hide (hI.out.1.keepT (s3_keep9 R6 (.int .i64 root) (.int .i64 next) (.slice oa ps.length oc) (by decide)) (s3_keep9 R6 (.int .i64 root) (.int .i64 next) (.slice oa ps.length oc) (by decide)))
   have BB := hide (below_set3t hI.out.2.2.2.2 (show w.heap.size ≤ w.heap.size + 1 by omega) (.int .i64 root) (.int .i64 next) (.slice oa ps.length oc))
   have hYw : Hid (w.heap.size ≤ Y.heap.size) := HY.out.size
   clear hI R6
   go_wp2
   refine retN rfl rfl (w.heap.size + 1) rfl _ _ (0, 0) (heap_set3t HR.out _ _ _) _ Tryz.underlying28 rfl info_tr ?_
   refine ⟨_, rfl, ?_, BB.out⟩
   exact OwnX.base OO.out hYw.out
end Go.Proofs.YtpiikmkajckccaaGreat

namespace Go.Proofs.YtpiikmkajckccaaGreat
open Go.RowKit
abbrev nd0 : Nd := ⟨true, [], [], []⟩
theorem nd0_ok : NOk nd0 := by
 refine ⟨fun k hk => by simp at hk, ?_, fun k hk => by simp at hk, fun k hk => by simp at hk, by decide⟩
 simp [ncount]
def TopIs (t : Tr) (nd : Nd) : Prop := (t.root = 0 ∧ nd = nd0) ∨ (t.root ≠ 0 ∧ ∃ x, tpage t.pages t.root = some x ∧ ndec x = (nd, 0))
theorem info_nd10 : (Tryz.prog.info? 98).map (·.size) = some 4 := by kernel_rfl
theorem root_seen {t : Tr} {s : Sw} (h : twalk t = some s) (h0 : t.root ≠ 0) : WOk t.pages s.seen 16 t.root [] none ∧ s.prs = prsOf t.pages 16 t.root := by
 unfold twalk at h
 rw [if_neg h0] at h
 obtain ⟨_, a, b⟩ := wk_ok 16 _ _ _ _ _ h
 exact ⟨a, by simpa using b⟩
theorem PWk.node {w0 w : World} {B g bm : Nat} {t : Tr} {pv : Value} {s : Sw} {m : Int → Option Value} (h : PWk w0 w B g bm t pv s m) {id : Int} (hi : id ∈ s.seen) : ∃ v, m id = some v ∧ NdOf t.pages B w id v := by
 have h1 := h.has id
 rw [decide_eq_true hi] at h1
 obtain ⟨v, hv⟩ := Option.isSome_iff_exists.1 h1
 exact ⟨v, hv, h.nds id v hv⟩
theorem drewHeap {w : World} {b : Nat} {o : Option Obj} (h : w.heap[b]? = o) : w.drew.heap[b]? = o := h
abbrev S4 (g : Nat) (w : World) (x y z v : Value) : World := (((w.setCell ⟨g, 0, none⟩ x).setCell ⟨g, 1, none⟩ y).setCell ⟨g, 2, none⟩ z).setCell ⟨g, 3, none⟩ v
theorem s4_keep {g : Nat} {w : World} {cs : Array Value} {T : Nat} (h : w.heap[g]? = some (.cells cs T (0, 0))) (x y z v : Value) {e : Nat} (he : e ≠ T) : KeepT e w (S4 g w x y z v) :=
 (((KeepT.set (a := ⟨g, 0, none⟩) h he x).trans (KeepT.set (a := ⟨g, 1, none⟩) (heap_setN h 0 x) he y)).trans (KeepT.set (a := ⟨g, 2, none⟩) (heap_setN (heap_setN h 0 x) 1 y) he z)).trans (KeepT.set (a := ⟨g, 3, none⟩) (heap_setN (heap_setN (heap_setN h 0 x) 1 y) 2 z) he v)
theorem s4_other {g : Nat} {w : World} (x y z v : Value) {b : Nat} (h : b ≠ g) : (S4 g w x y z v).heap[b]? = w.heap[b]? := by
 rw [Below.heap_setCell _ _ _ _ h, Below.heap_setCell _ _ _ _ h, Below.heap_setCell _ _ _ _ h, Below.heap_setCell _ _ _ _ h]
theorem OwnN.keepT {B : Nat} {w w' : World} {kv vv dv : Value} {nd : Nd} (h : OwnN B w kv vv dv nd) (k1 : KeepT 9 w w') (k2 : KeepT 3 w w') : OwnN B w' kv vv dv nd := ⟨rows_keepT h.keys k1, rows_keepT h.vals k1, rows_keepT h.kids k2⟩
theorem PWk.side {w0 w w' : World} {B g bm : Nat} {t : Tr} {pv : Value} {s : Sw} {m : Int → Option Value} (h : PWk w0 w B g bm t pv s m) (k : ∀ e, e ≠ 98 → KeepT e w w') (hm : w'.heap[bm]? = w.heap[bm]?) (hb : Below w0.heap.size w0 w') : PWk w0 w' B g bm t pv s m := by
 refine ⟨k _ (by decide) _ _ _ h.box, h.map.kept hm, h.has, fun i v hv => ?_, h.pg, h.ok, h.dep, hb, h.hg, h.hm, h.apt⟩
 obtain ⟨x, nd, kv, vv, dv, h1, h2, h3, h4, h5⟩ := h.nds i v hv
 exact ⟨x, nd, kv, vv, dv, h1, h2, h3, h4.keepT (k _ (by decide)) (k _ (by decide)), h5⟩
set_option maxRecDepth 100000 in
set_option maxHeartbeats 2000000 in
theorem ptop_any (w0 w : World) (B g bm : Nat) (t : Tr) (pv : Value) (s : Sw) (m : Int → Option Value) (H : PWk w0 w B g bm t pv s m) (hroot : (Lit.int .i64 t.root).wf = true) (ht : twalk t = some s) :
  Calls Tryz.prog 38 #[.pointer (some ⟨g, 0, none⟩)] w fun e w' => ∃ nd kv vv dv, e = .returned (nv nd kv vv dv) ∧ TopIs t nd ∧ OwnN B w' kv vv dv nd ∧ Below w.heap.size w w' ∧ Dj kv vv dv := by
 obtain ⟨root, next, ps⟩ := t
 obtain ⟨W, hW, DW, bW, sW⟩ := boxedN w #[.bool false, .slice none 0 0, .slice none 0 0, .slice none 0 0] 98
 have HW := H.to bW
 obtain ⟨⟨C0, C1, C2, C3⟩, ⟨C4, C5⟩, CF⟩ := HW.cell
 obtain ⟨⟨E0, E1, E2, E3⟩, EF⟩ := cells4 DW
 dsimp only at C0 C1 C2 C3 C4 C5 hroot
 have HB := hide bW
 have HD := hide DW
 have HC := hide (And.intro HW.cell (cells4 DW))
 rw [hW] at C0 C1 C2 C3 C4 C5 CF E0 E1 E2 E3 EF
 by_cases r0 : root = 0
 ·have q : (root == 0) = true := by simp [r0]
  have hT : Hid (TopIs ⟨root, next, ps⟩ nd0) := .inl ⟨r0, rfl⟩
  replace r0 := hide r0
  clear DW bW
  go_enter Tryz.func38, Tryz.ntmps38
  go_wp2
  refine retN rfl rfl w.heap.size rfl _ _ _ (heap_alloc_last w _) _ Tryz.underlying98 rfl info_nd10 ?_
  exact ⟨nd0, _, _, _, rfl, hT.out, OwnN.nil _ _ _, (Below.refl _ _).alloc (Nat.le_refl _) _, Dj.nil⟩
 ·have q : (root == 0) = false := by simp [r0]
  obtain ⟨h1, _⟩ := root_seen ht r0
  obtain ⟨v, hv, x, nd, kv, vv, dv, n1, n2, rfl, n4, n5⟩ := HW.node h1.1
  replace n5 := hide n5
  have bD : Below W.heap.size W W.drew := below_drewN' W 1 _
  have HD2 := HW.to bD
  have hlk1 := HW.map.look Tryz.underlying107 (zeroNd W) hroot false
  have hlk2 := HD2.map.look Tryz.underlying107 (zeroNd W.drew) hroot false
  rw [hv] at hlk1 hlk2
  simp only [Option.getD_some, Bool.false_eq_true, if_false] at hlk1 hlk2
  have hT : Hid (TopIs ⟨root, next, ps⟩ nd) := .inr ⟨r0, x, n1, n2⟩
  obtain ⟨ka, kc, va, vc, da, dc, rfl, rfl, rfl⟩ := n4.rd.slices
  dsimp only [nv] at hlk1 hlk2
  have HN4 := hide n4
  replace r0 := hide r0
  have HD0 := hide DW
  clear HD DW bW
  go_enter Tryz.func38, Tryz.ntmps38
  go_upto_region 3 with fail
  rw [← hW]
  clear C0 C1 C2 C3 C4 C5 CF E0 E1 E2 E3 EF
  obtain ⟨⟨⟨C0, C1, C2, C3⟩, ⟨C4, C5⟩, CF⟩, ⟨E0, E1, E2, E3⟩, EF⟩ := HC.out
  dsimp only at C0 C1 C2 C3 C4 C5
  replace hW := hide hW
  go_region
  go_wp2
  refine retN rfl rfl w.heap.size rfl _ _ (0, 0) (drewHeap (heap_set4 HD0.out _ _ _ _)) _ Tryz.underlying98 rfl info_nd10 ?_
  refine ⟨nd, _, _, _, rfl, hT.out, ?_, ?_, n5.out⟩
  ·have k := fun e he => s4_keep (w := W) HD0.out (.bool nd.leaf) (.slice ka nd.keys.length kc) (.slice va nd.vals.length vc) (.slice da nd.kids.length dc) (e := e) he
   exact OwnN.to (HN4.out.keepT (k _ (by decide)) (k _ (by decide)) : OwnN B (S4 w.heap.size W _ _ _ _) _ _ _ nd) (below_drewN' _ 1 _)
  ·exact (below_set4n HB.out (Nat.le_refl _) _ _ _ _).trans (below_drewN' _ 1 _)
def SK (l : List Wrt) (S : List Int) (prs : List Pr) (key : Str) (k : Nat) (nd : Nd) : Prop := NOk nd ∧ ((nd.leaf = true ∧ pget prs key = pget (npr nd) key) ∨
 (nd.leaf = false ∧ ∃ lo hi, (∀ (i : Nat) kid, nd.kids[i]? = some kid → WOk l S k kid (kidLo nd lo i) (kidHi nd hi i)) ∧ pget prs key = pget (nd.kids.flatMap (prsOf l k)) key))
theorem SK.top {t : Tr} {s : Sw} (ht : twalk t = some s) {nd : Nd} (h : TopIs t nd) (key : Str) : SK t.pages s.seen s.prs key 15 nd := by
 rcases h with ⟨h0, rfl⟩ | ⟨h0, x, h1, h2⟩
 ·refine ⟨nd0_ok, .inl ⟨rfl, ?_⟩⟩
  unfold twalk at ht
  rw [if_pos h0] at ht
  simp only [Option.some.injEq] at ht
  subst ht
  rfl
 ·obtain ⟨⟨a1, x', nd', b1, b2, b3, b4, b5⟩, c⟩ := root_seen ht h0
  rw [h1] at b1
  simp only [Option.some.injEq] at b1
  subst b1
  rw [h2] at b2
  simp only [Prod.mk.injEq, and_true] at b2
  subst b2
  refine ⟨ndec_ok h2, ?_⟩
  cases hl : nd.leaf with
  | true => exact .inl ⟨rfl, by rw [c, prsOf_leaf h1 h2 hl]⟩
  | false => exact .inr ⟨rfl, [], none, b5 hl, by rw [c, prsOf_inner h1 h2 hl]⟩
theorem SK.step {l : List Wrt} {S : List Int} {prs : List Pr} {key : Str} {k : Nat} {nd : Nd} (h : SK l S prs key k nd) (hl : nd.leaf = false) :
  ∃ (i : Nat) (kid : Int), nfind nd key = (i : Int) ∧ nd.kids[i]? = some kid ∧ i < nd.kids.length ∧ kid ∈ S ∧ ∃ k' x nd', k = k' + 1 ∧ tpage l kid = some x ∧ ndec x = (nd', 0) ∧ SK l S prs key k' nd' := by
 obtain ⟨hok, h | ⟨_, lo, hi, h1, h2⟩⟩ := h
 ·rw [hl] at h; cases h.1
 ·obtain ⟨i, kid, a1, a2, a3, a4⟩ := seek hok hl key h1
  have hw := h1 i kid a2
  cases k with
  | zero => exact hw.elim
  | succ k' =>
   obtain ⟨b0, x, nd', b1, b2, b3, b4, b5⟩ := hw
   refine ⟨i, kid, a1, a2, a3, b0, k', x, nd', rfl, b1, b2, ndec_ok b2, ?_⟩
   cases hl' : nd'.leaf with
   | true => exact .inl ⟨rfl, by rw [h2, a4, prsOf_leaf b1 b2 hl']⟩
   | false => exact .inr ⟨rfl, _, _, b5 hl', by rw [h2, a4, prsOf_inner b1 b2 hl']⟩
theorem SK.leaf {l : List Wrt} {S : List Int} {prs : List Pr} {key : Str} {k : Nat} {nd : Nd} (h : SK l S prs key k nd) (hl : nd.leaf = true) :
  ∃ i : Nat, nfind nd key = (i : Int) ∧ ((nhas nd key = true ∧ i < nd.vals.length ∧ pget prs key = nd.vals[i]?) ∨ (nhas nd key = false ∧ pget prs key = none)) := by
 obtain ⟨hok, ⟨_, h⟩ | ⟨h, _⟩⟩ := h
 ·have hv : nd.vals.length = nd.keys.length := by
   have h1 := hok.2.1
   unfold ncount at h1
   rw [if_pos hl] at h1
   exact h1.1
  obtain ⟨i, a1, a2, a3⟩ := seekLeaf (rise_of hok.1) hv key
  refine ⟨i, by rw [nfind, if_pos ((ncheck_ok nd).2 hok), hl]; exact a1, ?_⟩
  rw [nhas, if_pos ((ncheck_ok nd).2 hok), h]
  rcases a3 with ⟨b1, b2, b3⟩ | ⟨b1, b2⟩
  ·exact .inl ⟨b1, b2, b3⟩
  ·exact .inr ⟨b1, b2⟩
 ·rw [hl] at h; cases h
theorem NOk.fit {nd : Nd} (h : NOk nd) : nfit nd := by
 have h1 := (npr_len h).2
 have h2 := h.2.1
 unfold ncount at h2
 unfold nfit
 split at h2 <;> omega
structure VI (w0 w wr : World) (B g bm : Nat) (t : Tr) (pv : Value) (s : Sw) (m : Int → Option Value) (nb : Nat) (key : Str) (k : Nat) (nd : Nd) (kv vv dv : Value) : Prop where
 box : wr.heap[nb]? = some (.cells #[.bool nd.leaf, kv, vv, dv] 98 (0, 0))
 own : OwnN B wr kv vv dv nd
 pw : PWk w0 wr B g bm t pv s m
 sk : SK t.pages s.seen s.prs key k nd
 bel : Below w.heap.size w wr
theorem VI.to {w0 w wr w' : World} {B g bm : Nat} {t : Tr} {pv : Value} {s : Sw} {m : Int → Option Value} {nb : Nat} {key : Str} {k : Nat} {nd : Nd} {kv vv dv : Value} (h : VI w0 w wr B g bm t pv s m nb key k nd kv vv dv) (b : Below wr.heap.size wr w') : VI w0 w w' B g bm t pv s m nb key k nd kv vv dv :=
 ⟨(b.block _ (lt_of_block h.box)).trans h.box, h.own.to b, h.pw.to b, h.sk, h.bel.trans (b.mono h.bel.size)⟩
theorem VI.put {w0 w wr : World} {B g bm : Nat} {t : Tr} {pv : Value} {s : Sw} {m : Int → Option Value} {nb : Nat} {key : Str} {k k' : Nat} {nd nd' : Nd} {kv vv dv kv' vv' dv' : Value} (h : VI w0 w wr B g bm t pv s m nb key k nd kv vv dv) (hnb : w.heap.size ≤ nb) (hw : w0.heap.size ≤ w.heap.size)
  (ho : OwnN B wr kv' vv' dv' nd') (hs : SK t.pages s.seen s.prs key k' nd') : VI w0 w (S4 nb wr (.bool nd'.leaf) kv' vv' dv').drew B g bm t pv s m nb key k' nd' kv' vv' dv' := by
 have kk := fun e (he : e ≠ 98) => s4_keep h.box (.bool nd'.leaf) kv' vv' dv' he
 refine VI.to (wr := S4 nb wr (.bool nd'.leaf) kv' vv' dv') ⟨heap_set4 h.box _ _ _ _, ho.keepT (kk _ (by decide)) (kk _ (by decide)), ?_, hs, below_set4n h.bel hnb _ _ _ _⟩ (below_drewN' _ 1 _)
 exact h.pw.side kk (s4_other _ _ _ _ (h.pw.map.ne h.box)) (below_set4n h.pw.bel (Nat.le_trans hw hnb) _ _ _ _)
def valOf (o : Option Str) : Str × Bool := match o with | some v => (v, true) | none => ([], false)
set_option maxRecDepth 100000 in
set_option maxHeartbeats 4000000 in
theorem pvalue_any (w0 w : World) (B g bm : Nat) (t : Tr) (pv : Value) (s : Sw) (m : Int → Option Value) (key : Str) (H : PWk w0 w B g bm t pv s m) (hB : B ≤ w.heap.size) (hroot : (Lit.int .i64 t.root).wf = true) (ht : twalk t = some s) :
  Calls Tryz.prog 42 #[.pointer (some ⟨g, 0, none⟩), st key] w fun e w' => e = .returned (.tuple #[st (valOf (pget s.prs key)).1, .bool (valOf (pget s.prs key)).2]) ∧ Below w.heap.size w w' := by
 have KT := hide (ptop_any w0 w B g bm t pv s m H hroot ht)
 obtain ⟨R, hR⟩ : ∃ R, R = valOf (pget s.prs key) := ⟨_, rfl⟩
 rw [← hR]
 replace hR := hide hR
 replace H := hide H
 replace ht := hide ht
 go_enter Tryz.func42, Tryz.ntmps42
 go_wp2_with fail
 refine KT.out.mono ?_
 rintro e w1 ⟨nd, kv, vv, dv, rfl, hT, ho, b1, _⟩
 obtain ⟨X, hX, DX, bX, sX⟩ := boxedN w1 #[.bool nd.leaf, kv, vv, dv] 98
 have bw := b1.trans (bX.mono b1.size)
 have HX := hide (H.out.to bw)
 have SK0 := SK.top ht.out hT key
 have KF := hide (pfind9_any X kv vv dv nd key (ho.to bX).rd SK0.1.fit)
 obtain ⟨ka, kc, va, vc, da, dc, rfl, rfl, rfl⟩ := ho.rd.slices
 obtain ⟨⟨E0, E1, E2, E3⟩, EF⟩ := cells4 DX
 rw [hX] at E0 E1 E2 E3 EF KF
 have OX := hide (ho.to bX)
 have DX' := hide DX
 have BX := hide bw
 replace SK0 := hide SK0
 have hnb : Hid (w.heap.size ≤ w1.heap.size) := b1.size
 dsimp only [nv] at KF
 clear DX bX bw ho b1 hT KT
 go_wp2_with fail
 refine KF.out.mono ?_
 rintro e w2 ⟨rfl, b2⟩
 rw [← hX] at b2
 replace hX := hide hX
 have VI0 : Hid (VI w0 w w2 B g bm t pv s m w1.heap.size key 15 nd (.slice ka nd.keys.length kc) (.slice va nd.vals.length vc) (.slice da nd.kids.length dc)) := VI.to ⟨DX'.out, OX.out, HX.out, SK0.out, BX.out⟩ b2
 have hw0 : Hid (w0.heap.size ≤ w.heap.size) := H.out.bel.size
 obtain ⟨nb, hnb'⟩ : ∃ nb, nb = w1.heap.size := ⟨_, rfl⟩
 rw [← hnb'] at VI0 hnb ⊢
 clear hnb' DX' OX HX SK0 BX KF E0 E1 E2 E3 EF b2
 go_wp2
 go_loopg [7, 8] 15 (fun k a b wr => ∃ nd kv vv dv, a = .int .i64 (nfind nd key) ∧ b = .bool (nhas nd key) ∧ Hid (VI w0 w wr B g bm t pv s m nb key k nd kv vv dv))
 case atStart => exact ⟨nd, _, _, _, rfl, rfl, VI0⟩
 case round =>
  obtain ⟨nd, kv, vv, dv, rfl, rfl, hI⟩ := hrel
  clear VI0
  obtain ⟨ka, kc, va, vc, da, dc, rfl, rfl, rfl⟩ := hI.out.own.rd.slices
  obtain ⟨⟨E0, E1, E2, E3⟩, EF⟩ := cells4 hI.out.box
  obtain ⟨⟨C0, C1, C2, C3⟩, ⟨C4, C5⟩, CF⟩ := hI.out.pw.cell
  cases hl : nd.leaf with
  | false =>
   rw [hl] at E0
   obtain ⟨i, kid, s1, s2, s3, s4, k', x, nd', rfl, n1, n2, s5⟩ := hI.out.sk.step hl
   obtain ⟨v, hv, x', nd'', kv', vv', dv', z1, z2, rfl, z4, _⟩ := hI.out.pw.node s4
   rw [n1] at z1
   simp only [Option.some.injEq] at z1
   subst z1
   rw [n2] at z2
   simp only [Prod.mk.injEq, and_true] at z2
   subst z2
   obtain ⟨b5, off5, e5, hc5⟩ := hI.out.own.rd.kids.intAt s2
   subst e5
   have hkw : (Lit.int .i64 kid).wf = true := by
    have := hI.out.sk.1.2.2.2.1 i s3
    rw [s2] at this
    simp only [Option.getD_some] at this
    exact WalkArith.wf_i64 (by omega)
   have bD : Below wr.heap.size wr wr.drew := below_drewN' wr 1 _
   have hlk1 := hI.out.pw.map.look Tryz.underlying107 (zeroNd wr) hkw false
   have hlk2 := (hI.out.pw.to bD).map.look Tryz.underlying107 (zeroNd wr.drew) hkw false
   rw [hv] at hlk1 hlk2
   simp only [Option.getD_some, Bool.false_eq_true, if_false] at hlk1 hlk2
   have VN := hide (hI.out.put (kv' := kv') (vv' := vv') (dv' := dv') hnb.out hw0.out z4 s5)
   obtain ⟨ka', kc', va', vc', da', dc', rfl, rfl, rfl⟩ := z4.rd.slices
   dsimp only [nv] at hlk1 hlk2
   have hil : (i : Int) < (nd.kids.length : Int) := by omega
   have KF := hide (pfind9_any _ _ _ _ nd' key VN.out.own.rd s5.1.fit)
   obtain ⟨⟨F0, F1, F2, F3⟩, FF⟩ := cells4 VN.out.box
   rw [s1]
   replace hl := hide hl
   clear s1 s2 s4 n1 n2 s5 hv z4 bD hkw hI
   obtain ⟨Y, hY⟩ : ∃ Y, Y = (S4 nb wr (.bool nd'.leaf) (.slice ka' nd'.keys.length kc') (.slice va' nd'.vals.length vc') (.slice da' nd'.kids.length dc')).drew := ⟨_, rfl⟩
   rw [← hY] at VN KF F0 F1 F2 F3 FF
   dsimp only [S4] at hY
   dsimp only [nv] at KF
   go_wp2
   go_region
   rw [← hY]
   clear hY hlk1 hlk2 E0 E1 E2 E3 EF C0 C1 C2 C3 C4 C5 CF
   go_wp2_with fail
   refine KF.out.mono ?_
   rintro e w5 ⟨rfl, b5⟩
   have VN5 := hide (VN.out.to b5)
   clear b5 VN KF F0 F1 F2 F3 FF
   go_wp2
   go_roundg k'
   case measure => omega
   case rel => exact ⟨nd', _, _, _, rfl, rfl, VN5⟩
  | true =>
   rw [hl] at E0
   obtain ⟨i, s1, s2⟩ := hI.out.sk.leaf hl
   have BB := hide hI.out.bel
   rw [s1]
   rcases s2 with ⟨s2, s3, s4⟩ | ⟨s2, s3⟩
   ·obtain ⟨v, hv⟩ := some_el nd.vals (k := i) s3
    have hr : Hid (R = (v, true)) := by show _ = _; rw [hR.out, s4, hv]; rfl
    obtain ⟨b5, off5, e5, hc5⟩ := hI.out.own.rd.vals.strAt hv
    subst e5
    have hil : (i : Int) < (nd.vals.length : Int) := by omega
    rw [s2]
    replace hl := hide hl
    clear s1 s2 s4 hv hI
    go_wp2
    go_ret2
    rw [hr.out]
    exact ⟨rfl, BB.out⟩
   ·have hr : Hid (R = ([], false)) := by show _ = _; rw [hR.out, s3]; rfl
    rw [s2]
    replace hl := hide hl
    clear s1 s2 s3 hI
    go_wp2
    go_ret2
    rw [hr.out]
    exact ⟨rfl, BB.out⟩
end Go.Proofs.YtpiikmkajckccaaGreat

namespace Go.Proofs.YtpiikmkajckccaaGreat
open Go.RowKit
abbrev NV := Nd × Value × Value × Value
def ncl (ns : List NV) : List Value := ns.flatMap fun n => [.bool n.1.leaf, n.2.1, n.2.2.1, n.2.2.2]
theorem ncl_app (a b : List NV) : ncl (a ++ b) = ncl a ++ ncl b := by unfold ncl; rw [List.flatMap_append]
theorem ncl_at : ∀ (l : List NV) (i : Nat) (y : NV), l[i]? = some y → (ncl l)[i * 4]? = some (.bool y.1.leaf) ∧ (ncl l)[i * 4 + 1]? = some y.2.1 ∧ (ncl l)[i * 4 + 2]? = some y.2.2.1 ∧ (ncl l)[i * 4 + 3]? = some y.2.2.2
 | [], i, y, h => by simp at h
 | x :: r, 0, y, h => by
  have : x = y := by simpa using h
  subst this
  exact ⟨rfl, rfl, rfl, rfl⟩
 | x :: r, i + 1, y, h => by
  have := ncl_at r i y (by simpa using h)
  rw [show (i + 1) * 4 = i * 4 + 4 from by omega, show i * 4 + 4 + 1 = i * 4 + 1 + 4 from by omega, show i * 4 + 4 + 2 = i * 4 + 2 + 4 from by omega, show i * 4 + 4 + 3 = i * 4 + 3 + 4 from by omega]
  exact this
abbrev OwnNs (B : Nat) (w : World) (v : Value) (ns : List NV) : Prop := w.ownsRow B 98 4 v ns.length (ncl ns)
theorem infoNd4 : (Tryz.prog.info? 98).map (fun i => (i.zero, i.size, i.bytes)) = some (some (.agg #[.bool false, .slice none 0 0, .slice none 0 0, .slice none 0 0]), 4, 80) := by kernel_rfl
theorem step_appN {ops : Array Oper} {o : Oper} {a : Act} {w : World} {K : Act → World → Prop} {Q : Exit → Act → World → Prop} {E : Prop} (hgd : o.guard = none) (s x : Operand)
  (ho : o.op = .call { callee := .builtin .append, args := #[s, x], argTypes := #[126, 126] }) (B : Nat) (v : Value) (ns : List NV) (y : NV) (g : Nat) (hs : a.eval s = v) (hx : a.eval x = .slice (some ⟨g, 0, none⟩) 1 1)
  (hown : OwnNs B w v ns) (ho1 : y.2.1.oneCell' = true ∧ y.2.2.1.oneCell' = true ∧ y.2.2.2.oneCell' = true) (hbx : w.heap[g]? = some (.cells #[.bool y.1.leaf, y.2.1, y.2.2.1, y.2.2.2] 98 (0, 0))) (hlen : (ns.length + 1) * 80 ≤ 140737488355328) (hB : B ≤ w.heap.size)
  (h : ∀ g' cap w', OwnNs B w' (.slice (some ⟨g', 0, none⟩) (ns.length + 1) cap) (ns ++ [y]) → w.grownBy w' v.ownBlock → (v.ownBlock = some g' ∨ g' = w.heap.size) → K (a.put o.dst (.slice (some ⟨g', 0, none⟩) (ns.length + 1) cap)) w') : if Region.wanted o (yielded ops a.tmps) = true then Oper.wp Tryz.prog o a w K Q else E := by
 obtain ⟨i0, hi, hz0, hz1, hz2⟩ := info_parts infoNd4
 have n2 : ∀ j u, (ncl [y])[j]? = some u → w.cell? ((⟨g, 0, none⟩ : Addr).add j) = some u := by
  intro j u hj
  have e : (⟨g, 0, none⟩ : Addr).add j = ⟨g, j, none⟩ := by
   by_cases h0 : j = 0
   ·subst h0; rfl
   ·simp [Addr.add, h0]
  rw [e]
  exact cellN hbx (by simpa [ncl] using hj)
 refine step_append_lies _ hgd s x 126 ho B 98 i0 (.agg #[.bool false, .slice none 0 0, .slice none 0 0, .slice none 0 0]) 4 80 Tryz.underlying126 hi hz0 hz1 hz2 rfl (by decide) v ns.length (ncl ns) hs hown ⟨g, 0, none⟩ 1 1 (ncl [y]) hx rfl n2
  (fun u hu => by simp [ncl] at hu; rcases hu with rfl | rfl | rfl | rfl; rfl; exact ho1.1; exact ho1.2.1; exact ho1.2.2) (by decide) (by rw [show maxLen = 9223372036854775807 from rfl]; omega) hlen hB _ rfl ?_
 intro g' cap w' h1 h2 h3 _
 refine h g' cap w' ?_ h2 h3
 show World.ownsRow _ _ _ _ _ _ _
 rw [ncl_app]
 simpa using h1
structure ChI (B : Nat) (w : World) (gc g : Nat) (next : Int) (av : Value) (ns : List NV) : Prop where
 box : w.heap[gc]? = some (.cells #[.pointer (some ⟨g, 0, none⟩), av] 128 (0, 0))
 row : OwnNs B w av ns
 nxt : w.cell? ⟨g, 1, none⟩ = some (.int .i64 next)
 hC : B ≤ gc
theorem ChI.to {B : Nat} {w w' : World} {gc g : Nat} {next : Int} {av : Value} {ns : List NV} (h : ChI B w gc g next av ns) (b : Below w.heap.size w w') : ChI B w' gc g next av ns :=
 ⟨(b.block _ (lt_of_block h.box)).trans h.box, rows_to h.row b, (b.cell (cell_lt h.nxt)).trans h.nxt, h.hC⟩
structure KCh (B gc : Nat) (av av' : Value) (w w' : World) : Prop where
 keep : ∀ b, b < w.heap.size → b ≠ gc → av.ownBlock ≠ some b → w'.heap[b]? = w.heap[b]?
 row : ∀ b, av'.ownBlock = some b → av.ownBlock = some b ∨ w.heap.size ≤ b
 size : w.heap.size ≤ w'.heap.size
 bel : Below B w w'
theorem KCh.of {B gc : Nat} {av : Value} {w w' : World} (b : Below w.heap.size w w') (hB : B ≤ w.heap.size) : KCh B gc av av w w' := ⟨fun i hi _ _ => b.block i hi, fun i h => .inl h, b.size, b.mono hB⟩
theorem KCh.trans {B gc : Nat} {a b c : Value} {u v w : World} (h : KCh B gc a b u v) (k : KCh B gc b c v w) : KCh B gc a c u w :=
 ⟨fun i h1 h2 h3 => (k.keep i (Nat.lt_of_lt_of_le h1 h.size) h2 (fun e => by
   rcases h.row i e with q | q
   ·exact h3 q
   ·omega)).trans (h.keep i h1 h2 h3),
  fun i e => by
    rcases k.row i e with q | q
    ·exact h.row i q
    ·exact .inr (Nat.le_trans h.size q),
  Nat.le_trans h.size k.size, h.bel.trans k.bel⟩
theorem ChI.app {B : Nat} {w wA w5 : World} {gc g g' cap : Nat} {next : Int} {av : Value} {ns : List NV} {y : NV} (h : ChI B w gc g next av ns) (bA : Below w.heap.size w wA) (hB : B ≤ w.heap.size) (hg : ∀ b, av.ownBlock = some b → b ≠ g) (hgc : gc ≠ g)
  (o5 : OwnNs B w5 (.slice (some ⟨g', 0, none⟩) (ns.length + 1) cap) (ns ++ [y])) (g5 : wA.grownBy w5 av.ownBlock) (l5 : av.ownBlock = some g' ∨ g' = wA.heap.size) :
  ChI B (w5.setCell ⟨gc, 1, none⟩ (.slice (some ⟨g', 0, none⟩) (ns.length + 1) cap)) gc g next (.slice (some ⟨g', 0, none⟩) (ns.length + 1) cap) (ns ++ [y]) ∧ KCh B gc av (.slice (some ⟨g', 0, none⟩) (ns.length + 1) cap) w (w5.setCell ⟨gc, 1, none⟩ (.slice (some ⟨g', 0, none⟩) (ns.length + 1) cap)) ∧
   w5.cell? ⟨gc, 0, none⟩ = some (.pointer (some ⟨g, 0, none⟩)) ∧ w5.cell? ⟨gc, 1, none⟩ = some av ∧ ∀ i, w5.frozen? ⟨gc, i, none⟩ = false := by
 have hA := h.to bA
 have hbx := KeepT.grown hA.row g5 (e := 128) (by decide) _ _ _ hA.box
 have hkeep : ∀ b, b < w.heap.size → av.ownBlock ≠ some b → w5.heap[b]? = w.heap[b]? := fun b h1 h2 => (g5.block b (Nat.lt_of_lt_of_le h1 bA.size) (fun e => h2 e.symm)).trans (bA.block b h1)
 have hgl : g < w.heap.size := cell_lt h.nxt
 refine ⟨⟨?_, rows_keepT o5 (KeepT.set (a := ⟨gc, 1, none⟩) hbx (by decide) _), ?_, h.hC⟩, ⟨fun b h1 h2 h3 => (Below.heap_setCell _ _ _ _ h2).trans (hkeep b h1 h3), fun b hb => ?_, ?_, ?_⟩, cellN hbx rfl, cellN hbx rfl, frozN hbx⟩
 ·have := heap_setN hbx 1 (.slice (some ⟨g', 0, none⟩) (ns.length + 1) cap)
  simpa using this
 ·have e1 : (w5.setCell ⟨gc, 1, none⟩ (.slice (some ⟨g', 0, none⟩) (ns.length + 1) cap)).heap[g]? = w.heap[g]? := (Below.heap_setCell _ _ _ _ (Ne.symm hgc)).trans (hkeep g hgl (fun e => hg g e rfl))
  have := h.nxt
  simp only [World.cell?] at this ⊢
  rw [e1]; exact this
 ·have : g' = b := by simpa [Value.ownBlock] using hb
  subst this
  rcases l5 with l5 | l5
  ·exact .inl l5
  ·exact .inr (by rw [l5]; exact bA.size)
 ·have := g5.size
  have := bA.size
  simp
  omega
 ·exact ((bA.mono hB).trans ((Below.refl _ _).grown g5 (Nat.le_trans hB bA.size) (fun k hk => (World.ownsRow.lt hA.row k hk).1))).setCell h.hC _
set_option maxRecDepth 100000 in
set_option maxHeartbeats 4000000 in
theorem padd_any (B : Nat) (w : World) (gc g : Nat) (next : Int) (av : Value) (ns : List NV) (nd : Nd) (kv vv dv : Value) (h : ChI B w gc g next av ns) (hB : B ≤ w.heap.size) (hg : ∀ b, av.ownBlock = some b → b ≠ g) (hgc : gc ≠ g) (hns : ns.length ≤ 1000) (hnx : 0 ≤ next ∧ next ≤ 65536)
  (ho1 : kv.oneCell' = true ∧ vv.oneCell' = true ∧ dv.oneCell' = true) :
  Calls Tryz.prog 84 #[.pointer (some ⟨gc, 0, none⟩), nv nd kv vv dv] w fun e w' => ∃ av', e = .returned (.int .i64 (next + (ns.length : Int))) ∧ ChI B w' gc g next av' (ns ++ [(nd, kv, vv, dv)]) ∧ KCh B gc av av' w w' := by
 obtain ⟨W, hW, DW, bW, sW⟩ := boxedN w #[.bool nd.leaf, kv, vv, dv] 98
 have hCW := h.to bW
 obtain ⟨aa, ac, hav⟩ : ∃ a c, av = .slice a ns.length c := by
  rcases h.row.2 with ⟨rfl, e⟩ | ⟨g', cap, cur, rfl, _⟩
  ·exact ⟨none, 0, by rw [e]⟩
  ·exact ⟨_, _, rfl⟩
 subst hav
 obtain ⟨Z, hZ⟩ : ∃ Z, Z = (W.alloc (.cells #[.bool nd.leaf, kv, vv, dv] 98)).drew := ⟨_, rfl⟩
 obtain ⟨za, hza, DA, bA0, sA⟩ := boxedN W #[.bool nd.leaf, kv, vv, dv] 98
 have bWZ : Below W.heap.size W Z := by rw [hZ, ← hza]; exact bA0.trans (below_drewN' za 1 _)
 have bZ : Below w.heap.size w Z := bW.trans (bWZ.mono bW.size)
 have DZ : Z.heap[W.heap.size]? = some (.cells #[.bool nd.leaf, kv, vv, dv] 98 (0, 0)) := by rw [hZ, ← hza]; exact drewHeap DA
 have hOZ : OwnNs B Z (.slice aa ns.length ac) ns := rows_to h.row bZ
 have hBZ : B ≤ Z.heap.size := Nat.le_trans hB bZ.size
 have FIN : ∀ g' cap w5, OwnNs B w5 (.slice (some ⟨g', 0, none⟩) (ns.length + 1) cap) (ns ++ [(nd, kv, vv, dv)]) → Z.grownBy w5 (Value.slice aa ns.length ac).ownBlock → ((Value.slice aa ns.length ac).ownBlock = some g' ∨ g' = Z.heap.size) → _ := fun g' cap w5 o5 g5 l5 => h.app bZ hB hg hgc o5 g5 l5
 have hK5 : ∀ w5, Z.grownBy w5 (Value.slice aa ns.length ac).ownBlock → w5.heap[w.heap.size]? = some (.cells #[.bool nd.leaf, kv, vv, dv] 98 (0, 0)) := fun w5 g5 => by
  refine (g5.block w.heap.size (by have := bWZ.size; omega) fun e => ?_).trans ((bWZ.block _ (by omega)).trans DW)
  have := (World.ownsRow.lt h.row w.heap.size e.symm).2
  omega
 have bWd : Below W.heap.size W W.drew := below_drewN' W 1 _
 have C1 : W.drew.cell? ⟨gc, 1, none⟩ = some (.slice aa ns.length ac) := cellN (drewHeap hCW.box) rfl
 have C0 : W.drew.cell? ⟨gc, 0, none⟩ = some (.pointer (some ⟨g, 0, none⟩)) := cellN (drewHeap hCW.box) rfl
 obtain ⟨⟨E0, E1, E2, E3⟩, _⟩ := cells4 (drewHeap DW)
 obtain ⟨m, hm⟩ : ∃ m : Nat, m = ns.length := ⟨_, rfl⟩
 obtain ⟨z1, hz1⟩ : ∃ z : Int, next + ((m + 1 : Nat) : Int) = z := ⟨_, rfl⟩
 have hzw : IntKind.i64.wrap z1 = z1 := IntWalk.i64_in _ (by omega)
 obtain ⟨z2, hz2⟩ : ∃ z : Int, z1 - 1 = z := ⟨_, rfl⟩
 have hzw2 : IntKind.i64.wrap z2 = z2 := IntWalk.i64_in _ (by omega)
 have hres : Hid (z2 = next + (ns.length : Int)) := by show _ = _; omega
 rw [sW] at DZ
 rw [hZ] at DZ hOZ hBZ FIN hK5
 replace DZ := hide DZ
 replace hOZ := hide hOZ
 replace hBZ := hide hBZ
 replace FIN := hide FIN
 replace hK5 := hide hK5
 have hns' : Hid ((ns.length + 1) * 80 ≤ 140737488355328) := by show _ ≤ _; omega
 have hBw := hide hB
 clear hZ hza DA bA0 sA bWZ bZ DW bW bWd hCW h hg hgc hB
 dsimp only [nv]
 go_enter Tryz.func84, Tryz.ntmps84
 go_upto_region 1 with fail
 rw [← hW]
 replace hW := hide hW
 refine wp_region_mid (fun w' => w'.cell? ⟨gc, 1, none⟩ = some (.slice aa ns.length ac) ∧ w'.cell? ⟨w.heap.size, 0, none⟩ = some (.bool nd.leaf) ∧ w'.cell? ⟨w.heap.size, 1, none⟩ = some kv ∧ w'.cell? ⟨w.heap.size, 2, none⟩ = some vv ∧ w'.cell? ⟨w.heap.size, 3, none⟩ = some dv) 6 8 mixed (by kernel_rfl) (fun _ _ _ _ h => h) ⟨C1, E0, E1, E2, E3⟩ ?_
 dsimp only [List.take, List.drop]
 iterate 6
  refine take_one (v := ?_) (by rfl) ?_ ?_
  rotate_left
  ·rintro w' ⟨s1, s2, s3, s4, s5⟩
   go_simp
   try with_reducible rfl
  try simp only [Act.put, List.setIfInBounds_toArray, List.set_cons_zero, List.set_cons_succ]
 refine mid_one fun K hK => ?_
 rw [if_pos (by rfl)]
 go_simp
 refine hK _ _ ⟨cellAl C1 _, cellAl E0 _, cellAl E1 _, cellAl E2 _, cellAl E3 _⟩ ?_
 clear hK K
 refine mid_one fun K hK => ?_
 refine step_appN rfl _ _ rfl B (.slice aa ns.length ac) ns (nd, kv, vv, dv) (w.heap.size + 1) rfl rfl hOZ.out ho1 DZ.out hns'.out hBZ.out ?_
 intro g' cap w5 o5 g5 l5
 obtain ⟨f1, f2, f3, f4, f5⟩ := FIN.out g' cap w5 o5 g5 l5
 obtain ⟨⟨H0, H1, H2, H3⟩, _⟩ := cells4 (hK5.out w5 g5)
 refine hK _ _ ⟨f4, H0, H1, H2, H3⟩ ?_
 have Q0 := cellN f1.box (i := 0) rfl
 have Q1 := cellN f1.box (i := 1) rfl
 have Q2 := f1.nxt
 have FF := hide (And.intro f1 f2)
 rw [← hm] at Q0 Q1 Q2 ⊢
 clear hK K f1 f2 o5 g5 l5 FIN hK5 DZ hOZ hBZ H0 H1 H2 H3 C0 C1 E0 E1 E2 E3
 rw [← hm] at f4
 show wpList _ _ _ _ _ _
 obtain ⟨Y, hY⟩ : ∃ Y, Y = w5.setCell ⟨gc, 1, none⟩ (.slice (some ⟨g', 0, none⟩) (m + 1) cap) := ⟨_, rfl⟩
 rw [← hm] at FF
 rw [← hY] at Q0 Q1 Q2 FF
 replace hm := hide hm
 go_upto_region 2 with fail
 rw [← hY]
 clear hY f3 f4 f5
 go_region
 go_wp2
 go_ret
 have bY : Below Y.heap.size Y Y.drew := below_drewN' Y 1 _
 exact ⟨_, ret_i9 (by have := hm.out; unfold wrap64; omega), FF.out.1.to bY, by rw [← hm.out]; exact FF.out.2.trans (KCh.of bY (Nat.le_trans hBw.out FF.out.2.size))⟩
set_option maxRecDepth 100000 in
theorem pbare_any (w : World) (nd : Nd) (kv vv dv : Value) (h : RdT w kv nd.keys) (hv : vv.oneCell' = true ∧ dv.oneCell' = true) : Calls Tryz.prog 82 #[nv nd kv vv dv] w fun e w' => e = .returned (.bool (!nd.leaf && decide (nd.keys.length = 0))) ∧ Below w.heap.size w w' := by
 obtain ⟨a, c, rfl⟩ := h.slice
 obtain ⟨W, hW, DW, bW, sW⟩ := boxedN w #[.bool nd.leaf, .slice a nd.keys.length c, vv, dv] 98
 obtain ⟨⟨E0, E1, E2, E3⟩, EF⟩ := cells4 DW
 have HB := hide bW
 rw [hW] at E0 E1 E2 E3 EF HB
 obtain ⟨K, hK⟩ : ∃ K, K = nd.keys.length := ⟨_, rfl⟩
 rw [← hK] at E0 E1 E2 E3 EF HB ⊢
 clear hK DW bW hW sW h
 dsimp only [nv]
 go_enter Tryz.func82, Tryz.ntmps82
 cases hl : nd.leaf with
 | true =>
  rw [hl] at E0 E1 E2 E3 EF HB
  go_wp2
  go_ret
  exact ⟨rfl, HB.out⟩
 | false =>
  rw [hl] at E0 E1 E2 E3 EF HB
  by_cases h0 : K = 0
  ·have hq : ((K : Int) == 0) = true := by simp [h0]
   have hd : Hid (decide (K = 0) = true) := decide_eq_true h0
   replace h0 := hide h0
   go_wp2
   go_ret
   exact ⟨by rw [hd.out]; rfl, HB.out⟩
  ·have hq : ((K : Int) == 0) = false := by simp [h0]
   have hd : Hid (decide (K = 0) = false) := decide_eq_false h0
   replace h0 := hide h0
   go_wp2
   go_ret
   exact ⟨by rw [hd.out]; rfl, HB.out⟩
end Go.Proofs.YtpiikmkajckccaaGreat

namespace Go.Proofs.YtpiikmkajckccaaGreat
open Go.RowKit
theorem wpList_appS {ops : Array Oper} {rest : List Oper} {o : Oper} {a : Act} {w : World} {Q : Exit → Act → World → Prop} (hgd : o.guard = none) (s x : Operand)
  (ho : o.op = .call { callee := .builtin .append, args := #[s, x], argTypes := #[96, 96] }) (B : Nat) (v : Value) (xs : List Str) (y : Str) (g : Nat) (hs : a.eval s = v) (hx : a.eval x = .slice (some ⟨g, 0, none⟩) 1 1)
  (hown : OwnT B w v xs) (hc : w.cell? ⟨g, 0, none⟩ = some (st y)) (hlen : (xs.length + 1) * 16 ≤ 140737488355328) (hB : B ≤ w.heap.size)
  (h : ∀ g' cap w', OwnT B w' (.slice (some ⟨g', 0, none⟩) (xs.length + 1) cap) (xs ++ [y]) → w.grownBy w' v.ownBlock → (v.ownBlock = some g' ∨ g' = w.heap.size) → wpList Tryz.prog ops Q rest (a.put o.dst (.slice (some ⟨g', 0, none⟩) (xs.length + 1) cap)) w') : wpList Tryz.prog ops Q (o :: rest) a w := by
 obtain ⟨i0, hi, hz0, hz1, hz2⟩ := info_parts infoT
 have n2 : ∀ j u, ([y].map st)[j]? = some u → w.cell? ((⟨g, 0, none⟩ : Addr).add j) = some u := by
  intro j u hj
  match j, hj with
  | 0, hj => simp at hj; subst hj; simpa [Addr.add] using hc
  | j + 1, hj => simp at hj
 refine wpList_append_lies _ hgd s x 96 ho B 9 i0 (.string ⟨#[]⟩) 1 16 Tryz.underlying96 hi hz0 hz1 hz2 rfl (by decide) v xs.length (xs.map st) hs hown ⟨g, 0, none⟩ 1 1 ([y].map st) hx rfl n2
  (fun u hu => by simp at hu; subst hu; rfl) (by decide) (by rw [show maxLen = 9223372036854775807 from rfl]; omega) hlen hB _ rfl ?_
 intro g' cap w' h1 h2 h3 _
 refine h g' cap w' ?_ h2 h3
 show World.ownsRow _ _ _ _ _ _ _
 rw [List.map_append]
 simpa using h1
def InsR (B : Nat) (w w' : World) (v : Value) (xs : List Str) (e : Ending) : Prop := ∃ g' cap, e = .returned (.slice (some ⟨g', 0, none⟩) xs.length cap) ∧ OwnT B w' (.slice (some ⟨g', 0, none⟩) xs.length cap) xs ∧ w.grownBy w' v.ownBlock ∧ (v.ownBlock = some g' ∨ g' = w.heap.size)
set_option maxRecDepth 100000 in
set_option maxHeartbeats 4000000 in
theorem pins_end (B : Nat) (w : World) (v : Value) (xs : List Str) (y : Str) (gv : Nat) (h : OwnT B w v xs) (hc : w.cell? ⟨gv, 0, none⟩ = some (st y)) (hB : B ≤ w.heap.size) (hl : xs.length ≤ 1000000) :
  Calls Tryz.prog 45 #[v, .int .i64 (xs.length : Int), .slice (some ⟨gv, 0, none⟩) 1 1] w fun e w' => InsR B w w' v (xs ++ [y]) e := by
 obtain ⟨a, c, hv⟩ := h.rd.slice
 subst hv
 have hcap : xs.length ≤ c := by
  rcases h.2 with ⟨e, e2⟩ | ⟨g, cap, cur, e, _, _, hn, _⟩
  ·simp only [Value.slice.injEq] at e; omega
  ·simp only [Value.slice.injEq] at e; omega
 have hn : (xs.length + 1) * 16 ≤ 140737488355328 := by omega
 have hq : ((xs.length : Int) == (xs.length : Int)) = true := by simp
 have HC := hide hc
 by_cases hcc : c = xs.length
 ·subst hcc
  have HO := hide h
  clear h
  go_enter Tryz.func45, Tryz.ntmps45
  go_upto_region 7 with fail
  go_wp2_with (at_builtin; refine wpList_appS rfl _ _ rfl B _ xs y gv rfl rfl HO.out HC.out hn hB ?_; intro g' cap w' o5 g5 l5)
  have FF := hide (And.intro o5 (And.intro g5 l5))
  clear o5 g5 l5
  go_wp2
  go_ret
  refine ⟨g', cap, ?_, ?_, FF.out.2.1, FF.out.2.2⟩
  ·rw [List.length_append]; rfl
  ·rw [List.length_append]; exact FF.out.1
 ·have HO := hide h
  clear h
  go_enter Tryz.func45, Tryz.ntmps45
  go_upto_region 7 with fail
  go_wp2_with (at_builtin; refine wpList_appS rfl _ _ rfl B _ xs y gv rfl rfl HO.out HC.out hn hB ?_; intro g' cap w' o5 g5 l5)
  have FF := hide (And.intro o5 (And.intro g5 l5))
  clear o5 g5 l5
  go_wp2
  go_ret
  refine ⟨g', cap, ?_, ?_, FF.out.2.1, FF.out.2.2⟩
  ·rw [List.length_append]; rfl
  ·rw [List.length_append]; exact FF.out.1
end Go.Proofs.YtpiikmkajckccaaGreat

namespace Go.Proofs.YtpiikmkajckccaaGreat
open Go.RowKit
structure KS9 (B : Nat) (w w' : World) : Prop where
 typ : ∀ e, e ≠ 9 → KeepT e w w'
 bel : Below B w w'
 size : w.heap.size ≤ w'.heap.size
theorem KS9.of {B : Nat} {w w' : World} (b : Below w.heap.size w w') (hB : B ≤ w.heap.size) : KS9 B w w' := ⟨fun e _ => KeepT.below b, b.mono hB, b.size⟩
theorem KS9.trans {B : Nat} {a b c : World} (h : KS9 B a b) (k : KS9 B b c) : KS9 B a c := ⟨fun e he => (h.typ e he).trans (k.typ e he), h.bel.trans k.bel, Nat.le_trans h.size k.size⟩
theorem KS9.grown {B : Nat} {w w' : World} {v : Value} {xs : List Str} (h : OwnT B w v xs) (g : w.grownBy w' v.ownBlock) (hB : B ≤ w.heap.size) : KS9 B w w' :=
 ⟨fun e he => KeepT.grown h g he, (Below.refl _ _).grown g hB (fun k hk => (World.ownsRow.lt h k hk).1), g.size⟩
end Go.Proofs.YtpiikmkajckccaaGreat

namespace Go.Proofs.YtpiikmkajckccaaGreat
open Go.RowKit
theorem TopIs.ok {t : Tr} {a : Nd} (h : TopIs t a) : NOk a := by
 rcases h with ⟨h0, rfl⟩ | ⟨h0, x, h1, h2⟩
 ·exact nd0_ok
 ·exact ndec_ok h2
theorem nout_ok {n : Nd} (h : NOk n) : nout n = nenc n ∧ ncheck n = 0 := by
 have := (ncheck_ok n).2 h
 exact ⟨by unfold nout; rw [if_pos this], this⟩
end Go.Proofs.YtpiikmkajckccaaGreat

namespace Go.Proofs.YtpiikmkajckccaaGreat
open Go.RowKit
end Go.Proofs.YtpiikmkajckccaaGreat

namespace Go.Proofs.YtpiikmkajckccaaGreat
open Go.RowKit
structure KSc (C : Nat) (w w' : World) : Prop where
 typ : ∀ e, e ≠ 50 → e ≠ 102 → KeepT e w w'
 map : ∀ (b : Nat) es c, w.heap[b]? = some (.map es c) → w'.heap[b]? = some (.map es c)
 bel : Below C w w'
theorem KSc.of {C : Nat} {w w' : World} (h : Below w.heap.size w w') (hC : C ≤ w.heap.size) : KSc C w w' := ⟨fun e _ _ => KeepT.below h, fun b es c x => (h.block b (lt_of_block x)).trans x, h.mono hC⟩
theorem KSc.refl (C : Nat) (w : World) : KSc C w w := ⟨fun e _ _ => KeepT.refl _ _, fun b es c x => x, Below.refl _ _⟩
theorem KSc.trans {C : Nat} {a b c : World} (h : KSc C a b) (k : KSc C b c) : KSc C a c := ⟨fun e h1 h2 => (h.typ e h1 h2).trans (k.typ e h1 h2), fun i es q x => k.map i es q (h.map i es q x), h.bel.trans k.bel⟩
theorem KSc.app {C : Nat} {w w' : World} {v : Value} {xs : List Pr} {B : Nat} (ho : OwnP B w v xs) (hg : w.grownBy w' v.ownBlock) (hB : C ≤ B) (hC : C ≤ w.heap.size) : KSc C w w' := by
 refine ⟨fun e _ h2 => KeepT.grown ho hg h2, fun b es c x => ?_, (Below.refl _ _).grown hg hC (fun k hk => Nat.le_trans hB (World.ownsRow.lt ho k hk).1)⟩
 refine (hg.block b (lt_of_block x) fun h => ?_).trans x
 rcases ho.2 with ⟨hn, _⟩ | ⟨g, cap, cur, hv, _, hg', _⟩
 ·rw [hn] at h; cases h
 ·rw [hv] at h
  simp only [Value.ownBlock, Option.some.injEq] at h
  subst h
  rw [x] at hg'
  cases hg'
theorem KSc.set {C : Nat} {w : World} {g : Nat} {cs : Array Value} (h : w.heap[g]? = some (.cells cs 50 (0, 0))) (hC : C ≤ g) (i : Nat) (x : Value) : KSc C w (w.setCell ⟨g, i, none⟩ x) := by
 refine ⟨fun e h1 _ => KeepT.set (a := ⟨g, i, none⟩) h h1 x, fun b es c y => ?_, (Below.refl _ _).setCell hC _⟩
 refine (Below.heap_setCell _ _ _ _ fun h' => ?_).trans y
 dsimp only at h'
 rw [h', h] at y
 cases y
structure ScI (C : Nat) (w : World) (ga gp : Nat) (fr tw : Str) (out : List Pr) : Prop where
 ask : w.heap[ga]? = some (.cells #[st fr, st tw] 94 (0, 0))
 var : ∃ v, w.heap[gp]? = some (.cells #[v] 50 (0, 0)) ∧ OwnP C w v out
 hC : C ≤ gp
theorem ScI.to {C : Nat} {w w' : World} {ga gp : Nat} {fr tw : Str} {out : List Pr} (h : ScI C w ga gp fr tw out) (b : Below w.heap.size w w') : ScI C w' ga gp fr tw out := by
 obtain ⟨v, h1, h2⟩ := h.var
 exact ⟨(b.block _ (lt_of_block h.ask)).trans h.ask, ⟨v, (b.block _ (lt_of_block h1)).trans h1, rows_to h2 b⟩, h.hC⟩
theorem ScI.app {C : Nat} {w wA w5 : World} {ga gp : Nat} {fr tw : Str} {out : List Pr} {y : Pr} {v v5 : Value} (h : ScI C w ga gp fr tw out) (hv : w.heap[gp]? = some (.cells #[v] 50 (0, 0))) (ho : OwnP C w v out) (bA : Below w.heap.size w wA) (hC : C ≤ w.heap.size)
  (o5 : OwnP C w5 v5 (out ++ [y])) (g5 : wA.grownBy w5 v.ownBlock) : ScI C (w5.setCell ⟨gp, 0, none⟩ v5) ga gp fr tw (out ++ [y]) ∧ KSc C w (w5.setCell ⟨gp, 0, none⟩ v5) ∧ w5.cell? ⟨gp, 0, none⟩ = some v ∧ w5.frozen? ⟨gp, 0, none⟩ = false := by
 have k1 := KSc.of bA hC
 have k2 := KSc.app (C := C) (rows_to ho bA) g5 (Nat.le_refl _) (Nat.le_trans hC bA.size)
 have hA := (bA.block _ (lt_of_block hv)).trans hv
 have h5 := KeepT.grown (rows_to ho bA) g5 (e := 50) (by decide) _ _ _ hA
 have k3 := KSc.set (C := C) h5 h.hC 0 v5
 refine ⟨⟨(((k1.trans k2).trans k3).typ _ (by decide) (by decide)) _ _ _ h.ask, ⟨v5, ?_, rows_keepT o5 (KeepT.set (a := ⟨gp, 0, none⟩) h5 (by decide) v5)⟩, h.hC⟩, (k1.trans k2).trans k3, cellN h5 rfl, frozN h5 0⟩
 have := heap_setN h5 0 v5
 simpa using this
end Go.Proofs.YtpiikmkajckccaaGreat

namespace Go.Proofs.YtpiikmkajckccaaGreat
open Go.RowKit
def ndPrs (l : List Wrt) (k : Nat) (nd : Nd) : List Pr := if nd.leaf = true then npr nd else nd.kids.flatMap (prsOf l k)
def SN (l : List Wrt) (S : List Int) (k : Nat) (nd : Nd) : Prop := NOk nd ∧ (nd.leaf = false → ∃ lo hi, ∀ (i : Nat) kid, nd.kids[i]? = some kid → WOk l S k kid (kidLo nd lo i) (kidHi nd hi i))
theorem SN.top {t : Tr} {s : Sw} (ht : twalk t = some s) {nd : Nd} (h : TopIs t nd) : SN t.pages s.seen 15 nd ∧ ndPrs t.pages 15 nd = s.prs := by
 rcases h with ⟨h0, rfl⟩ | ⟨h0, x, h1, h2⟩
 ·refine ⟨⟨nd0_ok, fun h => by cases h⟩, ?_⟩
  unfold twalk at ht
  rw [if_pos h0] at ht
  simp only [Option.some.injEq] at ht
  subst ht
  rfl
 ·obtain ⟨⟨a1, x', nd', b1, b2, b3, b4, b5⟩, c⟩ := root_seen ht h0
  rw [h1] at b1
  simp only [Option.some.injEq] at b1
  subst b1
  rw [h2] at b2
  simp only [Prod.mk.injEq, and_true] at b2
  subst b2
  refine ⟨⟨ndec_ok h2, fun hl => ⟨[], none, b5 hl⟩⟩, ?_⟩
  unfold ndPrs
  cases hl : nd.leaf with
  | true => rw [c, prsOf_leaf h1 h2 hl]; simp
  | false => rw [c, prsOf_inner h1 h2 hl]; simp
theorem SN.kid {l : List Wrt} {S : List Int} {k : Nat} {nd : Nd} (h : SN l S k nd) (hl : nd.leaf = false) {i : Nat} {kid : Int} (hk : nd.kids[i]? = some kid) :
  kid ∈ S ∧ ∃ k' x nd', k = k' + 1 ∧ tpage l kid = some x ∧ ndec x = (nd', 0) ∧ SN l S k' nd' ∧ ndPrs l k' nd' = prsOf l k kid := by
 obtain ⟨lo, hi, h1⟩ := h.2 hl
 have hw := h1 i kid hk
 cases k with
 | zero => exact hw.elim
 | succ k' =>
  obtain ⟨b0, x, nd', b1, b2, b3, b4, b5⟩ := hw
  refine ⟨b0, k', x, nd', rfl, b1, b2, ⟨ndec_ok b2, fun hl' => ⟨_, _, b5 hl'⟩⟩, ?_⟩
  unfold ndPrs
  cases hl' : nd'.leaf with
  | true => rw [prsOf_leaf b1 b2 hl']; simp
  | false => rw [prsOf_inner b1 b2 hl']; simp
theorem PWk.sc {w0 w w' : World} {B g bm C : Nat} {t : Tr} {pv : Value} {s : Sw} {m : Int → Option Value} (h : PWk w0 w B g bm t pv s m) (k : KSc C w w') (hC : w0.heap.size ≤ C) : PWk w0 w' B g bm t pv s m := by
 have hm : w'.heap[bm]? = w.heap[bm]? := by
  obtain ⟨D, ⟨es, c, hb, _⟩, _⟩ := h.map
  rw [hb]; exact k.map _ _ _ hb
 refine ⟨k.typ _ (by decide) (by decide) _ _ _ h.box, h.map.kept hm, h.has, fun i v hv => ?_, h.pg, h.ok, h.dep, h.bel.trans (k.bel.mono hC), h.hg, h.hm, h.apt⟩
 obtain ⟨x, nd, kv, vv, dv, h1, h2, h3, h4, h5⟩ := h.nds i v hv
 exact ⟨x, nd, kv, vv, dv, h1, h2, h3, h4.keepT (k.typ _ (by decide) (by decide)) (k.typ _ (by decide) (by decide)), h5⟩
abbrev clo (ga gp : Nat) : Value := .func (.func 39) #[] #[.pointer (some ⟨ga, 0, none⟩), .pointer (some ⟨gp, 0, none⟩)]
end Go.Proofs.YtpiikmkajckccaaGreat

namespace Go.Proofs.YtpiikmkajckccaaGreat
open Go.RowKit
end Go.Proofs.YtpiikmkajckccaaGreat

namespace Go.Proofs.YtpiikmkajckccaaGreat
open Go.RowKit
def TyB (w : World) (v : Value) (T : TypeId) : Prop := ∀ b, v.ownBlock = some b → ∃ cur fr, w.heap[b]? = some (.cells cur T fr)
theorem TyB.nil (w : World) (T : TypeId) (n c : Nat) : TyB w (.slice none n c) T := fun b hb => by cases hb
theorem TyB.keep {w w' : World} {v : Value} {T : TypeId} (h : TyB w v T) (k : KeepT T w w') : TyB w' v T := fun b hb => by
 obtain ⟨cur, fr, e⟩ := h b hb
 exact ⟨cur, fr, k b cur fr e⟩
theorem TyB.part {w : World} {a : Option Addr} {n c : Nat} {T : TypeId} (h : TyB w (.slice a n c) T) {b off off' n' c' : Nat} (ha : a = some ⟨b, off, none⟩) : TyB w (.slice (some ⟨b, off', none⟩) n' c') T := fun k hk => by
 subst ha
 exact h k hk
theorem TyB.same {w : World} {a : Option Addr} {n c : Nat} {T : TypeId} (h : TyB w (.slice a n c) T) (n' c' : Nat) : TyB w (.slice a n' c') T := fun k hk => h k (by cases a with | none => cases hk | some x => exact hk)
theorem TyB.own {B T n k : Nat} {w : World} {v : Value} {cc : List Value} (h : w.ownsRow B T n v k cc) : TyB w v T := fun b hb => by
 rcases h.2 with ⟨rfl, _⟩ | ⟨g, cap, cur, rfl, _, hg, _⟩
 ·cases hb
 ·have : g = b := by simpa [Value.ownBlock] using hb
  subst this
  exact ⟨cur, _, hg⟩
theorem rdT_block {w w' : World} {v : Value} {xs : List Str} (h : RdT w v xs) (hk : ∀ b, v.ownBlock = some b → w'.heap[b]? = w.heap[b]?) : RdT w' v xs := by
 obtain ⟨a, c, rfl, l1, m1, n1, r1⟩ := h
 refine ⟨a, c, rfl, l1, m1, n1, ?_⟩
 rcases r1 with r1 | ⟨b, off, e1, hc⟩
 ·exact .inl r1
 ·subst e1
  refine .inr ⟨b, off, rfl, fun i x hx => ?_⟩
  obtain ⟨cs, k1, k2⟩ := hc i x hx
  refine ⟨cs, k1, fun j u hj => ?_⟩
  have e := hk b rfl
  have := k2 j u hj
  simp only [World.cell?] at this ⊢
  rw [e]; exact this
theorem rdI_block {w w' : World} {v : Value} {xs : List Int} (h : RdI w v xs) (hk : ∀ b, v.ownBlock = some b → w'.heap[b]? = w.heap[b]?) : RdI w' v xs := by
 obtain ⟨a, c, rfl, l1, m1, n1, r1⟩ := h
 refine ⟨a, c, rfl, l1, m1, n1, ?_⟩
 rcases r1 with r1 | ⟨b, off, e1, hc⟩
 ·exact .inl r1
 ·subst e1
  refine .inr ⟨b, off, rfl, fun i x hx => ?_⟩
  obtain ⟨cs, k1, k2⟩ := hc i x hx
  refine ⟨cs, k1, fun j u hj => ?_⟩
  have e := hk b rfl
  have := k2 j u hj
  simp only [World.cell?] at this ⊢
  rw [e]; exact this
structure RdK (w : World) (kv vv dv : Value) (n : Nd) : Prop where
 rd : RdN w kv vv dv n
 tk : TyB w kv 9
 tv : TyB w vv 9
 td : TyB w dv 3
theorem RdK.keepT {w w' : World} {kv vv dv : Value} {n : Nd} (h : RdK w kv vv dv n) (k1 : KeepT 9 w w') (k2 : KeepT 3 w w') : RdK w' kv vv dv n :=
 ⟨⟨rdT_block h.rd.keys fun b hb => (by obtain ⟨cur, fr, e⟩ := h.tk b hb; rw [e]; exact k1 b cur fr e), rdT_block h.rd.vals fun b hb => (by obtain ⟨cur, fr, e⟩ := h.tv b hb; rw [e]; exact k1 b cur fr e), rdI_block h.rd.kids fun b hb => (by obtain ⟨cur, fr, e⟩ := h.td b hb; rw [e]; exact k2 b cur fr e)⟩, h.tk.keep k1, h.tv.keep k1, h.td.keep k2⟩
theorem RdK.to {w w' : World} {kv vv dv : Value} {n : Nd} (h : RdK w kv vv dv n) (b : Below w.heap.size w w') : RdK w' kv vv dv n := h.keepT (KeepT.below b) (KeepT.below b)
theorem OwnN.rdk {B : Nat} {w : World} {kv vv dv : Value} {n : Nd} (h : OwnN B w kv vv dv n) : RdK w kv vv dv n := ⟨h.rd, TyB.own h.keys, TyB.own h.vals, TyB.own h.kids⟩
theorem KCh.keepT {B gc g : Nat} {av av' : Value} {w w' : World} {next : Int} {ns : List NV} (h : KCh B gc av av' w w') (c : ChI B w gc g next av ns) {e : Nat} (h1 : e ≠ 128) (h2 : e ≠ 98) : KeepT e w w' := fun b cur fr hb => by
 refine (h.keep b (lt_of_block hb) (fun e9 => ?_) (fun e9 => ?_)).trans hb
 ·subst e9
  rw [c.box] at hb
  simp only [Option.some.injEq, Obj.cells.injEq] at hb
  exact h1 hb.2.1.symm
 ·obtain ⟨cur', fr', e8⟩ := TyB.own c.row b e9
  rw [e8] at hb
  simp only [Option.some.injEq, Obj.cells.injEq] at hb
  exact h2 hb.2.1.symm
def AllK (w : World) (ns : List NV) : Prop := ∀ y ∈ ns, RdK w y.2.1 y.2.2.1 y.2.2.2 y.1
theorem AllK.keepT {w w' : World} {ns : List NV} (h : AllK w ns) (k1 : KeepT 9 w w') (k2 : KeepT 3 w w') : AllK w' ns := fun y hy => (h y hy).keepT k1 k2
theorem AllK.to {w w' : World} {ns : List NV} (h : AllK w ns) (b : Below w.heap.size w w') : AllK w' ns := h.keepT (KeepT.below b) (KeepT.below b)
theorem AllK.snoc {w : World} {ns : List NV} {y : NV} (h : AllK w ns) (k : RdK w y.2.1 y.2.2.1 y.2.2.2 y.1) : AllK w (ns ++ [y]) := fun z hz => by
 simp only [List.mem_append, List.mem_singleton] at hz
 rcases hz with hz | rfl
 ·exact h z hz
 ·exact k
end Go.Proofs.YtpiikmkajckccaaGreat

namespace Go.Proofs.YtpiikmkajckccaaGreat
open Go.RowKit
theorem retNTN {P : Program} {fn : Func} {R : Ending → World → Prop} {a : Act} {w : World} {p q u1 : Tmp} {ty ty' : TypeId} (h : fn.results = #[.cell p ty, .tmp u1, .cell q ty']) (hd : a.defers = []) (g g' : Nat) (hp : a.tmps.getD p undef = .pointer (some ⟨g, 0, none⟩)) (hq : a.tmps.getD q undef = .pointer (some ⟨g', 0, none⟩))
  (cs cs' : Array Value) (t t' : TypeId) (fr fr' : Nat × Nat) (hg : w.heap[g]? = some (.cells cs t fr)) (hg' : w.heap[g']? = some (.cells cs' t' fr')) (d d' : TypeDesc) (hu : P.underlying ty = some d) (hr : (match d with | .struct _ | .array _ _ => true | _ => false) = true) (hi : (P.info? ty).map (·.size) = some cs.size)
  (hu' : P.underlying ty' = some d') (hr' : (match d' with | .struct _ | .array _ _ => true | _ => false) = true) (hi' : (P.info? ty').map (·.size) = some cs'.size)
  (v1 : Value) (e1 : a.tmps.getD u1 undef = v1) (hR : R (.returned (.tuple #[.agg cs, v1, .agg cs'])) w) : bodyPost P fn R .ret a w := by
 refine bodyPost_ret (v := .tuple #[.agg cs, v1, .agg cs']) ?_ hd hR
 have hp' : a.tmps[p]?.getD undef = .pointer (some ⟨g, 0, none⟩) := by simpa using hp
 have hq' : a.tmps[q]?.getD undef = .pointer (some ⟨g', 0, none⟩) := by simpa using hq
 have e1' : a.tmps[u1]?.getD undef = v1 := by simpa using e1
 simp [results, h, hp', hq', e1', asAddr, run_loadVar_row w g t ty cs fr d hg hu hr hi, run_loadVar_row w g' t' ty' cs' fr' d' hg' hu' hr' hi']
abbrev CutR (w w' : World) (n : Nd) (i : Nat) (e : Ending) : Prop := ∃ k1 v1 d1 k2 v2 d2, e = .returned (.tuple #[nv (cutL n i) k1 v1 d1, st (n.keys.getD i []), nv (cutR n i) k2 v2 d2]) ∧ RdK w' k1 v1 d1 (cutL n i) ∧ RdK w' k2 v2 d2 (cutR n i) ∧ Below w.heap.size w w'
theorem rd_nilT (w : World) : RdT w (.slice none 0 0) [] := ⟨none, 0, rfl, by simp, by decide, fun _ => rfl, .inl rfl⟩
theorem rd_nilI (w : World) : RdI w (.slice none 0 0) [] := ⟨none, 0, rfl, by simp, by decide, fun _ => rfl, .inl rfl⟩
set_option maxRecDepth 100000 in
set_option maxHeartbeats 8000000 in
theorem pcut_leaf (w : World) (n : Nd) (kv vv dv : Value) (i : Nat) (h0 : RdK w kv vv dv n) (hi : i < n.keys.length) (hl : n.keys.length ≤ 1000) (hlf : n.leaf = true) (hlv : n.vals.length = n.keys.length) :
  Calls Tryz.prog 120 #[nv n kv vv dv, .int .i64 (i : Int)] w fun e w' => CutR w w' n i e := by
 have hr := h0.rd
 obtain ⟨ka, kc, va, vc, da, dc, rfl, rfl, rfl⟩ := hr.slices
 obtain ⟨x, hx⟩ : ∃ x, n.keys[i]? = some x := ⟨_, List.getElem?_eq_getElem hi⟩
 have hgd : n.keys.getD i [] = x := by rw [List.getD_eq_getElem?_getD, hx]; rfl
 obtain ⟨X, hX, D0, D1, D2, bX, sX⟩ := boxes4s w (.bool n.leaf) (.slice ka n.keys.length kc) (.slice va n.vals.length vc) (.slice da n.kids.length dc) 98
 have hkc := rdS_cap hr.keys
 obtain ⟨kb, ko, rfl, hcx⟩ := hr.keys.strAt hx
 have hkbw : Hid (kb < w.heap.size) := cell_lt hcx
 replace hcx := (bX.cell (cell_lt hcx)).trans hcx
 have hvc := rdS_cap hr.vals
 obtain ⟨y, hy⟩ : ∃ y, n.vals[i]? = some y := ⟨_, List.getElem?_eq_getElem (by omega)⟩
 obtain ⟨vb, vo, rfl, hvx⟩ := hr.vals.strAt hy
 have hck : ¬ kc = i := by omega
 have hcv : ¬ vc = i := by omega
 have RL : RdK w (.slice (some ⟨kb, ko, none⟩) i kc) (.slice (some ⟨vb, vo, none⟩) i vc) (.slice none 0 0) (cutL n i) := by
  unfold cutL
  rw [hlf, if_pos rfl]
  exact ⟨⟨rdS_front hr.keys (by omega), rdS_front hr.vals (by omega), rd_nilI _⟩, h0.tk.same _ _, h0.tv.same _ _, TyB.nil _ _ _ _⟩
 have RR : RdK w (.slice (some ⟨kb, ko + i, none⟩) (n.keys.length - i) (kc - i)) (.slice (some ⟨vb, vo + i, none⟩) (n.vals.length - i) (vc - i)) (.slice none 0 0) (cutR n i) := by
  unfold cutR
  rw [hlf, if_pos rfl]
  exact ⟨⟨rdS_back rfl hr.keys (by omega) hck, rdS_back rfl hr.vals (by omega) hcv, rd_nilI _⟩, h0.tk.part rfl, h0.tv.part rfl, TyB.nil _ _ _ _⟩
 have HRR := hide (And.intro RL RR)
 obtain ⟨⟨E0, E1, E2, E3⟩, EF⟩ := cells4 D0
 have HD := hide (And.intro D0 (And.intro D1 D2))
 have HB := hide bX
 have hsX := hide sX
 obtain ⟨K, hK⟩ : ∃ K, K = n.keys.length := ⟨_, rfl⟩
 obtain ⟨V, hV⟩ : ∃ K, K = n.vals.length := ⟨_, rfl⟩
 obtain ⟨Z, hZ⟩ : ∃ K, K = n.kids.length := ⟨_, rfl⟩
 rw [← hK] at hi hl hX HD E1 hkc
 (try rw [← hK] at HRR)
 simp only [← hV, ← hZ] at hX HRR HD E2 E3
 dsimp only [nv]
 rw [← hK, ← hV, ← hZ]
 have hcl := hide (show (∀ a b c, nv (cutL n i) a b c = .agg #[.bool true, a, b, c]) ∧ ∀ a b c, nv (cutR n i) a b c = .agg #[.bool true, a, b, c] by unfold cutL cutR; rw [hlf]; exact ⟨fun _ _ _ => rfl, fun _ _ _ => rfl⟩)
 have g1 : i ≤ K := by omega
 have g2 : i ≤ V := by omega
 have g3 : i ≤ kc := by omega
 have g4 : i ≤ vc := by rw [← hV] at hvc; omega
 rw [hlf] at hX HD E0 ⊢
 have hXd : Hid (Below X.heap.size X X.drew) := below_drewN' X 1 _
 rw [hX] at E0 E1 E2 E3 EF
 replace hK := hide hK
 replace hV := hide hV
 replace hZ := hide hZ
 replace hgd := hide hgd
 replace hlf := hide hlf
 replace hx := hide hx
 clear D0 D1 D2 bX hr h0 RL RR hy hvx hvc hlv
 go_enter Tryz.func120, Tryz.ntmps120
 go_upto_region 2 with fail
 rw [← hX]
 replace hX := hide hX
 clear E0 E1 E2 E3 EF
 -- the left part
 obtain ⟨⟨E0, E1, E2, E3⟩, EF⟩ := cells4 (drewHeap HD.out.1)
 refine wp_region_mid (fun w' => w'.cell? ⟨w.heap.size, 1, none⟩ = some (.slice (some ⟨kb, ko, none⟩) K kc) ∧ w'.cell? ⟨w.heap.size, 2, none⟩ = some (.slice (some ⟨vb, vo, none⟩) V vc)) 9 10 mixed (by kernel_rfl) (fun _ _ _ _ h => h) ⟨E1, E2⟩ ?_
 dsimp only [List.take, List.drop]
 iterate 9
  refine take_one (v := ?_) (by rfl) ?_ ?_
  rotate_left
  ·rintro w' ⟨s1, s2⟩
   go_simp
   try with_reducible rfl
  try simp only [Act.put, List.setIfInBounds_toArray, List.set_cons_zero, List.set_cons_succ]
 refine mid_one fun K' hK' => ?_
 rw [if_pos (by rfl)]
 go_simp
 refine hK' _ _ ⟨cellAl E1 _, cellAl E2 _⟩ ?_
 clear hK' K'
 show wpList _ _ _ _ _ _
 obtain ⟨Y, hY, DY, bY, sY⟩ := boxedN X.drew #[.bool true, (.slice (some ⟨kb, ko, none⟩) i kc), (.slice (some ⟨vb, vo, none⟩) i vc), (.slice none 0 0)] 98
 have bXY := hXd.out.trans (bY.mono hXd.out.size)
 have HY := hide (And.intro (And.intro ((bXY.block _ (lt_of_block HD.out.1)).trans HD.out.1) (And.intro ((bXY.block _ (lt_of_block HD.out.2.1)).trans HD.out.2.1) ((bXY.block _ (lt_of_block HD.out.2.2)).trans HD.out.2.2))) (And.intro DY bXY))
 have hsY : Hid (Y.heap.size = w.heap.size + 3 + 1) := by show _ = _; rw [sY]; show X.heap.size + 1 = _; rw [hsX.out]
 clear E0 E1 E2 E3 EF DY bY bXY sY
 go_upto_region 3 with fail
 have hY' : (X.alloc (.cells #[.bool true, (.slice (some ⟨kb, ko, none⟩) i kc), (.slice (some ⟨vb, vo, none⟩) i vc), (.slice none 0 0)] 98)).drew = Y := by rw [hY]; rfl
 rw [hY']
 clear hY'
 replace hY := hide hY
 -- the right part
 have hYd : Hid (Below Y.heap.size Y Y.drew) := below_drewN' Y 1 _
 obtain ⟨⟨E0, E1, E2, E3⟩, EF⟩ := cells4 (drewHeap HY.out.1.1)
 refine wp_region_mid (fun w' => w'.cell? ⟨w.heap.size, 1, none⟩ = some (.slice (some ⟨kb, ko, none⟩) K kc) ∧ w'.cell? ⟨w.heap.size, 2, none⟩ = some (.slice (some ⟨vb, vo, none⟩) V vc)) 9 10 mixed (by kernel_rfl) (fun _ _ _ _ h => h) ⟨E1, E2⟩ ?_
 dsimp only [List.take, List.drop]
 iterate 9
  refine take_one (v := ?_) (by rfl) ?_ ?_
  rotate_left
  ·rintro w' ⟨s1, s2⟩
   go_simp
   try with_reducible rfl
  try simp only [Act.put, List.setIfInBounds_toArray, List.set_cons_zero, List.set_cons_succ]
 refine mid_one fun K' hK' => ?_
 rw [if_pos (by rfl)]
 go_simp
 refine hK' _ _ ⟨cellAl E1 _, cellAl E2 _⟩ ?_
 clear hK' K'
 show wpList _ _ _ _ _ _
 obtain ⟨U, hU, DU, bU, sU⟩ := boxedN Y.drew #[.bool true, (.slice (some ⟨kb, ko + i, none⟩) (K - i) (kc - i)), (.slice (some ⟨vb, vo + i, none⟩) (V - i) (vc - i)), (.slice none 0 0)] 98
 have bYU := hYd.out.trans (bU.mono hYd.out.size)
 have bXU := HY.out.2.2.trans (bYU.mono HY.out.2.2.size)
 have DL := (bYU.block _ (lt_of_block HY.out.2.1)).trans HY.out.2.1
 have e3 : X.drew.heap.size = w.heap.size + 3 := hsX.out
 have e4 : Y.drew.heap.size = w.heap.size + 3 + 1 := hsY.out
 rw [e3] at DL
 rw [e4] at DU
 have HU := hide (And.intro (And.intro ((bYU.block _ (lt_of_block HY.out.1.1)).trans HY.out.1.1) (And.intro ((bYU.block _ (lt_of_block HY.out.1.2.1)).trans HY.out.1.2.1) ((bYU.block _ (lt_of_block HY.out.1.2.2)).trans HY.out.1.2.2))) (And.intro DL (And.intro DU bXU)))
 have hsU : Hid (U.heap.size = w.heap.size + 3 + 1 + 1) := by show _ = _; rw [sU, e4]
 clear E0 E1 E2 E3 EF DU DL bU bYU bXU sU HY
 go_upto_region 4 with fail
 have hU' : (Y.alloc (.cells #[.bool true, (.slice (some ⟨kb, ko + i, none⟩) (K - i) (kc - i)), (.slice (some ⟨vb, vo + i, none⟩) (V - i) (vc - i)), (.slice none 0 0)] 98)).drew = U := by rw [hU]; rfl
 rw [hU', hsY.out]
 clear hU'
 replace hU := hide hU
 clear e3 e4
 -- both are told
 have hUd : Hid (Below U.heap.size U U.drew) := below_drewN' U 1 _
 obtain ⟨Z', hZ'⟩ : ∃ Z, Z = U.drew := ⟨_, rfl⟩
 rw [← hZ'] at hUd
 obtain ⟨⟨E0, E1, E2, E3⟩, EF⟩ := cells4 ((hUd.out.block _ (lt_of_block HU.out.1.1)).trans HU.out.1.1)
 obtain ⟨⟨L0, L1, L2, L3⟩, LF⟩ := cells4 ((hUd.out.block _ (lt_of_block HU.out.2.1)).trans HU.out.2.1)
 obtain ⟨⟨R0, R1, R2, R3⟩, RF⟩ := cells4 ((hUd.out.block _ (lt_of_block HU.out.2.2.1)).trans HU.out.2.2.1)
 have R1' := (hUd.out.block _ (lt_of_block HU.out.1.2.1)).trans HU.out.1.2.1
 have R2' := (hUd.out.block _ (lt_of_block HU.out.1.2.2)).trans HU.out.1.2.2
 obtain ⟨⟨P0, P1, P2, P3⟩, PF⟩ := cells4 R1'
 have cx := (hUd.out.cell (Nat.lt_of_lt_of_le (cell_lt hcx) HU.out.2.2.2.size)).trans ((HU.out.2.2.2.cell (cell_lt hcx)).trans hcx)
 have hbw : kb < w.heap.size := hkbw.out
 obtain ⟨Q, hQ, q1, q2, q3⟩ := set8 (show w.heap.size + 1 ≠ w.heap.size + 2 by omega) R1' R2' ((HB.out.trans ((HU.out.2.2.2.trans (hUd.out.mono HU.out.2.2.2.size)).mono HB.out.size))) (show w.heap.size ≤ w.heap.size + 1 by omega) (show w.heap.size ≤ w.heap.size + 2 by omega) (.bool true) (.slice (some ⟨kb, ko, none⟩) i kc) (.slice (some ⟨vb, vo, none⟩) i vc) (.slice none 0 0) (.bool true) (.slice (some ⟨kb, ko + i, none⟩) (K - i) (kc - i)) (.slice (some ⟨vb, vo + i, none⟩) (V - i) (vc - i)) (.slice none 0 0)
 refine wp_region_mid (fun w' => (w'.cell? ⟨w.heap.size, 1, none⟩ = some (.slice (some ⟨kb, ko, none⟩) K kc) ∧ w'.cell? ⟨kb, ko + i, none⟩ = some (st x)) ∧ (w'.cell? ⟨w.heap.size + 3, 0, none⟩ = some (.bool true) ∧ w'.cell? ⟨w.heap.size + 3, 1, none⟩ = some (.slice (some ⟨kb, ko, none⟩) i kc) ∧ w'.cell? ⟨w.heap.size + 3, 2, none⟩ = some (.slice (some ⟨vb, vo, none⟩) i vc) ∧ w'.cell? ⟨w.heap.size + 3, 3, none⟩ = some (.slice none 0 0)) ∧
  (w'.cell? ⟨w.heap.size + 3 + 1, 0, none⟩ = some (.bool true) ∧ w'.cell? ⟨w.heap.size + 3 + 1, 1, none⟩ = some (.slice (some ⟨kb, ko + i, none⟩) (K - i) (kc - i)) ∧ w'.cell? ⟨w.heap.size + 3 + 1, 2, none⟩ = some (.slice (some ⟨vb, vo + i, none⟩) (V - i) (vc - i)) ∧ w'.cell? ⟨w.heap.size + 3 + 1, 3, none⟩ = some (.slice none 0 0))) 7 9 mixed (by kernel_rfl) (fun _ _ _ _ h => h) (by rw [← hZ']; exact ⟨⟨E1, cx⟩, ⟨L0, L1, L2, L3⟩, ⟨R0, R1, R2, R3⟩⟩) ?_
 dsimp only [List.take, List.drop]
 iterate 7
  refine take_one (v := ?_) (by rfl) ?_ ?_
  rotate_left
  ·rintro w' ⟨⟨s1, s2⟩, ⟨s3, s4, s5, s6⟩, ⟨s7, s8, s9, s10⟩⟩
   go_simp
   try with_reducible rfl
  try simp only [Act.put, List.setIfInBounds_toArray, List.set_cons_zero, List.set_cons_succ]
 rw [← hZ']
 replace hZ' := hide hZ'
 refine mid_one fun K' hK' => ?_
 rw [if_pos (by rfl)]
 go_simp
 have oth : ∀ (b j : Nat) (u : Value), Z'.cell? ⟨b, j, none⟩ = some u → b ≠ w.heap.size + 1 → (S4 (w.heap.size + 1) Z' (.bool true) (.slice (some ⟨kb, ko, none⟩) i kc) (.slice (some ⟨vb, vo, none⟩) i vc) (.slice none 0 0)).cell? ⟨b, j, none⟩ = some u := fun b j u hc hne => by
  have e9 := s4_other (w := Z') (g := w.heap.size + 1) (.bool true) (.slice (some ⟨kb, ko, none⟩) i kc) (.slice (some ⟨vb, vo, none⟩) i vc) (.slice none 0 0) hne
  simp only [World.cell?] at hc ⊢
  rw [e9]; exact hc
 refine hK' _ _ ⟨⟨oth _ _ _ E1 (by omega), oth _ _ _ cx (by omega)⟩, ⟨oth _ _ _ L0 (by omega), oth _ _ _ L1 (by omega), oth _ _ _ L2 (by omega), oth _ _ _ L3 (by omega)⟩, ⟨oth _ _ _ R0 (by omega), oth _ _ _ R1 (by omega), oth _ _ _ R2 (by omega), oth _ _ _ R3 (by omega)⟩⟩ ?_
 clear hK' K'
 refine mid_one fun K' hK' => ?_
 rw [if_pos (by rfl)]
 go_simp
 refine hK' _ _ ⟨⟨oth _ _ _ E1 (by omega), oth _ _ _ cx (by omega)⟩, ⟨oth _ _ _ L0 (by omega), oth _ _ _ L1 (by omega), oth _ _ _ L2 (by omega), oth _ _ _ L3 (by omega)⟩, ⟨oth _ _ _ R0 (by omega), oth _ _ _ R1 (by omega), oth _ _ _ R2 (by omega), oth _ _ _ R3 (by omega)⟩⟩ ?_
 clear hK' K'
 show wpList _ _ _ _ _ _
 have O2 : (S4 (w.heap.size + 1) Z' (.bool true) (.slice (some ⟨kb, ko, none⟩) i kc) (.slice (some ⟨vb, vo, none⟩) i vc) (.slice none 0 0)).heap[w.heap.size + 1 + 1]? = some (.cells #[.bool false, .slice none 0 0, .slice none 0 0, .slice none 0 0] 98 (0, 0)) := (s4_other _ _ _ _ (show w.heap.size + 1 + 1 ≠ w.heap.size + 1 by omega)).trans R2'
 obtain ⟨⟨M0, M1, M2, M3⟩, MF⟩ := cells4 O2
 have FIN : Hid (RdK Q (.slice (some ⟨kb, ko, none⟩) i kc) (.slice (some ⟨vb, vo, none⟩) i vc) (.slice none 0 0) (cutL n i) ∧ RdK Q (.slice (some ⟨kb, ko + i, none⟩) (K - i) (kc - i)) (.slice (some ⟨vb, vo + i, none⟩) (V - i) (vc - i)) (.slice none 0 0) (cutR n i)) := ⟨HRR.out.1.to q3, HRR.out.2.to q3⟩
 have HQ1 := hide q1
 have HQ2 := hide q2
 have HQ3 := hide q3
 rw [hQ] at HQ1 HQ2 HQ3 FIN
 clear E0 E1 E2 E3 EF L0 L1 L2 L3 LF R0 R1 R2 R3 RF P0 P1 P2 P3 PF R1' R2' cx oth q1 q2 q3 hQ O2
 go_wp2
 refine retNTN rfl rfl (w.heap.size + 1) (w.heap.size + 2) rfl rfl _ _ _ _ (0, 0) (0, 0) HQ1.out HQ2.out _ _ Tryz.underlying98 rfl info_nd10 Tryz.underlying98 rfl info_nd10 _ rfl ?_
 refine ⟨_, _, _, _, _, _, ?_, FIN.out.1, FIN.out.2, HQ3.out⟩
 rw [hgd.out, hcl.out.1, hcl.out.2]
 rfl
set_option maxRecDepth 100000 in
set_option maxHeartbeats 8000000 in
theorem pcut_innA (w : World) (n : Nd) (kv vv dv : Value) (i : Nat) (h0 : RdK w kv vv dv n) (hi : i < n.keys.length) (hl : n.keys.length ≤ 1000) (hlf : n.leaf = false) (hkd : n.kids.length = n.keys.length + 1) (hq : ∀ a c, kv = .slice a n.keys.length c → ¬ c = i + 1) :
  Calls Tryz.prog 120 #[nv n kv vv dv, .int .i64 (i : Int)] w fun e w' => CutR w w' n i e := by
 have hr := h0.rd
 obtain ⟨ka, kc, va, vc, da, dc, rfl, rfl, rfl⟩ := hr.slices
 obtain ⟨x, hx⟩ : ∃ x, n.keys[i]? = some x := ⟨_, List.getElem?_eq_getElem hi⟩
 have hgd : n.keys.getD i [] = x := by rw [List.getD_eq_getElem?_getD, hx]; rfl
 obtain ⟨X, hX, D0, D1, D2, bX, sX⟩ := boxes4s w (.bool n.leaf) (.slice ka n.keys.length kc) (.slice va n.vals.length vc) (.slice da n.kids.length dc) 98
 have hkc := rdS_cap hr.keys
 obtain ⟨kb, ko, rfl, hcx⟩ := hr.keys.strAt hx
 have hkbw : Hid (kb < w.heap.size) := cell_lt hcx
 replace hcx := (bX.cell (cell_lt hcx)).trans hcx
 have hck := hq _ _ rfl
 have hdc := rdS_cap hr.kids
 obtain ⟨y, hy⟩ : ∃ y, n.kids[0]? = some y := ⟨_, List.getElem?_eq_getElem (by omega)⟩
 obtain ⟨db, dO, rfl, hvx⟩ := hr.kids.intAt hy
 have hcv : ¬ dc = i + 1 := by omega
 have RL : RdK w (.slice (some ⟨kb, ko, none⟩) i kc) (.slice none 0 0) (.slice (some ⟨db, dO, none⟩) (i + 1) dc) (cutL n i) := by
  unfold cutL
  rw [hlf, if_neg (by decide)]
  exact ⟨⟨rdS_front hr.keys (by omega), rd_nilT _, rdS_front hr.kids (by omega)⟩, h0.tk.same _ _, TyB.nil _ _ _ _, h0.td.same _ _⟩
 have RR : RdK w (.slice (some ⟨kb, ko + (i + 1), none⟩) (n.keys.length - (i + 1)) (kc - (i + 1))) (.slice none 0 0) (.slice (some ⟨db, dO + (i + 1), none⟩) (n.kids.length - (i + 1)) (dc - (i + 1))) (cutR n i) := by
  unfold cutR
  rw [hlf, if_neg (by decide)]
  exact ⟨⟨rdS_back rfl hr.keys (by omega) hck, rd_nilT _, rdS_back rfl hr.kids (by omega) hcv⟩, h0.tk.part rfl, TyB.nil _ _ _ _, h0.td.part rfl⟩
 have HRR := hide (And.intro RL RR)
 obtain ⟨⟨E0, E1, E2, E3⟩, EF⟩ := cells4 D0
 have HD := hide (And.intro D0 (And.intro D1 D2))
 have HB := hide bX
 have hsX := hide sX
 obtain ⟨K, hK⟩ : ∃ K, K = n.keys.length := ⟨_, rfl⟩
 obtain ⟨V, hV⟩ : ∃ K, K = n.vals.length := ⟨_, rfl⟩
 obtain ⟨Z, hZ⟩ : ∃ K, K = n.kids.length := ⟨_, rfl⟩
 rw [← hK] at hi hl hX HD E1 hkc
 (try rw [← hK] at HRR)
 simp only [← hV, ← hZ] at hX HRR HD E2 E3
 dsimp only [nv]
 rw [← hK, ← hV, ← hZ]
 have hcl := hide (show (∀ a b c, nv (cutL n i) a b c = .agg #[.bool false, a, b, c]) ∧ ∀ a b c, nv (cutR n i) a b c = .agg #[.bool false, a, b, c] by unfold cutL cutR; rw [hlf]; exact ⟨fun _ _ _ => rfl, fun _ _ _ => rfl⟩)
 have g2 : i + 1 ≤ Z := by rw [hZ, hkd]; omega
 have g4 : i + 1 ≤ dc := by omega
 have g5 : IntKind.i64.wrap ((i : Int) + 1) = (i : Int) + 1 := IntWalk.i64_in _ (by omega)
 have g6 : (0 : Int) ≤ (i : Int) + 1 := by omega
 have g7 : ((i : Int) + 1).toNat = i + 1 := by omega
 have g8 : (i : Int) + 1 ≤ (Z : Int) := by omega
 have g9 : (i : Int) + 1 ≤ (dc : Int) := by omega
 have g1 : i ≤ K := by omega
 have g3 : i ≤ kc := by omega
 have g10 : (i : Int) + 1 ≤ (K : Int) := by omega
 have g11 : (i : Int) + 1 ≤ (kc : Int) := by omega
 have g12 : i + 1 ≤ K := by omega
 rw [hlf] at hX HD E0 ⊢
 have hXd : Hid (Below X.heap.size X X.drew) := below_drewN' X 1 _
 rw [hX] at E0 E1 E2 E3 EF
 replace hK := hide hK
 replace hV := hide hV
 replace hZ := hide hZ
 replace hgd := hide hgd
 replace hlf := hide hlf
 replace hx := hide hx
 clear D0 D1 D2 bX hr h0 RL RR hy hvx hdc hkd hq
 go_enter Tryz.func120, Tryz.ntmps120
 go_upto_region 5 with fail
 rw [← hX]
 replace hX := hide hX
 clear E0 E1 E2 E3 EF
 -- the left part
 obtain ⟨⟨E0, E1, E2, E3⟩, EF⟩ := cells4 (drewHeap HD.out.1)
 refine wp_region_mid (fun w' => w'.cell? ⟨w.heap.size, 1, none⟩ = some (.slice (some ⟨kb, ko, none⟩) K kc) ∧ w'.cell? ⟨w.heap.size, 3, none⟩ = some (.slice (some ⟨db, dO, none⟩) Z dc)) 10 11 mixed (by kernel_rfl) (fun _ _ _ _ h => h) ⟨E1, E3⟩ ?_
 dsimp only [List.take, List.drop]
 iterate 10
  refine take_one (v := ?_) (by rfl) ?_ ?_
  rotate_left
  ·rintro w' ⟨s1, s2⟩
   go_simp
   try with_reducible rfl
  try simp only [Act.put, List.setIfInBounds_toArray, List.set_cons_zero, List.set_cons_succ]
 refine mid_one fun K' hK' => ?_
 rw [if_pos (by rfl)]
 go_simp
 refine hK' _ _ ⟨cellAl E1 _, cellAl E3 _⟩ ?_
 clear hK' K'
 show wpList _ _ _ _ _ _
 obtain ⟨Y, hY, DY, bY, sY⟩ := boxedN X.drew #[.bool false, (.slice (some ⟨kb, ko, none⟩) i kc), (.slice none 0 0), (.slice (some ⟨db, dO, none⟩) (i + 1) dc)] 98
 have bXY := hXd.out.trans (bY.mono hXd.out.size)
 have HY := hide (And.intro (And.intro ((bXY.block _ (lt_of_block HD.out.1)).trans HD.out.1) (And.intro ((bXY.block _ (lt_of_block HD.out.2.1)).trans HD.out.2.1) ((bXY.block _ (lt_of_block HD.out.2.2)).trans HD.out.2.2))) (And.intro DY bXY))
 have hsY : Hid (Y.heap.size = w.heap.size + 3 + 1) := by show _ = _; rw [sY]; show X.heap.size + 1 = _; rw [hsX.out]
 clear E0 E1 E2 E3 EF DY bY bXY sY
 go_upto_region 6 with fail
 have hY' : (X.alloc (.cells #[.bool false, (.slice (some ⟨kb, ko, none⟩) i kc), (.slice none 0 0), (.slice (some ⟨db, dO, none⟩) (i + 1) dc)] 98)).drew = Y := by rw [hY]; rfl
 rw [hY']
 clear hY'
 replace hY := hide hY
 -- the right part
 have hYd : Hid (Below Y.heap.size Y Y.drew) := below_drewN' Y 1 _
 obtain ⟨⟨E0, E1, E2, E3⟩, EF⟩ := cells4 (drewHeap HY.out.1.1)
 refine wp_region_mid (fun w' => w'.cell? ⟨w.heap.size, 1, none⟩ = some (.slice (some ⟨kb, ko, none⟩) K kc) ∧ w'.cell? ⟨w.heap.size, 3, none⟩ = some (.slice (some ⟨db, dO, none⟩) Z dc)) 11 12 mixed (by kernel_rfl) (fun _ _ _ _ h => h) ⟨E1, E3⟩ ?_
 dsimp only [List.take, List.drop]
 iterate 11
  refine take_one (v := ?_) (by rfl) ?_ ?_
  rotate_left
  ·rintro w' ⟨s1, s2⟩
   go_simp
   try with_reducible rfl
  try simp only [Act.put, List.setIfInBounds_toArray, List.set_cons_zero, List.set_cons_succ]
 refine mid_one fun K' hK' => ?_
 rw [if_pos (by rfl)]
 go_simp
 refine hK' _ _ ⟨cellAl E1 _, cellAl E3 _⟩ ?_
 clear hK' K'
 show wpList _ _ _ _ _ _
 obtain ⟨U, hU, DU, bU, sU⟩ := boxedN Y.drew #[.bool false, (.slice (some ⟨kb, ko + (i + 1), none⟩) (K - (i + 1)) (kc - (i + 1))), (.slice none 0 0), (.slice (some ⟨db, dO + (i + 1), none⟩) (Z - (i + 1)) (dc - (i + 1)))] 98
 have bYU := hYd.out.trans (bU.mono hYd.out.size)
 have bXU := HY.out.2.2.trans (bYU.mono HY.out.2.2.size)
 have DL := (bYU.block _ (lt_of_block HY.out.2.1)).trans HY.out.2.1
 have e3 : X.drew.heap.size = w.heap.size + 3 := hsX.out
 have e4 : Y.drew.heap.size = w.heap.size + 3 + 1 := hsY.out
 rw [e3] at DL
 rw [e4] at DU
 have HU := hide (And.intro (And.intro ((bYU.block _ (lt_of_block HY.out.1.1)).trans HY.out.1.1) (And.intro ((bYU.block _ (lt_of_block HY.out.1.2.1)).trans HY.out.1.2.1) ((bYU.block _ (lt_of_block HY.out.1.2.2)).trans HY.out.1.2.2))) (And.intro DL (And.intro DU bXU)))
 have hsU : Hid (U.heap.size = w.heap.size + 3 + 1 + 1) := by show _ = _; rw [sU, e4]
 clear E0 E1 E2 E3 EF DU DL bU bYU bXU sU HY
 go_upto_region 7 with fail
 have hU' : (Y.alloc (.cells #[.bool false, (.slice (some ⟨kb, ko + (i + 1), none⟩) (K - (i + 1)) (kc - (i + 1))), (.slice none 0 0), (.slice (some ⟨db, dO + (i + 1), none⟩) (Z - (i + 1)) (dc - (i + 1)))] 98)).drew = U := by rw [hU]; rfl
 rw [hU', hsY.out]
 clear hU'
 replace hU := hide hU
 clear e3 e4
 -- both are told
 have hUd : Hid (Below U.heap.size U U.drew) := below_drewN' U 1 _
 obtain ⟨Z', hZ'⟩ : ∃ Z, Z = U.drew := ⟨_, rfl⟩
 rw [← hZ'] at hUd
 obtain ⟨⟨E0, E1, E2, E3⟩, EF⟩ := cells4 ((hUd.out.block _ (lt_of_block HU.out.1.1)).trans HU.out.1.1)
 obtain ⟨⟨L0, L1, L2, L3⟩, LF⟩ := cells4 ((hUd.out.block _ (lt_of_block HU.out.2.1)).trans HU.out.2.1)
 obtain ⟨⟨R0, R1, R2, R3⟩, RF⟩ := cells4 ((hUd.out.block _ (lt_of_block HU.out.2.2.1)).trans HU.out.2.2.1)
 have R1' := (hUd.out.block _ (lt_of_block HU.out.1.2.1)).trans HU.out.1.2.1
 have R2' := (hUd.out.block _ (lt_of_block HU.out.1.2.2)).trans HU.out.1.2.2
 obtain ⟨⟨P0, P1, P2, P3⟩, PF⟩ := cells4 R1'
 have cx := (hUd.out.cell (Nat.lt_of_lt_of_le (cell_lt hcx) HU.out.2.2.2.size)).trans ((HU.out.2.2.2.cell (cell_lt hcx)).trans hcx)
 have hbw : kb < w.heap.size := hkbw.out
 obtain ⟨Q, hQ, q1, q2, q3⟩ := set8 (show w.heap.size + 1 ≠ w.heap.size + 2 by omega) R1' R2' ((HB.out.trans ((HU.out.2.2.2.trans (hUd.out.mono HU.out.2.2.2.size)).mono HB.out.size))) (show w.heap.size ≤ w.heap.size + 1 by omega) (show w.heap.size ≤ w.heap.size + 2 by omega) (.bool false) (.slice (some ⟨kb, ko, none⟩) i kc) (.slice none 0 0) (.slice (some ⟨db, dO, none⟩) (i + 1) dc) (.bool false) (.slice (some ⟨kb, ko + (i + 1), none⟩) (K - (i + 1)) (kc - (i + 1))) (.slice none 0 0) (.slice (some ⟨db, dO + (i + 1), none⟩) (Z - (i + 1)) (dc - (i + 1)))
 refine wp_region_mid (fun w' => (w'.cell? ⟨w.heap.size, 1, none⟩ = some (.slice (some ⟨kb, ko, none⟩) K kc) ∧ w'.cell? ⟨kb, ko + i, none⟩ = some (st x)) ∧ (w'.cell? ⟨w.heap.size + 3, 0, none⟩ = some (.bool false) ∧ w'.cell? ⟨w.heap.size + 3, 1, none⟩ = some (.slice (some ⟨kb, ko, none⟩) i kc) ∧ w'.cell? ⟨w.heap.size + 3, 2, none⟩ = some (.slice none 0 0) ∧ w'.cell? ⟨w.heap.size + 3, 3, none⟩ = some (.slice (some ⟨db, dO, none⟩) (i + 1) dc)) ∧
  (w'.cell? ⟨w.heap.size + 3 + 1, 0, none⟩ = some (.bool false) ∧ w'.cell? ⟨w.heap.size + 3 + 1, 1, none⟩ = some (.slice (some ⟨kb, ko + (i + 1), none⟩) (K - (i + 1)) (kc - (i + 1))) ∧ w'.cell? ⟨w.heap.size + 3 + 1, 2, none⟩ = some (.slice none 0 0) ∧ w'.cell? ⟨w.heap.size + 3 + 1, 3, none⟩ = some (.slice (some ⟨db, dO + (i + 1), none⟩) (Z - (i + 1)) (dc - (i + 1))))) 7 9 mixed (by kernel_rfl) (fun _ _ _ _ h => h) (by rw [← hZ']; exact ⟨⟨E1, cx⟩, ⟨L0, L1, L2, L3⟩, ⟨R0, R1, R2, R3⟩⟩) ?_
 dsimp only [List.take, List.drop]
 iterate 7
  refine take_one (v := ?_) (by rfl) ?_ ?_
  rotate_left
  ·rintro w' ⟨⟨s1, s2⟩, ⟨s3, s4, s5, s6⟩, ⟨s7, s8, s9, s10⟩⟩
   go_simp
   try with_reducible rfl
  try simp only [Act.put, List.setIfInBounds_toArray, List.set_cons_zero, List.set_cons_succ]
 rw [← hZ']
 replace hZ' := hide hZ'
 refine mid_one fun K' hK' => ?_
 rw [if_pos (by rfl)]
 go_simp
 have oth : ∀ (b j : Nat) (u : Value), Z'.cell? ⟨b, j, none⟩ = some u → b ≠ w.heap.size + 1 → (S4 (w.heap.size + 1) Z' (.bool false) (.slice (some ⟨kb, ko, none⟩) i kc) (.slice none 0 0) (.slice (some ⟨db, dO, none⟩) (i + 1) dc)).cell? ⟨b, j, none⟩ = some u := fun b j u hc hne => by
  have e9 := s4_other (w := Z') (g := w.heap.size + 1) (.bool false) (.slice (some ⟨kb, ko, none⟩) i kc) (.slice none 0 0) (.slice (some ⟨db, dO, none⟩) (i + 1) dc) hne
  simp only [World.cell?] at hc ⊢
  rw [e9]; exact hc
 refine hK' _ _ ⟨⟨oth _ _ _ E1 (by omega), oth _ _ _ cx (by omega)⟩, ⟨oth _ _ _ L0 (by omega), oth _ _ _ L1 (by omega), oth _ _ _ L2 (by omega), oth _ _ _ L3 (by omega)⟩, ⟨oth _ _ _ R0 (by omega), oth _ _ _ R1 (by omega), oth _ _ _ R2 (by omega), oth _ _ _ R3 (by omega)⟩⟩ ?_
 clear hK' K'
 refine mid_one fun K' hK' => ?_
 rw [if_pos (by rfl)]
 go_simp
 refine hK' _ _ ⟨⟨oth _ _ _ E1 (by omega), oth _ _ _ cx (by omega)⟩, ⟨oth _ _ _ L0 (by omega), oth _ _ _ L1 (by omega), oth _ _ _ L2 (by omega), oth _ _ _ L3 (by omega)⟩, ⟨oth _ _ _ R0 (by omega), oth _ _ _ R1 (by omega), oth _ _ _ R2 (by omega), oth _ _ _ R3 (by omega)⟩⟩ ?_
 clear hK' K'
 show wpList _ _ _ _ _ _
 have O2 : (S4 (w.heap.size + 1) Z' (.bool false) (.slice (some ⟨kb, ko, none⟩) i kc) (.slice none 0 0) (.slice (some ⟨db, dO, none⟩) (i + 1) dc)).heap[w.heap.size + 1 + 1]? = some (.cells #[.bool false, .slice none 0 0, .slice none 0 0, .slice none 0 0] 98 (0, 0)) := (s4_other _ _ _ _ (show w.heap.size + 1 + 1 ≠ w.heap.size + 1 by omega)).trans R2'
 obtain ⟨⟨M0, M1, M2, M3⟩, MF⟩ := cells4 O2
 have FIN : Hid (RdK Q (.slice (some ⟨kb, ko, none⟩) i kc) (.slice none 0 0) (.slice (some ⟨db, dO, none⟩) (i + 1) dc) (cutL n i) ∧ RdK Q (.slice (some ⟨kb, ko + (i + 1), none⟩) (K - (i + 1)) (kc - (i + 1))) (.slice none 0 0) (.slice (some ⟨db, dO + (i + 1), none⟩) (Z - (i + 1)) (dc - (i + 1))) (cutR n i)) := ⟨HRR.out.1.to q3, HRR.out.2.to q3⟩
 have HQ1 := hide q1
 have HQ2 := hide q2
 have HQ3 := hide q3
 rw [hQ] at HQ1 HQ2 HQ3 FIN
 clear E0 E1 E2 E3 EF L0 L1 L2 L3 LF R0 R1 R2 R3 RF P0 P1 P2 P3 PF R1' R2' cx oth q1 q2 q3 hQ O2
 go_wp2
 refine retNTN rfl rfl (w.heap.size + 1) (w.heap.size + 2) rfl rfl _ _ _ _ (0, 0) (0, 0) HQ1.out HQ2.out _ _ Tryz.underlying98 rfl info_nd10 Tryz.underlying98 rfl info_nd10 _ rfl ?_
 refine ⟨_, _, _, _, _, _, ?_, FIN.out.1, FIN.out.2, HQ3.out⟩
 rw [hgd.out, hcl.out.1, hcl.out.2]
 rfl
set_option maxRecDepth 100000 in
set_option maxHeartbeats 8000000 in
theorem pcut_innB (w : World) (n : Nd) (kv vv dv : Value) (i : Nat) (h0 : RdK w kv vv dv n) (hi : i < n.keys.length) (hl : n.keys.length ≤ 1000) (hlf : n.leaf = false) (hkd : n.kids.length = n.keys.length + 1) (hq : ∃ a, kv = .slice a n.keys.length (i + 1)) :
  Calls Tryz.prog 120 #[nv n kv vv dv, .int .i64 (i : Int)] w fun e w' => CutR w w' n i e := by
 have hr := h0.rd
 obtain ⟨ka, kc, va, vc, da, dc, rfl, rfl, rfl⟩ := hr.slices
 obtain ⟨x, hx⟩ : ∃ x, n.keys[i]? = some x := ⟨_, List.getElem?_eq_getElem hi⟩
 have hgd : n.keys.getD i [] = x := by rw [List.getD_eq_getElem?_getD, hx]; rfl
 obtain ⟨X, hX, D0, D1, D2, bX, sX⟩ := boxes4s w (.bool n.leaf) (.slice ka n.keys.length kc) (.slice va n.vals.length vc) (.slice da n.kids.length dc) 98
 have hkc := rdS_cap hr.keys
 obtain ⟨kb, ko, rfl, hcx⟩ := hr.keys.strAt hx
 have hkbw : Hid (kb < w.heap.size) := cell_lt hcx
 replace hcx := (bX.cell (cell_lt hcx)).trans hcx
 have hkc9 : kc = i + 1 := by
  obtain ⟨a9, e9⟩ := hq
  simp only [Value.slice.injEq] at e9
  exact e9.2.2
 clear hq
 subst hkc9
 have hkl : n.keys.length = i + 1 := by omega
 have hdc := rdS_cap hr.kids
 obtain ⟨y, hy⟩ : ∃ y, n.kids[0]? = some y := ⟨_, List.getElem?_eq_getElem (by omega)⟩
 obtain ⟨db, dO, rfl, hvx⟩ := hr.kids.intAt hy
 have hcv : ¬ dc = i + 1 := by omega
 have RL : RdK w (.slice (some ⟨kb, ko, none⟩) i (i + 1)) (.slice none 0 0) (.slice (some ⟨db, dO, none⟩) (i + 1) dc) (cutL n i) := by
  unfold cutL
  rw [hlf, if_neg (by decide)]
  exact ⟨⟨rdS_front hr.keys (by omega), rd_nilT _, rdS_front hr.kids (by omega)⟩, h0.tk.same _ _, TyB.nil _ _ _ _, h0.td.same _ _⟩
 have RR : RdK w (.slice (some ⟨kb, ko, none⟩) 0 0) (.slice none 0 0) (.slice (some ⟨db, dO + (i + 1), none⟩) (n.kids.length - (i + 1)) (dc - (i + 1))) (cutR n i) := by
  unfold cutR
  rw [hlf, if_neg (by decide)]
  have e0 : n.keys.drop (i + 1) = [] := List.drop_of_length_le (by omega)
  refine ⟨⟨?_, rd_nilT _, rdS_back rfl hr.kids (by omega) hcv⟩, h0.tk.part rfl, TyB.nil _ _ _ _, h0.td.part rfl⟩
  show RdT _ _ (n.keys.drop (i + 1))
  rw [e0]
  exact ⟨_, 0, rfl, by simp, by decide, (fun h => by cases h), .inl rfl⟩
 have HRR := hide (And.intro RL RR)
 obtain ⟨⟨E0, E1, E2, E3⟩, EF⟩ := cells4 D0
 have HD := hide (And.intro D0 (And.intro D1 D2))
 have HB := hide bX
 have hsX := hide sX
 obtain ⟨K, hK⟩ : ∃ K, K = n.keys.length := ⟨_, rfl⟩
 obtain ⟨V, hV⟩ : ∃ K, K = n.vals.length := ⟨_, rfl⟩
 obtain ⟨Z, hZ⟩ : ∃ K, K = n.kids.length := ⟨_, rfl⟩
 rw [← hK] at hi hl hX HD E1 hkc
 (try rw [← hK] at HRR)
 simp only [← hV, ← hZ] at hX HRR HD E2 E3
 dsimp only [nv]
 rw [← hK, ← hV, ← hZ]
 obtain rfl : K = i + 1 := by omega
 have hcl := hide (show (∀ a b c, nv (cutL n i) a b c = .agg #[.bool false, a, b, c]) ∧ ∀ a b c, nv (cutR n i) a b c = .agg #[.bool false, a, b, c] by unfold cutL cutR; rw [hlf]; exact ⟨fun _ _ _ => rfl, fun _ _ _ => rfl⟩)
 have g2 : i + 1 ≤ Z := by rw [hZ, hkd]; omega
 have g4 : i + 1 ≤ dc := by omega
 have g5 : IntKind.i64.wrap ((i : Int) + 1) = (i : Int) + 1 := IntWalk.i64_in _ (by omega)
 have g6 : (0 : Int) ≤ (i : Int) + 1 := by omega
 have g7 : ((i : Int) + 1).toNat = i + 1 := by omega
 have g8 : (i : Int) + 1 ≤ (Z : Int) := by omega
 have g9 : (i : Int) + 1 ≤ (dc : Int) := by omega
 have g1 : (i : Int) ≤ (i : Int) + 1 := by omega
 have g3 : (i : Int) < (i : Int) + 1 := by omega
 rw [hlf] at hX HD E0 ⊢
 have hXd : Hid (Below X.heap.size X X.drew) := below_drewN' X 1 _
 rw [hX] at E0 E1 E2 E3 EF
 replace hK := hide hK
 replace hV := hide hV
 replace hZ := hide hZ
 replace hgd := hide hgd
 replace hlf := hide hlf
 replace hx := hide hx
 clear D0 D1 D2 bX hr h0 RL RR hy hvx hdc hkd hkl
 go_enter Tryz.func120, Tryz.ntmps120
 go_upto_region 5 with fail
 rw [← hX]
 replace hX := hide hX
 clear E0 E1 E2 E3 EF
 -- the left part
 obtain ⟨⟨E0, E1, E2, E3⟩, EF⟩ := cells4 (drewHeap HD.out.1)
 refine wp_region_mid (fun w' => w'.cell? ⟨w.heap.size, 1, none⟩ = some (.slice (some ⟨kb, ko, none⟩) (i + 1) (i + 1)) ∧ w'.cell? ⟨w.heap.size, 3, none⟩ = some (.slice (some ⟨db, dO, none⟩) Z dc)) 10 11 mixed (by kernel_rfl) (fun _ _ _ _ h => h) ⟨E1, E3⟩ ?_
 dsimp only [List.take, List.drop]
 iterate 10
  refine take_one (v := ?_) (by rfl) ?_ ?_
  rotate_left
  ·rintro w' ⟨s1, s2⟩
   go_simp
   try with_reducible rfl
  try simp only [Act.put, List.setIfInBounds_toArray, List.set_cons_zero, List.set_cons_succ]
 refine mid_one fun K' hK' => ?_
 rw [if_pos (by rfl)]
 go_simp
 refine hK' _ _ ⟨cellAl E1 _, cellAl E3 _⟩ ?_
 clear hK' K'
 show wpList _ _ _ _ _ _
 obtain ⟨Y, hY, DY, bY, sY⟩ := boxedN X.drew #[.bool false, (.slice (some ⟨kb, ko, none⟩) i (i + 1)), (.slice none 0 0), (.slice (some ⟨db, dO, none⟩) (i + 1) dc)] 98
 have bXY := hXd.out.trans (bY.mono hXd.out.size)
 have HY := hide (And.intro (And.intro ((bXY.block _ (lt_of_block HD.out.1)).trans HD.out.1) (And.intro ((bXY.block _ (lt_of_block HD.out.2.1)).trans HD.out.2.1) ((bXY.block _ (lt_of_block HD.out.2.2)).trans HD.out.2.2))) (And.intro DY bXY))
 have hsY : Hid (Y.heap.size = w.heap.size + 3 + 1) := by show _ = _; rw [sY]; show X.heap.size + 1 = _; rw [hsX.out]
 clear E0 E1 E2 E3 EF DY bY bXY sY
 go_upto_region 6 with fail
 have hY' : (X.alloc (.cells #[.bool false, (.slice (some ⟨kb, ko, none⟩) i (i + 1)), (.slice none 0 0), (.slice (some ⟨db, dO, none⟩) (i + 1) dc)] 98)).drew = Y := by rw [hY]; rfl
 rw [hY']
 clear hY'
 replace hY := hide hY
 -- the right part
 have hYd : Hid (Below Y.heap.size Y Y.drew) := below_drewN' Y 1 _
 obtain ⟨⟨E0, E1, E2, E3⟩, EF⟩ := cells4 (drewHeap HY.out.1.1)
 refine wp_region_mid (fun w' => w'.cell? ⟨w.heap.size, 1, none⟩ = some (.slice (some ⟨kb, ko, none⟩) (i + 1) (i + 1)) ∧ w'.cell? ⟨w.heap.size, 3, none⟩ = some (.slice (some ⟨db, dO, none⟩) Z dc)) 11 12 mixed (by kernel_rfl) (fun _ _ _ _ h => h) ⟨E1, E3⟩ ?_
 dsimp only [List.take, List.drop]
 iterate 11
  refine take_one (v := ?_) (by rfl) ?_ ?_
  rotate_left
  ·rintro w' ⟨s1, s2⟩
   go_simp
   try with_reducible rfl
  try simp only [Act.put, List.setIfInBounds_toArray, List.set_cons_zero, List.set_cons_succ]
 refine mid_one fun K' hK' => ?_
 rw [if_pos (by rfl)]
 go_simp
 refine hK' _ _ ⟨cellAl E1 _, cellAl E3 _⟩ ?_
 clear hK' K'
 show wpList _ _ _ _ _ _
 obtain ⟨U, hU, DU, bU, sU⟩ := boxedN Y.drew #[.bool false, (.slice (some ⟨kb, ko, none⟩) 0 0), (.slice none 0 0), (.slice (some ⟨db, dO + (i + 1), none⟩) (Z - (i + 1)) (dc - (i + 1)))] 98
 have bYU := hYd.out.trans (bU.mono hYd.out.size)
 have bXU := HY.out.2.2.trans (bYU.mono HY.out.2.2.size)
 have DL := (bYU.block _ (lt_of_block HY.out.2.1)).trans HY.out.2.1
 have e3 : X.drew.heap.size = w.heap.size + 3 := hsX.out
 have e4 : Y.drew.heap.size = w.heap.size + 3 + 1 := hsY.out
 rw [e3] at DL
 rw [e4] at DU
 have HU := hide (And.intro (And.intro ((bYU.block _ (lt_of_block HY.out.1.1)).trans HY.out.1.1) (And.intro ((bYU.block _ (lt_of_block HY.out.1.2.1)).trans HY.out.1.2.1) ((bYU.block _ (lt_of_block HY.out.1.2.2)).trans HY.out.1.2.2))) (And.intro DL (And.intro DU bXU)))
 have hsU : Hid (U.heap.size = w.heap.size + 3 + 1 + 1) := by show _ = _; rw [sU, e4]
 clear E0 E1 E2 E3 EF DU DL bU bYU bXU sU HY
 go_upto_region 7 with fail
 have hU' : (Y.alloc (.cells #[.bool false, (.slice (some ⟨kb, ko, none⟩) 0 0), (.slice none 0 0), (.slice (some ⟨db, dO + (i + 1), none⟩) (Z - (i + 1)) (dc - (i + 1)))] 98)).drew = U := by rw [hU]; rfl
 rw [hU', hsY.out]
 clear hU'
 replace hU := hide hU
 clear e3 e4
 -- both are told
 have hUd : Hid (Below U.heap.size U U.drew) := below_drewN' U 1 _
 obtain ⟨Z', hZ'⟩ : ∃ Z, Z = U.drew := ⟨_, rfl⟩
 rw [← hZ'] at hUd
 obtain ⟨⟨E0, E1, E2, E3⟩, EF⟩ := cells4 ((hUd.out.block _ (lt_of_block HU.out.1.1)).trans HU.out.1.1)
 obtain ⟨⟨L0, L1, L2, L3⟩, LF⟩ := cells4 ((hUd.out.block _ (lt_of_block HU.out.2.1)).trans HU.out.2.1)
 obtain ⟨⟨R0, R1, R2, R3⟩, RF⟩ := cells4 ((hUd.out.block _ (lt_of_block HU.out.2.2.1)).trans HU.out.2.2.1)
 have R1' := (hUd.out.block _ (lt_of_block HU.out.1.2.1)).trans HU.out.1.2.1
 have R2' := (hUd.out.block _ (lt_of_block HU.out.1.2.2)).trans HU.out.1.2.2
 obtain ⟨⟨P0, P1, P2, P3⟩, PF⟩ := cells4 R1'
 have cx := (hUd.out.cell (Nat.lt_of_lt_of_le (cell_lt hcx) HU.out.2.2.2.size)).trans ((HU.out.2.2.2.cell (cell_lt hcx)).trans hcx)
 have hbw : kb < w.heap.size := hkbw.out
 obtain ⟨Q, hQ, q1, q2, q3⟩ := set8 (show w.heap.size + 1 ≠ w.heap.size + 2 by omega) R1' R2' ((HB.out.trans ((HU.out.2.2.2.trans (hUd.out.mono HU.out.2.2.2.size)).mono HB.out.size))) (show w.heap.size ≤ w.heap.size + 1 by omega) (show w.heap.size ≤ w.heap.size + 2 by omega) (.bool false) (.slice (some ⟨kb, ko, none⟩) i (i + 1)) (.slice none 0 0) (.slice (some ⟨db, dO, none⟩) (i + 1) dc) (.bool false) (.slice (some ⟨kb, ko, none⟩) 0 0) (.slice none 0 0) (.slice (some ⟨db, dO + (i + 1), none⟩) (Z - (i + 1)) (dc - (i + 1)))
 refine wp_region_mid (fun w' => (w'.cell? ⟨w.heap.size, 1, none⟩ = some (.slice (some ⟨kb, ko, none⟩) (i + 1) (i + 1)) ∧ w'.cell? ⟨kb, ko + i, none⟩ = some (st x)) ∧ (w'.cell? ⟨w.heap.size + 3, 0, none⟩ = some (.bool false) ∧ w'.cell? ⟨w.heap.size + 3, 1, none⟩ = some (.slice (some ⟨kb, ko, none⟩) i (i + 1)) ∧ w'.cell? ⟨w.heap.size + 3, 2, none⟩ = some (.slice none 0 0) ∧ w'.cell? ⟨w.heap.size + 3, 3, none⟩ = some (.slice (some ⟨db, dO, none⟩) (i + 1) dc)) ∧
  (w'.cell? ⟨w.heap.size + 3 + 1, 0, none⟩ = some (.bool false) ∧ w'.cell? ⟨w.heap.size + 3 + 1, 1, none⟩ = some (.slice (some ⟨kb, ko, none⟩) 0 0) ∧ w'.cell? ⟨w.heap.size + 3 + 1, 2, none⟩ = some (.slice none 0 0) ∧ w'.cell? ⟨w.heap.size + 3 + 1, 3, none⟩ = some (.slice (some ⟨db, dO + (i + 1), none⟩) (Z - (i + 1)) (dc - (i + 1))))) 7 9 mixed (by kernel_rfl) (fun _ _ _ _ h => h) (by rw [← hZ']; exact ⟨⟨E1, cx⟩, ⟨L0, L1, L2, L3⟩, ⟨R0, R1, R2, R3⟩⟩) ?_
 dsimp only [List.take, List.drop]
 iterate 7
  refine take_one (v := ?_) (by rfl) ?_ ?_
  rotate_left
  ·rintro w' ⟨⟨s1, s2⟩, ⟨s3, s4, s5, s6⟩, ⟨s7, s8, s9, s10⟩⟩
   go_simp
   try with_reducible rfl
  try simp only [Act.put, List.setIfInBounds_toArray, List.set_cons_zero, List.set_cons_succ]
 rw [← hZ']
 replace hZ' := hide hZ'
 refine mid_one fun K' hK' => ?_
 rw [if_pos (by rfl)]
 go_simp
 have oth : ∀ (b j : Nat) (u : Value), Z'.cell? ⟨b, j, none⟩ = some u → b ≠ w.heap.size + 1 → (S4 (w.heap.size + 1) Z' (.bool false) (.slice (some ⟨kb, ko, none⟩) i (i + 1)) (.slice none 0 0) (.slice (some ⟨db, dO, none⟩) (i + 1) dc)).cell? ⟨b, j, none⟩ = some u := fun b j u hc hne => by
  have e9 := s4_other (w := Z') (g := w.heap.size + 1) (.bool false) (.slice (some ⟨kb, ko, none⟩) i (i + 1)) (.slice none 0 0) (.slice (some ⟨db, dO, none⟩) (i + 1) dc) hne
  simp only [World.cell?] at hc ⊢
  rw [e9]; exact hc
 refine hK' _ _ ⟨⟨oth _ _ _ E1 (by omega), oth _ _ _ cx (by omega)⟩, ⟨oth _ _ _ L0 (by omega), oth _ _ _ L1 (by omega), oth _ _ _ L2 (by omega), oth _ _ _ L3 (by omega)⟩, ⟨oth _ _ _ R0 (by omega), oth _ _ _ R1 (by omega), oth _ _ _ R2 (by omega), oth _ _ _ R3 (by omega)⟩⟩ ?_
 clear hK' K'
 refine mid_one fun K' hK' => ?_
 rw [if_pos (by rfl)]
 go_simp
 refine hK' _ _ ⟨⟨oth _ _ _ E1 (by omega), oth _ _ _ cx (by omega)⟩, ⟨oth _ _ _ L0 (by omega), oth _ _ _ L1 (by omega), oth _ _ _ L2 (by omega), oth _ _ _ L3 (by omega)⟩, ⟨oth _ _ _ R0 (by omega), oth _ _ _ R1 (by omega), oth _ _ _ R2 (by omega), oth _ _ _ R3 (by omega)⟩⟩ ?_
 clear hK' K'
 show wpList _ _ _ _ _ _
 have O2 : (S4 (w.heap.size + 1) Z' (.bool false) (.slice (some ⟨kb, ko, none⟩) i (i + 1)) (.slice none 0 0) (.slice (some ⟨db, dO, none⟩) (i + 1) dc)).heap[w.heap.size + 1 + 1]? = some (.cells #[.bool false, .slice none 0 0, .slice none 0 0, .slice none 0 0] 98 (0, 0)) := (s4_other _ _ _ _ (show w.heap.size + 1 + 1 ≠ w.heap.size + 1 by omega)).trans R2'
 obtain ⟨⟨M0, M1, M2, M3⟩, MF⟩ := cells4 O2
 have FIN : Hid (RdK Q (.slice (some ⟨kb, ko, none⟩) i (i + 1)) (.slice none 0 0) (.slice (some ⟨db, dO, none⟩) (i + 1) dc) (cutL n i) ∧ RdK Q (.slice (some ⟨kb, ko, none⟩) 0 0) (.slice none 0 0) (.slice (some ⟨db, dO + (i + 1), none⟩) (Z - (i + 1)) (dc - (i + 1))) (cutR n i)) := ⟨HRR.out.1.to q3, HRR.out.2.to q3⟩
 have HQ1 := hide q1
 have HQ2 := hide q2
 have HQ3 := hide q3
 rw [hQ] at HQ1 HQ2 HQ3 FIN
 clear E0 E1 E2 E3 EF L0 L1 L2 L3 LF R0 R1 R2 R3 RF P0 P1 P2 P3 PF R1' R2' cx oth q1 q2 q3 hQ O2
 go_wp2
 refine retNTN rfl rfl (w.heap.size + 1) (w.heap.size + 2) rfl rfl _ _ _ _ (0, 0) (0, 0) HQ1.out HQ2.out _ _ Tryz.underlying98 rfl info_nd10 Tryz.underlying98 rfl info_nd10 _ rfl ?_
 refine ⟨_, _, _, _, _, _, ?_, FIN.out.1, FIN.out.2, HQ3.out⟩
 rw [hgd.out, hcl.out.1, hcl.out.2]
 rfl
theorem pcut_any (w : World) (n : Nd) (kv vv dv : Value) (i : Nat) (h : RdK w kv vv dv n) (hi : i < n.keys.length) (hl : n.keys.length ≤ 1000) (hc : (n.leaf = true ∧ n.vals.length = n.keys.length) ∨ (n.leaf = false ∧ n.kids.length = n.keys.length + 1)) :
  Calls Tryz.prog 120 #[nv n kv vv dv, .int .i64 (i : Int)] w fun e w' => CutR w w' n i e := by
 rcases hc with ⟨h1, h2⟩ | ⟨h1, h2⟩
 ·exact pcut_leaf w n kv vv dv i h hi hl h1 h2
 ·obtain ⟨a, c, rfl⟩ := h.rd.keys.slice
  by_cases hq : c = i + 1
  ·subst hq
   exact pcut_innB w n _ vv dv i h hi hl h1 h2 ⟨a, rfl⟩
  ·refine pcut_innA w n _ vv dv i h hi hl h1 h2 fun a' c' e => ?_
   simp only [Value.slice.injEq] at e
   rw [← e.2.2]
   exact hq
end Go.Proofs.YtpiikmkajckccaaGreat

namespace Go.Proofs.YtpiikmkajckccaaGreat
open Go.RowKit
theorem midTo_succ (n : Nd) (k : Nat) : midTo n (k + 1) = if cutG n k < (midTo n k).2 then (k, cutG n k) else midTo n k := rfl
structure NBd (n : Nd) : Prop where
 self : 0 ≤ nsize n ∧ nsize n ≤ 1000000
 left : ∀ i, i < n.keys.length → 0 ≤ nsize (cutL n i) ∧ nsize (cutL n i) ≤ 1000000
 right : ∀ i, i < n.keys.length → 0 ≤ nsize (cutR n i) ∧ nsize (cutR n i) ≤ 1000000
set_option maxRecDepth 100000 in
set_option maxHeartbeats 4000000 in
theorem pmid_any (w : World) (n : Nd) (kv vv dv : Value) (h : RdK w kv vv dv n) (hl : n.keys.length ≤ 1000) (hc : (n.leaf = true ∧ n.vals.length = n.keys.length) ∨ (n.leaf = false ∧ n.kids.length = n.keys.length + 1)) (hbd : NBd n) :
  Calls Tryz.prog 121 #[nv n kv vv dv] w fun e w' => e = .returned (.int .i64 (midOf n : Int)) ∧ Below w.heap.size w w' := by
 obtain ⟨ka, kc, va, vc, da, dc, rfl, rfl, rfl⟩ := h.rd.slices
 obtain ⟨W, hW, DW, bW, sW⟩ := boxedN w #[.bool n.leaf, .slice ka n.keys.length kc, .slice va n.vals.length vc, .slice da n.kids.length dc] 98
 have HN := hide (h.to bW)
 have KS := hide (psize9_any W _ _ _ n HN.out.rd)
 obtain ⟨⟨E0, E1, E2, E3⟩, EF⟩ := cells4 DW
 have HD := hide DW
 have HB := hide bW
 replace hbd := hide hbd
 replace hc := hide hc
 rw [hW] at E0 E1 E2 E3 EF KS
 dsimp only [nv] at KS ⊢
 clear h DW bW
 have hmd : Hid (midOf n = (midTo n n.keys.length).1) := rfl
 have hbs := hide (And.intro hbd.out.self (And.intro hbd.out.left hbd.out.right))
 generalize hK : n.keys.length = K at *
 replace hK := hide hK
 go_enter Tryz.func121, Tryz.ntmps121
 go_wp2_with fail
 refine KS.out.mono ?_
 rintro e w1 ⟨rfl, b1⟩
 rw [← hW] at b1
 replace hW := hide hW
 clear E0 E1 E2 E3 EF KS
 have hws : wrap64 (nsize n) = nsize n := by have := hbd.out.self; unfold wrap64; omega
 rw [hws]
 have D1 := (b1.block _ (lt_of_block HD.out)).trans HD.out
 obtain ⟨⟨E0, E1, E2, E3⟩, EF⟩ := cells4 D1
 have HI : Hid (Below W.heap.size W w1) := b1
 have hm0 : Hid (midTo n 0 = (0, nsize n)) := rfl
 clear D1 b1 hws
 go_wp2_with fail
 clear E0 E1 E2 E3 EF
 go_loopw [3, 4, 15] (fun bst lst p wr => ∃ k : Nat, k ≤ K ∧ p = .int .i64 k ∧ bst = .int .i64 ((midTo n k).1 : Int) ∧ lst = .int .i64 (midTo n k).2 ∧ Hid (Below W.heap.size W wr)) (fun _ _ p _ => K - (intOf p).toNat)
 case atStart => exact ⟨0, Nat.zero_le _, rfl, rfl, rfl, HI⟩
 case round =>
  obtain ⟨k, hk, rfl, rfl, rfl, hI⟩ := hrel
  clear HI
  by_cases hlt : k < K
  ·have hq : (k : Int) < (K : Int) := by omega
   have D1 := (hI.out.block _ (lt_of_block HD.out)).trans HD.out
   obtain ⟨⟨E0, E1, E2, E3⟩, EF⟩ := cells4 D1
   have KC := hide (pcut_any wr n _ _ _ k (HN.out.to hI.out) (by rw [hK.out]; exact hlt) (by rw [hK.out]; exact hl) (by rw [hK.out]; exact hc.out))
   have gL := hbs.out.2.1 k hlt
   have gR := hbs.out.2.2 k hlt
   have hms := hide (midTo_succ n k)
   dsimp only [nv] at KC
   clear D1
   go_wp2_with fail
   refine KC.out.mono ?_
   rintro e w2 ⟨k1, v1, d1, k2, v2, d2, rfl, r1, r2, b2⟩
   clear E0 E1 E2 E3 EF KC
   have B2 := hide (hI.out.trans (b2.mono hI.out.size))
   obtain ⟨k1a, k1c, v1a, v1c, d1a, d1c, rfl, rfl, rfl⟩ := r1.rd.slices
   obtain ⟨k2a, k2c, v2a, v2c, d2a, d2c, rfl, rfl, rfl⟩ := r2.rd.slices
   obtain ⟨Y1, hY1, DY1, bY1, sY1⟩ := boxedN w2 #[.bool (cutL n k).leaf, .slice k1a (cutL n k).keys.length k1c, .slice v1a (cutL n k).vals.length v1c, .slice d1a (cutL n k).kids.length d1c] 98
   obtain ⟨Y2, hY2, DY2, bY2, sY2⟩ := boxedN Y1 #[.bool (cutR n k).leaf, .slice k2a (cutR n k).keys.length k2c, .slice v2a (cutR n k).vals.length v2c, .slice d2a (cutR n k).kids.length d2c] 98
   rw [sY1] at DY2
   have bY := bY1.trans (bY2.mono bY1.size)
   have HY := hide (And.intro ((bY2.block _ (lt_of_block DY1)).trans DY1) (And.intro DY2 (And.intro (r1.to bY) (And.intro (r2.to bY) (B2.out.trans (bY.mono B2.out.size))))))
   clear DY1 DY2 bY1 bY2 bY r1 r2 b2 hI
   dsimp only [nv]
   go_upto_region 6 with fail
   rw [← hY1, ← hY2]
   replace hY1 := hide hY1
   replace hY2 := hide hY2
   obtain ⟨D1, D2, r1, r2, bB⟩ := HY.out
   have b0 : Below Y2.heap.size Y2 Y2.drew := below_drewN' Y2 1 _
   obtain ⟨X1, hX1⟩ : ∃ X, X = Y2.drew := ⟨_, rfl⟩
   rw [← hX1] at b0
   have HR := hide (And.intro (r1.to b0) (r2.to b0))
   have HS : Hid (∀ u, Below Y2.heap.size Y2 u → (Y2.heap.size ≤ u.heap.size) ∧ u.heap[w2.heap.size]? = some (.cells #[.bool (cutL n k).leaf, .slice k1a (cutL n k).keys.length k1c, .slice v1a (cutL n k).vals.length v1c, .slice d1a (cutL n k).kids.length d1c] 98 (0, 0)) ∧ u.heap[w2.heap.size + 1]? = some (.cells #[.bool (cutR n k).leaf, .slice k2a (cutR n k).keys.length k2c, .slice v2a (cutR n k).vals.length v2c, .slice d2a (cutR n k).kids.length d2c] 98 (0, 0))) := fun u bu => ⟨bu.size, (bu.block _ (lt_of_block D1)).trans D1, (bu.block _ (lt_of_block D2)).trans D2⟩
   have K1 := hide (psize9_any X1 _ _ _ (cutL n k) HR.out.1.rd)
   have K2 : Hid (∀ u, Below X1.heap.size X1 u → _) := fun u bu => psize9_any u _ _ _ (cutR n k) (HR.out.2.to bu).rd
   dsimp only [nv] at K1 K2
   have w1s : wrap64 (nsize (cutL n k)) = nsize (cutL n k) := by unfold wrap64; omega
   have w2s : wrap64 (nsize (cutR n k)) = nsize (cutR n k) := by unfold wrap64; omega
   rw [w1s] at K1
   simp only [w2s] at K2
   have hG : Hid (cutG n k = max (nsize (cutL n k)) (nsize (cutR n k))) := rfl
   generalize nsize (cutL n k) = N1 at *
   generalize nsize (cutR n k) = N2 at *
   generalize (cutL n k).keys.length = A1 at *
   generalize (cutL n k).vals.length = A2 at *
   generalize (cutL n k).kids.length = A3 at *
   generalize (cutR n k).keys.length = B1 at *
   generalize (cutR n k).vals.length = B2 at *
   generalize (cutR n k).kids.length = B3 at *
   clear w1s w2s
   have HSS : Hid (∀ w', Below Y2.heap.size Y2 w' → (w'.cell? ⟨w2.heap.size, 0, none⟩ = some (.bool (cutL n k).leaf) ∧ w'.cell? ⟨w2.heap.size, 1, none⟩ = some (.slice k1a A1 k1c) ∧ w'.cell? ⟨w2.heap.size, 2, none⟩ = some (.slice v1a A2 v1c) ∧ w'.cell? ⟨w2.heap.size, 3, none⟩ = some (.slice d1a A3 d1c)) ∧ (w'.cell? ⟨w2.heap.size + 1, 0, none⟩ = some (.bool (cutR n k).leaf) ∧ w'.cell? ⟨w2.heap.size + 1, 1, none⟩ = some (.slice k2a B1 k2c) ∧ w'.cell? ⟨w2.heap.size + 1, 2, none⟩ = some (.slice v2a B2 v2c) ∧ w'.cell? ⟨w2.heap.size + 1, 3, none⟩ = some (.slice d2a B3 d2c))) := fun u bu => by
    obtain ⟨_, q1, q2⟩ := HS.out u bu
    exact ⟨(cells4 q1).1, (cells4 q2).1⟩
   have B3' := hide bB
   clear D1 D2 r1 r2 bB HY HS
   refine wp_region_sched (fun w' => (w'.cell? ⟨w2.heap.size, 0, none⟩ = some (.bool (cutL n k).leaf) ∧ w'.cell? ⟨w2.heap.size, 1, none⟩ = some (.slice k1a A1 k1c) ∧ w'.cell? ⟨w2.heap.size, 2, none⟩ = some (.slice v1a A2 v1c) ∧ w'.cell? ⟨w2.heap.size, 3, none⟩ = some (.slice d1a A3 d1c)) ∧ (w'.cell? ⟨w2.heap.size + 1, 0, none⟩ = some (.bool (cutR n k).leaf) ∧ w'.cell? ⟨w2.heap.size + 1, 1, none⟩ = some (.slice k2a B1 k2c) ∧ w'.cell? ⟨w2.heap.size + 1, 2, none⟩ = some (.slice v2a B2 v2c) ∧ w'.cell? ⟨w2.heap.size + 1, 3, none⟩ = some (.slice d2a B3 d2c))) [(0, true), (2, true), (1, false), (3, false)] 4 mixed (by kernel_rfl) (fun _ _ _ _ h => h) ?_
   rw [← hX1]
   replace hX1 := hide hX1
   iterate 2
    refine sched_take (v := ?_) rfl (by kernel_rfl) (HSS.out _ b0) ?_ ?_
    rotate_left
    ·rintro w' ⟨⟨s1, s2, s3, s4⟩, ⟨t1, t2, t3, t4⟩⟩
     go_simp
     try with_reducible rfl
    try simp only [Act.put, List.setIfInBounds_toArray, List.set_cons_zero, List.set_cons_succ]
   refine sched_run rfl (by kernel_rfl) fun K' hK' => ?_
   refine wp_call_of 89 _ _ (by rfl) _ (by simp [Act.eval]) (Tryz.call89 _ _) K1.out ?_
   rintro e w4 ⟨rfl, b4⟩
   have b04 := b0.trans (b4.mono b0.size)
   refine ⟨_, rfl, hK' _ _ (HSS.out _ b04) ?_⟩
   clear hK' K'
   try simp only [Act.put, List.setIfInBounds_toArray, List.set_cons_zero, List.set_cons_succ]
   refine sched_run rfl (by kernel_rfl) fun K' hK' => ?_
   refine wp_call_of 89 _ _ (by rfl) _ (by simp [Act.eval]) (Tryz.call89 _ _) (K2.out w4 b4) ?_
   rintro e w5 ⟨rfl, b5⟩
   have b05 := b04.trans (b5.mono b04.size)
   refine ⟨_, rfl, hK' _ _ (HSS.out _ b05) ?_⟩
   clear hK' K'
   try simp only [Act.put, List.setIfInBounds_toArray, List.set_cons_zero, List.set_cons_succ]
   show wpList _ _ _ _ _ _
   dsimp only [List.drop]
   have B5 := hide (B3'.out.trans (b05.mono B3'.out.size))
   clear b4 b04 b5 b05 b0 K1 K2 HSS B3' HR
   obtain ⟨⟨M1, M2⟩, hM⟩ : ∃ q, q = midTo n k := ⟨_, rfl⟩
   rw [← hM]
   dsimp only
   replace hM := hide hM.symm
   by_cases hmx : N1 ≤ N2
   ·by_cases hcp : N2 < M2
    ·have hz : Hid (midTo n (k + 1) = (k, N2)) := by
      show _ = _
      rw [hms.out, hG.out, hM.out]
      dsimp only
      rw [show max N1 N2 = N2 by omega]
      exact if_pos hcp
     go_wp2
     go_roundw
     case rel => exact ⟨k + 1, by omega, by go_num, by rw [hz.out], by first | (rw [hz.out]; done) | (rw [hz.out]; dsimp only; congr 1; split <;> omega), B5⟩
     case measure => simp [intOf]; omega
    ·skip
     have hz : Hid (midTo n (k + 1) = (M1, M2)) := by
      show _ = _
      rw [hms.out, hG.out, hM.out]
      dsimp only
      rw [show max N1 N2 = N2 by omega]
      exact if_neg hcp
     go_wp2
     go_roundw
     case rel => exact ⟨k + 1, by omega, by go_num, by rw [hz.out], by first | (rw [hz.out]; done) | (rw [hz.out]; dsimp only; congr 1; split <;> omega), B5⟩
     case measure => simp [intOf]; omega
   ·have hmx' : N2 < N1 := by omega
    by_cases hcp : N1 < M2
    ·skip
     have hz : Hid (midTo n (k + 1) = (k, N1)) := by
      show _ = _
      rw [hms.out, hG.out, hM.out]
      dsimp only
      rw [show max N1 N2 = N1 by omega]
      exact if_pos hcp
     go_wp2
     go_roundw
     case rel => exact ⟨k + 1, by omega, by go_num, by rw [hz.out], by first | (rw [hz.out]; done) | (rw [hz.out]; dsimp only; congr 1; split <;> omega), B5⟩
     case measure => simp [intOf]; omega
    ·skip
     have hz : Hid (midTo n (k + 1) = (M1, M2)) := by
      show _ = _
      rw [hms.out, hG.out, hM.out]
      dsimp only
      rw [show max N1 N2 = N1 by omega]
      exact if_neg hcp
     go_wp2
     go_roundw
     case rel => exact ⟨k + 1, by omega, by go_num, by rw [hz.out], by first | (rw [hz.out]; done) | (rw [hz.out]; dsimp only; congr 1; split <;> omega), B5⟩
     case measure => simp [intOf]; omega
  ·have hq : ¬ (k : Int) < (K : Int) := by omega
   obtain rfl : k = K := by omega
   have hr : Hid (((midTo n k).1 : Int) = (midOf n : Int)) := by show _ = _; rw [hmd.out]
   have BB := hide (HB.out.trans (hI.out.mono HB.out.size))
   go_wp2
   go_ret
   exact ⟨ret_i9 hr.out, BB.out⟩
end Go.Proofs.YtpiikmkajckccaaGreat

namespace Go.Proofs.YtpiikmkajckccaaGreat
open Go.RowKit
def seg (L : List Value) (o : Nat) (vs : List Value) : List Value := L.take o ++ vs ++ L.drop (o + vs.length)
theorem seg_len {L : List Value} {o : Nat} {vs : List Value} (h : o + vs.length ≤ L.length) : (seg L o vs).length = L.length := by
 unfold seg; simp; omega
theorem seg_at {L : List Value} {o : Nat} {vs : List Value} (h : o + vs.length ≤ L.length) {j : Nat} (hj : j < o ∨ o + vs.length ≤ j) : (seg L o vs)[j]? = L[j]? := by
 unfold seg
 rcases hj with hj | hj
 ·rw [List.append_assoc, List.getElem?_append_left (by simp; omega), List.getElem?_take, if_pos hj]
 ·rw [List.getElem?_append_right (by simp; omega), List.getElem?_drop]
  congr 1
  simp
  omega
theorem seg_take {L : List Value} {o k : Nat} {vs : List Value} (h : o + vs.length ≤ L.length) (hk : k ≤ o) : (seg L o vs).take k = L.take k := by
 unfold seg
 rw [List.append_assoc, List.take_append_of_le_length (by simp; omega), List.take_take]
 congr 1; omega
theorem seg_two {L A V C : List Value} (hA : L.take A.length = A) (hl : A.length + V.length + C.length ≤ L.length) : (seg (seg L (A.length + V.length) C) A.length V).take (A.length + V.length + C.length) = A ++ V ++ C := by
 have e1 : seg L (A.length + V.length) C = L.take (A.length + V.length) ++ C ++ L.drop (A.length + V.length + C.length) := rfl
 have h1 : (seg L (A.length + V.length) C).take A.length = A := by rw [seg_take hl (by omega), hA]
 have h2 : (seg L (A.length + V.length) C).drop (A.length + V.length) = C ++ L.drop (A.length + V.length + C.length) := by
  rw [e1, List.append_assoc, List.drop_left' (by simp; omega)]
 have e2 : seg (seg L (A.length + V.length) C) A.length V = (A ++ V ++ C) ++ L.drop (A.length + V.length + C.length) := by
  rw [seg, h1, h2]; simp
 rw [e2, List.take_left' (by simp; omega)]
theorem seg_two' {L A V C : List Value} (hA : L.take A.length = A) (hl : A.length + V.length + C.length ≤ L.length) : (seg (seg L A.length V) (A.length + V.length) C).take (A.length + V.length + C.length) = A ++ V ++ C := by
 have h0 : (seg L A.length V).length = L.length := seg_len (by omega)
 have h1 : (seg L A.length V).take (A.length + V.length) = A ++ V := by
  rw [seg, hA, List.take_left' (by simp)]
 have e2 : seg (seg L A.length V) (A.length + V.length) C = (A ++ V ++ C) ++ (seg L A.length V).drop (A.length + V.length + C.length) := by
  rw [seg, h1]
 rw [e2, List.take_left' (by simp; omega)]
theorem run_copyN {P : Program} (w : World) (dT sT ty elem : TypeId) (n g o dLen dCap : Nat) (a : Addr) (sLen sCap : Nat) (cur : Array Value) (t : TypeId) (cs : List Value) (m : Nat)
  (hu : P.underlying dT = some (.slice elem)) (hs : (P.info? elem).map (·.size) = some n) (hg : w.heap[g]? = some (.cells cur t (0, 0))) (hm : m = Nat.min sLen dLen) (hn : cs.length = m * n)
  (hsrc : ∀ j v, cs[j]? = some v → w.cell? (a.add j) = some v) (hfit : o + cs.length ≤ cur.size) (h1 : ∀ v ∈ cs, v.oneCell' = true) :
  (Builtin.copy_ #[dT, sT] ty #[.slice (some ⟨g, o, none⟩) dLen dCap, .slice (some a) sLen sCap]).run P w = .ok (goInt m) (w.setRow g (seg cur.toList o cs).toArray) := by
 have hf := run_firstCells_some (P := P) w n m a sLen sCap cs hn hsrc
 have hst := run_storeCells_at P g o t cs 0 cur w hg (by simpa using hfit) h1
 simp only [Nat.add_zero] at hst
 cases hq : P.info? elem with
 | none => simp [hq] at hs
 | some i =>
  have hi : i.size = n := by simpa [hq] using hs
  simp [Builtin.copy_, run_underlying hu, Builtin.lenOf, sizeOf, typeInfo, hq, hi, ← hm, hf, hst, seg]
theorem run_copyN_none {P : Program} (w : World) (dT sT ty elem : TypeId) (n : Nat) (g : Addr) (dLen dCap : Nat) (hu : P.underlying dT = some (.slice elem)) (hs : (P.info? elem).map (·.size) = some n) :
  (Builtin.copy_ #[dT, sT] ty #[.slice (some g) dLen dCap, .slice none 0 0]).run P w = .ok (goInt 0) w := run_copy_nil P w dT sT ty elem g dLen dCap hu (by rw [hs]; rfl)
theorem run_clearN {P : Program} (w : World) (t e ty : TypeId) (z : Value) (n g o m c : Nat) (cur : Array Value) (T : TypeId) (ht : P.underlying t = some (.slice e)) (hv : ∀ w, (zeroValue e).run P w = .ok z w) (hz : z.cells.size = n) (h1 : ∀ v ∈ z.cells, v.oneCell' = true)
  (hg : w.heap[g]? = some (.cells cur T (0, 0))) (hfit : o + m * n ≤ cur.size) (hm : 0 < m) :
  (Builtin.clear_ #[t] ty #[.slice (some ⟨g, o, none⟩) m c]).run P w = .ok (.tuple #[]) (w.setRow g (seg cur.toList o (Builtin.zeroCells z.cells m).toList).toArray) := by
 have hl : (Builtin.zeroCells z.cells m).toList.length = m * n := by simp [Builtin.zeroCells, hz]
 have h1' : ∀ v ∈ (Builtin.zeroCells z.cells m).toList, v.oneCell' = true := by
  intro v hv'
  simp only [Builtin.zeroCells, Array.toList_map, Array.toList_range, List.mem_map, List.mem_range] at hv'
  obtain ⟨j, hj, rfl⟩ := hv'
  by_cases hn0 : z.cells.size = 0
  ·rw [hn0, Nat.mul_zero] at hj; omega
  ·have hlt : j % z.cells.size < z.cells.size := Nat.mod_lt _ (by omega)
   rw [getElem!_pos z.cells _ hlt]
   exact h1 _ (Array.getElem_mem hlt)
 have hst := run_storeCells_at P g o T (Builtin.zeroCells z.cells m).toList 0 cur w hg (by rw [hl]; simpa using hfit) h1'
 simp only [Nat.add_zero] at hst
 obtain ⟨k, rfl⟩ : ∃ k, m = k + 1 := ⟨m - 1, by omega⟩
 simp [Builtin.clear_, run_underlying ht, hv, hst, seg]
theorem run_clear_none {P : Program} (w : World) (t e ty : TypeId) (a : Option Addr) (c : Nat) (ht : P.underlying t = some (.slice e)) : (Builtin.clear_ #[t] ty #[.slice a 0 c]).run P w = .ok (.tuple #[]) w := by
 cases a <;> simp [Builtin.clear_, run_underlying ht]
theorem run_growN {P : Program} (w : World) (t tn ty e : TypeId) (i0 : TypeInfo) (z : Value) (kn : IntKind) (n by8 : Nat) (ht : P.underlying t = some (.slice e)) (htn : P.underlying tn = some (.int kn)) (hi0 : P.info? e = some i0) (hz : i0.zero = some z) (hs : i0.size = n) (hby : i0.bytes = by8) (hzs : z.cells.size = n) (hn : 0 < n)
  (g cap i k : Nat) (cur : Array Value) (A : List Value) (hg : w.heap[g]? = some (.cells cur e (0, 0))) (hA : A.length = i * n) (hct : cur.toList.take (i * n) = A) (hk : 0 < k) (hroom : cap < i + k) (hbig : (i + k) * by8 ≤ 140737488355328) (h63 : i + k ≤ 1000000000) (hk8 : k * by8 ≤ 281474976710656) :
  ∃ G ROW, (Builtin.append_ #[t, tn] ty #[.slice (some ⟨g, 0, none⟩) i cap, .int .i64 (k : Int)]).run P w = .ok (.slice (some ⟨w.heap.size, 0, none⟩) (i + k) G) (w.drew.alloc (.cells ROW e)) ∧ ROW.size = G * n ∧ ROW.toList.take A.length = A ∧ i + k ≤ G ∧ G ≤ 9223372036854775807 := by
 have hold : (Builtin.firstCells i0.size i (.slice (some ⟨g, 0, none⟩) i cap)).run P w.drew = .ok A.toArray w.drew := by
  rw [hs]
  refine run_firstCells_some w.drew n i ⟨g, 0, none⟩ i cap A hA (fun j v hj => ?_)
  have hj' := hj
  rw [← hct, List.getElem?_take] at hj'
  split at hj'
  ·have : (⟨g, 0, none⟩ : Addr).add j = ⟨g, j, none⟩ := by rw [Addr.add_lit]; simp
   rw [this]
   show w.cell? _ = _
   simp only [World.cell?, hg]
   simpa using hj'
  ·cases hj'
 have h := Lib.run_append_grow_zeros w t tn ty e i0 z .i64 kn ht htn hi0 hz (some ⟨g, 0, none⟩) i cap A hold k hk (by omega) (by omega) (by omega) (by rw [hby]; exact hk8) (by rw [hby]; exact growslice_fits hroom hbig)
 have hge := grownCap_ge w (i + k) cap e
 have hle := grownCap_le_maxLen w (i + k) cap e (by unfold maxLen; omega)
 refine ⟨_, _, h, ?_, ?_, hge, by unfold maxLen at hle; exact hle⟩
 ·rw [Array.size_append, Array.size_append, size_zeroCells, size_zeroCells, hzs, List.size_toArray, hA, ← Nat.add_mul, ← Nat.add_mul]
  congr 1
  omega
 ·rw [Array.toList_append, Array.toList_append, List.append_assoc, List.take_left']
  rfl
theorem wp_run_copy {P : Program} (w : World) {o : Oper} {a : Act} {K : Act → World → Prop} {Q : Exit → Act → World → Prop} (d s : Operand) (t t' : TypeId)
  (ho : o.op = .call { callee := .builtin .copy, args := #[d, s], argTypes := #[t, t'] }) (v u : Value) (hd : a.eval d = v) (hs : a.eval s = u) (v' : Value) (w' : World)
  (hr : (Builtin.copy_ #[t, t'] o.type #[v, u]).run P w = .ok v' w') (h : K (a.put o.dst v') w') : o.wp P a w K Q := by
 unfold Oper.wp
 simp [execOp, ho, resolve, invoke, builtin, hd, hs, hr, Result.andThen]
 exact h
theorem wpList_run_copy {P : Program} (w : World) {ops : Array Oper} {rest : List Oper} {o : Oper} {a : Act} {Q : Exit → Act → World → Prop} (hgd : o.guard = none) (d s : Operand) (t t' : TypeId)
  (ho : o.op = .call { callee := .builtin .copy, args := #[d, s], argTypes := #[t, t'] }) (v u : Value) (hd : a.eval d = v) (hs : a.eval s = u) (v' : Value) (w' : World)
  (hr : (Builtin.copy_ #[t, t'] o.type #[v, u]).run P w = .ok v' w') (h : wpList P ops Q rest (a.put o.dst v') w') : wpList P ops Q (o :: rest) a w :=
 wpList_plain hgd fun _ hK => wp_run_copy w d s t t' ho v u hd hs v' w' hr (hK _ _ h)
theorem row_set {B T n k g cap : Nat} {w : World} {cur : Array Value} {L cc : List Value} (hg : w.heap[g]? = some (.cells cur T (0, 0))) (hB : B ≤ g) (hk : k ≤ cap) (hc : cap ≤ maxLen) (hs : L.length = cap * n) (hl : cc.length = k * n) (ht : L.take (k * n) = cc) :
  (w.setRow g L.toArray).ownsRow B T n (.slice (some ⟨g, 0, none⟩) k cap) k cc ∧ w.grownBy (w.setRow g L.toArray) (some g) :=
 ⟨⟨hl, .inr ⟨g, cap, _, rfl, hB, setRow_heap w g cur _ T _ hg, hk, hc, by simpa using hs, by simpa using ht⟩⟩, ⟨rfl, rfl, rfl, by simp, fun j _ hj => setRow_other w g j _ (fun e => hj (by simp [e]))⟩⟩
theorem own_block {B T n k : Nat} {w : World} {v : Value} {cc : List Value} (h : w.ownsRow B T n v k cc) (hk : 0 < k) : ∃ g cap cur, v = .slice (some ⟨g, 0, none⟩) k cap ∧ B ≤ g ∧ w.heap[g]? = some (.cells cur T (0, 0)) ∧ k ≤ cap ∧ cap ≤ maxLen ∧ cur.size = cap * n ∧ cur.toList.take (k * n) = cc := by
 rcases h.2 with ⟨_, e⟩ | h
 ·omega
 ·exact h
end Go.Proofs.YtpiikmkajckccaaGreat

namespace Go.Proofs.YtpiikmkajckccaaGreat
open Go.RowKit
def bcl (bs : List Br) : List Value := bs.flatMap fun b => [st b.1, .int .i64 b.2]
theorem bcl_app (a b : List Br) : bcl (a ++ b) = bcl a ++ bcl b := by unfold bcl; rw [List.flatMap_append]
theorem bcl_len (l : List Br) : (bcl l).length = l.length * 2 := by
 induction l with
 | nil => rfl
 | cons y r ih => show ([_, _] ++ bcl r).length = _; rw [List.length_append, ih]; simp; omega
theorem bcl_at : ∀ (l : List Br) (i : Nat) (y : Br), l[i]? = some y → (bcl l)[i * 2]? = some (st y.1) ∧ (bcl l)[i * 2 + 1]? = some (.int .i64 y.2)
 | [], i, y, h => by simp at h
 | x :: r, 0, y, h => by
  have : x = y := by simpa using h
  subst this
  exact ⟨rfl, rfl⟩
 | x :: r, i + 1, y, h => by
  have := bcl_at r i y (by simpa using h)
  rw [show (i + 1) * 2 = i * 2 + 2 from by omega, show i * 2 + 2 + 1 = i * 2 + 1 + 2 from by omega]
  exact this
theorem bcl_one (l : List Br) : ∀ v ∈ bcl l, v.oneCell' = true := by
 intro v hv
 obtain ⟨y, _, hv⟩ := List.mem_flatMap.1 hv
 simp at hv
 rcases hv with rfl | rfl <;> rfl
theorem bcl_take (l : List Br) (k : Nat) : (bcl l).take (k * 2) = bcl (l.take k) := by
 rcases Nat.lt_or_ge k l.length with h | h
 ·have e : l = l.take k ++ l.drop k := (List.take_append_drop k l).symm
  have : bcl l = bcl (l.take k) ++ bcl (l.drop k) := by rw [← bcl_app, ← e]
  rw [this, List.take_left' (by rw [bcl_len, List.length_take]; congr 1; omega)]
 ·rw [List.take_of_length_le (by rw [bcl_len]; omega), List.take_of_length_le h]
abbrev OwnBr (B : Nat) (w : World) (v : Value) (bs : List Br) : Prop := w.ownsRow B 162 2 v bs.length (bcl bs)
theorem infoBr : (Tryz.prog.info? 162).map (fun i => (i.zero, i.size, i.bytes)) = some (some (.agg #[.string ⟨#[]⟩, .int .i64 0]), 2, 24) := by kernel_rfl
theorem OwnBr.slice {B : Nat} {w : World} {v : Value} {bs : List Br} (h : OwnBr B w v bs) : ∃ a c, v = .slice a bs.length c := by
 rcases h.2 with ⟨rfl, e⟩ | ⟨g, cap, cur, rfl, _⟩
 ·exact ⟨none, 0, by rw [e]⟩
 ·exact ⟨_, _, rfl⟩
theorem OwnBr.at {B : Nat} {w : World} {v : Value} {bs : List Br} (h : OwnBr B w v bs) {i : Nat} {y : Br} (hy : bs[i]? = some y) : ∃ g cap, v = .slice (some ⟨g, 0, none⟩) bs.length cap ∧ B ≤ g ∧ w.cell? ⟨g, i * 2, none⟩ = some (st y.1) ∧ w.cell? ⟨g, i * 2 + 1, none⟩ = some (.int .i64 y.2) ∧ ∀ j, w.frozen? ⟨g, j, none⟩ = false := by
 have hi := (List.getElem?_eq_some_iff.1 hy).1
 obtain ⟨g, cap, cur, e, hB, hg, hk, hm, hs, ht⟩ := own_block h (by omega)
 obtain ⟨c1, c2⟩ := bcl_at bs i y hy
 have hcell : ∀ j, j < bs.length * 2 → w.cell? ⟨g, j, none⟩ = (bcl bs)[j]? := fun j hj => by
  rw [← ht, List.getElem?_take, if_pos hj]
  simp [World.cell?, hg]
 exact ⟨g, cap, e, hB, by rw [hcell _ (by omega), c1], by rw [hcell _ (by omega), c2], frozN hg⟩
theorem wpList_appBr {ops : Array Oper} {rest : List Oper} {o : Oper} {a : Act} {w : World} {Q : Exit → Act → World → Prop} (hgd : o.guard = none) (s x : Operand)
  (ho : o.op = .call { callee := .builtin .append, args := #[s, x], argTypes := #[159, 159] }) (B : Nat) (v : Value) (bs : List Br) (y : Br) (g : Nat) (hs : a.eval s = v) (hx : a.eval x = .slice (some ⟨g, 0, none⟩) 1 1)
  (hown : OwnBr B w v bs) (hc1 : w.cell? ⟨g, 0, none⟩ = some (st y.1)) (hc2 : w.cell? ⟨g, 1, none⟩ = some (.int .i64 y.2)) (hlen : (bs.length + 1) * 24 ≤ 140737488355328) (hB : B ≤ w.heap.size)
  (h : ∀ v' w', OwnBr B w' v' (bs ++ [y]) → Below B w w' → wpList Tryz.prog ops Q rest (a.put o.dst v') w') : wpList Tryz.prog ops Q (o :: rest) a w := by
 obtain ⟨i0, hi, hz0, hz1, hz2⟩ := info_parts infoBr
 have n2 : ∀ j u, (bcl [y])[j]? = some u → w.cell? ((⟨g, 0, none⟩ : Addr).add j) = some u := by
  intro j u hj
  match j, hj with
  | 0, hj => simp [bcl] at hj; subst hj; simpa [Addr.add] using hc1
  | 1, hj => simp [bcl] at hj; subst hj; simpa [Addr.add] using hc2
  | j + 2, hj => simp [bcl] at hj
 refine wpList_append_own _ hgd s x 159 ho B 162 i0 (.agg #[.string ⟨#[]⟩, .int .i64 0]) 2 24 Tryz.underlying159 hi hz0 hz1 hz2 rfl (by decide) v bs.length (bcl bs) hs hown ⟨g, 0, none⟩ 1 1 (bcl [y]) hx rfl n2
  (bcl_one _) (by rw [show maxLen = 9223372036854775807 from rfl]; omega) hlen hB ?_
 intro v' w' q1 q2 _
 refine h v' w' ?_ ((Below.refl _ _).grown q2 hB (fun k hk => (World.ownsRow.lt hown k hk).1))
 show World.ownsRow _ _ _ _ _ _ _
 rw [bcl_app, List.length_append]
 exact q1
theorem own_litBr {w : World} (y : Br) : OwnBr w.heap.size (w.alloc (.cells #[st y.1, .int .i64 y.2] 162)) (.slice (some ⟨w.heap.size, 0, none⟩) 1 1) [y] :=
 ⟨rfl, .inr ⟨w.heap.size, 1, _, rfl, Nat.le_refl _, heap_alloc_last w _, Nat.le_refl _, by decide, rfl, rfl⟩⟩
set_option maxRecDepth 100000 in
set_option maxHeartbeats 4000000 in
theorem pbrs_any (w : World) (n : Nd) (kv vv dv : Value) (h : RdN w kv vv dv n) (hk : n.kids.length = n.keys.length + 1) (hl : n.keys.length ≤ 1000) :
  Calls Tryz.prog 87 #[nv n kv vv dv] w fun e w' => ∃ v', e = .returned v' ∧ OwnBr w.heap.size w' v' (brs n) ∧ Below w.heap.size w w' := by
 obtain ⟨ka, kc, va, vc, da, dc, rfl, rfl, rfl⟩ := h.slices
 obtain ⟨W, hW, DW, bW, sW⟩ := boxedN w #[.bool n.leaf, .slice ka n.keys.length kc, .slice va n.vals.length vc, .slice da n.kids.length dc] 98
 obtain ⟨d0, hd0⟩ : ∃ d, n.kids[0]? = some d := ⟨_, List.getElem?_eq_getElem (by omega)⟩
 obtain ⟨db, doff, rfl, hdc⟩ := (h.to bW).kids.intAt hd0
 rw [Nat.add_zero] at hdc
 obtain ⟨⟨E0, E1, E2, E3⟩, EF⟩ := cells4 DW
 have hbl : (brs n).length = n.keys.length + 1 := by rw [brs_len hk]; exact hk
 have hb0 : (brs n).take 1 = [([], d0)] := by
  unfold brs
  have : n.kids.headD 0 = d0 := by
   cases hn : n.kids with
   | nil => rw [hn] at hd0; simp at hd0
   | cons a r => rw [hn] at hd0; simpa using hd0
  rw [this]; rfl
 have hbk : ∀ (k : Nat) x d, n.keys[k]? = some x → n.kids[k + 1]? = some d → (brs n)[k + 1]? = some (x, d) := fun k x d h1 h2 => by
  unfold brs
  rw [List.getElem?_cons_succ, List.getElem?_zip_eq_some]
  exact ⟨h1, by rw [List.getElem?_tail]; exact h2⟩
 obtain ⟨X, hX⟩ : ∃ X, X = W.alloc (.cells #[st [], .int .i64 d0] 162) := ⟨_, rfl⟩
 have bX : Below W.heap.size W X := by rw [hX]; exact (Below.refl _ _).alloc (Nat.le_refl _) _
 have oX : OwnBr W.heap.size X (.slice (some ⟨W.heap.size, 0, none⟩) 1 1) ((brs n).take 1) := by rw [hb0, hX]; exact own_litBr ([], d0)
 have HI : Hid (OwnBr W.heap.size X (.slice (some ⟨w.heap.size + 1, 0, none⟩) 1 1) ((brs n).take (0 + 1)) ∧ Below W.heap.size W X) := by rw [← sW]; exact ⟨oX, bX⟩
 have HH := hide (h.to bW)
 have HD := hide DW
 have HB := hide bW
 have hkk : Hid (n.kids.length = n.keys.length + 1) := hk
 have hK0 : ¬ n.kids.length = 0 := by omega
 have X1 := (bX.cell (cell_lt E1)).trans E1
 have XF : X.frozen? ⟨w.heap.size, 0, none⟩ = false := frozN ((bX.block _ (lt_of_block DW)).trans DW) 0
 replace hbl := hide hbl
 replace hbk := hide hbk
 replace hb0 := hide hb0
 have hsW := hide sW
 rw [hW] at E0 E1 E2 E3 EF hdc
 rw [hX, hW] at X1 XF
 clear h DW bW hk oX bX
 dsimp only [nv]
 go_enter Tryz.func87, Tryz.ntmps87
 generalize hK : n.keys.length = K at *
 generalize hKd : n.kids.length = KD at *
 replace hKd := hide hKd
 go_wp2_with fail
 rw [← hW, ← hX]
 replace hW := hide hW
 replace hX := hide hX
 replace hK := hide hK
 clear E0 E1 E2 E3 EF X1 XF hdc
 go_loopw [3, 15] (fun o p wr => ∃ k : Nat, k ≤ K ∧ p = .int .i64 k ∧ Hid (OwnBr W.heap.size wr o ((brs n).take (k + 1)) ∧ Below W.heap.size W wr)) (fun _ p _ => K - (intOf p).toNat)
 case atStart => exact ⟨0, Nat.zero_le _, rfl, HI⟩
 case round =>
  obtain ⟨k, hk, rfl, hI⟩ := hrel
  clear HI
  by_cases hlt : k < K
  ·have hq : (k : Int) < (K : Int) := by omega
   obtain ⟨x, hx⟩ : ∃ x, n.keys[k]? = some x := ⟨_, List.getElem?_eq_getElem (by rw [hK.out]; exact hlt)⟩
   obtain ⟨d, hd⟩ : ∃ d, n.kids[k + 1]? = some d := ⟨_, List.getElem?_eq_getElem (by rw [hKd.out]; have := hkk.out; omega)⟩
   obtain ⟨kb, koff, rfl, hc1⟩ := (HH.out.to hI.out.2).keys.strAt hx
   obtain ⟨db', doff', e9, hc2⟩ := (HH.out.to hI.out.2).kids.intAt hd
   simp only [Option.some.injEq, Addr.mk.injEq, and_true] at e9
   obtain ⟨rfl, rfl⟩ := e9
   have D6 := (hI.out.2.block _ (lt_of_block HD.out)).trans HD.out
   obtain ⟨⟨E0, E1, E2, E3⟩, EF⟩ := cells4 D6
   have hsn : Hid ((brs n).take (k + 1 + 1) = (brs n).take (k + 1) ++ [(x, d)]) := by show _ = _; rw [List.take_add_one, hbk.out k x d hx hd]; rfl
   obtain ⟨oa, oc, ho⟩ := hI.out.1.slice
   have htl : ((brs n).take (k + 1)).length = k + 1 := by rw [List.length_take, hbl.out]; have := hK.out; omega
   rw [htl] at ho
   subst ho
   obtain ⟨V, hV, DV, bV, sV⟩ := boxedN wr #[st x, .int .i64 d] 162
   have V0 := cellN DV (i := 0) rfl
   have V1 := cellN DV (i := 1) rfl
   have OV : OwnBr W.heap.size V (.slice oa (k + 1) oc) ((brs n).take (k + 1)) := rows_to hI.out.1 bV
   have hBV : W.heap.size ≤ V.heap.size := Nat.le_trans hI.out.2.size bV.size
   have BV := hide (hI.out.2.trans (bV.mono hI.out.2.size))
   have hn8 : (((brs n).take (k + 1)).length + 1) * 24 ≤ 140737488355328 := by rw [htl]; omega
   replace htl := hide htl
   replace hx := hide hx
   replace hd := hide hd
   have hkd : (k : Int) + 1 < (KD : Int) := by have := hkk.out; omega
   have hw1 : IntKind.i64.wrap ((k : Int) + 1) = (k : Int) + 1 := IntWalk.i64_in _ (by omega)
   have htn : ((k : Int) + 1).toNat = k + 1 := by omega
   rw [hV] at V0 V1 OV hBV
   clear D6 DV bV sV hI
   go_wp2_with (at_builtin; refine wpList_appBr rfl _ _ rfl W.heap.size _ _ (x, d) wr.heap.size rfl rfl OV V0 V1 hn8 hBV ?_; intro v5 w5 o5 b5)
   rw [← hsn.out] at o5
   rw [← hV] at b5
   have I5 := hide (And.intro o5 (BV.out.trans b5))
   clear o5 b5 OV V0 V1 hBV hn8 hc1 hc2 E0 E1 E2 E3 EF
   go_wp2
   go_roundw
   case rel => exact ⟨k + 1, by omega, by go_num, I5⟩
   case measure => simp [intOf]; omega
  ·have hq : ¬ (k : Int) < (K : Int) := by omega
   have htk : (brs n).take (k + 1) = brs n := List.take_of_length_le (by rw [hbl.out]; have := hK.out; omega)
   rw [htk] at hI
   have hBB : Hid (w.heap.size ≤ W.heap.size) := HB.out.size
   go_wp2
   go_ret
   exact ⟨_, rfl, rows_mono hI.out.1 hBB.out, HB.out.trans (hI.out.2.mono hBB.out)⟩
structure ISt (X : World) (nb : Nat) (w : World) (kv dv : Value) (n : Nd) : Prop where
 bel : Below nb X w
 box : w.heap[nb]? = some (.cells #[.bool false, kv, .slice none 0 0, dv] 98 (0, 0))
 keys : OwnT (nb + 1) w kv n.keys
 kids : OwnJ (nb + 1) w dv n.kids
 hs : nb + 1 ≤ w.heap.size
theorem ISt.to {X : World} {nb : Nat} {w w' : World} {kv dv : Value} {n : Nd} (h : ISt X nb w kv dv n) (b : Below w.heap.size w w') : ISt X nb w' kv dv n :=
 ⟨h.bel.trans (b.mono (by have := h.hs; omega)), (b.block _ (lt_of_block h.box)).trans h.box, rows_to h.keys b, rows_to h.kids b, Nat.le_trans h.hs b.size⟩
theorem ISt.key {X : World} {nb : Nat} {w w' : World} {kv dv v' : Value} {n : Nd} {x : Str} (h : ISt X nb w kv dv n) (o : OwnT (nb + 1) w' v' (n.keys ++ [x])) (g : w.grownBy w' kv.ownBlock) :
  ISt X nb (w'.setCell ⟨nb, 1, none⟩ v') v' dv ⟨n.leaf, n.keys ++ [x], n.vals, n.kids⟩ := by
 have kt := fun e (he : e ≠ 9) => KeepT.grown h.keys g he
 have bx := kt _ (by decide) _ _ _ h.box
 have b1 : Below nb X w' := h.bel.grown g (by have := h.hs; have := h.bel.size; omega) (fun k hk => by have := (World.ownsRow.lt h.keys k hk).1; omega)
 refine ⟨b1.setCell (p := ⟨nb, 1, none⟩) (Nat.le_refl _) _, ?_, rows_keepT o (KeepT.set (a := ⟨nb, 1, none⟩) bx (by decide) _), rows_keepT (rows_keepT h.kids (kt _ (by decide))) (KeepT.set (a := ⟨nb, 1, none⟩) bx (by decide) _), ?_⟩
 ·have := heap_setN bx 1 v'
  simpa using this
 ·have := g.size; have := h.hs
  simp; omega
theorem ISt.kid {X : World} {nb : Nat} {w w' : World} {kv dv v' : Value} {n : Nd} {x : Int} (h : ISt X nb w kv dv n) (o : OwnJ (nb + 1) w' v' (n.kids ++ [x])) (g : w.grownBy w' dv.ownBlock) :
  ISt X nb (w'.setCell ⟨nb, 3, none⟩ v') kv v' ⟨n.leaf, n.keys, n.vals, n.kids ++ [x]⟩ := by
 have kt := fun e (he : e ≠ 3) => KeepT.grown h.kids g he
 have bx := kt _ (by decide) _ _ _ h.box
 have b1 : Below nb X w' := h.bel.grown g (by have := h.hs; have := h.bel.size; omega) (fun k hk => by have := (World.ownsRow.lt h.kids k hk).1; omega)
 refine ⟨b1.setCell (p := ⟨nb, 3, none⟩) (Nat.le_refl _) _, ?_, rows_keepT (rows_keepT h.keys (kt _ (by decide))) (KeepT.set (a := ⟨nb, 3, none⟩) bx (by decide) _), rows_keepT o (KeepT.set (a := ⟨nb, 3, none⟩) bx (by decide) _), ?_⟩
 ·have := heap_setN bx 3 v'
  simpa using this
 ·have := g.size; have := h.hs
  simp; omega
def inrTo (bs : List Br) (k : Nat) : Nd := ⟨false, (bs.take k).tail.map (·.1), [], (bs.take k).map (·.2)⟩
theorem inrTo_zero (bs : List Br) : inrTo bs 0 = ⟨false, [], [], []⟩ := by simp [inrTo]
theorem inrTo_first {bs : List Br} {y : Br} (h : bs[0]? = some y) : inrTo bs (0 + 1) = ⟨false, [], [], [y.2]⟩ := by
 cases bs with
 | nil => simp at h
 | cons a r => simp at h; subst h; simp [inrTo]
theorem inrTo_next {bs : List Br} {k : Nat} {y : Br} (h : bs[k]? = some y) (hk : 0 < k) : inrTo bs (k + 1) = ⟨false, (inrTo bs k).keys ++ [y.1], [], (inrTo bs k).kids ++ [y.2]⟩ := by
 unfold inrTo
 rw [List.take_add_one, h]
 have : (bs.take k) ≠ [] := fun e => by
  have := congrArg List.length e
  have hl := (List.getElem?_eq_some_iff.1 h).1
  simp at this
  rcases this with h9 | h9
  ·omega
  ·subst h9; simp at hl
 cases ht : bs.take k with
 | nil => exact absurd ht this
 | cons a r => simp
theorem inrTo_all (bs : List Br) : inrTo bs bs.length = inr bs := by unfold inrTo inr; rw [List.take_of_length_le (Nat.le_refl _)]
theorem inrTo_len (bs : List Br) (k : Nat) : (inrTo bs k).keys.length ≤ bs.length ∧ (inrTo bs k).kids.length ≤ bs.length := by unfold inrTo; simp; omega
theorem wpList_appI {ops : Array Oper} {rest : List Oper} {o : Oper} {a : Act} {w : World} {Q : Exit → Act → World → Prop} (hgd : o.guard = none) (s x : Operand)
  (ho : o.op = .call { callee := .builtin .append, args := #[s, x], argTypes := #[25, 25] }) (B : Nat) (v : Value) (xs : List Int) (y : Int) (g : Nat) (hs : a.eval s = v) (hx : a.eval x = .slice (some ⟨g, 0, none⟩) 1 1)
  (hown : OwnJ B w v xs) (hc : w.cell? ⟨g, 0, none⟩ = some (.int .i64 y)) (hlen : (xs.length + 1) * 8 ≤ 140737488355328) (hB : B ≤ w.heap.size)
  (h : ∀ g' cap w', OwnJ B w' (.slice (some ⟨g', 0, none⟩) (xs.length + 1) cap) (xs ++ [y]) → w.grownBy w' v.ownBlock → wpList Tryz.prog ops Q rest (a.put o.dst (.slice (some ⟨g', 0, none⟩) (xs.length + 1) cap)) w') : wpList Tryz.prog ops Q (o :: rest) a w := by
 obtain ⟨i0, hi, hz0, hz1, hz2⟩ := info_parts infoJ
 have n2 : ∀ j u, ([y].map (Value.int .i64))[j]? = some u → w.cell? ((⟨g, 0, none⟩ : Addr).add j) = some u := by
  intro j u hj
  match j, hj with
  | 0, hj => simp at hj; subst hj; simpa [Addr.add] using hc
  | j + 1, hj => simp at hj
 refine wpList_append_lies _ hgd s x 25 ho B 3 i0 (.int .i64 0) 1 8 Tryz.underlying25 hi hz0 hz1 hz2 rfl (by decide) v xs.length (xs.map (Value.int .i64)) hs hown ⟨g, 0, none⟩ 1 1 ([y].map (Value.int .i64)) hx rfl n2
  (fun u hu => by simp at hu; subst hu; rfl) (by decide) (by rw [show maxLen = 9223372036854775807 from rfl]; omega) hlen hB _ rfl ?_
 intro g' cap w' h1 h2 h3 _
 refine h g' cap w' ?_ h2
 show World.ownsRow _ _ _ _ _ _ _
 rw [List.map_append]
 simpa using h1
set_option maxRecDepth 100000 in
set_option maxHeartbeats 4000000 in
theorem pinr_any (B : Nat) (w : World) (v : Value) (bs : List Br) (h : OwnBr B w v bs) (hl : bs.length ≤ 1000) :
  Calls Tryz.prog 85 #[v] w fun e w' => ∃ kv dv, e = .returned (nv (inr bs) kv (.slice none 0 0) dv) ∧ OwnN w.heap.size w' kv (.slice none 0 0) dv (inr bs) ∧ Below w.heap.size w w' := by
 obtain ⟨a, c, rfl⟩ := h.slice
 obtain ⟨W, hW, DW, bW, sW⟩ := boxedN w #[.bool false, .slice none 0 0, .slice none 0 0, .slice none 0 0] 98
 obtain ⟨X, hX, DX, bX, sX⟩ := boxedN W #[.bool false, .slice none 0 0, .slice none 0 0, .slice none 0 0] 98
 have bWX := bW.trans (bX.mono bW.size)
 rw [sW] at DX
 have I0 : Hid (ISt X (w.heap.size + 1) X (.slice none 0 0) (.slice none 0 0) (inrTo bs 0)) := by
  show ISt _ _ _ _ _ _
  rw [inrTo_zero]
  exact ⟨Below.refl _ _, DX, World.ownsRow_nil _ _ _ _, World.ownsRow_nil _ _ _ _, by rw [sX, sW]; omega⟩
 have HO : Hid (OwnBr B X (.slice a bs.length c) bs) := rows_to h bWX
 have HR : Hid (X.heap[w.heap.size]? = some (.cells #[.bool false, .slice none 0 0, .slice none 0 0, .slice none 0 0] 98 (0, 0))) := (bX.block _ (lt_of_block DW)).trans DW
 have HB := hide bWX
 have HP : Hid (OwnBr B w (.slice a bs.length c) bs) := h
 generalize hK : bs.length = K at *
 replace hK := hide hK
 clear h DW DX bW bX bWX
 go_enter Tryz.func85, Tryz.ntmps85
 go_wp2_with fail
 rw [← hW, ← hX]
 replace hW := hide hW
 replace hX := hide hX
 go_loopw [8] (fun p wr => ∃ k : Nat, k ≤ K ∧ p = .int .i64 k ∧ Hid (∃ kv dv, ISt X (w.heap.size + 1) wr kv dv (inrTo bs k))) (fun p _ => K - (intOf p).toNat)
 case atStart => exact ⟨0, Nat.zero_le _, rfl, hide ⟨_, _, I0.out⟩⟩
 case round =>
  obtain ⟨k, hk, rfl, hI⟩ := hrel
  clear I0
  obtain ⟨kv, dv, I1⟩ := hI.out
  by_cases hlt : k < K
  ·have hq : (k : Int) < (K : Int) := by omega
   obtain ⟨⟨x, d⟩, hy⟩ : ∃ y, bs[k]? = some y := ⟨_, List.getElem?_eq_getElem (by rw [hK.out]; exact hlt)⟩
   obtain ⟨g, cap, e9, hBg, c1, c2, cf⟩ := HP.out.at hy
   simp only [Value.slice.injEq] at e9
   obtain ⟨rfl, h9, rfl⟩ := e9
   clear h9
   have bw1 : Below w.heap.size w wr := HB.out.trans (I1.bel.mono (by omega))
   replace c1 := (bw1.cell (cell_lt c1)).trans c1
   replace c2 := (bw1.cell (cell_lt c2)).trans c2
   obtain ⟨V, hV, DV, bV, sV⟩ := boxedN wr #[st x, .int .i64 d] 162
   have IV := I1.to bV
   have DV' := hide DV
   clear hI bw1 bV
   by_cases h0 : k = 0
   ·subst h0
    have hn9 : Hid (((inrTo bs 0).kids.length + 1) * 8 ≤ 140737488355328) := by show _ ≤ _; have := (inrTo_len bs 0).2; have := hK.out; omega
    have hres : Hid (inrTo bs (0 + 1) = ⟨(inrTo bs 0).leaf, (inrTo bs 0).keys, (inrTo bs 0).vals, (inrTo bs 0).kids ++ [d]⟩) := by show _ = _; rw [inrTo_first hy, inrTo_zero]; rfl
    go_upto_region 7 with fail
    rw [← hV]
    obtain ⟨Y, hY⟩ : ∃ Y, Y = V := ⟨_, rfl⟩
    have IY : ISt X (w.heap.size + 1) Y kv dv (inrTo bs 0) := by rw [hY]; exact IV
    have Y1 : Y.cell? ⟨wr.heap.size, 1, none⟩ = some (.int .i64 d) := by rw [hY]; exact cellN DV rfl
    rw [← hY]
    replace hV := hide hV
    clear IV DV DV' I1 c1 c2 hY
    -- the kid is appended
    obtain ⟨⟨E0, E1, E2, E3⟩, EF⟩ := cells4 IY.box
    obtain ⟨T, hT, DT, bT, sT⟩ := boxedN Y #[.int .i64 d] 3
    have IT := IY.to bT
    have T0 := cellN DT (i := 0) rfl
    have OT := IT.kids
    have hBT : w.heap.size + 1 + 1 ≤ T.heap.size := IT.hs
    obtain ⟨da, dc, hdv⟩ := IT.kids.rd.slice
    subst hdv
    have FIN : Hid (∀ g5 cap5 w5, OwnJ (w.heap.size + 1 + 1) w5 (.slice (some ⟨g5, 0, none⟩) ((inrTo bs 0).kids.length + 1) cap5) ((inrTo bs 0).kids ++ [d]) → T.grownBy w5 (Value.slice da (inrTo bs 0).kids.length dc).ownBlock →
      w5.cell? ⟨w.heap.size + 1, 3, none⟩ = some (.slice da (inrTo bs 0).kids.length dc) ∧ w5.frozen? ⟨w.heap.size + 1, 3, none⟩ = false ∧ Hid (∃ kv dv, ISt X (w.heap.size + 1) (w5.setCell ⟨w.heap.size + 1, 3, none⟩ (.slice (some ⟨g5, 0, none⟩) ((inrTo bs 0).kids.length + 1) cap5)) kv dv (inrTo bs (0 + 1)))) := fun g5 cap5 w5 o5 r5 => by
     have bx5 := KeepT.grown IT.kids r5 (show 98 ≠ 3 by decide) _ _ _ IT.box
     obtain ⟨⟨F0, F1, F2, F3⟩, FF⟩ := cells4 bx5
     have I5 := IT.kid o5 r5
     exact ⟨F3, FF 3, hide ⟨_, _, Eq.mp (congrArg (ISt X (w.heap.size + 1) _ _ _) hres.out.symm) I5⟩⟩
    rw [hT] at T0 OT hBT FIN
    clear IT DT bT IY
    go_wp2_with (at_builtin; refine wpList_appI rfl _ _ rfl (w.heap.size + 1 + 1) _ _ d Y.heap.size rfl rfl OT T0 hn9.out hBT ?_; intro g5 cap5 w5 o5 r5; obtain ⟨F1, F2, F3⟩ := FIN.out g5 cap5 w5 o5 r5; clear o5 r5)
    go_roundw
    case rel => exact ⟨0 + 1, by omega, by go_num, F3⟩
    case measure => simp [intOf]; omega
   ·have hp : (k : Int) > 0 := by omega
    have hn9 : Hid (((inrTo bs k).kids.length + 1) * 8 ≤ 140737488355328) := by show _ ≤ _; have := (inrTo_len bs k).2; have := hK.out; omega
    have hres : Hid (inrTo bs (k + 1) = ⟨(inrTo bs k).leaf, (inrTo bs k).keys ++ [x], (inrTo bs k).vals, (inrTo bs k).kids ++ [d]⟩) := by show _ = _; rw [inrTo_next hy (by omega)]; rfl
    obtain ⟨⟨E0, E1, E2, E3⟩, EF⟩ := cells4 IV.box
    have V0 := cellN DV (i := 0) rfl
    obtain ⟨T, hT, DT, bT, sT⟩ := boxedN V #[st x] 9
    have IT := IV.to bT
    have T0 := cellN DT (i := 0) rfl
    have DT' := (bT.block _ (lt_of_block DV)).trans DV
    have OT := IT.keys
    have hBT : w.heap.size + 1 + 1 ≤ T.heap.size := IT.hs
    have hn8 : ((inrTo bs k).keys.length + 1) * 16 ≤ 140737488355328 := by have := (inrTo_len bs k).1; have := hK.out; omega
    obtain ⟨ka, kc, hkv⟩ := IT.keys.rd.slice
    subst hkv
    have FIN : Hid (∀ g5 cap5 w5, OwnT (w.heap.size + 1 + 1) w5 (.slice (some ⟨g5, 0, none⟩) ((inrTo bs k).keys.length + 1) cap5) ((inrTo bs k).keys ++ [x]) → T.grownBy w5 (Value.slice ka (inrTo bs k).keys.length kc).ownBlock →
      w5.cell? ⟨w.heap.size + 1, 1, none⟩ = some (.slice ka (inrTo bs k).keys.length kc) ∧ w5.frozen? ⟨w.heap.size + 1, 1, none⟩ = false ∧ Hid (∃ kv, ISt X (w.heap.size + 1) (w5.setCell ⟨w.heap.size + 1, 1, none⟩ (.slice (some ⟨g5, 0, none⟩) ((inrTo bs k).keys.length + 1) cap5)) kv dv ⟨(inrTo bs k).leaf, (inrTo bs k).keys ++ [x], (inrTo bs k).vals, (inrTo bs k).kids⟩ ∧
       (w5.setCell ⟨w.heap.size + 1, 1, none⟩ (.slice (some ⟨g5, 0, none⟩) ((inrTo bs k).keys.length + 1) cap5)).cell? ⟨wr.heap.size, 1, none⟩ = some (.int .i64 d))) := fun g5 cap5 w5 o5 r5 => by
     have bx5 := KeepT.grown IT.keys r5 (show 98 ≠ 9 by decide) _ _ _ IT.box
     have br5 := KeepT.grown IT.keys r5 (show 162 ≠ 9 by decide) _ _ _ DT'
     obtain ⟨⟨F0, F1, F2, F3⟩, FF⟩ := cells4 bx5
     have I5 := IT.key o5 r5
     refine ⟨F1, FF 1, _, I5, cellN ((Below.heap_setCell _ _ _ _ (show wr.heap.size ≠ w.heap.size + 1 from ?_)).trans br5) rfl⟩
     have := I1.hs
     omega
    rw [sV] at T0
    rw [hV] at E0 E1 E2 E3 EF V0
    rw [hT, hV] at T0 OT hBT FIN
    replace h0 := hide h0
    clear IT DT bT IV DV DV' DT'
    go_upto_region 7 with (at_builtin; refine wpList_appS rfl _ _ rfl (w.heap.size + 1 + 1) _ _ x (wr.heap.size + 1) rfl rfl OT T0 hn8 hBT ?_; intro g5 cap5 w5 o5 r5 l5; obtain ⟨F1, F2, F3⟩ := FIN.out g5 cap5 w5 o5 r5; clear o5 r5 l5)
    obtain ⟨kv5, IY, Y1⟩ := F3.out
    obtain ⟨Y, hY⟩ : ∃ Y, Y = w5.setCell ⟨w.heap.size + 1, 1, none⟩ (.slice (some ⟨g5, 0, none⟩) ((inrTo bs k).keys.length + 1) cap5) := ⟨_, rfl⟩
    rw [← hY] at IY Y1 ⊢
    replace hV := hide hV
    clear E0 E1 E2 E3 EF V0 T0 OT hBT FIN I1 c1 c2 hY F1 F2 F3 hT hn8
    -- the kid is appended
    obtain ⟨⟨E0, E1, E2, E3⟩, EF⟩ := cells4 IY.box
    obtain ⟨T, hT, DT, bT, sT⟩ := boxedN Y #[.int .i64 d] 3
    have IT := IY.to bT
    have T0 := cellN DT (i := 0) rfl
    have OT := IT.kids
    have hBT : w.heap.size + 1 + 1 ≤ T.heap.size := IT.hs
    obtain ⟨da, dc, hdv⟩ := IT.kids.rd.slice
    subst hdv
    have FIN : Hid (∀ g5 cap5 w5, OwnJ (w.heap.size + 1 + 1) w5 (.slice (some ⟨g5, 0, none⟩) ((⟨(inrTo bs k).leaf, (inrTo bs k).keys ++ [x], (inrTo bs k).vals, (inrTo bs k).kids⟩ : Nd).kids.length + 1) cap5) ((⟨(inrTo bs k).leaf, (inrTo bs k).keys ++ [x], (inrTo bs k).vals, (inrTo bs k).kids⟩ : Nd).kids ++ [d]) → T.grownBy w5 (Value.slice da (⟨(inrTo bs k).leaf, (inrTo bs k).keys ++ [x], (inrTo bs k).vals, (inrTo bs k).kids⟩ : Nd).kids.length dc).ownBlock →
      w5.cell? ⟨w.heap.size + 1, 3, none⟩ = some (.slice da (⟨(inrTo bs k).leaf, (inrTo bs k).keys ++ [x], (inrTo bs k).vals, (inrTo bs k).kids⟩ : Nd).kids.length dc) ∧ w5.frozen? ⟨w.heap.size + 1, 3, none⟩ = false ∧ Hid (∃ kv dv, ISt X (w.heap.size + 1) (w5.setCell ⟨w.heap.size + 1, 3, none⟩ (.slice (some ⟨g5, 0, none⟩) ((⟨(inrTo bs k).leaf, (inrTo bs k).keys ++ [x], (inrTo bs k).vals, (inrTo bs k).kids⟩ : Nd).kids.length + 1) cap5)) kv dv (inrTo bs (k + 1)))) := fun g5 cap5 w5 o5 r5 => by
     have bx5 := KeepT.grown IT.kids r5 (show 98 ≠ 3 by decide) _ _ _ IT.box
     obtain ⟨⟨F0, F1, F2, F3⟩, FF⟩ := cells4 bx5
     have I5 := IT.kid o5 r5
     exact ⟨F3, FF 3, hide ⟨_, _, Eq.mp (congrArg (ISt X (w.heap.size + 1) _ _ _) hres.out.symm) I5⟩⟩
    rw [hT] at T0 OT hBT FIN
    clear IT DT bT IY
    go_wp2_with (at_builtin; refine wpList_appI rfl _ _ rfl (w.heap.size + 1 + 1) _ _ d Y.heap.size rfl rfl OT T0 hn9.out hBT ?_; intro g5 cap5 w5 o5 r5; obtain ⟨F1, F2, F3⟩ := FIN.out g5 cap5 w5 o5 r5; clear o5 r5)
    go_roundw
    case rel => exact ⟨k + 1, by omega, by go_num, F3⟩
    case measure => simp [intOf]; omega
  ·have hq : ¬ (k : Int) < (K : Int) := by omega
   obtain rfl : k = K := by omega
   rw [← hK.out, inrTo_all] at I1
   have R6 := (I1.bel.block _ (show w.heap.size < w.heap.size + 1 by omega)).trans HR.out
   obtain ⟨⟨E0, E1, E2, E3⟩, EF⟩ := cells4 I1.box
   obtain ⟨⟨J0, J1, J2, J3⟩, JF⟩ := cells4 R6
   have HR7 := hide R6
   obtain ⟨ka, kc, hkv⟩ := I1.keys.rd.slice
   obtain ⟨da, dc, hdv⟩ := I1.kids.rd.slice
   subst hkv hdv
   have k1 : ∀ e, e ≠ 98 → KeepT e wr (S4 w.heap.size wr (.bool false) (.slice ka (inr bs).keys.length kc) (.slice none 0 0) (.slice da (inr bs).kids.length dc)) := fun e he => s4_keep R6 _ _ _ _ he
   have OO : Hid (OwnN w.heap.size (S4 w.heap.size wr (.bool false) (.slice ka (inr bs).keys.length kc) (.slice none 0 0) (.slice da (inr bs).kids.length dc)) (.slice ka (inr bs).keys.length kc) (.slice none 0 0) (.slice da (inr bs).kids.length dc) (inr bs)) :=
    ⟨rows_mono (rows_keepT I1.keys (k1 _ (by decide))) (by omega), World.ownsRow_nil _ _ _ _, rows_mono (rows_keepT I1.kids (k1 _ (by decide))) (by omega)⟩
   have bw1 : Below w.heap.size w wr := HB.out.trans (I1.bel.mono (by omega))
   have BB := hide (below_set4n bw1 (Nat.le_refl _) (.bool false) (.slice ka (inr bs).keys.length kc) (.slice none 0 0) (.slice da (inr bs).kids.length dc))
   clear I1 R6 k1 bw1 hI
   go_wp2
   refine retN rfl rfl w.heap.size rfl _ _ (0, 0) (heap_set4 HR7.out _ _ _ _) _ Tryz.underlying98 rfl info_nd10 ?_
   exact ⟨_, _, rfl, OO.out, BB.out⟩
end Go.Proofs.YtpiikmkajckccaaGreat

namespace Go.Proofs.YtpiikmkajckccaaGreat
open Go.RowKit
theorem sizeBr : (Tryz.prog.info? 162).map (·.size) = some 2 := by kernel_rfl
theorem zeroBr (w : World) : (zeroValue 162).run Tryz.prog w = .ok (.agg #[.string ⟨#[]⟩, .int .i64 0]) w := by kernel_rfl
theorem cell_rowB {w : World} {g : Nat} {cur : Array Value} {T : TypeId} {fr : Nat × Nat} (h : w.heap[g]? = some (.cells cur T fr)) (j : Nat) : w.cell? ⟨g, j, none⟩ = cur.toList[j]? := by
 simp [World.cell?, h]
theorem bcl_drop (l : List Br) (k q : Nat) (hk : k ≤ l.length) : (bcl (l.drop k))[q]? = (bcl l)[k * 2 + q]? := by
 have e : bcl l = bcl (l.take k) ++ bcl (l.drop k) := by rw [← bcl_app, List.take_append_drop]
 rw [e, List.getElem?_append_right (by rw [bcl_len, List.length_take, Nat.min_eq_left hk]; omega)]
 congr 1
 rw [bcl_len, List.length_take, Nat.min_eq_left hk]
 omega
theorem rep_front {L : List Value} {bs : List Br} (h : L.take (bs.length * 2) = bcl bs) {i : Nat} (hi : i ≤ bs.length) : L.take (i * 2) = bcl (bs.take i) := by
 have : L.take (i * 2) = (L.take (bs.length * 2)).take (i * 2) := by rw [List.take_take]; congr 1; omega
 rw [this, h, bcl_take]
theorem rplc_bcl (bs now : List Br) (i j : Nat) : bcl (rplc bs i j now) = bcl (bs.take i) ++ bcl now ++ bcl (bs.drop j) := by unfold rplc; rw [bcl_app, bcl_app]
theorem rplc_len {bs now : List Br} {i j : Nat} (hi : i ≤ bs.length) : (rplc bs i j now).length = i + now.length + (bs.length - j) := by
 unfold rplc
 rw [List.length_append, List.length_append, List.length_take, List.length_drop, Nat.min_eq_left hi]
theorem rep_own {w0 w : World} {bs now : List Br} {g cap i j : Nat} {cur : Array Value} {L : List Value} (hg : w.heap[g]? = some (.cells cur 162 (0, 0))) (hk : i + now.length + (bs.length - j) ≤ cap) (hcm : cap ≤ 9223372036854775807) (hL : L.length = cap * 2) (hi : i ≤ bs.length)
  (ht : L.take ((i + now.length + (bs.length - j)) * 2) = bcl (bs.take i) ++ bcl now ++ bcl (bs.drop j)) (hw : w0.grownBy w (some g)) :
  OwnBr g (w.setRow g L.toArray) (.slice (some ⟨g, 0, none⟩) (i + now.length + (bs.length - j)) cap) (rplc bs i j now) ∧ w0.grownBy (w.setRow g L.toArray) (some g) := by
 have hrow := row_set (B := g) (k := i + now.length + (bs.length - j)) (cap := cap) (n := 2) (cc := bcl (rplc bs i j now)) hg (Nat.le_refl _) hk (by unfold maxLen; exact hcm) hL (by rw [bcl_len, rplc_len hi]) (by rw [rplc_bcl]; exact ht)
 refine ⟨?_, ⟨hrow.2.os.trans hw.os, hrow.2.tape.trans hw.tape, hrow.2.output.trans hw.output, Nat.le_trans hw.size hrow.2.size, fun k hk h2 => (hrow.2.block k (Nat.lt_of_lt_of_le hk hw.size) h2).trans (hw.block k hk h2)⟩⟩
 show World.ownsRow _ _ _ _ _ _ _
 rw [rplc_len hi]
 exact hrow.1
theorem zbl (m : Nat) : (Builtin.zeroCells (Value.agg #[.string ⟨#[]⟩, .int .i64 0]).cells m).toList.length = m * 2 := by rw [Array.length_toList, size_zeroCells]; rfl
theorem zb_one : ∀ v ∈ (Value.agg #[.string ⟨#[]⟩, .int .i64 0]).cells, v.oneCell' = true := by
 intro v hv
 simp [Value.cells] at hv
 rcases hv with rfl | rfl <;> rfl
set_option maxRecDepth 100000 in
set_option maxHeartbeats 4000000 in
theorem prep_exp (w : World) (bs now : List Br) (g cap i j : Nat) (cur : Array Value) (hg : w.heap[g]? = some (.cells cur 162 (0, 0))) (hcs : cur.size = cap * 2) (hct : cur.toList.take (bs.length * 2) = bcl bs) (hcm : cap ≤ 9223372036854775807) (hkc : bs.length ≤ cap) (hl : bs.length ≤ 1000) (hij : i < j) (gn : Nat) (hb : w.heap[gn]? = some (.cells (bcl now).toArray 162 (0, 0))) (hne : g ≠ gn) (hj : j < bs.length) (hx : j < i + now.length) (hm2 : now.length ≤ 2) (hroom : i + now.length + (bs.length - j) ≤ cap) :
  Calls Tryz.prog 88 #[.slice (some ⟨g, 0, none⟩) bs.length cap, .int .i64 (i : Int), .int .i64 (j : Int), .slice (some ⟨gn, 0, none⟩) now.length now.length] w fun e w' => ∃ v', e = .returned v' ∧ OwnBr g w' v' (rplc bs i j now) ∧ w.grownBy w' (some g) := by
 have hcl : cur.toList.length = cap * 2 := by rw [Array.length_toList]; exact hcs
 have hat : ∀ q, q < bs.length * 2 → cur.toList[q]? = (bcl bs)[q]? := fun q hq => by rw [← hct, List.getElem?_take, if_pos hq]
 have hAt := rep_front hct (show i ≤ bs.length by omega)
 have hAl : (bcl (bs.take i)).length = i * 2 := by rw [bcl_len, List.length_take]; congr 1; omega
 have hCl : (bcl (bs.drop j)).length = (bs.length - j) * 2 := by rw [bcl_len, List.length_drop]
 have hVl := bcl_len now
 have hgd : w.drew.drew.heap[g]? = some (.cells cur 162 (0, 0)) := drewHeap (drewHeap hg)
 obtain ⟨L1, hL1⟩ : ∃ L, L = seg cur.toList ((i + now.length) * 2) (bcl (bs.drop j)) := ⟨_, rfl⟩
 have hl1 : L1.length = cap * 2 := by rw [hL1, seg_len (by rw [hCl]; omega)]; exact hcl
 obtain ⟨W1, hW1⟩ : ∃ W, W = w.drew.drew.setRow g L1.toArray := ⟨_, rfl⟩
 have hg1 : W1.heap[g]? = some (.cells L1.toArray 162 (0, 0)) := by rw [hW1]; exact setRow_heap _ g cur _ _ _ hgd
 have hb1 : W1.heap[gn]? = some (.cells (bcl now).toArray 162 (0, 0)) := by rw [hW1]; exact (setRow_other _ g gn _ (Ne.symm hne)).trans (drewHeap (drewHeap hb))
 have hov : Hid (∀ la ca, (callFunc 123 #[.slice (some ⟨g, (i + now.length) * 2, none⟩) la ca, .slice (some ⟨gn, 0, none⟩) now.length now.length]).run Tryz.prog w.drew = .ok (.value (.bool false)) w.drew) := fun la ca => by
  rw [run_callFunc_extern Tryz.func123 (by kernel_rfl) (by kernel_rfl) (by kernel_rfl) (e := Extern.SlicesOverlaps.overlaps #[159, 159] #[4]) (by kernel_rfl),
   Lib.run_overlaps_apart w.drew 159 4 162 Tryz.underlying159 2 (fun w => by kernel_rfl) ⟨g, (i + now.length) * 2, none⟩ ⟨gn, 0, none⟩ la ca now.length now.length hne 162 162 (cap * 2) (now.length * 2) (by simp [World.shape?, drewHeap hg, hcs]) (by simp [World.shape?, drewHeap hb, hVl]) (by omega) (by simp [World.frozen?, drewHeap hg]) (by simp [World.frozen?, drewHeap hg])]
  rfl
 have hcp1 : Hid (∀ ty dc sc, (Builtin.copy_ #[159, 159] ty #[.slice (some ⟨g, (i + now.length) * 2, none⟩) (bs.length - j) dc, .slice (some ⟨g, j * 2, none⟩) (bs.length - j) sc]).run Tryz.prog w.drew.drew = .ok (goInt (bs.length - j : Nat)) W1) := fun ty dc sc => by
  rw [hW1, hL1]
  refine run_copyN w.drew.drew _ _ ty 162 2 g ((i + now.length) * 2) _ dc ⟨g, j * 2, none⟩ _ sc cur 162 (bcl (bs.drop j)) (bs.length - j) Tryz.underlying159 sizeBr hgd ?_ hCl (fun q v hq => ?_) (by rw [hCl]; omega) (bcl_one _)
  ·show _ = min _ _
   omega
  ·rw [Addr.add_lit, cell_rowB hgd]
   have hql := (List.getElem?_eq_some_iff.1 hq).1
   rw [hCl] at hql
   rw [hat _ (by omega), ← bcl_drop _ _ _ (by omega)]
   exact hq
 obtain ⟨L2, hL2⟩ : ∃ L, L = seg L1 (i * 2) (bcl now) := ⟨_, rfl⟩
 have hl2 : L2.length = cap * 2 := by rw [hL2, seg_len (by rw [hVl]; omega)]; exact hl1
 have hcp2 : Hid (∀ ty dc, (Builtin.copy_ #[159, 159] ty #[.slice (some ⟨g, i * 2, none⟩) (i + now.length + (bs.length - j) - i) dc, .slice (some ⟨gn, 0, none⟩) now.length now.length]).run Tryz.prog W1 = .ok (goInt now.length) (W1.setRow g L2.toArray)) := fun ty dc => by
  have h9 := run_copyN (P := Tryz.prog) W1 159 159 ty 162 2 g (i * 2) (i + now.length + (bs.length - j) - i) dc ⟨gn, 0, none⟩ now.length now.length L1.toArray 162 (bcl now) now.length Tryz.underlying159 sizeBr hg1 (by show _ = min _ _; omega) hVl (fun q v hq => by
   rw [Addr.add_lit, cell_rowB hb1]
   simpa using hq) (by rw [hVl, List.size_toArray]; omega) (bcl_one _)
  rw [h9, hL2]
 have h8 := seg_two (L := cur.toList) (A := bcl (bs.take i)) (V := bcl now) (C := bcl (bs.drop j)) (by rw [hAl]; exact hAt) (by rw [hAl, hVl, hCl, hcl]; omega)
 have FIN : Hid (OwnBr g (W1.setRow g L2.toArray) (.slice (some ⟨g, 0, none⟩) (i + now.length + (bs.length - j)) cap) (rplc bs i j now) ∧ w.grownBy (W1.setRow g L2.toArray) (some g)) := by
  refine rep_own hg1 hroom hcm hl2 (by omega) ?_ ?_
  ·rw [hL2, hL1]
   rw [hAl, hVl, hCl] at h8
   rw [show (i + now.length + (bs.length - j)) * 2 = i * 2 + now.length * 2 + (bs.length - j) * 2 by omega, show (i + now.length) * 2 = i * 2 + now.length * 2 by omega]
   exact h8
  ·rw [hW1]
   exact ⟨rfl, rfl, rfl, by simp, fun k hk h2 => (setRow_other _ _ _ _ (fun e => h2 (by rw [e]))).trans rfl⟩
 obtain ⟨n, hn⟩ : ∃ n, n = bs.length := ⟨_, rfl⟩
 obtain ⟨m, hm⟩ : ∃ m, m = now.length := ⟨_, rfl⟩
 obtain ⟨IM, hIM⟩ : ∃ q, q = i + now.length := ⟨_, rfl⟩
 obtain ⟨D, hD⟩ : ∃ q, q = bs.length - j := ⟨_, rfl⟩
 obtain ⟨T, hT⟩ : ∃ q, q = i + now.length + (bs.length - j) := ⟨_, rfl⟩
 rw [← hT] at hcp2 FIN hroom
 rw [← hIM] at hov hcp1 hx
 rw [← hD] at hcp1
 rw [← hn, ← hm]
 rw [← hm] at hov hcp2 hm2
 have f1 : n - j = D := by omega
 have f2 : T - IM = D := by omega
 have f3 : (i : Int) + (m : Int) = (IM : Int) := by omega
 have f4 : (IM : Int) + (D : Int) = (T : Int) := by omega
 have f5 : IntKind.i64.wrap (IM : Int) = (IM : Int) := IntWalk.i64_in _ (by omega)
 have f6 : IntKind.i64.wrap (T : Int) = (T : Int) := IntWalk.i64_in _ (by omega)
 have f7 : ((i : Int) == (j : Int)) = false := by simp; omega
 have f8 : ((j : Int) == (n : Int)) = false := by simp; omega
 have f9 : ¬ (cap = IM) := by omega
 have f10 : ¬ (cap = i) := by omega
 have f11 : ¬ (cap = j) := by omega
 have f12 : ¬ (IM : Int) ≤ (j : Int) := by omega
 have f13 : ¬ (T : Int) > (cap : Int) := by omega
 have f14 : i ≤ j := by omega
 have f15 : j ≤ n := by omega
 have f16 : i ≤ n := by omega
 have f17 : IM ≤ T := by omega
 have f18 : i ≤ T := by omega
 have f19 : j ≤ cap := by omega
 have f20 : i ≤ cap := by omega
 replace hn := hide hn
 replace hm := hide hm
 replace hIM := hide hIM
 replace hD := hide hD
 replace hT := hide hT
 clear hcs hct hcl hat hAt hAl hCl hVl hgd hL1 hl1 hW1 hg1 hb1 hL2 hl2 h8 hg hb hne
 go_enter Tryz.func88, Tryz.ntmps88
 go_wp2_with fail
 refine wp_region_mid (fun _ => True) 12 12 mixed (by kernel_rfl) (fun _ _ _ _ h => h) trivial ?_
 dsimp only [List.take, List.drop]
 iterate 12
  refine take_one (v := ?_) (by rfl) ?_ ?_
  rotate_left
  ·rintro w' _
   go_simp
   try with_reducible rfl
  try simp only [Act.put, List.setIfInBounds_toArray, List.set_cons_zero, List.set_cons_succ]
 show wpList _ _ _ _ _ _
 go_wp2_with (simp only [hov.out])
 refine wp_region_mid (fun _ => True) 9 9 mixed (by kernel_rfl) (fun _ _ _ _ h => h) trivial ?_
 dsimp only [List.take, List.drop]
 iterate 9
  refine take_one (v := ?_) (by rfl) ?_ ?_
  rotate_left
  ·rintro w' _
   go_simp
   try with_reducible rfl
  try simp only [Act.put, List.setIfInBounds_toArray, List.set_cons_zero, List.set_cons_succ]
 show wpList _ _ _ _ _ _
 refine wpList_run_copy _ rfl _ _ 159 159 rfl _ _ rfl rfl _ _ (hcp1.out _ _ _) ?_
 go_wp2_with (simp only [hcp2.out, Result.andThen_ok])
 go_ret
 exact ⟨_, rfl, FIN.out.1, FIN.out.2⟩
set_option maxRecDepth 100000 in
set_option maxHeartbeats 4000000 in
theorem prep_fitC (w : World) (bs now : List Br) (g cap i j : Nat) (cur : Array Value) (hg : w.heap[g]? = some (.cells cur 162 (0, 0))) (hcs : cur.size = cap * 2) (hct : cur.toList.take (bs.length * 2) = bcl bs) (hcm : cap ≤ 9223372036854775807) (hkc : bs.length ≤ cap) (hl : bs.length ≤ 1000) (hij : i < j) (gn : Nat) (hb : w.heap[gn]? = some (.cells (bcl now).toArray 162 (0, 0))) (hne : g ≠ gn) (hj : j < bs.length) (hx : i + now.length ≤ j) (hm0 : 0 < now.length) (hlt : i + now.length < j) :
  Calls Tryz.prog 88 #[.slice (some ⟨g, 0, none⟩) bs.length cap, .int .i64 (i : Int), .int .i64 (j : Int), .slice (some ⟨gn, 0, none⟩) now.length now.length] w fun e w' => ∃ v', e = .returned v' ∧ OwnBr g w' v' (rplc bs i j now) ∧ w.grownBy w' (some g) := by
 have hcl : cur.toList.length = cap * 2 := by rw [Array.length_toList]; exact hcs
 have hat : ∀ q, q < bs.length * 2 → cur.toList[q]? = (bcl bs)[q]? := fun q hq => by rw [← hct, List.getElem?_take, if_pos hq]
 have hAt := rep_front hct (show i ≤ bs.length by omega)
 have hAl : (bcl (bs.take i)).length = i * 2 := by rw [bcl_len, List.length_take]; congr 1; omega
 have hCl : (bcl (bs.drop j)).length = (bs.length - j) * 2 := by rw [bcl_len, List.length_drop]
 have hVl := bcl_len now
 have hgd : w.drew.heap[g]? = some (.cells cur 162 (0, 0)) := drewHeap hg
 have hbd : w.drew.heap[gn]? = some (.cells (bcl now).toArray 162 (0, 0)) := drewHeap hb
 obtain ⟨L1, hL1⟩ : ∃ L, L = seg cur.toList (i * 2) (bcl now) := ⟨_, rfl⟩
 have hl1 : L1.length = cap * 2 := by rw [hL1, seg_len (by rw [hVl]; omega)]; exact hcl
 obtain ⟨W1, hW1⟩ : ∃ W, W = w.drew.setRow g L1.toArray := ⟨_, rfl⟩
 have hg1 : W1.heap[g]? = some (.cells L1.toArray 162 (0, 0)) := by rw [hW1]; exact setRow_heap _ g cur _ _ _ hgd
 have hg1d : W1.drew.heap[g]? = some (.cells L1.toArray 162 (0, 0)) := drewHeap hg1
 have hcp1 : Hid (∀ ty dc, (Builtin.copy_ #[159, 159] ty #[.slice (some ⟨g, i * 2, none⟩) (i + now.length + (bs.length - j) - i) dc, .slice (some ⟨gn, 0, none⟩) now.length now.length]).run Tryz.prog w.drew = .ok (goInt now.length) W1) := fun ty dc => by
  have h9 := run_copyN (P := Tryz.prog) w.drew 159 159 ty 162 2 g (i * 2) (i + now.length + (bs.length - j) - i) dc ⟨gn, 0, none⟩ now.length now.length cur 162 (bcl now) now.length Tryz.underlying159 sizeBr hgd (by show _ = min _ _; omega) hVl (fun q v hq => by
   rw [Addr.add_lit, cell_rowB hbd]
   simpa using hq) (by rw [hVl, hcs]; omega) (bcl_one _)
  rw [h9, hW1, hL1]
 obtain ⟨L2, hL2⟩ : ∃ L, L = seg L1 ((i + now.length) * 2) (bcl (bs.drop j)) := ⟨_, rfl⟩
 have hl2 : L2.length = cap * 2 := by rw [hL2, seg_len (by rw [hCl]; omega)]; exact hl1
 obtain ⟨W2, hW2⟩ : ∃ W, W = W1.drew.setRow g L2.toArray := ⟨_, rfl⟩
 have hg2 : W2.heap[g]? = some (.cells L2.toArray 162 (0, 0)) := by rw [hW2]; exact setRow_heap _ g L1.toArray _ _ _ hg1d
 have hcp2 : Hid (∀ ty dc sc, (Builtin.copy_ #[159, 159] ty #[.slice (some ⟨g, (i + now.length) * 2, none⟩) (bs.length - j) dc, .slice (some ⟨g, j * 2, none⟩) (bs.length - j) sc]).run Tryz.prog W1.drew = .ok (goInt (bs.length - j : Nat)) W2) := fun ty dc sc => by
  have h9 := run_copyN (P := Tryz.prog) W1.drew 159 159 ty 162 2 g ((i + now.length) * 2) (bs.length - j) dc ⟨g, j * 2, none⟩ (bs.length - j) sc L1.toArray 162 (bcl (bs.drop j)) (bs.length - j) Tryz.underlying159 sizeBr hg1d (by show _ = min _ _; omega) hCl (fun q v hq => by
   rw [Addr.add_lit, cell_rowB hg1d]
   have hql := (List.getElem?_eq_some_iff.1 hq).1
   rw [hCl] at hql
   show L1[j * 2 + q]? = some v
   rw [hL1, seg_at (by rw [hVl]; omega) (.inr (by rw [hVl]; omega)), hat _ (by omega), ← bcl_drop _ _ _ (by omega)]
   exact hq) (by rw [hCl, List.size_toArray]; omega) (bcl_one _)
  rw [h9, hW2, hL2]
 have h8 := seg_two' (L := cur.toList) (A := bcl (bs.take i)) (V := bcl now) (C := bcl (bs.drop j)) (by rw [hAl]; exact hAt) (by rw [hAl, hVl, hCl, hcl]; omega)
 have h82 : L2.take ((i + now.length + (bs.length - j)) * 2) = bcl (bs.take i) ++ bcl now ++ bcl (bs.drop j) := by
  rw [hAl, hVl, hCl] at h8
  rw [hL2, hL1, show (i + now.length + (bs.length - j)) * 2 = i * 2 + now.length * 2 + (bs.length - j) * 2 by omega, show (i + now.length) * 2 = i * 2 + now.length * 2 by omega]
  exact h8
 have hgr2 : w.grownBy W2 (some g) := by
  rw [hW2, hW1]
  refine ⟨rfl, rfl, rfl, by simp, fun k hk h2 => (setRow_other _ _ _ _ (fun e => h2 (by rw [e]))).trans ?_⟩
  exact (setRow_other (w.drew) g k L1.toArray (fun e => h2 (by rw [e]))).trans rfl
 obtain ⟨L3, hL3⟩ : ∃ L, L = seg L2 ((i + now.length + (bs.length - j)) * 2) (Builtin.zeroCells (Value.agg #[.string ⟨#[]⟩, .int .i64 0]).cells (bs.length - (i + now.length + (bs.length - j)))).toList := ⟨_, rfl⟩
 have hl3 : L3.length = cap * 2 := by rw [hL3, seg_len (by rw [zbl]; omega)]; exact hl2
 have hcr : Hid (∀ ty c, (Builtin.clear_ #[159] ty #[.slice (some ⟨g, (i + now.length + (bs.length - j)) * 2, none⟩) (bs.length - (i + now.length + (bs.length - j))) c]).run Tryz.prog W2 = .ok (.tuple #[]) (W2.setRow g L3.toArray)) := fun ty c => by
  have h9 := run_clearN (P := Tryz.prog) W2 159 162 ty _ 2 g ((i + now.length + (bs.length - j)) * 2) (bs.length - (i + now.length + (bs.length - j))) c L2.toArray 162 Tryz.underlying159 zeroBr rfl zb_one hg2 (by rw [List.size_toArray]; omega) (by omega)
  rw [h9, hL3]
 have FIN : Hid (OwnBr g (W2.setRow g L3.toArray) (.slice (some ⟨g, 0, none⟩) (i + now.length + (bs.length - j)) cap) (rplc bs i j now) ∧ w.grownBy (W2.setRow g L3.toArray) (some g)) := by
  refine rep_own hg2 (by omega) hcm hl3 (by omega) ?_ hgr2
  rw [hL3, seg_take (by rw [zbl]; omega) (Nat.le_refl _)]
  exact h82
 clear hL3 hl3
 obtain ⟨n, hn⟩ : ∃ n, n = bs.length := ⟨_, rfl⟩
 obtain ⟨m, hm⟩ : ∃ m, m = now.length := ⟨_, rfl⟩
 obtain ⟨IM, hIM⟩ : ∃ q, q = i + now.length := ⟨_, rfl⟩
 obtain ⟨D, hD⟩ : ∃ q, q = bs.length - j := ⟨_, rfl⟩
 obtain ⟨T, hT⟩ : ∃ q, q = i + now.length + (bs.length - j) := ⟨_, rfl⟩
 rw [← hT] at hcp1 hcr FIN
 rw [← hIM] at hcp2 hx
 rw [← hD] at hcp2
 rw [← hn, ← hm]
 rw [← hn] at hcr
 rw [← hm] at hcp1 hm0
 have f1 : n - j = D := by omega
 have f2 : T - IM = D := by omega
 have f3 : (i : Int) + (m : Int) = (IM : Int) := by omega
 have f4 : (IM : Int) + (D : Int) = (T : Int) := by omega
 have f5 : IntKind.i64.wrap (IM : Int) = (IM : Int) := IntWalk.i64_in _ (by omega)
 have f6 : IntKind.i64.wrap (T : Int) = (T : Int) := IntWalk.i64_in _ (by omega)
 have f7 : ((i : Int) == (j : Int)) = false := by simp; omega
 have f8 : ((j : Int) == (n : Int)) = false := by simp; omega
 have f10 : ¬ (cap = i) := by omega
 have f11 : ¬ (cap = j) := by omega
 have f14 : i ≤ j := by omega
 have f15 : j ≤ n := by omega
 have f16 : i ≤ n := by omega
 have f17 : IM ≤ T := by omega
 have f18 : i ≤ T := by omega
 have f19 : j ≤ cap := by omega
 have f20 : i ≤ cap := by omega
 have f9 : ¬ (cap = IM) := by omega
 have f12 : (IM : Int) ≤ (j : Int) := by omega
 have f13 : ¬ (T : Int) > (cap : Int) := by omega
 have f21 : T ≤ n := by omega
 have f22 : ¬ (cap = T) := by omega
 replace hn := hide hn
 replace hm := hide hm
 replace hIM := hide hIM
 replace hD := hide hD
 replace hT := hide hT
 clear hcs hct hcl hat hAt hAl hCl hVl hgd hbd hL1 hl1 hW1 hg1 hg1d hL2 hl2 hW2 hg2 h8 h82 hgr2 hg hb hne
 go_enter Tryz.func88, Tryz.ntmps88
 go_wp2_with fail
 refine wp_region_mid (fun _ => True) 12 12 mixed (by kernel_rfl) (fun _ _ _ _ h => h) trivial ?_
 dsimp only [List.take, List.drop]
 iterate 12
  refine take_one (v := ?_) (by rfl) ?_ ?_
  rotate_left
  ·rintro w' _
   go_simp
   try with_reducible rfl
  try simp only [Act.put, List.setIfInBounds_toArray, List.set_cons_zero, List.set_cons_succ]
 show wpList _ _ _ _ _ _
 go_wp2_with (simp only [hcp1.out, Result.andThen_ok])
 refine wp_region_mid (fun _ => True) 9 9 mixed (by kernel_rfl) (fun _ _ _ _ h => h) trivial ?_
 dsimp only [List.take, List.drop]
 iterate 9
  refine take_one (v := ?_) (by rfl) ?_ ?_
  rotate_left
  ·rintro w' _
   go_simp
   try with_reducible rfl
  try simp only [Act.put, List.setIfInBounds_toArray, List.set_cons_zero, List.set_cons_succ]
 show wpList _ _ _ _ _ _
 refine wpList_run_copy _ rfl _ _ 159 159 rfl _ _ rfl rfl _ _ (hcp2.out _ _ _) ?_
 go_wp2_with (simp only [hcr.out, Result.andThen_ok])
 go_ret
 exact ⟨_, rfl, FIN.out.1, FIN.out.2⟩
set_option maxRecDepth 100000 in
set_option maxHeartbeats 4000000 in
theorem prep_fitA (w : World) (bs now : List Br) (g cap i j : Nat) (cur : Array Value) (hg : w.heap[g]? = some (.cells cur 162 (0, 0))) (hcs : cur.size = cap * 2) (hct : cur.toList.take (bs.length * 2) = bcl bs) (hcm : cap ≤ 9223372036854775807) (hkc : bs.length ≤ cap) (hl : bs.length ≤ 1000) (hij : i < j) (gn : Nat) (hb : w.heap[gn]? = some (.cells (bcl now).toArray 162 (0, 0))) (hne : g ≠ gn) (hj : j < bs.length) (hx : i + now.length ≤ j) (hm0 : 0 < now.length) (hlt : i + now.length = j) (hcap : cap = bs.length) :
  Calls Tryz.prog 88 #[.slice (some ⟨g, 0, none⟩) bs.length cap, .int .i64 (i : Int), .int .i64 (j : Int), .slice (some ⟨gn, 0, none⟩) now.length now.length] w fun e w' => ∃ v', e = .returned v' ∧ OwnBr g w' v' (rplc bs i j now) ∧ w.grownBy w' (some g) := by
 have hcl : cur.toList.length = cap * 2 := by rw [Array.length_toList]; exact hcs
 have hat : ∀ q, q < bs.length * 2 → cur.toList[q]? = (bcl bs)[q]? := fun q hq => by rw [← hct, List.getElem?_take, if_pos hq]
 have hAt := rep_front hct (show i ≤ bs.length by omega)
 have hAl : (bcl (bs.take i)).length = i * 2 := by rw [bcl_len, List.length_take]; congr 1; omega
 have hCl : (bcl (bs.drop j)).length = (bs.length - j) * 2 := by rw [bcl_len, List.length_drop]
 have hVl := bcl_len now
 have hgd : w.drew.heap[g]? = some (.cells cur 162 (0, 0)) := drewHeap hg
 have hbd : w.drew.heap[gn]? = some (.cells (bcl now).toArray 162 (0, 0)) := drewHeap hb
 obtain ⟨L1, hL1⟩ : ∃ L, L = seg cur.toList (i * 2) (bcl now) := ⟨_, rfl⟩
 have hl1 : L1.length = cap * 2 := by rw [hL1, seg_len (by rw [hVl]; omega)]; exact hcl
 obtain ⟨W1, hW1⟩ : ∃ W, W = w.drew.setRow g L1.toArray := ⟨_, rfl⟩
 have hg1 : W1.heap[g]? = some (.cells L1.toArray 162 (0, 0)) := by rw [hW1]; exact setRow_heap _ g cur _ _ _ hgd
 have hg1d : W1.drew.heap[g]? = some (.cells L1.toArray 162 (0, 0)) := drewHeap hg1
 have hcp1 : Hid (∀ ty dc, (Builtin.copy_ #[159, 159] ty #[.slice (some ⟨g, i * 2, none⟩) (i + now.length + (bs.length - j) - i) dc, .slice (some ⟨gn, 0, none⟩) now.length now.length]).run Tryz.prog w.drew = .ok (goInt now.length) W1) := fun ty dc => by
  have h9 := run_copyN (P := Tryz.prog) w.drew 159 159 ty 162 2 g (i * 2) (i + now.length + (bs.length - j) - i) dc ⟨gn, 0, none⟩ now.length now.length cur 162 (bcl now) now.length Tryz.underlying159 sizeBr hgd (by show _ = min _ _; omega) hVl (fun q v hq => by
   rw [Addr.add_lit, cell_rowB hbd]
   simpa using hq) (by rw [hVl, hcs]; omega) (bcl_one _)
  rw [h9, hW1, hL1]
 obtain ⟨L2, hL2⟩ : ∃ L, L = seg L1 ((i + now.length) * 2) (bcl (bs.drop j)) := ⟨_, rfl⟩
 have hl2 : L2.length = cap * 2 := by rw [hL2, seg_len (by rw [hCl]; omega)]; exact hl1
 obtain ⟨W2, hW2⟩ : ∃ W, W = W1.drew.setRow g L2.toArray := ⟨_, rfl⟩
 have hg2 : W2.heap[g]? = some (.cells L2.toArray 162 (0, 0)) := by rw [hW2]; exact setRow_heap _ g L1.toArray _ _ _ hg1d
 have hcp2 : Hid (∀ ty dc sc, (Builtin.copy_ #[159, 159] ty #[.slice (some ⟨g, (i + now.length) * 2, none⟩) (bs.length - j) dc, .slice (some ⟨g, j * 2, none⟩) (bs.length - j) sc]).run Tryz.prog W1.drew = .ok (goInt (bs.length - j : Nat)) W2) := fun ty dc sc => by
  have h9 := run_copyN (P := Tryz.prog) W1.drew 159 159 ty 162 2 g ((i + now.length) * 2) (bs.length - j) dc ⟨g, j * 2, none⟩ (bs.length - j) sc L1.toArray 162 (bcl (bs.drop j)) (bs.length - j) Tryz.underlying159 sizeBr hg1d (by show _ = min _ _; omega) hCl (fun q v hq => by
   rw [Addr.add_lit, cell_rowB hg1d]
   have hql := (List.getElem?_eq_some_iff.1 hq).1
   rw [hCl] at hql
   show L1[j * 2 + q]? = some v
   rw [hL1, seg_at (by rw [hVl]; omega) (.inr (by rw [hVl]; omega)), hat _ (by omega), ← bcl_drop _ _ _ (by omega)]
   exact hq) (by rw [hCl, List.size_toArray]; omega) (bcl_one _)
  rw [h9, hW2, hL2]
 have h8 := seg_two' (L := cur.toList) (A := bcl (bs.take i)) (V := bcl now) (C := bcl (bs.drop j)) (by rw [hAl]; exact hAt) (by rw [hAl, hVl, hCl, hcl]; omega)
 have h82 : L2.take ((i + now.length + (bs.length - j)) * 2) = bcl (bs.take i) ++ bcl now ++ bcl (bs.drop j) := by
  rw [hAl, hVl, hCl] at h8
  rw [hL2, hL1, show (i + now.length + (bs.length - j)) * 2 = i * 2 + now.length * 2 + (bs.length - j) * 2 by omega, show (i + now.length) * 2 = i * 2 + now.length * 2 by omega]
  exact h8
 have hgr2 : w.grownBy W2 (some g) := by
  rw [hW2, hW1]
  refine ⟨rfl, rfl, rfl, by simp, fun k hk h2 => (setRow_other _ _ _ _ (fun e => h2 (by rw [e]))).trans ?_⟩
  exact (setRow_other (w.drew) g k L1.toArray (fun e => h2 (by rw [e]))).trans rfl
 have hcr : Hid (∀ ty A c, (Builtin.clear_ #[159] ty #[.slice A 0 c]).run Tryz.prog W2 = .ok (.tuple #[]) W2) := fun ty A c => run_clear_none W2 _ _ ty A c Tryz.underlying159
 have FIN : Hid (OwnBr g W2 (.slice (some ⟨g, 0, none⟩) (i + now.length + (bs.length - j)) cap) (rplc bs i j now) ∧ w.grownBy W2 (some g)) := by
  have h9 := rep_own (w0 := w) hg2 (show i + now.length + (bs.length - j) ≤ cap by omega) hcm hl2 (by omega) h82 hgr2
  rw [setRow_self W2 g L2.toArray _ _ hg2] at h9
  exact h9
 obtain ⟨n, hn⟩ : ∃ n, n = bs.length := ⟨_, rfl⟩
 obtain ⟨m, hm⟩ : ∃ m, m = now.length := ⟨_, rfl⟩
 obtain ⟨IM, hIM⟩ : ∃ q, q = i + now.length := ⟨_, rfl⟩
 obtain ⟨D, hD⟩ : ∃ q, q = bs.length - j := ⟨_, rfl⟩
 obtain ⟨T, hT⟩ : ∃ q, q = i + now.length + (bs.length - j) := ⟨_, rfl⟩
 rw [← hT] at hcp1 FIN
 rw [← hIM] at hcp2 hx
 rw [← hD] at hcp2
 rw [← hn, ← hm]
 rw [← hm] at hcp1 hm0
 have f1 : n - j = D := by omega
 have f2 : T - IM = D := by omega
 have f3 : (i : Int) + (m : Int) = (IM : Int) := by omega
 have f4 : (IM : Int) + (D : Int) = (T : Int) := by omega
 have f5 : IntKind.i64.wrap (IM : Int) = (IM : Int) := IntWalk.i64_in _ (by omega)
 have f6 : IntKind.i64.wrap (T : Int) = (T : Int) := IntWalk.i64_in _ (by omega)
 have f7 : ((i : Int) == (j : Int)) = false := by simp; omega
 have f8 : ((j : Int) == (n : Int)) = false := by simp; omega
 have f10 : ¬ (cap = i) := by omega
 have f11 : ¬ (cap = j) := by omega
 have f14 : i ≤ j := by omega
 have f15 : j ≤ n := by omega
 have f16 : i ≤ n := by omega
 have f17 : IM ≤ T := by omega
 have f18 : i ≤ T := by omega
 have f19 : j ≤ cap := by omega
 have f20 : i ≤ cap := by omega
 have f9 : ¬ (cap = IM) := by omega
 have f12 : (IM : Int) ≤ (j : Int) := by omega
 have f13 : ¬ (T : Int) > (cap : Int) := by omega
 have f21 : T ≤ n := by omega
 have f22 : n = cap := by omega
 have f23 : T = cap := by omega
 replace hn := hide hn
 replace hm := hide hm
 replace hIM := hide hIM
 replace hD := hide hD
 replace hT := hide hT
 clear hcs hct hcl hat hAt hAl hCl hVl hgd hbd hL1 hl1 hW1 hg1 hg1d hL2 hl2 hW2 hg2 h8 h82 hgr2 hg hb hne
 clear hcap hlt
 subst f22 f23
 go_enter Tryz.func88, Tryz.ntmps88
 go_wp2_with fail
 refine wp_region_mid (fun _ => True) 12 12 mixed (by kernel_rfl) (fun _ _ _ _ h => h) trivial ?_
 dsimp only [List.take, List.drop]
 iterate 12
  refine take_one (v := ?_) (by rfl) ?_ ?_
  rotate_left
  ·rintro w' _
   go_simp
   try with_reducible rfl
  try simp only [Act.put, List.setIfInBounds_toArray, List.set_cons_zero, List.set_cons_succ]
 show wpList _ _ _ _ _ _
 go_wp2_with (simp only [hcp1.out, Result.andThen_ok])
 refine wp_region_mid (fun _ => True) 9 9 mixed (by kernel_rfl) (fun _ _ _ _ h => h) trivial ?_
 dsimp only [List.take, List.drop]
 iterate 9
  refine take_one (v := ?_) (by rfl) ?_ ?_
  rotate_left
  ·rintro w' _
   go_simp
   try with_reducible rfl
  try simp only [Act.put, List.setIfInBounds_toArray, List.set_cons_zero, List.set_cons_succ]
 show wpList _ _ _ _ _ _
 refine wpList_run_copy _ rfl _ _ 159 159 rfl _ _ rfl rfl _ _ (hcp2.out _ _ _) ?_
 go_wp2_with (simp only [hcr.out, Result.andThen_ok])
 go_ret
 exact ⟨_, rfl, FIN.out.1, FIN.out.2⟩
set_option maxRecDepth 100000 in
set_option maxHeartbeats 4000000 in
theorem prep_fitB (w : World) (bs now : List Br) (g cap i j : Nat) (cur : Array Value) (hg : w.heap[g]? = some (.cells cur 162 (0, 0))) (hcs : cur.size = cap * 2) (hct : cur.toList.take (bs.length * 2) = bcl bs) (hcm : cap ≤ 9223372036854775807) (hkc : bs.length ≤ cap) (hl : bs.length ≤ 1000) (hij : i < j) (gn : Nat) (hb : w.heap[gn]? = some (.cells (bcl now).toArray 162 (0, 0))) (hne : g ≠ gn) (hj : j < bs.length) (hx : i + now.length ≤ j) (hm0 : 0 < now.length) (hlt : i + now.length = j) (hcap : cap ≠ bs.length) :
  Calls Tryz.prog 88 #[.slice (some ⟨g, 0, none⟩) bs.length cap, .int .i64 (i : Int), .int .i64 (j : Int), .slice (some ⟨gn, 0, none⟩) now.length now.length] w fun e w' => ∃ v', e = .returned v' ∧ OwnBr g w' v' (rplc bs i j now) ∧ w.grownBy w' (some g) := by
 have hcl : cur.toList.length = cap * 2 := by rw [Array.length_toList]; exact hcs
 have hat : ∀ q, q < bs.length * 2 → cur.toList[q]? = (bcl bs)[q]? := fun q hq => by rw [← hct, List.getElem?_take, if_pos hq]
 have hAt := rep_front hct (show i ≤ bs.length by omega)
 have hAl : (bcl (bs.take i)).length = i * 2 := by rw [bcl_len, List.length_take]; congr 1; omega
 have hCl : (bcl (bs.drop j)).length = (bs.length - j) * 2 := by rw [bcl_len, List.length_drop]
 have hVl := bcl_len now
 have hgd : w.drew.heap[g]? = some (.cells cur 162 (0, 0)) := drewHeap hg
 have hbd : w.drew.heap[gn]? = some (.cells (bcl now).toArray 162 (0, 0)) := drewHeap hb
 obtain ⟨L1, hL1⟩ : ∃ L, L = seg cur.toList (i * 2) (bcl now) := ⟨_, rfl⟩
 have hl1 : L1.length = cap * 2 := by rw [hL1, seg_len (by rw [hVl]; omega)]; exact hcl
 obtain ⟨W1, hW1⟩ : ∃ W, W = w.drew.setRow g L1.toArray := ⟨_, rfl⟩
 have hg1 : W1.heap[g]? = some (.cells L1.toArray 162 (0, 0)) := by rw [hW1]; exact setRow_heap _ g cur _ _ _ hgd
 have hg1d : W1.drew.heap[g]? = some (.cells L1.toArray 162 (0, 0)) := drewHeap hg1
 have hcp1 : Hid (∀ ty dc, (Builtin.copy_ #[159, 159] ty #[.slice (some ⟨g, i * 2, none⟩) (i + now.length + (bs.length - j) - i) dc, .slice (some ⟨gn, 0, none⟩) now.length now.length]).run Tryz.prog w.drew = .ok (goInt now.length) W1) := fun ty dc => by
  have h9 := run_copyN (P := Tryz.prog) w.drew 159 159 ty 162 2 g (i * 2) (i + now.length + (bs.length - j) - i) dc ⟨gn, 0, none⟩ now.length now.length cur 162 (bcl now) now.length Tryz.underlying159 sizeBr hgd (by show _ = min _ _; omega) hVl (fun q v hq => by
   rw [Addr.add_lit, cell_rowB hbd]
   simpa using hq) (by rw [hVl, hcs]; omega) (bcl_one _)
  rw [h9, hW1, hL1]
 obtain ⟨L2, hL2⟩ : ∃ L, L = seg L1 ((i + now.length) * 2) (bcl (bs.drop j)) := ⟨_, rfl⟩
 have hl2 : L2.length = cap * 2 := by rw [hL2, seg_len (by rw [hCl]; omega)]; exact hl1
 obtain ⟨W2, hW2⟩ : ∃ W, W = W1.drew.setRow g L2.toArray := ⟨_, rfl⟩
 have hg2 : W2.heap[g]? = some (.cells L2.toArray 162 (0, 0)) := by rw [hW2]; exact setRow_heap _ g L1.toArray _ _ _ hg1d
 have hcp2 : Hid (∀ ty dc sc, (Builtin.copy_ #[159, 159] ty #[.slice (some ⟨g, (i + now.length) * 2, none⟩) (bs.length - j) dc, .slice (some ⟨g, j * 2, none⟩) (bs.length - j) sc]).run Tryz.prog W1.drew = .ok (goInt (bs.length - j : Nat)) W2) := fun ty dc sc => by
  have h9 := run_copyN (P := Tryz.prog) W1.drew 159 159 ty 162 2 g ((i + now.length) * 2) (bs.length - j) dc ⟨g, j * 2, none⟩ (bs.length - j) sc L1.toArray 162 (bcl (bs.drop j)) (bs.length - j) Tryz.underlying159 sizeBr hg1d (by show _ = min _ _; omega) hCl (fun q v hq => by
   rw [Addr.add_lit, cell_rowB hg1d]
   have hql := (List.getElem?_eq_some_iff.1 hq).1
   rw [hCl] at hql
   show L1[j * 2 + q]? = some v
   rw [hL1, seg_at (by rw [hVl]; omega) (.inr (by rw [hVl]; omega)), hat _ (by omega), ← bcl_drop _ _ _ (by omega)]
   exact hq) (by rw [hCl, List.size_toArray]; omega) (bcl_one _)
  rw [h9, hW2, hL2]
 have h8 := seg_two' (L := cur.toList) (A := bcl (bs.take i)) (V := bcl now) (C := bcl (bs.drop j)) (by rw [hAl]; exact hAt) (by rw [hAl, hVl, hCl, hcl]; omega)
 have h82 : L2.take ((i + now.length + (bs.length - j)) * 2) = bcl (bs.take i) ++ bcl now ++ bcl (bs.drop j) := by
  rw [hAl, hVl, hCl] at h8
  rw [hL2, hL1, show (i + now.length + (bs.length - j)) * 2 = i * 2 + now.length * 2 + (bs.length - j) * 2 by omega, show (i + now.length) * 2 = i * 2 + now.length * 2 by omega]
  exact h8
 have hgr2 : w.grownBy W2 (some g) := by
  rw [hW2, hW1]
  refine ⟨rfl, rfl, rfl, by simp, fun k hk h2 => (setRow_other _ _ _ _ (fun e => h2 (by rw [e]))).trans ?_⟩
  exact (setRow_other (w.drew) g k L1.toArray (fun e => h2 (by rw [e]))).trans rfl
 have hcr : Hid (∀ ty A c, (Builtin.clear_ #[159] ty #[.slice A 0 c]).run Tryz.prog W2 = .ok (.tuple #[]) W2) := fun ty A c => run_clear_none W2 _ _ ty A c Tryz.underlying159
 have FIN : Hid (OwnBr g W2 (.slice (some ⟨g, 0, none⟩) (i + now.length + (bs.length - j)) cap) (rplc bs i j now) ∧ w.grownBy W2 (some g)) := by
  have h9 := rep_own (w0 := w) hg2 (show i + now.length + (bs.length - j) ≤ cap by omega) hcm hl2 (by omega) h82 hgr2
  rw [setRow_self W2 g L2.toArray _ _ hg2] at h9
  exact h9
 obtain ⟨n, hn⟩ : ∃ n, n = bs.length := ⟨_, rfl⟩
 obtain ⟨m, hm⟩ : ∃ m, m = now.length := ⟨_, rfl⟩
 obtain ⟨IM, hIM⟩ : ∃ q, q = i + now.length := ⟨_, rfl⟩
 obtain ⟨D, hD⟩ : ∃ q, q = bs.length - j := ⟨_, rfl⟩
 obtain ⟨T, hT⟩ : ∃ q, q = i + now.length + (bs.length - j) := ⟨_, rfl⟩
 rw [← hT] at hcp1 FIN
 rw [← hIM] at hcp2 hx
 rw [← hD] at hcp2
 rw [← hn, ← hm]
 rw [← hm] at hcp1 hm0
 have f1 : n - j = D := by omega
 have f2 : T - IM = D := by omega
 have f3 : (i : Int) + (m : Int) = (IM : Int) := by omega
 have f4 : (IM : Int) + (D : Int) = (T : Int) := by omega
 have f5 : IntKind.i64.wrap (IM : Int) = (IM : Int) := IntWalk.i64_in _ (by omega)
 have f6 : IntKind.i64.wrap (T : Int) = (T : Int) := IntWalk.i64_in _ (by omega)
 have f7 : ((i : Int) == (j : Int)) = false := by simp; omega
 have f8 : ((j : Int) == (n : Int)) = false := by simp; omega
 have f10 : ¬ (cap = i) := by omega
 have f11 : ¬ (cap = j) := by omega
 have f14 : i ≤ j := by omega
 have f15 : j ≤ n := by omega
 have f16 : i ≤ n := by omega
 have f17 : IM ≤ T := by omega
 have f18 : i ≤ T := by omega
 have f19 : j ≤ cap := by omega
 have f20 : i ≤ cap := by omega
 have f9 : ¬ (cap = IM) := by omega
 have f12 : (IM : Int) ≤ (j : Int) := by omega
 have f13 : ¬ (T : Int) > (cap : Int) := by omega
 have f21 : T ≤ n := by omega
 have f22 : ¬ (cap = n) := by omega
 have f23 : T = n := by omega
 replace hn := hide hn
 replace hm := hide hm
 replace hIM := hide hIM
 replace hD := hide hD
 replace hT := hide hT
 clear hcs hct hcl hat hAt hAl hCl hVl hgd hbd hL1 hl1 hW1 hg1 hg1d hL2 hl2 hW2 hg2 h8 h82 hgr2 hg hb hne
 clear hcap hlt
 subst f23
 go_enter Tryz.func88, Tryz.ntmps88
 go_wp2_with fail
 refine wp_region_mid (fun _ => True) 12 12 mixed (by kernel_rfl) (fun _ _ _ _ h => h) trivial ?_
 dsimp only [List.take, List.drop]
 iterate 12
  refine take_one (v := ?_) (by rfl) ?_ ?_
  rotate_left
  ·rintro w' _
   go_simp
   try with_reducible rfl
  try simp only [Act.put, List.setIfInBounds_toArray, List.set_cons_zero, List.set_cons_succ]
 show wpList _ _ _ _ _ _
 go_wp2_with (simp only [hcp1.out, Result.andThen_ok])
 refine wp_region_mid (fun _ => True) 9 9 mixed (by kernel_rfl) (fun _ _ _ _ h => h) trivial ?_
 dsimp only [List.take, List.drop]
 iterate 9
  refine take_one (v := ?_) (by rfl) ?_ ?_
  rotate_left
  ·rintro w' _
   go_simp
   try with_reducible rfl
  try simp only [Act.put, List.setIfInBounds_toArray, List.set_cons_zero, List.set_cons_succ]
 show wpList _ _ _ _ _ _
 refine wpList_run_copy _ rfl _ _ 159 159 rfl _ _ rfl rfl _ _ (hcp2.out _ _ _) ?_
 go_wp2_with (simp only [hcr.out, Result.andThen_ok])
 go_ret
 exact ⟨_, rfl, FIN.out.1, FIN.out.2⟩
end Go.Proofs.YtpiikmkajckccaaGreat

namespace Go.Proofs.YtpiikmkajckccaaGreat
open Go.RowKit
set_option maxRecDepth 100000 in
set_option maxHeartbeats 4000000 in
theorem prep_gone (w : World) (bs : List Br) (g cap i j : Nat) (cur : Array Value) (hg : w.heap[g]? = some (.cells cur 162 (0, 0))) (hcs : cur.size = cap * 2) (hct : cur.toList.take (bs.length * 2) = bcl bs) (hcm : cap ≤ 9223372036854775807) (hkc : bs.length ≤ cap) (hl : bs.length ≤ 1000) (hij : i < j) (hj : j < bs.length) :
  Calls Tryz.prog 88 #[.slice (some ⟨g, 0, none⟩) bs.length cap, .int .i64 (i : Int), .int .i64 (j : Int), .slice none 0 0] w fun e w' => ∃ v', e = .returned v' ∧ OwnBr g w' v' (rplc bs i j []) ∧ w.grownBy w' (some g) := by
 have hcl : cur.toList.length = cap * 2 := by rw [Array.length_toList]; exact hcs
 have hat : ∀ q, q < bs.length * 2 → cur.toList[q]? = (bcl bs)[q]? := fun q hq => by rw [← hct, List.getElem?_take, if_pos hq]
 have hAt := rep_front hct (show i ≤ bs.length by omega)
 have hAl : (bcl (bs.take i)).length = i * 2 := by rw [bcl_len, List.length_take]; congr 1; omega
 have hCl : (bcl (bs.drop j)).length = (bs.length - j) * 2 := by rw [bcl_len, List.length_drop]
 have hgd : w.drew.drew.heap[g]? = some (.cells cur 162 (0, 0)) := drewHeap (drewHeap hg)
 have hcp1 : Hid (∀ ty dl dc, (Builtin.copy_ #[159, 159] ty #[.slice (some ⟨g, i * 2, none⟩) dl dc, .slice none 0 0]).run Tryz.prog w.drew = .ok (goInt 0) w.drew) := fun ty dl dc => run_copyN_none w.drew _ _ ty _ 2 _ dl dc Tryz.underlying159 sizeBr
 obtain ⟨L2, hL2⟩ : ∃ L, L = seg cur.toList (i * 2) (bcl (bs.drop j)) := ⟨_, rfl⟩
 have hl2 : L2.length = cap * 2 := by rw [hL2, seg_len (by rw [hCl]; omega)]; exact hcl
 obtain ⟨W2, hW2⟩ : ∃ W, W = w.drew.drew.setRow g L2.toArray := ⟨_, rfl⟩
 have hg2 : W2.heap[g]? = some (.cells L2.toArray 162 (0, 0)) := by rw [hW2]; exact setRow_heap _ g cur _ _ _ hgd
 have hcp2 : Hid (∀ ty dc sc, (Builtin.copy_ #[159, 159] ty #[.slice (some ⟨g, i * 2, none⟩) (bs.length - j) dc, .slice (some ⟨g, j * 2, none⟩) (bs.length - j) sc]).run Tryz.prog w.drew.drew = .ok (goInt (bs.length - j : Nat)) W2) := fun ty dc sc => by
  have h9 := run_copyN (P := Tryz.prog) w.drew.drew 159 159 ty 162 2 g (i * 2) (bs.length - j) dc ⟨g, j * 2, none⟩ (bs.length - j) sc cur 162 (bcl (bs.drop j)) (bs.length - j) Tryz.underlying159 sizeBr hgd (by show _ = min _ _; omega) hCl (fun q v hq => by
   rw [Addr.add_lit, cell_rowB hgd]
   have hql := (List.getElem?_eq_some_iff.1 hq).1
   rw [hCl] at hql
   rw [hat _ (by omega), ← bcl_drop _ _ _ (by omega)]
   exact hq) (by rw [hCl, hcs]; omega) (bcl_one _)
  rw [h9, hW2, hL2]
 have h82 : L2.take ((i + (bs.length - j)) * 2) = bcl (bs.take i) ++ bcl (bs.drop j) := by
  rw [hL2, seg, hAt, List.take_left' (by rw [List.length_append, hAl, hCl]; omega)]
 have hgr2 : w.grownBy W2 (some g) := by
  rw [hW2]
  exact ⟨rfl, rfl, rfl, by simp, fun k hk h2 => (setRow_other _ _ _ _ (fun e => h2 (by rw [e]))).trans rfl⟩
 obtain ⟨L3, hL3⟩ : ∃ L, L = seg L2 ((i + (bs.length - j)) * 2) (Builtin.zeroCells (Value.agg #[.string ⟨#[]⟩, .int .i64 0]).cells (bs.length - (i + (bs.length - j)))).toList := ⟨_, rfl⟩
 have hl3 : L3.length = cap * 2 := by rw [hL3, seg_len (by rw [zbl]; omega)]; exact hl2
 have hcr : Hid (∀ ty c, (Builtin.clear_ #[159] ty #[.slice (some ⟨g, (i + (bs.length - j)) * 2, none⟩) (bs.length - (i + (bs.length - j))) c]).run Tryz.prog W2 = .ok (.tuple #[]) (W2.setRow g L3.toArray)) := fun ty c => by
  have h9 := run_clearN (P := Tryz.prog) W2 159 162 ty _ 2 g ((i + (bs.length - j)) * 2) (bs.length - (i + (bs.length - j))) c L2.toArray 162 Tryz.underlying159 zeroBr rfl zb_one hg2 (by rw [List.size_toArray]; omega) (by omega)
  rw [h9, hL3]
 have FIN : Hid (OwnBr g (W2.setRow g L3.toArray) (.slice (some ⟨g, 0, none⟩) (i + (bs.length - j)) cap) (rplc bs i j []) ∧ w.grownBy (W2.setRow g L3.toArray) (some g)) := by
  have h9 := rep_own (now := []) hg2 (show i + ([] : List Br).length + (bs.length - j) ≤ cap by simp; omega) hcm hl3 (show i ≤ bs.length by omega) (by
   rw [hL3]
   simp only [List.length_nil, Nat.add_zero]
   rw [seg_take (by rw [zbl]; omega) (Nat.le_refl _), h82]
   simp [bcl]) hgr2
  simp only [List.length_nil, Nat.add_zero] at h9
  exact h9
 obtain ⟨n, hn⟩ : ∃ n, n = bs.length := ⟨_, rfl⟩
 obtain ⟨D, hD⟩ : ∃ q, q = bs.length - j := ⟨_, rfl⟩
 obtain ⟨T, hT⟩ : ∃ q, q = i + (bs.length - j) := ⟨_, rfl⟩
 rw [← hT] at hcr FIN
 rw [← hD] at hcp2
 rw [← hn] at hcr ⊢
 have f1 : n - j = D := by omega
 have f2 : T - i = D := by omega
 have f4 : (i : Int) + (D : Int) = (T : Int) := by omega
 have f5 : IntKind.i64.wrap (i : Int) = (i : Int) := IntWalk.i64_in _ (by omega)
 have f6 : IntKind.i64.wrap (T : Int) = (T : Int) := IntWalk.i64_in _ (by omega)
 have f7 : ((i : Int) == (j : Int)) = false := by simp; omega
 have f8 : ((j : Int) == (n : Int)) = false := by simp; omega
 have f10 : ¬ (cap = i) := by omega
 have f11 : ¬ (cap = j) := by omega
 have f12 : (i : Int) ≤ (j : Int) := by omega
 have f13 : ¬ (T : Int) > (cap : Int) := by omega
 have f14 : i ≤ j := by omega
 have f15 : j ≤ n := by omega
 have f16 : i ≤ n := by omega
 have f18 : i ≤ T := by omega
 have f19 : j ≤ cap := by omega
 have f20 : i ≤ cap := by omega
 have f21 : T ≤ n := by omega
 have f22 : ¬ (cap = T) := by omega
 replace hn := hide hn
 replace hD := hide hD
 replace hT := hide hT
 clear hcs hct hcl hat hAt hAl hCl hgd hL2 hl2 hW2 hg2 h82 hgr2 hg hL3 hl3
 go_enter Tryz.func88, Tryz.ntmps88
 go_wp2_with fail
 refine wp_region_mid (fun _ => True) 12 12 mixed (by kernel_rfl) (fun _ _ _ _ h => h) trivial ?_
 dsimp only [List.take, List.drop]
 iterate 12
  refine take_one (v := ?_) (by rfl) ?_ ?_
  rotate_left
  ·rintro w' _
   go_simp
   try with_reducible rfl
  try simp only [Act.put, List.setIfInBounds_toArray, List.set_cons_zero, List.set_cons_succ]
 show wpList _ _ _ _ _ _
 go_wp2_with (simp only [hcp1.out, Result.andThen_ok])
 refine wp_region_mid (fun _ => True) 9 9 mixed (by kernel_rfl) (fun _ _ _ _ h => h) trivial ?_
 dsimp only [List.take, List.drop]
 iterate 9
  refine take_one (v := ?_) (by rfl) ?_ ?_
  rotate_left
  ·rintro w' _
   go_simp
   try with_reducible rfl
  try simp only [Act.put, List.setIfInBounds_toArray, List.set_cons_zero, List.set_cons_succ]
 show wpList _ _ _ _ _ _
 refine wpList_run_copy _ rfl _ _ 159 159 rfl _ _ rfl rfl _ _ (hcp2.out _ _ _) ?_
 go_wp2_with (simp only [hcr.out, Result.andThen_ok])
 go_ret
 exact ⟨_, rfl, FIN.out.1, FIN.out.2⟩
set_option maxRecDepth 100000 in
set_option maxHeartbeats 4000000 in
theorem prep_grow (w : World) (bs now : List Br) (g cap i j : Nat) (cur : Array Value) (hg : w.heap[g]? = some (.cells cur 162 (0, 0))) (hcs : cur.size = cap * 2) (hct : cur.toList.take (bs.length * 2) = bcl bs) (hcm : cap ≤ 9223372036854775807) (hkc : bs.length ≤ cap) (hl : bs.length ≤ 1000) (hij : i < j) (gn : Nat) (hb : w.heap[gn]? = some (.cells (bcl now).toArray 162 (0, 0))) (hne : g ≠ gn) (hj : j < bs.length) (hm0 : 0 < now.length) (hm2 : now.length ≤ 2) (hroom : cap < i + now.length + (bs.length - j)) :
  Calls Tryz.prog 88 #[.slice (some ⟨g, 0, none⟩) bs.length cap, .int .i64 (i : Int), .int .i64 (j : Int), .slice (some ⟨gn, 0, none⟩) now.length now.length] w fun e w' => ∃ v', e = .returned v' ∧ OwnBr w.heap.size w' v' (rplc bs i j now) ∧ w.grownBy w' (some g) := by
 have hcl : cur.toList.length = cap * 2 := by rw [Array.length_toList]; exact hcs
 have hat : ∀ q, q < bs.length * 2 → cur.toList[q]? = (bcl bs)[q]? := fun q hq => by rw [← hct, List.getElem?_take, if_pos hq]
 have hAt := rep_front hct (show i ≤ bs.length by omega)
 have hAl : (bcl (bs.take i)).length = i * 2 := by rw [bcl_len, List.length_take]; congr 1; omega
 have hCl : (bcl (bs.drop j)).length = (bs.length - j) * 2 := by rw [bcl_len, List.length_drop]
 have hVl := bcl_len now
 obtain ⟨i0, hi0, hz0, hz1, hz2⟩ := info_parts infoBr
 have hgd : w.drew.heap[g]? = some (.cells cur 162 (0, 0)) := drewHeap hg
 obtain ⟨G, ROW, hr, hR1, hR2, hR3, hR4⟩ := run_growN w.drew 159 3 159 162 i0 _ .i64 2 24 Tryz.underlying159 Tryz.underlying3 hi0 hz0 hz1 hz2 rfl (by omega) g cap i (now.length + (bs.length - j)) cur (bcl (bs.take i)) hgd hAl hAt (by omega) (by omega) (by omega) (by omega) (by omega)
 have hik : i + (now.length + (bs.length - j)) = i + now.length + (bs.length - j) := by omega
 rw [hik] at hr hR3
 rw [hAl] at hR2
 have hsz : w.drew.heap.size = w.heap.size := rfl
 rw [hsz] at hr
 obtain ⟨W1, hW1⟩ : ∃ W, W = w.drew.drew.alloc (.cells ROW 162) := ⟨_, rfl⟩
 have hd1 : W1.heap[w.heap.size]? = some (.cells ROW 162 (0, 0)) := by rw [hW1]; exact heap_alloc_last w.drew.drew _
 have hgl : g < w.heap.size := lt_of_block hg
 have hvl : gn < w.heap.size := lt_of_block hb
 have ho1 : ∀ k, k < w.heap.size → W1.heap[k]? = w.heap[k]? := fun k hk => by
  rw [hW1]
  simp only [World.alloc, Array.getElem?_push]
  rw [if_neg (show k ≠ w.drew.drew.heap.size from by have : w.drew.drew.heap.size = w.heap.size := rfl; omega)]
  rfl
 have hs1 : W1.heap.size = w.heap.size + 1 := by rw [hW1]; simp [World.alloc]
 have hRl : ROW.toList.length = G * 2 := by rw [Array.length_toList, hR1]
 obtain ⟨L2, hL2⟩ : ∃ L, L = seg ROW.toList (i * 2) (bcl now) := ⟨_, rfl⟩
 have hl2 : L2.length = G * 2 := by rw [hL2, seg_len (by rw [hVl, hRl]; omega)]; exact hRl
 obtain ⟨W2, hW2⟩ : ∃ W, W = W1.setRow w.heap.size L2.toArray := ⟨_, rfl⟩
 have hd2 : W2.heap[w.heap.size]? = some (.cells L2.toArray 162 (0, 0)) := by rw [hW2]; exact setRow_heap _ _ _ _ _ _ hd1
 have hd2' : W2.drew.heap[w.heap.size]? = some (.cells L2.toArray 162 (0, 0)) := drewHeap hd2
 have ho2 : ∀ k, k < w.heap.size → W2.heap[k]? = w.heap[k]? := fun k hk => by rw [hW2]; exact (setRow_other _ _ _ _ (by omega)).trans (ho1 k hk)
 have hcp1 : Hid (∀ ty dc, (Builtin.copy_ #[159, 159] ty #[.slice (some ⟨w.heap.size, i * 2, none⟩) (i + now.length + (bs.length - j) - i) dc, .slice (some ⟨gn, 0, none⟩) now.length now.length]).run Tryz.prog W1 = .ok (goInt now.length) W2) := fun ty dc => by
  have h9 := run_copyN (P := Tryz.prog) W1 159 159 ty 162 2 w.heap.size (i * 2) (i + now.length + (bs.length - j) - i) dc ⟨gn, 0, none⟩ now.length now.length ROW 162 (bcl now) now.length Tryz.underlying159 sizeBr hd1 (by show _ = min _ _; omega) hVl (fun q v hq => by
   rw [Addr.add_lit, cell_rowB ((ho1 gn hvl).trans hb)]
   simpa using hq) (by rw [hVl, hR1]; omega) (bcl_one _)
  rw [h9, hW2, hL2]
 obtain ⟨L3, hL3⟩ : ∃ L, L = seg L2 ((i + now.length) * 2) (bcl (bs.drop j)) := ⟨_, rfl⟩
 have hl3 : L3.length = G * 2 := by rw [hL3, seg_len (by rw [hCl]; omega)]; exact hl2
 obtain ⟨W3, hW3⟩ : ∃ W, W = W2.drew.setRow w.heap.size L3.toArray := ⟨_, rfl⟩
 have hcp2 : Hid (∀ ty dc sc, (Builtin.copy_ #[159, 159] ty #[.slice (some ⟨w.heap.size, (i + now.length) * 2, none⟩) (bs.length - j) dc, .slice (some ⟨g, j * 2, none⟩) (bs.length - j) sc]).run Tryz.prog W2.drew = .ok (goInt (bs.length - j : Nat)) W3) := fun ty dc sc => by
  have h9 := run_copyN (P := Tryz.prog) W2.drew 159 159 ty 162 2 w.heap.size ((i + now.length) * 2) (bs.length - j) dc ⟨g, j * 2, none⟩ (bs.length - j) sc L2.toArray 162 (bcl (bs.drop j)) (bs.length - j) Tryz.underlying159 sizeBr hd2' (by show _ = min _ _; omega) hCl (fun q v hq => by
   rw [Addr.add_lit, cell_rowB (w := W2.drew) (drewHeap ((ho2 g hgl).trans hg))]
   have hql := (List.getElem?_eq_some_iff.1 hq).1
   rw [hCl] at hql
   rw [hat _ (by omega), ← bcl_drop _ _ _ (by omega)]
   exact hq) (by rw [hCl, List.size_toArray]; omega) (bcl_one _)
  rw [h9, hW3, hL3]
 have h8 := seg_two' (L := ROW.toList) (A := bcl (bs.take i)) (V := bcl now) (C := bcl (bs.drop j)) (by rw [hAl]; exact hR2) (by rw [hAl, hVl, hCl, hRl]; omega)
 have h82 : L3.take ((i + now.length + (bs.length - j)) * 2) = bcl (rplc bs i j now) := by
  rw [hAl, hVl, hCl] at h8
  rw [rplc_bcl, hL3, hL2, show (i + now.length + (bs.length - j)) * 2 = i * 2 + now.length * 2 + (bs.length - j) * 2 by omega, show (i + now.length) * 2 = i * 2 + now.length * 2 by omega]
  exact h8
 have FIN : Hid (OwnBr w.heap.size W3 (.slice (some ⟨w.heap.size, 0, none⟩) (i + now.length + (bs.length - j)) G) (rplc bs i j now) ∧ w.grownBy W3 (some g)) := by
  have hrow := row_set (B := w.heap.size) (k := i + now.length + (bs.length - j)) (cap := G) (n := 2) hd2' (Nat.le_refl _) hR3 (by unfold maxLen; exact hR4) hl3 (by rw [bcl_len, rplc_len (by omega)]) h82
  refine ⟨?_, ?_⟩
  ·have := hrow.1
   rw [← hW3] at this
   show World.ownsRow _ _ _ _ _ _ _
   rw [rplc_len (by omega)]; exact this
  ·refine ⟨by rw [hW3, hW2, hW1]; rfl, by rw [hW3, hW2, hW1]; rfl, by rw [hW3, hW2, hW1]; rfl, ?_, fun k hk _ => ?_⟩
   ·rw [hW3, setRow_size]
    show w.heap.size ≤ W2.heap.size
    rw [hW2, setRow_size, hs1]; omega
   ·rw [hW3]
    exact (setRow_other _ _ _ _ (by omega)).trans (ho2 k hk)
 rw [← hW1] at hr
 obtain ⟨n, hn⟩ : ∃ n, n = bs.length := ⟨_, rfl⟩
 obtain ⟨m, hm⟩ : ∃ m, m = now.length := ⟨_, rfl⟩
 obtain ⟨IM, hIM⟩ : ∃ q, q = i + now.length := ⟨_, rfl⟩
 obtain ⟨D, hD⟩ : ∃ q, q = bs.length - j := ⟨_, rfl⟩
 obtain ⟨T, hT⟩ : ∃ q, q = i + now.length + (bs.length - j) := ⟨_, rfl⟩
 rw [← hT] at hcp1 FIN hroom hr hR3
 rw [← hIM] at hcp2
 rw [← hD] at hcp2
 rw [← hn, ← hm]
 rw [← hm] at hcp1 hm0 hm2
 have f1 : n - j = D := by omega
 have f2 : T - IM = D := by omega
 have f3 : (i : Int) + (m : Int) = (IM : Int) := by omega
 have f4 : (IM : Int) + (D : Int) = (T : Int) := by omega
 have f5 : IntKind.i64.wrap (IM : Int) = (IM : Int) := IntWalk.i64_in _ (by omega)
 have f6 : IntKind.i64.wrap (T : Int) = (T : Int) := IntWalk.i64_in _ (by omega)
 have f7 : ((i : Int) == (j : Int)) = false := by simp; omega
 have f8 : ((j : Int) == (n : Int)) = false := by simp; omega
 have f10 : ¬ (cap = i) := by omega
 have f11 : ¬ (cap = j) := by omega
 have f14 : i ≤ j := by omega
 have f15 : j ≤ n := by omega
 have f16 : i ≤ n := by omega
 have f17 : IM ≤ T := by omega
 have f18 : i ≤ T := by omega
 have f19 : j ≤ cap := by omega
 have f20 : i ≤ cap := by omega
 have f9 : ¬ (G = IM) := by omega
 have f12 : ¬ (G = i) := by omega
 have f13 : (T : Int) > (cap : Int) := by omega
 have f23 : IntKind.i64.wrap ((T : Int) - (i : Int)) = (T : Int) - (i : Int) := IntWalk.i64_in _ (by omega)
 have hap : Hid ((Builtin.append_ #[159, 3] 159 #[.slice (some ⟨g, 0, none⟩) i cap, .int .i64 ((T : Int) - (i : Int))]).run Tryz.prog w.drew = .ok (.slice (some ⟨w.heap.size, 0, none⟩) T G) W1) := by
  show _ = _
  rw [show (T : Int) - (i : Int) = ((now.length + (bs.length - j) : Nat) : Int) by omega]
  exact hr
 replace hn := hide hn
 replace hm := hide hm
 replace hIM := hide hIM
 replace hD := hide hD
 replace hT := hide hT
 clear hcs hct hcl hat hAt hAl hCl hVl hgd hg hb hne hr hR1 hR2 hR4 hik hsz hW1 hd1 hgl hvl ho1 hs1 hRl hL2 hl2 hW2 hd2 hd2' ho2 hL3 hl3 hW3 h8 h82 hi0 hz0 hz1
 go_enter Tryz.func88, Tryz.ntmps88
 go_wp2_with fail
 refine wp_region_mid (fun _ => True) 12 12 mixed (by kernel_rfl) (fun _ _ _ _ h => h) trivial ?_
 dsimp only [List.take, List.drop]
 iterate 12
  refine take_one (v := ?_) (by rfl) ?_ ?_
  rotate_left
  ·rintro w' _
   go_simp
   try with_reducible rfl
  try simp only [Act.put, List.setIfInBounds_toArray, List.set_cons_zero, List.set_cons_succ]
 show wpList _ _ _ _ _ _
 go_wp2_with (first | (at_builtin; refine Lib.wpList_append_run _ rfl _ _ _ _ rfl _ _ rfl rfl _ _ hap.out ?_) | simp only [hcp1.out, Result.andThen_ok])
 refine wp_region_mid (fun _ => True) 9 9 mixed (by kernel_rfl) (fun _ _ _ _ h => h) trivial ?_
 dsimp only [List.take, List.drop]
 iterate 9
  refine take_one (v := ?_) (by rfl) ?_ ?_
  rotate_left
  ·rintro w' _
   go_simp
   try with_reducible rfl
  try simp only [Act.put, List.setIfInBounds_toArray, List.set_cons_zero, List.set_cons_succ]
 show wpList _ _ _ _ _ _
 refine wpList_run_copy _ rfl _ _ 159 159 rfl _ _ rfl rfl _ _ (hcp2.out _ _ _) ?_
 go_wp2
 go_ret
 exact ⟨_, rfl, FIN.out.1, FIN.out.2⟩
end Go.Proofs.YtpiikmkajckccaaGreat

namespace Go.Proofs.YtpiikmkajckccaaGreat
open Go.RowKit
theorem rplc_end (bs now : List Br) (i : Nat) : rplc bs i bs.length now = bs.take i ++ now := by unfold rplc; rw [List.drop_length, List.append_nil]
set_option maxRecDepth 100000 in
set_option maxHeartbeats 4000000 in
theorem prep_endN (w : World) (bs : List Br) (g cap i : Nat) (cur : Array Value) (hg : w.heap[g]? = some (.cells cur 162 (0, 0))) (hcs : cur.size = cap * 2) (hct : cur.toList.take (bs.length * 2) = bcl bs) (hcm : cap ≤ 9223372036854775807) (hkc : bs.length ≤ cap) (hl : bs.length ≤ 1000) (hij : i < bs.length) :
  Calls Tryz.prog 88 #[.slice (some ⟨g, 0, none⟩) bs.length cap, .int .i64 (i : Int), .int .i64 (bs.length : Int), .slice none 0 0] w fun e w' => ∃ v', e = .returned v' ∧ OwnBr g w' v' (rplc bs i bs.length []) ∧ w.grownBy w' (some g) := by
 have hcl : cur.toList.length = cap * 2 := by rw [Array.length_toList]; exact hcs
 have hAt := rep_front hct (show i ≤ bs.length by omega)
 have hAl : (bcl (bs.take i)).length = i * 2 := by rw [bcl_len, List.length_take]; congr 1; omega
 obtain ⟨i0, hi0, hz0, hz1, hz2⟩ := info_parts infoBr
 have hown : w.ownsRow g 162 2 (.slice (some ⟨g, 0, none⟩) i cap) i (bcl (bs.take i)) := ⟨hAl, .inr ⟨g, cap, cur, rfl, Nat.le_refl _, hg, by omega, by unfold maxLen; exact hcm, hcs, hAt⟩⟩
 have hap : Hid ((Builtin.append_ #[159, 159] 159 #[.slice (some ⟨g, 0, none⟩) i cap, .slice none 0 0]).run Tryz.prog w = .ok (.slice (some ⟨g, 0, none⟩) i cap) w) :=
  run_append_owned_none (P := Tryz.prog) (w := w) g 159 _ 162 i0 2 Tryz.underlying159 hi0 _ i _ hown
 obtain ⟨L3, hL3⟩ : ∃ L, L = seg cur.toList (i * 2) (Builtin.zeroCells (Value.agg #[.string ⟨#[]⟩, .int .i64 0]).cells (bs.length - i)).toList := ⟨_, rfl⟩
 have hl3 : L3.length = cap * 2 := by rw [hL3, seg_len (by rw [zbl]; omega)]; exact hcl
 have hcr : Hid (∀ ty c, (Builtin.clear_ #[159] ty #[.slice (some ⟨g, i * 2, none⟩) (bs.length - i) c]).run Tryz.prog w = .ok (.tuple #[]) (w.setRow g L3.toArray)) := fun ty c => by
  have h9 := run_clearN (P := Tryz.prog) w 159 162 ty _ 2 g (i * 2) (bs.length - i) c cur 162 Tryz.underlying159 zeroBr rfl zb_one hg (by rw [hcs]; omega) (by omega)
  rw [h9, hL3]
 have FIN : Hid (OwnBr g (w.setRow g L3.toArray) (.slice (some ⟨g, 0, none⟩) i cap) (rplc bs i bs.length []) ∧ w.grownBy (w.setRow g L3.toArray) (some g)) := by
  have h9 := rep_own (now := []) (j := bs.length) (w0 := w) hg (show i + ([] : List Br).length + (bs.length - bs.length) ≤ cap by simp; omega) hcm hl3 (show i ≤ bs.length by omega) (by
   rw [hL3]
   simp only [List.length_nil, Nat.add_zero, Nat.sub_self]
   rw [seg_take (by rw [zbl]; omega) (Nat.le_refl _), hAt]
   simp [bcl]) (World.grownBy.refl _ _)
  simp only [List.length_nil, Nat.add_zero, Nat.sub_self] at h9
  exact h9
 obtain ⟨n, hn⟩ : ∃ n, n = bs.length := ⟨_, rfl⟩
 rw [← hn] at hcr FIN hij ⊢
 have f7 : ((i : Int) == (n : Int)) = false := by simp; omega
 have f8 : ((n : Int) == (n : Int)) = true := by simp
 have f10 : ¬ (cap = i) := by omega
 have f16 : i ≤ n := by omega
 have f20 : i ≤ cap := by omega
 have f24 : n ≤ cap := by omega
 have f21 : (i : Int) < (n : Int) := by omega
 replace hn := hide hn
 clear hcs hct hcl hAt hAl hg hL3 hl3 hown hi0 hz0 hz1
 go_enter Tryz.func88, Tryz.ntmps88
 go_wp2_with (first | (at_builtin; refine Lib.wpList_append_run _ rfl _ _ _ _ rfl _ _ rfl rfl _ _ hap.out ?_) | simp only [hcr.out, Result.andThen_ok])
 go_ret
 exact ⟨_, rfl, FIN.out.1, FIN.out.2⟩
set_option maxRecDepth 100000 in
set_option maxHeartbeats 4000000 in
theorem prep_endC (w : World) (bs now : List Br) (g cap i : Nat) (cur : Array Value) (hg : w.heap[g]? = some (.cells cur 162 (0, 0))) (hcs : cur.size = cap * 2) (hct : cur.toList.take (bs.length * 2) = bcl bs) (hcm : cap ≤ 9223372036854775807) (hkc : bs.length ≤ cap) (hl : bs.length ≤ 1000) (hij : i < bs.length) (gn : Nat) (hb : w.heap[gn]? = some (.cells (bcl now).toArray 162 (0, 0))) (hne : g ≠ gn) (hm0 : 0 < now.length) (hlt : i + now.length < bs.length) :
  Calls Tryz.prog 88 #[.slice (some ⟨g, 0, none⟩) bs.length cap, .int .i64 (i : Int), .int .i64 (bs.length : Int), .slice (some ⟨gn, 0, none⟩) now.length now.length] w fun e w' => ∃ v', e = .returned v' ∧ OwnBr g w' v' (rplc bs i bs.length now) ∧ w.grownBy w' (some g) := by
 have hcl : cur.toList.length = cap * 2 := by rw [Array.length_toList]; exact hcs
 have hAt := rep_front hct (show i ≤ bs.length by omega)
 have hAl : (bcl (bs.take i)).length = i * 2 := by rw [bcl_len, List.length_take]; congr 1; omega
 have hVl := bcl_len now
 obtain ⟨i0, hi0, hz0, hz1, hz2⟩ := info_parts infoBr
 obtain ⟨L1, hL1⟩ : ∃ L, L = seg cur.toList (i * 2) (bcl now) := ⟨_, rfl⟩
 have hl1 : L1.length = cap * 2 := by rw [hL1, seg_len (by rw [hVl]; omega)]; exact hcl
 obtain ⟨W1, hW1⟩ : ∃ W, W = w.setRow g L1.toArray := ⟨_, rfl⟩
 have hg1 : W1.heap[g]? = some (.cells L1.toArray 162 (0, 0)) := by rw [hW1]; exact setRow_heap _ g cur _ _ _ hg
 have hap : Hid ((Builtin.append_ #[159, 159] 159 #[.slice (some ⟨g, 0, none⟩) i cap, .slice (some ⟨gn, 0, none⟩) now.length now.length]).run Tryz.prog w = .ok (.slice (some ⟨g, 0, none⟩) (i + now.length) cap) W1) := by
  have h9 := run_append_room (P := Tryz.prog) w 159 159 162 i0 Tryz.underlying159 hi0 g i cap cur hg ⟨gn, 0, none⟩ now.length now.length (bcl now) (by rw [hz1]; exact hVl) (fun q v hq => by
   rw [Addr.add_lit, cell_rowB hb]
   simpa using hq) (bcl_one _) (by omega) (by rw [hz1, hVl, hcs]; omega)
  show _ = _
  rw [h9, hW1, hL1, hz1]
  rfl
 obtain ⟨L3, hL3⟩ : ∃ L, L = seg L1 ((i + now.length) * 2) (Builtin.zeroCells (Value.agg #[.string ⟨#[]⟩, .int .i64 0]).cells (bs.length - (i + now.length))).toList := ⟨_, rfl⟩
 have hl3 : L3.length = cap * 2 := by rw [hL3, seg_len (by rw [zbl]; omega)]; exact hl1
 have hcr : Hid (∀ ty c, (Builtin.clear_ #[159] ty #[.slice (some ⟨g, (i + now.length) * 2, none⟩) (bs.length - (i + now.length)) c]).run Tryz.prog W1 = .ok (.tuple #[]) (W1.setRow g L3.toArray)) := fun ty c => by
  have h9 := run_clearN (P := Tryz.prog) W1 159 162 ty _ 2 g ((i + now.length) * 2) (bs.length - (i + now.length)) c L1.toArray 162 Tryz.underlying159 zeroBr rfl zb_one hg1 (by rw [List.size_toArray]; omega) (by omega)
  rw [h9, hL3]
 have hgr : w.grownBy W1 (some g) := by
  rw [hW1]
  exact ⟨rfl, rfl, rfl, by simp, fun k hk h2 => (setRow_other _ _ _ _ (fun e => h2 (by rw [e]))).trans rfl⟩
 have FIN : Hid (OwnBr g (W1.setRow g L3.toArray) (.slice (some ⟨g, 0, none⟩) (i + now.length) cap) (rplc bs i bs.length now) ∧ w.grownBy (W1.setRow g L3.toArray) (some g)) := by
  have h9 := rep_own (j := bs.length) (w0 := w) hg1 (show i + now.length + (bs.length - bs.length) ≤ cap by omega) hcm hl3 (show i ≤ bs.length by omega) (by
   rw [hL3]
   simp only [Nat.sub_self, Nat.add_zero]
   rw [seg_take (by rw [zbl]; omega) (Nat.le_refl _), hL1, seg, hAt, List.drop_length, List.take_left' (by rw [List.length_append, hAl, hVl]; omega)]
   simp [bcl]) hgr
  simp only [Nat.add_zero, Nat.sub_self] at h9
  exact h9
 obtain ⟨n, hn⟩ : ∃ n, n = bs.length := ⟨_, rfl⟩
 obtain ⟨m, hm⟩ : ∃ m, m = now.length := ⟨_, rfl⟩
 obtain ⟨IM, hIM⟩ : ∃ q, q = i + now.length := ⟨_, rfl⟩
 rw [← hIM] at hap hcr FIN hlt
 rw [← hm] at hap ⊢
 rw [← hn] at hcr FIN hij hlt ⊢
 have f7 : ((i : Int) == (n : Int)) = false := by simp; omega
 have f8 : ((n : Int) == (n : Int)) = true := by simp
 have f10 : ¬ (cap = i) := by omega
 have f16 : i ≤ n := by omega
 have f20 : i ≤ cap := by omega
 have f24 : n ≤ cap := by omega
 have f21 : (IM : Int) < (n : Int) := by omega
 have f22 : ¬ (cap = IM) := by omega
 have f23 : IM ≤ n := by omega
 replace hn := hide hn
 replace hm := hide hm
 replace hIM := hide hIM
 clear hcs hct hcl hAt hAl hg hb hne hL1 hl1 hW1 hg1 hL3 hl3 hgr hVl hi0 hz0 hz1
 go_enter Tryz.func88, Tryz.ntmps88
 go_wp2_with (first | (at_builtin; refine Lib.wpList_append_run _ rfl _ _ _ _ rfl _ _ rfl rfl _ _ hap.out ?_) | simp only [hcr.out, Result.andThen_ok])
 go_ret
 exact ⟨_, rfl, FIN.out.1, FIN.out.2⟩
set_option maxRecDepth 100000 in
set_option maxHeartbeats 4000000 in
theorem prep_endD (w : World) (bs now : List Br) (g cap i : Nat) (cur : Array Value) (hg : w.heap[g]? = some (.cells cur 162 (0, 0))) (hcs : cur.size = cap * 2) (hct : cur.toList.take (bs.length * 2) = bcl bs) (hcm : cap ≤ 9223372036854775807) (hkc : bs.length ≤ cap) (hl : bs.length ≤ 1000) (hij : i < bs.length) (gn : Nat) (hb : w.heap[gn]? = some (.cells (bcl now).toArray 162 (0, 0))) (hne : g ≠ gn) (hm0 : 0 < now.length) (hm2 : now.length ≤ 2) (hlt : bs.length ≤ i + now.length) :
  Calls Tryz.prog 88 #[.slice (some ⟨g, 0, none⟩) bs.length cap, .int .i64 (i : Int), .int .i64 (bs.length : Int), .slice (some ⟨gn, 0, none⟩) now.length now.length] w fun e w' => ∃ v', e = .returned v' ∧ OwnBr g w' v' (rplc bs i bs.length now) ∧ w.grownBy w' (some g) := by
 have hcl : cur.toList.length = cap * 2 := by rw [Array.length_toList]; exact hcs
 have hAt := rep_front hct (show i ≤ bs.length by omega)
 have hAl : (bcl (bs.take i)).length = i * 2 := by rw [bcl_len, List.length_take]; congr 1; omega
 have hVl := bcl_len now
 obtain ⟨i0, hi0, hz0, hz1, hz2⟩ := info_parts infoBr
 have hown : w.ownsRow g 162 2 (.slice (some ⟨g, 0, none⟩) i cap) i (bcl (bs.take i)) := ⟨hAl, .inr ⟨g, cap, cur, rfl, Nat.le_refl _, hg, by omega, by unfold maxLen; exact hcm, hcs, hAt⟩⟩
 obtain ⟨g', c', W1, hap, ho, hgr, _, _⟩ := run_append_lies (P := Tryz.prog) w 159 159 g 162 i0 _ 2 24 Tryz.underlying159 hi0 hz0 hz1 hz2 rfl (by decide) _ i _ hown ⟨gn, 0, none⟩ now.length now.length (bcl now) hVl (fun q v hq => by
   rw [Addr.add_lit, cell_rowB hb]
   simpa using hq) (bcl_one _) hm0 (by unfold maxLen; omega) (by omega) (Nat.le_of_lt (lt_of_block hg)) _ rfl
 have FIN : Hid (OwnBr g W1 (.slice (some ⟨g', 0, none⟩) (i + now.length) c') (rplc bs i bs.length now) ∧ w.grownBy W1 (some g)) := by
  refine ⟨?_, hgr⟩
  show World.ownsRow _ _ _ _ _ _ _
  rw [rplc_end, bcl_app, show (bs.take i ++ now).length = i + now.length by rw [List.length_append, List.length_take]; omega]
  exact ho
 replace hap := hide hap
 obtain ⟨n, hn⟩ : ∃ n, n = bs.length := ⟨_, rfl⟩
 obtain ⟨m, hm⟩ : ∃ m, m = now.length := ⟨_, rfl⟩
 obtain ⟨IM, hIM⟩ : ∃ q, q = i + now.length := ⟨_, rfl⟩
 rw [← hIM] at hap FIN hlt
 rw [← hm] at hap ⊢
 rw [← hn] at FIN hij hlt ⊢
 have f7 : ((i : Int) == (n : Int)) = false := by simp; omega
 have f8 : ((n : Int) == (n : Int)) = true := by simp
 have f10 : ¬ (cap = i) := by omega
 have f16 : i ≤ n := by omega
 have f20 : i ≤ cap := by omega
 have f24 : n ≤ cap := by omega
 have f21 : ¬ (IM : Int) < (n : Int) := by omega
 replace hn := hide hn
 replace hm := hide hm
 replace hIM := hide hIM
 clear hcs hct hcl hAt hAl hg hb hne hVl hi0 hz0 hz1 hown ho hgr
 go_enter Tryz.func88, Tryz.ntmps88
 go_wp2_with (at_builtin; refine Lib.wpList_append_run _ rfl _ _ _ _ rfl _ _ rfl rfl _ _ hap.out ?_)
 go_ret
 exact ⟨_, rfl, FIN.out.1, FIN.out.2⟩
theorem prepl_any (B : Nat) (w : World) (v u : Value) (bs now : List Br) (i j : Nat) (h : OwnBr B w v bs) (hB : B ≤ w.heap.size) (hnow : (u = .slice none 0 0 ∧ now = []) ∨ (∃ gn, u = .slice (some ⟨gn, 0, none⟩) now.length now.length ∧ 0 < now.length ∧ w.heap[gn]? = some (.cells (bcl now).toArray 162 (0, 0)) ∧ ∀ b, v.ownBlock = some b → b ≠ gn))
  (hm2 : now.length ≤ 2) (hij : i < j) (hj : j ≤ bs.length) (hl : bs.length ≤ 1000) :
  Calls Tryz.prog 88 #[v, .int .i64 (i : Int), .int .i64 (j : Int), u] w fun e w' => ∃ v', e = .returned v' ∧ OwnBr B w' v' (rplc bs i j now) ∧ w.grownBy w' v.ownBlock := by
 obtain ⟨g, cap, cur, rfl, hBg, hg, hkc, hcm, hcs, hct⟩ := own_block h (by omega)
 unfold maxLen at hcm
 have hfin : ∀ (e : Ending) (w' : World), (∃ v', e = .returned v' ∧ OwnBr g w' v' (rplc bs i j now) ∧ w.grownBy w' (some g)) → ∃ v', e = .returned v' ∧ OwnBr B w' v' (rplc bs i j now) ∧ w.grownBy w' (Value.slice (some ⟨g, 0, none⟩) bs.length cap).ownBlock := by
  rintro e w' ⟨v', rfl, o, gr⟩
  exact ⟨v', rfl, rows_mono o hBg, gr⟩
 rcases hnow with ⟨rfl, rfl⟩ | ⟨gn, rfl, hm0, hb, hne⟩
 ·by_cases hje : j = bs.length
  ·subst hje
   exact (prep_endN w bs g cap i cur hg hcs hct hcm hkc hl hij).mono hfin
  ·exact (prep_gone w bs g cap i j cur hg hcs hct hcm hkc hl hij (by omega)).mono hfin
 ·have hgn : g ≠ gn := hne g rfl
  by_cases hje : j = bs.length
  ·subst hje
   by_cases hlt : i + now.length < bs.length
   ·exact (prep_endC w bs now g cap i cur hg hcs hct hcm hkc hl hij gn hb hgn hm0 hlt).mono hfin
   ·exact (prep_endD w bs now g cap i cur hg hcs hct hcm hkc hl hij gn hb hgn hm0 hm2 (by omega)).mono hfin
  ·by_cases hroom : i + now.length + (bs.length - j) ≤ cap
   ·by_cases hx : i + now.length ≤ j
    ·by_cases he : i + now.length = j
     ·by_cases hcap : cap = bs.length
      ·exact (prep_fitA w bs now g cap i j cur hg hcs hct hcm hkc hl hij gn hb hgn (by omega) hx hm0 he hcap).mono hfin
      ·exact (prep_fitB w bs now g cap i j cur hg hcs hct hcm hkc hl hij gn hb hgn (by omega) hx hm0 he hcap).mono hfin
     ·exact (prep_fitC w bs now g cap i j cur hg hcs hct hcm hkc hl hij gn hb hgn (by omega) hx hm0 (by omega)).mono hfin
    ·exact (prep_exp w bs now g cap i j cur hg hcs hct hcm hkc hl hij gn hb hgn (by omega) (by omega) hm2 hroom).mono hfin
   ·refine (prep_grow w bs now g cap i j cur hg hcs hct hcm hkc hl hij gn hb hgn (by omega) hm0 hm2 (by omega)).mono ?_
    rintro e w' ⟨v', rfl, o, gr⟩
    exact ⟨v', rfl, rows_mono o hB, gr⟩
end Go.Proofs.YtpiikmkajckccaaGreat
