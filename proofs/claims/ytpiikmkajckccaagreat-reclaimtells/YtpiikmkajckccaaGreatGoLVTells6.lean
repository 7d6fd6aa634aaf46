/- Several texts in one: TPt TPu TDe TWo TOg TPv TWt TBu TCp TOr VRB VPF VRC VRE VRF VAl. -/
import Derived.Test.YtpiikmkajckccaaGreatGoLVTells5
import Derived.Deep.QuietTactic
import Derived.BigQuiet
import Derived.Laws.Cover1
import Derived.OwnWalkIn
import Derived.Test.YtpiikmkajckccaaGreatGoLVTells1
import Derived.Test.YtpiikmkajckccaaGreatGoLVTells3
import Derived.Test.YtpiikmkajckccaaGreatGoLVTells4
import Derived.Test.YtpiikmkajckccaaGreatGoLVTells2
import Derived.Laws.AppendOwnNone
set_option linter.unusedVariables false
set_option linter.unusedSimpArgs false
namespace Go.Proofs.YtpiikmkajckccaaGreat
open Go.RowKit
structure Chg (t u : Tr) (ps' : List Pr) : Prop where
 prs : tprs u = some ps'
 nxt : t.next ≤ u.next ∧ u.next ≤ t.next + 40
 pgs : ∃ more, u.pages = t.pages ++ more ∧ more.length ≤ 40 ∧ ∀ x ∈ more, x.2.length ≤ 244
 num : TNum u
 rwf : (Lit.int .i64 u.root).wf = true
 how : u = t ∨ ∃ (key : Str) (upd : List Pr → List Pr) (ed : Nd → Nd) (d : Nat) (ps : List Pr), TTop t d ps ∧ EdOk key upd ed ∧ u = chgT t key ed d ∧ ps' = upd ps
theorem pgs_small : ∀ {z : Int} {ad : List Nd}, (∀ n ∈ ad, NOk n) → ∀ x ∈ pgs z ad, x.2.length ≤ 244
 | z, [], h, x, hx => by cases hx
 | z, n :: r, h, x, hx => by
  simp only [pgs, List.mem_cons] at hx
  rcases hx with rfl | hx
  ·have h1 := h n (List.mem_cons_self ..)
   have h2 := nenc_len h1
   have h3 := h1.2.2.2.2
   dsimp only
   omega
  ·exact pgs_small (fun n hn => h n (List.mem_cons_of_mem _ hn)) x hx
theorem chgR_len {t : Tr} {key : Str} {ed : Nd → Nd} {d : Nat} (hd : d ≤ 12) : (chgR t key ed d).2.length ≤ 27 := by
 unfold chgR
 have h1 := (reb_len t.pages t.next key ed d (topOf t) []).2
 have h2 := (root_len t.next (rebOf t.pages t.next key ed d (topOf t) []).2 (rebOf t.pages t.next key ed d (topOf t) []).1).2
 simp at h1
 omega
theorem TNum.rwf {t : Tr} (h : TNum t) : (Lit.int .i64 t.root).wf = true := by
 rcases h.2.2.2 with h0 | h0
 ·rw [h0]; rfl
 ·cases hq : tpage t.pages t.root with
  | none => exact absurd hq h0
  | some x =>
   have := tpage_bd h.2.2.1 hq
   have := h.2.1
   exact WalkArith.wf_i64 (by omega)
theorem chg_is {t : Tr} {d : Nat} {ps : List Pr} {key : Str} {upd : List Pr → List Pr} {ed : Nd → Nd} (hT : TNum t) (h : TTop t d ps) (hps : ps.length ≤ 4096) (hE : EdOk key upd ed) (hM : t.next + ((chgR t key ed d).2.length : Int) ≤ 65536) (hl : (upd ps).length ≤ 4096) : Chg t (chgT t key ed d) (upd ps) := by
 obtain ⟨a1, a2, a3, d', a4⟩ := chg_ok hT h hps hE hM
 obtain ⟨s, hs, e⟩ := ttop_to a4
 have hd := ttop_deep h hps
 have hc := chgR_len (t := t) (key := key) (ed := ed) hd
 refine ⟨?_, ?_, ⟨_, rfl, by rw [pgs_len]; omega, pgs_small a1⟩, a3, a3.rwf, .inr ⟨key, upd, ed, d, ps, h, hE, rfl, rfl⟩⟩
 ·rw [tprs_of ⟨a3.1, a3.2.1, a3.2.2.1⟩ hs (by rw [e]; exact hl), e]
 ·show t.next ≤ t.next + ((chgR t key ed d).2.length : Int) ∧ t.next + ((chgR t key ed d).2.length : Int) ≤ t.next + 40
  omega
theorem three_parts (key : Str) : ∀ ps : List Pr, (ps.filter (fun y => slt y.1 key)).length + (ps.filter (fun y => slt key y.1)).length + (ps.filter (fun y => y.1 == key)).length = ps.length
 | [] => rfl
 | y :: r => by
  have ih := three_parts key r
  rcases slt_tot y.1 key with h | h | h
  ·have h1 : slt key y.1 = false := slt_asym h
   have h2 : (y.1 == key) = false := by
    rw [beq_eq_false_iff_ne]
    intro e
    rw [e, slt_irr] at h
    cases h
   simp only [List.filter_cons, h, h1, h2, if_true, Bool.false_eq_true, if_false, List.length_cons]
   omega
  ·have h1 : slt key y.1 = false := by rw [h]; exact slt_irr _
   have h2 : slt y.1 key = false := by rw [h]; exact slt_irr _
   have h3 : (y.1 == key) = true := by rw [h]; simp
   simp only [List.filter_cons, h1, h2, h3, if_true, Bool.false_eq_true, if_false, List.length_cons]
   omega
  ·have h1 : slt y.1 key = false := slt_asym h
   have h2 : (y.1 == key) = false := by
    rw [beq_eq_false_iff_ne]
    intro e
    rw [e, slt_irr] at h
    cases h
   simp only [List.filter_cons, h, h1, h2, if_true, Bool.false_eq_true, if_false, List.length_cons]
   omega
theorem pins_len (key v : Str) (ps : List Pr) : (pins key v ps).length + (ps.filter (fun y => y.1 == key)).length = ps.length + 1 := by
 have h := three_parts key ps
 have e : (pins key v ps).length = (ps.filter (fun y => slt y.1 key)).length + ((ps.filter (fun y => slt key y.1)).length + 1) := by
  unfold pins
  rw [List.length_append, List.length_cons]
 rw [e]
 omega
theorem phas_len {key : Str} {ps : List Pr} (h : phas ps key = true) : 1 ≤ (ps.filter (fun y => y.1 == key)).length := by
 unfold phas at h
 obtain ⟨y, hy, e⟩ := List.any_eq_true.1 h
 exact List.length_pos_of_mem (List.mem_filter.2 ⟨hy, e⟩)
theorem pget_phas (ps : List Pr) (key : Str) : (pget ps key).isSome = phas ps key := by
 unfold pget phas
 rw [Option.isSome_map]
 induction ps with
 | nil => rfl
 | cons y r ih =>
  rw [List.find?_cons, List.any_cons]
  cases h : (y.1 == key) with
  | true => simp
  | false => simp [ih]
def perr (t : Tr) (k v : Str) : Int := match tprs t with
 | none => 9
 | some ps => if tkey k = true then (if 64 < v.length then 5 else if 4096 ≤ ps.length ∧ phas ps k = false then 51 else 0) else 91
theorem perr_none {t : Tr} {k v : Str} (h : tprs t = none) : perr t k v = 9 := by unfold perr; rw [h]
theorem perr_key {t : Tr} {k v : Str} {ps : List Pr} (h : tprs t = some ps) (hk : tkey k = false) : perr t k v = 91 := by unfold perr; rw [h]; simp [hk]
theorem perr_long {t : Tr} {k v : Str} {ps : List Pr} (h : tprs t = some ps) (hk : tkey k = true) (hv : 64 < v.length) : perr t k v = 5 := by unfold perr; rw [h]; simp [hk, hv]
theorem perr_full {t : Tr} {k v : Str} {ps : List Pr} (h : tprs t = some ps) (hk : tkey k = true) (hv : ¬ 64 < v.length) (h4 : 4096 ≤ ps.length) (hh : phas ps k = false) : perr t k v = 51 := by unfold perr; rw [h]; simp [hk, hv, h4, hh]
theorem perr_ok {t : Tr} {k v : Str} {ps : List Pr} (h : tprs t = some ps) (hk : tkey k = true) (hv : ¬ 64 < v.length) (h4 : ¬ (4096 ≤ ps.length ∧ phas ps k = false)) : perr t k v = 0 := by unfold perr; rw [h]; dsimp only; rw [if_pos hk, if_neg hv, if_neg h4]
def PutA (w w' : World) (t : Tr) (k v : Str) (e : Ending) : Prop :=
 (∃ err, e = .returned (.tuple #[tv ⟨0, 0, []⟩ (.slice none 0 0), .int .i64 err]) ∧ err ≠ 0 ∧ (err = perr t k v ∨ (err = 51 ∧ perr t k v = 0 ∧ 65495 < t.next)) ∧ Below w.heap.size w w') ∨
 (∃ u pv', e = .returned (.tuple #[tv u pv', .int .i64 0]) ∧ OwnPg w.heap.size w' pv' u.pages ∧ Below w.heap.size w w' ∧ perr t k v = 0 ∧ ∃ ps, tprs t = some ps ∧ Chg t u (pins k v ps))
def DelA (w w' : World) (t : Tr) (k : Str) (e : Ending) : Prop :=
 (∃ err, e = .returned (.tuple #[tv ⟨0, 0, []⟩ (.slice none 0 0), .bool false, .int .i64 err]) ∧ err ≠ 0 ∧ ((tprs t = none ∧ err = 9) ∨ ((∃ ps, tprs t = some ps) ∧ tkey k = false ∧ err = 91) ∨ ((∃ ps, tprs t = some ps) ∧ tkey k = true ∧ err = 51 ∧ 65495 < t.next)) ∧ Below w.heap.size w w') ∨
 (∃ u pv' ps, e = .returned (.tuple #[tv u pv', .bool (phas ps k), .int .i64 0]) ∧ OwnPg w.heap.size w' pv' u.pages ∧ Below w.heap.size w w' ∧ tkey k = true ∧ tprs t = some ps ∧ Chg t u (pdel k ps))
theorem tprs_num {t : Tr} {ps : List Pr} (h : tprs t = some ps) : TNum t ∧ ps.length ≤ 4096 ∧ ∃ s, twalk t = some s ∧ s.prs = ps := by
 unfold tprs at h
 split at h
 ·rename_i hT
  cases hw : twalk t with
  | none => rw [hw] at h; cases h
  | some s =>
   rw [hw] at h
   simp only [Option.bind_some] at h
   split at h
   ·rename_i hl
    have e := Option.some.inj h
    exact ⟨hT, by rw [← e]; exact hl, s, rfl, e⟩
   ·cases h
 ·cases h
theorem Chg.same {t : Tr} {ps : List Pr} (h : tprs t = some ps) : Chg t t ps :=
 ⟨h, ⟨Int.le_refl _, by omega⟩, ⟨[], by simp, by simp, fun x hx => by cases hx⟩, (tprs_num h).1, (tprs_num h).1.rwf, .inl rfl⟩
end Go.Proofs.YtpiikmkajckccaaGreat

namespace Go.Proofs.YtpiikmkajckccaaGreat
open Go.RowKit
theorem valOf_has (ps : List Pr) (key : Str) : (valOf (pget ps key)).2 = phas ps key := by
 rw [← pget_phas]; cases pget ps key <;> rfl
theorem tkey_is {k : Str} (h : tkey k = true) : 1 ≤ k.length ∧ k.length ≤ 32 := by unfold tkey at h; have := of_decide_eq_true h; omega
theorem OwnPg.base {B C : Nat} {w : World} {pv : Value} {l : List Wrt} (h : OwnPg C w pv l) (hBC : B ≤ C) : OwnPg B w pv l := OwnX.base h hBC
set_option maxRecDepth 100000 in
set_option maxHeartbeats 8000000 in
theorem pput_any (w : World) (t : Tr) (pv : Value) (key val : Str) (h : RdC w pv t.pages) (hx : ∀ x ∈ t.pages, x.2.length ≤ 140737488351232) (hroot : (Lit.int .i64 t.root).wf = true) (hkl : key.length ≤ 9223372036854775807) :
  Calls Tryz.prog 20 #[tv t pv, st key, st val] w fun e w' => PutA w w' t key val e := by
 obtain ⟨W1, hW1, D1, b1, s1⟩ := boxedN w #[.int .i64 t.root, .int .i64 t.next, pv] 28
 obtain ⟨W2, hW2, D2, b2, s2⟩ := boxedN W1 #[st key] 9
 obtain ⟨W3, hW3, D3, b3, s3⟩ := boxedN W2 #[st val] 9
 obtain ⟨X, hX, D4, b4, s4⟩ := boxedN W3 #[.int .i64 0, .int .i64 0, .slice none 0 0] 28
 have b34 := b3.trans (b4.mono b3.size)
 have b24 := b2.trans (b34.mono b2.size)
 have bX := b1.trans (b24.mono b1.size)
 have E1 := (b24.block _ (lt_of_block D1)).trans D1
 have E2 := (b34.block _ (lt_of_block D2)).trans D2
 have E3 := (b4.block _ (lt_of_block D3)).trans D3
 rw [s1] at E2
 rw [s2, s1] at E3
 rw [s3, s2, s1] at D4
 have sX : X.heap.size = w.heap.size + 1 + 1 + 1 + 1 := by rw [s4, s3, s2, s1]
 have KW := hide (pwalkfor_any X t pv key hkl (h.to0 bX) hroot)
 obtain ⟨pa, pc, rfl⟩ := h.slice
 have HE := hide (And.intro E1 (And.intro E2 (And.intro E3 D4)))
 have BX := hide bX
 obtain ⟨⟨A0, A1, A2⟩, AF⟩ := cells3p E1
 have A3 := cellN E2 (i := 0) rfl
 have A4 := cellN E3 (i := 0) rfl
 rw [hX, hW3, hW2, hW1] at A0 A1 A2 AF A3 A4 KW
 dsimp only [tv] at KW ⊢
 replace hx := hide hx
 replace sX := hide sX
 clear D1 b1 D2 b2 D3 b3 D4 b4 b34 b24 bX E1 E2 E3 h s1 s2 s3 s4
 go_enter Tryz.func20, Tryz.ntmps20
 go_wp2_with fail
 refine KW.out.mono ?_
 rintro e w1 hp
 rw [← hW1, ← hW2, ← hW3, ← hX] at hp
 clear A0 A1 A2 AF A3 A4 KW
 replace hX := hide hX
 replace hW1 := hide hW1
 replace hW2 := hide hW2
 replace hW3 := hide hW3
 rcases hp with ⟨g, bm, B, s, m, rfl, r2, r3, r4, r5, P1, hB1⟩ | ⟨err, rfl, r2, r3⟩
 ·have hps := tprs_of r3 r4 r5
  obtain ⟨E1, E2, E3, D4⟩ := HE.out
  have F2 := (P1.bel.block _ (lt_of_block E2)).trans E2
  have F3 := (P1.bel.block _ (lt_of_block E3)).trans E3
  have F4 := (P1.bel.block _ (lt_of_block D4)).trans D4
  have A3 := cellN F2 (i := 0) rfl
  have A4 := cellN F3 (i := 0) rfl
  by_cases hv : 64 < val.length
  ·have hq : (val.length : Int) > 64 := by omega
   have HF := hide F4
   obtain ⟨⟨J0, J1, J2⟩, JF⟩ := cells3p F4
   have HR : Hid (5 = perr t key val) := (perr_long hps r2 hv).symm
   have B1 := hide (BX.out.trans (P1.bel.mono BX.out.size))
   replace P1 := hide P1
   replace hps := hide hps
   replace r2 := hide r2
   replace r3 := hide r3
   replace r4 := hide r4
   clear E1 E2 E3 D4 F2 F3 F4 A3
   go_wp2
   (try simp only [Exit.inBlock, Exit.then])
   refine retNT rfl rfl (w.heap.size + 1 + 1 + 1) rfl _ _ (0, 0) (heap_set3t HF.out _ _ _) _ Tryz.underlying28 rfl info_tr _ rfl ?_
   exact .inl ⟨5, rfl, by decide, .inl HR.out, below_set3t B1.out (show w.heap.size ≤ w.heap.size + 1 + 1 + 1 by omega) _ _ _⟩
  ·have hq : ¬ (val.length : Int) > 64 := by omega
   have KV := hide (pvalue_any X w1 B g bm t _ s m key P1 hB1 hroot r4)
   rw [valOf_has] at KV
   obtain ⟨TH, hTH⟩ : ∃ b, b = phas s.prs key := ⟨_, rfl⟩
   rw [← hTH] at KV
   have HP := hide (And.intro P1 (And.intro hB1 (And.intro F2 (And.intro F3 F4))))
   have HD4 := hide D4
   have hgB : Hid (X.heap.size ≤ g ∧ g < B) := P1.hg
   replace hps := hide hps
   replace r2 := hide r2
   replace r3 := hide r3
   replace r4 := hide r4
   replace hTH := hide hTH
   clear E1 E2 E3 D4 F2 F3 F4 P1 HE
   go_wp2_with fail
   refine KV.out.mono ?_
   rintro e w2 ⟨rfl, b2⟩
   obtain ⟨P1, hB1', F2, F3, F4⟩ := HP.out
   have P2 := P1.to b2
   have G2 := (b2.block _ (lt_of_block F2)).trans F2
   have G3 := (b2.block _ (lt_of_block F3)).trans F3
   have G4 := (b2.block _ (lt_of_block F4)).trans F4
   have hB2 : B ≤ w2.heap.size := Nat.le_trans hB1 b2.size
   obtain ⟨d, hTT, hseen⟩ := ttop_seen r4.out
   have hTN := (tprs_num hps.out).1
   have KG := hide (pchanged_any X w2 B g bm t (.slice pa t.pages.length pc) s m key 44 #[.pointer (some ⟨w.heap.size + 1 + 1, 0, none⟩), .pointer (some ⟨w.heap.size + 1, 0, none⟩)] (edPut key val) (pins key val) (fun _ => True) d P2 hB2 hroot r4.out r3.out r5 hTT hseen hx.out (put_ed (tkey_is r2.out) (by omega)) (fun _ _ _ _ _ _ => trivial) trivial
    (put_cl G2 (by have := sX.out; have := hgB.out; omega) G3 (by have := sX.out; have := hgB.out; omega) hB2) (fun args u => Tryz.call44 args u) hTN)
   obtain ⟨⟨C0, C1, C2, C3⟩, ⟨C4, C5⟩, CF⟩ := P2.cell
   have B4 := cellN G2 (i := 0) rfl
   have B5 := cellN G3 (i := 0) rfl
   have B2 := hide (BX.out.trans (P2.bel.mono BX.out.size))
   have HG4 := hide G4
   replace hTT := hide hTT
   replace hseen := hide hseen
   replace hTN := hide hTN
   clear P1 F2 F3 F4 HP KV A3 A4 b2 P2 G2 G3 G4 C0 C1 C2 C3 C5
   have hcase : (TH = true ∧ Hid (perr t key val = 0 ∧ (pins key val s.prs).length ≤ 4096)) ∨ (TH = false ∧ ((s.prs.length : Nat) : Int) ≥ 4096 ∧ Hid (perr t key val = 51)) ∨ (TH = false ∧ ¬ ((s.prs.length : Nat) : Int) ≥ 4096 ∧ Hid (perr t key val = 0 ∧ (pins key val s.prs).length ≤ 4096)) := by
    have hl := pins_len key val s.prs
    cases TH with
    | true =>
     refine .inl ⟨rfl, perr_ok hps.out r2.out hv (fun hh => by rw [← hTH.out] at hh; exact absurd hh.2 (by simp)), ?_⟩
     have := phas_len hTH.out.symm
     omega
    | false =>
     by_cases h4 : 4096 ≤ s.prs.length
     ·exact .inr (.inl ⟨rfl, by omega, perr_full hps.out r2.out hv h4 hTH.out.symm⟩)
     ·refine .inr (.inr ⟨rfl, by omega, perr_ok hps.out r2.out hv (fun hh => h4 hh.1), ?_⟩)
      omega
   rcases hcase with ⟨rfl, hO⟩ | ⟨rfl, hf, hO⟩ | ⟨rfl, hf, hO⟩
   rotate_left
   ·obtain ⟨⟨J0, J1, J2⟩, JF⟩ := cells3p HG4.out
    clear KG B4 B5
    go_wp2
    (try simp only [Exit.inBlock, Exit.then])
    refine retNT rfl rfl (w.heap.size + 1 + 1 + 1) rfl _ _ (0, 0) (heap_set3t HG4.out _ _ _) _ Tryz.underlying28 rfl info_tr _ rfl ?_
    exact .inl ⟨51, rfl, by decide, .inl hO.out.symm, below_set3t B2.out (show w.heap.size ≤ w.heap.size + 1 + 1 + 1 by omega) _ _ _⟩
   all_goals
    go_wp2_with fail
    refine KG.out.mono ?_
    rintro e w3 hc
    rcases hc with ⟨pv3, hM, rfl, o3, b3⟩ | ⟨hM, rfl, b3⟩
    ·have hC := hide (chg_is hTN.out hTT.out r5 (put_ed (tkey_is r2.out) (by omega)) hM hO.out.2)
     obtain ⟨a3, c3, h3⟩ := o3.shape
     subst h3
     have D3 := (b3.block _ (lt_of_block HD4.out)).trans HD4.out
     have HD3 := hide D3
     obtain ⟨⟨J0, J1, J2⟩, JF⟩ := cells3p D3
     have B3 := hide (BX.out.trans (b3.mono BX.out.size))
     obtain ⟨L9, hL9⟩ : ∃ n, n = (chgT t key (edPut key val) d).pages.length := ⟨_, rfl⟩
     rw [← hL9] at o3
     obtain ⟨R9, hR9⟩ : ∃ n, n = (chgT t key (edPut key val) d).root := ⟨_, rfl⟩
     obtain ⟨N9, hN9⟩ : ∃ n, n = (chgT t key (edPut key val) d).next := ⟨_, rfl⟩
     dsimp only [tv]
     rw [← hL9, ← hR9, ← hN9]
     replace hL9 := hide hL9
     replace hR9 := hide hR9
     replace hN9 := hide hN9
     have O3 := hide o3
     replace hM := hide hM
     clear KG o3 b3 D3 C4 CF B4 B5
     go_wp2
     (try simp only [Exit.inBlock, Exit.then])
     refine retNT rfl rfl (w.heap.size + 1 + 1 + 1) rfl _ _ (0, 0) (heap_set3t HD3.out _ _ _) _ Tryz.underlying28 rfl info_tr _ rfl ?_
     have ks := fun e (he : e ≠ 28) => s3_keep9 HD3.out (.int .i64 R9) (.int .i64 N9) (.slice a3 L9 c3) he
     refine .inr ⟨chgT t key (edPut key val) d, .slice a3 L9 c3, by rw [hR9.out, hN9.out]; rfl, ?_, below_set3t B3.out (show w.heap.size ≤ w.heap.size + 1 + 1 + 1 by omega) _ _ _, hO.out.1, s.prs, hps.out, hC.out⟩
     exact OwnPg.base (O3.out.keepT (ks _ (by decide)) (ks _ (by decide))) BX.out.size
    ·have D3 := (b3.block _ (lt_of_block HD4.out)).trans HD4.out
     have HD3 := hide D3
     obtain ⟨⟨J0, J1, J2⟩, JF⟩ := cells3p D3
     have B3 := hide (BX.out.trans (b3.mono BX.out.size))
     have hN : Hid (65495 < t.next) := by
      show _ < _
      have h1 := chgR_len (t := t) (key := key) (ed := edPut key val) (ttop_deep hTT.out r5)
      omega
     replace hM := hide hM
     clear KG b3 D3 C4 CF B4 B5
     dsimp only [tv]
     go_wp2
     (try simp only [Exit.inBlock, Exit.then])
     refine retNT rfl rfl (w.heap.size + 1 + 1 + 1) rfl _ _ (0, 0) (heap_set3t HD3.out _ _ _) _ Tryz.underlying28 rfl info_tr _ rfl ?_
     exact .inl ⟨51, rfl, by decide, .inr ⟨rfl, hO.out.1, hN.out⟩, below_set3t B3.out (show w.heap.size ≤ w.heap.size + 1 + 1 + 1 by omega) _ _ _⟩
 ·have hne : (err != 0) = true := by rcases r2 with ⟨_, rfl⟩ | ⟨_, _, _, rfl⟩ <;> rfl
  have HR : Hid (err ≠ 0 ∧ err = perr t key val) := by
   rcases r2 with ⟨q, rfl⟩ | ⟨l, q1, q2, rfl⟩
   ·exact ⟨by decide, (perr_none q).symm⟩
   ·exact ⟨by decide, (perr_key q1 q2).symm⟩
  have HF := hide ((r3.block _ (lt_of_block HE.out.2.2.2)).trans HE.out.2.2.2)
  obtain ⟨⟨J0, J1, J2⟩, JF⟩ := cells3p HF.out
  have B1 := hide (BX.out.trans (r3.mono BX.out.size))
  clear r2 r3
  go_wp2
  (try simp only [Exit.inBlock, Exit.then])
  refine retNT rfl rfl (w.heap.size + 1 + 1 + 1) rfl _ _ (0, 0) (heap_set3t HF.out _ _ _) _ Tryz.underlying28 rfl info_tr _ rfl ?_
  exact .inl ⟨err, rfl, HR.out.1, .inl HR.out.2, below_set3t B1.out (show w.heap.size ≤ w.heap.size + 1 + 1 + 1 by omega) _ _ _⟩
end Go.Proofs.YtpiikmkajckccaaGreat

namespace Go.Proofs.YtpiikmkajckccaaGreat
open Go.RowKit
end Go.Proofs.YtpiikmkajckccaaGreat

namespace Go.Proofs.YtpiikmkajckccaaGreat
open Go.RowKit
end Go.Proofs.YtpiikmkajckccaaGreat

namespace Go.Proofs.YtpiikmkajckccaaGreat
open Go.RowKit
theorem infoPr10 : (Tryz.prog.info? 45).map (fun i => (i.zero, i.size, i.bytes)) = some (some (.agg #[.int .i64 0, .slice none 0 0]), 2, 32) := by kernel_rfl
end Go.Proofs.YtpiikmkajckccaaGreat

namespace Go.Proofs.YtpiikmkajckccaaGreat
open Go.RowKit
def PutB (B : Nat) (c : World) (t : Tr) (k v : Str) (u : Tr) (pv : Value) (err : Int) : Prop :=
 (err ≠ 0 ∧ (err = perr t k v ∨ (err = 51 ∧ perr t k v = 0 ∧ 65495 < t.next))) ∨
 (err = 0 ∧ perr t k v = 0 ∧ OwnPg B c pv u.pages ∧ ∃ ps, tprs t = some ps ∧ Chg t u (pins k v ps))
def DelB (B : Nat) (c : World) (t : Tr) (k : Str) (u : Tr) (pv : Value) (was : Bool) (err : Int) : Prop :=
 (err ≠ 0 ∧ (tprs t = none ∨ tkey k = false ∨ 65495 < t.next)) ∨
 (err = 0 ∧ tkey k = true ∧ OwnPg B c pv u.pages ∧ ∃ ps, tprs t = some ps ∧ was = phas ps k ∧ Chg t u (pdel k ps))
theorem PutA.to {w w' : World} {t : Tr} {k v : Str} {e : Ending} (h : PutA w w' t k v e) : ∃ u a n c err, e = .returned (.tuple #[.agg #[.int .i64 u.root, .int .i64 u.next, .slice a n c], .int .i64 err]) ∧ PutB w.heap.size w' t k v u (.slice a n c) err ∧ Below w.heap.size w w' := by
 rcases h with ⟨err, rfl, h1, h2, h3⟩ | ⟨u, pv, rfl, h1, h2, h3, h4⟩
 ·exact ⟨⟨0, 0, []⟩, _, _, _, err, rfl, .inl ⟨h1, h2⟩, h3⟩
 ·obtain ⟨a, c, hp⟩ := h1.shape
  subst hp
  exact ⟨u, _, _, _, 0, rfl, .inr ⟨rfl, h3, h1, h4⟩, h2⟩
theorem DelA.to {w w' : World} {t : Tr} {k : Str} {e : Ending} (h : DelA w w' t k e) : ∃ u a n c was err, e = .returned (.tuple #[.agg #[.int .i64 u.root, .int .i64 u.next, .slice a n c], .bool was, .int .i64 err]) ∧ DelB w.heap.size w' t k u (.slice a n c) was err ∧ Below w.heap.size w w' := by
 rcases h with ⟨err, rfl, h1, h2, h3⟩ | ⟨u, pv, ps, rfl, h1, h2, h3, h4, h5⟩
 ·refine ⟨⟨0, 0, []⟩, _, _, _, _, err, rfl, .inl ⟨h1, ?_⟩, h3⟩
  rcases h2 with ⟨q, _⟩ | ⟨_, q, _⟩ | ⟨_, _, _, q⟩
  ·exact .inl q
  ·exact .inr (.inl q)
  ·exact .inr (.inr q)
 ·obtain ⟨a, c, hp⟩ := h1.shape
  subst hp
  exact ⟨u, _, _, _, _, 0, rfl, .inr ⟨rfl, h3, h1, ps, h4, rfl, h5⟩, h2⟩
theorem PutB.keep {B : Nat} {c c' : World} {t : Tr} {k v : Str} {u : Tr} {pv : Value} {err : Int} (h : PutB B c t k v u pv err) (k1 : ∀ e, e ≠ 28 → KeepT e c c') : PutB B c' t k v u pv err := by
 rcases h with h | ⟨h1, h2, h3, h4⟩
 ·exact .inl h
 ·exact .inr ⟨h1, h2, OwnX.keepT h3 (k1 _ (by decide)) (k1 _ (by decide)), h4⟩
theorem DelB.keep {B : Nat} {c c' : World} {t : Tr} {k : Str} {u : Tr} {pv : Value} {was : Bool} {err : Int} (h : DelB B c t k u pv was err) (k1 : ∀ e, e ≠ 28 → KeepT e c c') : DelB B c' t k u pv was err := by
 rcases h with h | ⟨h1, h2, h3, h4⟩
 ·exact .inl h
 ·exact .inr ⟨h1, h2, OwnX.keepT h3 (k1 _ (by decide)) (k1 _ (by decide)), h4⟩
theorem PutB.to {B : Nat} {c c' : World} {t : Tr} {k v : Str} {u : Tr} {pv : Value} {err : Int} (h : PutB B c t k v u pv err) (b : Below c.heap.size c c') : PutB B c' t k v u pv err := h.keep fun e _ => KeepT.below b
theorem DelB.to {B : Nat} {c c' : World} {t : Tr} {k : Str} {u : Tr} {pv : Value} {was : Bool} {err : Int} (h : DelB B c t k u pv was err) (b : Below c.heap.size c c') : DelB B c' t k u pv was err := h.keep fun e _ => KeepT.below b
theorem PutB.base {B C : Nat} {c : World} {t : Tr} {k v : Str} {u : Tr} {pv : Value} {err : Int} (h : PutB C c t k v u pv err) (hb : B ≤ C) : PutB B c t k v u pv err := by
 rcases h with h | ⟨h1, h2, h3, h4⟩
 ·exact .inl h
 ·exact .inr ⟨h1, h2, OwnPg.base h3 hb, h4⟩
theorem DelB.base {B C : Nat} {c : World} {t : Tr} {k : Str} {u : Tr} {pv : Value} {was : Bool} {err : Int} (h : DelB C c t k u pv was err) (hb : B ≤ C) : DelB B c t k u pv was err := by
 rcases h with h | ⟨h1, h2, h3, h4⟩
 ·exact .inl h
 ·exact .inr ⟨h1, h2, OwnPg.base h3 hb, h4⟩
theorem Chg.len {t u : Tr} {ps : List Pr} {q : List Pr} (h : Chg t u ps) (ht : tprs t = some q) : (u.pages.length + 1) * 32 ≤ 140737488355328 := by
 obtain ⟨more, e, h1, _⟩ := h.pgs
 have hT := (tprs_num ht).1
 have h2 := tups_len hT.2.2.1 hT.1
 have h3 := hT.2.1
 rw [e, List.length_append]
 omega
theorem Chg.small {t u : Tr} {ps : List Pr} (h : Chg t u ps) (hx : ∀ x ∈ t.pages, x.2.length ≤ 140737488351232) : ∀ x ∈ u.pages, x.2.length ≤ 140737488351232 := by
 obtain ⟨more, e, _, h2⟩ := h.pgs
 intro x hx'
 rw [e, List.mem_append] at hx'
 rcases hx' with hx' | hx'
 ·exact hx x hx'
 ·have := h2 x hx'; omega
end Go.Proofs.YtpiikmkajckccaaGreat

namespace Go.Proofs.YtpiikmkajckccaaGreat
open Go.RowKit
def un (b : Bool) : Nat := cond b 0 1
end Go.Proofs.YtpiikmkajckccaaGreat

namespace Go.Proofs.YtpiikmkajckccaaGreat
open Go.RowKit
structure Bu (B : Nat) (w : World) (t : Tr) (pv : Value) (want : List Pr) (wv : Value) (k : Nat) : Prop where
 own : OwnPg B w pv t.pages
 prs : tprs t = some want
 nxt : t.next ≤ 1 + 40 * (k : Int)
 sml : ∀ x ∈ t.pages, x.2.length ≤ 244
 wnt : OwnP B w wv want
 cnt : want.length ≤ k
theorem Bu.keep {B : Nat} {w w' : World} {t : Tr} {pv : Value} {want : List Pr} {wv : Value} {k : Nat} (h : Bu B w t pv want wv k) (kk : ∀ e, e ≠ 28 → KeepT e w w') : Bu B w' t pv want wv k :=
 ⟨OwnX.keepT h.own (kk _ (by decide)) (kk _ (by decide)), h.prs, h.nxt, h.sml, rows_keepT h.wnt (kk _ (by decide)), h.cnt⟩
theorem Bu.to {B : Nat} {w w' : World} {t : Tr} {pv : Value} {want : List Pr} {wv : Value} {k : Nat} (h : Bu B w t pv want wv k) (b : Below w.heap.size w w') : Bu B w' t pv want wv k := h.keep fun e _ => KeepT.below b
theorem Bu.more {B : Nat} {w : World} {t : Tr} {pv : Value} {want : List Pr} {wv : Value} {k n : Nat} (h : Bu B w t pv want wv k) (hn : k ≤ n) : Bu B w t pv want wv n := ⟨h.own, h.prs, by have := h.nxt; omega, h.sml, h.wnt, by have := h.cnt; omega⟩
theorem Bu.rwf {B : Nat} {w : World} {t : Tr} {pv : Value} {want : List Pr} {wv : Value} {k : Nat} (h : Bu B w t pv want wv k) : (Lit.int .i64 t.root).wf = true := (tprs_num h.prs).1.rwf
theorem Bu.len {B : Nat} {w : World} {t : Tr} {pv : Value} {want : List Pr} {wv : Value} {k : Nat} (h : Bu B w t pv want wv k) : (t.pages.length + 1) * 32 ≤ 140737488355328 := (Chg.same h.prs).len h.prs
structure BI (w wr : World) (g5 : Nat) (t : Tr) (pv : Value) (want : List Pr) (wv : Value) (k : Nat) : Prop where
 bu : Bu w.heap.size wr t pv want wv k
 rb : wr.heap[w.heap.size]? = some (.cells #[.int .i64 0, .int .i64 0, .slice none 0 0] 28 (0, 0))
 tb : wr.heap[g5]? = some (.cells #[.int .i64 t.root, .int .i64 t.next, pv] 28 (0, 0))
 bel : Below w.heap.size w wr
theorem BI.to {w wr wr' : World} {g5 : Nat} {t : Tr} {pv : Value} {want : List Pr} {wv : Value} {k : Nat} (h : BI w wr g5 t pv want wv k) (b : Below wr.heap.size wr wr') : BI w wr' g5 t pv want wv k :=
 ⟨h.bu.to b, (b.block _ (lt_of_block h.rb)).trans h.rb, (b.block _ (lt_of_block h.tb)).trans h.tb, h.bel.trans (b.mono h.bel.size)⟩
theorem BI.put {w c : World} {g5 : Nat} {t u : Tr} {pv pv' : Value} {want want' : List Pr} {wv wv' : Value} {k : Nat} (h : BI w c g5 t pv want wv k) (hg : w.heap.size < g5) (hC : Chg t u want') (o : OwnPg w.heap.size c pv' u.pages) (ow : OwnP w.heap.size c wv' want') (hc : want'.length ≤ want.length + 1) :
  BI w (((c.setCell ⟨g5, 0, none⟩ (.int .i64 u.root)).setCell ⟨g5, 1, none⟩ (.int .i64 u.next)).setCell ⟨g5, 2, none⟩ pv') g5 u pv' want' wv' (k + 1) := by
 have kk := fun e (he : e ≠ 28) => s3_keep9 h.tb (.int .i64 u.root) (.int .i64 u.next) pv' he
 have hne : w.heap.size ≠ g5 := by omega
 obtain ⟨more, e, _, h2⟩ := hC.pgs
 refine ⟨⟨OwnX.keepT o (kk _ (by decide)) (kk _ (by decide)), hC.prs, ?_, ?_, rows_keepT ow (kk _ (by decide)), by have := h.bu.cnt; omega⟩, ?_, heap_set3t h.tb _ _ _, below_set3t h.bel (Nat.le_of_lt hg) _ _ _⟩
 ·have h1 := h.bu.nxt
  have h3 := hC.nxt
  push_cast
  omega
 ·intro x hx
  rw [e, List.mem_append] at hx
  rcases hx with hx | hx
  ·exact h.bu.sml x hx
  ·exact h2 x hx
 ·exact (Below.heap_setCell _ _ _ _ hne).trans ((Below.heap_setCell _ _ _ _ hne).trans ((Below.heap_setCell _ _ _ _ hne).trans h.rb))
theorem BI.succ {w wr : World} {g5 : Nat} {t : Tr} {pv : Value} {want : List Pr} {wv : Value} {k : Nat} (h : BI w wr g5 t pv want wv k) : BI w wr g5 t pv want wv (k + 1) := ⟨h.bu.more (by omega), h.rb, h.tb, h.bel⟩
end Go.Proofs.YtpiikmkajckccaaGreat

namespace Go.Proofs.YtpiikmkajckccaaGreat
open Go.RowKit
end Go.Proofs.YtpiikmkajckccaaGreat

namespace Go.Proofs.YtpiikmkajckccaaGreat
open Go.RowKit
theorem infoJ9 : (Tryz.prog.info? 3).map (fun i => (i.zero, i.size, i.bytes)) = some (some (.int .i64 0), 1, 8) := by kernel_rfl
theorem wpList_appJ9 {ops : Array Oper} {rest : List Oper} {o : Oper} {a : Act} {w : World} {Q : Exit → Act → World → Prop} (hgd : o.guard = none) (s x : Operand)
  (ho : o.op = .call { callee := .builtin .append, args := #[s, x], argTypes := #[25, 25] }) (B : Nat) (v : Value) (xs : List Int) (y : Int) (g : Nat) (hs : a.eval s = v) (hx : a.eval x = .slice (some ⟨g, 0, none⟩) 1 1)
  (hown : OwnJ B w v xs) (hc : w.cell? ⟨g, 0, none⟩ = some (.int .i64 y)) (hlen : (xs.length + 1) * 8 ≤ 140737488355328) (hB : B ≤ w.heap.size)
  (h : ∀ v' w', OwnJ B w' v' (xs ++ [y]) → Below B w w' → (∀ e, e ≠ 3 → KeepT e w w') → wpList Tryz.prog ops Q rest (a.put o.dst v') w') : wpList Tryz.prog ops Q (o :: rest) a w := by
 obtain ⟨i0, hi, hz0, hz1, hz2⟩ := info_parts infoJ9
 have n2 : ∀ j u, [Value.int .i64 y][j]? = some u → w.cell? ((⟨g, 0, none⟩ : Addr).add j) = some u := by
  intro j u hj
  match j, hj with
  | 0, hj => simp at hj; subst hj; simpa [Addr.add] using hc
  | j + 1, hj => simp at hj
 refine wpList_append_own _ hgd s x 25 ho B 3 i0 (.int .i64 0) 1 8 Tryz.underlying25 hi hz0 hz1 hz2 rfl (by decide) v xs.length (xs.map (Value.int .i64)) hs hown ⟨g, 0, none⟩ 1 1 [.int .i64 y] hx rfl n2
  (fun u hu => by simp at hu; subst hu; rfl) (by rw [show maxLen = 9223372036854775807 from rfl]; omega) hlen hB ?_
 intro v' w' h1 h2 _
 refine h v' w' ?_ ((Below.refl _ _).grown h2 hB (fun k hk => (World.ownsRow.lt hown k hk).1)) (fun e he => KeepT.grown hown h2 he)
 show World.ownsRow _ _ _ _ _ _ _
 simpa using h1
def OwnH (B : Nat) (w : World) (v : Value) (hs : List (List Pr)) : Prop := ∃ svs : List Value, svs.length = hs.length ∧ w.ownsRow B 50 1 v hs.length svs ∧ ∀ i, i < hs.length → OwnP 0 w (svs.getD i undef) (hs.getD i [])
theorem OwnH.nil (B : Nat) (w : World) : OwnH B w (.slice none 0 0) [] := ⟨[], rfl, World.ownsRow_nil _ _ _ _, fun i hi => by simp at hi⟩
theorem OwnH.keep {B : Nat} {w w' : World} {v : Value} {hs : List (List Pr)} (h : OwnH B w v hs) (k1 : KeepT 102 w w') (k2 : KeepT 50 w w') : OwnH B w' v hs := by
 obtain ⟨vs, h1, h2, h3⟩ := h
 exact ⟨vs, h1, rows_keepT h2 k2, fun i hi => rows_keepT (h3 i hi) k1⟩
theorem OwnH.shape {B : Nat} {w : World} {v : Value} {hs : List (List Pr)} (h : OwnH B w v hs) : ∃ a c, v = .slice a hs.length c := by
 obtain ⟨svs, h1, h2, h3⟩ := h
 rcases h2.2 with ⟨rfl, e⟩ | ⟨g, cap, cur, rfl, _⟩
 ·exact ⟨none, 0, by rw [e]⟩
 ·exact ⟨_, _, rfl⟩
theorem OwnH.at {B : Nat} {w : World} {a : Option Addr} {n c : Nat} {hs : List (List Pr)} (h : OwnH B w (.slice a n c) hs) {i : Nat} {l : List Pr} (hl : hs[i]? = some l) : ∃ g sv, a = some ⟨g, 0, none⟩ ∧ w.cell? ⟨g, i, none⟩ = some sv ∧ OwnP 0 w sv l := by
 obtain ⟨svs, h1, h2, h3⟩ := h
 have hi : i < hs.length := (List.getElem?_eq_some_iff.1 hl).1
 have e2 : hs.getD i [] = l := by rw [List.getD_eq_getElem?_getD, hl]; rfl
 have h4 := h3 i hi
 rw [e2] at h4
 rcases h2.2 with ⟨e, h0⟩ | ⟨g, cap, cur, e, hgb, hg, hn, hm, hs', ht⟩
 ·rw [h0] at hi; omega
 ·simp only [Value.slice.injEq] at e
  obtain ⟨rfl, rfl, rfl⟩ := e
  refine ⟨g, _, rfl, ?_, h4⟩
  rw [h2.cellAt i (by omega), List.getD_eq_getElem?_getD, List.getElem?_eq_getElem (by omega)]
  rfl
end Go.Proofs.YtpiikmkajckccaaGreat

namespace Go.Proofs.YtpiikmkajckccaaGreat
open Go.RowKit
theorem SeenW.at {bs n : Nat} {s : List Int} {w : World} (h : SeenW bs n s w) {i : Nat} (hi : i < n) : w.cell? ⟨bs, i, none⟩ = some (.bool (decide ((i : Int) ∈ s))) ∧ w.frozen? ⟨bs, i, none⟩ = false :=
 ⟨rows_at (rows_base h fun _ _ => Nat.zero_le _) rfl (by rw [List.getElem?_map, useen_at n _ hi]; rfl), World.ownsRow.frozenAt h i⟩
theorem SeenW.put {bs n : Nat} {s : List Int} {w : World} (h : SeenW bs n s w) {k : Nat} (hk : k < n) {v : Bool} (hv : (k : Int) ∈ s → v = true) : SeenW bs n (if v = true then (k : Int) :: s else s) (w.setCell ⟨bs, k, none⟩ (.bool v)) := by
 have := (World.ownsRow.stored h k (.bool v)).1
 show World.ownsRow _ _ _ _ _ _ _
 cases v with
 | true =>
  rw [if_pos rfl, ← useen_set, List.map_set]
  exact this
 | false =>
  rw [if_neg (by simp)]
  have hn : (k : Int) ∉ s := fun h => by have := hv h; cases this
  have e : ((useen n s).map Value.bool).set k (.bool false) = (useen n s).map Value.bool := by
   rw [← List.map_set]
   congr 1
   apply List.ext_getElem?
   intro j
   rw [List.getElem?_set]
   split
   ·rename_i hj
    subst hj
    split
    ·rw [useen_at n s hk]; simp [hn]
    ·rename_i h9; rw [useen_len] at h9; exact absurd hk h9
   ·rfl
  rw [e] at this
  exact this
def AtE (t : Tr) (pv : Value) (r x1 x2 : Int) (v3 : Value) (err : Int) : Prop := err = tatE t r ∧ (err = 0 → x1 = r ∧ x2 = t.next ∧ v3 = pv)
def RLi (w w' : World) (t : Tr) (rs : List Int) (e : Ending) : Prop :=
 (lvE t rs = 0 ∧ ∃ a v, e = .returned (.tuple #[v, .int .i64 0]) ∧ OwnJ w.heap.size w' v a ∧ LvR t rs a ∧ Below w.heap.size w w') ∨
 (lvE t rs ≠ 0 ∧ e = .returned (.tuple #[.slice none 0 0, .int .i64 (lvE t rs)]) ∧ Below w.heap.size w w')
structure RLo (w wr : World) (bs n : Nat) (t : Tr) (pv : Value) (rs : List Int) (j : Nat) (S : List Int) : Prop where
 row : SeenW bs n S wr
 is : ∀ x, x ∈ S ↔ Lv t (rs.take j) x
 ok : ∀ (i : Nat) r, i < j → rs[i]? = some r → tatE t r = 0
 box : wr.heap[w.heap.size]? = some (.cells #[.int .i64 t.root, .int .i64 t.next, pv] 24 (0, 0))
 bel : Below w.heap.size w wr
 hbs : w.heap.size < bs ∧ bs < wr.heap.size
theorem RLo.to {w wr w' : World} {bs n : Nat} {t : Tr} {pv : Value} {rs : List Int} {j : Nat} {S : List Int} (h : RLo w wr bs n t pv rs j S) (b : Below wr.heap.size wr w') : RLo w w' bs n t pv rs j S :=
 ⟨rows_to h.row b, h.is, h.ok, (b.block _ (lt_of_block h.box)).trans h.box, h.bel.trans (b.mono h.bel.size), h.hbs.1, Nat.lt_of_lt_of_le h.hbs.2 b.size⟩
theorem SeenW.lt {bs n : Nat} {s : List Int} {w : World} (h : SeenW bs n s w) : bs < w.heap.size := by
 rcases h.2 with ⟨hn, _⟩ | ⟨g', cap, cur, hv, _, hg', _⟩
 ·cases hn
 ·simp only [Value.slice.injEq, Option.some.injEq, Addr.mk.injEq] at hv
  obtain ⟨⟨rfl, _⟩, _⟩ := hv
  exact lt_of_block hg'
theorem seen_is {t : Tr} {s : Sw} (h : twalk t = some s) : seenOf t = s.seen := by unfold seenOf; rw [h]; rfl
theorem lv_lt {t : Tr} {rs : List Int} (h : LvOk t rs) {x : Int} (hx : Lv t rs x) : 0 < x ∧ x < t.next := by
 have := lv_page h hx
 obtain ⟨ps, h1⟩ := h.1
 cases hp : tpage t.pages x with
 | none => exact absurd hp this
 | some z =>
  have h2 := tpage_bd (tprs_num h1).1.2.2.1 hp
  omega
def upto (S : List Int) (k : Nat) : List Int := ((List.range k).map (fun (i : Nat) => (i : Int))).filter (fun x => decide (x ∈ S))
theorem upto_succ (S : List Int) (k : Nat) : upto S (k + 1) = if (k : Int) ∈ S then upto S k ++ [(k : Int)] else upto S k := by
 unfold upto
 rw [List.range_succ, List.map_append, List.filter_append]
 simp only [List.map_cons, List.map_nil, List.filter_cons, List.filter_nil]
 split <;> simp_all
theorem upto_len (S : List Int) (k : Nat) : (upto S k).length ≤ k := by
 unfold upto
 refine Nat.le_trans (List.length_filter_le _ _) ?_
 simp
theorem upto_live {t : Tr} {rs S : List Int} (h : LvOk t rs) (hi : ∀ x, x ∈ S ↔ Lv t rs x) {n : Nat} (hn : t.next ≤ (n : Int)) : LvR t rs (upto S n) := by
 refine ⟨?_, fun x => ?_⟩
 ·refine List.Pairwise.filter _ ?_
  rw [List.pairwise_map]
  exact List.pairwise_lt_range.imp fun h => by omega
 ·unfold upto
  rw [List.mem_filter]
  constructor
  ·rintro ⟨_, h2⟩
   exact (hi x).1 (by simpa using h2)
  ·intro hx
   have h3 := lv_lt h hx
   refine ⟨List.mem_map.2 ⟨x.toNat, List.mem_range.2 (by omega), by omega⟩, by simpa using (hi x).2 hx⟩
set_option maxRecDepth 100000 in
set_option maxHeartbeats 8000000 in
theorem rlive_any (w : World) (t : Tr) (pv rv : Value) (rs : List Int) (h : RdC w pv t.pages) (hr : RdI w rv rs) (hrl : rs.length ≤ 9223372036854775807) :
  Calls Tryz.prog 9 #[tv t pv, rv] w fun e w' => RLi w w' t rs e := by
 obtain ⟨W, hW, D, bW, sW⟩ := boxedN w #[.int .i64 t.root, .int .i64 t.next, pv] 24
 have KC := hide (rcheck10_any W t pv (h.to0 bW))
 obtain ⟨a, c, rfl⟩ := h.slice
 obtain ⟨ra, rc, rfl⟩ := hr.slice
 have HH := hide h
 have HR := hide hr
 have HB := hide bW
 have HD := hide D
 obtain ⟨⟨E0, E1, E2⟩, EF⟩ := cells3p D
 obtain ⟨RL, hRL⟩ : ∃ L, L = rs.length := ⟨_, rfl⟩
 obtain ⟨L, hL⟩ : ∃ L, L = t.pages.length := ⟨_, rfl⟩
 obtain ⟨root, hrn⟩ : ∃ z, z = t.root := ⟨_, rfl⟩
 obtain ⟨next, hnn⟩ : ∃ z, z = t.next := ⟨_, rfl⟩
 dsimp only [tv] at KC ⊢
 rw [← hRL] at HR hrl ⊢
 rw [← hrn] at hW HD E0 KC ⊢
 rw [← hnn] at hW HD E1 KC ⊢
 rw [← hL] at hW HD E2 KC HH ⊢
 replace hRL := hide hRL
 replace hL := hide hL
 replace hrn := hide hrn
 replace hnn := hide hnn
 rw [hW] at E0 E1 E2 EF KC
 clear h hr bW D sW
 go_enter Tryz.func9, Tryz.ntmps9
 go_wp2_with fail
 refine KC.out.mono ?_
 rintro e w1 ⟨rfl, b1⟩
 rw [← hW] at b1
 clear KC E0 E1 E2 EF
 have B1 := hide (HB.out.trans (b1.mono HB.out.size))
 have D1 := hide ((b1.block _ (lt_of_block HD.out)).trans HD.out)
 replace hW := hide hW
 clear b1
 rcases tcheck_two t with hc | hc
 rotate_left
 ·have hE : Hid (lvE t rs = 9) := by show _ = _; unfold lvE; rw [if_pos (by rw [hc]; decide), hc]
  rw [hc]
  replace hc := hide hc
  go_wp2
  go_ret2
  exact .inr ⟨by rw [hE.out]; decide, by rw [hE.out]; rfl, B1.out⟩
 rw [hc]
 have hc0 := hide hc
 clear hc
 by_cases h16 : (16 : Int) < (RL : Int)
 ·have hE : Hid (lvE t rs = 3) := by show _ = _; unfold lvE; rw [if_neg (by simp [hc0.out]), if_pos (by rw [← hRL.out]; omega)]
  go_wp2
  go_ret2
  exact .inr ⟨by rw [hE.out]; decide, by rw [hE.out]; rfl, B1.out⟩
 have hR16 : RL ≤ 16 := by omega
 have hpn := tcheck_num hc0.out
 obtain ⟨ps0, hps0⟩ : ∃ ps, tprs t = some ps := by
  have h1 := hc0.out
  unfold tcheck at h1
  cases hp : tprs t with
  | none => rw [hp] at h1; cases h1
  | some l => exact ⟨l, rfl⟩
 obtain ⟨n, hn⟩ : ∃ n : Nat, (n : Int) = t.next + 1 := ⟨(t.next + 1).toNat, by have := hpn.1; omega⟩
 have hn9 : n ≤ 65537 := by have := hpn.2.1; omega
 have KWs := rwalks_any w1 t (.slice a L c) n hn ⟨hpn.1, hpn.2.1⟩ hpn.2.2 (HH.out.to0 B1.out)
 dsimp only [tv] at KWs
 rw [← hrn.out, ← hnn.out] at KWs
 replace KWs := hide KWs
 obtain ⟨⟨E0, E1, E2⟩, EF⟩ := cells3p D1.out
 have HPN := hide hpn
 replace hn := hide hn
 replace hps0 := hide hps0
 clear hpn
 go_wp2_with fail
 refine KWs.out.mono ?_
 rintro e w2 ⟨g, bs, prv, s, bad, rfl, hK, hE⟩
 have htw : twalk t = some s := by
  rcases hE with ⟨h, _⟩ | ⟨h, _⟩
  ·exact h
  ·obtain ⟨_, _, s', h2, _⟩ := tprs_num hps0.out
   rw [h] at h2; cases h2
 have S0 : Hid (RLo w w2 bs n t (.slice a L c) rs 0 s.seen) := by
  refine ⟨hK.seen, fun x => ?_, fun i r hi => by omega, ?_, B1.out.trans (hK.bel.mono B1.out.size), ?_, SeenW.lt hK.seen⟩
  ·rw [← seen_is htw]; simp [Lv]
  ·rw [← hrn.out, ← hnn.out]; exact (hK.bel.block _ (lt_of_block D1.out)).trans D1.out
  ·have h1 := lt_of_block D1.out
   have h2 := hK.hs
   omega
 obtain ⟨⟨K0, K1, K2, K3⟩, _, _⟩ := hK.cell
 clear KWs E0 E1 E2 EF hK hE htw B1 D1
 go_wp2
 clear K0 K1 K2 K3
 go_loopw [7] (fun p wr => ∃ j : Nat, j ≤ RL ∧ p = .int .i64 j ∧ Hid (∃ S, RLo w wr bs n t (.slice a L c) rs j S)) (fun p _ => RL - (intOf p).toNat)
 case atStart => exact ⟨0, Nat.zero_le _, rfl, ⟨_, S0.out⟩⟩
 case round =>
  obtain ⟨q, hq9, rfl, hI⟩ := hrel
  obtain ⟨S, hS⟩ := hI.out
  replace hS := hide hS
  clear hI S0
  have hbx := hS.out.box
  rw [← hrn.out, ← hnn.out] at hbx
  obtain ⟨⟨A0, A1, A2⟩, AF⟩ := cells3p hbx
  clear hbx
  by_cases hlt : q < RL
  ·have hqq : (q : Int) < (RL : Int) := by omega
   obtain ⟨r, hr⟩ := some_el rs (k := q) (by rw [← hRL.out]; exact hlt)
   obtain ⟨rb, ro9, hra, cr⟩ := (HR.out.to0 hS.out.bel).intAt hr
   subst hra
   have HS : Hid (∀ w9, Below wr.heap.size wr w9 → w9.cell? ⟨w.heap.size, 0, none⟩ = some (.int .i64 root) ∧ w9.cell? ⟨w.heap.size, 1, none⟩ = some (.int .i64 next) ∧ w9.cell? ⟨w.heap.size, 2, none⟩ = some (.slice a L c) ∧ w9.cell? ⟨rb, ro9 + q, none⟩ = some (.int .i64 r)) := fun w9 b9 =>
    ⟨(b9.cell (cell_lt A0)).trans A0, (b9.cell (cell_lt A1)).trans A1, (b9.cell (cell_lt A2)).trans A2, (b9.cell (cell_lt cr)).trans cr⟩
   have KT : Hid (∀ w9, Below wr.heap.size wr w9 → Calls Tryz.prog 28 #[.agg #[.int .i64 root, .int .i64 next, .slice a L c], .int .i64 r] w9 fun e w6 => ∃ (x1 x2 : Int) (ua : Option Addr) (un uc : Nat) (err : Int), e = .returned (.tuple #[.agg #[.int .i64 x1, .int .i64 x2, .slice ua un uc], .int .i64 err]) ∧ AtE t (.slice a L c) r x1 x2 (.slice ua un uc) err ∧ Below w9.heap.size w9 w6) := fun w9 b9 => by
    have h9 := rat_any w9 t (.slice a L c) r (HH.out.to0 (hS.out.bel.trans (b9.mono hS.out.bel.size)))
    dsimp only [tv] at h9
    rw [← hrn.out, ← hnn.out] at h9
    refine Calls.mono h9 ?_
    rintro e w6 (⟨q0, rfl, b6⟩ | ⟨q0, rfl, b6⟩)
    ·exact ⟨r, next, a, L, c, 0, by rw [hnn.out], ⟨q0.symm, fun _ => ⟨rfl, hnn.out, rfl⟩⟩, b6⟩
    ·exact ⟨0, 0, none, 0, 0, tatE t r, rfl, ⟨rfl, fun h => absurd h q0⟩, b6⟩
   have hr' := hide hr
   clear hr
   go_upto_region 9 with fail
   go_cut [8, 9] from 27 to 68 (fun pp ee wx => ∃ (g7 : Nat) (x1 x2 : Int) (ua : Option Addr) (un uc : Nat) (err : Int), pp = .pointer (some ⟨g7, 0, none⟩) ∧ ee = .int .i64 err ∧ Hid (Below wr.heap.size wr wx ∧ wx.heap[g7]? = some (.cells #[.int .i64 x1, .int .i64 x2, .slice ua un uc] 24 (0, 0)) ∧ AtE t (.slice a L c) r x1 x2 (.slice ua un uc) err))
   case first =>
    have b0 : Below wr.heap.size wr wr.drew := (Below.refl _ _).drew
    refine wp_region_fan (fun w9 => w9.cell? ⟨w.heap.size, 0, none⟩ = some (.int .i64 root) ∧ w9.cell? ⟨w.heap.size, 1, none⟩ = some (.int .i64 next) ∧ w9.cell? ⟨w.heap.size, 2, none⟩ = some (.slice a L c) ∧ w9.cell? ⟨rb, ro9 + q, none⟩ = some (.int .i64 r)) 11 mixed (by simp) ?_
    generalize wr.drew = c0 at *
    clear A0 A1 A2 AF cr
    refine fan_take (i := 0) (v := ?_) rfl (by kernel_rfl) (fun _ _ _ _ h => h) (by kernel_rfl) (HS.out _ b0) ?_ ?_
    rotate_left
    ·rintro w9 ⟨t0, t1, t2, t3⟩
     go_simp
     try with_reducible rfl
    try simp only [Act.put, List.setIfInBounds_toArray, List.set_cons_zero, List.set_cons_succ]
    refine fan_take (i := 1) (v := ?_) rfl (by kernel_rfl) (fun _ _ _ _ h => h) (by kernel_rfl) (HS.out _ b0) ?_ ?_
    rotate_left
    ·rintro w9 ⟨t0, t1, t2, t3⟩
     go_simp
     try with_reducible rfl
    try simp only [Act.put, List.setIfInBounds_toArray, List.set_cons_zero, List.set_cons_succ]
    refine fan_take (i := 2) (v := ?_) rfl (by kernel_rfl) (fun _ _ _ _ h => h) (by kernel_rfl) (HS.out _ b0) ?_ ?_
    rotate_left
    ·rintro w9 ⟨t0, t1, t2, t3⟩
     go_simp
     try with_reducible rfl
    try simp only [Act.put, List.setIfInBounds_toArray, List.set_cons_zero, List.set_cons_succ]
    refine fan_take (i := 3) (v := ?_) rfl (by kernel_rfl) (fun _ _ _ _ h => h) (by kernel_rfl) (HS.out _ b0) ?_ ?_
    rotate_left
    ·rintro w9 ⟨t0, t1, t2, t3⟩
     go_simp
     try with_reducible rfl
    try simp only [Act.put, List.setIfInBounds_toArray, List.set_cons_zero, List.set_cons_succ]
    refine fan_take (i := 4) (v := ?_) rfl (by kernel_rfl) (fun _ _ _ _ h => h) (by kernel_rfl) (HS.out _ b0) ?_ ?_
    rotate_left
    ·rintro w9 ⟨t0, t1, t2, t3⟩
     go_simp
     try with_reducible rfl
    try simp only [Act.put, List.setIfInBounds_toArray, List.set_cons_zero, List.set_cons_succ]
    refine fan_two 5 9 (by kernel_rfl) ?_ ?_
    ·
     refine fan_step rfl (by kernel_rfl) fun K hK => ?_
     refine wp_call_of 28 _ _ (by rfl) #[.agg #[.int .i64 root, .int .i64 next, .slice a L c], .int .i64 r] (by simp [Act.eval]) (Tryz.call28 _ _) (KT.out _ b0) ?_
     rintro e c2 ⟨x1, x2, ua, un, uc, err, rfl, hE, bF⟩
     have b2 := b0.trans (bF.mono b0.size)
     clear bF
     refine ⟨_, rfl, hK _ _ (HS.out _ b2) ?_⟩
     clear hK K
     try simp only [Act.put, List.setIfInBounds_toArray, List.set_cons_zero, List.set_cons_succ]
     refine fan_take (i := 6) (v := ?_) rfl (by kernel_rfl) (fun _ _ _ _ h => h) (by kernel_rfl) (HS.out _ b2) ?_ ?_
     rotate_left
     ·rintro w9 ⟨t0, t1, t2, t3⟩
      go_simp
      try with_reducible rfl
     try simp only [Act.put, List.setIfInBounds_toArray, List.set_cons_zero, List.set_cons_succ]
     refine fan_take (i := 7) (v := ?_) rfl (by kernel_rfl) (fun _ _ _ _ h => h) (by kernel_rfl) (HS.out _ b2) ?_ ?_
     rotate_left
     ·rintro w9 ⟨t0, t1, t2, t3⟩
      go_simp
      try with_reducible rfl
     try simp only [Act.put, List.setIfInBounds_toArray, List.set_cons_zero, List.set_cons_succ]
     refine fan_take (i := 8) (v := ?_) rfl (by kernel_rfl) (fun _ _ _ _ h => h) (by kernel_rfl) (HS.out _ b2) ?_ ?_
     rotate_left
     ·rintro w9 ⟨t0, t1, t2, t3⟩
      go_simp
      try with_reducible rfl
     try simp only [Act.put, List.setIfInBounds_toArray, List.set_cons_zero, List.set_cons_succ]
     refine fan_one 9 (by kernel_rfl) ?_
     refine fan_step rfl (by kernel_rfl) fun K hK => ?_
     go_simp
     obtain ⟨c3, hc, h7, bc, sc⟩ := boxedN c2 #[.int .i64 0, .int .i64 0, .slice none 0 0] 24
     rw [← hc]
     have b3 := b2.trans (bc.mono b2.size)
     obtain ⟨g7, hg⟩ : ∃ g, g = c2.heap.size := ⟨_, rfl⟩
     rw [← hg] at h7
     rw [← hg]
     have lg7 : wr.heap.size ≤ g7 := by have := b2.size; omega
     refine hK _ _ (HS.out _ b3) ?_
     clear hK K hc bc sc hg
     try simp only [Act.put, List.setIfInBounds_toArray, List.set_cons_zero, List.set_cons_succ]
     refine fan_one 10 (by kernel_rfl) ?_
     have y9 := cells3p h7
     obtain ⟨⟨y0, y1, y2⟩, yF⟩ := y9
     refine fan_step rfl (by kernel_rfl) fun K hK => ?_
     go_simp
     obtain ⟨d1, hd⟩ : ∃ d, d = ((c3.setCell ⟨g7, 0, none⟩ (.int .i64 x1)).setCell ⟨g7, 1, none⟩ (.int .i64 x2)).setCell ⟨g7, 2, none⟩ (.slice ua un uc) := ⟨_, rfl⟩
     rw [← hd]
     have e1 : Below wr.heap.size wr d1 := by rw [hd]; exact below_set3t b3 lg7 _ _ _
     have i7 : d1.heap[g7]? = some (.cells #[(.int .i64 x1), (.int .i64 x2), (.slice ua un uc)] 24 (0, 0)) := by rw [hd]; exact heap_set3t h7 _ _ _
     have kd := fun e (he : e ≠ 24) => s3_keep9 h7 (.int .i64 x1) (.int .i64 x2) (.slice ua un uc) he
     rw [← hd] at kd
     refine hK _ _ (HS.out _ e1) ?_
     clear hK K y0 y1 y2 yF hd kd
     try simp only [Act.put, List.setIfInBounds_toArray, List.set_cons_zero, List.set_cons_succ]
     refine fan_done (by kernel_rfl) ?_
     show wpList _ _ _ _ _ _
     have FIN := hide (And.intro e1 (And.intro i7 hE))
     clear e1 i7 h7 lg7 b3 b2 b0
     go_wp2_with fail
     go_meet
     exact ⟨g7, x1, x2, ua, un, uc, err, rfl, rfl, FIN⟩
    ·
     refine fan_step rfl (by kernel_rfl) fun K hK => ?_
     go_simp
     obtain ⟨c2, hc, h7, bc, sc⟩ := boxedN c0 #[.int .i64 0, .int .i64 0, .slice none 0 0] 24
     rw [← hc]
     have b2 := b0.trans (bc.mono b0.size)
     obtain ⟨g7, hg⟩ : ∃ g, g = c0.heap.size := ⟨_, rfl⟩
     rw [← hg] at h7
     rw [← hg]
     have lg7 : wr.heap.size ≤ g7 := by have := b0.size; omega
     refine hK _ _ (HS.out _ b2) ?_
     clear hK K hc bc sc hg
     try simp only [Act.put, List.setIfInBounds_toArray, List.set_cons_zero, List.set_cons_succ]
     refine fan_one 5 (by kernel_rfl) ?_
     refine fan_step rfl (by kernel_rfl) fun K hK => ?_
     refine wp_call_of 28 _ _ (by rfl) #[.agg #[.int .i64 root, .int .i64 next, .slice a L c], .int .i64 r] (by simp [Act.eval]) (Tryz.call28 _ _) (KT.out _ b2) ?_
     rintro e c3 ⟨x1, x2, ua, un, uc, err, rfl, hE, bF⟩
     have b3 := b2.trans (bF.mono b2.size)
     replace h7 := (bF.block _ (lt_of_block h7)).trans h7
     clear bF
     refine ⟨_, rfl, hK _ _ (HS.out _ b3) ?_⟩
     clear hK K
     try simp only [Act.put, List.setIfInBounds_toArray, List.set_cons_zero, List.set_cons_succ]
     refine fan_take (i := 6) (v := ?_) rfl (by kernel_rfl) (fun _ _ _ _ h => h) (by kernel_rfl) (HS.out _ b3) ?_ ?_
     rotate_left
     ·rintro w9 ⟨t0, t1, t2, t3⟩
      go_simp
      try with_reducible rfl
     try simp only [Act.put, List.setIfInBounds_toArray, List.set_cons_zero, List.set_cons_succ]
     refine fan_take (i := 7) (v := ?_) rfl (by kernel_rfl) (fun _ _ _ _ h => h) (by kernel_rfl) (HS.out _ b3) ?_ ?_
     rotate_left
     ·rintro w9 ⟨t0, t1, t2, t3⟩
      go_simp
      try with_reducible rfl
     try simp only [Act.put, List.setIfInBounds_toArray, List.set_cons_zero, List.set_cons_succ]
     refine fan_take (i := 8) (v := ?_) rfl (by kernel_rfl) (fun _ _ _ _ h => h) (by kernel_rfl) (HS.out _ b3) ?_ ?_
     rotate_left
     ·rintro w9 ⟨t0, t1, t2, t3⟩
      go_simp
      try with_reducible rfl
     try simp only [Act.put, List.setIfInBounds_toArray, List.set_cons_zero, List.set_cons_succ]
     refine fan_one 10 (by kernel_rfl) ?_
     have y9 := cells3p h7
     obtain ⟨⟨y0, y1, y2⟩, yF⟩ := y9
     refine fan_step rfl (by kernel_rfl) fun K hK => ?_
     go_simp
     obtain ⟨d1, hd⟩ : ∃ d, d = ((c3.setCell ⟨g7, 0, none⟩ (.int .i64 x1)).setCell ⟨g7, 1, none⟩ (.int .i64 x2)).setCell ⟨g7, 2, none⟩ (.slice ua un uc) := ⟨_, rfl⟩
     rw [← hd]
     have e1 : Below wr.heap.size wr d1 := by rw [hd]; exact below_set3t b3 lg7 _ _ _
     have i7 : d1.heap[g7]? = some (.cells #[(.int .i64 x1), (.int .i64 x2), (.slice ua un uc)] 24 (0, 0)) := by rw [hd]; exact heap_set3t h7 _ _ _
     have kd := fun e (he : e ≠ 24) => s3_keep9 h7 (.int .i64 x1) (.int .i64 x2) (.slice ua un uc) he
     rw [← hd] at kd
     refine hK _ _ (HS.out _ e1) ?_
     clear hK K y0 y1 y2 yF hd kd
     try simp only [Act.put, List.setIfInBounds_toArray, List.set_cons_zero, List.set_cons_succ]
     refine fan_done (by kernel_rfl) ?_
     show wpList _ _ _ _ _ _
     have FIN := hide (And.intro e1 (And.intro i7 hE))
     clear e1 i7 h7 lg7 b3 b2 b0
     go_wp2_with fail
     go_meet
     exact ⟨g7, x1, x2, ua, un, uc, err, rfl, rfl, FIN⟩
   case rest =>
    obtain ⟨g7, x1, x2, ua, un, uc, err, rfl, rfl, hC⟩ := hcut
    obtain ⟨w5, hw5⟩ : ∃ x, x = wc := ⟨_, rfl⟩
    subst hw5
    have hS5 := hide (hS.out.to hC.out.1)
    clear A0 A1 A2 AF cr
    by_cases herr : err = 0
    ·subst herr
     obtain ⟨e1, e2, e3⟩ := hC.out.2.2.2 rfl
     have hat : Hid (tatE t r = 0) := hC.out.2.2.1.symm
     have hbx := hC.out.2.1
     rw [← hnn.out] at e2
     subst e1 e2
     simp only [Value.slice.injEq] at e3
     obtain ⟨rfl, rfl, rfl⟩ := e3
     obtain ⟨⟨A0, A1, A2⟩, AF⟩ := cells3p hbx
     have KWs := rwalks_any w5 (atR t x1) (.slice ua un uc) n hn.out ⟨HPN.out.1, HPN.out.2.1⟩ HPN.out.2.2 (HH.out.to0 hS5.out.bel)
     dsimp only [tv] at KWs
     rw [← hnn.out] at KWs
     replace KWs := hide KWs
     clear hbx
     go_wp2_with fail
     refine KWs.out.mono ?_
     rintro e w6 ⟨g9, bs9, prv9, s9, bad9, rfl, hK, hE⟩
     have htw : twalk (atR t x1) = some s9 := by
      rcases hE with ⟨h, _⟩ | ⟨h, _⟩
      ·exact h
      ·obtain ⟨_, q, hq⟩ := tat_prs hat.out
       obtain ⟨_, _, s', h2, _⟩ := tprs_num hq
       rw [h] at h2; cases h2
     have hsn := hide (seen_is htw)
     have hS6 := hide (hS5.out.to hK.bel)
     have hR9 := hide hK.seen
     have hbb : Hid (bs < bs9) := Nat.lt_of_lt_of_le hS5.out.hbs.2 hK.hs
     obtain ⟨⟨K0, K1, K2, K3⟩, _, _⟩ := hK.cell
     clear KWs A0 A1 A2 AF hK hE htw
     go_wp2
     clear K0 K1 K2 K3
     go_loopw [11] (fun p wr => ∃ k : Nat, k ≤ n ∧ p = .int .i64 k ∧ Hid (∃ S2, SeenW bs n S2 wr ∧ KpM bs bs w6 wr ∧ ∀ x, x ∈ S2 ↔ x ∈ S ∨ (x ∈ s9.seen ∧ 0 ≤ x ∧ x < (k : Int)))) (fun p _ => n - (intOf p).toNat)
     case atStart => exact ⟨0, Nat.zero_le _, rfl, ⟨S, hS6.out.row, KpM.refl _ _ _, fun x => ⟨.inl, fun h => h.elim (fun h => h) fun h => by omega⟩⟩⟩
     case round =>
      obtain ⟨k, hkn, rfl, hJ⟩ := hrel
      obtain ⟨S2, hJ1, hJ2, hJ3⟩ := hJ.out
      clear hJ
      by_cases hlk : k < n
      ·have hqk : (k : Int) < (n : Int) := by omega
       obtain ⟨c1, c1f⟩ := hJ1.at hlk
       have hr9 : SeenW bs9 n s9.seen wr := hJ2.row hR9.out hbb.out hbb.out
       obtain ⟨c2, _⟩ := SeenW.at hr9 hlk
       obtain ⟨d1, hd1⟩ : ∃ b, b = decide ((k : Int) ∈ S2) := ⟨_, rfl⟩
       obtain ⟨d2, hd2⟩ : ∃ b, b = decide ((k : Int) ∈ s9.seen) := ⟨_, rfl⟩
       rw [← hd1] at c1
       rw [← hd2] at c2
       have hN : Hid (∀ v : Bool, v = (d1 || d2) → ∃ S3, SeenW bs n S3 (wr.setCell ⟨bs, k, none⟩ (.bool v)) ∧ KpM bs bs w6 (wr.setCell ⟨bs, k, none⟩ (.bool v)) ∧ ∀ x, x ∈ S3 ↔ x ∈ S ∨ (x ∈ s9.seen ∧ 0 ≤ x ∧ x < ((k + 1 : Nat) : Int))) := fun v hv => by
        refine ⟨_, hJ1.put hlk (v := v) (fun h => by rw [hv, hd1, decide_eq_true h]; rfl), hJ2.set k _, fun x => ?_⟩
        have hx := hJ3 x
        by_cases hxk : x = (k : Int)
        ·subst hxk
         cases hvv : v with
         | true =>
          rw [if_pos rfl]
          rw [hvv] at hv
          constructor
          ·intro _
           by_cases h1 : (k : Int) ∈ S2
           ·rcases hx.1 h1 with h | ⟨_, _, h⟩
            ·exact .inl h
            ·omega
           ·rw [hd1, hd2, decide_eq_false h1, Bool.false_or] at hv
            exact .inr ⟨of_decide_eq_true hv.symm, by omega, by push_cast; omega⟩
          ·intro _; exact List.mem_cons_self ..
         | false =>
          rw [if_neg (by simp)]
          rw [hvv, hd1, hd2] at hv
          have h1 : (k : Int) ∉ S2 := fun h => by rw [decide_eq_true h] at hv; cases hv
          have h2 : (k : Int) ∉ s9.seen := fun h => by rw [decide_eq_true h, Bool.or_true] at hv; cases hv
          constructor
          ·intro h; exact absurd h h1
          ·rintro (h | ⟨h, _⟩)
           ·exact absurd (hx.2 (.inl h)) h1
           ·exact absurd h h2
        ·have e1 : x ∈ (if v = true then (k : Int) :: S2 else S2) ↔ x ∈ S2 := by
          split
          ·simp [hxk]
          ·rfl
         rw [e1, hx]
         refine or_congr Iff.rfl (and_congr Iff.rfl (and_congr Iff.rfl ?_))
         push_cast
         omega
       clear hd1 hd2 hJ1 hJ2 hJ3 hr9
       cases d1 with
       | true =>
        have FIN := hide (hN.out true rfl)
        go_wp2
        go_roundw
        case rel => exact ⟨k + 1, hlk, by go_num, FIN⟩
        case measure => simp [intOf]; omega
       | false =>
        have FIN := hide (hN.out d2 (by simp))
        go_wp2
        go_roundw
        case rel => exact ⟨k + 1, hlk, by go_num, FIN⟩
        case measure => simp [intOf]; omega
      ·have hqk : ¬ (k : Int) < (n : Int) := by omega
       have hF : Hid (∃ S', RLo w wr bs n t (.slice ua un uc) rs (q + 1) S') := by
        have hbs := hS6.out.hbs
        refine ⟨S2, hJ1, fun x => ?_, fun i r hi hr => ?_, ?_, hS6.out.bel.trans (hJ2.2.2 _ (by omega) (by omega) hS6.out.bel.size), hbs.1, SeenW.lt hJ1⟩
        ·rw [hJ3 x, lv_take hr'.out x, hS.out.is x, hsn.out]
         refine or_congr Iff.rfl ⟨fun h => h.1, fun h => ⟨h, ?_⟩⟩
         obtain ⟨_, q9, hq9⟩ := tat_prs hat.out
         have h1 : LvOk (atR t x1) [] := ⟨⟨_, hq9⟩, fun r hr => by cases hr⟩
         have h2 := lv_lt h1 (x := x) (.inl (by rw [hsn.out]; exact h))
         have h3 := hn.out
         have h4 : x < t.next := h2.2
         omega
        ·by_cases e : i = q
         ·subst e; rw [hr'.out] at hr; cases hr; exact hat.out
         ·exact hS.out.ok i r (by omega) hr
        ·exact (hJ2.1 _ (lt_of_block hS6.out.box) (by omega) (by omega)).trans hS6.out.box
       clear hJ1 hJ2 hJ3
       go_wp2
       go_roundw
       case rel => exact ⟨q + 1, hlt, by go_num, hF⟩
       case measure => simp [intOf]; omega
    ·have hne : (err != 0) = true := by simpa using herr
     have hE : Hid (lvE t rs = err) := by
      show _ = _
      unfold lvE
      rw [if_neg (by simp [hc0.out]), if_neg (by rw [← hRL.out]; omega), rootsE_at hS.out.ok hr'.out (by rw [← hC.out.2.2.1]; exact herr), hC.out.2.2.1]
     have hE2 : Hid (err ≠ 0) := herr
     clear herr
     go_wp2
     go_ret2
     exact .inr ⟨by rw [hE.out]; exact hE2.out, by rw [hE.out]; rfl, hS5.out.bel⟩
  ·have hqq : ¬ (q : Int) < (RL : Int) := by omega
   have ht : rs.take q = rs := List.take_of_length_le (by rw [← hRL.out]; omega)
   have hE : Hid (lvE t rs = 0) := by
    show _ = _
    unfold lvE
    rw [if_neg (by simp [hc0.out]), if_neg (by rw [← hRL.out]; omega)]
    refine rootsE_ok fun r hr => ?_
    obtain ⟨i, hi⟩ := mem_at hr
    have := (List.getElem?_eq_some_iff.1 hi).1
    exact hS.out.ok i r (by rw [← hRL.out] at this; omega) hi
   have hLv : Hid (LvR t rs (upto S n)) := upto_live (lvE_ok hE.out).1 (fun x => by rw [hS.out.is x, ht]) (by rw [hn.out]; omega)
   obtain ⟨w5, hw5⟩ : ∃ x, x = wr := ⟨_, rfl⟩
   subst hw5
   clear A0 A1 A2 AF ht
   go_wp2
   go_loopw [12, 13] (fun v p wr => ∃ (k : Nat) (ov : Value), ov = v ∧ k ≤ n ∧ p = .int .i64 k ∧ Hid (OwnJ w.heap.size wr ov (upto S k) ∧ SeenW bs n S wr ∧ Below w.heap.size w wr)) (fun _ p _ => n - (intOf p).toNat)
   case atStart => exact ⟨0, _, rfl, Nat.zero_le _, rfl, hide ⟨World.ownsRow_nil _ _ _ _, hS.out.row, hS.out.bel⟩⟩
   case round =>
    obtain ⟨k, ov, rfl, hkn, rfl, hJ⟩ := hrel
    obtain ⟨oa, oc, ho⟩ := (OwnJ.rd hJ.out.1).slice
    obtain ⟨OL, hOL⟩ : ∃ n, n = (upto S k).length := ⟨_, rfl⟩
    rw [← hOL] at ho
    replace hOL := hide hOL
    subst ho
    by_cases hlk : k < n
    ·have hqk : (k : Int) < (n : Int) := by omega
     obtain ⟨c1, _⟩ := hJ.out.2.1.at hlk
     by_cases hin : (k : Int) ∈ S
     ·rw [decide_eq_true hin] at c1
      have hup : Hid (upto S (k + 1) = upto S k ++ [(k : Int)]) := by show _ = _; rw [upto_succ, if_pos hin]
      obtain ⟨X1, hX1, D1, bX1, sX1⟩ := boxedN wr #[.int .i64 (k : Int)] 3
      have C1 := cellN D1 (i := 0) rfl
      have OJ := hide (rows_to hJ.out.1 bX1)
      have hl1 : Hid (((upto S k).length + 1) * 8 ≤ 140737488355328) := by show _ ≤ _; have := upto_len S k; omega
      have hBX : Hid (w.heap.size ≤ X1.heap.size) := Nat.le_trans hJ.out.2.2.size bX1.size
      have BX1 := hide bX1
      have hin' := hide hin
      replace C1 := hide C1
      rw [hX1] at C1 OJ hBX
      clear D1 bX1 hin
      go_wp2_with (at_builtin; refine wpList_appJ9 rfl _ _ rfl w.heap.size _ (upto S k) (k : Int) wr.heap.size rfl rfl OJ.out C1.out hl1.out hBX.out ?_; intro v4 w4 o4 b4 k4; rw [← hX1] at b4 k4; rw [← hup.out] at o4; have FIN : Hid (OwnJ w.heap.size w4 v4 (upto S (k + 1)) ∧ SeenW bs n S w4 ∧ Below w.heap.size w w4) := ⟨o4, rows_keepT (rows_to hJ.out.2.1 BX1.out) (k4 _ (by decide)), (hJ.out.2.2.trans (BX1.out.mono hJ.out.2.2.size)).trans b4⟩; clear o4 b4 k4 hX1)
      go_roundw
      case rel => exact ⟨k + 1, _, rfl, hlk, by go_num, FIN⟩
      case measure => simp [intOf]; omega
     ·rw [decide_eq_false hin] at c1
      have hup : Hid (upto S (k + 1) = upto S k) := by show _ = _; rw [upto_succ, if_neg hin]
      have FIN : Hid (OwnJ w.heap.size wr (.slice oa OL oc) (upto S (k + 1)) ∧ SeenW bs n S wr ∧ Below w.heap.size w wr) := by rw [hup.out]; exact hJ.out
      have hin' := hide hin
      clear hin
      go_wp2
      go_roundw
      case rel => exact ⟨k + 1, _, rfl, hlk, by go_num, FIN⟩
      case measure => simp [intOf]; omega
    ·have hqk : ¬ (k : Int) < (n : Int) := by omega
     have hkn9 : k = n := by omega
     have FIN : Hid (OwnJ w.heap.size wr (.slice oa OL oc) (upto S n) ∧ Below w.heap.size w wr) := by rw [← hkn9]; exact ⟨hJ.out.1, hJ.out.2.2⟩
     clear hkn9
     go_wp2
     go_ret2
     exact .inl ⟨hE.out, _, _, rfl, FIN.out.1, hLv.out, FIN.out.2⟩
end Go.Proofs.YtpiikmkajckccaaGreat

namespace Go.Proofs.YtpiikmkajckccaaGreat
open Go.RowKit
theorem keepP_congr {a b : List Int} (h : ∀ x, x ∈ a ↔ x ∈ b) (l : List Wrt) : keepP a l = keepP b l := by
 unfold keepP
 congr 1
 funext y
 simp [h y.1]
theorem keepP_snoc (R : List Int) {l : List Wrt} {k : Nat} {y : Wrt} (h : l[k]? = some y) : keepP R (l.take (k + 1)) = if y.1 ∈ R then keepP R (l.take k) ++ [y] else keepP R (l.take k) := by
 unfold keepP
 rw [List.take_add_one, h]
 simp only [Option.toList_some, List.filter_append, List.filter_cons, List.filter_nil]
 split <;> simp_all
theorem live_of {t : Tr} {rs R : List Int} (hU : tups t.next t.pages t.pages.length) (hp : ∀ x ∈ R, tpage t.pages x ≠ none) (hi : ∀ x, x ∈ R ↔ Lv t rs x) : ∃ a, LvR t rs a ∧ ∀ x, x ∈ a ↔ x ∈ R := by
 refine ⟨(t.pages.map (·.1)).filter (fun x => decide (x ∈ R)), ?_, ?_⟩
 ·refine ⟨(tups_rise hU).sublist List.filter_sublist, fun x => ?_⟩
  rw [← hi x, List.mem_filter]
  refine ⟨fun h => by simpa using h.2, fun h => ⟨?_, by simpa using h⟩⟩
  cases hq : tpage t.pages x with
  | none => exact absurd hq (hp x h)
  | some z => exact List.mem_map.2 ⟨(x, z), tpage_mem hq, rfl⟩
 ·intro x
  rw [List.mem_filter]
  refine ⟨fun h => by simpa using h.2, fun h => ⟨?_, by simpa using h⟩⟩
  cases hq : tpage t.pages x with
  | none => exact absurd hq (hp x h)
  | some z => exact List.mem_map.2 ⟨(x, z), tpage_mem hq, rfl⟩
def SwR (w w' : World) (t : Tr) (rs : List Int) (e : Ending) : Prop :=
 (lvE t rs = 0 ∧ ∃ a pv', LvR t rs a ∧ e = .returned (.tuple #[tv (swT t a) pv', .int .i64 ((t.pages.length : Int) - ((keepP a t.pages).length : Int)), .int .i64 0]) ∧ OwnPg w.heap.size w' pv' (keepP a t.pages) ∧ Below w.heap.size w w') ∨
 (lvE t rs ≠ 0 ∧ e = .returned (.tuple #[tv ⟨0, 0, []⟩ (.slice none 0 0), .int .i64 0, .int .i64 (lvE t rs)]) ∧ Below w.heap.size w w')
structure SWl (w P wr : World) (g : Nat) (rt nx : Int) (v : Value) (qs : List Wrt) : Prop where
 own : OwnPg P.heap.size wr v qs
 box : wr.heap[g]? = some (.cells #[.int .i64 rt, .int .i64 nx, v] 28 (0, 0))
 kp : ∀ j, j < P.heap.size → j ≠ g → wr.heap[j]? = P.heap[j]?
 bel : Below w.heap.size w wr
 sz : P.heap.size ≤ wr.heap.size
theorem SWl.to {w P wr w' : World} {g : Nat} {rt nx : Int} {v : Value} {qs : List Wrt} (h : SWl w P wr g rt nx v qs) (b : Below wr.heap.size wr w') : SWl w P w' g rt nx v qs :=
 ⟨h.own.to9 b, (b.block _ (lt_of_block h.box)).trans h.box, fun j hj hg => (b.block j (Nat.lt_of_lt_of_le hj h.sz)).trans (h.kp j hj hg), h.bel.trans (b.mono h.bel.size), Nat.le_trans h.sz b.size⟩
set_option maxRecDepth 100000 in
set_option maxHeartbeats 4000000 in
theorem vsweep_any (w : World) (t : Tr) (pv rv : Value) (rs : List Int) (h : RdC w pv t.pages) (hx : ∀ x ∈ t.pages, x.2.length ≤ 140737488351232) (hroot : (Lit.int .i64 t.root).wf = true) (hr : RdI w rv rs) (hrw : ∀ r ∈ rs, (Lit.int .i64 r).wf = true) (hrl : rs.length ≤ 9223372036854775807) :
  Calls Tryz.prog 10 #[tv t pv, rv] w fun e w' => SwR w w' t rs e := by
 obtain ⟨W, hW, D, bW, sW⟩ := boxedN w #[.int .i64 t.root, .int .i64 t.next, pv] 28
 obtain ⟨X, hX, DX, bX, sX⟩ := boxedN W #[.int .i64 0, .int .i64 0, .slice none 0 0] 28
 have bWX := bW.trans (bX.mono bW.size)
 have KC := hide (vsearch_any X t pv rv rs (h.to0 bWX) hx hroot (hr.to0 bWX) hrw hrl)
 obtain ⟨a, c, rfl⟩ := h.slice
 obtain ⟨ra, rc, rfl⟩ := hr.slice
 have HH := hide h
 have HB := hide bWX
 have D1 := (bX.block _ (lt_of_block D)).trans D
 rw [sW] at DX
 have HD := hide (And.intro D1 DX)
 obtain ⟨⟨E0, E1, E2⟩, EF⟩ := cells3p D1
 obtain ⟨RL, hRL⟩ : ∃ L, L = rs.length := ⟨_, rfl⟩
 rw [← hRL] at KC hrl ⊢
 replace hRL := hide hRL
 dsimp only [tv] at KC ⊢
 rw [hX, hW] at E0 E1 E2 EF KC
 have hsz : Hid (X.heap.size = w.heap.size + 1 + 1) := by show _ = _; omega
 replace hroot := hide hroot
 replace hrw := hide hrw
 replace hx := hide hx
 clear h hr bW bX D D1 DX sW sX bWX
 go_enter Tryz.func10, Tryz.ntmps10
 go_wp2_with fail
 refine KC.out.mono ?_
 rintro e w1 h1
 rw [← hW, ← hX] at h1
 clear KC E0 E1 E2 EF
 replace hW := hide hW
 replace hX := hide hX
 rcases h1 with ⟨h1, bm, R, rfl, v1, i1⟩ | ⟨h1, rfl, b1⟩
 ·have B1 := HB.out.trans (v1.bel.mono HB.out.size)
  have T1 := (v1.bel.block _ (lt_of_block HD.out.1)).trans HD.out.1
  have R1 := (v1.bel.block _ (lt_of_block HD.out.2)).trans HD.out.2
  obtain ⟨Y, hY, DY, bY, sY⟩ := boxedN w1 #[.slice a t.pages.length c, .map (some bm)] 68
  obtain ⟨P, hP, DP, bP, sP⟩ := boxedN Y #[.int .i64 t.root, .int .i64 t.next, .slice none 0 0] 28
  rw [sY] at DP
  have bYP := bY.trans (bP.mono bY.size)
  obtain ⟨⟨ps0, hps0⟩, _⟩ := (lvE_ok h1).1
  obtain ⟨d0, _, hN, _⟩ := tprs_top hps0
  have hlen : t.pages.length ≤ 65536 := by have := tups_len hN.2.2.1 hN.1; have := hN.2.1; omega
  have hwf : Hid (∀ y ∈ t.pages, (Lit.int .i64 y.1).wf = true) := fun y hy => by
   have := tups_bd hN.2.2.1 y hy
   have := hN.2.1
   exact WalkArith.wf_i64 (by omega)
  have vP := v1.to bYP
  obtain ⟨m, m1, m2, m3⟩ := vP.map
  have hbm := v1.lt
  have hXw := v1.bel.size
  rw [hsz.out] at hXw
  have TP := (bYP.block _ (lt_of_block T1)).trans T1
  have RP := (bYP.block _ (lt_of_block R1)).trans R1
  have SP := (bP.block _ (lt_of_block DY)).trans DY
  have HP := hide (And.intro TP (And.intro RP SP))
  have HM := hide (And.intro m1 m2)
  have HM3 := hide m3
  have hps : Hid (P.heap.size = w1.heap.size + 1 + 1) := by show _ = _; omega
  have HL := hide (live_of hN.2.2.1 v1.pg i1)
  have hI0 : Hid (SWl w P P (w1.heap.size + 1) t.root t.next (.slice none 0 0) (keepP R (t.pages.take 0))) := ⟨OwnX.nil _ _ _, DP, fun j _ _ => rfl, B1.trans (bYP.mono B1.size), Nat.le_refl _⟩
  obtain ⟨⟨E0, E1, E2⟩, EF⟩ := cells3p ((bY.block _ (lt_of_block T1)).trans T1)
  obtain ⟨⟨G0, G1, G2⟩, GF⟩ := cells3p TP
  replace h1 := hide h1
  replace hbm := hide hbm
  replace hXw := hide hXw
  obtain ⟨L, hL⟩ : ∃ L, L = t.pages.length := ⟨_, rfl⟩
  rw [← hL] at hlen E2 G2 HP
  have hYL := hY
  rw [← hL] at hYL
  have HHL := HH
  rw [← hL] at HHL
  dsimp only [sev]
  rw [← hL]
  replace hL := hide hL
  rw [hP, hYL] at G0 G1 G2 GF
  rw [hYL] at E0 E1 E2 EF
  clear v1 vP m1 m2 m3 DY DP bY bP bYP sY sP TP RP SP T1 R1 i1 B1 hN hps0 hY
  go_wp2
  rw [← hYL, ← hP]
  replace hP := hide hP
  replace hYL := hide hYL
  clear E0 E1 E2 EF G0 G1 G2 GF
  go_loopw [30] (fun p wr => ∃ k : Nat, k ≤ L ∧ p = .int .i64 k ∧ ∃ v, Hid (SWl w P wr (w1.heap.size + 1) t.root t.next v (keepP R (t.pages.take k)))) (fun p _ => L - (intOf p).toNat)
  case atStart => exact ⟨0, Nat.zero_le _, rfl, _, hI0⟩
  case round =>
   obtain ⟨k, hk, rfl, v, hI⟩ := hrel
   have hq1 := hXw.out
   have hq2 := hbm.out
   have hq3 := hps.out
   have TR := (hI.out.kp _ (by omega) (by omega)).trans HP.out.1
   have RR := (hI.out.kp _ (by omega) (by omega)).trans HP.out.2.1
   have SR := (hI.out.kp _ (by omega) (by omega)).trans HP.out.2.2
   have MR := HM.out.1.kept (hI.out.kp bm (by omega) (by omega))
   clear hq1 hq2 hq3
   by_cases hlt : k < L
   ·have hq : (k : Int) < (L : Int) := by omega
    obtain ⟨y, hy⟩ := some_el t.pages (k := k) (by rw [← hL.out]; exact hlt)
    have hmy := List.mem_of_getElem? hy
    have hxl := hx.out y hmy
    have hwy := hwf.out y hmy
    have hsn := hide (keepP_snoc R hy)
    obtain ⟨b, off, u, e1, hc1, hc2, hr⟩ := HHL.out.wrt hy
    subst e1
    obtain ⟨z, x⟩ := y
    dsimp only at hc1 hc2 hr hxl hwy hsn
    obtain ⟨au, cu, rfl⟩ := hr.slice
    replace hc1 := (hI.out.bel.cell (cell_lt hc1)).trans hc1
    replace hc2 := (hI.out.bel.cell (cell_lt hc2)).trans hc2
    obtain ⟨V, hV, DV, bV, sV⟩ := boxedN wr #[.int .i64 z, .slice au x.length cu] 44
    have KH := hide (vhas_any V (.slice (some ⟨b, off, none⟩) L c) bm _ m z (MR.kept (bV.block _ MR.lt)) HM3.out hwy rfl)
    rw [HM.out.2 z] at KH
    have IV := hide (hI.out.to bV)
    have HV := hide DV
    have hr' := hide (hr.to (hI.out.bel.trans (bV.mono hI.out.bel.size)))
    obtain ⟨⟨V0, V1⟩, VF⟩ := cells2r DV
    obtain ⟨⟨S0, S1⟩, SF⟩ := cells2r ((bV.block _ (lt_of_block SR)).trans SR)
    dsimp only [sev] at KH
    obtain ⟨XL, hXL⟩ : ∃ XL, XL = x.length := ⟨_, rfl⟩
    rw [← hXL] at hV V1 hc2 HV
    replace hXL := hide hXL
    rw [hV] at V0 V1 VF S0 S1 SF KH
    clear hr bV DV sV TR RR SR MR hI hmy hy
    replace hwy := hide hwy
    replace hxl := hide hxl
    go_wp2_with fail
    refine KH.out.mono ?_
    rintro e w2 ⟨rfl, b2⟩
    rw [← hV] at b2
    have I2 := hide (IV.out.to b2)
    have D2 := (b2.block _ (lt_of_block HV.out)).trans HV.out
    have r2 := hide (hr'.out.to b2)
    clear KH V0 V1 VF S0 S1 SF hc1 hc2 IV HV hr' b2
    replace hV := hide hV
    by_cases hz : z ∈ R
    ·rw [decide_eq_true hz]
     have hsn' : Hid (keepP R (t.pages.take (k + 1)) = keepP R (t.pages.take k) ++ [(z, x)]) := by show _ = _; rw [hsn.out, if_pos hz]
     replace hz := hide hz
     clear hsn
     obtain ⟨oa, oc, ho⟩ := I2.out.own.shape
     obtain ⟨KL, hKL⟩ : ∃ KL, KL = (keepP R (t.pages.take k)).length := ⟨_, rfl⟩
     have hKL2 : KL ≤ k := by
      rw [hKL]
      have := keep_le R (t.pages.take k)
      rw [List.length_take] at this
      omega
     rw [← hKL] at ho
     replace hKL := hide hKL
     subst ho
     have bd : Below w2.heap.size w2 w2.drew := below_drewN' w2 1 _
     have KC := hide (bclone10 w2.drew _ x (r2.out.to bd) hxl.out)
     rw [← hXL.out] at KC
     have I3 := hide (I2.out.to bd)
     have D3 := (bd.block _ (lt_of_block D2)).trans D2
     obtain ⟨⟨d1, d2⟩, _⟩ := cells2r D3
     obtain ⟨⟨_, _, d3⟩, _⟩ := cells3p I3.out.box
     have hn : (KL + 1) * 32 ≤ 140737488355328 := by omega
     clear D2 D3 I2 r2 bd
     go_upto_region 9 with fail
     refine wp_region_mid (fun w' => w'.cell? ⟨wr.heap.size, 0, none⟩ = some (.int .i64 z) ∧ w'.cell? ⟨wr.heap.size, 1, none⟩ = some (.slice au XL cu) ∧ w'.cell? ⟨w1.heap.size + 1, 2, none⟩ = some (.slice oa KL oc)) 6 9 mixed (by kernel_rfl) (fun _ _ _ _ h => h) ⟨d1, d2, d3⟩ ?_
     dsimp only [List.take, List.drop]
     iterate 6
      refine take_one (v := ?_) (by rfl) ?_ ?_
      rotate_left
      ·rintro w' ⟨s1, s2, s3⟩
       go_simp
       try with_reducible rfl
      try simp only [Act.put, List.setIfInBounds_toArray, List.set_cons_zero, List.set_cons_succ]
     refine mid_one fun K hK => ?_
     refine step_call (by rfl) 30 _ _ (by rfl) #[.slice au XL cu] (by simp [Act.eval]) (Tryz.call30 _ _) KC.out ?_
     rintro e w3 ⟨v3, rfl, o3, b3⟩
     obtain ⟨va, vc, hv3⟩ := o3.rd.slice
     rw [← hXL.out] at hv3
     subst hv3
     have x1 := (b3.cell (cell_lt d1)).trans d1
     have x2 := (b3.cell (cell_lt d2)).trans d2
     have x3 := (b3.cell (cell_lt d3)).trans d3
     refine ⟨_, rfl, hK _ _ ⟨x1, x2, x3⟩ ?_⟩
     clear hK K
     have I4 := hide (I3.out.to b3)
     have O3 : Hid (OwnB P.heap.size w3 (.slice va XL vc) x) := rows_mono o3 I3.out.sz
     clear b3 o3 KC d1 d2 d3 I3
     try simp only [Act.put, List.setIfInBounds_toArray, List.set_cons_zero, List.set_cons_succ]
     refine mid_one fun K hK => ?_
     rw [if_pos (by rfl)]
     go_simp
     refine hK _ _ ⟨x1, x2, x3⟩ ?_
     clear hK K
     refine mid_one fun K hK => ?_
     rw [if_pos (by rfl)]
     go_simp
     refine hK _ _ ⟨cellAl9 x1 _, cellAl9 x2 _, cellAl9 x3 _⟩ ?_
     clear hK K x1 x2 x3
     show wpList _ _ _ _ _ _
     obtain ⟨Z, hZ, DZ, bZ, sZ⟩ := boxedN w3 #[.int .i64 z, .slice va XL vc] 44
     obtain ⟨⟨Z0, Z1⟩, _⟩ := cells2r DZ
     have IZ := hide (I4.out.to bZ)
     have OZ := IZ.out.own
     have SZ : OwnB P.heap.size Z (.slice va XL vc) x := rows_to O3.out bZ
     have hB : P.heap.size ≤ Z.heap.size := IZ.out.sz
     rw [hZ] at Z0 Z1 OZ SZ hB
     refine wpList_appPg rfl _ _ rfl P.heap.size (.slice oa KL oc) (keepP R (t.pages.take k)) (z, x) (.slice va XL vc) w3.heap.size rfl rfl OZ SZ rfl Z0 Z1 (by rw [← hKL.out]; exact hn) hB ?_
     intro v5 w5 o5 g5 b5 _
     rw [← hZ] at b5
     rw [← hsn'.out] at o5
     obtain ⟨na, nc, hv5⟩ := o5.shape
     generalize (keepP R (t.pages.take (k + 1))).length = nl at hv5
     subst hv5
     have hg9 : w1.heap.size + 1 < P.heap.size := by rw [hps.out]; omega
     have T5 := (b5.block _ hg9).trans IZ.out.box
     have hXw9 := hXw.out
     obtain ⟨⟨T0, T1, T2⟩, TF⟩ := cells3p T5
     have d0 := heap_setN T5 2 (.slice na nl nc)
     have D7 : (w5.setCell ⟨w1.heap.size + 1, 2, none⟩ (.slice na nl nc)).heap[w1.heap.size + 1]? = some (.cells #[.int .i64 t.root, .int .i64 t.next, (.slice na nl nc)] 28 (0, 0)) := by simpa using d0
     have kk : ∀ e, e ≠ 28 → KeepT e w5 (w5.setCell ⟨w1.heap.size + 1, 2, none⟩ (.slice na nl nc)) := fun e he => KeepT.set (a := ⟨w1.heap.size + 1, 2, none⟩) T5 he _
     have I5 : Hid (SWl w P (w5.setCell ⟨w1.heap.size + 1, 2, none⟩ (.slice na nl nc)) (w1.heap.size + 1) t.root t.next (.slice na nl nc) (keepP R (t.pages.take (k + 1)))) := by
      refine ⟨o5.keepT (kk _ (by decide)) (kk _ (by decide)), D7, fun j hj hg => ?_, ?_, ?_⟩
      ·exact (Below.heap_setCell _ _ _ _ hg).trans ((b5.block j hj).trans (IZ.out.kp j hj hg))
      ·refine Below.setCell (IZ.out.bel.trans (b5.mono ?_)) (p := ⟨w1.heap.size + 1, 2, none⟩) (show w.heap.size ≤ w1.heap.size + 1 by omega) _
       rw [hps.out]; omega
      ·have := b5.size
       have := IZ.out.sz
       simp
       omega
     clear o5 g5 b5 Z0 Z1 OZ SZ hB DZ bZ hZ IZ I4 O3 d0 D7 kk T5 hXw9 hg9
     go_wp2
     go_roundw
     case rel => exact ⟨k + 1, by omega, by go_num, _, I5⟩
     case measure => simp [intOf]; omega
    ·rw [decide_eq_false hz]
     have hI' : Hid (SWl w P w2 (w1.heap.size + 1) t.root t.next v (keepP R (t.pages.take (k + 1)))) := by
      have := I2.out
      rw [hsn.out, if_neg hz]
      exact this
     replace hz := hide hz
     clear D2 I2 r2 hsn
     go_wp2
     go_roundw
     case rel => exact ⟨k + 1, by omega, by go_num, _, hI'⟩
     case measure => simp [intOf]; omega
   ·have hq : ¬ (k : Int) < (L : Int) := by omega
    obtain rfl : k = L := by omega
    have htk : t.pages.take k = t.pages := List.take_of_length_le (by rw [← hL.out]; omega)
    rw [htk] at hI
    obtain ⟨A, hA, hAR⟩ := HL.out
    have hkp := keepP_congr hAR t.pages
    rw [← hkp] at hI
    obtain ⟨oa, oc, ho⟩ := hI.out.own.shape
    obtain ⟨KL, hKL⟩ : ∃ KL, KL = (keepP A t.pages).length := ⟨_, rfl⟩
    have hKL2 : KL ≤ k := by
     rw [hKL, hL.out]
     exact keep_le _ _
    rw [← hKL] at ho
    replace hKL := hide hKL
    subst ho
    have hwr : IntKind.i64.wrap ((k : Int) - (KL : Int)) = (k : Int) - (KL : Int) := IntWalk.i64_in _ (by omega)
    have bd : Below wr.heap.size wr wr.drew := below_drewN' wr 1 _
    have ID := hI.out.to bd
    have RD := (bd.block _ (lt_of_block RR)).trans RR
    have TD := (bd.block _ (lt_of_block TR)).trans TR
    have hg1 := hXw.out
    have hsk := fun e (he : e ≠ 28) => s3_keep9 RD (.int .i64 t.root) (.int .i64 t.next) (.slice oa KL oc) he
    have OO := hide (ID.own.keepT (hsk _ (by decide)) (hsk _ (by decide)))
    have BB := hide (below_set3t ID.bel (show w.heap.size ≤ w.heap.size + 1 by omega) (.int .i64 t.root) (.int .i64 t.next) (.slice oa KL oc))
    have hYw : Hid (w.heap.size ≤ P.heap.size) := by show _ ≤ _; rw [hps.out]; omega
    have HR := hide RD
    have SS := hide (And.intro TD ID.box)
    have hng : Hid (w.heap.size ≠ w.heap.size + 1 ∧ w1.heap.size + 1 ≠ w.heap.size + 1) := by refine ⟨?_, ?_⟩ <;> omega
    replace hA := hide hA
    clear hI TR RR SR MR hkp hAR htk hsk hg1 bd ID RD TD
    go_upto_region 11 with fail
    refine wp_region_mid (fun w' => w'.heap[w.heap.size]? = some (.cells #[.int .i64 t.root, .int .i64 t.next, .slice a k c] 28 (0, 0)) ∧ w'.heap[w1.heap.size + 1]? = some (.cells #[.int .i64 t.root, .int .i64 t.next, .slice oa KL oc] 28 (0, 0))) 8 9 mixed (by kernel_rfl) (fun _ _ _ _ h => h) SS.out ?_
    dsimp only [List.take, List.drop]
    obtain ⟨U, hU⟩ : ∃ U, U = wr.drew := ⟨_, rfl⟩
    rw [← hU] at HR SS OO BB ⊢
    replace hU := hide hU
    iterate 8
     refine take_one (v := ?_) (by rfl) ?_ ?_
     rotate_left
     ·rintro w' ⟨s1, s2⟩
      obtain ⟨⟨E0, E1, E2⟩, EF⟩ := cells3p s1
      obtain ⟨⟨G0, G1, G2⟩, GF⟩ := cells3p s2
      clear s1 s2
      go_simp
      try with_reducible rfl
     try simp only [Act.put, List.setIfInBounds_toArray, List.set_cons_zero, List.set_cons_succ]
    refine mid_one fun KK hKK => ?_
    rw [if_pos (by rfl)]
    obtain ⟨⟨F0, F1, F2⟩, FF⟩ := cells3p HR.out
    go_simp
    refine hKK _ _ ⟨?_, ?_⟩ ?_
    ·exact (Below.heap_setCell _ _ _ _ hng.out.1).trans ((Below.heap_setCell _ _ _ _ hng.out.1).trans ((Below.heap_setCell _ _ _ _ hng.out.1).trans SS.out.1))
    ·exact (Below.heap_setCell _ _ _ _ hng.out.2).trans ((Below.heap_setCell _ _ _ _ hng.out.2).trans ((Below.heap_setCell _ _ _ _ hng.out.2).trans SS.out.2))
    clear hKK KK F0 F1 F2 FF
    show wpList _ _ _ _ _ _
    go_wp2
    (try simp only [Exit.inBlock, Exit.then])
    have hgg := heap_set3t HR.out (.int .i64 t.root) (.int .i64 t.next) (.slice oa KL oc)
    refine retNTT (p := 4) (u1 := 5) (u2 := 6) (ty := 28) (by rfl) (by rfl) (w.heap.size + 1) (by rfl) _ _ (0, 0) hgg _ Tryz.underlying28 rfl info_tr (.int .i64 ((k : Int) - (KL : Int))) (by rfl) (.int .i64 0) (by rfl) ?_
    refine .inl ⟨h1.out, A, _, hA.out, ?_, OwnX.base OO.out hYw.out, BB.out⟩
    rw [← hKL.out, ← hL.out]
 ·have B1 := HB.out.trans (b1.mono HB.out.size)
  have R1 := (b1.block _ (lt_of_block HD.out.2)).trans HD.out.2
  obtain ⟨Y, hY, DY, bY, sY⟩ := boxedN w1 #[.slice none 0 0, .map none] 68
  have R2 := (bY.block _ (lt_of_block R1)).trans R1
  have BY := hide (B1.trans (bY.mono B1.size))
  have HR := hide R2
  obtain ⟨er, her⟩ : ∃ er, er = lvE t rs := ⟨_, rfl⟩
  rw [← her] at h1 ⊢
  replace her := hide her
  obtain ⟨⟨F0, F1, F2⟩, FF⟩ := cells3p R2
  rw [hY] at F0 F1 F2 FF HR BY
  clear DY bY sY B1 b1 R1 R2 hY
  go_wp2
  (try simp only [Exit.inBlock, Exit.then])
  have hgg := heap_set3t HR.out (.int .i64 0) (.int .i64 0) (.slice none 0 0)
  refine retNTT (p := 4) (u1 := 5) (u2 := 6) (ty := 28) (by rfl) (by rfl) (w.heap.size + 1) (by rfl) _ _ (0, 0) hgg _ Tryz.underlying28 rfl info_tr (.int .i64 0) (by rfl) (.int .i64 er) (by rfl) ?_
  exact .inr ⟨by rw [← her.out]; exact h1, by rw [← her.out], below_set3t BY.out (show w.heap.size ≤ w.heap.size + 1 by omega) _ _ _⟩
end Go.Proofs.YtpiikmkajckccaaGreat

namespace Go.Proofs.YtpiikmkajckccaaGreat
open Go.RowKit
theorem keep_front {t : Tr} {rs A : List Int} (hA : LvR t rs A) (h : LvOk t rs) : (keepP A t.pages).map (·.1) = A := by
 obtain ⟨ps, h1⟩ := h.1
 obtain ⟨d, h2, h3, _⟩ := tprs_top h1
 refine rise_eq (tups_rise (tups_keep A h3.2.2.1)) hA.1 fun x => ?_
 constructor
 ·intro hx
  obtain ⟨y, hy, rfl⟩ := List.mem_map.1 hx
  simpa using (List.mem_filter.1 hy).2
 ·intro hx
  have := lv_page h ((hA.2 x).1 hx)
  cases hp : tpage t.pages x with
  | none => exact absurd hp this
  | some z => exact List.mem_map.2 ⟨(x, z), List.mem_filter.2 ⟨tpage_mem hp, by simpa using hx⟩, rfl⟩
theorem keep_next {t : Tr} {rs A : List Int} (hA : LvR t rs A) (h : LvOk t rs) {i : Nat} {y : Wrt} (hy : t.pages[i]? = some y) : (A[(keepP A (t.pages.take i)).length]? = some y.1) ↔ y.1 ∈ A := by
 have hf := keep_front hA h
 have hsp : t.pages = t.pages.take i ++ y :: t.pages.drop (i + 1) := by
  obtain ⟨hl, e⟩ := List.getElem?_eq_some_iff.1 hy
  rw [← e, List.getElem_cons_drop, List.take_append_drop]
 constructor
 ·intro hm; exact List.mem_of_getElem? hm
 ·intro hm
  have hK : keepP A t.pages = keepP A (t.pages.take i) ++ y :: keepP A (t.pages.drop (i + 1)) := by
   have h1 : keepP A (t.pages.take i ++ y :: t.pages.drop (i + 1)) = keepP A (t.pages.take i) ++ y :: keepP A (t.pages.drop (i + 1)) := by
    unfold keepP
    rw [List.filter_append, List.filter_cons, if_pos (by simpa using hm)]
   rw [← hsp] at h1
   exact h1
  have e := congrArg (List.map (·.1)) hK
  rw [hf, List.map_append, List.map_cons] at e
  have h2 : A[(keepP A (t.pages.take i)).length]? = ((keepP A (t.pages.take i)).map (·.1) ++ y.1 :: (keepP A (t.pages.drop (i + 1))).map (·.1))[(keepP A (t.pages.take i)).length]? := congrArg (fun (l : List Int) => l[(keepP A (t.pages.take i)).length]?) e
  rw [h2, List.getElem?_append_right (by simp)]
  simp
end Go.Proofs.YtpiikmkajckccaaGreat

namespace Go.Proofs.YtpiikmkajckccaaGreat
open Go.RowKit
def OwnZ (w0 : World) (B : Nat) (w : World) (v : Value) (ws : List Wrt) : Prop :=
 ∃ svs : List Value, svs.length = ws.length ∧ w.ownsRow B 45 2 v ws.length (wcells ws svs) ∧ ∀ i, i < ws.length → Rd w0 (svs.getD i undef) (ws.getD i (0, [])).2
theorem OwnZ.nil (w0 : World) (B : Nat) (w : World) : OwnZ w0 B w (.slice none 0 0) [] := ⟨[], rfl, World.ownsRow_nil _ _ _ _, fun i hi => by simp at hi⟩
theorem OwnZ.keepT {w0 : World} {B : Nat} {w w' : World} {v : Value} {ws : List Wrt} (h : OwnZ w0 B w v ws) (k : KeepT 45 w w') : OwnZ w0 B w' v ws := by
 obtain ⟨vs, h1, h2, h3⟩ := h
 exact ⟨vs, h1, rows_keepT h2 k, h3⟩
theorem OwnZ.to {w0 : World} {B : Nat} {w w' : World} {v : Value} {ws : List Wrt} (h : OwnZ w0 B w v ws) (b : Below w.heap.size w w') : OwnZ w0 B w' v ws := h.keepT (KeepT.below b)
theorem OwnZ.base {w0 : World} {B C : Nat} {w : World} {v : Value} {ws : List Wrt} (h : OwnZ w0 C w v ws) (hBC : B ≤ C) : OwnZ w0 B w v ws := by
 obtain ⟨vs, h1, h2, h3⟩ := h
 exact ⟨vs, h1, rows_mono h2 hBC, h3⟩
theorem OwnZ.shape {w0 : World} {B : Nat} {w : World} {v : Value} {ws : List Wrt} (h : OwnZ w0 B w v ws) : ∃ a c, v = .slice a ws.length c := by
 obtain ⟨svs, h1, h2, h3⟩ := h
 rcases h2.2 with ⟨rfl, e⟩ | ⟨g, cap, cur, rfl, _⟩
 ·exact ⟨none, 0, by rw [e]⟩
 ·exact ⟨_, _, rfl⟩
theorem OwnZ.rd {w0 : World} {B : Nat} {w : World} {v : Value} {ws : List Wrt} (h : OwnZ w0 B w v ws) (b : Below w0.heap.size w0 w) : RdC w v ws := by
 obtain ⟨svs, h1, h2, h3⟩ := h
 rcases h2.2 with ⟨rfl, h0⟩ | ⟨g, cap, cur, rfl, hgb, hg, hn, hm, hs, ht⟩
 ·have : ws = [] := List.eq_nil_of_length_eq_zero h0
  subst this
  exact RdS.nil _ _
 ·refine ⟨_, cap, rfl, hn, hm, (fun h => by cases h), .inr ⟨g, 0, rfl, fun i x hx => ?_⟩⟩
  have hi : i < ws.length := (List.getElem?_eq_some_iff.1 hx).1
  obtain ⟨c1, c2⟩ := wcells_at ws svs i h1 hi
  have hr := (h3 i hi).to b
  rw [getD_some hx] at c1 hr
  refine ⟨[.int .i64 x.1, svs.getD i undef], ⟨[_], [_], rfl, rfl, _, rfl, hr⟩, fun j u hj => ?_⟩
  match j, hj with
  | 0, hj =>
   simp only [List.getElem?_cons_zero, Option.some.injEq] at hj
   subst hj
   show w.cell? ⟨g, 0 + i * 2 + 0, none⟩ = _
   rw [Nat.zero_add, Nat.add_zero, h2.cellAt (i * 2) (by omega)]; exact c1
  | 1, hj =>
   simp only [List.getElem?_cons_succ, List.getElem?_cons_zero, Option.some.injEq] at hj
   subst hj
   show w.cell? ⟨g, 0 + i * 2 + 1, none⟩ = _
   rw [Nat.zero_add, h2.cellAt (i * 2 + 1) (by omega)]; exact c2
  | j + 2, hj => simp at hj
theorem wpList_appZ {ops : Array Oper} {rest : List Oper} {o : Oper} {a : Act} {w : World} {Q : Exit → Act → World → Prop} (hgd : o.guard = none) (s x : Operand)
  (ho : o.op = .call { callee := .builtin .append, args := #[s, x], argTypes := #[22, 22] }) (w0 : World) (B : Nat) (v : Value) (ws : List Wrt) (f : Wrt) (sv : Value) (g : Nat) (hs : a.eval s = v) (hx : a.eval x = .slice (some ⟨g, 0, none⟩) 1 1)
  (hown : OwnZ w0 B w v ws) (hsv : Rd w0 sv f.2) (hone : sv.oneCell' = true) (hc1 : w.cell? ⟨g, 0, none⟩ = some (.int .i64 f.1)) (hc2 : w.cell? ⟨g, 1, none⟩ = some sv) (hlen : (ws.length + 1) * 32 ≤ 140737488355328) (hB : B ≤ w.heap.size)
  (h : ∀ v' w', OwnZ w0 B w' v' (ws ++ [f]) → w.grownBy w' v.ownBlock → Below B w w' → (∀ e, e ≠ 45 → KeepT e w w') → wpList Tryz.prog ops Q rest (a.put o.dst v') w') : wpList Tryz.prog ops Q (o :: rest) a w := by
 obtain ⟨i0, hi, hz0, hz1, hz2⟩ := info_parts infoPr10
 obtain ⟨svs, h1, h2, h3⟩ := hown
 have n2 : ∀ j u, [Value.int .i64 f.1, sv][j]? = some u → w.cell? ((⟨g, 0, none⟩ : Addr).add j) = some u := by
  intro j u hj
  match j, hj with
  | 0, hj => simp at hj; subst hj; simpa [Addr.add] using hc1
  | 1, hj => simp at hj; subst hj; simpa [Addr.add] using hc2
  | j + 2, hj => simp at hj
 refine wpList_append_own _ hgd s x 22 ho B 45 i0 (.agg #[.int .i64 0, .slice none 0 0]) 2 32 Tryz.underlying22 hi hz0 hz1 hz2 rfl (by decide) v ws.length (wcells ws svs) hs h2 ⟨g, 0, none⟩ 1 1 [.int .i64 f.1, sv] hx rfl n2
  (fun u hu => by simp at hu; rcases hu with rfl | rfl; rfl; exact hone) (by rw [show maxLen = 9223372036854775807 from rfl]; omega) hlen hB ?_
 intro v' w' q1 q2 _
 refine h v' w' ⟨svs ++ [sv], by simp [h1], ?_, ?_⟩ q2 ((Below.refl _ _).grown q2 hB (fun k hk => (World.ownsRow.lt h2 k hk).1)) (fun e he => KeepT.grown h2 q2 he)
 ·rw [wcells_snoc ws svs f sv h1, List.length_append]
  simpa using q1
 ·intro i hi
  simp only [List.length_append, List.length_cons, List.length_nil] at hi
  by_cases hlt : i < ws.length
  ·have e1 : (svs ++ [sv]).getD i undef = svs.getD i undef := by simp [List.getD_eq_getElem?_getD, List.getElem?_append_left (show i < svs.length by omega)]
   have e2 : (ws ++ [f]).getD i (0, []) = ws.getD i (0, []) := by simp [List.getD_eq_getElem?_getD, List.getElem?_append_left hlt]
   rw [e1, e2]
   exact h3 i hlt
  ·obtain rfl : i = ws.length := by omega
   have e1 : (svs ++ [sv]).getD ws.length undef = sv := by rw [← h1]; simp [List.getD_eq_getElem?_getD]
   have e2 : (ws ++ [f]).getD ws.length (0, []) = f := by simp [List.getD_eq_getElem?_getD]
   rw [e1, e2]
   exact hsv
end Go.Proofs.YtpiikmkajckccaaGreat

namespace Go.Proofs.YtpiikmkajckccaaGreat
open Go.RowKit
def RSw (w w' : World) (t : Tr) (rs : List Int) (e : Ending) : Prop :=
 (lvE t rs = 0 ∧ ∃ a v, LvR t rs a ∧ e = .returned (.tuple #[tv (swT t a) v, .int .i64 ((t.pages.length : Int) - ((keepP a t.pages).length : Int)), .int .i64 0]) ∧ OwnZ w w.heap.size w' v (keepP a t.pages) ∧ Below w.heap.size w w') ∨
 (lvE t rs ≠ 0 ∧ e = .returned (.tuple #[tv ⟨0, 0, []⟩ (.slice none 0 0), .int .i64 0, .int .i64 (lvE t rs)]) ∧ Below w.heap.size w w')
structure SWz (w P wr : World) (g : Nat) (rt nx : Int) (v : Value) (qs : List Wrt) : Prop where
 own : OwnZ w P.heap.size wr v qs
 box : wr.heap[g]? = some (.cells #[.int .i64 rt, .int .i64 nx, v] 24 (0, 0))
 kp : ∀ j, j < P.heap.size → j ≠ g → wr.heap[j]? = P.heap[j]?
 bel : Below w.heap.size w wr
 sz : P.heap.size ≤ wr.heap.size
theorem SWz.to {w P wr w' : World} {g : Nat} {rt nx : Int} {v : Value} {qs : List Wrt} (h : SWz w P wr g rt nx v qs) (b : Below wr.heap.size wr w') : SWz w P w' g rt nx v qs :=
 ⟨h.own.to b, (b.block _ (lt_of_block h.box)).trans h.box, fun j hj hg => (b.block j (Nat.lt_of_lt_of_le hj h.sz)).trans (h.kp j hj hg), h.bel.trans (b.mono h.bel.size), Nat.le_trans h.sz b.size⟩
theorem SWz.keep {w P wr : World} {g : Nat} {rt nx : Int} {v : Value} {qs : List Wrt} (h : SWz w P wr g rt nx v qs) {cs : Array Value} {T : Nat} {fr : Nat × Nat} (D : P.heap[g]? = some (.cells cs T fr)) {e : Nat} (he : e ≠ T) : KeepT e P wr := fun b cur fr' x => (h.kp b (lt_of_block x) fun q => by
 rw [q, D] at x
 simp only [Option.some.injEq, Obj.cells.injEq] at x
 exact he x.2.1.symm).trans x
set_option maxRecDepth 100000 in
set_option maxHeartbeats 4000000 in
theorem rsweep_any (w : World) (t : Tr) (pv rv : Value) (rs : List Int) (h : RdC w pv t.pages) (hr : RdI w rv rs) (hrl : rs.length ≤ 9223372036854775807) :
  Calls Tryz.prog 11 #[tv t pv, rv] w fun e w' => RSw w w' t rs e := by
 obtain ⟨W, hW, D, bW, sW⟩ := boxedN w #[.int .i64 t.root, .int .i64 t.next, pv] 24
 obtain ⟨X, hX, DX, bX, sX⟩ := boxedN W #[.int .i64 0, .int .i64 0, .slice none 0 0] 24
 have bWX := bW.trans (bX.mono bW.size)
 have KC := hide (rlive_any X t pv rv rs (h.to0 bWX) (hr.to0 bWX) hrl)
 obtain ⟨a, c, rfl⟩ := h.slice
 obtain ⟨ra, rc, rfl⟩ := hr.slice
 have HH := hide h
 have HB := hide bWX
 have D1 := (bX.block _ (lt_of_block D)).trans D
 rw [sW] at DX
 have HD := hide (And.intro D1 DX)
 obtain ⟨⟨E0, E1, E2⟩, EF⟩ := cells3p D1
 obtain ⟨RL, hRL⟩ : ∃ L, L = rs.length := ⟨_, rfl⟩
 rw [← hRL] at KC hrl ⊢
 replace hRL := hide hRL
 dsimp only [tv] at KC ⊢
 rw [hX, hW] at E0 E1 E2 EF KC
 have hsz : Hid (X.heap.size = w.heap.size + 1 + 1) := by show _ = _; omega
 clear h hr bW bX D D1 DX sW sX bWX
 go_enter Tryz.func11, Tryz.ntmps11
 go_wp2_with fail
 refine KC.out.mono ?_
 rintro e w1 h1
 rw [← hW, ← hX] at h1
 clear KC E0 E1 E2 EF
 replace hW := hide hW
 replace hX := hide hX
 rcases h1 with ⟨h1, A, v1, rfl, o1, hA, b1⟩ | ⟨h1, rfl, b1⟩
 ·have B1 := HB.out.trans (b1.mono HB.out.size)
  have T1 := (b1.block _ (lt_of_block HD.out.1)).trans HD.out.1
  have R1 := (b1.block _ (lt_of_block HD.out.2)).trans HD.out.2
  obtain ⟨P, hP, DP, bP, sP⟩ := boxedN w1 #[.int .i64 t.root, .int .i64 t.next, .slice none 0 0] 24
  obtain ⟨⟨ps0, hps0⟩, _⟩ := (lvE_ok h1).1
  obtain ⟨d0, _, hN, _⟩ := tprs_top hps0
  have hlen : t.pages.length ≤ 65536 := by have := tups_len hN.2.2.1 hN.1; have := hN.2.1; omega
  have hXw := b1.size
  rw [hsz.out] at hXw
  have TP := (bP.block _ (lt_of_block T1)).trans T1
  have RP := (bP.block _ (lt_of_block R1)).trans R1
  have HP := hide (And.intro TP RP)
  have HDP := hide DP
  obtain ⟨la, lc, hl1⟩ := (OwnJ.rd o1).slice
  obtain ⟨AL, hAL⟩ : ∃ n, n = A.length := ⟨_, rfl⟩
  rw [← hAL] at hl1
  subst hl1
  have OA := hide (rows_to o1 bP)
  have hps : Hid (P.heap.size = w1.heap.size + 1) := sP
  have hkn : Hid (∀ (i : Nat) (y : Wrt), t.pages[i]? = some y → ((A[(keepP A (t.pages.take i)).length]? = some y.1) ↔ y.1 ∈ A)) := fun i y hy => keep_next hA (lvE_ok h1).1 hy
  have hI0 : Hid (SWz w P P w1.heap.size t.root t.next (.slice none 0 0) (keepP A (t.pages.take 0))) := ⟨OwnZ.nil _ _ _, DP, fun j _ _ => rfl, B1.trans (bP.mono B1.size), Nat.le_refl _⟩
  obtain ⟨⟨E0, E1, E2⟩, EF⟩ := cells3p T1
  replace h1 := hide h1
  replace hA := hide hA
  replace hXw := hide hXw
  replace hAL := hide hAL
  obtain ⟨L, hL⟩ : ∃ L, L = t.pages.length := ⟨_, rfl⟩
  rw [← hL] at hlen E2 HP
  have HHL := HH
  rw [← hL] at HHL
  rw [← hL]
  replace hL := hide hL
  have hALb : AL ≤ 9223372036854775807 := by have := (OwnJ.rd o1).bd; rw [hAL.out]; omega
  clear o1 DP bP sP TP RP T1 R1 B1 hN hps0 b1
  go_wp2
  rw [← hP]
  replace hP := hide hP
  clear E0 E1 E2 EF
  go_loopw [10, 11] (fun q p wr => ∃ k : Nat, k ≤ L ∧ p = .int .i64 k ∧ q = .int .i64 ((keepP A (t.pages.take k)).length : Nat) ∧ ∃ v, Hid (SWz w P wr w1.heap.size t.root t.next v (keepP A (t.pages.take k)))) (fun _ p _ => L - (intOf p).toNat)
  case atStart => exact ⟨0, Nat.zero_le _, rfl, rfl, _, hI0⟩
  case round =>
   obtain ⟨k, hk, rfl, rfl, v, hI⟩ := hrel
   have hq1 := hXw.out
   have hq3 := hps.out
   have TR := (hI.out.kp _ (by omega) (by omega)).trans HP.out.1
   have RR := (hI.out.kp _ (by omega) (by omega)).trans HP.out.2
   have RA := OwnJ.rd (rows_keepT OA.out (hI.out.keep HDP.out (e := 3) (by decide)))
   clear hq1 hq3
   obtain ⟨KL, hKL⟩ : ∃ KL, KL = (keepP A (t.pages.take k)).length := ⟨_, rfl⟩
   have hKL2 : KL ≤ k := by
    rw [hKL]
    have := keep_le A (t.pages.take k)
    rw [List.length_take] at this
    omega
   rw [← hKL]
   by_cases hlt : k < L
   ·have hq : (k : Int) < (L : Int) := by omega
    obtain ⟨y, hy⟩ := some_el t.pages (k := k) (by rw [← hL.out]; exact hlt)
    have hsn := hide (keepP_snoc A hy)
    have hkn' := hkn.out _ _ hy
    rw [← hKL] at hkn'
    obtain ⟨b, off, u, e1, hc1, hc2, hr⟩ := HHL.out.wrt hy
    subst e1
    obtain ⟨z, x⟩ := y
    dsimp only at hc1 hc2 hr hsn hkn'
    obtain ⟨au, cu, rfl⟩ := hr.slice
    replace hc1 := (hI.out.bel.cell (cell_lt hc1)).trans hc1
    replace hc2 := (hI.out.bel.cell (cell_lt hc2)).trans hc2
    obtain ⟨XL, hXL⟩ : ∃ XL, XL = x.length := ⟨_, rfl⟩
    rw [← hXL] at hc2
    obtain ⟨oa, oc, ho⟩ := hI.out.own.shape
    rw [← hKL] at ho
    subst ho
    obtain ⟨⟨T0, T1, T2⟩, TF⟩ := cells3p TR
    replace hy := hide hy
    rw [← hXL] at hr
    have hHR := hide hr
    have hRR := hide (And.intro TR RR)
    clear TR RR hr
    replace hXL := hide hXL
    by_cases hz : z ∈ A
    ·have hsn' : Hid (keepP A (t.pages.take (k + 1)) = keepP A (t.pages.take k) ++ [(z, x)]) := by show _ = _; rw [hsn.out, if_pos hz]
     have hAz := hkn'.2 hz
     have hlA : KL < AL := by rw [hAL.out]; exact (List.getElem?_eq_some_iff.1 hAz).1
     have hqA : (KL : Int) < (AL : Int) := by omega
     obtain ⟨xb, xo, xu, rfl, hcx, hxu⟩ := RdS.at1 (s := Shp.int .i64) rfl RA hAz
     have hxu' : [xu] = [Value.int .i64 z] := hxu
     simp only [List.cons.injEq, and_true] at hxu'
     subst hxu'
     clear hsn hz hAz RA hkn' hxu
     replace hKL := hide hKL
     go_upto_region 9 with fail
     go_quiet (fail)
     obtain ⟨wq, hwq⟩ : ∃ x, x = wr.drewN nq := ⟨_, rfl⟩
     have bq : Below wr.heap.size wr wq := by rw [hwq]; exact below_drewN' _ _ _
     rw [← hwq]
     replace hwq := hide hwq
     have bd : Below wr.heap.size wr wq.drew := bq.trans ((below_drewN' wq 1 _ : Below wq.heap.size wq wq.drew).mono bq.size)
     have ID := hide (hI.out.to bd)
     have c1 := (bd.cell (cell_lt hc1)).trans hc1
     have c2 := (bd.cell (cell_lt hc2)).trans hc2
     have c3 := (bd.cell (cell_lt T2)).trans T2
     obtain ⟨⟨_, _, c4⟩, _⟩ := cells3p ID.out.box
     have HC := hide (And.intro c1 (And.intro c2 (And.intro c3 c4)))
     have hn : (KL + 1) * 32 ≤ 140737488355328 := by omega
     clear c1 c2 c3 c4 bq
     go_upto_region 10 with fail
     refine wp_region_mid (fun w' => w'.cell? ⟨b, off + k * 2, none⟩ = some (.int .i64 z) ∧ w'.cell? ⟨b, off + k * 2 + 1, none⟩ = some (.slice au XL cu) ∧ w'.cell? ⟨w.heap.size, 2, none⟩ = some (.slice (some ⟨b, off, none⟩) L c) ∧ w'.cell? ⟨w1.heap.size, 2, none⟩ = some (.slice oa KL oc)) 7 8 mixed (by kernel_rfl) (fun _ _ _ _ h => h) HC.out ?_
     dsimp only [List.take, List.drop]
     clear hc1 hc2 T0 T1 T2 TF hcx
     obtain ⟨U, hU⟩ : ∃ U, U = wq.drew := ⟨_, rfl⟩
     rw [← hU] at ID HC bd ⊢
     replace hU := hide hU
     iterate 7
      refine take_one (v := ?_) (by rfl) ?_ ?_
      rotate_left
      ·rintro w' ⟨s1, s2, s3, s4⟩
       go_simp
       try with_reducible rfl
      try simp only [Act.put, List.setIfInBounds_toArray, List.set_cons_zero, List.set_cons_succ]
     obtain ⟨x1, x2, x3, x4⟩ := HC.out
     refine mid_one fun K hK => ?_
     rw [if_pos (by rfl)]
     go_simp
     refine hK _ _ ⟨cellAl9 x1 _, cellAl9 x2 _, cellAl9 x3 _, cellAl9 x4 _⟩ ?_
     clear hK K x1 x2 x3 x4
     show wpList _ _ _ _ _ _
     obtain ⟨Z, hZ, DZ, bZ, sZ⟩ := boxedN U #[.int .i64 z, .slice au XL cu] 45
     obtain ⟨⟨Z0, Z1⟩, _⟩ := cells2r DZ
     have IZ := hide (ID.out.to bZ)
     have OZ := IZ.out.own
     have hB : P.heap.size ≤ Z.heap.size := IZ.out.sz
     rw [hZ] at Z0 Z1 OZ hB
     refine wpList_appZ rfl _ _ rfl w P.heap.size (.slice oa KL oc) (keepP A (t.pages.take k)) (z, x) (.slice au XL cu) U.heap.size rfl rfl OZ hHR.out rfl Z0 Z1 (by rw [← hKL.out]; exact hn) hB ?_
     intro v5 w5 o5 g5 b5 k5
     rw [← hZ] at b5
     rw [← hsn'.out] at o5
     obtain ⟨na, nc, hv5⟩ := o5.shape
     have hlen5 : Hid ((keepP A (t.pages.take (k + 1))).length = KL + 1) := by show _ = _; rw [hsn'.out, List.length_append, ← hKL.out]; rfl
     generalize (keepP A (t.pages.take (k + 1))).length = nl at hv5
     subst hv5
     have hg9 : w1.heap.size < P.heap.size := by rw [hps.out]; omega
     have hXw9 := hXw.out
     have T5 := (b5.block _ hg9).trans IZ.out.box
     obtain ⟨⟨T0, T1, T2⟩, TF⟩ := cells3p T5
     have d0 := heap_setN T5 2 (.slice na nl nc)
     have D7 : (w5.setCell ⟨w1.heap.size, 2, none⟩ (.slice na nl nc)).heap[w1.heap.size]? = some (.cells #[.int .i64 t.root, .int .i64 t.next, (.slice na nl nc)] 24 (0, 0)) := by simpa using d0
     have kk : ∀ e, e ≠ 24 → KeepT e w5 (w5.setCell ⟨w1.heap.size, 2, none⟩ (.slice na nl nc)) := fun e he => KeepT.set (a := ⟨w1.heap.size, 2, none⟩) T5 he _
     have I5 : Hid (SWz w P (w5.setCell ⟨w1.heap.size, 2, none⟩ (.slice na nl nc)) w1.heap.size t.root t.next (.slice na nl nc) (keepP A (t.pages.take (k + 1)))) := by
      refine ⟨o5.keepT (kk _ (by decide)), D7, fun j hj hg => ?_, ?_, ?_⟩
      ·exact (Below.heap_setCell _ _ _ _ hg).trans ((b5.block j hj).trans (IZ.out.kp j hj hg))
      ·refine Below.setCell (IZ.out.bel.trans (b5.mono ?_)) (p := ⟨w1.heap.size, 2, none⟩) (show w.heap.size ≤ w1.heap.size by omega) _
       rw [hps.out]; omega
      ·have := b5.size
       have := IZ.out.sz
       simp
       omega
     clear o5 g5 b5 k5 Z0 Z1 OZ hB DZ bZ hZ IZ d0 D7 kk T5 hXw9 hg9
     go_wp2
     go_roundw
     case rel => exact ⟨k + 1, by omega, by go_num, by rw [hlen5.out]; go_num, _, I5⟩
     case measure => simp [intOf]; omega
    ·have hsn' : Hid (SWz w P wr w1.heap.size t.root t.next (.slice oa KL oc) (keepP A (t.pages.take (k + 1)))) := by
      have := hI.out
      rw [hsn.out, if_neg hz]
      exact this
     have hlen5 : Hid ((keepP A (t.pages.take (k + 1))).length = KL) := by show _ = _; rw [hsn.out, if_neg hz, ← hKL]
     by_cases hlA : KL < AL
     ·have hqA : (KL : Int) < (AL : Int) := by omega
      obtain ⟨z9, hz9⟩ : ∃ z9, A[KL]? = some z9 := ⟨_, List.getElem?_eq_getElem (by rw [← hAL.out]; exact hlA)⟩
      obtain ⟨xb, xo, xu, rfl, hcx, hxu⟩ := RdS.at1 (s := Shp.int .i64) rfl RA hz9
      have hxu' : [xu] = [Value.int .i64 z9] := hxu
      simp only [List.cons.injEq, and_true] at hxu'
      subst hxu'
      have hne : z9 ≠ z := fun e => hz (hkn'.1 (by rw [hz9, e]))
      have hq1 : (z9 == z) = false := by simpa using hne
      have hq2 : decide (z9 = z) = false := decide_eq_false hne
      replace hKL := hide hKL
      clear hsn hz hkn' hxu hne hz9 RA
      go_upto_region 9 with fail
      go_quiet (fail)
      go_wp2
      go_roundw
      case rel => exact ⟨k + 1, by omega, by go_num, by rw [hlen5.out], _, hide (hsn'.out.to (below_drewN' _ _ _))⟩
      case measure => simp [intOf]; omega
     ·have hqA : ¬ (KL : Int) < (AL : Int) := by omega
      replace hKL := hide hKL
      clear hsn hz hkn' RA
      go_upto_region 9 with fail
      go_quiet (fail)
      go_wp2
      go_roundw
      case rel => exact ⟨k + 1, by omega, by go_num, by rw [hlen5.out], _, hide (hsn'.out.to (below_drewN' _ _ _))⟩
      case measure => simp [intOf]; omega
   ·have hq : ¬ (k : Int) < (L : Int) := by omega
    obtain rfl : k = L := by omega
    have htk : t.pages.take k = t.pages := List.take_of_length_le (by rw [← hL.out]; omega)
    rw [htk] at hI hKL
    obtain ⟨oa, oc, ho⟩ := hI.out.own.shape
    rw [← hKL] at ho
    replace hKL := hide hKL
    subst ho
    have hwr : IntKind.i64.wrap ((k : Int) - (KL : Int)) = (k : Int) - (KL : Int) := IntWalk.i64_in _ (by omega)
    have bd : Below wr.heap.size wr wr.drew := below_drewN' wr 1 _
    have ID := hI.out.to bd
    have RD := (bd.block _ (lt_of_block RR)).trans RR
    have TD := (bd.block _ (lt_of_block TR)).trans TR
    have hg1 := hXw.out
    have hsk := fun e (he : e ≠ 24) => s3_keep9 RD (.int .i64 t.root) (.int .i64 t.next) (.slice oa KL oc) he
    have OO := hide (ID.own.keepT (hsk _ (by decide)))
    have BB := hide (below_set3t ID.bel (show w.heap.size ≤ w.heap.size + 1 by omega) (.int .i64 t.root) (.int .i64 t.next) (.slice oa KL oc))
    have hYw : Hid (w.heap.size ≤ P.heap.size) := by show _ ≤ _; rw [hps.out]; omega
    have HR := hide RD
    have SS := hide (And.intro TD ID.box)
    have hng : Hid (w.heap.size ≠ w.heap.size + 1 ∧ w1.heap.size ≠ w.heap.size + 1) := by refine ⟨?_, ?_⟩ <;> omega
    obtain ⟨⟨T0, T1, T2⟩, TF⟩ := cells3p TR
    clear hI TR RR htk hsk hg1 bd ID RD TD RA
    go_upto_region 12 with fail
    (clear T0 T1 T2 TF; skip)
    refine wp_region_mid (fun w' => w'.heap[w.heap.size]? = some (.cells #[.int .i64 t.root, .int .i64 t.next, .slice a k c] 24 (0, 0)) ∧ w'.heap[w1.heap.size]? = some (.cells #[.int .i64 t.root, .int .i64 t.next, .slice oa KL oc] 24 (0, 0))) 8 9 mixed (by kernel_rfl) (fun _ _ _ _ h => h) SS.out ?_
    dsimp only [List.take, List.drop]
    obtain ⟨U, hU⟩ : ∃ U, U = wr.drew := ⟨_, rfl⟩
    rw [← hU] at HR SS OO BB ⊢
    replace hU := hide hU
    iterate 8
     refine take_one (v := ?_) (by rfl) ?_ ?_
     rotate_left
     ·rintro w' ⟨s1, s2⟩
      obtain ⟨⟨E0, E1, E2⟩, EF⟩ := cells3p s1
      obtain ⟨⟨G0, G1, G2⟩, GF⟩ := cells3p s2
      clear s1 s2
      go_simp
      try with_reducible rfl
     try simp only [Act.put, List.setIfInBounds_toArray, List.set_cons_zero, List.set_cons_succ]
    refine mid_one fun KK hKK => ?_
    rw [if_pos (by rfl)]
    obtain ⟨⟨F0, F1, F2⟩, FF⟩ := cells3p HR.out
    go_simp
    refine hKK _ _ ⟨?_, ?_⟩ ?_
    ·exact (Below.heap_setCell _ _ _ _ hng.out.1).trans ((Below.heap_setCell _ _ _ _ hng.out.1).trans ((Below.heap_setCell _ _ _ _ hng.out.1).trans SS.out.1))
    ·exact (Below.heap_setCell _ _ _ _ hng.out.2).trans ((Below.heap_setCell _ _ _ _ hng.out.2).trans ((Below.heap_setCell _ _ _ _ hng.out.2).trans SS.out.2))
    clear hKK KK F0 F1 F2 FF
    show wpList _ _ _ _ _ _
    go_wp2
    (try simp only [Exit.inBlock, Exit.then])
    have hgg := heap_set3t HR.out (.int .i64 t.root) (.int .i64 t.next) (.slice oa KL oc)
    refine retNTT (p := 4) (u1 := 5) (u2 := 6) (ty := 24) (by rfl) (by rfl) (w.heap.size + 1) (by rfl) _ _ (0, 0) hgg _ Tryz.underlying24 rfl info_tr11 (.int .i64 ((k : Int) - (KL : Int))) (by rfl) (.int .i64 0) (by rfl) ?_
    refine .inl ⟨h1.out, A, _, hA.out, ?_, OwnZ.base OO.out hYw.out, BB.out⟩
    rw [← hKL.out, ← hL.out]
 ·have B1 := HB.out.trans (b1.mono HB.out.size)
  have R1 := (b1.block _ (lt_of_block HD.out.2)).trans HD.out.2
  have BY := hide B1
  have HR := hide R1
  obtain ⟨er, her⟩ : ∃ er, er = lvE t rs := ⟨_, rfl⟩
  rw [← her] at h1 ⊢
  replace her := hide her
  have hne : (er != 0) = true := by simpa using h1
  have h1' := hide h1
  obtain ⟨⟨F0, F1, F2⟩, FF⟩ := cells3p R1
  clear B1 b1 R1 h1
  go_wp2
  (try simp only [Exit.inBlock, Exit.then])
  have hgg := heap_set3t HR.out (.int .i64 0) (.int .i64 0) (.slice none 0 0)
  refine retNTT (p := 4) (u1 := 5) (u2 := 6) (ty := 24) (by rfl) (by rfl) (w.heap.size + 1) (by rfl) _ _ (0, 0) hgg _ Tryz.underlying24 rfl info_tr11 (.int .i64 0) (by rfl) (.int .i64 er) (by rfl) ?_
  exact .inr ⟨by rw [← her.out]; exact h1'.out, by rw [← her.out], below_set3t BY.out (show w.heap.size ≤ w.heap.size + 1 by omega) _ _ _⟩
end Go.Proofs.YtpiikmkajckccaaGreat

namespace Go.Proofs.YtpiikmkajckccaaGreat
open Go.RowKit
theorem ttop_prs {t : Tr} {d : Nat} {ps qs : List Pr} (h : TTop t d ps) (k : tprs t = some qs) : ps = qs := by
 obtain ⟨s, h1, h2⟩ := ttop_to h
 obtain ⟨_, _, s', h3, h4⟩ := tprs_num k
 rw [h1] at h3
 cases h3
 exact h2.symm.trans h4
theorem ttop_flat {t : Tr} {d : Nat} {ps : List Pr} (h : TTop t d ps) (hl : ps.length ≤ 1) : d = 0 := by
 rcases h with ⟨_, rfl, _⟩ | ⟨h0, hd, h1, h2, rfl⟩
 ·rfl
 ·have h3 := h1.many
  cases d with
  | zero => rfl
  | succ d =>
   have h4 : 1 ≤ 2 ^ d := Nat.one_le_two_pow
   rw [Nat.pow_succ] at h3
   omega
theorem chg_one {t u : Tr} {ps qs : List Pr} (hC : Chg t u qs) (ht : tprs t = some ps) (hne : ps ≠ qs) (hl : ps.length ≤ 1) (hq : qs ≠ []) (hs : nsize (lf qs) ≤ 244) : u.pages.length = t.pages.length + 1 := by
 have hp := hC.prs
 rcases hC.how with rfl | ⟨key, upd, ed, d, ps', hT, hE, rfl, rfl⟩
 ·rw [ht] at hp
  exact absurd (Option.some.inj hp) hne
 ·have e := ttop_prs hT ht
  subst e
  obtain rfl := ttop_flat hT hl
  obtain ⟨h1, h2, h3, h4, h5⟩ := top_no hT
  obtain ⟨q9, e1, p1, _⟩ := h1
  have e2 : q9 = ps' := by
   rw [e1] at h5
   exact (npr_lf q9).symm.trans h5
  subst e2
  have hed := (hE.leaf q9 p1 (by rw [← e1]; exact h2)).1
  have hk : (lf (upd q9)).keys.length ≠ 0 := by
   intro h
   have : (upd q9).length = 0 := by simpa [lf] using h
   exact hq (List.eq_nil_of_length_eq_zero this)
  have hc : (chgR t key ed 0).2.length = 1 := by
   have hr : rebOf t.pages t.next key ed 0 (topOf t) [] = (lf (upd q9), []) := by
    rw [e1]
    show (ed (lf q9), []) = _
    rw [hed]
   unfold chgR
   rw [hr]
   unfold rootOf
   have hb : bareB (lf (upd q9)) = false := rfl
   rw [hb]
   simp only [Bool.false_eq_true, if_false]
   unfold laidOf
   rw [if_neg hk, if_pos hs]
   rfl
  show (t.pages ++ pgs t.next (chgR t key ed 0).2).length = _
  rw [List.length_append, pgs_len, hc]
theorem one_live {u : Tr} {p : Pr} (h : tprs u = some [p]) {a : List Int} (hA : LvR u [] a) : a.length = 1 := by
 obtain ⟨d, h1, h2, h3⟩ := tprs_top h
 obtain rfl := ttop_flat h1 (by simp)
 have h0 : u.root ≠ 0 := by
  rcases h1 with ⟨_, _, h⟩ | ⟨h, _⟩
  ·cases h
  ·exact h
 have e : a = [u.root] := rise_eq hA.1 (by simp) fun x => by
  rw [hA.2 x]
  unfold Lv
  rw [seen_top h1 x]
  simp [h0, idsOf]
 rw [e]
 rfl
theorem put_ok {B : Nat} {c : World} {t u : Tr} {k v : Str} {pv : Value} {err : Int} (h : PutB B c t k v u pv err) (hp : perr t k v = 0) (hn : t.next ≤ 65495) : err = 0 ∧ OwnPg B c pv u.pages ∧ ∃ ps, tprs t = some ps ∧ Chg t u (pins k v ps) := by
 rcases h with ⟨h1, h2 | ⟨_, _, h2⟩⟩ | ⟨h1, _, h2, h3⟩
 ·rw [hp] at h2; exact absurd h2 h1
 ·omega
 ·exact ⟨h1, h2, h3⟩
theorem own_small {t : Tr} (h : t.pages = []) : ∀ x ∈ t.pages, x.2.length ≤ 140737488351232 := fun x hx => by rw [h] at hx; cases hx
set_option maxRecDepth 100000 in
theorem pnum11_any (w : World) (n : Int) : Calls Tryz.prog 13 #[.int .i64 n] w fun e w' => e = .returned (.int .i64 n) ∧ w = w' := by
 go_enter Tryz.func13, Tryz.ntmps13
 go_wp2
 go_ret
 exact ⟨rfl, rfl⟩
theorem rdI_nil (w : World) : RdI w (.slice none 0 0) [] := OwnJ.rd (World.ownsRow_nil w 0 3 1 : OwnJ 0 w (.slice none 0 0) [])
theorem ta0 : tprs ⟨0, 1, []⟩ = some [] := by decide
set_option maxRecDepth 100000 in
set_option maxHeartbeats 4000000 in
theorem palive11_any (w : World) : Calls Tryz.prog 15 #[] w fun e w' => e = .returned (.bool true) ∧ Below w.heap.size w w' := by
 have KN := hide (pnew10_any w)
 go_enter Tryz.func15, Tryz.ntmps15
 go_wp2_with fail
 refine KN.out.mono ?_
 rintro e w1 ⟨rfl, b1⟩
 have KP := hide (pput_any w1 ⟨0, 1, []⟩ (.slice none 0 0) [97] [49] (OwnX.rd (OwnX.nil _ 0 w1 : OwnPg 0 w1 (.slice none 0 0) [])) (own_small rfl) rfl (by decide))
 have B1 := hide b1
 dsimp only [tv] at KP ⊢
 clear KN b1
 go_wp2_with fail
 refine KP.out.mono ?_
 rintro e w2 h2
 obtain ⟨u, a2, n2, c2, err, rfl, h3, b2⟩ := PutA.to h2
 obtain ⟨rfl, o2, ps, hps, hC⟩ := put_ok h3 (perr_ok ta0 (by decide) (by decide) (by simp)) (by decide)
 rw [ta0] at hps
 cases hps
 have hpg := chg_one hC ta0 (by decide) (by decide) (by decide) (by decide)
 have hq1 : pins [97] [49] [] = [([97], [49])] := by decide
 rw [hq1] at hC
 obtain ⟨Y, hY, DY, bY, sY⟩ := boxedN w2 #[.int .i64 u.root, .int .i64 u.next, .slice a2 n2 c2] 28
 have KP2 := hide (pput_any Y u (.slice a2 n2 c2) [97] [50] (OwnX.rd (o2.to9 bY)) (hC.small (own_small rfl)) hC.rwf (by decide))
 have bw2 := B1.out.trans (b2.mono B1.out.size)
 have B2 := hide (bw2.trans (bY.mono bw2.size))
 have HC := hide hC
 have HPG := hide hpg
 obtain ⟨⟨E0, E1, E2⟩, EF⟩ := cells3p DY
 dsimp only [tv] at KP2
 rw [hY] at E0 E1 E2 EF KP2
 clear KP h2 h3 o2 DY bY sY bw2 b2 hC hpg hq1
 go_wp2_with fail
 refine KP2.out.mono ?_
 rintro e w3 h4
 rw [← hY] at h4
 obtain ⟨u2, a3, n3, c3, err, rfl, h5, b3⟩ := PutA.to h4
 obtain ⟨rfl, o3, ps, hps, hC2⟩ := put_ok h5 (perr_ok HC.out.prs (by decide) (by decide) (by simp)) (by have := HC.out.nxt.2; simp at this; omega)
 rw [HC.out.prs] at hps
 cases hps
 have hq2 : pins [97] [50] [([97], [49])] = [([97], [50])] := by decide
 rw [hq2] at hC2
 have hpg2 := chg_one hC2 HC.out.prs (by decide) (by decide) (by decide) (by decide)
 rw [HPG.out] at hpg2
 obtain ⟨Z, hZ, DZ, bZ, sZ⟩ := boxedN w3 #[.int .i64 u2.root, .int .i64 u2.next, .slice a3 n3 c3] 28
 have KS := hide (vsweep_any Z u2 (.slice a3 n3 c3) (.slice none 0 0) [] (OwnX.rd (o3.to9 bZ)) (hC2.small (HC.out.small (own_small rfl))) hC2.rwf (rdI_nil Z) (fun r hr => by cases hr) (by decide))
 have bw3 := B2.out.trans (b3.mono B2.out.size)
 have B3 := hide (bw3.trans (bZ.mono bw3.size))
 have HC2 := hide hC2
 have HPG2 := hide hpg2
 obtain ⟨⟨F0, F1, F2⟩, FF⟩ := cells3p DZ
 dsimp only [tv] at KS
 rw [hZ] at F0 F1 F2 FF KS
 replace hY := hide hY
 clear KP2 h4 h5 o3 DZ bZ sZ bw3 b3 hC2 hpg2 hq2 E0 E1 E2 EF
 go_wp2_with fail
 refine KS.out.mono ?_
 rintro e w4 h6
 rw [← hZ] at h6
 have hok : lvE u2 [] = 0 := lvE_of ⟨⟨_, HC2.out.prs⟩, fun r hr => by cases hr⟩ (by simp)
 rcases h6 with ⟨_, A, pv4, hA, rfl, o4, b4⟩ | ⟨h6, _⟩
 rotate_left
 ·exact absurd hok h6
 have hlA := one_live HC2.out.prs hA
 have hkl := keep_len hA (lvE_ok hok).1
 rw [hlA] at hkl
 obtain ⟨a4, c4, hp4⟩ := o4.shape
 rw [hkl] at hp4
 subst hp4
 have hn : (u2.pages.length : Int) - ((keepP A u2.pages).length : Int) = 1 := by rw [hkl, HPG2.out]; simp
 rw [hn]
 obtain ⟨V, hV, DV, bV, sV⟩ := boxedN w4 #[.int .i64 u2.root, .int .i64 u2.next, .slice a4 1 c4] 28
 have bw4 := B3.out.trans (b4.mono B3.out.size)
 have B4 := hide (bw4.trans (bV.mono bw4.size))
 obtain ⟨⟨G0, G1, G2⟩, GF⟩ := cells3p DV
 dsimp only [tv]
 rw [hV] at G0 G1 G2 GF B4
 clear KS o4 b4 DV bV sV bw4 hlA hkl hA hn F0 F1 F2 FF
 have KZ := hide (fun w => pnum11_any w 0)
 go_wp2_with fail
 refine (KZ.out _).mono ?_
 rintro e w5 ⟨rfl, rfl⟩
 go_wp2_with fail
 refine (KZ.out _).mono ?_
 rintro e w5 ⟨rfl, rfl⟩
 go_wp2_with fail
 refine (KZ.out _).mono ?_
 rintro e w5 ⟨rfl, rfl⟩
 go_wp2
 go_ret
 exact ⟨rfl, B4.out⟩
end Go.Proofs.YtpiikmkajckccaaGreat
