/- Several texts in one: TChg TPt TPu TDe TWo TOf TOg TPv VAl VLa TQF TPG TPH TAl TWt TBu. -/
import Derived.Deep.QuietTactic
import Derived.BigQuiet
import Derived.Laws.Cover1
import Derived.OwnWalkIn
import Derived.Test.YtpiikmkajckccaaGreatGoLVAll5
import Derived.Test.YtpiikmkajckccaaGreatGoLVAll1
import Derived.Test.YtpiikmkajckccaaGreatGoLVAll3
import Derived.Test.YtpiikmkajckccaaGreatGoLVAll4
import Derived.Laws.StructEq
import Derived.Test.YtpiikmkajckccaaGreatGoLVAll2
set_option linter.unusedVariables false
set_option linter.unusedSimpArgs false
namespace Go.Proofs.YtpiikmkajckccaaGreat
open Go.RowKit
theorem pgs_at : ∀ {z : Int} {ad : List Nd} {i : Nat} {n : Nd}, ad[i]? = some n → (pgs z ad)[i]? = some (z + (i : Int), nenc n)
 | z, [], i, n, h => by cases h
 | z, x :: r, 0, n, h => by
  simp only [List.getElem?_cons_zero, Option.some.injEq] at h
  subst h
  simp [pgs]
 | z, x :: r, i + 1, n, h => by
  have := pgs_at (z := z + 1) (ad := r) (i := i) (n := n) (by simpa using h)
  simp only [pgs, List.getElem?_cons_succ, this, Option.some.injEq, Prod.mk.injEq, and_true]
  push_cast
  omega
theorem pgs_next {z : Int} {ad : List Nd} {i : Nat} {n : Nd} (h : ad[i]? = some n) : (pgs z ad).take (i + 1) = (pgs z ad).take i ++ [(z + (i : Int), nenc n)] := by
 rw [List.take_add_one, pgs_at h]; rfl
theorem OwnNs.slice {B : Nat} {w : World} {v : Value} {ns : List NV} (h : OwnNs B w v ns) : ∃ a c, v = .slice a ns.length c := by
 rcases h.2 with ⟨rfl, e⟩ | ⟨g, cap, cur, rfl, _⟩
 ·exact ⟨none, 0, by rw [e]⟩
 ·exact ⟨_, _, rfl⟩
theorem OwnNs.at {B : Nat} {w : World} {a : Option Addr} {L c : Nat} {ns : List NV} (h : OwnNs B w (.slice a L c) ns) {i : Nat} {y : NV} (hy : ns[i]? = some y) : ∃ g, a = some ⟨g, 0, none⟩ ∧ B ≤ g ∧ w.cell? ⟨g, i * 4, none⟩ = some (.bool y.1.leaf) ∧ w.cell? ⟨g, i * 4 + 1, none⟩ = some y.2.1 ∧ w.cell? ⟨g, i * 4 + 2, none⟩ = some y.2.2.1 ∧ w.cell? ⟨g, i * 4 + 3, none⟩ = some y.2.2.2 := by
 have hi := (List.getElem?_eq_some_iff.1 hy).1
 obtain ⟨g, cap, cur, e, hB, hg, hk, hm, hs, ht⟩ := own_block h (by omega)
 obtain ⟨c1, c2, c3, c4⟩ := ncl_at ns i y hy
 have hcell : ∀ j, j < ns.length * 4 → w.cell? ⟨g, j, none⟩ = (ncl ns)[j]? := fun j hj => by
  rw [← ht, List.getElem?_take, if_pos hj]
  simp [World.cell?, hg]
 simp only [Value.slice.injEq] at e
 exact ⟨g, e.1, hB, by rw [hcell _ (by omega), c1], by rw [hcell _ (by omega), c2], by rw [hcell _ (by omega), c3], by rw [hcell _ (by omega), c4]⟩
def ChgE (w0 w' : World) (t : Tr) (key : Str) (ed : Nd → Nd) (d : Nat) (e : Ending) : Prop :=
 (∃ pv', t.next + ((chgR t key ed d).2.length : Int) ≤ 65536 ∧ e = .returned (.tuple #[tv (chgT t key ed d) pv', .int .i64 0]) ∧ OwnPg w0.heap.size w' pv' (chgT t key ed d).pages ∧ Below w0.heap.size w0 w') ∨
 (65536 < t.next + ((chgR t key ed d).2.length : Int) ∧ e = .returned (.tuple #[tv ⟨0, 0, []⟩ (.slice none 0 0), .int .i64 51]) ∧ Below w0.heap.size w0 w')
structure C3 (w0 w w3 : World) (B g : Nat) (t : Tr) (pv : Value) (bm : Nat) (s : Sw) (RT : Int) (AD : List Nd) (NS : List NV) (av : Value) : Prop where
 ch : ChI B w3 (w.heap.size + 1) g t.next av NS
 al : AllK w3 NS
 ad : NS.map (·.1) = AD
 dr : w3.heap[w.heap.size]? = some (.cells #[.int .i64 0, .int .i64 0, .slice none 0 0] 28 (0, 0))
 gb : w3.heap[g]? = some (.cells (pcl6 t pv bm s) 109 (0, 0))
 bel : Below w0.heap.size w0 w3
theorem C3.to {w0 w w3 w4 : World} {B g : Nat} {t : Tr} {pv : Value} {bm : Nat} {s : Sw} {RT : Int} {AD : List Nd} {NS : List NV} {av : Value} (h : C3 w0 w w3 B g t pv bm s RT AD NS av) (b : Below w3.heap.size w3 w4) : C3 w0 w w4 B g t pv bm s RT AD NS av :=
 ⟨h.ch.to b, h.al.to b, h.ad, (b.block _ (lt_of_block h.dr)).trans h.dr, (b.block _ (lt_of_block h.gb)).trans h.gb, h.bel.trans (b.mono h.bel.size)⟩
set_option maxRecDepth 100000 in
set_option maxHeartbeats 16000000 in
theorem pchanged_any (w0 w : World) (B g bm : Nat) (t : Tr) (pv : Value) (s : Sw) (m : Int → Option Value) (key : Str) (F : Nat) (caps : Array Value) (ed : Nd → Nd) (upd : List Pr → List Pr) (good : List Pr → Prop) (d : Nat) (H : PWk w0 w B g bm t pv s m) (hB : B ≤ w.heap.size) (hroot : (Lit.int .i64 t.root).wf = true) (ht : twalk t = some s) (hpn : PNum t)
  (hps : s.prs.length ≤ 4096) (hTT : TTop t d s.prs) (hseen : ∀ i ∈ nI t.pages d (topOf t), i ∈ s.seen) (hx : ∀ x ∈ t.pages, x.2.length ≤ 140737488351232) (hE : EdOk key upd ed) (hG : ∀ A X C, (∀ y ∈ A, slt y.1 key = true) → (∀ y ∈ C, slt key y.1 = true) → good (A ++ X ++ C) → good X) (hgood : good s.prs) (hcl : EdCl B w F caps key ed good)
  (he : ∀ args u, (callFunc F args).run Tryz.prog u = .ok (.enter F args) u) (hTN : TNum t) :
  Calls Tryz.prog 43 #[.pointer (some ⟨g, 0, none⟩), st key, .func (.func F) #[] caps] w fun e w' => ChgE w0 w' t key ed d e := by
 obtain ⟨W, hW, DW, bW, sW⟩ := boxedN w #[.int .i64 0, .int .i64 0, .slice none 0 0] 28
 obtain ⟨X, hX, DX, bX, sX⟩ := boxedN W #[.pointer (some ⟨g, 0, none⟩), .slice none 0 0] 128
 have bWX := bW.trans (bX.mono bW.size)
 have PX := H.to bWX
 have KT := hide (ptop_at w0 X B g bm t pv s m PX hroot ht)
 have D1 := (bX.block _ (lt_of_block DW)).trans DW
 rw [sW] at DX
 have HX := hide (And.intro bWX (And.intro PX (And.intro D1 DX)))
 rw [hX, hW] at KT
 have HNL : Hid (∀ b, w.heap.size ≤ b → ¬ LfB m b) := fun b hb hL => by have := (H.cw.leaf hL).2; omega
 have HBL : Hid (∀ b, b < B → ¬ LfB m b) := fun b hb hL => by have := (H.cw.leaf hL).1; omega
 replace H := hide H
 replace hcl := hide hcl
 replace hE := hide hE
 replace hG := hide hG
 replace hgood := hide hgood
 replace hTT := hide hTT
 replace hseen := hide hseen
 replace ht := hide ht
 replace hpn := hide hpn
 replace hTN := hide hTN
 replace hx := hide hx
 clear D1 DX bWX PX DW bW bX
 go_enter Tryz.func43, Tryz.ntmps43
 go_wp2_with fail
 refine KT.out.mono ?_
 rintro e w1 ⟨nd9, kv, vv, dv, rfl, hT9, ho, b1, hdj, htv⟩
 rw [← hW, ← hX] at b1
 obtain ⟨bWX, PX, D1, DX⟩ := HX.out
 have P1 := PX.to b1
 have hnb : Hid (w.heap.size ≤ w1.heap.size) := Nat.le_trans bWX.size b1.size
 have hB1 : B ≤ w1.heap.size := Nat.le_trans hB hnb.out
 have bw1 := bWX.trans (b1.mono bWX.size)
 have D2 := (b1.block _ (lt_of_block D1)).trans D1
 have C2 := (b1.block _ (lt_of_block DX)).trans DX
 have Ch1 : ChI B w1 (w.heap.size + 1) g t.next (.slice none 0 0) [] := ⟨C2, World.ownsRow_nil _ _ _ _, cellN P1.box rfl, by omega⟩
 have hgg : w.heap.size + 1 ≠ g := by have := P1.hg.2; omega
 have hto := hT9.of
 obtain ⟨q1, q2, q3, q4, q5⟩ := top_no hTT.out
 have hsn := hseen.out
 rw [hto] at q1 q2 q3 q4 q5 hsn
 have hdd := ttop_deep hTT.out hps
 have hnx : 0 ≤ t.next ∧ t.next ≤ 65536 := ⟨by have := hpn.out.1; omega, hpn.out.2.1⟩
 have KR := hide (preb_any (next := t.next) hE.out hgg hnx hG.out he d nd9 [] none w1 kv vv dv (by omega) P1.cw Ch1 hB1 ho hdj (fun hl b hb => by
   rcases htv with ⟨z1, z2, z3⟩ | htv
   ·rcases hb with hb | hb
    ·rw [z1] at hb; cases hb
    ·rw [z2] at hb; cases hb
   ·exact LfB.of htv hl b hb) (fun hl b hb => by
   rcases htv with ⟨z1, z2, z3⟩ | htv
   ·rcases row_nv hb with hb | hb | hb
    ·rw [z1] at hb; cases hb
    ·rw [z2] at hb; cases hb
    ·rw [z3] at hb; cases hb
   ·exact P1.cw.inner htv hl hb) q1 q2 q3 (fun i hi => by
   have h1 := hsn i hi
   have h2 := P1.ok.2.1 i h1
   exact ⟨by rw [P1.has]; exact decide_eq_true h1, h2.1, by omega⟩) (by rw [q5]; exact hgood.out) (hcl.out.to bw1))
 have hsh := hide (reb_shape (l := t.pages) (next := t.next) hE.out d nd9 [] none [] q1 q2 q3)
 have hrl := hide (reb_len t.pages t.next key ed d nd9 []).2
 have hchg : Hid (chgR t key ed d = rootOf t.next (rebOf t.pages t.next key ed d nd9 []).2 (rebOf t.pages t.next key ed d nd9 []).1) := by show _ = _; unfold chgR; rw [hto]
 unfold RbR at KR
 obtain ⟨MM, hMM⟩ : ∃ M, M = (rebOf t.pages t.next key ed d nd9 []).1 := ⟨_, rfl⟩
 obtain ⟨AD, hAD⟩ : ∃ A, A = (rebOf t.pages t.next key ed d nd9 []).2 := ⟨_, rfl⟩
 rw [← hMM, ← hAD] at KR hchg
 rw [← hMM] at hsh
 rw [← hAD] at hrl
 have H1 := hide (And.intro P1 (And.intro D2 C2))
 obtain ⟨ka, kc, va, vc, da, dc, rfl, rfl, rfl⟩ := ho.rd.slices
 dsimp only [nv] at KR
 replace hX := hide hX
 replace hW := hide hW
 replace hMM := hide hMM
 replace hAD := hide hAD
 replace hto := hide hto
 replace htv := hide htv
 clear KT ho b1 hT9 bWX PX D1 DX P1 D2 C2 bw1 HX Ch1 q1 q2 q3 q4 q5 hsn
 go_wp2_with fail
 refine KR.out.mono ?_
 rintro e w2 ⟨kv', vv', dv', av2, ns2, rfl, r2, c2, al2, e2, k2⟩
 obtain ⟨P1, D1, C1⟩ := H1.out
 have hB2 : B ≤ w2.heap.size := Nat.le_trans hB1 k2.size
 have hgB : Hid (w0.heap.size ≤ g ∧ g < B) := P1.hg
 have hws : Hid (w.heap.size < w1.heap.size) := lt_of_block D1
 have D2 := (k2.keep _ (lt_of_block D1) (by omega) (HNL.out _ (Nat.le_refl _))).trans D1
 have G2 := (k2.keep _ (lt_of_block P1.box) (Ne.symm hgg) (HBL.out _ hgB.out.2)).trans P1.box
 have hlen2 : ns2.length ≤ 800 := by
  have h1 := hrl.out
  rw [← e2, List.length_map] at h1
  simp at h1
  omega
 have hav2 : Hid (∀ b, av2.ownBlock = some b → w1.heap.size ≤ b) := k2.row
 have KO := hide (proot_gen B w2 (w.heap.size + 1) g t.next av2 ns2 MM kv' vv' dv' d c2 al2 hB2 (fun b hb => by have := k2.row b hb; have := hgB.out; omega) hgg hlen2 hnx r2 hsh.out)
 unfold RoR at KO
 rw [e2, ← hchg.out] at KO
 have bel2 : Below w0.heap.size w0 w2 := P1.bel.trans (k2.bel.mono (by have := hgB.out; omega))
 have H2 := hide (And.intro D2 (And.intro G2 bel2))
 have hw0B : Hid (w0.heap.size ≤ B) := by have := hgB.out; show _ ≤ _; omega
 obtain ⟨ka', kc', va', vc', da', dc', rfl, rfl, rfl⟩ := r2.rd.slices
 dsimp only [nv] at KO
 replace e2 := hide e2
 clear r2 c2 al2 k2 P1 D1 C1 D2 G2 KR H1 bel2
 dsimp only [nv]
 go_wp2_with fail
 refine KO.out.mono ?_
 rintro e w3 ⟨av3, more, rfl, c3, al3, e3, k3⟩
 obtain ⟨NS, hNS⟩ : ∃ x, x = ns2 ++ more := ⟨_, rfl⟩
 rw [← hNS] at c3 al3 e3
 obtain ⟨RT, hRT⟩ : ∃ r, r = (chgR t key ed d).1 := ⟨_, rfl⟩
 obtain ⟨A3, hA3⟩ : ∃ r, r = (chgR t key ed d).2 := ⟨_, rfl⟩
 rw [← hRT]
 rw [← hA3] at e3
 have CC : C3 w0 w w3 B g t pv bm s RT A3 NS av3 := by
  obtain ⟨D2, G2, bel2⟩ := H2.out
  refine ⟨c3, al3, e3, (k3.keep _ (lt_of_block D2) (by omega) (fun e => ?_)).trans D2, (k3.keep _ (lt_of_block G2) (Ne.symm hgg) (fun e => ?_)).trans G2, bel2.trans (k3.bel.mono hw0B.out)⟩
  ·have h1 := hav2.out _ e
   have h2 := lt_of_block D2
   have h3 := hws.out
   omega
  ·have h1 := hav2.out _ e
   have := hgB.out
   omega
 have bD : Below w3.heap.size w3 w3.drew := below_drewN' w3 1 _
 have C4 := hide (CC.to bD)
 have hlen : t.pages.length ≤ 65536 := by have := tups_len hpn.out.2.2 hpn.out.1; have := hpn.out.2.1; omega
 have KC := hide (pcopied_any w3.drew t pv (H.out.pg.to0 C4.out.bel) hlen hx.out)
 have hB4 : Hid (B ≤ w3.drew.heap.size) := Nat.le_trans (Nat.le_trans hB2 k3.size) bD.size
 obtain ⟨pa, pc, hpv⟩ := H.out.pg.slice
 subst hpv
 obtain ⟨a3, cap3, hav3⟩ := OwnNs.slice CC.ch.row
 obtain ⟨NL, hNL⟩ : ∃ n, n = NS.length := ⟨_, rfl⟩
 rw [← hNL] at hav3
 subst hav3
 have hAl : Hid (A3.length = NL) := by show _ = _; rw [hNL, ← CC.ad, List.length_map]
 have hNLb : NL ≤ 1000 := by
  have h1 := root_len t.next AD MM
  rw [← hchg.out, ← hA3, hAl.out] at h1
  have h2 := hrl.out
  simp at h2
  omega
 have Q0 := cellN CC.ch.box (i := 0) rfl
 have Q1 := cellN CC.ch.box (i := 1) rfl
 have Q2 := CC.ch.nxt
 have U0 := cellN C4.out.ch.box (i := 0) rfl
 have U1 := cellN C4.out.ch.box (i := 1) rfl
 have X0 := cellN C4.out.gb (i := 0) rfl
 have X1 := cellN C4.out.gb (i := 1) rfl
 have X2 := cellN C4.out.gb (i := 2) rfl
 have hwz : wrap64 (t.next + (NL : Int)) = t.next + (NL : Int) := by have := hpn.out.1; have := hpn.out.2.1; unfold wrap64; omega
 dsimp only [tv] at KC
 replace hRT := hide hRT
 replace hA3 := hide hA3
 replace hNS := hide hNS
 replace hNL := hide hNL
 clear c3 k3 al3 e3 CC bD KO H2
 go_upto_region 3 with fail
 go_region
 clear hwz Q0 Q1 Q2
 obtain ⟨V, hV⟩ : ∃ V, V = w3.drew := ⟨_, rfl⟩
 obtain ⟨NX, hNX⟩ : ∃ z, z = t.next + (NL : Int) := ⟨_, rfl⟩
 rw [← hV] at KC U0 U1 X0 X1 X2 C4 hB4 ⊢
 rw [← hNX]
 replace hNX := hide hNX
 replace hV := hide hV
 have hcl2 : Hid (t.next + ((chgR t key ed d).2.length : Int) = NX) := by show _ = _; rw [← hA3.out, hAl.out, hNX.out]
 by_cases hfit : 65536 < NX
 ·have hq : NX > 65536 := hfit
  have HDR := hide C4.out.dr
  obtain ⟨⟨J0, J1, J2⟩, JF⟩ := cells3p HDR.out
  have h0w : w0.heap.size ≤ w.heap.size := H.out.bel.size
  have BF := hide (below_set3t C4.out.bel h0w (.int .i64 0) (.int .i64 0) (.slice none 0 0))
  clear U0 U1 X0 X1 X2
  go_wp2
  (try simp only [Exit.inBlock, Exit.then])
  refine retNT rfl rfl w.heap.size rfl _ _ (0, 0) (heap_set3t HDR.out _ _ _) _ Tryz.underlying28 rfl info_tr _ rfl ?_
  exact .inr ⟨by rw [hcl2.out]; exact hfit, rfl, BF.out⟩
 ·have hfin : ¬ NX > 65536 := hfit
  have hoks := hide (chg_ok hTN.out hTT.out hps hE.out (by rw [hcl2.out]; omega)).1
  rw [← hA3.out] at hoks
  clear hfit
  go_wp2_with fail
  refine KC.out.mono ?_
  rintro e w5 ⟨pv5, rfl, o5, b5⟩
  obtain ⟨a5, q5, h5⟩ := o5.shape
  subst h5
  obtain ⟨Y, hY, DY, bY, sY⟩ := boxedN w5 #[.int .i64 t.root, .int .i64 t.next, .slice a5 t.pages.length q5] 28
  have bVY := b5.trans (bY.mono b5.size)
  have OY : OwnPg V.heap.size Y (.slice a5 t.pages.length q5) t.pages := o5.to9 bY
  have cY := C4.out.to bVY
  have U1' := cellN cY.ch.box (i := 1) rfl
  rw [hY] at U1'
  have hyb : Hid (V.heap.size ≤ w5.heap.size) := b5.size
  obtain ⟨PG, hPG⟩ : ∃ x, x = pgs t.next A3 := ⟨_, rfl⟩
  have CI0 : Hid (∃ pv', Y.heap[w5.heap.size]? = some (.cells #[.int .i64 t.root, .int .i64 t.next, pv'] 28 (0, 0)) ∧ OwnPg V.heap.size Y pv' (t.pages ++ PG.take 0) ∧ Below V.heap.size V Y) := ⟨_, DY, by simpa using OY, bVY⟩
  have hPl : Hid (PG.length = NL) := by show _ = _; rw [hPG, pgs_len, hAl.out]
  replace hPG := hide hPG
  clear KC o5 b5 DY bY OY cY bVY U0 U1 X0 X1 X2
  dsimp only [tv]
  go_wp2_with fail
  rw [← hY]
  clear U1'
  replace hY := hide hY
  go_loopw [46] (fun p wr => ∃ k : Nat, k ≤ NL ∧ p = .int .i64 k ∧ Hid (∃ pv', wr.heap[w5.heap.size]? = some (.cells #[.int .i64 t.root, .int .i64 t.next, pv'] 28 (0, 0)) ∧ OwnPg V.heap.size wr pv' (t.pages ++ PG.take k) ∧ Below V.heap.size V wr)) (fun p _ => NL - (intOf p).toNat)
  case atStart => exact ⟨0, Nat.zero_le _, rfl, CI0⟩
  case round =>
   obtain ⟨k, hk, rfl, hI⟩ := hrel
   clear CI0
   obtain ⟨pv6, d6, o6, b6⟩ := hI.out
   have C6 := C4.out.to b6
   by_cases hlt : k < NL
   ·have hq : ((k : Nat) : Int) < (NL : Int) := by omega
    obtain ⟨⟨nd', kv', vv', dv'⟩, hy⟩ : ∃ y, NS[k]? = some y := ⟨_, List.getElem?_eq_getElem (by rw [← hNL.out]; exact hlt)⟩
    obtain ⟨g3, hg3, hBg3, R0, R1, R2, R3⟩ := OwnNs.at C6.ch.row hy
    have hyA : A3[k]? = some nd' := by rw [← C6.ad, List.getElem?_map, hy]; rfl
    have hok : NOk nd' := hoks.out nd' (List.mem_of_getElem? hyA)
    have N6 : RdK wr kv' vv' dv' nd' := C6.al _ (List.mem_of_getElem? hy)
    subst hg3
    obtain ⟨ka', kc', va', vc', da', dc', hs1, hs2, hs3⟩ := N6.rd.slices
    subst hs1 hs2 hs3
    dsimp only at R0 R1 R2 R3
    obtain ⟨Z, hZ, DZ, bZ, sZ⟩ := boxedN wr #[.bool nd'.leaf, .slice ka' nd'.keys.length kc', .slice va' nd'.vals.length vc', .slice da' nd'.kids.length dc'] 98
    have KE := hide (penc_any Z _ _ _ nd' (N6.to bZ).rd hok.fit)
    obtain ⟨⟨E0, E1, E2, E3⟩, EF⟩ := cells4 DZ
    rw [hZ] at KE E0 E1 E2 E3 EF
    dsimp only [nv] at KE
    rw [(nout_ok hok).1, (nout_ok hok).2] at KE
    have HQ := hide (And.intro d6 (And.intro o6 (And.intro b6 (And.intro C6 bZ))))
    have hnx2 : Hid (PG.take (k + 1) = PG.take k ++ [(t.next + (k : Int), nenc nd')]) := by show _ = _; rw [hPG.out]; exact pgs_next hyA
    replace hy := hide hy
    replace hyA := hide hyA
    replace hok := hide hok
    clear d6 o6 b6 C6 bZ DZ N6 hI
    go_wp2_with fail
    refine KE.out.mono ?_
    rintro e w7 ⟨v7, rfl, o7, b7⟩
    rw [← hZ] at b7 o7
    obtain ⟨d6, o6, b6, C6, bZ⟩ := HQ.out
    have bz7 := bZ.trans (b7.mono bZ.size)
    have bD : Below w7.heap.size w7 w7.drew := below_drewN' w7 1 _
    have bb := bz7.trans (bD.mono bz7.size)
    have d7 := (bz7.block _ (lt_of_block d6)).trans d6
    have O7 : OwnPg V.heap.size w7 pv6 (t.pages ++ PG.take k) := o6.to9 bz7
    have C7 := C6.to bb
    have B7 := b6.trans (bz7.mono b6.size)
    have S7 : OwnB V.heap.size w7 v7 (nenc nd') := rows_mono o7 (Nat.le_trans b6.size bZ.size)
    obtain ⟨va7, vc7, hv7⟩ := o7.rd.slice
    subst hv7
    obtain ⟨pa6, pc6, hp6⟩ := O7.shape
    obtain ⟨PK, hPK⟩ : ∃ x, x = t.pages ++ PG.take k := ⟨_, rfl⟩
    rw [← hPK] at hp6 O7
    obtain ⟨PL, hPL⟩ : ∃ x, x = PK.length := ⟨_, rfl⟩
    have hPLb : PL ≤ 70000 := by rw [hPL, hPK, List.length_append, List.length_take]; omega
    rw [← hPL] at hp6
    subst hp6
    have Y2 := cellN (drewHeap d7) (i := 2) rfl
    have Y0 := cellN C7.ch.box (i := 0) rfl
    have Y1 := cellN C7.gb (i := 1) rfl
    obtain ⟨EL, hEL⟩ : ∃ n, n = (nenc nd').length := ⟨_, rfl⟩
    have S7' : OwnB V.heap.size w7 (.slice va7 EL vc7) (nenc nd') := by rw [hEL]; exact S7
    rw [← hEL]
    have H7 := hide (And.intro d7 (And.intro O7 (And.intro B7 S7')))
    replace hEL := hide hEL
    replace hZ := hide hZ
    replace hPK := hide hPK
    replace hPL := hide hPL
    clear d6 o6 b6 C6 bZ b7 bz7 bD bb d7 O7 C7 B7 S7 S7' o7 E0 E1 E2 E3 EF R0 R1 R2 R3 KE
    have hnz2 : IntKind.i64.wrap (t.next + (k : Int)) = t.next + (k : Int) := IntWalk.i64_in _ (by have := hpn.out.1; have := hpn.out.2.1; omega)
    go_upto_region 11 with fail
    refine wp_region_mid (fun w' => w'.cell? ⟨w5.heap.size, 2, none⟩ = some (.slice pa6 PL pc6) ∧ w'.cell? ⟨w.heap.size + 1, 0, none⟩ = some (.pointer (some ⟨g, 0, none⟩)) ∧ w'.cell? ⟨g, 1, none⟩ = some (.int .i64 t.next)) 11 13 mixed (by kernel_rfl) (fun _ _ _ _ h => h) ⟨Y2, Y0, Y1⟩ ?_
    dsimp only [List.take, List.drop]
    iterate 11
     refine take_one (v := ?_) (by rfl) ?_ ?_
     rotate_left
     ·rintro w' ⟨s1, s2, s3⟩
      go_simp
      try with_reducible rfl
     try simp only [Act.put, List.setIfInBounds_toArray, List.set_cons_zero, List.set_cons_succ]
    refine mid_one fun K hK => ?_
    rw [if_pos (by rfl)]
    go_simp
    refine hK _ _ ⟨Y2, Y0, Y1⟩ ?_
    clear hK K
    refine mid_one fun K hK => ?_
    rw [if_pos (by rfl)]
    go_simp
    refine hK _ _ ⟨cellAl Y2 _, cellAl Y0 _, cellAl Y1 _⟩ ?_
    clear hK K
    show wpList _ _ _ _ _ _
    (try simp only [hnz2])
    obtain ⟨TK, hTK⟩ : ∃ z, z = t.next + (k : Int) := ⟨_, rfl⟩
    rw [← hTK] at hnx2 ⊢
    obtain ⟨d7, O7, B7, S7⟩ := H7.out
    obtain ⟨Qa, hQa, DQa, bQa, sQ⟩ := boxedN w7 #[.int .i64 TK, .slice va7 EL vc7] 44
    obtain ⟨Q, hQ⟩ : ∃ Q, Q = (w7.alloc (.cells #[.int .i64 TK, .slice va7 EL vc7] 44)).drew := ⟨_, rfl⟩
    have bQ : Below w7.heap.size w7 Q := by rw [hQ, ← hQa]; exact bQa.trans (below_drewN' Qa 1 _)
    have DQ : Q.heap[w7.heap.size]? = some (.cells #[.int .i64 TK, .slice va7 EL vc7] 44 (0, 0)) := by rw [hQ, ← hQa]; exact drewHeap DQa
    obtain ⟨⟨Z0, Z1⟩, _⟩ := cells2r DQ
    have OZ := O7.to9 bQ
    have SZ : OwnB V.heap.size Q (.slice va7 EL vc7) (nenc nd') := rows_to S7 bQ
    have BQ := B7.trans (bQ.mono B7.size)
    have hBq : V.heap.size ≤ Q.heap.size := BQ.size
    have dQ := (bQ.block _ (lt_of_block d7)).trans d7
    have FIN : ∀ v5 w6, OwnPg V.heap.size w6 v5 (PK ++ [(TK, nenc nd')]) → Below V.heap.size Q w6 → (∀ e, e ≠ 44 → KeepT e Q w6) →
      Hid (∃ pv', (w6.setCell ⟨w5.heap.size, 2, none⟩ v5).heap[w5.heap.size]? = some (.cells #[.int .i64 t.root, .int .i64 t.next, pv'] 28 (0, 0)) ∧ OwnPg V.heap.size (w6.setCell ⟨w5.heap.size, 2, none⟩ v5) pv' (t.pages ++ PG.take (k + 1)) ∧ Below V.heap.size V (w6.setCell ⟨w5.heap.size, 2, none⟩ v5)) ∧
      w6.cell? ⟨w5.heap.size, 2, none⟩ = some (.slice pa6 PL pc6) ∧ w6.frozen? ⟨w5.heap.size, 2, none⟩ = false := fun v5 w6 o5 b5 k5 => by
     have d8 := k5 _ (by decide) _ _ _ dQ
     have d9 := heap_setN d8 2 v5
     have kk := fun e (he : e ≠ 28) => KeepT.set (a := ⟨w5.heap.size, 2, none⟩) d8 he v5
     have o9 : OwnPg V.heap.size w6 v5 (t.pages ++ PG.take (k + 1)) := by rw [hnx2.out, ← List.append_assoc, ← hPK.out]; exact o5
     exact ⟨⟨v5, by simpa using d9, o9.keepT (kk _ (by decide)) (kk _ (by decide)), (BQ.trans b5).setCell hyb.out _⟩, cellN d8 rfl, frozN d8 2⟩
    rw [hQ] at Z0 Z1 OZ SZ hBq FIN
    replace FIN := hide FIN
    have hpl : (PK.length + 1) * 32 ≤ 140737488355328 := by rw [← hPL.out]; omega
    have OZ' := hide OZ
    replace hTK := hide hTK
    clear d7 O7 B7 S7 DQ bQ hQ dQ BQ H7 Y2 Y0 Y1 hnz2 hQa DQa bQa sQ
    refine wpList_appPg rfl _ _ rfl V.heap.size (.slice pa6 PL pc6) PK (TK, nenc nd') (.slice va7 EL vc7) w7.heap.size rfl rfl OZ SZ rfl Z0 Z1 hpl hBq ?_
    intro v5 w6 o5 _ b5 k5
    obtain ⟨a9, c9, h9⟩ := o5.shape
    subst h9
    obtain ⟨F1, F2, F3⟩ := FIN.out _ w6 o5 b5 k5
    generalize (PK ++ [(TK, nenc nd')]).length = L9 at *
    clear o5 b5 k5 FIN Z0 Z1 OZ SZ hBq hpl OZ'
    go_wp2
    go_roundw
    case rel => exact ⟨k + 1, hlt, by go_num, F1⟩
    case measure => simp [intOf]; omega
   ·obtain rfl : k = NL := by omega
    have hq : ¬ ((k : Nat) : Int) < (k : Int) := by omega
    have D6 := C6.dr
    obtain ⟨pa6, pc6, hp6⟩ := o6.shape
    subst hp6
    have htk : PG.take k = PG := List.take_of_length_le (by rw [hPl.out]; exact Nat.le_refl _)
    rw [htk] at o6 d6
    obtain ⟨L9, hL9⟩ : ∃ n, n = (t.pages ++ PG).length := ⟨_, rfl⟩
    have o6' : OwnPg V.heap.size wr (.slice pa6 L9 pc6) (t.pages ++ PG) := by rw [hL9]; exact o6
    rw [← hL9] at d6
    obtain ⟨⟨E0, E1, E2⟩, EF⟩ := cells3p d6
    have hne : w5.heap.size ≠ w.heap.size := by have := hyb.out; have := lt_of_block C4.out.dr; omega
    obtain ⟨Q, hQ⟩ : ∃ Q, Q = (wr.setCell ⟨w5.heap.size, 0, none⟩ (.int .i64 RT)).setCell ⟨w5.heap.size, 1, none⟩ (.int .i64 NX) := ⟨_, rfl⟩
    have dq := heap_setN (heap_setN d6 0 (.int .i64 RT)) 1 (.int .i64 NX)
    have DQ : Q.heap[w5.heap.size]? = some (.cells #[.int .i64 RT, .int .i64 NX, .slice pa6 L9 pc6] 28 (0, 0)) := by rw [hQ]; simpa using dq
    have DR : Q.heap[w.heap.size]? = some (.cells #[.int .i64 0, .int .i64 0, .slice none 0 0] 28 (0, 0)) := by
     rw [hQ]; exact (Below.heap_setCell _ _ _ _ (Ne.symm hne)).trans ((Below.heap_setCell _ _ _ _ (Ne.symm hne)).trans D6)
    have kq : ∀ e, e ≠ 28 → KeepT e wr Q := fun e he => by
     rw [hQ]; exact (KeepT.set (a := ⟨w5.heap.size, 0, none⟩) d6 he _).trans (KeepT.set (a := ⟨w5.heap.size, 1, none⟩) (heap_setN d6 0 _) he _)
    have bq : Below w0.heap.size w0 Q := by
     rw [hQ]
     have h9 : w0.heap.size ≤ w5.heap.size := Nat.le_trans C4.out.bel.size hyb.out
     exact (C6.bel.setCell h9 _).setCell h9 _
    have ks := fun e (he : e ≠ 28) => s3_keep9 DR (.int .i64 RT) (.int .i64 NX) (.slice pa6 L9 pc6) he
    have OF := hide ((o6'.keepT (kq _ (by decide)) (kq _ (by decide))).keepT (ks _ (by decide)) (ks _ (by decide)))
    have h0w : w0.heap.size ≤ w.heap.size := H.out.bel.size
    have BF := hide (below_set3t bq h0w (.int .i64 RT) (.int .i64 NX) (.slice pa6 L9 pc6))
    obtain ⟨⟨P0, P1, P2⟩, PF⟩ := cells3p DQ
    obtain ⟨⟨J0, J1, J2⟩, JF⟩ := cells3p DR
    have HDR := hide DR
    have hVb : Hid (w0.heap.size ≤ V.heap.size) := C4.out.bel.size
    rw [hQ] at P0 P1 P2 PF J0 J1 J2 JF HDR OF BF
    replace htk := hide htk
    clear dq DQ DR kq bq ks o6 o6' d6 b6 hI D6 C6 hQ hL9
    go_wp2
    refine retNT rfl rfl w.heap.size rfl _ _ (0, 0) (heap_set3t HDR.out _ _ _) _ Tryz.underlying28 rfl info_tr _ rfl ?_
    have eT : chgT t key ed d = ⟨RT, NX, t.pages ++ PG⟩ := by
     unfold chgT
     rw [hcl2.out, ← hRT.out, ← hA3.out, ← hPG.out]
    refine .inl ⟨.slice pa6 L9 pc6, by rw [hcl2.out]; omega, by rw [eT]; rfl, ?_, BF.out⟩
    rw [eT]
    exact OwnX.base (OF.out) hVb.out
end Go.Proofs.YtpiikmkajckccaaGreat

namespace Go.Proofs.YtpiikmkajckccaaGreat
open Go.RowKit
structure Chg (t u : Tr) (ps' : List Pr) : Prop where
 prs : tprs u = some ps'
 nxt : t.next ≤ u.next ∧ u.next ≤ t.next + 40
 pgs : ∃ more, u.pages = t.pages ++ more ∧ more.length ≤ 40 ∧ ∀ x ∈ more, x.2.length ≤ 244
 num : TNum u
 rwf : (Lit.int .i64 u.root).wf = true
 how : u = t ∨ ∃ (key : Str) (upd : List Pr → List Pr) (ed : Nd → Nd) (d : Nat) (ps : List Pr), TTop t d ps ∧ EdOk key upd ed ∧ u = chgT t key ed d ∧ ps' = upd ps
theorem pgs_small : ∀ {z : Int} {ad : List Nd}, (∀ n ∈ ad, NOk n) → ∀ x ∈ pgs z ad, x.2.length ≤ 244
 | z, [], h, x, hx => by cases hx
 | z, n :: r, h, x, hx => by
  simp only [pgs, List.mem_cons] at hx
  rcases hx with rfl | hx
  ·have h1 := h n (List.mem_cons_self ..)
   have h2 := nenc_len h1
   have h3 := h1.2.2.2.2
   dsimp only
   omega
  ·exact pgs_small (fun n hn => h n (List.mem_cons_of_mem _ hn)) x hx
theorem chgR_len {t : Tr} {key : Str} {ed : Nd → Nd} {d : Nat} (hd : d ≤ 12) : (chgR t key ed d).2.length ≤ 27 := by
 unfold chgR
 have h1 := (reb_len t.pages t.next key ed d (topOf t) []).2
 have h2 := (root_len t.next (rebOf t.pages t.next key ed d (topOf t) []).2 (rebOf t.pages t.next key ed d (topOf t) []).1).2
 simp at h1
 omega
theorem TNum.rwf {t : Tr} (h : TNum t) : (Lit.int .i64 t.root).wf = true := by
 rcases h.2.2.2 with h0 | h0
 ·rw [h0]; rfl
 ·cases hq : tpage t.pages t.root with
  | none => exact absurd hq h0
  | some x =>
   have := tpage_bd h.2.2.1 hq
   have := h.2.1
   exact WalkArith.wf_i64 (by omega)
theorem chg_is {t : Tr} {d : Nat} {ps : List Pr} {key : Str} {upd : List Pr → List Pr} {ed : Nd → Nd} (hT : TNum t) (h : TTop t d ps) (hps : ps.length ≤ 4096) (hE : EdOk key upd ed) (hM : t.next + ((chgR t key ed d).2.length : Int) ≤ 65536) (hl : (upd ps).length ≤ 4096) : Chg t (chgT t key ed d) (upd ps) := by
 obtain ⟨a1, a2, a3, d', a4⟩ := chg_ok hT h hps hE hM
 obtain ⟨s, hs, e⟩ := ttop_to a4
 have hd := ttop_deep h hps
 have hc := chgR_len (t := t) (key := key) (ed := ed) hd
 refine ⟨?_, ?_, ⟨_, rfl, by rw [pgs_len]; omega, pgs_small a1⟩, a3, a3.rwf, .inr ⟨key, upd, ed, d, ps, h, hE, rfl, rfl⟩⟩
 ·rw [tprs_of ⟨a3.1, a3.2.1, a3.2.2.1⟩ hs (by rw [e]; exact hl), e]
 ·show t.next ≤ t.next + ((chgR t key ed d).2.length : Int) ∧ t.next + ((chgR t key ed d).2.length : Int) ≤ t.next + 40
  omega
theorem three_parts (key : Str) : ∀ ps : List Pr, (ps.filter (fun y => slt y.1 key)).length + (ps.filter (fun y => slt key y.1)).length + (ps.filter (fun y => y.1 == key)).length = ps.length
 | [] => rfl
 | y :: r => by
  have ih := three_parts key r
  rcases slt_tot y.1 key with h | h | h
  ·have h1 : slt key y.1 = false := slt_asym h
   have h2 : (y.1 == key) = false := by
    rw [beq_eq_false_iff_ne]
    intro e
    rw [e, slt_irr] at h
    cases h
   simp only [List.filter_cons, h, h1, h2, if_true, Bool.false_eq_true, if_false, List.length_cons]
   omega
  ·have h1 : slt key y.1 = false := by rw [h]; exact slt_irr _
   have h2 : slt y.1 key = false := by rw [h]; exact slt_irr _
   have h3 : (y.1 == key) = true := by rw [h]; simp
   simp only [List.filter_cons, h1, h2, h3, if_true, Bool.false_eq_true, if_false, List.length_cons]
   omega
  ·have h1 : slt y.1 key = false := slt_asym h
   have h2 : (y.1 == key) = false := by
    rw [beq_eq_false_iff_ne]
    intro e
    rw [e, slt_irr] at h
    cases h
   simp only [List.filter_cons, h, h1, h2, if_true, Bool.false_eq_true, if_false, List.length_cons]
   omega
theorem pins_len (key v : Str) (ps : List Pr) : (pins key v ps).length + (ps.filter (fun y => y.1 == key)).length = ps.length + 1 := by
 have h := three_parts key ps
 have e : (pins key v ps).length = (ps.filter (fun y => slt y.1 key)).length + ((ps.filter (fun y => slt key y.1)).length + 1) := by
  unfold pins
  rw [List.length_append, List.length_cons]
 rw [e]
 omega
theorem phas_len {key : Str} {ps : List Pr} (h : phas ps key = true) : 1 ≤ (ps.filter (fun y => y.1 == key)).length := by
 unfold phas at h
 obtain ⟨y, hy, e⟩ := List.any_eq_true.1 h
 exact List.length_pos_of_mem (List.mem_filter.2 ⟨hy, e⟩)
theorem pget_phas (ps : List Pr) (key : Str) : (pget ps key).isSome = phas ps key := by
 unfold pget phas
 rw [Option.isSome_map]
 induction ps with
 | nil => rfl
 | cons y r ih =>
  rw [List.find?_cons, List.any_cons]
  cases h : (y.1 == key) with
  | true => simp
  | false => simp [ih]
theorem phas_kin {key : Str} {ps : List Pr} (h : phas ps key = true) : KIn key ps := by
 unfold phas at h
 obtain ⟨y, hy, e⟩ := List.any_eq_true.1 h
 have e' : y.1 = key := by simpa using e
 exact ⟨y.2, by rw [← e']; exact hy⟩
theorem pdel_none {key : Str} {ps : List Pr} (h : phas ps key = false) : pdel key ps = ps := by
 unfold pdel
 refine filter_all fun y hy => ?_
 unfold phas at h
 have := List.any_eq_false.1 h y hy
 simpa using this
theorem pdel_len (key : Str) (ps : List Pr) : (pdel key ps).length ≤ ps.length := List.length_filter_le _ _
def perr (t : Tr) (k v : Str) : Int := match tprs t with
 | none => 9
 | some ps => if tkey k = true then (if 64 < v.length then 5 else if 4096 ≤ ps.length ∧ phas ps k = false then 51 else 0) else 91
theorem perr_none {t : Tr} {k v : Str} (h : tprs t = none) : perr t k v = 9 := by unfold perr; rw [h]
theorem perr_key {t : Tr} {k v : Str} {ps : List Pr} (h : tprs t = some ps) (hk : tkey k = false) : perr t k v = 91 := by unfold perr; rw [h]; simp [hk]
theorem perr_long {t : Tr} {k v : Str} {ps : List Pr} (h : tprs t = some ps) (hk : tkey k = true) (hv : 64 < v.length) : perr t k v = 5 := by unfold perr; rw [h]; simp [hk, hv]
theorem perr_full {t : Tr} {k v : Str} {ps : List Pr} (h : tprs t = some ps) (hk : tkey k = true) (hv : ¬ 64 < v.length) (h4 : 4096 ≤ ps.length) (hh : phas ps k = false) : perr t k v = 51 := by unfold perr; rw [h]; simp [hk, hv, h4, hh]
theorem perr_ok {t : Tr} {k v : Str} {ps : List Pr} (h : tprs t = some ps) (hk : tkey k = true) (hv : ¬ 64 < v.length) (h4 : ¬ (4096 ≤ ps.length ∧ phas ps k = false)) : perr t k v = 0 := by unfold perr; rw [h]; dsimp only; rw [if_pos hk, if_neg hv, if_neg h4]
def PutA (w w' : World) (t : Tr) (k v : Str) (e : Ending) : Prop :=
 (∃ err, e = .returned (.tuple #[tv ⟨0, 0, []⟩ (.slice none 0 0), .int .i64 err]) ∧ err ≠ 0 ∧ (err = perr t k v ∨ (err = 51 ∧ perr t k v = 0 ∧ 65495 < t.next)) ∧ Below w.heap.size w w') ∨
 (∃ u pv', e = .returned (.tuple #[tv u pv', .int .i64 0]) ∧ OwnPg w.heap.size w' pv' u.pages ∧ Below w.heap.size w w' ∧ perr t k v = 0 ∧ ∃ ps, tprs t = some ps ∧ Chg t u (pins k v ps))
def DelA (w w' : World) (t : Tr) (k : Str) (e : Ending) : Prop :=
 (∃ err, e = .returned (.tuple #[tv ⟨0, 0, []⟩ (.slice none 0 0), .bool false, .int .i64 err]) ∧ err ≠ 0 ∧ ((tprs t = none ∧ err = 9) ∨ ((∃ ps, tprs t = some ps) ∧ tkey k = false ∧ err = 91) ∨ ((∃ ps, tprs t = some ps) ∧ tkey k = true ∧ err = 51 ∧ 65495 < t.next)) ∧ Below w.heap.size w w') ∨
 (∃ u pv' ps, e = .returned (.tuple #[tv u pv', .bool (phas ps k), .int .i64 0]) ∧ OwnPg w.heap.size w' pv' u.pages ∧ Below w.heap.size w w' ∧ tkey k = true ∧ tprs t = some ps ∧ Chg t u (pdel k ps))
theorem tprs_num {t : Tr} {ps : List Pr} (h : tprs t = some ps) : TNum t ∧ ps.length ≤ 4096 ∧ ∃ s, twalk t = some s ∧ s.prs = ps := by
 unfold tprs at h
 split at h
 ·rename_i hT
  cases hw : twalk t with
  | none => rw [hw] at h; cases h
  | some s =>
   rw [hw] at h
   simp only [Option.bind_some] at h
   split at h
   ·rename_i hl
    have e := Option.some.inj h
    exact ⟨hT, by rw [← e]; exact hl, s, rfl, e⟩
   ·cases h
 ·cases h
theorem Chg.same {t : Tr} {ps : List Pr} (h : tprs t = some ps) : Chg t t ps :=
 ⟨h, ⟨Int.le_refl _, by omega⟩, ⟨[], by simp, by simp, fun x hx => by cases hx⟩, (tprs_num h).1, (tprs_num h).1.rwf, .inl rfl⟩
end Go.Proofs.YtpiikmkajckccaaGreat

namespace Go.Proofs.YtpiikmkajckccaaGreat
open Go.RowKit
theorem valOf_has (ps : List Pr) (key : Str) : (valOf (pget ps key)).2 = phas ps key := by
 rw [← pget_phas]; cases pget ps key <;> rfl
theorem tkey_is {k : Str} (h : tkey k = true) : 1 ≤ k.length ∧ k.length ≤ 32 := by unfold tkey at h; have := of_decide_eq_true h; omega
theorem OwnPg.base {B C : Nat} {w : World} {pv : Value} {l : List Wrt} (h : OwnPg C w pv l) (hBC : B ≤ C) : OwnPg B w pv l := OwnX.base h hBC
set_option maxRecDepth 100000 in
set_option maxHeartbeats 8000000 in
theorem pput_any (w : World) (t : Tr) (pv : Value) (key val : Str) (h : RdC w pv t.pages) (hx : ∀ x ∈ t.pages, x.2.length ≤ 140737488351232) (hroot : (Lit.int .i64 t.root).wf = true) (hkl : key.length ≤ 9223372036854775807) :
  Calls Tryz.prog 20 #[tv t pv, st key, st val] w fun e w' => PutA w w' t key val e := by
 obtain ⟨W1, hW1, D1, b1, s1⟩ := boxedN w #[.int .i64 t.root, .int .i64 t.next, pv] 28
 obtain ⟨W2, hW2, D2, b2, s2⟩ := boxedN W1 #[st key] 9
 obtain ⟨W3, hW3, D3, b3, s3⟩ := boxedN W2 #[st val] 9
 obtain ⟨X, hX, D4, b4, s4⟩ := boxedN W3 #[.int .i64 0, .int .i64 0, .slice none 0 0] 28
 have b34 := b3.trans (b4.mono b3.size)
 have b24 := b2.trans (b34.mono b2.size)
 have bX := b1.trans (b24.mono b1.size)
 have E1 := (b24.block _ (lt_of_block D1)).trans D1
 have E2 := (b34.block _ (lt_of_block D2)).trans D2
 have E3 := (b4.block _ (lt_of_block D3)).trans D3
 rw [s1] at E2
 rw [s2, s1] at E3
 rw [s3, s2, s1] at D4
 have sX : X.heap.size = w.heap.size + 1 + 1 + 1 + 1 := by rw [s4, s3, s2, s1]
 have KW := hide (pwalkfor_any X t pv key hkl (h.to0 bX) hroot)
 obtain ⟨pa, pc, rfl⟩ := h.slice
 have HE := hide (And.intro E1 (And.intro E2 (And.intro E3 D4)))
 have BX := hide bX
 obtain ⟨⟨A0, A1, A2⟩, AF⟩ := cells3p E1
 have A3 := cellN E2 (i := 0) rfl
 have A4 := cellN E3 (i := 0) rfl
 rw [hX, hW3, hW2, hW1] at A0 A1 A2 AF A3 A4 KW
 dsimp only [tv] at KW ⊢
 replace hx := hide hx
 replace sX := hide sX
 clear D1 b1 D2 b2 D3 b3 D4 b4 b34 b24 bX E1 E2 E3 h s1 s2 s3 s4
 go_enter Tryz.func20, Tryz.ntmps20
 go_wp2_with fail
 refine KW.out.mono ?_
 rintro e w1 hp
 rw [← hW1, ← hW2, ← hW3, ← hX] at hp
 clear A0 A1 A2 AF A3 A4 KW
 replace hX := hide hX
 replace hW1 := hide hW1
 replace hW2 := hide hW2
 replace hW3 := hide hW3
 rcases hp with ⟨g, bm, B, s, m, rfl, r2, r3, r4, r5, P1, hB1⟩ | ⟨err, rfl, r2, r3⟩
 ·have hps := tprs_of r3 r4 r5
  obtain ⟨E1, E2, E3, D4⟩ := HE.out
  have F2 := (P1.bel.block _ (lt_of_block E2)).trans E2
  have F3 := (P1.bel.block _ (lt_of_block E3)).trans E3
  have F4 := (P1.bel.block _ (lt_of_block D4)).trans D4
  have A3 := cellN F2 (i := 0) rfl
  have A4 := cellN F3 (i := 0) rfl
  by_cases hv : 64 < val.length
  ·have hq : (val.length : Int) > 64 := by omega
   have HF := hide F4
   obtain ⟨⟨J0, J1, J2⟩, JF⟩ := cells3p F4
   have HR : Hid (5 = perr t key val) := (perr_long hps r2 hv).symm
   have B1 := hide (BX.out.trans (P1.bel.mono BX.out.size))
   replace P1 := hide P1
   replace hps := hide hps
   replace r2 := hide r2
   replace r3 := hide r3
   replace r4 := hide r4
   clear E1 E2 E3 D4 F2 F3 F4 A3
   go_wp2
   (try simp only [Exit.inBlock, Exit.then])
   refine retNT rfl rfl (w.heap.size + 1 + 1 + 1) rfl _ _ (0, 0) (heap_set3t HF.out _ _ _) _ Tryz.underlying28 rfl info_tr _ rfl ?_
   exact .inl ⟨5, rfl, by decide, .inl HR.out, below_set3t B1.out (show w.heap.size ≤ w.heap.size + 1 + 1 + 1 by omega) _ _ _⟩
  ·have hq : ¬ (val.length : Int) > 64 := by omega
   have KV := hide (pvalue_any X w1 B g bm t _ s m key P1 hB1 hroot r4)
   rw [valOf_has] at KV
   obtain ⟨TH, hTH⟩ : ∃ b, b = phas s.prs key := ⟨_, rfl⟩
   rw [← hTH] at KV
   have HP := hide (And.intro P1 (And.intro hB1 (And.intro F2 (And.intro F3 F4))))
   have HD4 := hide D4
   have hgB : Hid (X.heap.size ≤ g ∧ g < B) := P1.hg
   replace hps := hide hps
   replace r2 := hide r2
   replace r3 := hide r3
   replace r4 := hide r4
   replace hTH := hide hTH
   clear E1 E2 E3 D4 F2 F3 F4 P1 HE
   go_wp2_with fail
   refine KV.out.mono ?_
   rintro e w2 ⟨rfl, b2⟩
   obtain ⟨P1, hB1', F2, F3, F4⟩ := HP.out
   have P2 := P1.to b2
   have G2 := (b2.block _ (lt_of_block F2)).trans F2
   have G3 := (b2.block _ (lt_of_block F3)).trans F3
   have G4 := (b2.block _ (lt_of_block F4)).trans F4
   have hB2 : B ≤ w2.heap.size := Nat.le_trans hB1 b2.size
   obtain ⟨d, hTT, hseen⟩ := ttop_seen r4.out
   have hTN := (tprs_num hps.out).1
   have KG := hide (pchanged_any X w2 B g bm t (.slice pa t.pages.length pc) s m key 44 #[.pointer (some ⟨w.heap.size + 1 + 1, 0, none⟩), .pointer (some ⟨w.heap.size + 1, 0, none⟩)] (edPut key val) (pins key val) (fun _ => True) d P2 hB2 hroot r4.out r3.out r5 hTT hseen hx.out (put_ed (tkey_is r2.out) (by omega)) (fun _ _ _ _ _ _ => trivial) trivial
    (put_cl G2 (by have := sX.out; have := hgB.out; omega) G3 (by have := sX.out; have := hgB.out; omega) hB2) (fun args u => Tryz.call44 args u) hTN)
   obtain ⟨⟨C0, C1, C2, C3⟩, ⟨C4, C5⟩, CF⟩ := P2.cell
   have B4 := cellN G2 (i := 0) rfl
   have B5 := cellN G3 (i := 0) rfl
   have B2 := hide (BX.out.trans (P2.bel.mono BX.out.size))
   have HG4 := hide G4
   replace hTT := hide hTT
   replace hseen := hide hseen
   replace hTN := hide hTN
   clear P1 F2 F3 F4 HP KV A3 A4 b2 P2 G2 G3 G4 C0 C1 C2 C3 C5
   have hcase : (TH = true ∧ Hid (perr t key val = 0 ∧ (pins key val s.prs).length ≤ 4096)) ∨ (TH = false ∧ ((s.prs.length : Nat) : Int) ≥ 4096 ∧ Hid (perr t key val = 51)) ∨ (TH = false ∧ ¬ ((s.prs.length : Nat) : Int) ≥ 4096 ∧ Hid (perr t key val = 0 ∧ (pins key val s.prs).length ≤ 4096)) := by
    have hl := pins_len key val s.prs
    cases TH with
    | true =>
     refine .inl ⟨rfl, perr_ok hps.out r2.out hv (fun hh => by rw [← hTH.out] at hh; exact absurd hh.2 (by simp)), ?_⟩
     have := phas_len hTH.out.symm
     omega
    | false =>
     by_cases h4 : 4096 ≤ s.prs.length
     ·exact .inr (.inl ⟨rfl, by omega, perr_full hps.out r2.out hv h4 hTH.out.symm⟩)
     ·refine .inr (.inr ⟨rfl, by omega, perr_ok hps.out r2.out hv (fun hh => h4 hh.1), ?_⟩)
      omega
   rcases hcase with ⟨rfl, hO⟩ | ⟨rfl, hf, hO⟩ | ⟨rfl, hf, hO⟩
   rotate_left
   ·obtain ⟨⟨J0, J1, J2⟩, JF⟩ := cells3p HG4.out
    clear KG B4 B5
    go_wp2
    (try simp only [Exit.inBlock, Exit.then])
    refine retNT rfl rfl (w.heap.size + 1 + 1 + 1) rfl _ _ (0, 0) (heap_set3t HG4.out _ _ _) _ Tryz.underlying28 rfl info_tr _ rfl ?_
    exact .inl ⟨51, rfl, by decide, .inl hO.out.symm, below_set3t B2.out (show w.heap.size ≤ w.heap.size + 1 + 1 + 1 by omega) _ _ _⟩
   all_goals
    go_wp2_with fail
    refine KG.out.mono ?_
    rintro e w3 hc
    rcases hc with ⟨pv3, hM, rfl, o3, b3⟩ | ⟨hM, rfl, b3⟩
    ·have hC := hide (chg_is hTN.out hTT.out r5 (put_ed (tkey_is r2.out) (by omega)) hM hO.out.2)
     obtain ⟨a3, c3, h3⟩ := o3.shape
     subst h3
     have D3 := (b3.block _ (lt_of_block HD4.out)).trans HD4.out
     have HD3 := hide D3
     obtain ⟨⟨J0, J1, J2⟩, JF⟩ := cells3p D3
     have B3 := hide (BX.out.trans (b3.mono BX.out.size))
     obtain ⟨L9, hL9⟩ : ∃ n, n = (chgT t key (edPut key val) d).pages.length := ⟨_, rfl⟩
     rw [← hL9] at o3
     obtain ⟨R9, hR9⟩ : ∃ n, n = (chgT t key (edPut key val) d).root := ⟨_, rfl⟩
     obtain ⟨N9, hN9⟩ : ∃ n, n = (chgT t key (edPut key val) d).next := ⟨_, rfl⟩
     dsimp only [tv]
     rw [← hL9, ← hR9, ← hN9]
     replace hL9 := hide hL9
     replace hR9 := hide hR9
     replace hN9 := hide hN9
     have O3 := hide o3
     replace hM := hide hM
     clear KG o3 b3 D3 C4 CF B4 B5
     go_wp2
     (try simp only [Exit.inBlock, Exit.then])
     refine retNT rfl rfl (w.heap.size + 1 + 1 + 1) rfl _ _ (0, 0) (heap_set3t HD3.out _ _ _) _ Tryz.underlying28 rfl info_tr _ rfl ?_
     have ks := fun e (he : e ≠ 28) => s3_keep9 HD3.out (.int .i64 R9) (.int .i64 N9) (.slice a3 L9 c3) he
     refine .inr ⟨chgT t key (edPut key val) d, .slice a3 L9 c3, by rw [hR9.out, hN9.out]; rfl, ?_, below_set3t B3.out (show w.heap.size ≤ w.heap.size + 1 + 1 + 1 by omega) _ _ _, hO.out.1, s.prs, hps.out, hC.out⟩
     exact OwnPg.base (O3.out.keepT (ks _ (by decide)) (ks _ (by decide))) BX.out.size
    ·have D3 := (b3.block _ (lt_of_block HD4.out)).trans HD4.out
     have HD3 := hide D3
     obtain ⟨⟨J0, J1, J2⟩, JF⟩ := cells3p D3
     have B3 := hide (BX.out.trans (b3.mono BX.out.size))
     have hN : Hid (65495 < t.next) := by
      show _ < _
      have h1 := chgR_len (t := t) (key := key) (ed := edPut key val) (ttop_deep hTT.out r5)
      omega
     replace hM := hide hM
     clear KG b3 D3 C4 CF B4 B5
     dsimp only [tv]
     go_wp2
     (try simp only [Exit.inBlock, Exit.then])
     refine retNT rfl rfl (w.heap.size + 1 + 1 + 1) rfl _ _ (0, 0) (heap_set3t HD3.out _ _ _) _ Tryz.underlying28 rfl info_tr _ rfl ?_
     exact .inl ⟨51, rfl, by decide, .inr ⟨rfl, hO.out.1, hN.out⟩, below_set3t B3.out (show w.heap.size ≤ w.heap.size + 1 + 1 + 1 by omega) _ _ _⟩
 ·have hne : (err != 0) = true := by rcases r2 with ⟨_, rfl⟩ | ⟨_, _, _, rfl⟩ <;> rfl
  have HR : Hid (err ≠ 0 ∧ err = perr t key val) := by
   rcases r2 with ⟨q, rfl⟩ | ⟨l, q1, q2, rfl⟩
   ·exact ⟨by decide, (perr_none q).symm⟩
   ·exact ⟨by decide, (perr_key q1 q2).symm⟩
  have HF := hide ((r3.block _ (lt_of_block HE.out.2.2.2)).trans HE.out.2.2.2)
  obtain ⟨⟨J0, J1, J2⟩, JF⟩ := cells3p HF.out
  have B1 := hide (BX.out.trans (r3.mono BX.out.size))
  clear r2 r3
  go_wp2
  (try simp only [Exit.inBlock, Exit.then])
  refine retNT rfl rfl (w.heap.size + 1 + 1 + 1) rfl _ _ (0, 0) (heap_set3t HF.out _ _ _) _ Tryz.underlying28 rfl info_tr _ rfl ?_
  exact .inl ⟨err, rfl, HR.out.1, .inl HR.out.2, below_set3t B1.out (show w.heap.size ≤ w.heap.size + 1 + 1 + 1 by omega) _ _ _⟩
end Go.Proofs.YtpiikmkajckccaaGreat

namespace Go.Proofs.YtpiikmkajckccaaGreat
open Go.RowKit
set_option maxRecDepth 100000 in
set_option maxHeartbeats 8000000 in
theorem pdel_any (w : World) (t : Tr) (pv : Value) (key : Str) (h : RdC w pv t.pages) (hx : ∀ x ∈ t.pages, x.2.length ≤ 140737488351232) (hroot : (Lit.int .i64 t.root).wf = true) (hkl : key.length ≤ 9223372036854775807) :
  Calls Tryz.prog 21 #[tv t pv, st key] w fun e w' => DelA w w' t key e := by
 obtain ⟨W1, hW1, D1, b1, s1⟩ := boxedN w #[.int .i64 t.root, .int .i64 t.next, pv] 28
 obtain ⟨X, hX, D4, b4, s4⟩ := boxedN W1 #[.int .i64 0, .int .i64 0, .slice none 0 0] 28
 have bX := b1.trans (b4.mono b1.size)
 have E1 := (b4.block _ (lt_of_block D1)).trans D1
 rw [s1] at D4
 have sX : X.heap.size = w.heap.size + 1 + 1 := by rw [s4, s1]
 have KW := hide (pwalkfor_any X t pv key hkl (h.to0 bX) hroot)
 obtain ⟨pa, pc, rfl⟩ := h.slice
 have HE := hide D4
 have BX := hide bX
 obtain ⟨⟨A0, A1, A2⟩, AF⟩ := cells3p E1
 rw [hX, hW1] at A0 A1 A2 AF KW
 dsimp only [tv] at KW ⊢
 replace hx := hide hx
 replace sX := hide sX
 clear D1 b1 D4 b4 bX E1 h s1 s4
 go_enter Tryz.func21, Tryz.ntmps21
 go_wp2_with fail
 refine KW.out.mono ?_
 rintro e w1 hp
 rw [← hW1, ← hX] at hp
 clear A0 A1 A2 AF KW
 replace hX := hide hX
 replace hW1 := hide hW1
 rcases hp with ⟨g, bm, B, s, m, rfl, r2, r3, r4, r5, P1, hB1⟩ | ⟨err, rfl, r2, r3⟩
 ·have hps := tprs_of r3 r4 r5
  have F4 := (P1.bel.block _ (lt_of_block HE.out)).trans HE.out
  have KV := hide (pvalue_any X w1 B g bm t _ s m key P1 hB1 hroot r4)
  rw [valOf_has] at KV
  obtain ⟨TH, hTH⟩ : ∃ b, b = phas s.prs key := ⟨_, rfl⟩
  rw [← hTH] at KV
  have HP := hide (And.intro P1 F4)
  have hgB : Hid (X.heap.size ≤ g ∧ g < B) := P1.hg
  replace hps := hide hps
  replace r2 := hide r2
  replace r3 := hide r3
  replace r4 := hide r4
  replace hTH := hide hTH
  clear F4 P1
  go_wp2_with fail
  refine KV.out.mono ?_
  rintro e w2 ⟨rfl, b2⟩
  obtain ⟨P1, F4⟩ := HP.out
  have P2 := P1.to b2
  have G4 := (b2.block _ (lt_of_block F4)).trans F4
  have hB2 : B ≤ w2.heap.size := Nat.le_trans hB1 b2.size
  obtain ⟨d, hTT, hseen⟩ := ttop_seen r4.out
  have hTN := (tprs_num hps.out).1
  have B2 := hide (BX.out.trans (P2.bel.mono BX.out.size))
  have HG4 := hide G4
  cases TH with
  | false =>
   have hlen : t.pages.length ≤ 65536 := by have := tups_len r3.out.2.2 r3.out.1; have := r3.out.2.1; omega
   have KC := hide (pcopied_any w2 t (.slice pa t.pages.length pc) (P2.pg.to0 P2.bel) hlen hx.out)
   obtain ⟨⟨C0, C1, C2, C3⟩, ⟨C4, C5⟩, CF⟩ := P2.cell
   replace hTT := hide hTT
   replace hseen := hide hseen
   replace hTN := hide hTN
   dsimp only [tv] at KC
   clear P1 F4 HP KV b2 P2 G4 C3 C4 C5 hlen
   go_wp2_with fail
   refine KC.out.mono ?_
   rintro e w3 ⟨pv3, rfl, o3, b3⟩
   obtain ⟨a3, c3, h3⟩ := o3.shape
   subst h3
   have D3 := (b3.block _ (lt_of_block HG4.out)).trans HG4.out
   have HD3 := hide D3
   obtain ⟨⟨J0, J1, J2⟩, JF⟩ := cells3p D3
   have B3 := hide (B2.out.trans (b3.mono B2.out.size))
   have O3 := hide o3
   clear KC o3 b3 D3 CF C0 C1 C2
   dsimp only [tv]
   go_wp2
   (try simp only [Exit.inBlock, Exit.then])
   refine retNTT rfl rfl (w.heap.size + 1) rfl _ _ (0, 0) (heap_set3t HD3.out _ _ _) _ Tryz.underlying28 rfl info_tr _ rfl _ rfl ?_
   have ks := fun e (he : e ≠ 28) => s3_keep9 HD3.out (.int .i64 t.root) (.int .i64 t.next) (.slice a3 t.pages.length c3) he
   refine .inr ⟨t, .slice a3 t.pages.length c3, s.prs, by rw [← hTH.out]; rfl, ?_, below_set3t B3.out (show w.heap.size ≤ w.heap.size + 1 by omega) _ _ _, r2.out, hps.out, ?_⟩
   ·exact OwnPg.base (O3.out.keepT (ks _ (by decide)) (ks _ (by decide))) B2.out.size
   ·rw [pdel_none hTH.out.symm]
    exact Chg.same hps.out
  | true =>
   have KG := hide (pchanged_any X w2 B g bm t (.slice pa t.pages.length pc) s m key 47 #[] (edDel key) (pdel key) (KIn key) d P2 hB2 hroot r4.out r3.out r5 hTT hseen hx.out (del_ed key) kin_mid (phas_kin hTH.out.symm)
    (del_cl hB2) (fun args u => Tryz.call47 args u) hTN)
   replace hTT := hide hTT
   replace hseen := hide hseen
   replace hTN := hide hTN
   clear P1 F4 HP KV b2 P2 G4
   go_wp2_with fail
   refine KG.out.mono ?_
   rintro e w3 hc
   rcases hc with ⟨pv3, hM, rfl, o3, b3⟩ | ⟨hM, rfl, b3⟩
   ·have hC := hide (chg_is hTN.out hTT.out r5 (del_ed key) hM (Nat.le_trans (pdel_len key s.prs) r5))
    obtain ⟨a3, c3, h3⟩ := o3.shape
    subst h3
    have D3 := (b3.block _ (lt_of_block HE.out)).trans HE.out
    have B3 := hide (BX.out.trans (b3.mono BX.out.size))
    obtain ⟨L9, hL9⟩ : ∃ n, n = (chgT t key (edDel key) d).pages.length := ⟨_, rfl⟩
    rw [← hL9] at o3
    obtain ⟨R9, hR9⟩ : ∃ n, n = (chgT t key (edDel key) d).root := ⟨_, rfl⟩
    obtain ⟨N9, hN9⟩ : ∃ n, n = (chgT t key (edDel key) d).next := ⟨_, rfl⟩
    dsimp only [tv]
    rw [← hL9, ← hR9, ← hN9]
    replace hL9 := hide hL9
    replace hR9 := hide hR9
    replace hN9 := hide hN9
    obtain ⟨Y, hY, DY, bY, sY⟩ := boxedN w3 #[.int .i64 R9, .int .i64 N9, .slice a3 L9 c3] 28
    have RY := (bY.block _ (lt_of_block D3)).trans D3
    have OY := o3.to9 bY
    have ks := fun e (he : e ≠ 28) => s3_keep9 RY (.int .i64 R9) (.int .i64 N9) (.slice a3 L9 c3) he
    have OF := hide (OwnPg.base (OwnX.keepT OY (ks _ (by decide)) (ks _ (by decide))) BX.out.size)
    have BF := hide (below_set3t (B3.out.trans (bY.mono B3.out.size)) (show w.heap.size ≤ w.heap.size + 1 by omega) (.int .i64 R9) (.int .i64 N9) (.slice a3 L9 c3))
    obtain ⟨⟨L0, L1, L2⟩, LF⟩ := cells3p DY
    obtain ⟨⟨M0, M1, M2⟩, MF⟩ := cells3p RY
    have HRZ := hide RY
    rw [hY] at L0 L1 L2 LF M0 M1 M2 MF HRZ OF BF
    replace hM := hide hM
    clear KG o3 b3 D3 RY OY ks DY bY hY sY
    go_wp2
    (try simp only [Exit.inBlock, Exit.then])
    refine retNTT rfl rfl (w.heap.size + 1) rfl _ _ (0, 0) (heap_set3t HRZ.out _ _ _) _ Tryz.underlying28 rfl info_tr _ rfl _ rfl ?_
    refine .inr ⟨chgT t key (edDel key) d, .slice a3 L9 c3, s.prs, by rw [← hTH.out, hR9.out, hN9.out]; rfl, OF.out, BF.out, r2.out, hps.out, hC.out⟩
   ·have D3 := (b3.block _ (lt_of_block HE.out)).trans HE.out
    have B3 := hide (BX.out.trans (b3.mono BX.out.size))
    obtain ⟨Y, hY, DY, bY, sY⟩ := boxedN w3 #[.int .i64 0, .int .i64 0, .slice none 0 0] 28
    have RY := (bY.block _ (lt_of_block D3)).trans D3
    have BF := hide (below_set3t (B3.out.trans (bY.mono B3.out.size)) (show w.heap.size ≤ w.heap.size + 1 by omega) (.int .i64 0) (.int .i64 0) (.slice none 0 0))
    have hN : Hid (65495 < t.next) := by
     show _ < _
     have h1 := chgR_len (t := t) (key := key) (ed := edDel key) (ttop_deep hTT.out r5)
     omega
    obtain ⟨⟨L0, L1, L2⟩, LF⟩ := cells3p DY
    obtain ⟨⟨M0, M1, M2⟩, MF⟩ := cells3p RY
    have HRZ := hide RY
    rw [hY] at L0 L1 L2 LF M0 M1 M2 MF HRZ BF
    replace hM := hide hM
    clear KG b3 D3 RY DY bY hY sY
    dsimp only [tv]
    go_wp2
    (try simp only [Exit.inBlock, Exit.then])
    refine retNTT rfl rfl (w.heap.size + 1) rfl _ _ (0, 0) (heap_set3t HRZ.out _ _ _) _ Tryz.underlying28 rfl info_tr _ rfl _ rfl ?_
    exact .inl ⟨51, rfl, by decide, .inr (.inr ⟨⟨_, hps.out⟩, r2.out, rfl, hN.out⟩), BF.out⟩
 ·have hne : (err != 0) = true := by rcases r2 with ⟨_, rfl⟩ | ⟨_, _, _, rfl⟩ <;> rfl
  have HR : Hid (err ≠ 0 ∧ ((tprs t = none ∧ err = 9) ∨ ((∃ ps, tprs t = some ps) ∧ tkey key = false ∧ err = 91))) := by
   rcases r2 with ⟨q, rfl⟩ | ⟨l, q1, q2, rfl⟩
   ·exact ⟨by decide, .inl ⟨q, rfl⟩⟩
   ·exact ⟨by decide, .inr ⟨⟨l, q1⟩, q2, rfl⟩⟩
  have HF := hide ((r3.block _ (lt_of_block HE.out)).trans HE.out)
  obtain ⟨⟨J0, J1, J2⟩, JF⟩ := cells3p HF.out
  have B1 := hide (BX.out.trans (r3.mono BX.out.size))
  clear r2 r3
  go_wp2
  (try simp only [Exit.inBlock, Exit.then])
  refine retNTT rfl rfl (w.heap.size + 1) rfl _ _ (0, 0) (heap_set3t HF.out _ _ _) _ Tryz.underlying28 rfl info_tr _ rfl _ rfl ?_
  exact .inl ⟨err, rfl, HR.out.1, HR.out.2.elim .inl (fun q => .inr (.inl q)), below_set3t B1.out (show w.heap.size ≤ w.heap.size + 1 by omega) _ _ _⟩
end Go.Proofs.YtpiikmkajckccaaGreat

namespace Go.Proofs.YtpiikmkajckccaaGreat
open Go.RowKit
theorem kin_lo {lo : Str} {hi : Option Str} {k : Str} (h : kin lo hi k = true) : slt k lo = false := by
 simp only [kin, Bool.and_eq_true, Bool.not_eq_true'] at h
 exact h.1
theorem kin_some {lo b : Str} {k : Str} (h : kin lo (some b) k = true) : slt k b = true := by
 simp only [kin, Bool.and_eq_true] at h
 exact h.2
theorem Seg.low {l : List Wrt} {d : Nat} : ∀ {bs : List Br} {lo : Str} {hi : Option Str}, Seg l d lo hi bs → ∀ y ∈ sprs l d bs, slt y.1 lo = false
 | [], _, _, k => k.elim
 | [b], lo, hi, k => fun y hy => kin_lo (TOk.kin k y (by simpa [sprs] using hy))
 | b :: c :: r, lo, hi, k => fun y hy => by
  have e : sprs l d (b :: c :: r) = pOf l d b.2 ++ sprs l d (c :: r) := by simp [sprs]
  rw [e, List.mem_append] at hy
  rcases hy with hy | hy
  ·exact kin_lo (TOk.kin k.1 y hy)
  ·have h1 := Seg.low k.2 y hy
   have h2 := TOk.room k.1
   exact slt_trans_le (slt_asym h2) h1
theorem seg_rise {l : List Wrt} {d : Nat} (ih : ∀ {id : Int} {lo : Str} {hi : Option Str}, TOk l d id lo hi → Rise ((pOf l d id).map (·.1))) : ∀ {bs : List Br} {lo : Str} {hi : Option Str}, Seg l d lo hi bs → Rise ((sprs l d bs).map (·.1))
 | [], _, _, k => k.elim
 | [b], lo, hi, k => by
  have e : sprs l d [b] = pOf l d b.2 := by simp [sprs]
  rw [e]
  exact ih k
 | b :: c :: r, lo, hi, k => by
  have e : sprs l d (b :: c :: r) = pOf l d b.2 ++ sprs l d (c :: r) := by simp [sprs]
  rw [e, List.map_append]
  refine List.pairwise_append.2 ⟨ih k.1, seg_rise ih k.2, fun a ha x hx => ?_⟩
  obtain ⟨y, hy, rfl⟩ := List.mem_map.1 ha
  obtain ⟨z, hz, rfl⟩ := List.mem_map.1 hx
  exact slt_lt_le (kin_some (TOk.kin k.1 y hy)) (Seg.low k.2 z hz)
theorem tok_rise {l : List Wrt} : ∀ {d : Nat} {id : Int} {lo : Str} {hi : Option Str}, TOk l d id lo hi → Rise ((pOf l d id).map (·.1))
 | 0, id, lo, hi, h => by
  obtain ⟨nd, _, ⟨ps, rfl, hp, _⟩, _, e⟩ := tok_no h
  rw [e]
  show Rise ((npr (lf ps)).map (·.1))
  rw [npr_lf]
  exact hp.1
 | d + 1, id, lo, hi, h => by
  obtain ⟨nd, _, ⟨bs, rfl, _, sg⟩, _, e⟩ := tok_no h
  rw [e]
  show Rise (((inr bs).kids.flatMap (pOf l d)).map (·.1))
  rw [sprs_inr]
  exact seg_rise (fun h => tok_rise h) sg
theorem tprs_rise {t : Tr} {ps : List Pr} (h : tprs t = some ps) : Rise (ps.map (·.1)) := by
 obtain ⟨_, _, s, hs, e⟩ := tprs_num h
 obtain ⟨d, hT⟩ := ttop_of hs
 rw [e] at hT
 rcases hT with ⟨_, _, rfl⟩ | ⟨_, _, hk, _, rfl⟩
 ·exact List.Pairwise.nil
 ·exact tok_rise hk
theorem pdel_snoc (k : Str) (l : List Pr) {i : Nat} {y : Pr} (h : l[i]? = some y) : pdel k (l.take (i + 1)) = if (y.1 == k) = true then pdel k (l.take i) else pdel k (l.take i) ++ [y] := by
 unfold pdel
 rw [List.take_add_one, h, List.filter_append]
 by_cases e : (y.1 == k) = true
 ·rw [if_pos e]; simp [List.filter_cons, e]
 ·rw [if_neg e]; simp [List.filter_cons, e]
theorem pdel_less (k : Str) : ∀ l : List Pr, decide ((pdel k l).length < l.length) = phas l k
 | [] => rfl
 | y :: r => by
  have ih := pdel_less k r
  have h1 := pdel_len k r
  unfold pdel phas at *
  rw [List.filter_cons, List.any_cons]
  cases e : (y.1 == k) with
  | true =>
   simp only [Bool.not_true, Bool.false_eq_true, if_false, Bool.true_or, decide_eq_true_eq, List.length_cons]
   omega
  | false =>
   simp only [Bool.not_false, if_true, Bool.false_or, List.length_cons]
   rw [← ih]
   apply decide_eq_decide.2
   omega
set_option maxRecDepth 100000 in
set_option maxHeartbeats 2000000 in
theorem rwo_any (w : World) (v : Value) (l : List Pr) (key : Str) (h : RdP w v l) (hl : l.length ≤ 1000000) :
  Calls Tryz.prog 35 #[v, st key] w fun e w' => ∃ v', e = .returned (.tuple #[v', .bool (phas l key)]) ∧ OwnP w.heap.size w' v' (pdel key l) ∧ Below w.heap.size w w' := by
 obtain ⟨a, c, rfl⟩ := h.slice
 obtain ⟨L, hL⟩ : ∃ L, L = l.length := ⟨_, rfl⟩
 rw [← hL] at h hl ⊢
 replace hL := hide hL
 have HH := hide h
 clear h
 go_enter Tryz.func35, Tryz.ntmps35
 go_wp2
 go_loopw [6, 7] (fun o p wr => ∃ i : Nat, i ≤ L ∧ p = .int .i64 i ∧ Hid (OwnP w.heap.size wr o (pdel key (l.take i)) ∧ Below w.heap.size w wr)) (fun _ p _ => L - (intOf p).toNat)
 case atStart => exact ⟨0, Nat.zero_le _, rfl, hide ⟨World.ownsRow_nil _ _ _ _, Below.refl _ _⟩⟩
 case round =>
  obtain ⟨i, hi, rfl, hI⟩ := hrel
  by_cases hlt : i < L
  ·have hq : (i : Int) < (L : Int) := by omega
   obtain ⟨y, hy⟩ := some_el l (k := i) (by rw [← hL.out]; exact hlt)
   obtain ⟨b, off, rfl, hc1, hc2⟩ := (HH.out.to0 hI.out.2).prAt hy
   have hS := hide (pdel_snoc key l hy)
   have hN : Hid ((pdel key (l.take i)).length ≤ i) := by
    show _ ≤ _
    have h1 := pdel_len key (l.take i)
    have h2 := List.length_take_le i l
    omega
   obtain ⟨out, hs⟩ : ∃ s, s = pdel key (l.take i) := ⟨_, rfl⟩
   rw [← hs] at hI hS hN
   replace hs := hide hs
   replace hy := hide hy
   obtain ⟨y1, y2⟩ := y
   dsimp only at hc1 hc2
   cases he : (y1 == key) with
   | true =>
    rw [if_pos he] at hS
    go_wp2
    go_roundw
    case rel => exact ⟨i + 1, by omega, by go_num, by rw [hS.out]; exact hI⟩
    case measure => simp [intOf]; omega
   | false =>
    rw [if_neg (by simp [he])] at hS
    obtain ⟨V, hV, D, bV, sV⟩ := boxedN wr #[st y1, st y2] 102
    obtain ⟨⟨C0, C1⟩, _⟩ := cells2r D
    have OW := rows_to hI.out.1 bV
    have BB := hide (hI.out.2.trans (bV.mono hI.out.2.size))
    have hn : (out.length + 1) * 32 ≤ 140737488355328 := by have := hN.out; omega
    have hB2 : w.heap.size ≤ V.heap.size := BB.out.size
    rw [hV] at C0 C1 OW hB2
    replace C0 := hide C0
    replace C1 := hide C1
    replace OW := hide OW
    clear D bV
    go_wp2_with (at_builtin; refine wpList_appP rfl _ _ rfl w.heap.size _ out (y1, y2) wr.heap.size rfl rfl OW.out C0.out C1.out hn hB2 ?_; intro v1 w3 o1 b1 _)
    replace o1 := hide o1
    rw [← hV] at b1
    have B3 := hide (BB.out.trans b1)
    clear b1
    go_wp2
    go_roundw
    case rel => exact ⟨i + 1, by omega, by go_num, by rw [hS.out]; exact ⟨o1.out, B3.out⟩⟩
    case measure => simp [intOf]; omega
  ·have hq : ¬ (i : Int) < (L : Int) := by omega
   have ht : l.take i = l := List.take_of_length_le (by rw [← hL.out]; omega)
   rw [ht] at hI
   obtain ⟨oa, oc, ho⟩ := (OwnP.rd hI.out.1).slice
   obtain ⟨M, hM⟩ : ∃ n, n = (pdel key l).length := ⟨_, rfl⟩
   have hr := pdel_less key l
   rw [← hM, ← hL.out] at hr
   rw [← hM] at ho
   subst ho
   replace hM := hide hM
   replace hr := hide hr
   go_wp2
   go_ret2
   exact ⟨.slice oa M oc, congrArg (fun b => Ending.returned (.tuple #[.slice oa M oc, .bool b])) hr.out, hI.out.1, hI.out.2⟩
set_option maxRecDepth 100000 in
set_option maxHeartbeats 2000000 in
theorem rputerr_any (w : World) (t : Tr) (pv : Value) (k v : Str) (hk : k.length ≤ 9223372036854775807) (hv : v.length ≤ 9223372036854775807) (h : RdC w pv t.pages) : Calls Tryz.prog 32 #[tv t pv, st k, st v] w fun e w' =>
  e = .returned (.int .i64 (perr t k v)) ∧ Below w.heap.size w w' := by
 obtain ⟨W, hW, D, bW, sW⟩ := boxedN w #[.int .i64 t.root, .int .i64 t.next, pv] 24
 have KN := hide (rprs_any W t pv (h.to0 bW))
 obtain ⟨a, c, rfl⟩ := h.slice
 obtain ⟨⟨D0, D1, D2⟩, _⟩ := cells3p D
 have HB := hide bW
 rw [hW] at D0 D1 D2 KN
 dsimp only [tv] at KN ⊢
 clear h bW D sW
 generalize t.root = root at *
 generalize t.next = next at *
 generalize t.pages.length = L at *
 obtain ⟨R, hR⟩ : ∃ R, R = perr t k v := ⟨_, rfl⟩
 rw [← hR]
 replace hR := hide hR
 go_enter Tryz.func32, Tryz.ntmps32
 go_wp2_with fail
 refine KN.out.mono ?_
 rintro e w1 ⟨pv1, err, rfl, hp, b1⟩
 rw [← hW] at b1
 have B1 := hide (HB.out.trans (b1.mono HB.out.size))
 clear b1 KN HB hW D0 D1 D2
 rcases hp with ⟨l, h1, rfl, h3⟩ | ⟨h1, rfl, rfl⟩
 ·have KK := hide (rkey_any w1 k hk)
  have KH := hide (rhas10_any w1 _ l k (OwnP.rd h3))
  obtain ⟨pa, pc, rfl⟩ := (OwnP.rd h3).slice
  obtain ⟨M, hM⟩ : ∃ M, M = l.length := ⟨_, rfl⟩
  rw [← hM] at KH ⊢
  replace hM := hide hM
  replace h1 := hide h1
  clear h3
  go_wp2_with fail
  refine KK.out.mono ?_
  rintro e w2 ⟨rfl, rfl⟩
  cases ht : tkey k with
  | false =>
   have hr : Hid (R = 91) := by show _ = _; rw [hR.out]; exact perr_key h1.out ht
   go_wp2
   go_ret
   exact ⟨ret_i hr.out.symm, B1.out⟩
  | true =>
   replace ht := hide ht
   by_cases h6 : 64 < v.length
   ·have hr : Hid (R = 5) := by show _ = _; rw [hR.out]; exact perr_long h1.out ht.out h6
    have hq : (v.length : Int) > 64 := by omega
    go_wp2
    go_ret
    exact ⟨ret_i hr.out.symm, B1.out⟩
   ·have hq : ¬ (v.length : Int) > 64 := by omega
    by_cases h4 : 4096 ≤ M
    ·have hq4 : (M : Int) ≥ 4096 := by omega
     go_wp2_with fail
     refine KH.out.mono ?_
     rintro e w2 ⟨rfl, rfl⟩
     cases hh : phas l k with
     | true =>
      have hr : Hid (R = 0) := by show _ = _; rw [hR.out]; exact perr_ok h1.out ht.out h6 (fun q => by rw [hh] at q; exact absurd q.2 (by simp))
      go_wp2
      go_ret
      exact ⟨ret_i hr.out.symm, B1.out⟩
     | false =>
      have hr : Hid (R = 51) := by show _ = _; rw [hR.out]; exact perr_full h1.out ht.out h6 (by rw [← hM.out]; exact h4) hh
      go_wp2
      go_ret
      exact ⟨ret_i hr.out.symm, B1.out⟩
    ·have hq4 : ¬ (M : Int) ≥ 4096 := by omega
     have hr : Hid (R = 0) := by show _ = _; rw [hR.out]; exact perr_ok h1.out ht.out h6 (fun q => h4 (by rw [hM.out]; exact q.1))
     go_wp2
     go_ret
     exact ⟨ret_i hr.out.symm, B1.out⟩
 ·have hr : Hid (R = 9) := by show _ = _; rw [hR.out]; exact perr_none h1
  go_wp2
  go_ret
  exact ⟨ret_i hr.out.symm, B1.out⟩
end Go.Proofs.YtpiikmkajckccaaGreat

namespace Go.Proofs.YtpiikmkajckccaaGreat
open Go.RowKit
end Go.Proofs.YtpiikmkajckccaaGreat

namespace Go.Proofs.YtpiikmkajckccaaGreat
open Go.RowKit
abbrev OwnPr (B : Nat) (w : World) (v : Value) (ws : List Wrt) : Prop := OwnX 45 B w v ws
theorem infoPr10 : (Tryz.prog.info? 45).map (fun i => (i.zero, i.size, i.bytes)) = some (some (.agg #[.int .i64 0, .slice none 0 0]), 2, 32) := by kernel_rfl
theorem info_tr9 : (Tryz.prog.info? 24).map (·.size) = some 3 := by kernel_rfl
theorem wpList_appPr {ops : Array Oper} {rest : List Oper} {o : Oper} {a : Act} {w : World} {Q : Exit → Act → World → Prop} (hgd : o.guard = none) (s x : Operand)
  (ho : o.op = .call { callee := .builtin .append, args := #[s, x], argTypes := #[22, 22] }) (B : Nat) (v : Value) (ws : List Wrt) (f : Wrt) (sv : Value) (g : Nat) (hs : a.eval s = v) (hx : a.eval x = .slice (some ⟨g, 0, none⟩) 1 1)
  (hown : OwnPr B w v ws) (hsv : OwnB B w sv f.2) (hone : sv.oneCell' = true) (hc1 : w.cell? ⟨g, 0, none⟩ = some (.int .i64 f.1)) (hc2 : w.cell? ⟨g, 1, none⟩ = some sv) (hlen : (ws.length + 1) * 32 ≤ 140737488355328) (hB : B ≤ w.heap.size)
  (h : ∀ v' w', OwnPr B w' v' (ws ++ [f]) → w.grownBy w' v.ownBlock → Below B w w' → (∀ e, e ≠ 45 → KeepT e w w') → wpList Tryz.prog ops Q rest (a.put o.dst v') w') : wpList Tryz.prog ops Q (o :: rest) a w := by
 obtain ⟨i0, hi, hz0, hz1, hz2⟩ := info_parts infoPr10
 obtain ⟨svs, h1, h2, h3⟩ := hown
 have n2 : ∀ j u, [Value.int .i64 f.1, sv][j]? = some u → w.cell? ((⟨g, 0, none⟩ : Addr).add j) = some u := by
  intro j u hj
  match j, hj with
  | 0, hj => simp at hj; subst hj; simpa [Addr.add] using hc1
  | 1, hj => simp at hj; subst hj; simpa [Addr.add] using hc2
  | j + 2, hj => simp at hj
 refine wpList_append_own _ hgd s x 22 ho B 45 i0 (.agg #[.int .i64 0, .slice none 0 0]) 2 32 Tryz.underlying22 hi hz0 hz1 hz2 rfl (by decide) v ws.length (wcells ws svs) hs h2 ⟨g, 0, none⟩ 1 1 [.int .i64 f.1, sv] hx rfl n2
  (fun u hu => by simp at hu; rcases hu with rfl | rfl; rfl; exact hone) (by rw [show maxLen = 9223372036854775807 from rfl]; omega) hlen hB ?_
 intro v' w' q1 q2 _
 exact h v' w' (OwnX.snoc (by decide) h1 h2 h3 hsv q2 (by simpa using q1)) q2 ((Below.refl _ _).grown q2 hB (fun k hk => (World.ownsRow.lt h2 k hk).1)) (fun e he => KeepT.grown h2 q2 he)
set_option maxRecDepth 100000 in
set_option maxHeartbeats 4000000 in
theorem ppg10_any (w : World) (t : Tr) (pv : Value) (h : RdC w pv t.pages) (hl : (t.pages.length + 1) * 32 ≤ 140737488355328) (hx : ∀ x ∈ t.pages, x.2.length ≤ 140737488351232) :
  Calls Tryz.prog 33 #[tv t pv] w fun e w' => ∃ pv', e = .returned (tv t pv') ∧ OwnPr w.heap.size w' pv' t.pages ∧ Below w.heap.size w w' := by
 obtain ⟨root, next, ps⟩ := t
 obtain ⟨a, c, rfl⟩ := h.slice
 dsimp only [tv] at *
 obtain ⟨W, hW, DW, bW, sW⟩ := boxedN w #[.int .i64 root, .int .i64 next, .slice a ps.length c] 28
 obtain ⟨X, hX, DX, bX, sX⟩ := boxedN W #[.int .i64 0, .int .i64 0, .slice none 0 0] 24
 obtain ⟨Y, hY, DY, bY, sY⟩ := boxedN X #[.int .i64 root, .int .i64 next, .slice none 0 0] 24
 have bWX := bW.trans (bX.mono bW.size)
 have bWY := bWX.trans (bY.mono bWX.size)
 have O1 : OwnPr Y.heap.size Y (.slice none 0 0) [] := ⟨[], rfl, World.ownsRow_nil _ _ _ _, fun i hi => by simp at hi⟩
 have D0 := (bX.block _ (lt_of_block DW)).trans DW
 obtain ⟨⟨E0, E1, E2⟩, EF⟩ := cells3p D0
 have D1 := (bY.block _ (lt_of_block D0)).trans D0
 have X1 := (bY.block _ (lt_of_block DX)).trans DX
 have HH := hide h
 have HY := hide bWY
 have hBX := hide D1
 have hRX := hide X1
 have hOX := hide DY
 rw [sW] at hRX
 rw [sX, sW] at hOX
 have hsz : Hid (Y.heap.size = w.heap.size + 1 + 1 + 1) := by show _ = _; rw [sY, sX, sW]
 have HI : Hid (OwnPr Y.heap.size Y (.slice none 0 0) (ps.take 0) ∧ Y.heap[w.heap.size + 1 + 1]? = some (.cells #[.int .i64 root, .int .i64 next, .slice none 0 0] 24 (0, 0)) ∧ Y.heap[w.heap.size]? = some (.cells #[.int .i64 root, .int .i64 next, .slice a ps.length c] 28 (0, 0)) ∧ Y.heap[w.heap.size + 1]? = some (.cells #[.int .i64 0, .int .i64 0, .slice none 0 0] 24 (0, 0)) ∧ Below w.heap.size w Y) := ⟨O1, hOX.out, hBX.out, hRX.out, bWY⟩
 rw [hX, hW] at E0 E1 E2 EF
 clear h bW bX DW DX D1 X1 O1 bWX bWY DY D0 bY
 go_enter Tryz.func33, Tryz.ntmps33
 go_wp2
 rw [← hW, ← hX, ← hY]
 replace hX := hide hX
 replace hW := hide hW
 replace hY := hide hY
 clear E0 E1 E2 EF hBX hRX hOX
 go_loopw [4] (fun p wr => ∃ k : Nat, k ≤ ps.length ∧ p = .int .i64 k ∧ ∃ v, Hid (OwnPr Y.heap.size wr v (ps.take k) ∧ wr.heap[w.heap.size + 1 + 1]? = some (.cells #[.int .i64 root, .int .i64 next, v] 24 (0, 0)) ∧ wr.heap[w.heap.size]? = some (.cells #[.int .i64 root, .int .i64 next, .slice a ps.length c] 28 (0, 0)) ∧ wr.heap[w.heap.size + 1]? = some (.cells #[.int .i64 0, .int .i64 0, .slice none 0 0] 24 (0, 0)) ∧ Below w.heap.size w wr)) (fun p _ => ps.length - (intOf p).toNat)
 case atStart => exact ⟨0, Nat.zero_le _, rfl, _, HI⟩
 case round =>
  obtain ⟨k, hk, rfl, v, hI⟩ := hrel
  clear HI
  obtain ⟨oa, oc, ho⟩ := hI.out.1.shape
  rw [List.length_take, Nat.min_eq_left hk] at ho
  subst ho
  obtain ⟨⟨A0, A1, A2⟩, AF⟩ := cells3p hI.out.2.2.1
  obtain ⟨⟨T0, T1, T2⟩, TF⟩ := cells3p hI.out.2.1
  by_cases hlt : k < ps.length
  ·have hq : (k : Int) < (ps.length : Int) := by omega
   obtain ⟨y, hy⟩ : ∃ y, ps[k]? = some y := ⟨_, List.getElem?_eq_getElem hlt⟩
   have hxl := hx y (List.mem_of_getElem? hy)
   have hsn := hide (take_snoc9 hy)
   obtain ⟨b, off, u, e1, hc1, hc2, hr⟩ := HH.out.wrt hy
   subst e1
   obtain ⟨z, x⟩ := y
   dsimp only at hc1 hc2 hr hxl
   obtain ⟨au, cu, rfl⟩ := hr.slice
   replace hc1 := (hI.out.2.2.2.2.cell (cell_lt hc1)).trans hc1
   replace hc2 := (hI.out.2.2.2.2.cell (cell_lt hc2)).trans hc2
   have bd : Below wr.heap.size wr wr.drew := below_drewN' wr 1 _
   have KC := hide (copy_any wr.drew _ x ((hr.to hI.out.2.2.2.2).to bd) (by omega))
   have hn : (k + 1) * 32 ≤ 140737488355328 := by omega
   have hlk : Hid ((ps.take k).length = k) := by show _ = _; rw [List.length_take, Nat.min_eq_left hk]
   obtain ⟨XL, hXL⟩ : ∃ XL, XL = x.length := ⟨_, rfl⟩
   rw [← hXL] at KC hc2
   replace hXL := hide hXL
   have d1 := (bd.cell (cell_lt hc1)).trans hc1
   have d2 := (bd.cell (cell_lt hc2)).trans hc2
   have d3 := (bd.cell (cell_lt A2)).trans A2
   have d4 := (bd.cell (cell_lt T2)).trans T2
   clear hr hy A0 A1 T0 T1
   go_upto_region 5 with fail
   clear A2 AF T2 TF hc1 hc2
   refine wp_region_mid (fun w' => w'.cell? ⟨b, off + k * 2, none⟩ = some (.int .i64 z) ∧ w'.cell? ⟨b, off + k * 2 + 1, none⟩ = some (.slice au XL cu) ∧ w'.cell? ⟨w.heap.size, 2, none⟩ = some (.slice (some ⟨b, off, none⟩) ps.length c) ∧ w'.cell? ⟨w.heap.size + 1 + 1, 2, none⟩ = some (.slice oa k oc)) 14 17 mixed (by kernel_rfl) (fun _ _ _ _ h => h) ⟨d1, d2, d3, d4⟩ ?_
   dsimp only [List.take, List.drop]
   iterate 14
    refine take_one (v := ?_) (by rfl) ?_ ?_
    rotate_left
    ·rintro w' ⟨s1, s2, s3, s4⟩
     go_simp
     try with_reducible rfl
    try simp only [Act.put, List.setIfInBounds_toArray, List.set_cons_zero, List.set_cons_succ]
   refine mid_one fun K hK => ?_
   refine step_call (by rfl) 22 _ _ (by rfl) #[.slice au XL cu] (by simp [Act.eval]) (Tryz.call22 _ _) KC.out ?_
   rintro e w2 ⟨v2, rfl, o2, b2⟩
   obtain ⟨va, vc, hv2⟩ := o2.rd.slice
   rw [← hXL.out] at hv2
   subst hv2
   have x1 := (b2.cell (cell_lt d1)).trans d1
   have x2 := (b2.cell (cell_lt d2)).trans d2
   have x3 := (b2.cell (cell_lt d3)).trans d3
   have x4 := (b2.cell (cell_lt d4)).trans d4
   refine ⟨_, rfl, hK _ _ ⟨x1, x2, x3, x4⟩ ?_⟩
   clear hK K
   have bw2 := bd.trans (b2.mono bd.size)
   have I2 := hide (And.intro (hI.out.1.to9 bw2) (And.intro ((bw2.block _ (lt_of_block hI.out.2.1)).trans hI.out.2.1) (And.intro ((bw2.block _ (lt_of_block hI.out.2.2.1)).trans hI.out.2.2.1) (And.intro ((bw2.block _ (lt_of_block hI.out.2.2.2.1)).trans hI.out.2.2.2.1) (hI.out.2.2.2.2.trans (bw2.mono hI.out.2.2.2.2.size))))))
   have O2 : Hid (OwnB Y.heap.size w2 (.slice va XL vc) x) := rows_mono o2 (by rw [hsz.out]; have := lt_of_block hI.out.2.1; have := bd.size; omega)
   have HS : Hid (Y.heap.size ≤ w2.heap.size) := by
    show _ ≤ _
    rw [hsz.out]
    have := lt_of_block hI.out.2.1
    have := bw2.size
    omega
   clear b2 o2 KC d1 d2 d3 d4 hI bw2 bd
   try simp only [Act.put, List.setIfInBounds_toArray, List.set_cons_zero, List.set_cons_succ]
   refine mid_one fun K hK => ?_
   rw [if_pos (by rfl)]
   go_simp
   refine hK _ _ ⟨x1, x2, x3, x4⟩ ?_
   clear hK K
   refine mid_one fun K hK => ?_
   rw [if_pos (by rfl)]
   go_simp
   refine hK _ _ ⟨cellAl9 x1 _, cellAl9 x2 _, cellAl9 x3 _, cellAl9 x4 _⟩ ?_
   clear hK K x1 x2 x3 x4
   show wpList _ _ _ _ _ _
   obtain ⟨Z, hZ, DZ, bZ, sZ⟩ := boxedN w2 #[.int .i64 z, .slice va XL vc] 45
   obtain ⟨⟨Z0, Z1⟩, _⟩ := cells2r DZ
   have OZ : OwnPr Y.heap.size Z (.slice oa k oc) (ps.take k) := I2.out.1.to9 bZ
   have SZ : OwnB Y.heap.size Z (.slice va XL vc) x := rows_to O2.out bZ
   have hB : Y.heap.size ≤ Z.heap.size := by have := HS.out; have := bZ.size; omega
   rw [hZ] at Z0 Z1 OZ SZ hB
   refine wpList_appPr rfl _ _ rfl Y.heap.size (.slice oa k oc) (ps.take k) (z, x) (.slice va XL vc) w2.heap.size rfl rfl OZ SZ rfl Z0 Z1 (by rw [hlk.out]; exact hn) hB ?_
   intro v5 w5 o5 g5 b5 _
   rw [← hZ] at b5
   rw [← hsn.out] at o5
   obtain ⟨na, nc, hv5⟩ := o5.shape
   generalize (ps.take (k + 1)).length = nl at hv5
   subst hv5
   have bZ2 := hide bZ
   have blk : ∀ j, j < Y.heap.size → ∀ o, w2.heap[j]? = some o → w5.heap[j]? = some o := fun j hj o ho => (b5.block j hj).trans ((bZ2.out.block j (lt_of_block ho)).trans ho)
   have T5 := blk _ (by rw [hsz.out]; omega) _ I2.out.2.1
   have A5 := blk _ (by rw [hsz.out]; omega) _ I2.out.2.2.1
   have R5 := blk _ (by rw [hsz.out]; omega) _ I2.out.2.2.2.1
   have bb5 : Below w.heap.size w w5 := (I2.out.2.2.2.2.trans (bZ2.out.mono I2.out.2.2.2.2.size)).trans (b5.mono (by rw [hsz.out]; omega))
   obtain ⟨⟨T0, T1, T2⟩, TF⟩ := cells3p T5
   have d0 := heap_setN T5 2 (.slice na nl nc)
   have D7 : (w5.setCell ⟨w.heap.size + 1 + 1, 2, none⟩ (.slice na nl nc)).heap[w.heap.size + 1 + 1]? = some (.cells #[.int .i64 root, .int .i64 next, (.slice na nl nc)] 24 (0, 0)) := by simpa using d0
   have A7 : (w5.setCell ⟨w.heap.size + 1 + 1, 2, none⟩ (.slice na nl nc)).heap[w.heap.size]? = _ := (Below.heap_setCell _ _ _ _ (show w.heap.size ≠ w.heap.size + 1 + 1 by omega)).trans A5
   have R7 : (w5.setCell ⟨w.heap.size + 1 + 1, 2, none⟩ (.slice na nl nc)).heap[w.heap.size + 1]? = _ := (Below.heap_setCell _ _ _ _ (show w.heap.size + 1 ≠ w.heap.size + 1 + 1 by omega)).trans R5
   have kk : ∀ e, e ≠ 24 → KeepT e w5 (w5.setCell ⟨w.heap.size + 1 + 1, 2, none⟩ (.slice na nl nc)) := fun e he => KeepT.set (a := ⟨w.heap.size + 1 + 1, 2, none⟩) T5 he _
   have I5 := hide (And.intro (o5.keepT (kk _ (by decide)) (kk _ (by decide))) (And.intro D7 (And.intro A7 (And.intro R7 (bb5.setCell (p := ⟨w.heap.size + 1 + 1, 2, none⟩) (show w.heap.size ≤ w.heap.size + 1 + 1 by omega) (.slice na nl nc))))))
   clear o5 g5 b5 Z0 Z1 OZ SZ hB DZ bZ hZ I2 O2 blk A5 R5 bb5 d0 D7 A7 R7 kk bZ2 T5 HS
   go_wp2
   go_roundw
   case rel => exact ⟨k + 1, by omega, by go_num, _, I5⟩
   case measure => simp [intOf]; omega
  ·have hq : ¬ (k : Int) < (ps.length : Int) := by omega
   obtain rfl : k = ps.length := by omega
   have htk : ps.take ps.length = ps := List.take_of_length_le (by omega)
   rw [htk] at hI
   have R6 := hI.out.2.2.2.1
   obtain ⟨⟨F0, F1, F2⟩, FF⟩ := cells3p R6
   have HR := hide R6
   have OO := hide (hI.out.1.keepT (s3_keep9 R6 (.int .i64 root) (.int .i64 next) (.slice oa ps.length oc) (by decide)) (s3_keep9 R6 (.int .i64 root) (.int .i64 next) (.slice oa ps.length oc) (by decide)))
   have BB := hide (below_set3t hI.out.2.2.2.2 (show w.heap.size ≤ w.heap.size + 1 by omega) (.int .i64 root) (.int .i64 next) (.slice oa ps.length oc))
   have hYw : Hid (w.heap.size ≤ Y.heap.size) := HY.out.size
   clear hI R6
   go_wp2
   refine retN rfl rfl (w.heap.size + 1) rfl _ _ (0, 0) (heap_set3t HR.out _ _ _) _ Tryz.underlying24 rfl info_tr9 ?_
   refine ⟨_, rfl, ?_, BB.out⟩
   exact OwnX.base OO.out hYw.out
end Go.Proofs.YtpiikmkajckccaaGreat

namespace Go.Proofs.YtpiikmkajckccaaGreat
open Go.RowKit
def PutB (B : Nat) (c : World) (t : Tr) (k v : Str) (u : Tr) (pv : Value) (err : Int) : Prop :=
 (err ≠ 0 ∧ (err = perr t k v ∨ (err = 51 ∧ perr t k v = 0 ∧ 65495 < t.next))) ∨
 (err = 0 ∧ perr t k v = 0 ∧ OwnPg B c pv u.pages ∧ ∃ ps, tprs t = some ps ∧ Chg t u (pins k v ps))
def DelB (B : Nat) (c : World) (t : Tr) (k : Str) (u : Tr) (pv : Value) (was : Bool) (err : Int) : Prop :=
 (err ≠ 0 ∧ (tprs t = none ∨ tkey k = false ∨ 65495 < t.next)) ∨
 (err = 0 ∧ tkey k = true ∧ OwnPg B c pv u.pages ∧ ∃ ps, tprs t = some ps ∧ was = phas ps k ∧ Chg t u (pdel k ps))
theorem PutA.to {w w' : World} {t : Tr} {k v : Str} {e : Ending} (h : PutA w w' t k v e) : ∃ u a n c err, e = .returned (.tuple #[.agg #[.int .i64 u.root, .int .i64 u.next, .slice a n c], .int .i64 err]) ∧ PutB w.heap.size w' t k v u (.slice a n c) err ∧ Below w.heap.size w w' := by
 rcases h with ⟨err, rfl, h1, h2, h3⟩ | ⟨u, pv, rfl, h1, h2, h3, h4⟩
 ·exact ⟨⟨0, 0, []⟩, _, _, _, err, rfl, .inl ⟨h1, h2⟩, h3⟩
 ·obtain ⟨a, c, hp⟩ := h1.shape
  subst hp
  exact ⟨u, _, _, _, 0, rfl, .inr ⟨rfl, h3, h1, h4⟩, h2⟩
theorem DelA.to {w w' : World} {t : Tr} {k : Str} {e : Ending} (h : DelA w w' t k e) : ∃ u a n c was err, e = .returned (.tuple #[.agg #[.int .i64 u.root, .int .i64 u.next, .slice a n c], .bool was, .int .i64 err]) ∧ DelB w.heap.size w' t k u (.slice a n c) was err ∧ Below w.heap.size w w' := by
 rcases h with ⟨err, rfl, h1, h2, h3⟩ | ⟨u, pv, ps, rfl, h1, h2, h3, h4, h5⟩
 ·refine ⟨⟨0, 0, []⟩, _, _, _, _, err, rfl, .inl ⟨h1, ?_⟩, h3⟩
  rcases h2 with ⟨q, _⟩ | ⟨_, q, _⟩ | ⟨_, _, _, q⟩
  ·exact .inl q
  ·exact .inr (.inl q)
  ·exact .inr (.inr q)
 ·obtain ⟨a, c, hp⟩ := h1.shape
  subst hp
  exact ⟨u, _, _, _, _, 0, rfl, .inr ⟨rfl, h3, h1, ps, h4, rfl, h5⟩, h2⟩
theorem PutB.keep {B : Nat} {c c' : World} {t : Tr} {k v : Str} {u : Tr} {pv : Value} {err : Int} (h : PutB B c t k v u pv err) (k1 : ∀ e, e ≠ 28 → KeepT e c c') : PutB B c' t k v u pv err := by
 rcases h with h | ⟨h1, h2, h3, h4⟩
 ·exact .inl h
 ·exact .inr ⟨h1, h2, OwnX.keepT h3 (k1 _ (by decide)) (k1 _ (by decide)), h4⟩
theorem DelB.keep {B : Nat} {c c' : World} {t : Tr} {k : Str} {u : Tr} {pv : Value} {was : Bool} {err : Int} (h : DelB B c t k u pv was err) (k1 : ∀ e, e ≠ 28 → KeepT e c c') : DelB B c' t k u pv was err := by
 rcases h with h | ⟨h1, h2, h3, h4⟩
 ·exact .inl h
 ·exact .inr ⟨h1, h2, OwnX.keepT h3 (k1 _ (by decide)) (k1 _ (by decide)), h4⟩
theorem PutB.to {B : Nat} {c c' : World} {t : Tr} {k v : Str} {u : Tr} {pv : Value} {err : Int} (h : PutB B c t k v u pv err) (b : Below c.heap.size c c') : PutB B c' t k v u pv err := h.keep fun e _ => KeepT.below b
theorem DelB.to {B : Nat} {c c' : World} {t : Tr} {k : Str} {u : Tr} {pv : Value} {was : Bool} {err : Int} (h : DelB B c t k u pv was err) (b : Below c.heap.size c c') : DelB B c' t k u pv was err := h.keep fun e _ => KeepT.below b
theorem PutB.base {B C : Nat} {c : World} {t : Tr} {k v : Str} {u : Tr} {pv : Value} {err : Int} (h : PutB C c t k v u pv err) (hb : B ≤ C) : PutB B c t k v u pv err := by
 rcases h with h | ⟨h1, h2, h3, h4⟩
 ·exact .inl h
 ·exact .inr ⟨h1, h2, OwnPg.base h3 hb, h4⟩
theorem DelB.base {B C : Nat} {c : World} {t : Tr} {k : Str} {u : Tr} {pv : Value} {was : Bool} {err : Int} (h : DelB C c t k u pv was err) (hb : B ≤ C) : DelB B c t k u pv was err := by
 rcases h with h | ⟨h1, h2, h3, h4⟩
 ·exact .inl h
 ·exact .inr ⟨h1, h2, OwnPg.base h3 hb, h4⟩
theorem Chg.len {t u : Tr} {ps : List Pr} {q : List Pr} (h : Chg t u ps) (ht : tprs t = some q) : (u.pages.length + 1) * 32 ≤ 140737488355328 := by
 obtain ⟨more, e, h1, _⟩ := h.pgs
 have hT := (tprs_num ht).1
 have h2 := tups_len hT.2.2.1 hT.1
 have h3 := hT.2.1
 rw [e, List.length_append]
 omega
theorem Chg.small {t u : Tr} {ps : List Pr} (h : Chg t u ps) (hx : ∀ x ∈ t.pages, x.2.length ≤ 140737488351232) : ∀ x ∈ u.pages, x.2.length ≤ 140737488351232 := by
 obtain ⟨more, e, _, h2⟩ := h.pgs
 intro x hx'
 rw [e, List.mem_append] at hx'
 rcases hx' with hx' | hx'
 ·exact hx x hx'
 ·have := h2 x hx'; omega
end Go.Proofs.YtpiikmkajckccaaGreat

namespace Go.Proofs.YtpiikmkajckccaaGreat
open Go.RowKit
theorem ttop_prs {t : Tr} {d : Nat} {ps qs : List Pr} (h : TTop t d ps) (k : tprs t = some qs) : ps = qs := by
 obtain ⟨s, h1, h2⟩ := ttop_to h
 obtain ⟨_, _, s', h3, h4⟩ := tprs_num k
 rw [h1] at h3
 cases h3
 exact h2.symm.trans h4
theorem ttop_flat {t : Tr} {d : Nat} {ps : List Pr} (h : TTop t d ps) (hl : ps.length ≤ 1) : d = 0 := by
 rcases h with ⟨_, rfl, _⟩ | ⟨h0, hd, h1, h2, rfl⟩
 ·rfl
 ·have h3 := h1.many
  cases d with
  | zero => rfl
  | succ d =>
   have h4 : 1 ≤ 2 ^ d := Nat.one_le_two_pow
   rw [Nat.pow_succ] at h3
   omega
theorem chg_one {t u : Tr} {ps qs : List Pr} (hC : Chg t u qs) (ht : tprs t = some ps) (hne : ps ≠ qs) (hl : ps.length ≤ 1) (hq : qs ≠ []) (hs : nsize (lf qs) ≤ 244) : u.pages.length = t.pages.length + 1 := by
 have hp := hC.prs
 rcases hC.how with rfl | ⟨key, upd, ed, d, ps', hT, hE, rfl, rfl⟩
 ·rw [ht] at hp
  exact absurd (Option.some.inj hp) hne
 ·have e := ttop_prs hT ht
  subst e
  obtain rfl := ttop_flat hT hl
  obtain ⟨h1, h2, h3, h4, h5⟩ := top_no hT
  obtain ⟨q9, e1, p1, _⟩ := h1
  have e2 : q9 = ps' := by
   rw [e1] at h5
   exact (npr_lf q9).symm.trans h5
  subst e2
  have hed := (hE.leaf q9 p1 (by rw [← e1]; exact h2)).1
  have hk : (lf (upd q9)).keys.length ≠ 0 := by
   intro h
   have : (upd q9).length = 0 := by simpa [lf] using h
   exact hq (List.eq_nil_of_length_eq_zero this)
  have hc : (chgR t key ed 0).2.length = 1 := by
   have hr : rebOf t.pages t.next key ed 0 (topOf t) [] = (lf (upd q9), []) := by
    rw [e1]
    show (ed (lf q9), []) = _
    rw [hed]
   unfold chgR
   rw [hr]
   unfold rootOf
   have hb : bareB (lf (upd q9)) = false := rfl
   rw [hb]
   simp only [Bool.false_eq_true, if_false]
   unfold laidOf
   rw [if_neg hk, if_pos hs]
   rfl
  show (t.pages ++ pgs t.next (chgR t key ed 0).2).length = _
  rw [List.length_append, pgs_len, hc]
theorem one_live {u : Tr} {p : Pr} (h : tprs u = some [p]) {a : List Int} (hA : LvR u [] a) : a.length = 1 := by
 obtain ⟨d, h1, h2, h3⟩ := tprs_top h
 obtain rfl := ttop_flat h1 (by simp)
 have h0 : u.root ≠ 0 := by
  rcases h1 with ⟨_, _, h⟩ | ⟨h, _⟩
  ·cases h
  ·exact h
 have e : a = [u.root] := rise_eq hA.1 (by simp) fun x => by
  rw [hA.2 x]
  unfold Lv
  rw [seen_top h1 x]
  simp [h0, idsOf]
 rw [e]
 rfl
theorem put_ok {B : Nat} {c : World} {t u : Tr} {k v : Str} {pv : Value} {err : Int} (h : PutB B c t k v u pv err) (hp : perr t k v = 0) (hn : t.next ≤ 65495) : err = 0 ∧ OwnPg B c pv u.pages ∧ ∃ ps, tprs t = some ps ∧ Chg t u (pins k v ps) := by
 rcases h with ⟨h1, h2 | ⟨_, _, h2⟩⟩ | ⟨h1, _, h2, h3⟩
 ·rw [hp] at h2; exact absurd h2 h1
 ·omega
 ·exact ⟨h1, h2, h3⟩
theorem own_small {t : Tr} (h : t.pages = []) : ∀ x ∈ t.pages, x.2.length ≤ 140737488351232 := fun x hx => by rw [h] at hx; cases hx
set_option maxRecDepth 100000 in
theorem pnum11_any (w : World) (n : Int) : Calls Tryz.prog 13 #[.int .i64 n] w fun e w' => e = .returned (.int .i64 n) ∧ w = w' := by
 go_enter Tryz.func13, Tryz.ntmps13
 go_wp2
 go_ret
 exact ⟨rfl, rfl⟩
theorem rdI_nil (w : World) : RdI w (.slice none 0 0) [] := OwnJ.rd (World.ownsRow_nil w 0 3 1 : OwnJ 0 w (.slice none 0 0) [])
theorem ta0 : tprs ⟨0, 1, []⟩ = some [] := by decide
set_option maxRecDepth 100000 in
set_option maxHeartbeats 4000000 in
theorem palive11_any (w : World) : Calls Tryz.prog 15 #[] w fun e w' => e = .returned (.bool true) ∧ Below w.heap.size w w' := by
 have KN := hide (pnew10_any w)
 go_enter Tryz.func15, Tryz.ntmps15
 go_wp2_with fail
 refine KN.out.mono ?_
 rintro e w1 ⟨rfl, b1⟩
 have KP := hide (pput_any w1 ⟨0, 1, []⟩ (.slice none 0 0) [97] [49] (OwnX.rd (OwnX.nil _ 0 w1 : OwnPg 0 w1 (.slice none 0 0) [])) (own_small rfl) rfl (by decide))
 have B1 := hide b1
 dsimp only [tv] at KP ⊢
 clear KN b1
 go_wp2_with fail
 refine KP.out.mono ?_
 rintro e w2 h2
 obtain ⟨u, a2, n2, c2, err, rfl, h3, b2⟩ := PutA.to h2
 obtain ⟨rfl, o2, ps, hps, hC⟩ := put_ok h3 (perr_ok ta0 (by decide) (by decide) (by simp)) (by decide)
 rw [ta0] at hps
 cases hps
 have hpg := chg_one hC ta0 (by decide) (by decide) (by decide) (by decide)
 have hq1 : pins [97] [49] [] = [([97], [49])] := by decide
 rw [hq1] at hC
 obtain ⟨Y, hY, DY, bY, sY⟩ := boxedN w2 #[.int .i64 u.root, .int .i64 u.next, .slice a2 n2 c2] 28
 have KP2 := hide (pput_any Y u (.slice a2 n2 c2) [97] [50] (OwnX.rd (o2.to9 bY)) (hC.small (own_small rfl)) hC.rwf (by decide))
 have bw2 := B1.out.trans (b2.mono B1.out.size)
 have B2 := hide (bw2.trans (bY.mono bw2.size))
 have HC := hide hC
 have HPG := hide hpg
 obtain ⟨⟨E0, E1, E2⟩, EF⟩ := cells3p DY
 dsimp only [tv] at KP2
 rw [hY] at E0 E1 E2 EF KP2
 clear KP h2 h3 o2 DY bY sY bw2 b2 hC hpg hq1
 go_wp2_with fail
 refine KP2.out.mono ?_
 rintro e w3 h4
 rw [← hY] at h4
 obtain ⟨u2, a3, n3, c3, err, rfl, h5, b3⟩ := PutA.to h4
 obtain ⟨rfl, o3, ps, hps, hC2⟩ := put_ok h5 (perr_ok HC.out.prs (by decide) (by decide) (by simp)) (by have := HC.out.nxt.2; simp at this; omega)
 rw [HC.out.prs] at hps
 cases hps
 have hq2 : pins [97] [50] [([97], [49])] = [([97], [50])] := by decide
 rw [hq2] at hC2
 have hpg2 := chg_one hC2 HC.out.prs (by decide) (by decide) (by decide) (by decide)
 rw [HPG.out] at hpg2
 obtain ⟨Z, hZ, DZ, bZ, sZ⟩ := boxedN w3 #[.int .i64 u2.root, .int .i64 u2.next, .slice a3 n3 c3] 28
 have KS := hide (vsweep_any Z u2 (.slice a3 n3 c3) (.slice none 0 0) [] (OwnX.rd (o3.to9 bZ)) (hC2.small (HC.out.small (own_small rfl))) hC2.rwf (rdI_nil Z) (fun r hr => by cases hr) (by decide))
 have bw3 := B2.out.trans (b3.mono B2.out.size)
 have B3 := hide (bw3.trans (bZ.mono bw3.size))
 have HC2 := hide hC2
 have HPG2 := hide hpg2
 obtain ⟨⟨F0, F1, F2⟩, FF⟩ := cells3p DZ
 dsimp only [tv] at KS
 rw [hZ] at F0 F1 F2 FF KS
 replace hY := hide hY
 clear KP2 h4 h5 o3 DZ bZ sZ bw3 b3 hC2 hpg2 hq2 E0 E1 E2 EF
 go_wp2_with fail
 refine KS.out.mono ?_
 rintro e w4 h6
 rw [← hZ] at h6
 have hok : lvE u2 [] = 0 := lvE_of ⟨⟨_, HC2.out.prs⟩, fun r hr => by cases hr⟩ (by simp)
 rcases h6 with ⟨_, A, pv4, hA, rfl, o4, b4⟩ | ⟨h6, _⟩
 rotate_left
 ·exact absurd hok h6
 have hlA := one_live HC2.out.prs hA
 have hkl := keep_len hA (lvE_ok hok).1
 rw [hlA] at hkl
 obtain ⟨a4, c4, hp4⟩ := o4.shape
 rw [hkl] at hp4
 subst hp4
 have hn : (u2.pages.length : Int) - ((keepP A u2.pages).length : Int) = 1 := by rw [hkl, HPG2.out]; simp
 rw [hn]
 obtain ⟨V, hV, DV, bV, sV⟩ := boxedN w4 #[.int .i64 u2.root, .int .i64 u2.next, .slice a4 1 c4] 28
 have bw4 := B3.out.trans (b4.mono B3.out.size)
 have B4 := hide (bw4.trans (bV.mono bw4.size))
 obtain ⟨⟨G0, G1, G2⟩, GF⟩ := cells3p DV
 dsimp only [tv]
 rw [hV] at G0 G1 G2 GF B4
 clear KS o4 b4 DV bV sV bw4 hlA hkl hA hn F0 F1 F2 FF
 have KZ := hide (fun w => pnum11_any w 0)
 go_wp2_with fail
 refine (KZ.out _).mono ?_
 rintro e w5 ⟨rfl, rfl⟩
 go_wp2_with fail
 refine (KZ.out _).mono ?_
 rintro e w5 ⟨rfl, rfl⟩
 go_wp2_with fail
 refine (KZ.out _).mono ?_
 rintro e w5 ⟨rfl, rfl⟩
 go_wp2
 go_ret
 exact ⟨rfl, B4.out⟩
end Go.Proofs.YtpiikmkajckccaaGreat

namespace Go.Proofs.YtpiikmkajckccaaGreat
open Go.RowKit
theorem tscan_is11 {t : Tr} {ps : List Pr} (h : tprs t = some ps) : tscan t [] [] = (ps, 0) := by
 unfold tscan
 rw [h]
 dsimp only
 congr 1
 unfold pscan
 refine filter_all fun y _ => ?_
 unfold pin
 have : slt y.1 [] = false := by cases y.1 <;> rfl
 rw [this]
 rfl
theorem sw_prs {t : Tr} {rs a : List Int} {ps : List Pr} (hA : LvR t rs a) (h : tprs t = some ps) : tprs (swT t a) = some ps := (sweep_prs (r := t.root) hA h (lv_own rs)).1
theorem sw_big {t : Tr} {a : List Int} {n : Nat} (h : ∀ x ∈ t.pages, x.2.length ≤ n) : ∀ x ∈ (swT t a).pages, x.2.length ≤ n := fun x hx => h x (List.mem_filter.1 hx).1
theorem sw_ok {t : Tr} {ps : List Pr} (h : tprs t = some ps) : lvE t [] = 0 := lvE_of ⟨⟨_, h⟩, fun r hr => by cases hr⟩ (by simp)
theorem sw_live {t : Tr} {a b : List Int} {ps : List Pr} (h : tprs t = some ps) (hA : LvR t [] a) (hB : LvR (swT t a) [] b) : b = a := hB.eq (sweep_lv hA (lvE_ok (sw_ok h)).1).2
theorem sw_len {t : Tr} {a : List Int} {ps : List Pr} (h : tprs t = some ps) (hA : LvR t [] a) : (keepP a t.pages).length = a.length := keep_len hA (lvE_ok (sw_ok h)).1
theorem sw_nil {t : Tr} {a : List Int} (h : tprs t = some []) (hA : LvR t [] a) : a = [] := by
 obtain ⟨d, h1, h2, h3⟩ := tprs_top h
 have h0 : t.root = 0 := by
  rcases h1 with ⟨h, _⟩ | ⟨_, _, h4, _, h5⟩
  ·exact h
  ·have h6 := h4.many
   rw [← h5] at h6
   have : 1 ≤ 2 ^ d := Nat.one_le_two_pow
   simp only [List.length_nil] at h6
   omega
 cases a with
 | nil => rfl
 | cons x r =>
  have := (hA.2 x).1 (by simp)
  unfold Lv at this
  rw [seen_top h1 x] at this
  simp [h0] at this
end Go.Proofs.YtpiikmkajckccaaGreat

namespace Go.Proofs.YtpiikmkajckccaaGreat
open Go.RowKit
end Go.Proofs.YtpiikmkajckccaaGreat

namespace Go.Proofs.YtpiikmkajckccaaGreat
open Go.RowKit
theorem wpList_appQ {ops : Array Oper} {rest : List Oper} {o : Oper} {a : Act} {w : World} {Q : Exit → Act → World → Prop} (hgd : o.guard = none) (s x : Operand)
  (ho : o.op = .call { callee := .builtin .append, args := #[s, x], argTypes := #[50, 50] }) (B : Nat) (v : Value) (xs : List Pr) (y : Pr) (g : Nat) (hs : a.eval s = v) (hx : a.eval x = .slice (some ⟨g, 0, none⟩) 1 1)
  (hown : OwnP B w v xs) (hc1 : w.cell? ⟨g, 0, none⟩ = some (st y.1)) (hc2 : w.cell? ⟨g, 1, none⟩ = some (st y.2)) (hlen : (xs.length + 1) * 32 ≤ 140737488355328) (hB : B ≤ w.heap.size)
  (h : ∀ v' w', OwnP B w' v' (xs ++ [y]) → w.grownBy w' v.ownBlock → wpList Tryz.prog ops Q rest (a.put o.dst v') w') : wpList Tryz.prog ops Q (o :: rest) a w := by
 obtain ⟨i0, hi, hz0, hz1, hz2⟩ := info_parts infoP
 have n2 : ∀ j u, (pcl [y])[j]? = some u → w.cell? ((⟨g, 0, none⟩ : Addr).add j) = some u := by
  intro j u hj
  match j, hj with
  | 0, hj => simp [pcl] at hj; subst hj; simpa [Addr.add] using hc1
  | 1, hj => simp [pcl] at hj; subst hj; simpa [Addr.add] using hc2
  | j + 2, hj => simp [pcl] at hj
 refine wpList_append_own _ hgd s x 50 ho B 102 i0 (.agg #[.string ⟨#[]⟩, .string ⟨#[]⟩]) 2 32 Tryz.underlying50 hi hz0 hz1 hz2 rfl (by decide) v xs.length (pcl xs) hs hown ⟨g, 0, none⟩ 1 1 (pcl [y]) hx rfl n2 (one_pcl [y])
  (by rw [show maxLen = 9223372036854775807 from rfl]; omega) hlen hB ?_
 intro v' w' h1 h2 _
 refine h v' w' ?_ h2
 show World.ownsRow _ _ _ _ _ _ _
 rw [pcl_app]
 simpa using h1
structure KSc (C : Nat) (w w' : World) : Prop where
 typ : ∀ e, e ≠ 50 → e ≠ 102 → KeepT e w w'
 map : ∀ (b : Nat) es c, w.heap[b]? = some (.map es c) → w'.heap[b]? = some (.map es c)
 bel : Below C w w'
theorem KSc.of {C : Nat} {w w' : World} (h : Below w.heap.size w w') (hC : C ≤ w.heap.size) : KSc C w w' := ⟨fun e _ _ => KeepT.below h, fun b es c x => (h.block b (lt_of_block x)).trans x, h.mono hC⟩
theorem KSc.refl (C : Nat) (w : World) : KSc C w w := ⟨fun e _ _ => KeepT.refl _ _, fun b es c x => x, Below.refl _ _⟩
theorem KSc.trans {C : Nat} {a b c : World} (h : KSc C a b) (k : KSc C b c) : KSc C a c := ⟨fun e h1 h2 => (h.typ e h1 h2).trans (k.typ e h1 h2), fun i es q x => k.map i es q (h.map i es q x), h.bel.trans k.bel⟩
theorem KSc.app {C : Nat} {w w' : World} {v : Value} {xs : List Pr} {B : Nat} (ho : OwnP B w v xs) (hg : w.grownBy w' v.ownBlock) (hB : C ≤ B) (hC : C ≤ w.heap.size) : KSc C w w' := by
 refine ⟨fun e _ h2 => KeepT.grown ho hg h2, fun b es c x => ?_, (Below.refl _ _).grown hg hC (fun k hk => Nat.le_trans hB (World.ownsRow.lt ho k hk).1)⟩
 refine (hg.block b (lt_of_block x) fun h => ?_).trans x
 rcases ho.2 with ⟨hn, _⟩ | ⟨g, cap, cur, hv, _, hg', _⟩
 ·rw [hn] at h; cases h
 ·rw [hv] at h
  simp only [Value.ownBlock, Option.some.injEq] at h
  subst h
  rw [x] at hg'
  cases hg'
theorem KSc.set {C : Nat} {w : World} {g : Nat} {cs : Array Value} (h : w.heap[g]? = some (.cells cs 50 (0, 0))) (hC : C ≤ g) (i : Nat) (x : Value) : KSc C w (w.setCell ⟨g, i, none⟩ x) := by
 refine ⟨fun e h1 _ => KeepT.set (a := ⟨g, i, none⟩) h h1 x, fun b es c y => ?_, (Below.refl _ _).setCell hC _⟩
 refine (Below.heap_setCell _ _ _ _ fun h' => ?_).trans y
 dsimp only at h'
 rw [h', h] at y
 cases y
structure ScI (C : Nat) (w : World) (ga gp : Nat) (fr tw : Str) (out : List Pr) : Prop where
 ask : w.heap[ga]? = some (.cells #[st fr, st tw] 94 (0, 0))
 var : ∃ v, w.heap[gp]? = some (.cells #[v] 50 (0, 0)) ∧ OwnP C w v out
 hC : C ≤ gp
theorem ScI.to {C : Nat} {w w' : World} {ga gp : Nat} {fr tw : Str} {out : List Pr} (h : ScI C w ga gp fr tw out) (b : Below w.heap.size w w') : ScI C w' ga gp fr tw out := by
 obtain ⟨v, h1, h2⟩ := h.var
 exact ⟨(b.block _ (lt_of_block h.ask)).trans h.ask, ⟨v, (b.block _ (lt_of_block h1)).trans h1, rows_to h2 b⟩, h.hC⟩
theorem ScI.app {C : Nat} {w wA w5 : World} {ga gp : Nat} {fr tw : Str} {out : List Pr} {y : Pr} {v v5 : Value} (h : ScI C w ga gp fr tw out) (hv : w.heap[gp]? = some (.cells #[v] 50 (0, 0))) (ho : OwnP C w v out) (bA : Below w.heap.size w wA) (hC : C ≤ w.heap.size)
  (o5 : OwnP C w5 v5 (out ++ [y])) (g5 : wA.grownBy w5 v.ownBlock) : ScI C (w5.setCell ⟨gp, 0, none⟩ v5) ga gp fr tw (out ++ [y]) ∧ KSc C w (w5.setCell ⟨gp, 0, none⟩ v5) ∧ w5.cell? ⟨gp, 0, none⟩ = some v ∧ w5.frozen? ⟨gp, 0, none⟩ = false := by
 have k1 := KSc.of bA hC
 have k2 := KSc.app (C := C) (rows_to ho bA) g5 (Nat.le_refl _) (Nat.le_trans hC bA.size)
 have hA := (bA.block _ (lt_of_block hv)).trans hv
 have h5 := KeepT.grown (rows_to ho bA) g5 (e := 50) (by decide) _ _ _ hA
 have k3 := KSc.set (C := C) h5 h.hC 0 v5
 refine ⟨⟨(((k1.trans k2).trans k3).typ _ (by decide) (by decide)) _ _ _ h.ask, ⟨v5, ?_, rows_keepT o5 (KeepT.set (a := ⟨gp, 0, none⟩) h5 (by decide) v5)⟩, h.hC⟩, (k1.trans k2).trans k3, cellN h5 rfl, frozN h5 0⟩
 have := heap_setN h5 0 v5
 simpa using this
def hiOf (tw : Str) : Option Str := if tw = [] then none else some tw
theorem hiOf_ok (tw : Str) : HiOk (hiOf tw) ∧ (hiOf tw).getD [] = tw := by
 unfold hiOf HiOk
 by_cases h : tw = []
 ·subst h; simp
 ·simp [h]
theorem pin_kin (fr tw : Str) (y : Pr) : pin fr tw y = kin fr (hiOf tw) y.1 := by
 rw [kin_ok (hiOf_ok tw).1, (hiOf_ok tw).2]; rfl
theorem npr_at {nd : Nd} {k : Nat} {a b : Str} (h1 : nd.keys[k]? = some a) (h2 : nd.vals[k]? = some b) : (npr nd)[k]? = some (a, b) := by simp [npr, List.getElem?_zip_eq_some, h1, h2]
set_option maxRecDepth 100000 in
set_option maxHeartbeats 4000000 in
theorem pscl_any (C : Nat) (w : World) (ga gp : Nat) (fr tw : Str) (out : List Pr) (nd : Nd) (kv vv dv : Value) {B : Nat} (hS : ScI C w ga gp fr tw out) (hC : C ≤ w.heap.size) (hN : OwnN B w kv vv dv nd) (hlv : nd.vals.length = nd.keys.length) (hlen : out.length + (npr nd).length ≤ 4096) :
  Calls Tryz.prog 39 #[nv nd kv vv dv, .pointer (some ⟨ga, 0, none⟩), .pointer (some ⟨gp, 0, none⟩)] w fun e w' => e = .returned (.tuple #[]) ∧ ScI C w' ga gp fr tw (out ++ pscan (npr nd) fr tw) ∧ KSc C w w' := by
 have hnl : (npr nd).length = nd.keys.length := by rw [npr, List.length_zip, hlv, Nat.min_self]
 obtain ⟨X, hX, DX, bX, sX⟩ := boxedN w #[.bool nd.leaf, kv, vv, dv] 98
 have HS := hide (hS.to bX)
 have HK := hide (KSc.of bX hC)
 have HN := hide (hN.to bX)
 have HD := hide DX
 obtain ⟨ka, kc, va, vc, da, dc, rfl, rfl, rfl⟩ := hN.rd.slices
 obtain ⟨⟨E0, E1, E2, E3⟩, EF⟩ := cells4 DX
 rw [hX] at E0 E1 E2 E3 EF
 obtain ⟨K, hK⟩ : ∃ K, K = nd.keys.length := ⟨_, rfl⟩
 have hKb : K ≤ 4096 := by omega
 replace hlen := hide hlen
 replace hnl := hide hnl
 replace hlv := hide hlv
 have hCX : Hid (C ≤ w.heap.size) := hC
 clear hS hN DX bX hC
 dsimp only [nv]
 go_enter Tryz.func39, Tryz.ntmps39
 go_wp2
 rw [← hX]
 rw [← hK] at HD HN ⊢
 replace hX := hide hX
 replace hK := hide hK
 clear E0 E1 E2 E3 EF
 obtain ⟨nb, hnb⟩ : ∃ nb, nb = w.heap.size := ⟨_, rfl⟩
 rw [← hnb] at HD ⊢
 have hCX2 : Hid (C ≤ X.heap.size) := by show _ ≤ _; have := hCX.out; omega
 clear hnb sX
 go_loopw [9] (fun p wr => ∃ i : Nat, i ≤ K ∧ p = .int .i64 i ∧ Hid (ScI C wr ga gp fr tw (out ++ pscan ((npr nd).take i) fr tw) ∧ KSc C X wr)) (fun p _ => K - (intOf p).toNat)
 case atStart => exact ⟨0, Nat.zero_le _, rfl, hide ⟨by simpa [pscan] using HS.out, KSc.refl _ _⟩⟩
 case round =>
  obtain ⟨i, hi, rfl, hI⟩ := hrel
  have D6 := hI.out.2.typ _ (by decide) (by decide) _ _ _ HD.out
  have N6 := HN.out.keepT (hI.out.2.typ _ (by decide) (by decide)) (hI.out.2.typ _ (by decide) (by decide))
  obtain ⟨⟨E0, E1, E2, E3⟩, EF⟩ := cells4 D6
  obtain ⟨⟨A0, A1⟩, AF⟩ := cells2r hI.out.1.ask
  by_cases hlt : i < K
  ·have hq : (i : Int) < (K : Int) := by omega
   obtain ⟨y1, hy1⟩ := some_el nd.keys (k := i) (by rw [← hK.out]; exact hlt)
   obtain ⟨y2, hy2⟩ := some_el nd.vals (k := i) (by rw [hlv.out, ← hK.out]; exact hlt)
   have hpa := hide (npr_at hy1 hy2)
   have hsn := hide (pscan_snoc (npr nd) fr tw hpa.out)
   obtain ⟨b, off, e1, hc1⟩ := N6.rd.keys.strAt hy1
   subst e1
   have KL := hide (placks_any wr fr (hiOf tw) y1 (hiOf_ok tw).1)
   dsimp only [sv] at KL
   rw [(hiOf_ok tw).2, ← pin_kin fr tw (y1, y2)] at KL
   have HD6 := hide D6
   have HN6 := hide N6
   clear D6 N6
   go_wp2_with fail
   refine KL.out.mono ?_
   rintro e w1 ⟨rfl, b1⟩
   have I1 := hide (And.intro (hI.out.1.to b1) (hI.out.2.trans (KSc.of b1 (Nat.le_trans hCX2.out hI.out.2.bel.size))))
   have D7 := (b1.block _ (lt_of_block HD6.out)).trans HD6.out
   have N7 := HN6.out.to b1
   have hC1 : Hid (C ≤ w1.heap.size) := Nat.le_trans (Nat.le_trans hCX2.out hI.out.2.bel.size) b1.size
   clear E0 E1 E2 E3 EF A0 A1 AF hc1 KL hI HD6 HN6 b1
   obtain ⟨⟨E0, E1, E2, E3⟩, EF⟩ := cells4 D7
   cases hp : pin fr tw (y1, y2) with
   | false =>
    rw [hp, if_neg (by simp)] at hsn
    replace hp := hide hp
    go_wp2
    go_roundw
    case rel => exact ⟨i + 1, by omega, by go_num, by rw [hsn.out]; exact I1⟩
    case measure => simp [intOf]; omega
   | true =>
    rw [hp, if_pos rfl, ] at hsn
    obtain ⟨b2, off2, e2, hc2⟩ := N7.rd.vals.strAt hy2
    subst e2
    have hq2 : (i : Int) < (nd.vals.length : Int) := by have := hlv.out; have := hK.out; omega
    obtain ⟨v, v1, v2⟩ := I1.out.1.var
    obtain ⟨cur, hcur⟩ : ∃ c, c = out ++ pscan ((npr nd).take i) fr tw := ⟨_, rfl⟩
    rw [← hcur] at v2
    have hn : (cur.length + 1) * 32 ≤ 140737488355328 := by
     have h1 := List.length_filter_le (pin fr tw) ((npr nd).take i)
     have h2 := List.length_take_le' i (npr nd)
     have h3 := hlen.out
     have h4 : cur.length = out.length + (pscan ((npr nd).take i) fr tw).length := by rw [hcur, List.length_append]
     have h5 : (pscan ((npr nd).take i) fr tw).length ≤ (npr nd).length := Nat.le_trans h1 h2
     omega
    obtain ⟨pa, pc, rfl⟩ := (OwnP.rd v2).slice
    obtain ⟨WA, hWA⟩ : ∃ WA, WA = (w1.alloc (.cells #[st y1, st y2] 102)).drew := ⟨_, rfl⟩
    obtain ⟨wa, hwa, DA, bA0, sA⟩ := boxedN w1 #[st y1, st y2] 102
    have bA : Below w1.heap.size w1 WA := by rw [hWA, ← hwa]; exact bA0.trans (below_drewN' wa 1 _)
    have nc0 : WA.cell? ⟨w1.heap.size, 0, none⟩ = some (st y1) := by rw [hWA, ← hwa]; exact ((below_drewN' wa 1 wa.heap.size).cell (p := ⟨w1.heap.size, _, none⟩) (lt_of_block DA)).trans (cellN DA rfl)
    have nc1 : WA.cell? ⟨w1.heap.size, 1, none⟩ = some (st y2) := by rw [hWA, ← hwa]; exact ((below_drewN' wa 1 wa.heap.size).cell (p := ⟨w1.heap.size, _, none⟩) (lt_of_block DA)).trans (cellN DA rfl)
    have hsz : C ≤ WA.heap.size := Nat.le_trans hC1.out bA.size
    obtain ⟨Lc, hLc⟩ : ∃ L, L = cur.length := ⟨_, rfl⟩
    have hOW : OwnP C WA (.slice pa Lc pc) cur := by rw [hLc]; exact rows_to v2 bA
    have FIN : ∀ v5 w5, OwnP C w5 v5 (cur ++ [(y1, y2)]) → WA.grownBy w5 (Value.slice pa Lc pc).ownBlock →
      Hid (ScI C (w5.setCell ⟨gp, 0, none⟩ v5) ga gp fr tw (out ++ pscan ((npr nd).take (i + 1)) fr tw) ∧ KSc C X (w5.setCell ⟨gp, 0, none⟩ v5)) ∧ w5.cell? ⟨gp, 0, none⟩ = some (.slice pa Lc pc) ∧ w5.frozen? ⟨gp, 0, none⟩ = false := fun v5 w5 o5 g5 => by
     have hs1 := I1.out.1
     rw [← hcur] at hs1
     rw [hLc] at g5
     obtain ⟨a1, a2, a3, a4⟩ := hs1.app v1 v2 bA hC1.out o5 g5
     rw [hsn.out, ← List.append_assoc, ← hcur, hLc]
     exact ⟨⟨a1, I1.out.2.trans a2⟩, a3, a4⟩
    have V1 := cellN v1 (i := 0) rfl
    rw [← hLc] at V1
    rw [hWA] at nc0 nc1 hOW hsz FIN
    replace nc0 := hide nc0
    replace nc1 := hide nc1
    replace hOW := hide hOW
    replace hsz := hide hsz
    replace FIN := hide FIN
    replace hn := hide hn
    replace hp := hide hp
    replace hcur := hide hcur
    replace hLc := hide hLc
    clear hWA hwa DA bA0 sA bA v1 v2
    go_wp2
    refine wp_region_mid (fun w' => w'.cell? ⟨gp, 0, none⟩ = some (.slice pa Lc pc) ∧ w'.cell? ⟨nb, 2, none⟩ = some (.slice (some ⟨b2, off2, none⟩) nd.vals.length vc) ∧ w'.cell? ⟨b2, off2 + i, none⟩ = some (st y2)) 7 9 mixed (by kernel_rfl) (fun _ _ _ _ h => h) ⟨V1, E2, hc2⟩ ?_
    dsimp only [List.take, List.drop]
    iterate 7
     refine take_one (v := ?_) (by rfl) ?_ ?_
     rotate_left
     ·rintro w' ⟨s1, s2, s3⟩
      go_simp
      try with_reducible rfl
     try simp only [Act.put, List.setIfInBounds_toArray, List.set_cons_zero, List.set_cons_succ]
    refine mid_one fun K hK => ?_
    rw [if_pos (by rfl)]
    go_simp
    refine hK _ _ ⟨V1, E2, hc2⟩ ?_
    clear hK K
    refine mid_one fun K hK => ?_
    rw [if_pos (by rfl)]
    go_simp
    refine hK _ _ ⟨cellAl V1 _, cellAl E2 _, cellAl hc2 _⟩ ?_
    clear hK K
    show wpList _ _ _ _ _ _
    refine wpList_appQ rfl _ _ rfl C (.slice pa Lc pc) cur (y1, y2) w1.heap.size rfl rfl hOW.out nc0.out nc1.out hn.out hsz.out ?_
    intro v5 w5 o5 g5
    obtain ⟨a5, c5, h5⟩ := (OwnP.rd o5).slice
    subst h5
    obtain ⟨F1, F2, F3⟩ := FIN.out _ w5 o5 g5
    generalize (cur ++ [(y1, y2)]).length = m5 at *
    clear o5 g5 FIN
    go_wp2
    go_roundw
    case rel => exact ⟨i + 1, by omega, by go_num, F1⟩
    case measure => simp [intOf]; omega
  ·have hq : ¬ (i : Int) < (K : Int) := by omega
   have htk : (npr nd).take i = npr nd := List.take_of_length_le (by rw [hnl.out, ← hK.out]; omega)
   rw [htk] at hI
   clear D6 N6
   go_wp2
   (try simp only [Exit.inBlock, Exit.then])
   first
    | refine bodyPost_ret (results_none rfl _ _ _) rfl ?_
    | refine bodyPost_end (results_none rfl _ _ _) rfl ?_
   exact ⟨rfl, hI.out.1, HK.out.trans hI.out.2⟩
end Go.Proofs.YtpiikmkajckccaaGreat

namespace Go.Proofs.YtpiikmkajckccaaGreat
open Go.RowKit
def ndPrs (l : List Wrt) (k : Nat) (nd : Nd) : List Pr := if nd.leaf = true then npr nd else nd.kids.flatMap (prsOf l k)
def SN (l : List Wrt) (S : List Int) (k : Nat) (nd : Nd) : Prop := NOk nd ∧ (nd.leaf = false → ∃ lo hi, ∀ (i : Nat) kid, nd.kids[i]? = some kid → WOk l S k kid (kidLo nd lo i) (kidHi nd hi i))
theorem SN.top {t : Tr} {s : Sw} (ht : twalk t = some s) {nd : Nd} (h : TopIs t nd) : SN t.pages s.seen 15 nd ∧ ndPrs t.pages 15 nd = s.prs := by
 rcases h with ⟨h0, rfl⟩ | ⟨h0, x, h1, h2⟩
 ·refine ⟨⟨nd0_ok, fun h => by cases h⟩, ?_⟩
  unfold twalk at ht
  rw [if_pos h0] at ht
  simp only [Option.some.injEq] at ht
  subst ht
  rfl
 ·obtain ⟨⟨a1, x', nd', b1, b2, b3, b4, b5⟩, c⟩ := root_seen ht h0
  rw [h1] at b1
  simp only [Option.some.injEq] at b1
  subst b1
  rw [h2] at b2
  simp only [Prod.mk.injEq, and_true] at b2
  subst b2
  refine ⟨⟨ndec_ok h2, fun hl => ⟨[], none, b5 hl⟩⟩, ?_⟩
  unfold ndPrs
  cases hl : nd.leaf with
  | true => rw [c, prsOf_leaf h1 h2 hl]; simp
  | false => rw [c, prsOf_inner h1 h2 hl]; simp
theorem SN.kid {l : List Wrt} {S : List Int} {k : Nat} {nd : Nd} (h : SN l S k nd) (hl : nd.leaf = false) {i : Nat} {kid : Int} (hk : nd.kids[i]? = some kid) :
  kid ∈ S ∧ ∃ k' x nd', k = k' + 1 ∧ tpage l kid = some x ∧ ndec x = (nd', 0) ∧ SN l S k' nd' ∧ ndPrs l k' nd' = prsOf l k kid := by
 obtain ⟨lo, hi, h1⟩ := h.2 hl
 have hw := h1 i kid hk
 cases k with
 | zero => exact hw.elim
 | succ k' =>
  obtain ⟨b0, x, nd', b1, b2, b3, b4, b5⟩ := hw
  refine ⟨b0, k', x, nd', rfl, b1, b2, ⟨ndec_ok b2, fun hl' => ⟨_, _, b5 hl'⟩⟩, ?_⟩
  unfold ndPrs
  cases hl' : nd'.leaf with
  | true => rw [prsOf_leaf b1 b2 hl']; simp
  | false => rw [prsOf_inner b1 b2 hl']; simp
theorem PWk.sc {w0 w w' : World} {B g bm C : Nat} {t : Tr} {pv : Value} {s : Sw} {m : Int → Option Value} (h : PWk w0 w B g bm t pv s m) (k : KSc C w w') (hC : w0.heap.size ≤ C) : PWk w0 w' B g bm t pv s m := by
 have hm : w'.heap[bm]? = w.heap[bm]? := by
  obtain ⟨D, ⟨es, c, hb, _⟩, _⟩ := h.map
  rw [hb]; exact k.map _ _ _ hb
 refine ⟨k.typ _ (by decide) (by decide) _ _ _ h.box, h.map.kept hm, h.has, fun i v hv => ?_, h.pg, h.ok, h.dep, h.bel.trans (k.bel.mono hC), h.hg, h.hm, h.apt⟩
 obtain ⟨x, nd, kv, vv, dv, h1, h2, h3, h4, h5⟩ := h.nds i v hv
 exact ⟨x, nd, kv, vv, dv, h1, h2, h3, h4.keepT (k.typ _ (by decide) (by decide)) (k.typ _ (by decide) (by decide)), h5⟩
theorem pscan_app (a b : List Pr) (x y : Str) : pscan (a ++ b) x y = pscan a x y ++ pscan b x y := by unfold pscan; rw [List.filter_append]
theorem pscan_le (a : List Pr) (x y : Str) : (pscan a x y).length ≤ a.length := List.length_filter_le _ _
abbrev clo (ga gp : Nat) : Value := .func (.func 39) #[] #[.pointer (some ⟨ga, 0, none⟩), .pointer (some ⟨gp, 0, none⟩)]
set_option maxRecDepth 100000 in
set_option maxHeartbeats 4000000 in
theorem peach_any (w0 : World) (B g bm C ga gp : Nat) (t : Tr) (pv : Value) (s : Sw) (m : Int → Option Value) (fr tw : Str) (hw0 : w0.heap.size ≤ C) : ∀ (k : Nat) (w : World) (nd : Nd) (kv vv dv : Value) (out : List Pr),
  PWk w0 w B g bm t pv s m → ScI C w ga gp fr tw out → C ≤ w.heap.size → OwnN B w kv vv dv nd → SN t.pages s.seen k nd → out.length + (ndPrs t.pages k nd).length ≤ 4096 →
  Calls Tryz.prog 37 #[.pointer (some ⟨g, 0, none⟩), nv nd kv vv dv, clo ga gp] w fun e w' => e = .returned (.tuple #[]) ∧ ScI C w' ga gp fr tw (out ++ pscan (ndPrs t.pages k nd) fr tw) ∧ KSc C w w' := by
 intro k
 induction k with
 | zero =>
  intro w nd kv vv dv out H hS hC hN hs hlen
  obtain ⟨X, hX, DX, bX, sX⟩ := boxedN w #[.bool nd.leaf, kv, vv, dv] 98
  have HX := hide (H.to bX)
  have SX := hide (hS.to bX)
  have HK := hide (KSc.of bX hC)
  have HN := hide (hN.to bX)
  have HD := hide DX
  have hCX : Hid (C ≤ X.heap.size) := Nat.le_trans hC bX.size
  obtain ⟨ka, kc, va, vc, da, dc, rfl, rfl, rfl⟩ := hN.rd.slices
  obtain ⟨⟨E0, E1, E2, E3⟩, EF⟩ := cells4 DX
  replace hs := hide hs
  clear H hS hN DX bX hC
  dsimp only [nv, clo]
  cases hl : nd.leaf with
  | true =>
   have hlv : nd.vals.length = nd.keys.length := by
    have h1 := hs.out.1.2.1
    unfold ncount at h1
    rw [if_pos hl] at h1
    exact h1.1
   have hnp : Hid (ndPrs t.pages 0 nd = npr nd) := by show _ = _; unfold ndPrs; rw [if_pos hl]
   have KC := hide (pscl_any C X ga gp fr tw out nd _ _ _ SX.out hCX.out HN.out hlv (by rw [← hnp.out]; exact hlen))
   rw [hl] at E0 hX
   dsimp only [nv] at KC
   rw [hl] at KC
   replace hlen := hide hlen
   replace hl := hide hl
   rw [hX] at E0 E1 E2 E3 EF KC
   clear hlv
   go_enter Tryz.func37, Tryz.ntmps37
   go_wp2_with fail
   refine KC.out.mono ?_
   rintro e w1 ⟨rfl, q1, q2⟩
   rw [← hX] at q2
   have Q := hide (And.intro q1 (HK.out.trans q2))
   clear q1 q2 KC E0 E1 E2 E3 EF
   go_wp2
   (try simp only [Exit.inBlock, Exit.then])
   first
    | refine bodyPost_ret (results_none rfl _ _ _) rfl ?_
    | refine bodyPost_end (results_none rfl _ _ _) rfl ?_
   rw [hnp.out]
   exact ⟨rfl, Q.out.1, Q.out.2⟩
  | false =>
   exfalso
   have h1 := kids_len hs.out.1 hl
   obtain ⟨lo, hi, h2⟩ := hs.out.2 hl
   exact h2 0 _ (List.getElem?_eq_getElem (by omega))
 | succ k ih =>
  intro w nd kv vv dv out H hS hC hN hs hlen
  obtain ⟨X, hX, DX, bX, sX⟩ := boxedN w #[.bool nd.leaf, kv, vv, dv] 98
  have HX := hide (H.to bX)
  have SX := hide (hS.to bX)
  have HK := hide (KSc.of bX hC)
  have HN := hide (hN.to bX)
  have HD := hide DX
  have hCX : Hid (C ≤ X.heap.size) := Nat.le_trans hC bX.size
  obtain ⟨ka, kc, va, vc, da, dc, rfl, rfl, rfl⟩ := hN.rd.slices
  obtain ⟨⟨E0, E1, E2, E3⟩, EF⟩ := cells4 DX
  replace hs := hide hs
  replace ih := hide ih
  clear H hS hN DX bX hC
  dsimp only [nv, clo]
  cases hl : nd.leaf with
  | true =>
   have hlv : nd.vals.length = nd.keys.length := by
    have h1 := hs.out.1.2.1
    unfold ncount at h1
    rw [if_pos hl] at h1
    exact h1.1
   have hnp : Hid (ndPrs t.pages (k + 1) nd = npr nd) := by show _ = _; unfold ndPrs; rw [if_pos hl]
   have KC := hide (pscl_any C X ga gp fr tw out nd _ _ _ SX.out hCX.out HN.out hlv (by rw [← hnp.out]; exact hlen))
   rw [hl] at E0 hX
   dsimp only [nv] at KC
   rw [hl] at KC
   replace hlen := hide hlen
   replace hl := hide hl
   rw [hX] at E0 E1 E2 E3 EF KC
   clear hlv
   go_enter Tryz.func37, Tryz.ntmps37
   go_wp2_with fail
   refine KC.out.mono ?_
   rintro e w1 ⟨rfl, q1, q2⟩
   rw [← hX] at q2
   have Q := hide (And.intro q1 (HK.out.trans q2))
   clear q1 q2 KC E0 E1 E2 E3 EF
   go_wp2
   (try simp only [Exit.inBlock, Exit.then])
   first
    | refine bodyPost_ret (results_none rfl _ _ _) rfl ?_
    | refine bodyPost_end (results_none rfl _ _ _) rfl ?_
   rw [hnp.out]
   exact ⟨rfl, Q.out.1, Q.out.2⟩
  | false =>
   have hnp : Hid (ndPrs t.pages (k + 1) nd = nd.kids.flatMap (prsOf t.pages (k + 1))) := by show _ = _; unfold ndPrs; rw [hl]; rfl
   rw [hnp.out] at hlen
   have hD3 : nd.kids.length ≤ 301 := by have h1 := kids_len hs.out.1 hl; have := (npr_len hs.out.1).2; omega
   have HL := hide hl
   rw [hl] at E0 hX HD
   obtain ⟨D, hD⟩ : ∃ D, D = nd.kids.length := ⟨_, rfl⟩
   replace hlen := hide hlen
   rw [← hD] at E3 hX hD3 HN HD ⊢
   rw [hX] at E0 E1 E2 E3 EF
   replace hD := hide hD
   replace hl := hide hl
   go_enter Tryz.func37, Tryz.ntmps37
   go_wp2
   rw [← hX]
   replace hX := hide hX
   clear E0 E1 E2 E3 EF
   go_loopw [16] (fun p wr => ∃ i : Nat, i ≤ D ∧ p = .int .i64 i ∧ Hid (ScI C wr ga gp fr tw (out ++ pscan ((nd.kids.take i).flatMap (prsOf t.pages (k + 1))) fr tw) ∧ KSc C X wr)) (fun p _ => D - (intOf p).toNat)
   case atStart => exact ⟨0, Nat.zero_le _, rfl, hide ⟨by simpa [pscan] using SX.out, KSc.refl _ _⟩⟩
   case round =>
    obtain ⟨i, hi, rfl, hI⟩ := hrel
    have PW := HX.out.sc hI.out.2 hw0
    have N6 := HN.out.keepT (hI.out.2.typ _ (by decide) (by decide)) (hI.out.2.typ _ (by decide) (by decide))
    obtain ⟨⟨C0, C1, C2, C3⟩, ⟨C4, C5⟩, CF⟩ := PW.cell
    by_cases hlt : i < D
    ·have hq : (i : Int) < (D : Int) := by omega
     obtain ⟨kid, hkid⟩ := some_el nd.kids (k := i) (by rw [← hD.out]; exact hlt)
     obtain ⟨b3, off3, e3, hc3⟩ := N6.rd.kids.intAt hkid
     subst e3
     obtain ⟨s4, k', x, nd', hk', n1, n2, s5, s6⟩ := hs.out.kid HL.out hkid
     have hk'' : k = k' := by omega
     subst hk''
     obtain ⟨v, hv, x', nd'', kv', vv', dv', z1, z2, rfl, z4, _⟩ := PW.node s4
     rw [n1] at z1
     simp only [Option.some.injEq] at z1
     subst z1
     rw [n2] at z2
     simp only [Prod.mk.injEq, and_true] at z2
     subst z2
     have hkw : (Lit.int .i64 kid).wf = true := by
      have := hs.out.1.2.2.2.1 i (by rw [← hD.out]; exact hlt)
      rw [hkid] at this
      simp only [Option.getD_some] at this
      exact WalkArith.wf_i64 (by omega)
     have hlk1 := PW.map.look Tryz.underlying107 (zeroNd wr) hkw false
     rw [hv] at hlk1
     simp only [Option.getD_some, Bool.false_eq_true, if_false] at hlk1
     have htk : Hid ((nd.kids.take (i + 1)).flatMap (prsOf t.pages (k + 1)) = (nd.kids.take i).flatMap (prsOf t.pages (k + 1)) ++ prsOf t.pages (k + 1) kid) := by
      show _ = _
      rw [List.take_add_one, hkid, List.flatMap_append]
      simp
     have hle : (out ++ pscan ((nd.kids.take i).flatMap (prsOf t.pages (k + 1))) fr tw).length + (ndPrs t.pages k nd').length ≤ 4096 := by
      have h1 := pscan_le ((nd.kids.take i).flatMap (prsOf t.pages (k + 1))) fr tw
      have h2 := hlen.out
      have h3 : ((nd.kids.take i).flatMap (prsOf t.pages (k + 1))).length + (prsOf t.pages (k + 1) kid).length ≤ (nd.kids.flatMap (prsOf t.pages (k + 1))).length := by
       rw [← List.length_append, ← htk.out]
       conv => rhs; rw [← List.take_append_drop (i + 1) nd.kids, List.flatMap_append, List.length_append]
       omega
      rw [List.length_append, s6]
      omega
     have KR := hide (ih.out wr nd' kv' vv' dv' _ PW hI.out.1 (Nat.le_trans hCX.out hI.out.2.bel.size) z4 s5 hle)
     obtain ⟨ka', kc', va', vc', da', dc', rfl, rfl, rfl⟩ := z4.rd.slices
     dsimp only [nv, clo] at hlk1 KR
     have HI := hide hI.out.2
     have s6' := hide s6
     clear s4 n1 n2 s5 s6 hv z4 hkw hI PW N6 hle hk' C0 C1 C2 C4 C5 CF hkid
     go_wp2_with fail
     refine KR.out.mono ?_
     rintro e w7 ⟨rfl, q1, q2⟩
     rw [List.append_assoc, ← pscan_app, s6'.out, ← htk.out] at q1
     have Q := hide (And.intro q1 (HI.out.trans q2))
     clear q1 q2 KR hlk1
     go_wp2
     go_roundw
     case rel => exact ⟨i + 1, by omega, by go_num, Q⟩
     case measure => simp [intOf]; omega
    ·have hq : ¬ (i : Int) < (D : Int) := by omega
     have htk : nd.kids.take i = nd.kids := List.take_of_length_le (by rw [← hD.out]; omega)
     rw [htk] at hI
     clear PW N6
     go_wp2
     (try simp only [Exit.inBlock, Exit.then])
     first
      | refine bodyPost_ret (results_none rfl _ _ _) rfl ?_
      | refine bodyPost_end (results_none rfl _ _ _) rfl ?_
     rw [hnp.out]
     exact ⟨rfl, hI.out.1, HK.out.trans hI.out.2⟩
set_option maxRecDepth 100000 in
set_option maxHeartbeats 4000000 in
theorem pscan10_any (w : World) (t : Tr) (pv : Value) (fr tw : Str) (h : RdC w pv t.pages) (hroot : (Lit.int .i64 t.root).wf = true) : Calls Tryz.prog 17 #[tv t pv, st fr, st tw] w fun e w' =>
  ∃ v, e = .returned (.tuple #[v, .int .i64 (tscan t fr tw).2]) ∧ OwnP w.heap.size w' v (tscan t fr tw).1 ∧ Below w.heap.size w w' := by
 obtain ⟨W, hW, D, bW, sW⟩ := boxedN w #[.int .i64 t.root, .int .i64 t.next, pv] 28
 have KN := hide (pwalkof_any W t pv (h.to0 bW) hroot)
 obtain ⟨a, c, rfl⟩ := h.slice
 obtain ⟨⟨D0, D1, D2⟩, _⟩ := cells3p D
 have HB := hide bW
 rw [hW] at D0 D1 D2 KN
 dsimp only [tv] at KN ⊢
 clear h bW D sW
 obtain ⟨R, hR⟩ : ∃ R, R = tscan t fr tw := ⟨_, rfl⟩
 rw [← hR]
 replace hR := hide hR
 go_enter Tryz.func17, Tryz.ntmps17
 go_wp2_with fail
 refine KN.out.mono ?_
 rintro e w1 hp
 rw [← hW] at hp
 rcases hp with ⟨g, bm, B, s, m, rfl, p1, p2, p3, p4, p5⟩ | ⟨rfl, p1, p2⟩
 ·have hr : Hid (R = (pscan s.prs fr tw, 0)) := by show _ = _; rw [hR.out]; unfold tscan; rw [tprs_of p1 p2 p3]
  obtain ⟨X, hX, DX, bX, sX⟩ := boxedN w1 #[.slice none 0 0] 50
  obtain ⟨Y, hY, DY, bY, sY⟩ := boxedN X #[st fr, st tw] 94
  have bXY := bX.trans (bY.mono bX.size)
  have PY := hide (p4.to bXY)
  have B1 := hide (HB.out.trans (p4.bel.mono HB.out.size))
  have BY := hide (And.intro bXY B1.out)
  have hSc : Hid (ScI w1.heap.size Y (w1.heap.size + 1) w1.heap.size fr tw []) := ⟨by rw [← sX]; exact DY, ⟨_, (bY.block _ (lt_of_block DX)).trans DX, World.ownsRow_nil _ _ _ _⟩, Nat.le_refl _⟩
  have KT := hide (ptop_any W Y B g bm t _ s m PY.out hroot p2)
  have hWw : Hid (W.heap.size ≤ w1.heap.size) := p4.bel.size
  rw [hY, hX] at KT
  have hp2 := hide p2
  have hp3 := hide p3
  clear p1 p2 p3 p4 p5 KN hW D0 D1 D2 DX DY bX bY
  go_wp2_with fail
  refine KT.out.mono ?_
  rintro e w2 ⟨nd, kv, vv, dv, rfl, hT, ho, b2, _⟩
  rw [← hX, ← hY] at b2
  obtain ⟨q1, q2⟩ := SN.top hp2.out hT
  have KE := hide (peach_any W B g bm w1.heap.size (w1.heap.size + 1) w1.heap.size t _ s m fr tw hWw.out 15 w2 nd kv vv dv [] (PY.out.to b2) (hSc.out.to b2) (Nat.le_trans bXY.size b2.size) ho q1 (by rw [q2]; simpa using hp3.out))
  rw [q2] at KE
  have B2 := hide (And.intro (bXY.trans (b2.mono bXY.size)) B1.out)
  dsimp only [clo] at KE
  clear KT q1 q2 ho b2 hT bXY hX hY
  go_wp2_with fail
  refine KE.out.mono ?_
  rintro e w3 ⟨rfl, r1, r2⟩
  obtain ⟨v, v1, v2⟩ := r1.var
  rw [List.nil_append] at v2
  obtain ⟨pa, pc, rfl⟩ := (OwnP.rd v2).slice
  have V1 := cellN v1 (i := 0) rfl
  have O3 := hide v2
  have B3 := hide (B1.out.trans ((B2.out.1.trans r2.bel).mono B1.out.size))
  clear r1 r2 v1 v2 KE
  go_wp2
  go_ret2
  rw [hr.out]
  exact ⟨_, rfl, rows_mono O3.out B1.out.size, B3.out⟩
 ·have hr : Hid (R = ([], 9)) := by show _ = _; rw [hR.out]; unfold tscan; rw [p1]
  have B1 := hide (HB.out.trans (p2.mono HB.out.size))
  clear p1 p2 KN HB hW D0 D1 D2
  go_wp2
  go_ret2
  rw [hr.out]
  exact ⟨_, rfl, World.ownsRow_nil _ _ _ _, B1.out⟩
end Go.Proofs.YtpiikmkajckccaaGreat

namespace Go.Proofs.YtpiikmkajckccaaGreat
open Go.RowKit
set_option maxRecDepth 100000 in
theorem pnum10_any (w : World) (n : Int) : Calls Tryz.prog 31 #[.int .i64 n] w fun e w' => e = .returned (.int .i64 n) ∧ w = w' := by
 go_enter Tryz.func31, Tryz.ntmps31
 go_wp2
 go_ret
 exact ⟨rfl, rfl⟩
end Go.Proofs.YtpiikmkajckccaaGreat

namespace Go.Proofs.YtpiikmkajckccaaGreat
open Go.RowKit
def un (b : Bool) : Nat := cond b 0 1
def pput (k v : Str) (s : List Pr × Bool) (y : Pr) : List Pr × Bool := if s.2 = false ∧ slt y.1 k = false then (s.1 ++ [(k, v)], true) else s
def pstep (k v : Str) (s : List Pr × Bool) (y : Pr) : List Pr × Bool := if (y.1 == k) = true then pput k v s y else ((pput k v s y).1 ++ [y], (pput k v s y).2)
def pall (k v : Str) (l : List Pr) : List Pr × Bool := l.foldl (pstep k v) ([], false)
def pwith (l : List Pr) (k v : Str) : List Pr := if (pall k v l).2 = true then (pall k v l).1 else (pall k v l).1 ++ [(k, v)]
theorem pall_snoc (k v : Str) (l : List Pr) {i : Nat} {y : Pr} (h : l[i]? = some y) : pall k v (l.take (i + 1)) = pstep k v (pall k v (l.take i)) y := by
 unfold pall
 rw [List.take_add_one, h, List.foldl_append]
 rfl
theorem pput_len (k v : Str) (s : List Pr × Bool) (y : Pr) : (pput k v s y).1.length + un (pput k v s y).2 ≤ s.1.length + un s.2 := by
 unfold pput
 split
 ·rename_i h; rw [h.1]; simp [un]
 ·omega
theorem pall_len (k v : Str) (l : List Pr) : (pall k v l).1.length + un (pall k v l).2 ≤ l.length + 1 := by
 have : ∀ (l : List Pr) (s : List Pr × Bool), (l.foldl (pstep k v) s).1.length + un (l.foldl (pstep k v) s).2 ≤ l.length + (s.1.length + un s.2) := by
  intro l
  induction l with
  | nil => intro s; simp
  | cons y r ih =>
   intro s
   have a := ih (pstep k v s y)
   have b := pput_len k v s y
   have c : (pstep k v s y).1.length + un (pstep k v s y).2 ≤ s.1.length + un s.2 + 1 := by
    unfold pstep
    split
    ·omega
    ·simp only [List.length_append, List.length_singleton]; omega
   simp only [List.foldl_cons, List.length_cons]
   omega
 have h := this l ([], false)
 simpa [pall, un] using h
theorem pall_laid (k v : Str) : ∀ (l : List Pr) (o : List Pr), (∀ y ∈ l, slt k y.1 = true) → l.foldl (pstep k v) (o, true) = (o ++ l, true)
 | [], o, h => by simp
 | y :: r, o, h => by
  have h1 := h y (List.mem_cons_self ..)
  have h2 : (y.1 == k) = false := by
   rw [beq_eq_false_iff_ne]
   intro e
   rw [e, slt_irr] at h1
   cases h1
  have h3 : pstep k v (o, true) y = (o ++ [y], true) := by unfold pstep pput; rw [if_neg (by simp [h2])]; simp
  rw [List.foldl_cons, h3, pall_laid k v r _ (fun z hz => h z (List.mem_cons_of_mem _ hz))]
  simp
theorem pall_rise (k v : Str) : ∀ (l : List Pr) (o : List Pr), Rise (l.map (·.1)) → (if (l.foldl (pstep k v) (o, false)).2 = true then (l.foldl (pstep k v) (o, false)).1 else (l.foldl (pstep k v) (o, false)).1 ++ [(k, v)]) = o ++ pins k v l
 | [], o, h => by simp [pins]
 | y :: r, o, h => by
  rw [List.map_cons] at h
  replace h := List.pairwise_cons.1 h
  have hr : ∀ z ∈ r, slt y.1 z.1 = true := fun z hz => h.1 _ (List.mem_map_of_mem hz)
  have hR : Rise (r.map (·.1)) := h.2
  rcases slt_tot y.1 k with h1 | h1 | h1
  ·have h2 : slt k y.1 = false := slt_asym h1
   have h4 : (y.1 == k) = false := by
    rw [beq_eq_false_iff_ne]
    intro e
    rw [e, slt_irr] at h1
    cases h1
   have h3 : pstep k v (o, false) y = (o ++ [y], false) := by
    unfold pstep pput
    rw [if_neg (by simp [h4]), if_neg (by simp [h1])]
   rw [List.foldl_cons, h3, pall_rise k v r _ hR]
   simp [pins, List.filter_cons, h1, h2]
  ·have h2 : slt k y.1 = false := by rw [h1]; exact slt_irr _
   have h5 : slt y.1 k = false := by rw [h1]; exact slt_irr _
   have h4 : (y.1 == k) = true := by rw [h1]; simp
   have h3 : pstep k v (o, false) y = (o ++ [(k, v)], true) := by
    unfold pstep pput
    rw [if_pos h4, if_pos (by simp [h5])]
   have hr' : ∀ z ∈ r, slt k z.1 = true := fun z hz => by rw [← h1]; exact hr z hz
   have f1 : r.filter (fun z => slt z.1 k) = [] := List.filter_eq_nil_iff.2 fun z hz => by simp [slt_asym (hr' z hz)]
   have f2 : r.filter (fun z => slt k z.1) = r := filter_all fun z hz => hr' z hz
   rw [List.foldl_cons, h3, pall_laid k v r _ hr']
   simp [pins, List.filter_cons, h5, h2, f1, f2]
  ·have h5 : slt y.1 k = false := slt_asym h1
   have h4 : (y.1 == k) = false := by
    rw [beq_eq_false_iff_ne]
    intro e
    rw [e, slt_irr] at h1
    cases h1
   have h3 : pstep k v (o, false) y = (o ++ [(k, v)] ++ [y], true) := by
    unfold pstep pput
    rw [if_neg (by simp [h4]), if_pos (by simp [h5])]
   have hr' : ∀ z ∈ r, slt k z.1 = true := fun z hz => slt_trans h1 (hr z hz)
   have f1 : r.filter (fun z => slt z.1 k) = [] := List.filter_eq_nil_iff.2 fun z hz => by simp [slt_asym (hr' z hz)]
   have f2 : r.filter (fun z => slt k z.1) = r := filter_all fun z hz => hr' z hz
   rw [List.foldl_cons, h3, pall_laid k v r _ hr']
   simp [pins, List.filter_cons, h5, h1, f1, f2]
theorem pwith_pins {l : List Pr} (h : Rise (l.map (·.1))) (k v : Str) : pwith l k v = pins k v l := by
 have := pall_rise k v l [] h
 rw [List.nil_append] at this
 exact this
set_option maxRecDepth 100000 in
set_option maxHeartbeats 20000000 in
theorem rwith_any (w : World) (v : Value) (l : List Pr) (key val : Str) (h : RdP w v l) (hl : l.length ≤ 1000000) :
  Calls Tryz.prog 34 #[v, st key, st val] w fun e w' => ∃ v', e = .returned v' ∧ OwnP w.heap.size w' v' (pwith l key val) ∧ Below w.heap.size w w' := by
 obtain ⟨a, c, rfl⟩ := h.slice
 obtain ⟨L, hL⟩ : ∃ L, L = l.length := ⟨_, rfl⟩
 rw [← hL] at h hl ⊢
 replace hL := hide hL
 have HH := hide h
 clear h
 go_enter Tryz.func34, Tryz.ntmps34
 go_wp2
 go_loopw [7, 8, 9] (fun o d p wr => ∃ i : Nat, i ≤ L ∧ p = .int .i64 i ∧ d = .bool (pall key val (l.take i)).2 ∧ Hid (OwnP w.heap.size wr o (pall key val (l.take i)).1 ∧ Below w.heap.size w wr)) (fun _ _ p _ => L - (intOf p).toNat)
 case atStart => exact ⟨0, Nat.zero_le _, rfl, rfl, hide ⟨World.ownsRow_nil _ _ _ _, Below.refl _ _⟩⟩
 case round =>
  obtain ⟨i, hi, rfl, rfl, hI⟩ := hrel
  by_cases hlt : i < L
  ·have hq : (i : Int) < (L : Int) := by omega
   obtain ⟨y, hy⟩ := some_el l (k := i) (by rw [← hL.out]; exact hlt)
   obtain ⟨b, off, rfl, hc1, hc2⟩ := (HH.out.to0 hI.out.2).prAt hy
   have hS := hide (pall_snoc key val l hy)
   have hN := hide (pall_len key val (l.take i))
   obtain ⟨⟨out, laid⟩, hs⟩ : ∃ s, s = pall key val (l.take i) := ⟨_, rfl⟩
   rw [← hs] at hI hS hN ⊢
   dsimp only at hI ⊢
   replace hs := hide hs
   replace hy := hide hy
   obtain ⟨y1, y2⟩ := y
   dsimp only at hc1 hc2
   cases laid with
   | true =>
    have hp : Hid (pput key val (out, true) (y1, y2) = (out, true)) := by show _ = _; unfold pput; rw [if_neg (by simp)]
    cases he : (y1 == key) with
    | true =>
     have hR : Hid (pall key val (l.take (i + 1)) = (out, true)) := by show _ = _; rw [hS.out, pstep, if_pos he, hp.out]
     go_wp2
     go_roundw
     case rel => exact ⟨i + 1, by omega, by go_num, by rw [hR.out], by rw [hR.out]; exact hI⟩
     case measure => simp [intOf]; omega
    | false =>
     have hR : Hid (pall key val (l.take (i + 1)) = (out ++ [(y1, y2)], true)) := by show _ = _; rw [hS.out, pstep, if_neg (by simp [he]), hp.out]
     obtain ⟨V, hV, D, bV, sV⟩ := boxedN wr #[st y1, st y2] 102
     obtain ⟨⟨C0, C1⟩, _⟩ := cells2r D
     have OW := rows_to hI.out.1 bV
     have BB := hide (hI.out.2.trans (bV.mono hI.out.2.size))
     have hn : (out.length + 1) * 32 ≤ 140737488355328 := by have h1 : out.length + 0 ≤ (l.take i).length + 1 := hN.out; have h2 := List.length_take_le i l; omega
     have hB2 : w.heap.size ≤ V.heap.size := BB.out.size
     rw [hV] at C0 C1 OW hB2
     replace C0 := hide C0
     replace C1 := hide C1
     replace OW := hide OW
     clear D bV
     have FLAG : True := trivial
     go_wp2_with (at_builtin; clear FLAG; refine wpList_appP rfl _ _ rfl w.heap.size _ out (y1, y2) wr.heap.size rfl rfl OW.out C0.out C1.out hn hB2 ?_; intro v1 w3 o1 b1 _)
     replace o1 := hide o1
     rw [← hV] at b1
     have B3 := hide (BB.out.trans b1)
     clear b1
     go_wp2
     go_roundw
     case rel => exact ⟨i + 1, by omega, by go_num, by rw [hR.out], by rw [hR.out]; exact ⟨o1.out, B3.out⟩⟩
     case measure => simp [intOf]; omega
   | false =>
    cases hb : Op.bytesLess y1 key with
    | true =>
     have he : (y1 == key) = false := by
      apply Bool.eq_false_iff.2
      intro e
      have : y1 = key := by simpa using e
      subst this
      rw [show Op.bytesLess y1 y1 = false from slt_irr y1] at hb; cases hb
     have hp : Hid (pput key val (out, false) (y1, y2) = (out, false)) := by show _ = _; unfold pput; rw [if_neg (by simp [slt, hb])]
     have hR : Hid (pall key val (l.take (i + 1)) = (out ++ [(y1, y2)], false)) := by show _ = _; rw [hS.out, pstep, if_neg (by simp [he]), hp.out]
     obtain ⟨V3, hV3, D3, bV3, sV3⟩ := boxedN wr #[st y1, st y2] 102
     obtain ⟨⟨C0, C1⟩, _⟩ := cells2r D3
     have OW := rows_to hI.out.1 bV3
     have BB3 := hide (hI.out.2.trans (bV3.mono hI.out.2.size))
     have hn3 : ((out).length + 1) * 32 ≤ 140737488355328 := by have h1 : out.length + 1 ≤ (l.take i).length + 1 := hN.out; have h2 := List.length_take_le i l; omega
     have hB3 : w.heap.size ≤ V3.heap.size := BB3.out.size
     rw [hV3] at C0 C1 OW hB3
     replace C0 := hide C0
     replace C1 := hide C1
     replace OW := hide OW
     clear D3 bV3
     have FLAG : True := trivial
     go_wp2_with (at_builtin; clear FLAG; refine wpList_appP rfl _ _ rfl w.heap.size _ (out) (y1, y2) wr.heap.size rfl rfl OW.out C0.out C1.out hn3 hB3 ?_; intro v3 w3 o3 b3 _)
     replace o3 := hide o3
     rw [← hV3] at b3
     have B3 := hide (BB3.out.trans b3)
     clear b3 C0 C1 OW hB3 hn3
     go_wp2
     go_roundw
     case rel => exact ⟨i + 1, by omega, by go_num, by rw [hR.out], by rw [hR.out]; exact ⟨o3.out, B3.out⟩⟩
     case measure => simp [intOf]; omega
    | false =>
     have hp : Hid (pput key val (out, false) (y1, y2) = (out ++ [(key, val)], true)) := by show _ = _; unfold pput; rw [if_pos (by simp [slt, hb])]
     cases he : (y1 == key) with
     | true =>
      have hR : Hid (pall key val (l.take (i + 1)) = (out ++ [(key, val)], true)) := by show _ = _; rw [hS.out, pstep, if_pos he, hp.out]
      obtain ⟨V3, hV3, D3, bV3, sV3⟩ := boxedN wr #[st key, st val] 102
      obtain ⟨⟨C0, C1⟩, _⟩ := cells2r D3
      have OW := rows_to hI.out.1 bV3
      have BB3 := hide (hI.out.2.trans (bV3.mono hI.out.2.size))
      have hn3 : ((out).length + 1) * 32 ≤ 140737488355328 := by have h1 : out.length + 1 ≤ (l.take i).length + 1 := hN.out; have h2 := List.length_take_le i l; omega
      have hB3 : w.heap.size ≤ V3.heap.size := BB3.out.size
      rw [hV3] at C0 C1 OW hB3
      replace C0 := hide C0
      replace C1 := hide C1
      replace OW := hide OW
      clear D3 bV3
      have FLAG : True := trivial
      go_wp2_with (at_builtin; clear FLAG; refine wpList_appP rfl _ _ rfl w.heap.size _ (out) (key, val) wr.heap.size rfl rfl OW.out C0.out C1.out hn3 hB3 ?_; intro v3 w3 o3 b3 _; replace o3 := hide o3; rw [← hV3] at b3; have B3 := hide (BB3.out.trans b3); clear b3 C0 C1 OW hB3 hn3; obtain ⟨b', off', e, hd1, hd2⟩ := (HH.out.to0 B3.out).prAt hy.out; simp only [Option.some.injEq, Addr.mk.injEq, and_true] at e; obtain ⟨rfl, rfl⟩ := e; dsimp only at hd1 hd2)
      go_wp2
      go_roundw
      case rel => exact ⟨i + 1, by omega, by go_num, by rw [hR.out], by rw [hR.out]; exact ⟨o3.out, B3.out⟩⟩
      case measure => simp [intOf]; omega
     | false =>
      have hR : Hid (pall key val (l.take (i + 1)) = (out ++ [(key, val)] ++ [(y1, y2)], true)) := by show _ = _; rw [hS.out, pstep, if_neg (by simp [he]), hp.out]
      obtain ⟨V3, hV3, D3, bV3, sV3⟩ := boxedN wr #[st key, st val] 102
      obtain ⟨⟨C0, C1⟩, _⟩ := cells2r D3
      have OW := rows_to hI.out.1 bV3
      have BB3 := hide (hI.out.2.trans (bV3.mono hI.out.2.size))
      have hn3 : ((out).length + 1) * 32 ≤ 140737488355328 := by have h1 : out.length + 1 ≤ (l.take i).length + 1 := hN.out; have h2 := List.length_take_le i l; omega
      have hB3 : w.heap.size ≤ V3.heap.size := BB3.out.size
      rw [hV3] at C0 C1 OW hB3
      replace C0 := hide C0
      replace C1 := hide C1
      replace OW := hide OW
      clear D3 bV3
      have hn4 : Hid (((out ++ [(key, val)]).length + 1) * 32 ≤ 140737488355328) := by
       show _ ≤ _
       have hE : (out ++ [(key, val)]).length = out.length + 1 := by rw [List.length_append]; rfl
       rw [hE]
       have h3 : out.length + 1 + 1 ≤ 1000002 := by have h1 : out.length + 1 ≤ (l.take i).length + 1 := hN.out; have h2 := List.length_take_le i l; omega
       exact Nat.le_trans (Nat.mul_le_mul_right 32 h3) (by decide)
      have FLAG : True := trivial
      go_wp2_with (at_builtin; first | (clear FLAG; refine wpList_appP rfl _ _ rfl w.heap.size _ (out) (key, val) wr.heap.size rfl rfl OW.out C0.out C1.out hn3 hB3 ?_; intro v3 w3 o3 b3 _; replace o3 := hide o3; rw [← hV3] at b3; have B3 := hide (BB3.out.trans b3); clear b3 C0 C1 OW hB3 hn3; obtain ⟨b', off', e, hd1, hd2⟩ := (HH.out.to0 B3.out).prAt hy.out; simp only [Option.some.injEq, Addr.mk.injEq, and_true] at e; obtain ⟨rfl, rfl⟩ := e; dsimp only at hd1 hd2; obtain ⟨V4, hV4, D4, bV4, sV4⟩ := boxedN w3 #[st y1, st y2] 102; obtain ⟨⟨C0, C1⟩, _⟩ := cells2r D4; have OW := rows_to o3.out bV4; have BB4 := hide (B3.out.trans (bV4.mono B3.out.size)); have hB4 : w.heap.size ≤ V4.heap.size := BB4.out.size; rw [hV4] at C0 C1 OW hB4; replace C0 := hide C0; replace C1 := hide C1; replace OW := hide OW; clear D4 bV4; have FLAG2 : True := trivial) | (clear FLAG2; refine wpList_appP rfl _ _ rfl w.heap.size _ (out ++ [(key, val)]) (y1, y2) w3.heap.size rfl rfl OW.out C0.out C1.out hn4.out hB4 ?_; intro v4 w4 o4 b4 _))
      replace o4 := hide o4
      rw [← hV4] at b4
      have B4 := hide (BB4.out.trans b4)
      clear b4 C0 C1 OW hB4 hn4
      go_wp2
      go_roundw
      case rel => exact ⟨i + 1, by omega, by go_num, by rw [hR.out], by rw [hR.out]; exact ⟨o4.out, B4.out⟩⟩
      case measure => simp [intOf]; omega
  ·have hq : ¬ (i : Int) < (L : Int) := by omega
   have ht : Hid (l.take i = l) := by show _ = _; exact List.take_of_length_le (by rw [← hL.out]; omega)
   rw [ht.out] at hI ⊢
   have hN := hide (pall_len key val l)
   have hR : Hid (pwith l key val = if (pall key val l).2 = true then (pall key val l).1 else (pall key val l).1 ++ [(key, val)]) := (rfl : _ = _)
   obtain ⟨⟨out, laid⟩, hs⟩ : ∃ s, s = pall key val l := ⟨_, rfl⟩
   rw [← hs] at hI hR hN ⊢
   dsimp only at hI hR ⊢
   replace hs := hide hs
   cases laid with
   | true =>
    rw [if_pos rfl] at hR
    go_wp2
    go_ret
    rw [hR.out]
    exact ⟨_, rfl, hI.out.1, hI.out.2⟩
   | false =>
    rw [if_neg (by simp)] at hR
    obtain ⟨V3, hV3, D3, bV3, sV3⟩ := boxedN wr #[st key, st val] 102
    obtain ⟨⟨C0, C1⟩, _⟩ := cells2r D3
    have OW := rows_to hI.out.1 bV3
    have BB3 := hide (hI.out.2.trans (bV3.mono hI.out.2.size))
    have hn3 : ((out).length + 1) * 32 ≤ 140737488355328 := by have h1 : out.length + 1 ≤ l.length + 1 := hN.out; rw [← hL.out] at h1; omega
    have hB3 : w.heap.size ≤ V3.heap.size := BB3.out.size
    rw [hV3] at C0 C1 OW hB3
    replace C0 := hide C0
    replace C1 := hide C1
    replace OW := hide OW
    clear D3 bV3
    have FLAG : True := trivial
    go_wp2_with (at_builtin; clear FLAG; refine wpList_appP rfl _ _ rfl w.heap.size _ (out) (key, val) wr.heap.size rfl rfl OW.out C0.out C1.out hn3 hB3 ?_; intro v3 w3 o3 b3 _)
    replace o3 := hide o3
    rw [← hV3] at b3
    have B3 := hide (BB3.out.trans b3)
    clear b3 C0 C1 OW hB3 hn3
    go_wp2
    go_ret
    rw [hR.out]
    exact ⟨_, rfl, o3.out, B3.out⟩
end Go.Proofs.YtpiikmkajckccaaGreat

namespace Go.Proofs.YtpiikmkajckccaaGreat
open Go.RowKit
abbrev RdSt (w : World) (v : Value) (l : List Sp3) : Prop := RdS SStep10 w v l
theorem RdS.spAt {w : World} {a : Option Addr} {n cap : Nat} {l : List Sp3} (h : RdSt w (.slice a n cap) l) {i : Nat} {y : Sp3} (hy : l[i]? = some y) :
  ∃ b off, a = some ⟨b, off, none⟩ ∧ w.cell? ⟨b, off + i * 3, none⟩ = some (.int .i64 y.1) ∧ w.cell? ⟨b, off + i * 3 + 1, none⟩ = some (st y.2.1) ∧ w.cell? ⟨b, off + i * 3 + 2, none⟩ = some (st y.2.2) := by
 obtain ⟨ao, c, e, h1, h2, h3, h4⟩ := h
 cases e
 rcases h4 with rfl | ⟨b, off, rfl, hc⟩
 ·simp at hy
 ·obtain ⟨c, ⟨c1, c2, rfl, k1, ⟨c3, c4, rfl, k3, k4⟩⟩, k2⟩ := hc i y hy
  have e1 : c1 = [Value.int .i64 y.1] := k1
  have e3 : c3 = [st y.2.1] := k3
  have e4 : c4 = [st y.2.2] := k4
  subst e1 e3 e4
  rw [show SStep10.n = 3 from rfl] at k2
  exact ⟨b, off, rfl, by simpa using k2 0 _ rfl, by simpa using k2 1 _ rfl, by simpa using k2 2 _ rfl⟩
structure Bu (B : Nat) (w : World) (t : Tr) (pv : Value) (want : List Pr) (wv : Value) (k : Nat) : Prop where
 own : OwnPg B w pv t.pages
 prs : tprs t = some want
 nxt : t.next ≤ 1 + 40 * (k : Int)
 sml : ∀ x ∈ t.pages, x.2.length ≤ 244
 wnt : OwnP B w wv want
 cnt : want.length ≤ k
theorem Bu.keep {B : Nat} {w w' : World} {t : Tr} {pv : Value} {want : List Pr} {wv : Value} {k : Nat} (h : Bu B w t pv want wv k) (kk : ∀ e, e ≠ 28 → KeepT e w w') : Bu B w' t pv want wv k :=
 ⟨OwnX.keepT h.own (kk _ (by decide)) (kk _ (by decide)), h.prs, h.nxt, h.sml, rows_keepT h.wnt (kk _ (by decide)), h.cnt⟩
theorem Bu.to {B : Nat} {w w' : World} {t : Tr} {pv : Value} {want : List Pr} {wv : Value} {k : Nat} (h : Bu B w t pv want wv k) (b : Below w.heap.size w w') : Bu B w' t pv want wv k := h.keep fun e _ => KeepT.below b
theorem Bu.more {B : Nat} {w : World} {t : Tr} {pv : Value} {want : List Pr} {wv : Value} {k n : Nat} (h : Bu B w t pv want wv k) (hn : k ≤ n) : Bu B w t pv want wv n := ⟨h.own, h.prs, by have := h.nxt; omega, h.sml, h.wnt, by have := h.cnt; omega⟩
theorem Bu.rwf {B : Nat} {w : World} {t : Tr} {pv : Value} {want : List Pr} {wv : Value} {k : Nat} (h : Bu B w t pv want wv k) : (Lit.int .i64 t.root).wf = true := (tprs_num h.prs).1.rwf
theorem Bu.big {B : Nat} {w : World} {t : Tr} {pv : Value} {want : List Pr} {wv : Value} {k : Nat} (h : Bu B w t pv want wv k) : ∀ x ∈ t.pages, x.2.length ≤ 140737488351232 := fun x hx => by have := h.sml x hx; omega
theorem Bu.len {B : Nat} {w : World} {t : Tr} {pv : Value} {want : List Pr} {wv : Value} {k : Nat} (h : Bu B w t pv want wv k) : (t.pages.length + 1) * 32 ≤ 140737488355328 := (Chg.same h.prs).len h.prs
structure BI (w wr : World) (g5 : Nat) (t : Tr) (pv : Value) (want : List Pr) (wv : Value) (k : Nat) : Prop where
 bu : Bu w.heap.size wr t pv want wv k
 rb : wr.heap[w.heap.size]? = some (.cells #[.int .i64 0, .int .i64 0, .slice none 0 0] 28 (0, 0))
 tb : wr.heap[g5]? = some (.cells #[.int .i64 t.root, .int .i64 t.next, pv] 28 (0, 0))
 bel : Below w.heap.size w wr
theorem BI.to {w wr wr' : World} {g5 : Nat} {t : Tr} {pv : Value} {want : List Pr} {wv : Value} {k : Nat} (h : BI w wr g5 t pv want wv k) (b : Below wr.heap.size wr wr') : BI w wr' g5 t pv want wv k :=
 ⟨h.bu.to b, (b.block _ (lt_of_block h.rb)).trans h.rb, (b.block _ (lt_of_block h.tb)).trans h.tb, h.bel.trans (b.mono h.bel.size)⟩
theorem BI.put {w c : World} {g5 : Nat} {t u : Tr} {pv pv' : Value} {want want' : List Pr} {wv wv' : Value} {k : Nat} (h : BI w c g5 t pv want wv k) (hg : w.heap.size < g5) (hC : Chg t u want') (o : OwnPg w.heap.size c pv' u.pages) (ow : OwnP w.heap.size c wv' want') (hc : want'.length ≤ want.length + 1) :
  BI w (((c.setCell ⟨g5, 0, none⟩ (.int .i64 u.root)).setCell ⟨g5, 1, none⟩ (.int .i64 u.next)).setCell ⟨g5, 2, none⟩ pv') g5 u pv' want' wv' (k + 1) := by
 have kk := fun e (he : e ≠ 28) => s3_keep9 h.tb (.int .i64 u.root) (.int .i64 u.next) pv' he
 have hne : w.heap.size ≠ g5 := by omega
 obtain ⟨more, e, _, h2⟩ := hC.pgs
 refine ⟨⟨OwnX.keepT o (kk _ (by decide)) (kk _ (by decide)), hC.prs, ?_, ?_, rows_keepT ow (kk _ (by decide)), by have := h.bu.cnt; omega⟩, ?_, heap_set3t h.tb _ _ _, below_set3t h.bel (Nat.le_of_lt hg) _ _ _⟩
 ·have h1 := h.bu.nxt
  have h3 := hC.nxt
  push_cast
  omega
 ·intro x hx
  rw [e, List.mem_append] at hx
  rcases hx with hx | hx
  ·exact h.bu.sml x hx
  ·exact h2 x hx
 ·exact (Below.heap_setCell _ _ _ _ hne).trans ((Below.heap_setCell _ _ _ _ hne).trans ((Below.heap_setCell _ _ _ _ hne).trans h.rb))
theorem BI.succ {w wr : World} {g5 : Nat} {t : Tr} {pv : Value} {want : List Pr} {wv : Value} {k : Nat} (h : BI w wr g5 t pv want wv k) : BI w wr g5 t pv want wv (k + 1) := ⟨h.bu.more (by omega), h.rb, h.tb, h.bel⟩
theorem tprs_new : tprs ⟨0, 1, []⟩ = some [] := tprs_of (t := ⟨0, 1, []⟩) (s := ⟨[], none, []⟩) ⟨by decide, by decide, fun i hi => by simp at hi⟩ rfl (by decide)
set_option maxRecDepth 100000 in
set_option maxHeartbeats 16000000 in
theorem pbuild_any (w : World) (v : Value) (ls : List Sp3) (h : RdSt w v ls) (hf : ∀ x ∈ ls, sp3fit x) :
  Calls Tryz.prog 16 #[v] w fun e w' => ∃ t pv want wv, e = .returned (.tuple #[tv t pv, wv, .bool true]) ∧ Bu w.heap.size w' t pv want wv 400 ∧ Below w.heap.size w w' := by
 obtain ⟨a, c, rfl⟩ := h.slice
 obtain ⟨L, hL⟩ : ∃ L, L = ls.length := ⟨_, rfl⟩
 rw [← hL] at h ⊢
 replace hL := hide hL
 obtain ⟨W, hW, DW, bW, sW⟩ := boxedN w #[.int .i64 0, .int .i64 0, .slice none 0 0] 28
 have KN0 := hide (pnew10_any W)
 dsimp only [tv] at KN0
 rw [hW] at KN0
 have HH := hide h
 have HW := hide (And.intro DW bW)
 replace hf := hide hf
 clear h DW bW
 go_enter Tryz.func16, Tryz.ntmps16
 go_wp2_with fail
 refine KN0.out.mono ?_
 rintro e w1 ⟨rfl, b1⟩
 rw [← hW] at b1
 replace hW := hide hW
 obtain ⟨Y, hY, DY, bY, sY⟩ := boxedN w1 #[.int .i64 0, .int .i64 1, .slice none 0 0] 28
 have b1Y := b1.trans (bY.mono b1.size)
 have HI : Hid (∃ t pv want, BI w Y w1.heap.size t pv want (.slice none 0 0) 0) := by
  refine ⟨⟨0, 1, []⟩, .slice none 0 0, [], ⟨⟨⟨[], rfl, World.ownsRow_nil _ _ _ _, fun i hi => by simp at hi⟩, tprs_new, by decide, (fun x hx => by cases hx), World.ownsRow_nil _ _ _ _, Nat.zero_le _⟩, (b1Y.block _ (lt_of_block HW.out.1)).trans HW.out.1, DY, HW.out.2.trans (b1Y.mono HW.out.2.size)⟩⟩
 have hg5 : Hid (w.heap.size < w1.heap.size) := by show _ < _; have := lt_of_block HW.out.1; have := b1.size; omega
 clear KN0 b1 DY bY sY b1Y HW
 go_wp2
 rw [← hY]
 replace hY := hide hY
 obtain ⟨g5, hg⟩ : ∃ g, g = w1.heap.size := ⟨_, rfl⟩
 rw [← hg] at HI hg5 ⊢
 clear hg hY sW
 go_loopw [6, 7] (fun v6 p wr => ∃ (k : Nat) (wv : Value), wv = v6 ∧ k ≤ L ∧ k ≤ 400 ∧ p = .int .i64 k ∧ Hid (∃ t pv want, BI w wr g5 t pv want wv k)) (fun _ p _ => L - (intOf p).toNat)
 case atStart => exact ⟨0, _, rfl, Nat.zero_le _, Nat.zero_le _, rfl, HI⟩
 case round =>
  obtain ⟨k, wv, rfl, hk, hk4, rfl, hI⟩ := hrel
  clear HI
  obtain ⟨t, pv, want, hB⟩ := hI.out
  obtain ⟨pa, pc, hpv⟩ := hB.bu.own.shape
  obtain ⟨pn, hpn⟩ : ∃ n, n = t.pages.length := ⟨_, rfl⟩
  rw [← hpn] at hpv
  subst hpv
  replace hpn := hide hpn
  obtain ⟨root, hrn⟩ : ∃ z, z = t.root := ⟨_, rfl⟩
  obtain ⟨next, hnn⟩ : ∃ z, z = t.next := ⟨_, rfl⟩
  have hTB := hB.tb
  rw [← hrn, ← hnn] at hTB
  replace hrn := hide hrn
  replace hnn := hide hnn
  obtain ⟨⟨A0, A1, A2⟩, AF⟩ := cells3p hTB
  replace hB := hide hB
  by_cases hlt : k < L ∧ k < 400
  ·obtain ⟨hlt, hlt4⟩ := hlt
   have hq : (k : Int) < (L : Int) := by omega
   have hq4 : (k : Int) < 400 := by omega
   obtain ⟨y, hy⟩ : ∃ y, ls[k]? = some y := ⟨_, List.getElem?_eq_getElem (by rw [← hL.out]; exact hlt)⟩
   obtain ⟨sb, so, rfl, s0, s1, s2⟩ := (HH.out.to0 hB.out.bel).spAt hy
   have hfy := hf.out y (List.mem_of_getElem? hy)
   obtain ⟨wh, key, val⟩ := y
   dsimp only at s0 s1 s2 hfy
   have hkl : Hid (key.length ≤ 9223372036854775807) := hfy.2.1
   have hvl : Hid (val.length ≤ 9223372036854775807) := hfy.2.2
   have hn16 : Hid (t.next ≤ 16001) := by show _ ≤ _; have := hB.out.bu.nxt; omega
   have HSF : Hid (∀ w9, Below wr.heap.size wr w9 → w9.cell? ⟨g5, 0, none⟩ = some (.int .i64 root) ∧ w9.cell? ⟨g5, 1, none⟩ = some (.int .i64 next) ∧ w9.cell? ⟨g5, 2, none⟩ = some (.slice pa pn pc) ∧ w9.cell? ⟨sb, so + k * 3 + 1, none⟩ = some (st key) ∧ w9.cell? ⟨sb, so + k * 3 + 2, none⟩ = some (st val)) := fun w9 b9 =>
    ⟨(b9.cell (cell_lt A0)).trans A0, (b9.cell (cell_lt A1)).trans A1, (b9.cell (cell_lt A2)).trans A2, (b9.cell (cell_lt s1)).trans s1, (b9.cell (cell_lt s2)).trans s2⟩
   have hTD := hide hTB
   replace hy := hide hy
   replace hfy := hide hfy
   clear hTB hI
   by_cases h0 : wh = 0
   ·subst h0
    go_upto_region 7 with fail
    have KU : Hid (∀ w9, Below wr.heap.size wr w9 → Calls Tryz.prog 20 #[.agg #[.int .i64 root, .int .i64 next, .slice pa pn pc], st key, st val] w9 fun e w6 => ∃ u ua un9 uc err, e = .returned (.tuple #[.agg #[.int .i64 u.root, .int .i64 u.next, .slice ua un9 uc], .int .i64 err]) ∧ PutB w9.heap.size w6 t key val u (.slice ua un9 uc) err ∧ Below w9.heap.size w9 w6) := fun w9 b9 => by
     have h9 := pput_any w9 t (.slice pa pn pc) key val (hB.out.bu.to b9).own.rd hB.out.bu.big hB.out.bu.rwf hkl.out
     dsimp only [tv] at h9
     rw [← hrn.out, ← hnn.out] at h9
     exact Calls.mono h9 fun e w6 h => h.to
    go_cut [8, 9] from 16 to 129 (fun pp ee wx => ∃ (g7 : Nat) (u : Tr) (ua : Option Addr) (un9 uc : Nat) (err : Int), pp = .pointer (some ⟨g7, 0, none⟩) ∧ ee = .int .i64 err ∧ Hid (Below wr.heap.size wr wx ∧ wx.heap[g7]? = some (.cells #[.int .i64 u.root, .int .i64 u.next, .slice ua un9 uc] 28 (0, 0)) ∧ PutB wr.heap.size wx t key val u (.slice ua un9 uc) err ∧ wr.heap.size ≤ g7))
    case first =>
     have HS := HSF
     have b0 : Below wr.heap.size wr wr.drew := (Below.refl _ _).drew
     refine wp_region_fan (fun w9 => w9.cell? ⟨g5, 0, none⟩ = some (.int .i64 root) ∧ w9.cell? ⟨g5, 1, none⟩ = some (.int .i64 next) ∧ w9.cell? ⟨g5, 2, none⟩ = some (.slice pa pn pc) ∧ w9.cell? ⟨sb, so + k * 3 + 1, none⟩ = some (st key) ∧ w9.cell? ⟨sb, so + k * 3 + 2, none⟩ = some (st val)) 17 mixed (by simp) ?_
     generalize wr.drew = c0 at *
     clear A0 A1 A2 AF s0 s1 s2
     refine fan_take (i := 0) (v := ?_) rfl (by kernel_rfl) (fun _ _ _ _ h => h) (by kernel_rfl) (HS.out _ b0) ?_ ?_
     rotate_left
     ·rintro w9 ⟨t0, t1, t2, t3, t4⟩
      go_simp
      try with_reducible rfl
     try simp only [Act.put, List.setIfInBounds_toArray, List.set_cons_zero, List.set_cons_succ]
     refine fan_take (i := 1) (v := ?_) rfl (by kernel_rfl) (fun _ _ _ _ h => h) (by kernel_rfl) (HS.out _ b0) ?_ ?_
     rotate_left
     ·rintro w9 ⟨t0, t1, t2, t3, t4⟩
      go_simp
      try with_reducible rfl
     try simp only [Act.put, List.setIfInBounds_toArray, List.set_cons_zero, List.set_cons_succ]
     refine fan_take (i := 2) (v := ?_) rfl (by kernel_rfl) (fun _ _ _ _ h => h) (by kernel_rfl) (HS.out _ b0) ?_ ?_
     rotate_left
     ·rintro w9 ⟨t0, t1, t2, t3, t4⟩
      go_simp
      try with_reducible rfl
     try simp only [Act.put, List.setIfInBounds_toArray, List.set_cons_zero, List.set_cons_succ]
     refine fan_take (i := 3) (v := ?_) rfl (by kernel_rfl) (fun _ _ _ _ h => h) (by kernel_rfl) (HS.out _ b0) ?_ ?_
     rotate_left
     ·rintro w9 ⟨t0, t1, t2, t3, t4⟩
      go_simp
      try with_reducible rfl
     try simp only [Act.put, List.setIfInBounds_toArray, List.set_cons_zero, List.set_cons_succ]
     refine fan_take (i := 4) (v := ?_) rfl (by kernel_rfl) (fun _ _ _ _ h => h) (by kernel_rfl) (HS.out _ b0) ?_ ?_
     rotate_left
     ·rintro w9 ⟨t0, t1, t2, t3, t4⟩
      go_simp
      try with_reducible rfl
     try simp only [Act.put, List.setIfInBounds_toArray, List.set_cons_zero, List.set_cons_succ]
     refine fan_take (i := 5) (v := ?_) rfl (by kernel_rfl) (fun _ _ _ _ h => h) (by kernel_rfl) (HS.out _ b0) ?_ ?_
     rotate_left
     ·rintro w9 ⟨t0, t1, t2, t3, t4⟩
      go_simp
      try with_reducible rfl
     try simp only [Act.put, List.setIfInBounds_toArray, List.set_cons_zero, List.set_cons_succ]
     refine fan_take (i := 6) (v := ?_) rfl (by kernel_rfl) (fun _ _ _ _ h => h) (by kernel_rfl) (HS.out _ b0) ?_ ?_
     rotate_left
     ·rintro w9 ⟨t0, t1, t2, t3, t4⟩
      go_simp
      try with_reducible rfl
     try simp only [Act.put, List.setIfInBounds_toArray, List.set_cons_zero, List.set_cons_succ]
     refine fan_take (i := 7) (v := ?_) rfl (by kernel_rfl) (fun _ _ _ _ h => h) (by kernel_rfl) (HS.out _ b0) ?_ ?_
     rotate_left
     ·rintro w9 ⟨t0, t1, t2, t3, t4⟩
      go_simp
      try with_reducible rfl
     try simp only [Act.put, List.setIfInBounds_toArray, List.set_cons_zero, List.set_cons_succ]
     refine fan_take (i := 8) (v := ?_) rfl (by kernel_rfl) (fun _ _ _ _ h => h) (by kernel_rfl) (HS.out _ b0) ?_ ?_
     rotate_left
     ·rintro w9 ⟨t0, t1, t2, t3, t4⟩
      go_simp
      try with_reducible rfl
     try simp only [Act.put, List.setIfInBounds_toArray, List.set_cons_zero, List.set_cons_succ]
     refine fan_take (i := 9) (v := ?_) rfl (by kernel_rfl) (fun _ _ _ _ h => h) (by kernel_rfl) (HS.out _ b0) ?_ ?_
     rotate_left
     ·rintro w9 ⟨t0, t1, t2, t3, t4⟩
      go_simp
      try with_reducible rfl
     try simp only [Act.put, List.setIfInBounds_toArray, List.set_cons_zero, List.set_cons_succ]
     refine fan_take (i := 10) (v := ?_) rfl (by kernel_rfl) (fun _ _ _ _ h => h) (by kernel_rfl) (HS.out _ b0) ?_ ?_
     rotate_left
     ·rintro w9 ⟨t0, t1, t2, t3, t4⟩
      go_simp
      try with_reducible rfl
     try simp only [Act.put, List.setIfInBounds_toArray, List.set_cons_zero, List.set_cons_succ]
     refine fan_two 11 15 (by kernel_rfl) ?_ ?_
     ·
      refine fan_step rfl (by kernel_rfl) fun K hK => ?_
      refine wp_call_of 20 _ _ (by rfl) #[.agg #[.int .i64 root, .int .i64 next, .slice pa pn pc], st key, st val] (by simp [Act.eval]) (Tryz.call20 _ _) (KU.out _ b0) ?_
      rintro e c2 ⟨u, ua, un9, uc, err, rfl, pB, bF⟩
      have b2 := b0.trans (bF.mono b0.size)
      replace pB := pB.base (B := wr.heap.size) b0.size
      clear bF
      refine ⟨_, rfl, hK _ _ (HS.out _ b2) ?_⟩
      clear hK K
      try simp only [Act.put, List.setIfInBounds_toArray, List.set_cons_zero, List.set_cons_succ]
      refine fan_take (i := 12) (v := ?_) rfl (by kernel_rfl) (fun _ _ _ _ h => h) (by kernel_rfl) (HS.out _ b2) ?_ ?_
      rotate_left
      ·rintro w9 ⟨t0, t1, t2, t3, t4⟩
       go_simp
       try with_reducible rfl
      try simp only [Act.put, List.setIfInBounds_toArray, List.set_cons_zero, List.set_cons_succ]
      refine fan_take (i := 13) (v := ?_) rfl (by kernel_rfl) (fun _ _ _ _ h => h) (by kernel_rfl) (HS.out _ b2) ?_ ?_
      rotate_left
      ·rintro w9 ⟨t0, t1, t2, t3, t4⟩
       go_simp
       try with_reducible rfl
      try simp only [Act.put, List.setIfInBounds_toArray, List.set_cons_zero, List.set_cons_succ]
      refine fan_take (i := 14) (v := ?_) rfl (by kernel_rfl) (fun _ _ _ _ h => h) (by kernel_rfl) (HS.out _ b2) ?_ ?_
      rotate_left
      ·rintro w9 ⟨t0, t1, t2, t3, t4⟩
       go_simp
       try with_reducible rfl
      try simp only [Act.put, List.setIfInBounds_toArray, List.set_cons_zero, List.set_cons_succ]
      refine fan_one 15 (by kernel_rfl) ?_
      refine fan_step rfl (by kernel_rfl) fun K hK => ?_
      go_simp
      obtain ⟨c3, hc, h7, bc, sc⟩ := boxedN c2 #[.int .i64 0, .int .i64 0, .slice none 0 0] 28
      rw [← hc]
      have b3 := b2.trans (bc.mono b2.size)
      obtain ⟨g7, hg⟩ : ∃ g, g = c2.heap.size := ⟨_, rfl⟩
      rw [← hg] at h7
      rw [← hg]
      have lg7 : wr.heap.size ≤ g7 := by have := b2.size; omega
      replace pB := pB.to bc
      refine hK _ _ (HS.out _ b3) ?_
      clear hK K hc bc sc hg
      try simp only [Act.put, List.setIfInBounds_toArray, List.set_cons_zero, List.set_cons_succ]
      refine fan_one 16 (by kernel_rfl) ?_
      have y9 := cells3p h7
      obtain ⟨⟨y0, y1, y2⟩, yF⟩ := y9
      refine fan_step rfl (by kernel_rfl) fun K hK => ?_
      go_simp
      obtain ⟨d1, hd⟩ : ∃ d, d = ((c3.setCell ⟨g7, 0, none⟩ (.int .i64 u.root)).setCell ⟨g7, 1, none⟩ (.int .i64 u.next)).setCell ⟨g7, 2, none⟩ (.slice ua un9 uc) := ⟨_, rfl⟩
      rw [← hd]
      have e1 : Below wr.heap.size wr d1 := by rw [hd]; exact below_set3t b3 lg7 _ _ _
      have i7 : d1.heap[g7]? = some (.cells #[(.int .i64 u.root), (.int .i64 u.next), (.slice ua un9 uc)] 28 (0, 0)) := by rw [hd]; exact heap_set3t h7 _ _ _
      have kd := fun e (he : e ≠ 28) => s3_keep9 h7 (.int .i64 u.root) (.int .i64 u.next) (.slice ua un9 uc) he
      rw [← hd] at kd
      have pD := pB.keep kd
      refine hK _ _ (HS.out _ e1) ?_
      clear hK K y0 y1 y2 yF hd kd
      try simp only [Act.put, List.setIfInBounds_toArray, List.set_cons_zero, List.set_cons_succ]
      refine fan_done (by kernel_rfl) ?_
      show wpList _ _ _ _ _ _
      have FIN := hide (And.intro e1 (And.intro i7 (And.intro pD lg7)))
      clear e1 i7 pD pB lg7 h7
      go_wp2_with fail
      go_meet
      exact ⟨g7, u, _, _, _, err, rfl, rfl, FIN⟩
     ·
      refine fan_step rfl (by kernel_rfl) fun K hK => ?_
      go_simp
      obtain ⟨c2, hc, h7, bc, sc⟩ := boxedN c0 #[.int .i64 0, .int .i64 0, .slice none 0 0] 28
      rw [← hc]
      have b2 := b0.trans (bc.mono b0.size)
      obtain ⟨g7, hg⟩ : ∃ g, g = c0.heap.size := ⟨_, rfl⟩
      rw [← hg] at h7
      rw [← hg]
      have lg7 : wr.heap.size ≤ g7 := by have := b0.size; omega
      refine hK _ _ (HS.out _ b2) ?_
      clear hK K hc bc sc hg
      try simp only [Act.put, List.setIfInBounds_toArray, List.set_cons_zero, List.set_cons_succ]
      refine fan_one 11 (by kernel_rfl) ?_
      refine fan_step rfl (by kernel_rfl) fun K hK => ?_
      refine wp_call_of 20 _ _ (by rfl) #[.agg #[.int .i64 root, .int .i64 next, .slice pa pn pc], st key, st val] (by simp [Act.eval]) (Tryz.call20 _ _) (KU.out _ b2) ?_
      rintro e c3 ⟨u, ua, un9, uc, err, rfl, pB, bF⟩
      have b3 := b2.trans (bF.mono b2.size)
      replace pB := pB.base (B := wr.heap.size) b2.size
      replace h7 := (bF.block _ (lt_of_block h7)).trans h7
      clear bF
      refine ⟨_, rfl, hK _ _ (HS.out _ b3) ?_⟩
      clear hK K
      try simp only [Act.put, List.setIfInBounds_toArray, List.set_cons_zero, List.set_cons_succ]
      refine fan_take (i := 12) (v := ?_) rfl (by kernel_rfl) (fun _ _ _ _ h => h) (by kernel_rfl) (HS.out _ b3) ?_ ?_
      rotate_left
      ·rintro w9 ⟨t0, t1, t2, t3, t4⟩
       go_simp
       try with_reducible rfl
      try simp only [Act.put, List.setIfInBounds_toArray, List.set_cons_zero, List.set_cons_succ]
      refine fan_take (i := 13) (v := ?_) rfl (by kernel_rfl) (fun _ _ _ _ h => h) (by kernel_rfl) (HS.out _ b3) ?_ ?_
      rotate_left
      ·rintro w9 ⟨t0, t1, t2, t3, t4⟩
       go_simp
       try with_reducible rfl
      try simp only [Act.put, List.setIfInBounds_toArray, List.set_cons_zero, List.set_cons_succ]
      refine fan_take (i := 14) (v := ?_) rfl (by kernel_rfl) (fun _ _ _ _ h => h) (by kernel_rfl) (HS.out _ b3) ?_ ?_
      rotate_left
      ·rintro w9 ⟨t0, t1, t2, t3, t4⟩
       go_simp
       try with_reducible rfl
      try simp only [Act.put, List.setIfInBounds_toArray, List.set_cons_zero, List.set_cons_succ]
      refine fan_one 16 (by kernel_rfl) ?_
      have y9 := cells3p h7
      obtain ⟨⟨y0, y1, y2⟩, yF⟩ := y9
      refine fan_step rfl (by kernel_rfl) fun K hK => ?_
      go_simp
      obtain ⟨d1, hd⟩ : ∃ d, d = ((c3.setCell ⟨g7, 0, none⟩ (.int .i64 u.root)).setCell ⟨g7, 1, none⟩ (.int .i64 u.next)).setCell ⟨g7, 2, none⟩ (.slice ua un9 uc) := ⟨_, rfl⟩
      rw [← hd]
      have e1 : Below wr.heap.size wr d1 := by rw [hd]; exact below_set3t b3 lg7 _ _ _
      have i7 : d1.heap[g7]? = some (.cells #[(.int .i64 u.root), (.int .i64 u.next), (.slice ua un9 uc)] 28 (0, 0)) := by rw [hd]; exact heap_set3t h7 _ _ _
      have kd := fun e (he : e ≠ 28) => s3_keep9 h7 (.int .i64 u.root) (.int .i64 u.next) (.slice ua un9 uc) he
      rw [← hd] at kd
      have pD := pB.keep kd
      refine hK _ _ (HS.out _ e1) ?_
      clear hK K y0 y1 y2 yF hd kd
      try simp only [Act.put, List.setIfInBounds_toArray, List.set_cons_zero, List.set_cons_succ]
      refine fan_done (by kernel_rfl) ?_
      show wpList _ _ _ _ _ _
      have FIN := hide (And.intro e1 (And.intro i7 (And.intro pD lg7)))
      clear e1 i7 pD pB lg7 h7
      go_wp2_with fail
      go_meet
      exact ⟨g7, u, _, _, _, err, rfl, rfl, FIN⟩
    case rest =>
     obtain ⟨g7, u, ua, un9, uc, err, rfl, rfl, hC⟩ := hcut
     have KN := hide (pnum10_any wc err)
     have TC := hide (hB.out.to hC.out.1)
     clear A0 A1 A2 AF s0 s1 s2 KU
     go_wp2_with fail
     refine KN.out.mono ?_
     rintro e w5 ⟨rfl, rfl⟩
     by_cases herr : err = 0
     ·subst herr
      rcases hC.out.2.2.1 with ⟨q, _⟩ | ⟨_, q2, q3, ps, q4, q5⟩
      ·exact absurd rfl q
      obtain rfl : ps = want := Option.some.inj (q4.symm.trans hB.out.bu.prs)
      have bd : Below wc.heap.size wc wc.drew := below_drewN' wc 1 _
      have TD := TC.out.to bd
      have KW := hide (rwith_any wc.drew wv ps key val (OwnP.rd TD.bu.wnt) (by have := (tprs_num q4).2.1; omega))
      rw [pwith_pins (tprs_rise q4)] at KW
      have G7 := (bd.block _ (lt_of_block hC.out.2.1)).trans hC.out.2.1
      obtain ⟨⟨U0, U1, U2⟩, _⟩ := cells3p G7
      obtain ⟨_, _, _, d3, d4⟩ := HSF.out _ (hC.out.1.trans (bd.mono hC.out.1.size))
      have HQ := hide (And.intro q3 (And.intro q4 (And.intro q5 (And.intro bd TD))))
      replace q2 := hide q2
      clear q3 q4 q5 bd TD G7 KN
      go_upto_region 11 with fail
      refine wp_region_mid (fun w' => w'.cell? ⟨g7, 0, none⟩ = some (.int .i64 u.root) ∧ w'.cell? ⟨g7, 1, none⟩ = some (.int .i64 u.next) ∧ w'.cell? ⟨g7, 2, none⟩ = some (.slice ua un9 uc) ∧ w'.cell? ⟨sb, so + k * 3 + 1, none⟩ = some (st key) ∧ w'.cell? ⟨sb, so + k * 3 + 2, none⟩ = some (st val)) 12 13 mixed (by kernel_rfl) (fun _ _ _ _ h => h) ⟨U0, U1, U2, d3, d4⟩ ?_
      dsimp only [List.take, List.drop]
      iterate 12
       refine take_one (v := ?_) (by rfl) ?_ ?_
       rotate_left
       ·rintro w' ⟨t0, t1, t2, t3, t4⟩
        go_simp
        try with_reducible rfl
       try simp only [Act.put, List.setIfInBounds_toArray, List.set_cons_zero, List.set_cons_succ]
      refine mid_one fun K hK => ?_
      refine step_call (by rfl) 34 _ _ (by rfl) #[wv, st key, st val] (by simp [Act.eval]) (Tryz.call34 _ _) KW.out ?_
      rintro e w8 ⟨v8, rfl, o8, b8⟩
      have x0 := (b8.cell (cell_lt U0)).trans U0
      have x1 := (b8.cell (cell_lt U1)).trans U1
      have x2 := (b8.cell (cell_lt U2)).trans U2
      have x3 := (b8.cell (cell_lt d3)).trans d3
      have x4 := (b8.cell (cell_lt d4)).trans d4
      refine ⟨_, rfl, hK _ _ ⟨x0, x1, x2, x3, x4⟩ ?_⟩
      clear hK K
      show wpList _ _ _ _ _ _
      try simp only [Act.put, List.setIfInBounds_toArray, List.set_cons_zero, List.set_cons_succ]
      obtain ⟨q3, q4, q5, bd, TD⟩ := HQ.out
      have T8 := TD.to b8
      have FIN := hide (T8.put hg5.out q5 (OwnPg.base (q3.to9 (bd.trans (b8.mono bd.size))) hB.out.bel.size) (rows_mono o8 TD.bel.size) (by have := pins_len key val ps; omega))
      obtain ⟨⟨J0, J1, J2⟩, JF⟩ := cells3p T8.tb
      clear q3 q4 q5 bd TD T8 o8 b8 KW x0 x1 x2 x3 x4 U0 U1 U2 d3 d4 HQ
      go_wp2
      go_roundw
      case rel => exact ⟨k + 1, _, rfl, by omega, by omega, by go_num, ⟨u, _, _, FIN.out⟩⟩
      case measure => simp [intOf]; omega
     ·have hne : (err != 0) = true := by simpa using herr
      have hpe : Hid (perr t key val = err) := by
       show _ = _
       rcases hC.out.2.2.1 with ⟨_, q⟩ | ⟨q, _⟩
       ·rcases q with q | ⟨_, _, q3⟩
        ·exact q.symm
        ·exfalso; have := hn16.out; omega
       ·exact absurd q herr
      have KP : Hid (∀ w9, Below wc.heap.size wc w9 → Calls Tryz.prog 33 #[.agg #[.int .i64 root, .int .i64 next, .slice pa pn pc]] w9 fun e w6 => ∃ a6 c6, e = .returned (.agg #[.int .i64 root, .int .i64 next, .slice a6 pn c6]) ∧ OwnPr w9.heap.size w6 (.slice a6 pn c6) t.pages ∧ Below w9.heap.size w9 w6) := fun w9 b9 => by
       have h9 := ppg10_any w9 t (.slice pa pn pc) (TC.out.bu.to b9).own.rd TC.out.bu.len TC.out.bu.big
       dsimp only [tv] at h9
       rw [← hrn.out, ← hnn.out] at h9
       refine Calls.mono h9 ?_
       rintro e w6 ⟨pv6, rfl, o6, b6⟩
       obtain ⟨a6, c6, h6⟩ := o6.shape
       rw [← hpn.out] at h6
       subst h6
       exact ⟨a6, c6, rfl, o6, b6⟩
      have KE : Hid (∀ w9 a6 c6, RdC w9 (.slice a6 pn c6) t.pages → Calls Tryz.prog 32 #[.agg #[.int .i64 root, .int .i64 next, .slice a6 pn c6], st key, st val] w9 fun e w6 => e = .returned (.int .i64 err) ∧ Below w9.heap.size w9 w6) := fun w9 a6 c6 r9 => by
       have h9 := rputerr_any w9 t (.slice a6 pn c6) key val hkl.out hvl.out r9
       dsimp only [tv] at h9
       rw [← hrn.out, ← hnn.out, hpe.out] at h9
       exact h9
      have HS : Hid (∀ w9, Below wc.heap.size wc w9 → w9.cell? ⟨g5, 0, none⟩ = some (.int .i64 root) ∧ w9.cell? ⟨g5, 1, none⟩ = some (.int .i64 next) ∧ w9.cell? ⟨g5, 2, none⟩ = some (.slice pa pn pc) ∧ w9.cell? ⟨sb, so + k * 3 + 1, none⟩ = some (st key) ∧ w9.cell? ⟨sb, so + k * 3 + 2, none⟩ = some (st val)) := fun w9 b9 => HSF.out w9 (hC.out.1.trans (b9.mono hC.out.1.size))
      have b0 : Below wc.heap.size wc wc.drew := (Below.refl _ _).drew
      replace herr := hide herr
      go_upto_region 9 with fail
      refine wp_region_fan (fun w9 => w9.cell? ⟨g5, 0, none⟩ = some (.int .i64 root) ∧ w9.cell? ⟨g5, 1, none⟩ = some (.int .i64 next) ∧ w9.cell? ⟨g5, 2, none⟩ = some (.slice pa pn pc) ∧ w9.cell? ⟨sb, so + k * 3 + 1, none⟩ = some (st key) ∧ w9.cell? ⟨sb, so + k * 3 + 2, none⟩ = some (st val)) 14 mixed (by simp) ?_
      generalize wc.drew = c0 at *
      refine fan_take (i := 0) (v := ?_) rfl (by kernel_rfl) (fun _ _ _ _ h => h) (by kernel_rfl) (HS.out _ b0) ?_ ?_
      rotate_left
      ·rintro w9 ⟨t0, t1, t2, t3, t4⟩
       go_simp
       try with_reducible rfl
      try simp only [Act.put, List.setIfInBounds_toArray, List.set_cons_zero, List.set_cons_succ]
      refine fan_take (i := 2) (v := ?_) rfl (by kernel_rfl) (fun _ _ _ _ h => h) (by kernel_rfl) (HS.out _ b0) ?_ ?_
      rotate_left
      ·rintro w9 ⟨t0, t1, t2, t3, t4⟩
       go_simp
       try with_reducible rfl
      try simp only [Act.put, List.setIfInBounds_toArray, List.set_cons_zero, List.set_cons_succ]
      refine fan_take (i := 3) (v := ?_) rfl (by kernel_rfl) (fun _ _ _ _ h => h) (by kernel_rfl) (HS.out _ b0) ?_ ?_
      rotate_left
      ·rintro w9 ⟨t0, t1, t2, t3, t4⟩
       go_simp
       try with_reducible rfl
      try simp only [Act.put, List.setIfInBounds_toArray, List.set_cons_zero, List.set_cons_succ]
      refine fan_take (i := 4) (v := ?_) rfl (by kernel_rfl) (fun _ _ _ _ h => h) (by kernel_rfl) (HS.out _ b0) ?_ ?_
      rotate_left
      ·rintro w9 ⟨t0, t1, t2, t3, t4⟩
       go_simp
       try with_reducible rfl
      try simp only [Act.put, List.setIfInBounds_toArray, List.set_cons_zero, List.set_cons_succ]
      refine fan_take (i := 5) (v := ?_) rfl (by kernel_rfl) (fun _ _ _ _ h => h) (by kernel_rfl) (HS.out _ b0) ?_ ?_
      rotate_left
      ·rintro w9 ⟨t0, t1, t2, t3, t4⟩
       go_simp
       try with_reducible rfl
      try simp only [Act.put, List.setIfInBounds_toArray, List.set_cons_zero, List.set_cons_succ]
      refine fan_take (i := 6) (v := ?_) rfl (by kernel_rfl) (fun _ _ _ _ h => h) (by kernel_rfl) (HS.out _ b0) ?_ ?_
      rotate_left
      ·rintro w9 ⟨t0, t1, t2, t3, t4⟩
       go_simp
       try with_reducible rfl
      try simp only [Act.put, List.setIfInBounds_toArray, List.set_cons_zero, List.set_cons_succ]
      refine fan_take (i := 7) (v := ?_) rfl (by kernel_rfl) (fun _ _ _ _ h => h) (by kernel_rfl) (HS.out _ b0) ?_ ?_
      rotate_left
      ·rintro w9 ⟨t0, t1, t2, t3, t4⟩
       go_simp
       try with_reducible rfl
      try simp only [Act.put, List.setIfInBounds_toArray, List.set_cons_zero, List.set_cons_succ]
      refine fan_take (i := 8) (v := ?_) rfl (by kernel_rfl) (fun _ _ _ _ h => h) (by kernel_rfl) (HS.out _ b0) ?_ ?_
      rotate_left
      ·rintro w9 ⟨t0, t1, t2, t3, t4⟩
       go_simp
       try with_reducible rfl
      try simp only [Act.put, List.setIfInBounds_toArray, List.set_cons_zero, List.set_cons_succ]
      refine fan_take (i := 9) (v := ?_) rfl (by kernel_rfl) (fun _ _ _ _ h => h) (by kernel_rfl) (HS.out _ b0) ?_ ?_
      rotate_left
      ·rintro w9 ⟨t0, t1, t2, t3, t4⟩
       go_simp
       try with_reducible rfl
      try simp only [Act.put, List.setIfInBounds_toArray, List.set_cons_zero, List.set_cons_succ]
      refine fan_take (i := 10) (v := ?_) rfl (by kernel_rfl) (fun _ _ _ _ h => h) (by kernel_rfl) (HS.out _ b0) ?_ ?_
      rotate_left
      ·rintro w9 ⟨t0, t1, t2, t3, t4⟩
       go_simp
       try with_reducible rfl
      try simp only [Act.put, List.setIfInBounds_toArray, List.set_cons_zero, List.set_cons_succ]
      refine fan_take (i := 11) (v := ?_) rfl (by kernel_rfl) (fun _ _ _ _ h => h) (by kernel_rfl) (HS.out _ b0) ?_ ?_
      rotate_left
      ·rintro w9 ⟨t0, t1, t2, t3, t4⟩
       go_simp
       try with_reducible rfl
      try simp only [Act.put, List.setIfInBounds_toArray, List.set_cons_zero, List.set_cons_succ]
      refine fan_take (i := 13) (v := ?_) rfl (by kernel_rfl) (fun _ _ _ _ h => h) (by kernel_rfl) (HS.out _ b0) ?_ ?_
      rotate_left
      ·rintro w9 ⟨t0, t1, t2, t3, t4⟩
       go_simp
       try with_reducible rfl
      try simp only [Act.put, List.setIfInBounds_toArray, List.set_cons_zero, List.set_cons_succ]
      refine fan_one 1 (by kernel_rfl) ?_
      refine fan_step rfl (by kernel_rfl) fun K hK => ?_
      refine wp_call_of 33 _ _ (by rfl) #[.agg #[.int .i64 root, .int .i64 next, .slice pa pn pc]] (by simp [Act.eval]) (Tryz.call33 _ _) (KP.out _ b0) ?_
      rintro e c1 ⟨a6, c6, rfl, o6, bF⟩
      have b1 := b0.trans (bF.mono b0.size)
      clear bF
      refine ⟨_, rfl, hK _ _ (HS.out _ b1) ?_⟩
      clear hK K
      try simp only [Act.put, List.setIfInBounds_toArray, List.set_cons_zero, List.set_cons_succ]
      refine fan_one 12 (by kernel_rfl) ?_
      refine fan_step rfl (by kernel_rfl) fun K hK => ?_
      refine wp_call_of 32 _ _ (by rfl) #[.agg #[.int .i64 root, .int .i64 next, .slice a6 pn c6], st key, st val] (by simp [Act.eval]) (Tryz.call32 _ _) (KE.out _ _ _ o6.rd) ?_
      rintro e c2 ⟨rfl, bF⟩
      have b2 := b1.trans (bF.mono b1.size)
      clear bF
      refine ⟨_, rfl, hK _ _ (HS.out _ b2) ?_⟩
      clear hK K
      try simp only [Act.put, List.setIfInBounds_toArray, List.set_cons_zero, List.set_cons_succ]
      refine fan_done (by kernel_rfl) ?_
      show wpList _ _ _ _ _ _
      have KN2 := hide (pnum10_any c2 err)
      have FIN := hide (TC.out.to b2).succ
      clear b2 b1 b0 o6 KP KE
      have hee : (err != err) = false := by simp
      go_wp2_with fail
      refine KN2.out.mono ?_
      rintro e w7 ⟨rfl, rfl⟩
      go_wp2
      go_roundw
      case rel => exact ⟨k + 1, _, rfl, by omega, by omega, by go_num, ⟨t, _, _, FIN.out⟩⟩
      case measure => simp [intOf]; omega
   ·have hq0 : (wh == 0) = false := by simpa using h0
    go_upto_region 12 with fail
    have KU : Hid (∀ w9, Below wr.heap.size wr w9 → Calls Tryz.prog 21 #[.agg #[.int .i64 root, .int .i64 next, .slice pa pn pc], st key] w9 fun e w6 => ∃ u ua un9 uc was err, e = .returned (.tuple #[.agg #[.int .i64 u.root, .int .i64 u.next, .slice ua un9 uc], .bool was, .int .i64 err]) ∧ DelB w9.heap.size w6 t key u (.slice ua un9 uc) was err ∧ Below w9.heap.size w9 w6) := fun w9 b9 => by
     have h9 := pdel_any w9 t (.slice pa pn pc) key (hB.out.bu.to b9).own.rd hB.out.bu.big hB.out.bu.rwf hkl.out
     dsimp only [tv] at h9
     rw [← hrn.out, ← hnn.out] at h9
     exact Calls.mono h9 fun e w6 h => h.to
    go_cut [10, 11, 12] from 16 to 129 (fun pp qq ee wx => ∃ (g7 : Nat) (u : Tr) (ua : Option Addr) (un9 uc : Nat) (was : Bool) (err : Int), pp = .pointer (some ⟨g7, 0, none⟩) ∧ qq = .bool was ∧ ee = .int .i64 err ∧ Hid (Below wr.heap.size wr wx ∧ wx.heap[g7]? = some (.cells #[.int .i64 u.root, .int .i64 u.next, .slice ua un9 uc] 28 (0, 0)) ∧ DelB wr.heap.size wx t key u (.slice ua un9 uc) was err ∧ wr.heap.size ≤ g7))
    case first =>
     have HS := HSF
     have b0 : Below wr.heap.size wr wr.drew := (Below.refl _ _).drew
     refine wp_region_fan (fun w9 => w9.cell? ⟨g5, 0, none⟩ = some (.int .i64 root) ∧ w9.cell? ⟨g5, 1, none⟩ = some (.int .i64 next) ∧ w9.cell? ⟨g5, 2, none⟩ = some (.slice pa pn pc) ∧ w9.cell? ⟨sb, so + k * 3 + 1, none⟩ = some (st key) ∧ w9.cell? ⟨sb, so + k * 3 + 2, none⟩ = some (st val)) 14 mixed (by simp) ?_
     generalize wr.drew = c0 at *
     clear A0 A1 A2 AF s0 s1 s2
     refine fan_take (i := 0) (v := ?_) rfl (by kernel_rfl) (fun _ _ _ _ h => h) (by kernel_rfl) (HS.out _ b0) ?_ ?_
     rotate_left
     ·rintro w9 ⟨t0, t1, t2, t3, t4⟩
      go_simp
      try with_reducible rfl
     try simp only [Act.put, List.setIfInBounds_toArray, List.set_cons_zero, List.set_cons_succ]
     refine fan_take (i := 1) (v := ?_) rfl (by kernel_rfl) (fun _ _ _ _ h => h) (by kernel_rfl) (HS.out _ b0) ?_ ?_
     rotate_left
     ·rintro w9 ⟨t0, t1, t2, t3, t4⟩
      go_simp
      try with_reducible rfl
     try simp only [Act.put, List.setIfInBounds_toArray, List.set_cons_zero, List.set_cons_succ]
     refine fan_take (i := 2) (v := ?_) rfl (by kernel_rfl) (fun _ _ _ _ h => h) (by kernel_rfl) (HS.out _ b0) ?_ ?_
     rotate_left
     ·rintro w9 ⟨t0, t1, t2, t3, t4⟩
      go_simp
      try with_reducible rfl
     try simp only [Act.put, List.setIfInBounds_toArray, List.set_cons_zero, List.set_cons_succ]
     refine fan_take (i := 3) (v := ?_) rfl (by kernel_rfl) (fun _ _ _ _ h => h) (by kernel_rfl) (HS.out _ b0) ?_ ?_
     rotate_left
     ·rintro w9 ⟨t0, t1, t2, t3, t4⟩
      go_simp
      try with_reducible rfl
     try simp only [Act.put, List.setIfInBounds_toArray, List.set_cons_zero, List.set_cons_succ]
     refine fan_take (i := 4) (v := ?_) rfl (by kernel_rfl) (fun _ _ _ _ h => h) (by kernel_rfl) (HS.out _ b0) ?_ ?_
     rotate_left
     ·rintro w9 ⟨t0, t1, t2, t3, t4⟩
      go_simp
      try with_reducible rfl
     try simp only [Act.put, List.setIfInBounds_toArray, List.set_cons_zero, List.set_cons_succ]
     refine fan_take (i := 5) (v := ?_) rfl (by kernel_rfl) (fun _ _ _ _ h => h) (by kernel_rfl) (HS.out _ b0) ?_ ?_
     rotate_left
     ·rintro w9 ⟨t0, t1, t2, t3, t4⟩
      go_simp
      try with_reducible rfl
     try simp only [Act.put, List.setIfInBounds_toArray, List.set_cons_zero, List.set_cons_succ]
     refine fan_two 6 11 (by kernel_rfl) ?_ ?_
     ·
      refine fan_step rfl (by kernel_rfl) fun K hK => ?_
      refine wp_call_of 21 _ _ (by rfl) #[.agg #[.int .i64 root, .int .i64 next, .slice pa pn pc], st key] (by simp [Act.eval]) (Tryz.call21 _ _) (KU.out _ b0) ?_
      rintro e c2 ⟨u, ua, un9, uc, was, err, rfl, pB, bF⟩
      have b2 := b0.trans (bF.mono b0.size)
      replace pB := pB.base (B := wr.heap.size) b0.size
      clear bF
      refine ⟨_, rfl, hK _ _ (HS.out _ b2) ?_⟩
      clear hK K
      try simp only [Act.put, List.setIfInBounds_toArray, List.set_cons_zero, List.set_cons_succ]
      refine fan_take (i := 7) (v := ?_) rfl (by kernel_rfl) (fun _ _ _ _ h => h) (by kernel_rfl) (HS.out _ b2) ?_ ?_
      rotate_left
      ·rintro w9 ⟨t0, t1, t2, t3, t4⟩
       go_simp
       try with_reducible rfl
      try simp only [Act.put, List.setIfInBounds_toArray, List.set_cons_zero, List.set_cons_succ]
      refine fan_take (i := 8) (v := ?_) rfl (by kernel_rfl) (fun _ _ _ _ h => h) (by kernel_rfl) (HS.out _ b2) ?_ ?_
      rotate_left
      ·rintro w9 ⟨t0, t1, t2, t3, t4⟩
       go_simp
       try with_reducible rfl
      try simp only [Act.put, List.setIfInBounds_toArray, List.set_cons_zero, List.set_cons_succ]
      refine fan_take (i := 9) (v := ?_) rfl (by kernel_rfl) (fun _ _ _ _ h => h) (by kernel_rfl) (HS.out _ b2) ?_ ?_
      rotate_left
      ·rintro w9 ⟨t0, t1, t2, t3, t4⟩
       go_simp
       try with_reducible rfl
      try simp only [Act.put, List.setIfInBounds_toArray, List.set_cons_zero, List.set_cons_succ]
      refine fan_take (i := 10) (v := ?_) rfl (by kernel_rfl) (fun _ _ _ _ h => h) (by kernel_rfl) (HS.out _ b2) ?_ ?_
      rotate_left
      ·rintro w9 ⟨t0, t1, t2, t3, t4⟩
       go_simp
       try with_reducible rfl
      try simp only [Act.put, List.setIfInBounds_toArray, List.set_cons_zero, List.set_cons_succ]
      refine fan_one 11 (by kernel_rfl) ?_
      refine fan_step rfl (by kernel_rfl) fun K hK => ?_
      go_simp
      obtain ⟨c3, hc, h7, bc, sc⟩ := boxedN c2 #[.int .i64 0, .int .i64 0, .slice none 0 0] 28
      rw [← hc]
      have b3 := b2.trans (bc.mono b2.size)
      obtain ⟨g7, hg⟩ : ∃ g, g = c2.heap.size := ⟨_, rfl⟩
      rw [← hg] at h7
      rw [← hg]
      have lg7 : wr.heap.size ≤ g7 := by have := b2.size; omega
      replace pB := pB.to bc
      refine hK _ _ (HS.out _ b3) ?_
      clear hK K hc bc sc hg
      try simp only [Act.put, List.setIfInBounds_toArray, List.set_cons_zero, List.set_cons_succ]
      refine fan_one 12 (by kernel_rfl) ?_
      have y9 := cells3p h7
      obtain ⟨⟨y0, y1, y2⟩, yF⟩ := y9
      refine fan_step rfl (by kernel_rfl) fun K hK => ?_
      go_simp
      obtain ⟨d1, hd⟩ : ∃ d, d = ((c3.setCell ⟨g7, 0, none⟩ (.int .i64 u.root)).setCell ⟨g7, 1, none⟩ (.int .i64 u.next)).setCell ⟨g7, 2, none⟩ (.slice ua un9 uc) := ⟨_, rfl⟩
      rw [← hd]
      have e1 : Below wr.heap.size wr d1 := by rw [hd]; exact below_set3t b3 lg7 _ _ _
      have i7 : d1.heap[g7]? = some (.cells #[(.int .i64 u.root), (.int .i64 u.next), (.slice ua un9 uc)] 28 (0, 0)) := by rw [hd]; exact heap_set3t h7 _ _ _
      have kd := fun e (he : e ≠ 28) => s3_keep9 h7 (.int .i64 u.root) (.int .i64 u.next) (.slice ua un9 uc) he
      rw [← hd] at kd
      have pD := pB.keep kd
      refine hK _ _ (HS.out _ e1) ?_
      clear hK K y0 y1 y2 yF hd kd
      try simp only [Act.put, List.setIfInBounds_toArray, List.set_cons_zero, List.set_cons_succ]
      refine fan_take (i := 13) (v := ?_) rfl (by kernel_rfl) (fun _ _ _ _ h => h) (by kernel_rfl) (HS.out _ e1) ?_ ?_
      rotate_left
      ·rintro w9 ⟨t0, t1, t2, t3, t4⟩
       go_simp
       try with_reducible rfl
      try simp only [Act.put, List.setIfInBounds_toArray, List.set_cons_zero, List.set_cons_succ]
      refine fan_done (by kernel_rfl) ?_
      show wpList _ _ _ _ _ _
      have FIN := hide (And.intro e1 (And.intro i7 (And.intro pD lg7)))
      clear e1 i7 pD pB lg7 h7
      go_wp2_with fail
      go_meet
      exact ⟨g7, u, _, _, _, was, err, rfl, rfl, rfl, FIN⟩
     ·
      refine fan_step rfl (by kernel_rfl) fun K hK => ?_
      go_simp
      obtain ⟨c2, hc, h7, bc, sc⟩ := boxedN c0 #[.int .i64 0, .int .i64 0, .slice none 0 0] 28
      rw [← hc]
      have b2 := b0.trans (bc.mono b0.size)
      obtain ⟨g7, hg⟩ : ∃ g, g = c0.heap.size := ⟨_, rfl⟩
      rw [← hg] at h7
      rw [← hg]
      have lg7 : wr.heap.size ≤ g7 := by have := b0.size; omega
      refine hK _ _ (HS.out _ b2) ?_
      clear hK K hc bc sc hg
      try simp only [Act.put, List.setIfInBounds_toArray, List.set_cons_zero, List.set_cons_succ]
      refine fan_one 6 (by kernel_rfl) ?_
      refine fan_step rfl (by kernel_rfl) fun K hK => ?_
      refine wp_call_of 21 _ _ (by rfl) #[.agg #[.int .i64 root, .int .i64 next, .slice pa pn pc], st key] (by simp [Act.eval]) (Tryz.call21 _ _) (KU.out _ b2) ?_
      rintro e c3 ⟨u, ua, un9, uc, was, err, rfl, pB, bF⟩
      have b3 := b2.trans (bF.mono b2.size)
      replace pB := pB.base (B := wr.heap.size) b2.size
      replace h7 := (bF.block _ (lt_of_block h7)).trans h7
      clear bF
      refine ⟨_, rfl, hK _ _ (HS.out _ b3) ?_⟩
      clear hK K
      try simp only [Act.put, List.setIfInBounds_toArray, List.set_cons_zero, List.set_cons_succ]
      refine fan_take (i := 7) (v := ?_) rfl (by kernel_rfl) (fun _ _ _ _ h => h) (by kernel_rfl) (HS.out _ b3) ?_ ?_
      rotate_left
      ·rintro w9 ⟨t0, t1, t2, t3, t4⟩
       go_simp
       try with_reducible rfl
      try simp only [Act.put, List.setIfInBounds_toArray, List.set_cons_zero, List.set_cons_succ]
      refine fan_take (i := 8) (v := ?_) rfl (by kernel_rfl) (fun _ _ _ _ h => h) (by kernel_rfl) (HS.out _ b3) ?_ ?_
      rotate_left
      ·rintro w9 ⟨t0, t1, t2, t3, t4⟩
       go_simp
       try with_reducible rfl
      try simp only [Act.put, List.setIfInBounds_toArray, List.set_cons_zero, List.set_cons_succ]
      refine fan_take (i := 9) (v := ?_) rfl (by kernel_rfl) (fun _ _ _ _ h => h) (by kernel_rfl) (HS.out _ b3) ?_ ?_
      rotate_left
      ·rintro w9 ⟨t0, t1, t2, t3, t4⟩
       go_simp
       try with_reducible rfl
      try simp only [Act.put, List.setIfInBounds_toArray, List.set_cons_zero, List.set_cons_succ]
      refine fan_take (i := 10) (v := ?_) rfl (by kernel_rfl) (fun _ _ _ _ h => h) (by kernel_rfl) (HS.out _ b3) ?_ ?_
      rotate_left
      ·rintro w9 ⟨t0, t1, t2, t3, t4⟩
       go_simp
       try with_reducible rfl
      try simp only [Act.put, List.setIfInBounds_toArray, List.set_cons_zero, List.set_cons_succ]
      refine fan_one 12 (by kernel_rfl) ?_
      have y9 := cells3p h7
      obtain ⟨⟨y0, y1, y2⟩, yF⟩ := y9
      refine fan_step rfl (by kernel_rfl) fun K hK => ?_
      go_simp
      obtain ⟨d1, hd⟩ : ∃ d, d = ((c3.setCell ⟨g7, 0, none⟩ (.int .i64 u.root)).setCell ⟨g7, 1, none⟩ (.int .i64 u.next)).setCell ⟨g7, 2, none⟩ (.slice ua un9 uc) := ⟨_, rfl⟩
      rw [← hd]
      have e1 : Below wr.heap.size wr d1 := by rw [hd]; exact below_set3t b3 lg7 _ _ _
      have i7 : d1.heap[g7]? = some (.cells #[(.int .i64 u.root), (.int .i64 u.next), (.slice ua un9 uc)] 28 (0, 0)) := by rw [hd]; exact heap_set3t h7 _ _ _
      have kd := fun e (he : e ≠ 28) => s3_keep9 h7 (.int .i64 u.root) (.int .i64 u.next) (.slice ua un9 uc) he
      rw [← hd] at kd
      have pD := pB.keep kd
      refine hK _ _ (HS.out _ e1) ?_
      clear hK K y0 y1 y2 yF hd kd
      try simp only [Act.put, List.setIfInBounds_toArray, List.set_cons_zero, List.set_cons_succ]
      refine fan_take (i := 13) (v := ?_) rfl (by kernel_rfl) (fun _ _ _ _ h => h) (by kernel_rfl) (HS.out _ e1) ?_ ?_
      rotate_left
      ·rintro w9 ⟨t0, t1, t2, t3, t4⟩
       go_simp
       try with_reducible rfl
      try simp only [Act.put, List.setIfInBounds_toArray, List.set_cons_zero, List.set_cons_succ]
      refine fan_done (by kernel_rfl) ?_
      show wpList _ _ _ _ _ _
      have FIN := hide (And.intro e1 (And.intro i7 (And.intro pD lg7)))
      clear e1 i7 pD pB lg7 h7
      go_wp2_with fail
      go_meet
      exact ⟨g7, u, _, _, _, was, err, rfl, rfl, rfl, FIN⟩
    case rest =>
     obtain ⟨g7, u, ua, un9, uc, was, err, rfl, rfl, rfl, hC⟩ := hcut
     have TC := hide (hB.out.to hC.out.1)
     have hwl := (tprs_num hB.out.bu.prs).2.1
     have KW := hide (rwo_any wc wv want key (OwnP.rd TC.out.bu.wnt) (by omega))
     obtain ⟨IS, hIS⟩ : ∃ b, b = phas want key := ⟨_, rfl⟩
     rw [← hIS] at KW
     replace hIS := hide hIS
     clear A0 A1 A2 AF s0 s1 s2 KU hwl
     obtain ⟨_, _, _, s1, s2⟩ := HSF.out wc hC.out.1
     go_wp2_with fail
     refine KW.out.mono ?_
     rintro e w4 ⟨v4, rfl, o4, b4⟩
     have T4 := hide (TC.out.to b4)
     have G7 := hide ((b4.block _ (lt_of_block hC.out.2.1)).trans hC.out.2.1)
     have KN := hide (pnum10_any w4 err)
     clear s1 s2
     obtain ⟨_, _, _, s1, s2⟩ := HSF.out w4 (hC.out.1.trans (b4.mono hC.out.1.size))
     have O4 := hide o4
     have B4 := hide b4
     clear o4 b4 KW
     go_wp2_with fail
     refine KN.out.mono ?_
     rintro e w5 ⟨rfl, rfl⟩
     by_cases herr : err = 0
     ·subst herr
      rcases hC.out.2.2.1 with ⟨q, _⟩ | ⟨_, q2, q3, ps, q4, q5, q6⟩
      ·exact absurd rfl q
      obtain rfl : ps = want := Option.some.inj (q4.symm.trans hB.out.bu.prs)
      obtain rfl : was = IS := q5.trans hIS.out.symm
      have hbb : (was != was) = false := by simp
      have FIN := hide (T4.out.put hg5.out q6 (OwnPg.base (q3.to9 B4.out) hB.out.bel.size) (rows_mono O4.out TC.out.bel.size) (by have := pdel_len key ps; omega))
      obtain ⟨⟨J0, J1, J2⟩, JF⟩ := cells3p T4.out.tb
      obtain ⟨⟨U0, U1, U2⟩, _⟩ := cells3p G7.out
      replace q2 := hide q2
      replace q5 := hide q5
      clear q3 q4 q6 KN s1 s2
      go_wp2
      go_roundw
      case rel => exact ⟨k + 1, _, rfl, by omega, by omega, by go_num, ⟨u, _, _, FIN.out⟩⟩
      case measure => simp [intOf]; omega
     ·have hne : (err != 0) = true := by simpa using herr
      have htk : tkey key = false := by
       rcases hC.out.2.2.1 with ⟨_, q⟩ | ⟨q, _⟩
       ·rcases q with q | q | q
        ·rw [hB.out.bu.prs] at q; cases q
        ·exact q
        ·exfalso; have := hn16.out; omega
       ·exact absurd q herr
      have htl : ¬ (1 ≤ key.length ∧ key.length ≤ 32) := by unfold tkey at htk; exact of_decide_eq_false htk
      have FIN := hide T4.out.succ
      replace herr := hide herr
      replace htk := hide htk
      by_cases k1 : 1 ≤ key.length
      ·have k1' : (key.length : Int) ≥ 1 := by omega
       have k2' : ¬ (key.length : Int) ≤ 32 := by omega
       replace htl := hide htl
       go_wp2
       go_roundw
       case rel => exact ⟨k + 1, _, rfl, by omega, by omega, by go_num, ⟨t, _, _, FIN.out⟩⟩
       case measure => simp [intOf]; omega
      ·have k1' : ¬ (key.length : Int) ≥ 1 := by omega
       replace htl := hide htl
       go_wp2
       go_roundw
       case rel => exact ⟨k + 1, _, rfl, by omega, by omega, by go_num, ⟨t, _, _, FIN.out⟩⟩
       case measure => simp [intOf]; omega
  ·have hz : ¬ k < L ∨ (k < L ∧ ¬ k < 400) := by omega
   have HRB := hide hB.out.rb
   obtain ⟨⟨J0, J1, J2⟩, JF⟩ := cells3p HRB.out
   have ks := fun e (he : e ≠ 28) => s3_keep9 HRB.out (.int .i64 root) (.int .i64 next) (.slice pa pn pc) he
   have FIN := hide (And.intro ((hB.out.bu.keep ks).more hk4) (below_set3t hB.out.bel (Nat.le_refl _) (.int .i64 root) (.int .i64 next) (.slice pa pn pc)))
   clear ks hI
   rcases hz with hz | ⟨hz, hz4⟩
   ·have hq : ¬ (k : Int) < (L : Int) := by omega
    go_wp2
    refine retNTT rfl rfl w.heap.size rfl _ _ (0, 0) (heap_set3t HRB.out _ _ _) _ Tryz.underlying28 rfl info_tr _ rfl _ rfl ?_
    exact ⟨t, .slice pa pn pc, want, wv, by rw [hrn.out, hnn.out]; rfl, FIN.out.1, FIN.out.2⟩
   ·have hq : (k : Int) < (L : Int) := by omega
    have hq4 : ¬ (k : Int) < 400 := by omega
    go_wp2
    refine retNTT rfl rfl w.heap.size rfl _ _ (0, 0) (heap_set3t HRB.out _ _ _) _ Tryz.underlying28 rfl info_tr _ rfl _ rfl ?_
    exact ⟨t, .slice pa pn pc, want, wv, by rw [hrn.out, hnn.out]; rfl, FIN.out.1, FIN.out.2⟩
end Go.Proofs.YtpiikmkajckccaaGreat
