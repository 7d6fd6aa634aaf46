/- Several texts in one: TPG TPH TAl TRk TBA TBB TBC TCut TMid TRow TBr TBD TBE TRep TReq TRes. -/
import Derived.Deep.QuietTactic
import Derived.BigQuiet
import Derived.Laws.Cover1
import Derived.Test.YtgmkknonnidgaaaGreatGoLTOwn3
import Derived.Laws.StructEq
import Derived.OwnWalkIn
import Derived.Test.YtgmkknonnidgaaaGreatGoLTOwn1
import Derived.Laws.CopyOwn
import Derived.Laws.OwnMore
import Derived.Lib.AppendZerosOnto
import Derived.Lib.Overlaps
import Derived.Laws.Externs
set_option linter.unusedVariables false
set_option linter.unusedSimpArgs false
namespace Go.Proofs.YtgmkknonnidgaaaGreat
open Go.RowKit
theorem wpList_appQ {ops : Array Oper} {rest : List Oper} {o : Oper} {a : Act} {w : World} {Q : Exit → Act → World → Prop} (hgd : o.guard = none) (s x : Operand)
  (ho : o.op = .call { callee := .builtin .append, args := #[s, x], argTypes := #[28, 28] }) (B : Nat) (v : Value) (xs : List Pr) (y : Pr) (g : Nat) (hs : a.eval s = v) (hx : a.eval x = .slice (some ⟨g, 0, none⟩) 1 1)
  (hown : OwnP B w v xs) (hc1 : w.cell? ⟨g, 0, none⟩ = some (st y.1)) (hc2 : w.cell? ⟨g, 1, none⟩ = some (st y.2)) (hlen : (xs.length + 1) * 32 ≤ 140737488355328) (hB : B ≤ w.heap.size)
  (h : ∀ v' w', OwnP B w' v' (xs ++ [y]) → w.grownBy w' v.ownBlock → wpList Tryz.prog ops Q rest (a.put o.dst v') w') : wpList Tryz.prog ops Q (o :: rest) a w := by
 obtain ⟨i0, hi, hz0, hz1, hz2⟩ := info_parts infoP
 have n2 : ∀ j u, (pcl [y])[j]? = some u → w.cell? ((⟨g, 0, none⟩ : Addr).add j) = some u := by
  intro j u hj
  match j, hj with
  | 0, hj => simp [pcl] at hj; subst hj; simpa [Addr.add] using hc1
  | 1, hj => simp [pcl] at hj; subst hj; simpa [Addr.add] using hc2
  | j + 2, hj => simp [pcl] at hj
 refine wpList_append_own _ hgd s x 28 ho B 62 i0 (.agg #[.string ⟨#[]⟩, .string ⟨#[]⟩]) 2 32 Tryz.underlying28 hi hz0 hz1 hz2 rfl (by decide) v xs.length (pcl xs) hs hown ⟨g, 0, none⟩ 1 1 (pcl [y]) hx rfl n2 (one_pcl [y])
  (by rw [show maxLen = 9223372036854775807 from rfl]; omega) hlen hB ?_
 intro v' w' h1 h2 _
 refine h v' w' ?_ h2
 show World.ownsRow _ _ _ _ _ _ _
 rw [pcl_app]
 simpa using h1
structure KSc (C : Nat) (w w' : World) : Prop where
 typ : ∀ e, e ≠ 28 → e ≠ 62 → KeepT e w w'
 map : ∀ (b : Nat) es c, w.heap[b]? = some (.map es c) → w'.heap[b]? = some (.map es c)
 bel : Below C w w'
theorem KSc.of {C : Nat} {w w' : World} (h : Below w.heap.size w w') (hC : C ≤ w.heap.size) : KSc C w w' := ⟨fun e _ _ => KeepT.below h, fun b es c x => (h.block b (lt_of_block x)).trans x, h.mono hC⟩
theorem KSc.refl (C : Nat) (w : World) : KSc C w w := ⟨fun e _ _ => KeepT.refl _ _, fun b es c x => x, Below.refl _ _⟩
theorem KSc.trans {C : Nat} {a b c : World} (h : KSc C a b) (k : KSc C b c) : KSc C a c := ⟨fun e h1 h2 => (h.typ e h1 h2).trans (k.typ e h1 h2), fun i es q x => k.map i es q (h.map i es q x), h.bel.trans k.bel⟩
theorem KSc.app {C : Nat} {w w' : World} {v : Value} {xs : List Pr} {B : Nat} (ho : OwnP B w v xs) (hg : w.grownBy w' v.ownBlock) (hB : C ≤ B) (hC : C ≤ w.heap.size) : KSc C w w' := by
 refine ⟨fun e _ h2 => KeepT.grown ho hg h2, fun b es c x => ?_, (Below.refl _ _).grown hg hC (fun k hk => Nat.le_trans hB (World.ownsRow.lt ho k hk).1)⟩
 refine (hg.block b (lt_of_block x) fun h => ?_).trans x
 rcases ho.2 with ⟨hn, _⟩ | ⟨g, cap, cur, hv, _, hg', _⟩
 ·rw [hn] at h; cases h
 ·rw [hv] at h
  simp only [Value.ownBlock, Option.some.injEq] at h
  subst h
  rw [x] at hg'
  cases hg'
theorem KSc.set {C : Nat} {w : World} {g : Nat} {cs : Array Value} (h : w.heap[g]? = some (.cells cs 28 (0, 0))) (hC : C ≤ g) (i : Nat) (x : Value) : KSc C w (w.setCell ⟨g, i, none⟩ x) := by
 refine ⟨fun e h1 _ => KeepT.set (a := ⟨g, i, none⟩) h h1 x, fun b es c y => ?_, (Below.refl _ _).setCell hC _⟩
 refine (Below.heap_setCell _ _ _ _ fun h' => ?_).trans y
 dsimp only at h'
 rw [h', h] at y
 cases y
structure ScI (C : Nat) (w : World) (ga gp : Nat) (fr tw : Str) (out : List Pr) : Prop where
 ask : w.heap[ga]? = some (.cells #[st fr, st tw] 72 (0, 0))
 var : ∃ v, w.heap[gp]? = some (.cells #[v] 28 (0, 0)) ∧ OwnP C w v out
 hC : C ≤ gp
theorem ScI.to {C : Nat} {w w' : World} {ga gp : Nat} {fr tw : Str} {out : List Pr} (h : ScI C w ga gp fr tw out) (b : Below w.heap.size w w') : ScI C w' ga gp fr tw out := by
 obtain ⟨v, h1, h2⟩ := h.var
 exact ⟨(b.block _ (lt_of_block h.ask)).trans h.ask, ⟨v, (b.block _ (lt_of_block h1)).trans h1, rows_to h2 b⟩, h.hC⟩
theorem ScI.app {C : Nat} {w wA w5 : World} {ga gp : Nat} {fr tw : Str} {out : List Pr} {y : Pr} {v v5 : Value} (h : ScI C w ga gp fr tw out) (hv : w.heap[gp]? = some (.cells #[v] 28 (0, 0))) (ho : OwnP C w v out) (bA : Below w.heap.size w wA) (hC : C ≤ w.heap.size)
  (o5 : OwnP C w5 v5 (out ++ [y])) (g5 : wA.grownBy w5 v.ownBlock) : ScI C (w5.setCell ⟨gp, 0, none⟩ v5) ga gp fr tw (out ++ [y]) ∧ KSc C w (w5.setCell ⟨gp, 0, none⟩ v5) ∧ w5.cell? ⟨gp, 0, none⟩ = some v ∧ w5.frozen? ⟨gp, 0, none⟩ = false := by
 have k1 := KSc.of bA hC
 have k2 := KSc.app (C := C) (rows_to ho bA) g5 (Nat.le_refl _) (Nat.le_trans hC bA.size)
 have hA := (bA.block _ (lt_of_block hv)).trans hv
 have h5 := KeepT.grown (rows_to ho bA) g5 (e := 28) (by decide) _ _ _ hA
 have k3 := KSc.set (C := C) h5 h.hC 0 v5
 refine ⟨⟨(((k1.trans k2).trans k3).typ _ (by decide) (by decide)) _ _ _ h.ask, ⟨v5, ?_, rows_keepT o5 (KeepT.set (a := ⟨gp, 0, none⟩) h5 (by decide) v5)⟩, h.hC⟩, (k1.trans k2).trans k3, cellN h5 rfl, frozN h5 0⟩
 have := heap_setN h5 0 v5
 simpa using this
def hiOf (tw : Str) : Option Str := if tw = [] then none else some tw
theorem hiOf_ok (tw : Str) : HiOk (hiOf tw) ∧ (hiOf tw).getD [] = tw := by
 unfold hiOf HiOk
 by_cases h : tw = []
 ·subst h; simp
 ·simp [h]
theorem pin_kin (fr tw : Str) (y : Pr) : pin fr tw y = kin fr (hiOf tw) y.1 := by
 rw [kin_ok (hiOf_ok tw).1, (hiOf_ok tw).2]; rfl
theorem npr_at {nd : Nd} {k : Nat} {a b : Str} (h1 : nd.keys[k]? = some a) (h2 : nd.vals[k]? = some b) : (npr nd)[k]? = some (a, b) := by simp [npr, List.getElem?_zip_eq_some, h1, h2]
set_option maxRecDepth 100000 in
set_option maxHeartbeats 4000000 in
theorem pscl_any (C : Nat) (w : World) (ga gp : Nat) (fr tw : Str) (out : List Pr) (nd : Nd) (kv vv dv : Value) {B : Nat} (hS : ScI C w ga gp fr tw out) (hC : C ≤ w.heap.size) (hN : OwnN B w kv vv dv nd) (hlv : nd.vals.length = nd.keys.length) (hlen : out.length + (npr nd).length ≤ 4096) :
  Calls Tryz.prog 27 #[nv nd kv vv dv, .pointer (some ⟨ga, 0, none⟩), .pointer (some ⟨gp, 0, none⟩)] w fun e w' => e = .returned (.tuple #[]) ∧ ScI C w' ga gp fr tw (out ++ pscan (npr nd) fr tw) ∧ KSc C w w' := by
 have hnl : (npr nd).length = nd.keys.length := by rw [npr, List.length_zip, hlv, Nat.min_self]
 obtain ⟨X, hX, DX, bX, sX⟩ := boxedN w #[.bool nd.leaf, kv, vv, dv] 76
 have HS := hide (hS.to bX)
 have HK := hide (KSc.of bX hC)
 have HN := hide (hN.to bX)
 have HD := hide DX
 obtain ⟨ka, kc, va, vc, da, dc, rfl, rfl, rfl⟩ := hN.rd.slices
 obtain ⟨⟨E0, E1, E2, E3⟩, EF⟩ := cells4 DX
 rw [hX] at E0 E1 E2 E3 EF
 obtain ⟨K, hK⟩ : ∃ K, K = nd.keys.length := ⟨_, rfl⟩
 have hKb : K ≤ 4096 := by omega
 replace hlen := hide hlen
 replace hnl := hide hnl
 replace hlv := hide hlv
 have hCX : Hid (C ≤ w.heap.size) := hC
 clear hS hN DX bX hC
 dsimp only [nv]
 go_enter Tryz.func27, Tryz.ntmps27
 go_wp2
 rw [← hX]
 rw [← hK] at HD HN ⊢
 replace hX := hide hX
 replace hK := hide hK
 clear E0 E1 E2 E3 EF
 obtain ⟨nb, hnb⟩ : ∃ nb, nb = w.heap.size := ⟨_, rfl⟩
 rw [← hnb] at HD ⊢
 have hCX2 : Hid (C ≤ X.heap.size) := by show _ ≤ _; have := hCX.out; omega
 clear hnb sX
 go_loopw [9] (fun p wr => ∃ i : Nat, i ≤ K ∧ p = .int .i64 i ∧ Hid (ScI C wr ga gp fr tw (out ++ pscan ((npr nd).take i) fr tw) ∧ KSc C X wr)) (fun p _ => K - (intOf p).toNat)
 case atStart => exact ⟨0, Nat.zero_le _, rfl, hide ⟨by simpa [pscan] using HS.out, KSc.refl _ _⟩⟩
 case round =>
  obtain ⟨i, hi, rfl, hI⟩ := hrel
  have D6 := hI.out.2.typ _ (by decide) (by decide) _ _ _ HD.out
  have N6 := HN.out.keepT (hI.out.2.typ _ (by decide) (by decide)) (hI.out.2.typ _ (by decide) (by decide))
  obtain ⟨⟨E0, E1, E2, E3⟩, EF⟩ := cells4 D6
  obtain ⟨⟨A0, A1⟩, AF⟩ := cells2r hI.out.1.ask
  by_cases hlt : i < K
  ·have hq : (i : Int) < (K : Int) := by omega
   obtain ⟨y1, hy1⟩ := some_el nd.keys (k := i) (by rw [← hK.out]; exact hlt)
   obtain ⟨y2, hy2⟩ := some_el nd.vals (k := i) (by rw [hlv.out, ← hK.out]; exact hlt)
   have hpa := hide (npr_at hy1 hy2)
   have hsn := hide (pscan_snoc (npr nd) fr tw hpa.out)
   obtain ⟨b, off, e1, hc1⟩ := N6.rd.keys.strAt hy1
   subst e1
   have KL := hide (placks_any wr fr (hiOf tw) y1 (hiOf_ok tw).1)
   dsimp only [sv] at KL
   rw [(hiOf_ok tw).2, ← pin_kin fr tw (y1, y2)] at KL
   have HD6 := hide D6
   have HN6 := hide N6
   clear D6 N6
   go_wp2_with fail
   refine KL.out.mono ?_
   rintro e w1 ⟨rfl, b1⟩
   have I1 := hide (And.intro (hI.out.1.to b1) (hI.out.2.trans (KSc.of b1 (Nat.le_trans hCX2.out hI.out.2.bel.size))))
   have D7 := (b1.block _ (lt_of_block HD6.out)).trans HD6.out
   have N7 := HN6.out.to b1
   have hC1 : Hid (C ≤ w1.heap.size) := Nat.le_trans (Nat.le_trans hCX2.out hI.out.2.bel.size) b1.size
   clear E0 E1 E2 E3 EF A0 A1 AF hc1 KL hI HD6 HN6 b1
   obtain ⟨⟨E0, E1, E2, E3⟩, EF⟩ := cells4 D7
   cases hp : pin fr tw (y1, y2) with
   | false =>
    rw [hp, if_neg (by simp)] at hsn
    replace hp := hide hp
    go_wp2
    go_roundw
    case rel => exact ⟨i + 1, by omega, by go_num, by rw [hsn.out]; exact I1⟩
    case measure => simp [intOf]; omega
   | true =>
    rw [hp, if_pos rfl, ] at hsn
    obtain ⟨b2, off2, e2, hc2⟩ := N7.rd.vals.strAt hy2
    subst e2
    have hq2 : (i : Int) < (nd.vals.length : Int) := by have := hlv.out; have := hK.out; omega
    obtain ⟨v, v1, v2⟩ := I1.out.1.var
    obtain ⟨cur, hcur⟩ : ∃ c, c = out ++ pscan ((npr nd).take i) fr tw := ⟨_, rfl⟩
    rw [← hcur] at v2
    have hn : (cur.length + 1) * 32 ≤ 140737488355328 := by
     have h1 := List.length_filter_le (pin fr tw) ((npr nd).take i)
     have h2 := List.length_take_le' i (npr nd)
     have h3 := hlen.out
     have h4 : cur.length = out.length + (pscan ((npr nd).take i) fr tw).length := by rw [hcur, List.length_append]
     have h5 : (pscan ((npr nd).take i) fr tw).length ≤ (npr nd).length := Nat.le_trans h1 h2
     omega
    obtain ⟨pa, pc, rfl⟩ := (OwnP.rd v2).slice
    obtain ⟨WA, hWA⟩ : ∃ WA, WA = (w1.alloc (.cells #[st y1, st y2] 62)).drew := ⟨_, rfl⟩
    obtain ⟨wa, hwa, DA, bA0, sA⟩ := boxedN w1 #[st y1, st y2] 62
    have bA : Below w1.heap.size w1 WA := by rw [hWA, ← hwa]; exact bA0.trans (below_drewN' wa 1 _)
    have nc0 : WA.cell? ⟨w1.heap.size, 0, none⟩ = some (st y1) := by rw [hWA, ← hwa]; exact ((below_drewN' wa 1 wa.heap.size).cell (p := ⟨w1.heap.size, _, none⟩) (lt_of_block DA)).trans (cellN DA rfl)
    have nc1 : WA.cell? ⟨w1.heap.size, 1, none⟩ = some (st y2) := by rw [hWA, ← hwa]; exact ((below_drewN' wa 1 wa.heap.size).cell (p := ⟨w1.heap.size, _, none⟩) (lt_of_block DA)).trans (cellN DA rfl)
    have hsz : C ≤ WA.heap.size := Nat.le_trans hC1.out bA.size
    obtain ⟨Lc, hLc⟩ : ∃ L, L = cur.length := ⟨_, rfl⟩
    have hOW : OwnP C WA (.slice pa Lc pc) cur := by rw [hLc]; exact rows_to v2 bA
    have FIN : ∀ v5 w5, OwnP C w5 v5 (cur ++ [(y1, y2)]) → WA.grownBy w5 (Value.slice pa Lc pc).ownBlock →
      Hid (ScI C (w5.setCell ⟨gp, 0, none⟩ v5) ga gp fr tw (out ++ pscan ((npr nd).take (i + 1)) fr tw) ∧ KSc C X (w5.setCell ⟨gp, 0, none⟩ v5)) ∧ w5.cell? ⟨gp, 0, none⟩ = some (.slice pa Lc pc) ∧ w5.frozen? ⟨gp, 0, none⟩ = false := fun v5 w5 o5 g5 => by
     have hs1 := I1.out.1
     rw [← hcur] at hs1
     rw [hLc] at g5
     obtain ⟨a1, a2, a3, a4⟩ := hs1.app v1 v2 bA hC1.out o5 g5
     rw [hsn.out, ← List.append_assoc, ← hcur, hLc]
     exact ⟨⟨a1, I1.out.2.trans a2⟩, a3, a4⟩
    have V1 := cellN v1 (i := 0) rfl
    rw [← hLc] at V1
    rw [hWA] at nc0 nc1 hOW hsz FIN
    replace nc0 := hide nc0
    replace nc1 := hide nc1
    replace hOW := hide hOW
    replace hsz := hide hsz
    replace FIN := hide FIN
    replace hn := hide hn
    replace hp := hide hp
    replace hcur := hide hcur
    replace hLc := hide hLc
    clear hWA hwa DA bA0 sA bA v1 v2
    go_wp2
    refine wp_region_mid (fun w' => w'.cell? ⟨gp, 0, none⟩ = some (.slice pa Lc pc) ∧ w'.cell? ⟨nb, 2, none⟩ = some (.slice (some ⟨b2, off2, none⟩) nd.vals.length vc) ∧ w'.cell? ⟨b2, off2 + i, none⟩ = some (st y2)) 7 9 mixed (by kernel_rfl) (fun _ _ _ _ h => h) ⟨V1, E2, hc2⟩ ?_
    dsimp only [List.take, List.drop]
    iterate 7
     refine take_one (v := ?_) (by rfl) ?_ ?_
     rotate_left
     ·rintro w' ⟨s1, s2, s3⟩
      go_simp
      try with_reducible rfl
     try simp only [Act.put, List.setIfInBounds_toArray, List.set_cons_zero, List.set_cons_succ]
    refine mid_one fun K hK => ?_
    rw [if_pos (by rfl)]
    go_simp
    refine hK _ _ ⟨V1, E2, hc2⟩ ?_
    clear hK K
    refine mid_one fun K hK => ?_
    rw [if_pos (by rfl)]
    go_simp
    refine hK _ _ ⟨cellAl V1 _, cellAl E2 _, cellAl hc2 _⟩ ?_
    clear hK K
    show wpList _ _ _ _ _ _
    refine wpList_appQ rfl _ _ rfl C (.slice pa Lc pc) cur (y1, y2) w1.heap.size rfl rfl hOW.out nc0.out nc1.out hn.out hsz.out ?_
    intro v5 w5 o5 g5
    obtain ⟨a5, c5, h5⟩ := (OwnP.rd o5).slice
    subst h5
    obtain ⟨F1, F2, F3⟩ := FIN.out _ w5 o5 g5
    generalize (cur ++ [(y1, y2)]).length = m5 at *
    clear o5 g5 FIN
    go_wp2
    go_roundw
    case rel => exact ⟨i + 1, by omega, by go_num, F1⟩
    case measure => simp [intOf]; omega
  ·have hq : ¬ (i : Int) < (K : Int) := by omega
   have htk : (npr nd).take i = npr nd := List.take_of_length_le (by rw [hnl.out, ← hK.out]; omega)
   rw [htk] at hI
   clear D6 N6
   go_wp2
   (try simp only [Exit.inBlock, Exit.then])
   first
    | refine bodyPost_ret (results_none rfl _ _ _) rfl ?_
    | refine bodyPost_end (results_none rfl _ _ _) rfl ?_
   exact ⟨rfl, hI.out.1, HK.out.trans hI.out.2⟩
end Go.Proofs.YtgmkknonnidgaaaGreat

namespace Go.Proofs.YtgmkknonnidgaaaGreat
open Go.RowKit
def ndPrs (l : List Wrt) (k : Nat) (nd : Nd) : List Pr := if nd.leaf = true then npr nd else nd.kids.flatMap (prsOf l k)
def SN (l : List Wrt) (S : List Int) (k : Nat) (nd : Nd) : Prop := NOk nd ∧ (nd.leaf = false → ∃ lo hi, ∀ (i : Nat) kid, nd.kids[i]? = some kid → WOk l S k kid (kidLo nd lo i) (kidHi nd hi i))
theorem SN.top {t : Tr} {s : Sw} (ht : twalk t = some s) {nd : Nd} (h : TopIs t nd) : SN t.pages s.seen 15 nd ∧ ndPrs t.pages 15 nd = s.prs := by
 rcases h with ⟨h0, rfl⟩ | ⟨h0, x, h1, h2⟩
 ·refine ⟨⟨nd0_ok, fun h => by cases h⟩, ?_⟩
  unfold twalk at ht
  rw [if_pos h0] at ht
  simp only [Option.some.injEq] at ht
  subst ht
  rfl
 ·obtain ⟨⟨a1, x', nd', b1, b2, b3, b4, b5⟩, c⟩ := root_seen ht h0
  rw [h1] at b1
  simp only [Option.some.injEq] at b1
  subst b1
  rw [h2] at b2
  simp only [Prod.mk.injEq, and_true] at b2
  subst b2
  refine ⟨⟨ndec_ok h2, fun hl => ⟨[], none, b5 hl⟩⟩, ?_⟩
  unfold ndPrs
  cases hl : nd.leaf with
  | true => rw [c, prsOf_leaf h1 h2 hl]; simp
  | false => rw [c, prsOf_inner h1 h2 hl]; simp
theorem SN.kid {l : List Wrt} {S : List Int} {k : Nat} {nd : Nd} (h : SN l S k nd) (hl : nd.leaf = false) {i : Nat} {kid : Int} (hk : nd.kids[i]? = some kid) :
  kid ∈ S ∧ ∃ k' x nd', k = k' + 1 ∧ tpage l kid = some x ∧ ndec x = (nd', 0) ∧ SN l S k' nd' ∧ ndPrs l k' nd' = prsOf l k kid := by
 obtain ⟨lo, hi, h1⟩ := h.2 hl
 have hw := h1 i kid hk
 cases k with
 | zero => exact hw.elim
 | succ k' =>
  obtain ⟨b0, x, nd', b1, b2, b3, b4, b5⟩ := hw
  refine ⟨b0, k', x, nd', rfl, b1, b2, ⟨ndec_ok b2, fun hl' => ⟨_, _, b5 hl'⟩⟩, ?_⟩
  unfold ndPrs
  cases hl' : nd'.leaf with
  | true => rw [prsOf_leaf b1 b2 hl']; simp
  | false => rw [prsOf_inner b1 b2 hl']; simp
theorem PWk.sc {w0 w w' : World} {B g bm C : Nat} {t : Tr} {pv : Value} {s : Sw} {m : Int → Option Value} (h : PWk w0 w B g bm t pv s m) (k : KSc C w w') (hC : w0.heap.size ≤ C) : PWk w0 w' B g bm t pv s m := by
 have hm : w'.heap[bm]? = w.heap[bm]? := by
  obtain ⟨D, ⟨es, c, hb, _⟩, _⟩ := h.map
  rw [hb]; exact k.map _ _ _ hb
 refine ⟨k.typ _ (by decide) (by decide) _ _ _ h.box, h.map.kept hm, h.has, fun i v hv => ?_, h.pg, h.ok, h.dep, h.bel.trans (k.bel.mono hC), h.hg, h.hm, h.apt⟩
 obtain ⟨x, nd, kv, vv, dv, h1, h2, h3, h4, h5⟩ := h.nds i v hv
 exact ⟨x, nd, kv, vv, dv, h1, h2, h3, h4.keepT (k.typ _ (by decide) (by decide)) (k.typ _ (by decide) (by decide)), h5⟩
theorem pscan_app (a b : List Pr) (x y : Str) : pscan (a ++ b) x y = pscan a x y ++ pscan b x y := by unfold pscan; rw [List.filter_append]
theorem pscan_le (a : List Pr) (x y : Str) : (pscan a x y).length ≤ a.length := List.length_filter_le _ _
abbrev clo (ga gp : Nat) : Value := .func (.func 27) #[] #[.pointer (some ⟨ga, 0, none⟩), .pointer (some ⟨gp, 0, none⟩)]
set_option maxRecDepth 100000 in
set_option maxHeartbeats 4000000 in
theorem peach_any (w0 : World) (B g bm C ga gp : Nat) (t : Tr) (pv : Value) (s : Sw) (m : Int → Option Value) (fr tw : Str) (hw0 : w0.heap.size ≤ C) : ∀ (k : Nat) (w : World) (nd : Nd) (kv vv dv : Value) (out : List Pr),
  PWk w0 w B g bm t pv s m → ScI C w ga gp fr tw out → C ≤ w.heap.size → OwnN B w kv vv dv nd → SN t.pages s.seen k nd → out.length + (ndPrs t.pages k nd).length ≤ 4096 →
  Calls Tryz.prog 25 #[.pointer (some ⟨g, 0, none⟩), nv nd kv vv dv, clo ga gp] w fun e w' => e = .returned (.tuple #[]) ∧ ScI C w' ga gp fr tw (out ++ pscan (ndPrs t.pages k nd) fr tw) ∧ KSc C w w' := by
 intro k
 induction k with
 | zero =>
  intro w nd kv vv dv out H hS hC hN hs hlen
  obtain ⟨X, hX, DX, bX, sX⟩ := boxedN w #[.bool nd.leaf, kv, vv, dv] 76
  have HX := hide (H.to bX)
  have SX := hide (hS.to bX)
  have HK := hide (KSc.of bX hC)
  have HN := hide (hN.to bX)
  have HD := hide DX
  have hCX : Hid (C ≤ X.heap.size) := Nat.le_trans hC bX.size
  obtain ⟨ka, kc, va, vc, da, dc, rfl, rfl, rfl⟩ := hN.rd.slices
  obtain ⟨⟨E0, E1, E2, E3⟩, EF⟩ := cells4 DX
  replace hs := hide hs
  clear H hS hN DX bX hC
  dsimp only [nv, clo]
  cases hl : nd.leaf with
  | true =>
   have hlv : nd.vals.length = nd.keys.length := by
    have h1 := hs.out.1.2.1
    unfold ncount at h1
    rw [if_pos hl] at h1
    exact h1.1
   have hnp : Hid (ndPrs t.pages 0 nd = npr nd) := by show _ = _; unfold ndPrs; rw [if_pos hl]
   have KC := hide (pscl_any C X ga gp fr tw out nd _ _ _ SX.out hCX.out HN.out hlv (by rw [← hnp.out]; exact hlen))
   rw [hl] at E0 hX
   dsimp only [nv] at KC
   rw [hl] at KC
   replace hlen := hide hlen
   replace hl := hide hl
   rw [hX] at E0 E1 E2 E3 EF KC
   clear hlv
   go_enter Tryz.func25, Tryz.ntmps25
   go_wp2_with fail
   refine KC.out.mono ?_
   rintro e w1 ⟨rfl, q1, q2⟩
   rw [← hX] at q2
   have Q := hide (And.intro q1 (HK.out.trans q2))
   clear q1 q2 KC E0 E1 E2 E3 EF
   go_wp2
   (try simp only [Exit.inBlock, Exit.then])
   first
    | refine bodyPost_ret (results_none rfl _ _ _) rfl ?_
    | refine bodyPost_end (results_none rfl _ _ _) rfl ?_
   rw [hnp.out]
   exact ⟨rfl, Q.out.1, Q.out.2⟩
  | false =>
   exfalso
   have h1 := kids_len hs.out.1 hl
   obtain ⟨lo, hi, h2⟩ := hs.out.2 hl
   exact h2 0 _ (List.getElem?_eq_getElem (by omega))
 | succ k ih =>
  intro w nd kv vv dv out H hS hC hN hs hlen
  obtain ⟨X, hX, DX, bX, sX⟩ := boxedN w #[.bool nd.leaf, kv, vv, dv] 76
  have HX := hide (H.to bX)
  have SX := hide (hS.to bX)
  have HK := hide (KSc.of bX hC)
  have HN := hide (hN.to bX)
  have HD := hide DX
  have hCX : Hid (C ≤ X.heap.size) := Nat.le_trans hC bX.size
  obtain ⟨ka, kc, va, vc, da, dc, rfl, rfl, rfl⟩ := hN.rd.slices
  obtain ⟨⟨E0, E1, E2, E3⟩, EF⟩ := cells4 DX
  replace hs := hide hs
  replace ih := hide ih
  clear H hS hN DX bX hC
  dsimp only [nv, clo]
  cases hl : nd.leaf with
  | true =>
   have hlv : nd.vals.length = nd.keys.length := by
    have h1 := hs.out.1.2.1
    unfold ncount at h1
    rw [if_pos hl] at h1
    exact h1.1
   have hnp : Hid (ndPrs t.pages (k + 1) nd = npr nd) := by show _ = _; unfold ndPrs; rw [if_pos hl]
   have KC := hide (pscl_any C X ga gp fr tw out nd _ _ _ SX.out hCX.out HN.out hlv (by rw [← hnp.out]; exact hlen))
   rw [hl] at E0 hX
   dsimp only [nv] at KC
   rw [hl] at KC
   replace hlen := hide hlen
   replace hl := hide hl
   rw [hX] at E0 E1 E2 E3 EF KC
   clear hlv
   go_enter Tryz.func25, Tryz.ntmps25
   go_wp2_with fail
   refine KC.out.mono ?_
   rintro e w1 ⟨rfl, q1, q2⟩
   rw [← hX] at q2
   have Q := hide (And.intro q1 (HK.out.trans q2))
   clear q1 q2 KC E0 E1 E2 E3 EF
   go_wp2
   (try simp only [Exit.inBlock, Exit.then])
   first
    | refine bodyPost_ret (results_none rfl _ _ _) rfl ?_
    | refine bodyPost_end (results_none rfl _ _ _) rfl ?_
   rw [hnp.out]
   exact ⟨rfl, Q.out.1, Q.out.2⟩
  | false =>
   have hnp : Hid (ndPrs t.pages (k + 1) nd = nd.kids.flatMap (prsOf t.pages (k + 1))) := by show _ = _; unfold ndPrs; rw [hl]; rfl
   rw [hnp.out] at hlen
   have hD3 : nd.kids.length ≤ 301 := by have h1 := kids_len hs.out.1 hl; have := (npr_len hs.out.1).2; omega
   have HL := hide hl
   rw [hl] at E0 hX HD
   obtain ⟨D, hD⟩ : ∃ D, D = nd.kids.length := ⟨_, rfl⟩
   replace hlen := hide hlen
   rw [← hD] at E3 hX hD3 HN HD ⊢
   rw [hX] at E0 E1 E2 E3 EF
   replace hD := hide hD
   replace hl := hide hl
   go_enter Tryz.func25, Tryz.ntmps25
   go_wp2
   rw [← hX]
   replace hX := hide hX
   clear E0 E1 E2 E3 EF
   go_loopw [16] (fun p wr => ∃ i : Nat, i ≤ D ∧ p = .int .i64 i ∧ Hid (ScI C wr ga gp fr tw (out ++ pscan ((nd.kids.take i).flatMap (prsOf t.pages (k + 1))) fr tw) ∧ KSc C X wr)) (fun p _ => D - (intOf p).toNat)
   case atStart => exact ⟨0, Nat.zero_le _, rfl, hide ⟨by simpa [pscan] using SX.out, KSc.refl _ _⟩⟩
   case round =>
    obtain ⟨i, hi, rfl, hI⟩ := hrel
    have PW := HX.out.sc hI.out.2 hw0
    have N6 := HN.out.keepT (hI.out.2.typ _ (by decide) (by decide)) (hI.out.2.typ _ (by decide) (by decide))
    obtain ⟨⟨C0, C1, C2, C3⟩, ⟨C4, C5⟩, CF⟩ := PW.cell
    by_cases hlt : i < D
    ·have hq : (i : Int) < (D : Int) := by omega
     obtain ⟨kid, hkid⟩ := some_el nd.kids (k := i) (by rw [← hD.out]; exact hlt)
     obtain ⟨b3, off3, e3, hc3⟩ := N6.rd.kids.intAt hkid
     subst e3
     obtain ⟨s4, k', x, nd', hk', n1, n2, s5, s6⟩ := hs.out.kid HL.out hkid
     have hk'' : k = k' := by omega
     subst hk''
     obtain ⟨v, hv, x', nd'', kv', vv', dv', z1, z2, rfl, z4, _⟩ := PW.node s4
     rw [n1] at z1
     simp only [Option.some.injEq] at z1
     subst z1
     rw [n2] at z2
     simp only [Prod.mk.injEq, and_true] at z2
     subst z2
     have hkw : (Lit.int .i64 kid).wf = true := by
      have := hs.out.1.2.2.2.1 i (by rw [← hD.out]; exact hlt)
      rw [hkid] at this
      simp only [Option.getD_some] at this
      exact WalkArith.wf_i64 (by omega)
     have hlk1 := PW.map.look Tryz.underlying86 (zeroNd wr) hkw false
     rw [hv] at hlk1
     simp only [Option.getD_some, Bool.false_eq_true, if_false] at hlk1
     have htk : Hid ((nd.kids.take (i + 1)).flatMap (prsOf t.pages (k + 1)) = (nd.kids.take i).flatMap (prsOf t.pages (k + 1)) ++ prsOf t.pages (k + 1) kid) := by
      show _ = _
      rw [List.take_add_one, hkid, List.flatMap_append]
      simp
     have hle : (out ++ pscan ((nd.kids.take i).flatMap (prsOf t.pages (k + 1))) fr tw).length + (ndPrs t.pages k nd').length ≤ 4096 := by
      have h1 := pscan_le ((nd.kids.take i).flatMap (prsOf t.pages (k + 1))) fr tw
      have h2 := hlen.out
      have h3 : ((nd.kids.take i).flatMap (prsOf t.pages (k + 1))).length + (prsOf t.pages (k + 1) kid).length ≤ (nd.kids.flatMap (prsOf t.pages (k + 1))).length := by
       rw [← List.length_append, ← htk.out]
       conv => rhs; rw [← List.take_append_drop (i + 1) nd.kids, List.flatMap_append, List.length_append]
       omega
      rw [List.length_append, s6]
      omega
     have KR := hide (ih.out wr nd' kv' vv' dv' _ PW hI.out.1 (Nat.le_trans hCX.out hI.out.2.bel.size) z4 s5 hle)
     obtain ⟨ka', kc', va', vc', da', dc', rfl, rfl, rfl⟩ := z4.rd.slices
     dsimp only [nv, clo] at hlk1 KR
     have HI := hide hI.out.2
     have s6' := hide s6
     clear s4 n1 n2 s5 s6 hv z4 hkw hI PW N6 hle hk' C0 C1 C2 C4 C5 CF hkid
     go_wp2_with fail
     refine KR.out.mono ?_
     rintro e w7 ⟨rfl, q1, q2⟩
     rw [List.append_assoc, ← pscan_app, s6'.out, ← htk.out] at q1
     have Q := hide (And.intro q1 (HI.out.trans q2))
     clear q1 q2 KR hlk1
     go_wp2
     go_roundw
     case rel => exact ⟨i + 1, by omega, by go_num, Q⟩
     case measure => simp [intOf]; omega
    ·have hq : ¬ (i : Int) < (D : Int) := by omega
     have htk : nd.kids.take i = nd.kids := List.take_of_length_le (by rw [← hD.out]; omega)
     rw [htk] at hI
     clear PW N6
     go_wp2
     (try simp only [Exit.inBlock, Exit.then])
     first
      | refine bodyPost_ret (results_none rfl _ _ _) rfl ?_
      | refine bodyPost_end (results_none rfl _ _ _) rfl ?_
     rw [hnp.out]
     exact ⟨rfl, hI.out.1, HK.out.trans hI.out.2⟩
set_option maxRecDepth 100000 in
set_option maxHeartbeats 4000000 in
theorem pscan10_any (w : World) (t : Tr) (pv : Value) (fr tw : Str) (h : RdC w pv t.pages) (hroot : (Lit.int .i64 t.root).wf = true) : Calls Tryz.prog 7 #[tv t pv, st fr, st tw] w fun e w' =>
  ∃ v, e = .returned (.tuple #[v, .int .i64 (tscan t fr tw).2]) ∧ OwnP w.heap.size w' v (tscan t fr tw).1 ∧ Below w.heap.size w w' := by
 obtain ⟨W, hW, D, bW, sW⟩ := boxedN w #[.int .i64 t.root, .int .i64 t.next, pv] 27
 have KN := hide (pwalkof_any W t pv (h.to0 bW) hroot)
 obtain ⟨a, c, rfl⟩ := h.slice
 obtain ⟨⟨D0, D1, D2⟩, _⟩ := cells3p D
 have HB := hide bW
 rw [hW] at D0 D1 D2 KN
 dsimp only [tv] at KN ⊢
 clear h bW D sW
 obtain ⟨R, hR⟩ : ∃ R, R = tscan t fr tw := ⟨_, rfl⟩
 rw [← hR]
 replace hR := hide hR
 go_enter Tryz.func7, Tryz.ntmps7
 go_wp2_with fail
 refine KN.out.mono ?_
 rintro e w1 hp
 rw [← hW] at hp
 rcases hp with ⟨g, bm, B, s, m, rfl, p1, p2, p3, p4, p5⟩ | ⟨rfl, p1, p2⟩
 ·have hr : Hid (R = (pscan s.prs fr tw, 0)) := by show _ = _; rw [hR.out]; unfold tscan; rw [tprs_of p1 p2 p3]
  obtain ⟨X, hX, DX, bX, sX⟩ := boxedN w1 #[.slice none 0 0] 28
  obtain ⟨Y, hY, DY, bY, sY⟩ := boxedN X #[st fr, st tw] 72
  have bXY := bX.trans (bY.mono bX.size)
  have PY := hide (p4.to bXY)
  have B1 := hide (HB.out.trans (p4.bel.mono HB.out.size))
  have BY := hide (And.intro bXY B1.out)
  have hSc : Hid (ScI w1.heap.size Y (w1.heap.size + 1) w1.heap.size fr tw []) := ⟨by rw [← sX]; exact DY, ⟨_, (bY.block _ (lt_of_block DX)).trans DX, World.ownsRow_nil _ _ _ _⟩, Nat.le_refl _⟩
  have KT := hide (ptop_any W Y B g bm t _ s m PY.out hroot p2)
  have hWw : Hid (W.heap.size ≤ w1.heap.size) := p4.bel.size
  rw [hY, hX] at KT
  have hp2 := hide p2
  have hp3 := hide p3
  clear p1 p2 p3 p4 p5 KN hW D0 D1 D2 DX DY bX bY
  go_wp2_with fail
  refine KT.out.mono ?_
  rintro e w2 ⟨nd, kv, vv, dv, rfl, hT, ho, b2, _⟩
  rw [← hX, ← hY] at b2
  obtain ⟨q1, q2⟩ := SN.top hp2.out hT
  have KE := hide (peach_any W B g bm w1.heap.size (w1.heap.size + 1) w1.heap.size t _ s m fr tw hWw.out 15 w2 nd kv vv dv [] (PY.out.to b2) (hSc.out.to b2) (Nat.le_trans bXY.size b2.size) ho q1 (by rw [q2]; simpa using hp3.out))
  rw [q2] at KE
  have B2 := hide (And.intro (bXY.trans (b2.mono bXY.size)) B1.out)
  dsimp only [clo] at KE
  clear KT q1 q2 ho b2 hT bXY hX hY
  go_wp2_with fail
  refine KE.out.mono ?_
  rintro e w3 ⟨rfl, r1, r2⟩
  obtain ⟨v, v1, v2⟩ := r1.var
  rw [List.nil_append] at v2
  obtain ⟨pa, pc, rfl⟩ := (OwnP.rd v2).slice
  have V1 := cellN v1 (i := 0) rfl
  have O3 := hide v2
  have B3 := hide (B1.out.trans ((B2.out.1.trans r2.bel).mono B1.out.size))
  clear r1 r2 v1 v2 KE
  go_wp2
  go_ret2
  rw [hr.out]
  exact ⟨_, rfl, rows_mono O3.out B1.out.size, B3.out⟩
 ·have hr : Hid (R = ([], 9)) := by show _ = _; rw [hR.out]; unfold tscan; rw [p1]
  have B1 := hide (HB.out.trans (p2.mono HB.out.size))
  clear p1 p2 KN HB hW D0 D1 D2
  go_wp2
  go_ret2
  rw [hr.out]
  exact ⟨_, rfl, World.ownsRow_nil _ _ _ _, B1.out⟩
end Go.Proofs.YtgmkknonnidgaaaGreat

namespace Go.Proofs.YtgmkknonnidgaaaGreat
open Go.RowKit
abbrev na10 : Nd := ⟨true, [[97]], [[49]], []⟩
abbrev nb10 : Nd := ⟨true, [[97], [98]], [[49], [50]], []⟩
abbrev t010 : Tr := ⟨0, 1, []⟩
abbrev ta10 : Tr := ⟨1, 2, [(1, nenc na10)]⟩
abbrev tb10 : Tr := ⟨2, 3, [(1, nenc na10), (2, nenc nb10)]⟩
abbrev tc10 : Tr := ⟨1, 3, [(1, nenc na10), (2, nenc nb10)]⟩
theorem na10_ok : NOk na10 := (ncheck_ok _).1 (by decide)
theorem nb10_ok : NOk nb10 := (ncheck_ok _).1 (by decide)
theorem tw0 : twalk t010 = some ⟨[], none, []⟩ := rfl
theorem leaf_walk {l : List Wrt} {id : Int} {n : Nd} (hp : tpage l id = some (nenc n)) (hn : NOk n) (hl : n.leaf = true) (hk : n.keys ≠ []) (ha : n.keys.all (kin [] none) = true) : wk l 16 id [] none ⟨[], none, []⟩ = some ⟨[id], some 15, npr n⟩ := by
 rw [wk_leaf (f := 15) hp (by simp) (ndec_enc hn) ha hl, if_neg (by rintro (h | ⟨h, _⟩); exact hk h; exact h rfl)]
 simp
theorem twa : twalk ta10 = some ⟨[1], some 15, [([97], [49])]⟩ := by
 unfold twalk
 rw [if_neg (by decide)]
 exact leaf_walk (l := ta10.pages) (id := 1) (n := na10) rfl na10_ok rfl (by simp) (by decide)
theorem twb : twalk tb10 = some ⟨[2], some 15, [([97], [49]), ([98], [50])]⟩ := by
 unfold twalk
 rw [if_neg (by decide)]
 exact leaf_walk (l := tb10.pages) (id := 2) (n := nb10) rfl nb10_ok rfl (by simp) (by decide)
theorem twc : twalk tc10 = some ⟨[1], some 15, [([97], [49])]⟩ := by
 unfold twalk
 rw [if_neg (by decide)]
 exact leaf_walk (l := tc10.pages) (id := 1) (n := na10) rfl na10_ok rfl (by simp) (by decide)
theorem pn0 : PNum t010 := ⟨by decide, by decide, fun i hi => by simp at hi⟩
theorem pna : PNum ta10 := ⟨by decide, by decide, by decide⟩
theorem pnb : PNum tb10 := ⟨by decide, by decide, by decide⟩
theorem pnc : PNum tc10 := ⟨by decide, by decide, by decide⟩
theorem topa : TopIs ta10 na10 := .inr ⟨by decide, _, by decide, ndec_enc na10_ok⟩
theorem scb : tscan tb10 [] [] = ([([97], [49]), ([98], [50])], 0) := by unfold tscan; rw [tprs_of pnb twb (by decide)]; rfl
theorem scc : tscan tc10 [] [] = ([([97], [49])], 0) := by unfold tscan; rw [tprs_of pnc twc (by decide)]; rfl
theorem atb : tatE tb10 1 = 0 := by
 have h1 : tcheck tb10 = 0 := by unfold tcheck; rw [tprs_of pnb twb (by decide)]
 have h2 : tcheck tc10 = 0 := by unfold tcheck; rw [tprs_of pnc twc (by decide)]
 unfold tatE
 rw [if_neg (by rw [h1]; simp), if_neg (by rintro ⟨_, h⟩; cases h)]
 exact h2
set_option maxRecDepth 100000 in
theorem pnum10_any (w : World) (n : Int) : Calls Tryz.prog 8 #[.int .i64 n] w fun e w' => e = .returned (.int .i64 n) ∧ w = w' := by
 go_enter Tryz.func8, Tryz.ntmps8
 go_wp2
 go_ret
 exact ⟨rfl, rfl⟩
theorem eql_pr10 (a b c d : Str) (w : World) : (binOp .eql 62 (.agg #[st a, st b]) (.agg #[st c, st d])).run Tryz.prog w = .ok (.bool (a == c && b == d)) w := by
 have h := neq_pr a b c d w
 rw [run_neq_struct] at h
 rw [run_eql_struct]
 cases hq : (Op.equalIn 10000 62 (.agg #[st a, st b]) (.agg #[st c, st d])).run Tryz.prog w with
 | ok x w' =>
  rw [hq] at h
  simp only [Result.andThen_ok, Result.ok.injEq, Value.bool.injEq] at h ⊢
  obtain ⟨h1, h2⟩ := h
  refine ⟨?_, h2⟩
  cases x <;> cases hq2 : (a == c && b == d) <;> simp [hq2] at h1 ⊢
 | halt e w' =>
  rw [hq] at h
  simp [Result.andThen] at h
set_option maxRecDepth 100000 in
set_option maxHeartbeats 4000000 in
theorem palive10_any (w : World) : Calls Tryz.prog 5 #[] w fun e w' => e = .returned (.bool true) ∧ Below w.heap.size w w' := by
 have hroot : ∀ z : Int, 0 ≤ z → z ≤ 65536 → (Lit.int .i64 z).wf = true := fun z h1 h2 => WalkArith.wf_i64 (by omega)
 have KN := hide (pnew10_any w)
 go_enter Tryz.func5, Tryz.ntmps5
 go_wp2_with fail
 refine KN.out.mono ?_
 rintro e w1 ⟨rfl, b1⟩
 have rd0 : RdC w1 (.slice none 0 0) t010.pages := (OwnX.nil 56 0 w1).rd
 have KP1 : Hid (Calls Tryz.prog 16 #[.agg #[.int .i64 0, .int .i64 1, .slice none 0 0], st [97], st [49]] w1 fun e w' => ∃ pv', e = .returned (.tuple #[.agg #[.int .i64 1, .int .i64 2, pv'], .int .i64 0]) ∧ OwnPg w1.heap.size w' pv' ta10.pages ∧ Below w1.heap.size w1 w') :=
  pput_end w1 t010 (.slice none 0 0) ⟨[], none, []⟩ [97] [49] nd0 rd0 (fun x hx => by cases hx) (hroot 0 (by decide) (by decide)) (by decide) (by decide) pn0 tw0 (by decide) (.inl ⟨rfl, rfl⟩) rfl (by decide) (by decide) (by decide) rfl na10_ok
 have B1 := hide b1
 clear KN b1 rd0
 dsimp only [tv]
 go_wp2_with fail
 refine KP1.out.mono ?_
 rintro e w2 ⟨pv1, rfl, o1, b2⟩
 obtain ⟨pa1, pc1, h1⟩ := o1.shape
 subst h1
 obtain ⟨X, hX, DX, bX, sX⟩ := boxedN w2 #[.int .i64 1, .int .i64 2, .slice pa1 ta10.pages.length pc1] 27
 have oX := o1.to9 bX
 have B2 := hide (B1.out.trans ((b2.trans (bX.mono b2.size)).mono B1.out.size))
 have KP2 : Hid (Calls Tryz.prog 16 #[.agg #[.int .i64 1, .int .i64 2, .slice pa1 ta10.pages.length pc1], st [98], st [50]] X fun e w' => ∃ pv', e = .returned (.tuple #[.agg #[.int .i64 2, .int .i64 3, pv'], .int .i64 0]) ∧ OwnPg X.heap.size w' pv' tb10.pages ∧ Below X.heap.size X w') :=
  pput_end X ta10 (.slice pa1 ta10.pages.length pc1) ⟨[1], some 15, [([97], [49])]⟩ [98] [50] na10 oX.rd (fun x hx => by simp at hx; subst hx; decide) (hroot 1 (by decide) (by decide)) (by decide) (by decide) pna twa (by decide) topa rfl (by decide) (by decide) (by decide) rfl nb10_ok
 obtain ⟨⟨E0, E1, E2⟩, EF⟩ := cells3p DX
 have HX := hide DX
 rw [hX] at KP2 E0 E1 E2 EF
 clear KP1 o1 b2 DX bX oX
 go_wp2_with fail
 refine KP2.out.mono ?_
 rintro e w3 ⟨pv2, rfl, o2, b3⟩
 rw [← hX] at b3
 replace hX := hide hX
 clear E0 E1 E2 EF KP2
 obtain ⟨pa2, pc2, h2⟩ := o2.shape
 subst h2
 obtain ⟨Y, hY, DY, bY, sY⟩ := boxedN w3 #[.int .i64 2, .int .i64 3, .slice pa2 tb10.pages.length pc2] 27
 have rY : RdC Y (.slice pa2 tb10.pages.length pc2) tb10.pages := (o2.to9 bY).rd
 have A3 := (bY.block _ (by have := lt_of_block HX.out; have := b3.size; omega)).trans ((b3.block _ (lt_of_block HX.out)).trans HX.out)
 have B3 := hide (B2.out.trans ((b3.trans (bY.mono b3.size)).mono B2.out.size))
 have KS := hide (pscan10_any Y tb10 (.slice pa2 tb10.pages.length pc2) [] [] rY (hroot 2 (by decide) (by decide)))
 rw [scb] at KS
 dsimp only [tv] at KS
 obtain ⟨⟨E0, E1, E2⟩, EF⟩ := cells3p DY
 have HY := hide (And.intro DY (And.intro A3 rY))
 rw [hY] at KS E0 E1 E2 EF
 clear o2 b3 DY bY rY A3
 go_wp2_with fail
 refine KS.out.mono ?_
 rintro e w4 ⟨v4, rfl, o4, b4⟩
 rw [← hY] at b4
 replace hY := hide hY
 clear E0 E1 E2 EF KS
 obtain ⟨DY, A3, rY⟩ := HY.out
 have D4 := (b4.block _ (lt_of_block DY)).trans DY
 have A4 := (b4.block _ (lt_of_block A3)).trans A3
 have r4 := rY.to0 b4
 have B4 := hide (B3.out.trans (b4.mono B3.out.size))
 have KA := hide (pat_any w4 tb10 (.slice pa2 tb10.pages.length pc2) 1 r4 (fun x hx => by simp at hx; rcases hx with rfl | rfl <;> decide) (hroot 2 (by decide) (by decide)) (hroot 1 (by decide) (by decide)))
 dsimp only [tv] at KA
 obtain ⟨⟨E0, E1, E2⟩, EF⟩ := cells3p D4
 obtain ⟨⟨A0, A1, A2⟩, AF⟩ := cells3p A4
 have O4 := hide o4
 clear DY A3 rY D4 A4 r4 o4 b4 HY
 go_wp2_with fail
 refine KA.out.mono ?_
 rintro e w5 hp
 rcases hp with ⟨_, pv5, rfl, o5, b5⟩ | ⟨q, _⟩
 rotate_left
 ·exact absurd atb q
 clear E0 E1 E2 EF A0 A1 A2 AF KA
 obtain ⟨pa5, pc5, h5⟩ := o5.shape
 subst h5
 obtain ⟨Z, hZ, DZ, bZ, sZ⟩ := boxedN w5 #[.int .i64 1, .int .i64 3, .slice pa5 tb10.pages.length pc5] 27
 have rZ : RdC Z (.slice pa5 tb10.pages.length pc5) tc10.pages := (o5.to9 bZ).rd
 have bwZ := b5.trans (bZ.mono b5.size)
 have B5 := hide (B4.out.trans (bwZ.mono B4.out.size))
 have O5 := hide (rows_to O4.out bwZ)
 have KS2 := hide (pscan10_any Z tc10 (.slice pa5 tb10.pages.length pc5) [] [] rZ (hroot 1 (by decide) (by decide)))
 rw [scc] at KS2
 dsimp only [tv] at KS2
 obtain ⟨⟨E0, E1, E2⟩, EF⟩ := cells3p DZ
 rw [hZ] at KS2 E0 E1 E2 EF
 clear o5 b5 DZ bZ rZ bwZ O4
 dsimp only [tv]
 go_wp2_with fail
 refine KS2.out.mono ?_
 rintro e w6 ⟨v6, rfl, o6, b6⟩
 rw [← hZ] at b6
 replace hZ := hide hZ
 clear E0 E1 E2 EF KS2
 have B6 := hide (B5.out.trans (b6.mono B5.out.size))
 obtain ⟨la, lc, hl4⟩ := (OwnP.rd O5.out).slice
 subst hl4
 obtain ⟨ma, mc, hm6⟩ := (OwnP.rd o6).slice
 subst hm6
 obtain ⟨b9, off9, e9, hc1, hc2⟩ := (OwnP.rd o6).prAt (i := 0) (y := ([97], [49])) rfl
 subst e9
 have q1 := eql_pr10 [97] [49] [97] [49]
 have q2 := eqg_pr .eql
 have KU := hide (fun n => pnum10_any w6 n)
 clear o6 b6 O5
 dsimp only at hc1 hc2
 simp only [Nat.zero_mul, Nat.add_zero] at hc1 hc2
 go_wp2_with fail
 iterate 5
  refine (KU.out _).mono ?_
  rintro e w7 ⟨rfl, rfl⟩
  try go_wp2_with fail
 go_ret
 exact ⟨rfl, B6.out⟩
end Go.Proofs.YtgmkknonnidgaaaGreat

namespace Go.Proofs.YtgmkknonnidgaaaGreat
open Go.RowKit
def TyB (w : World) (v : Value) (T : TypeId) : Prop := ∀ b, v.ownBlock = some b → ∃ cur fr, w.heap[b]? = some (.cells cur T fr)
theorem TyB.nil (w : World) (T : TypeId) (n c : Nat) : TyB w (.slice none n c) T := fun b hb => by cases hb
theorem TyB.keep {w w' : World} {v : Value} {T : TypeId} (h : TyB w v T) (k : KeepT T w w') : TyB w' v T := fun b hb => by
 obtain ⟨cur, fr, e⟩ := h b hb
 exact ⟨cur, fr, k b cur fr e⟩
theorem TyB.part {w : World} {a : Option Addr} {n c : Nat} {T : TypeId} (h : TyB w (.slice a n c) T) {b off off' n' c' : Nat} (ha : a = some ⟨b, off, none⟩) : TyB w (.slice (some ⟨b, off', none⟩) n' c') T := fun k hk => by
 subst ha
 exact h k hk
theorem TyB.same {w : World} {a : Option Addr} {n c : Nat} {T : TypeId} (h : TyB w (.slice a n c) T) (n' c' : Nat) : TyB w (.slice a n' c') T := fun k hk => h k (by cases a with | none => cases hk | some x => exact hk)
theorem TyB.own {B T n k : Nat} {w : World} {v : Value} {cc : List Value} (h : w.ownsRow B T n v k cc) : TyB w v T := fun b hb => by
 rcases h.2 with ⟨rfl, _⟩ | ⟨g, cap, cur, rfl, _, hg, _⟩
 ·cases hb
 ·have : g = b := by simpa [Value.ownBlock] using hb
  subst this
  exact ⟨cur, _, hg⟩
theorem rdT_block {w w' : World} {v : Value} {xs : List Str} (h : RdT w v xs) (hk : ∀ b, v.ownBlock = some b → w'.heap[b]? = w.heap[b]?) : RdT w' v xs := by
 obtain ⟨a, c, rfl, l1, m1, n1, r1⟩ := h
 refine ⟨a, c, rfl, l1, m1, n1, ?_⟩
 rcases r1 with r1 | ⟨b, off, e1, hc⟩
 ·exact .inl r1
 ·subst e1
  refine .inr ⟨b, off, rfl, fun i x hx => ?_⟩
  obtain ⟨cs, k1, k2⟩ := hc i x hx
  refine ⟨cs, k1, fun j u hj => ?_⟩
  have e := hk b rfl
  have := k2 j u hj
  simp only [World.cell?] at this ⊢
  rw [e]; exact this
theorem rdI_block {w w' : World} {v : Value} {xs : List Int} (h : RdI w v xs) (hk : ∀ b, v.ownBlock = some b → w'.heap[b]? = w.heap[b]?) : RdI w' v xs := by
 obtain ⟨a, c, rfl, l1, m1, n1, r1⟩ := h
 refine ⟨a, c, rfl, l1, m1, n1, ?_⟩
 rcases r1 with r1 | ⟨b, off, e1, hc⟩
 ·exact .inl r1
 ·subst e1
  refine .inr ⟨b, off, rfl, fun i x hx => ?_⟩
  obtain ⟨cs, k1, k2⟩ := hc i x hx
  refine ⟨cs, k1, fun j u hj => ?_⟩
  have e := hk b rfl
  have := k2 j u hj
  simp only [World.cell?] at this ⊢
  rw [e]; exact this
structure RdK (w : World) (kv vv dv : Value) (n : Nd) : Prop where
 rd : RdN w kv vv dv n
 tk : TyB w kv 9
 tv : TyB w vv 9
 td : TyB w dv 3
theorem RdK.keepT {w w' : World} {kv vv dv : Value} {n : Nd} (h : RdK w kv vv dv n) (k1 : KeepT 9 w w') (k2 : KeepT 3 w w') : RdK w' kv vv dv n :=
 ⟨⟨rdT_block h.rd.keys fun b hb => (by obtain ⟨cur, fr, e⟩ := h.tk b hb; rw [e]; exact k1 b cur fr e), rdT_block h.rd.vals fun b hb => (by obtain ⟨cur, fr, e⟩ := h.tv b hb; rw [e]; exact k1 b cur fr e), rdI_block h.rd.kids fun b hb => (by obtain ⟨cur, fr, e⟩ := h.td b hb; rw [e]; exact k2 b cur fr e)⟩, h.tk.keep k1, h.tv.keep k1, h.td.keep k2⟩
theorem RdK.to {w w' : World} {kv vv dv : Value} {n : Nd} (h : RdK w kv vv dv n) (b : Below w.heap.size w w') : RdK w' kv vv dv n := h.keepT (KeepT.below b) (KeepT.below b)
theorem OwnN.rdk {B : Nat} {w : World} {kv vv dv : Value} {n : Nd} (h : OwnN B w kv vv dv n) : RdK w kv vv dv n := ⟨h.rd, TyB.own h.keys, TyB.own h.vals, TyB.own h.kids⟩
theorem KCh.keepT {B gc g : Nat} {av av' : Value} {w w' : World} {next : Int} {ns : List NV} (h : KCh B gc av av' w w') (c : ChI B w gc g next av ns) {e : Nat} (h1 : e ≠ 108) (h2 : e ≠ 76) : KeepT e w w' := fun b cur fr hb => by
 refine (h.keep b (lt_of_block hb) (fun e9 => ?_) (fun e9 => ?_)).trans hb
 ·subst e9
  rw [c.box] at hb
  simp only [Option.some.injEq, Obj.cells.injEq] at hb
  exact h1 hb.2.1.symm
 ·obtain ⟨cur', fr', e8⟩ := TyB.own c.row b e9
  rw [e8] at hb
  simp only [Option.some.injEq, Obj.cells.injEq] at hb
  exact h2 hb.2.1.symm
def AllK (w : World) (ns : List NV) : Prop := ∀ y ∈ ns, RdK w y.2.1 y.2.2.1 y.2.2.2 y.1
theorem AllK.keepT {w w' : World} {ns : List NV} (h : AllK w ns) (k1 : KeepT 9 w w') (k2 : KeepT 3 w w') : AllK w' ns := fun y hy => (h y hy).keepT k1 k2
theorem AllK.to {w w' : World} {ns : List NV} (h : AllK w ns) (b : Below w.heap.size w w') : AllK w' ns := h.keepT (KeepT.below b) (KeepT.below b)
theorem AllK.snoc {w : World} {ns : List NV} {y : NV} (h : AllK w ns) (k : RdK w y.2.1 y.2.2.1 y.2.2.2 y.1) : AllK w (ns ++ [y]) := fun z hz => by
 simp only [List.mem_append, List.mem_singleton] at hz
 rcases hz with hz | rfl
 ·exact h z hz
 ·exact k
end Go.Proofs.YtgmkknonnidgaaaGreat

namespace Go.Proofs.YtgmkknonnidgaaaGreat
def NdIs (l : List Wrt) (id : Int) (nd : Nd) : Prop := ∃ x, tpage l id = some x ∧ ndec x = (nd, 0)
def nodeAt (l : List Wrt) (id : Int) : Nd := match tpage l id with | none => none9 | some x => (ndec x).1
theorem NdIs.at {l : List Wrt} {id : Int} {nd : Nd} (h : NdIs l id nd) : nodeAt l id = nd := by
 obtain ⟨x, h1, h2⟩ := h
 unfold nodeAt; rw [h1]; show (ndec x).1 = nd; rw [h2]
theorem NdIs.ok {l : List Wrt} {id : Int} {nd : Nd} (h : NdIs l id nd) : NOk nd := by
 obtain ⟨x, h1, h2⟩ := h
 exact ndec_ok h2
def idsOf (l : List Wrt) : Nat → Int → List Int
 | 0, id => [id]
 | d + 1, id => id :: (nodeAt l id).kids.flatMap (idsOf l d)
def pOf (l : List Wrt) : Nat → Int → List Pr
 | 0, id => npr (nodeAt l id)
 | d + 1, id => (nodeAt l id).kids.flatMap (pOf l d)
def TOk (l : List Wrt) : Nat → Int → Str → Option Str → Prop
 | 0, id, lo, hi => ∃ nd, NdIs l id nd ∧ nd.leaf = true ∧ nd.keys ≠ [] ∧ nd.keys.all (kin lo hi) = true
 | d + 1, id, lo, hi => ∃ nd, NdIs l id nd ∧ nd.leaf = false ∧ nd.keys.all (kin lo hi) = true ∧ ∀ (i : Nat) kid, nd.kids[i]? = some kid → TOk l d kid (kidLo nd lo i) (kidHi nd hi i)
theorem wkK_tok {l : List Wrt} {f : Nat} (ih : ∀ (id : Int) (lo : Str) (hi : Option Str) (s s' : Sw), wk l f id lo hi s = some s' → ∃ e d, f = e + 1 + d ∧ s'.dep = some e ∧ (s.dep = none ∨ s.dep = some e) ∧ TOk l d id lo hi ∧ s'.seen = (idsOf l d id).reverse ++ s.seen ∧ (idsOf l d id).Nodup ∧ (∀ i ∈ idsOf l d id, i ∉ s.seen) ∧ s'.prs = s.prs ++ pOf l d id) (n : Nd) (lo : Str) (hi : Option Str) :
  ∀ (ks : List Int) (i : Nat) (s s' : Sw), wkK (wk l f) n lo hi i ks s = some s' → (ks = [] ∧ s' = s) ∨ ∃ e d, f = e + 1 + d ∧ s'.dep = some e ∧ (s.dep = none ∨ s.dep = some e) ∧ (∀ (j : Nat) kid, ks[j]? = some kid → TOk l d kid (kidLo n lo (i + j)) (kidHi n hi (i + j))) ∧
   s'.seen = (ks.flatMap (idsOf l d)).reverse ++ s.seen ∧ (ks.flatMap (idsOf l d)).Nodup ∧ (∀ i ∈ ks.flatMap (idsOf l d), i ∉ s.seen) ∧ s'.prs = s.prs ++ ks.flatMap (pOf l d)
 | [], i, s, s', h => by
  simp only [wkK, Option.some.injEq] at h
  exact .inl ⟨rfl, h.symm⟩
 | k :: r, i, s, s', h => by
  simp only [wkK] at h
  cases h1 : wk l f k (kidLo n lo i) (kidHi n hi i) s with
  | none => rw [h1] at h; cases h
  | some s1 =>
   rw [h1] at h
   obtain ⟨e, d, a0, a1, a2, a3, a4, a5, a6, a7⟩ := ih _ _ _ _ _ h1
   refine .inr ?_
   rcases wkK_tok ih n lo hi r (i + 1) s1 s' h with ⟨rfl, rfl⟩ | ⟨e', d', b0, b1, b2, b3, b4, b5, b6, b7⟩
   ·refine ⟨e, d, a0, a1, a2, fun j kid hk => ?_, by simpa using a4, by simpa using a5, by simpa using a6, by simpa using a7⟩
    cases j with
    | zero => have : k = kid := by simpa using hk
              subst this; exact a3
    | succ j => simp at hk
   ·have ee : e' = e := by
     rcases b2 with b2 | b2
     ·rw [a1] at b2; cases b2
     ·rw [a1] at b2; simp at b2; exact b2.symm
    subst ee
    obtain rfl : d' = d := by omega
    refine ⟨e', d', a0, b1, a2, fun j kid hk => ?_, ?_, ?_, ?_, ?_⟩
    ·cases j with
     | zero => have : k = kid := by simpa using hk
               subst this; exact a3
     | succ j =>
      have := b3 j kid (by simpa using hk)
      rw [show i + (j + 1) = i + 1 + j from by omega]
      exact this
    ·rw [b4, a4]; simp
    ·rw [List.flatMap_cons, List.nodup_append]
     refine ⟨a5, b5, fun x hx y hy e => ?_⟩
     subst e
     apply b6 x hy
     rw [a4]; simp [hx]
    ·intro x hx
     rw [List.flatMap_cons, List.mem_append] at hx
     rcases hx with hx | hx
     ·exact a6 x hx
     ·have := b6 x hx
      rw [a4] at this
      exact fun h9 => this (by simp [h9])
    ·rw [b7, a7]; simp
theorem wk_tok {l : List Wrt} : ∀ (f : Nat) (id : Int) (lo : Str) (hi : Option Str) (s s' : Sw), wk l f id lo hi s = some s' → ∃ e d, f = e + 1 + d ∧ s'.dep = some e ∧ (s.dep = none ∨ s.dep = some e) ∧ TOk l d id lo hi ∧ s'.seen = (idsOf l d id).reverse ++ s.seen ∧ (idsOf l d id).Nodup ∧ (∀ i ∈ idsOf l d id, i ∉ s.seen) ∧ s'.prs = s.prs ++ pOf l d id
 | 0, id, lo, hi, s, s', h => by cases h
 | f + 1, id, lo, hi, s, s', h => by
  cases hx : tpage l id with
  | none => rw [wk_none hx] at h; cases h
  | some x =>
   by_cases hs : id ∈ s.seen
   ·rw [wk_seen hs] at h; cases h
   ·by_cases he : (ndec x).2 = 0
    ·obtain ⟨nd, hnd⟩ : ∃ nd, nd = (ndec x).1 := ⟨_, rfl⟩
     have hd : ndec x = (nd, 0) := by rw [hnd, ← he]
     have hN : NdIs l id nd := ⟨x, hx, hd⟩
     cases ha : nd.keys.all (kin lo hi) with
     | false =>
      unfold wk at h
      rw [hx] at h
      simp [hs, hd, ha] at h
     | true =>
      cases hl : nd.leaf with
      | true =>
       rw [wk_leaf hx hs hd ha hl] at h
       split at h
       ·cases h
       ·rename_i hc
        simp only [Option.some.injEq] at h
        subst h
        refine ⟨f, 0, by omega, rfl, ?_, ⟨nd, hN, hl, fun h0 => hc (.inl h0), ha⟩, by simp [idsOf], by simp [idsOf], by simpa [idsOf] using hs, by show _ = _; rw [pOf, hN.at]⟩
        cases hdp : s.dep with
        | none => exact .inl rfl
        | some e =>
         refine .inr ?_
         by_cases e9 : e = f
         ·rw [e9]
         ·exact absurd (.inr ⟨by rw [hdp]; simp, by rw [hdp]; simpa using e9⟩) hc
      | false =>
       rw [wk_inner hx hs hd ha hl] at h
       have hk := kids_len (ndec_ok hd) hl
       rcases wkK_tok (wk_tok f) nd lo hi nd.kids 0 _ s' h with ⟨h0, _⟩ | ⟨e, d, b0, b1, b2, b3, b4, b5, b6, b7⟩
       ·rw [h0] at hk; simp at hk
       ·refine ⟨e, d + 1, by omega, b1, b2, ⟨nd, hN, hl, ha, fun i kid hk => ?_⟩, ?_, ?_, ?_, ?_⟩
        ·have := b3 i kid hk
         rw [Nat.zero_add] at this
         exact this
        ·rw [b4, idsOf, hN.at]; simp
        ·rw [idsOf, hN.at, List.nodup_cons]
         exact ⟨fun h9 => b6 id h9 (by simp), b5⟩
        ·intro i hi9
         rw [idsOf, hN.at] at hi9
         rcases List.mem_cons.1 hi9 with h9 | h9
         ·rw [h9]; exact hs
         ·exact fun h8 => b6 i h9 (by simp [h8])
        ·rw [b7, pOf, hN.at]
    ·rw [wk_bad hx he] at h; cases h
theorem wkK_of {l : List Wrt} {d e : Nat} (ih : ∀ (id : Int) (lo : Str) (hi : Option Str) (s : Sw), TOk l d id lo hi → (idsOf l d id).Nodup → (∀ i ∈ idsOf l d id, i ∉ s.seen) → (s.dep = none ∨ s.dep = some e) → wk l (e + 1 + d) id lo hi s = some ⟨(idsOf l d id).reverse ++ s.seen, some e, s.prs ++ pOf l d id⟩) (n : Nd) (lo : Str) (hi : Option Str) :
  ∀ (ks : List Int) (i : Nat) (s : Sw), ks ≠ [] → (∀ (j : Nat) kid, ks[j]? = some kid → TOk l d kid (kidLo n lo (i + j)) (kidHi n hi (i + j))) → (ks.flatMap (idsOf l d)).Nodup → (∀ i ∈ ks.flatMap (idsOf l d), i ∉ s.seen) → (s.dep = none ∨ s.dep = some e) →
   wkK (wk l (e + 1 + d)) n lo hi i ks s = some ⟨(ks.flatMap (idsOf l d)).reverse ++ s.seen, some e, s.prs ++ ks.flatMap (pOf l d)⟩
 | [], i, s, h, _, _, _, _ => absurd rfl h
 | k :: r, i, s, _, h1, h2, h3, h4 => by
  rw [List.flatMap_cons] at h2 h3
  rw [List.nodup_append] at h2
  simp only [wkK]
  rw [ih k (kidLo n lo i) (kidHi n hi i) s (h1 0 k rfl) h2.1 (fun x hx => h3 x (by simp [hx])) h4]
  simp only [Option.bind_some]
  by_cases hr : r = []
  ·subst hr
   simp [wkK]
  ·rw [wkK_of ih n lo hi r (i + 1) _ hr (fun j kid hk => by have := h1 (j + 1) kid (by simpa using hk); rw [show i + 1 + j = i + (j + 1) from by omega]; exact this) h2.2.1 (fun x hx h9 => ?_) (.inr rfl)]
   ·simp
   ·rcases List.mem_append.1 h9 with h9 | h9
    ·exact h2.2.2 x (by simpa using h9) x hx rfl
    ·exact h3 x (by simp [hx]) h9
theorem wk_of {l : List Wrt} {e : Nat} : ∀ (d : Nat) (id : Int) (lo : Str) (hi : Option Str) (s : Sw), TOk l d id lo hi → (idsOf l d id).Nodup → (∀ i ∈ idsOf l d id, i ∉ s.seen) → (s.dep = none ∨ s.dep = some e) → wk l (e + 1 + d) id lo hi s = some ⟨(idsOf l d id).reverse ++ s.seen, some e, s.prs ++ pOf l d id⟩
 | 0, id, lo, hi, s, ⟨nd, hN, hl, h0, ha⟩, h2, h3, h4 => by
  obtain ⟨x, hx, hd⟩ := hN
  rw [show e + 1 + 0 = e + 1 from rfl, wk_leaf hx (h3 id (by simp [idsOf])) hd ha hl, if_neg]
  ·rw [pOf, NdIs.at ⟨x, hx, hd⟩]; rfl
  ·rintro (h | ⟨h, h9⟩)
   ·exact h0 h
   ·rcases h4 with h4 | h4
    ·exact h h4
    ·exact h9 h4
 | d + 1, id, lo, hi, s, ⟨nd, hN, hl, ha, hk⟩, h2, h3, h4 => by
  have hN' := hN
  obtain ⟨x, hx, hd⟩ := hN'
  rw [idsOf, hN.at] at h2 h3
  rw [List.nodup_cons] at h2
  rw [show e + 1 + (d + 1) = (e + 1 + d) + 1 from rfl, wk_inner hx (h3 id (by simp)) hd ha hl, wkK_of (wk_of d) nd lo hi nd.kids 0 ⟨id :: s.seen, s.dep, s.prs⟩ ?_ (fun j kid hj => by rw [Nat.zero_add]; exact hk j kid hj) h2.2 ?_ h4]
  ·rw [idsOf, pOf, hN.at]; simp
  ·intro h9
   have := kids_len hN.ok hl
   rw [h9] at this; simp at this
  ·intro i hi9 h8
   rcases List.mem_cons.1 h8 with h8 | h8
   ·rw [h8] at hi9; exact h2.1 hi9
   ·exact h3 i (by simp [hi9]) h8
def Ext (l l' : List Wrt) : Prop := ∀ id x, tpage l id = some x → tpage l' id = some x
theorem Ext.refl (l : List Wrt) : Ext l l := fun _ _ h => h
theorem Ext.trans {a b c : List Wrt} (h : Ext a b) (k : Ext b c) : Ext a c := fun i x hx => k i x (h i x hx)
theorem NdIs.ext {l l' : List Wrt} (h : Ext l l') {id : Int} {nd : Nd} (k : NdIs l id nd) : NdIs l' id nd := by
 obtain ⟨x, h1, h2⟩ := k
 exact ⟨x, h id x h1, h2⟩
theorem flatMap_same {α β : Type} {f g : α → List β} : ∀ (l : List α), (∀ x ∈ l, f x = g x) → l.flatMap f = l.flatMap g
 | [], _ => rfl
 | a :: r, h => by rw [List.flatMap_cons, List.flatMap_cons, h a (by simp), flatMap_same r fun x hx => h x (by simp [hx])]
theorem mem_at {α : Type} {l : List α} {x : α} (h : x ∈ l) : ∃ i : Nat, l[i]? = some x := by
 obtain ⟨i, hi, e⟩ := List.getElem_of_mem h
 exact ⟨i, by rw [List.getElem?_eq_getElem hi, e]⟩
theorem TOk.ext {l l' : List Wrt} (h : Ext l l') : ∀ {d : Nat} {id : Int} {lo : Str} {hi : Option Str}, TOk l d id lo hi → TOk l' d id lo hi ∧ idsOf l' d id = idsOf l d id ∧ pOf l' d id = pOf l d id
 | 0, id, lo, hi, ⟨nd, hN, h1, h2, h3⟩ => ⟨⟨nd, hN.ext h, h1, h2, h3⟩, rfl, by rw [pOf, pOf, hN.at, (hN.ext h).at]⟩
 | d + 1, id, lo, hi, ⟨nd, hN, h1, h2, h3⟩ => by
  refine ⟨⟨nd, hN.ext h, h1, h2, fun i kid hk => (TOk.ext h (h3 i kid hk)).1⟩, ?_, ?_⟩
  ·rw [idsOf, idsOf, hN.at, (hN.ext h).at]
   congr 1
   exact flatMap_same _ fun x hx => by obtain ⟨i, hi⟩ := mem_at hx; exact (TOk.ext h (h3 i x hi)).2.1
  ·rw [pOf, pOf, hN.at, (hN.ext h).at]
   exact flatMap_same _ fun x hx => by obtain ⟨i, hi⟩ := mem_at hx; exact (TOk.ext h (h3 i x hi)).2.2
def Wide (lo : Str) (hi : Option Str) (lo' : Str) (hi' : Option Str) : Prop := slt lo lo' = false ∧ (match hi', hi with | none, _ => True | some _, none => False | some b, some a => slt b a = false)
theorem Wide.kin {lo lo' : Str} {hi hi' : Option Str} (h : Wide lo hi lo' hi') {k : Str} (hk : kin lo hi k = true) : kin lo' hi' k = true := by
 simp only [Go.Proofs.YtgmkknonnidgaaaGreat.kin, Bool.and_eq_true, Bool.not_eq_true'] at hk ⊢
 refine ⟨?_, ?_⟩
 ·cases hc : slt k lo' with
  | false => rfl
  | true =>
   have := slt_lt_le hc h.1
   rw [this] at hk; cases hk.1
 ·have h2 := h.2
  cases hi' with
  | none => rfl
  | some b =>
   cases hi with
   | none => exact h2.elim
   | some a => exact slt_lt_le hk.2 h2
theorem Wide.refl (lo : Str) (hi : Option Str) : Wide lo hi lo hi := ⟨slt_irr _, by cases hi <;> simp [slt_irr]⟩
theorem TOk.wide {l : List Wrt} : ∀ {d : Nat} {id : Int} {lo lo' : Str} {hi hi' : Option Str}, TOk l d id lo hi → Wide lo hi lo' hi' → TOk l d id lo' hi'
 | 0, id, lo, lo', hi, hi', ⟨nd, hN, h1, h2, h3⟩, hw => ⟨nd, hN, h1, h2, List.all_eq_true.2 fun k hk => hw.kin (List.all_eq_true.1 h3 k hk)⟩
 | d + 1, id, lo, lo', hi, hi', ⟨nd, hN, h1, h2, h3⟩, hw => by
  refine ⟨nd, hN, h1, List.all_eq_true.2 fun k hk => hw.kin (List.all_eq_true.1 h2 k hk), fun i kid hk => TOk.wide (h3 i kid hk) ?_⟩
  refine ⟨?_, ?_⟩
  ·unfold kidLo
   split
   ·exact hw.1
   ·exact slt_irr _
  ·by_cases h9 : i < nd.keys.length
   ·rw [kidHi, kidHi, if_pos h9, if_pos h9]; exact slt_irr _
   ·rw [kidHi, kidHi, if_neg h9, if_neg h9]; exact hw.2
theorem npr_len' {nd : Nd} (hok : NOk nd) (hl : nd.leaf = true) : (npr nd).length = nd.keys.length := by
 have h1 := hok.2.1
 unfold ncount at h1
 rw [if_pos hl] at h1
 rw [npr, List.length_zip, h1.1, Nat.min_self]
theorem TOk.many {l : List Wrt} : ∀ {d : Nat} {id : Int} {lo : Str} {hi : Option Str}, TOk l d id lo hi → 2 ^ d ≤ (pOf l d id).length
 | 0, id, lo, hi, ⟨nd, hN, h1, h2, h3⟩ => by
  rw [pOf, hN.at, npr_len' hN.ok h1]
  have : nd.keys.length ≠ 0 := fun h => h2 (List.eq_nil_of_length_eq_zero h)
  simp; omega
 | d + 1, id, lo, hi, ⟨nd, hN, h1, h2, h3⟩ => by
  rw [pOf, hN.at]
  have hk := kids_len hN.ok h1
  have hc := hN.ok.2.1
  unfold ncount at hc
  rw [h1, if_neg (by decide)] at hc
  cases hkk : nd.kids with
  | nil => rw [hkk] at hk; simp at hk
  | cons a r1 =>
   cases r1 with
   | nil => rw [hkk] at hk; simp only [List.length_cons, List.length_nil] at hk; omega
   | cons b r =>
    have ha := TOk.many (h3 0 a (by rw [hkk]; rfl))
    have hb := TOk.many (h3 1 b (by rw [hkk]; rfl))
    simp only [List.flatMap_cons, List.length_append, Nat.pow_succ]
    omega
theorem TOk.kin {l : List Wrt} : ∀ {d : Nat} {id : Int} {lo : Str} {hi : Option Str}, TOk l d id lo hi → ∀ y ∈ pOf l d id, kin lo hi y.1 = true
 | 0, id, lo, hi, ⟨nd, hN, h1, h2, h3⟩, y, hy => by
  rw [pOf, hN.at] at hy
  exact List.all_eq_true.1 h3 _ (List.of_mem_zip hy).1
 | d + 1, id, lo, hi, ⟨nd, hN, h1, h2, h3⟩, y, hy => by
  rw [pOf, hN.at] at hy
  obtain ⟨kid, hk, hy⟩ := List.mem_flatMap.1 hy
  obtain ⟨i, hi9⟩ := mem_at hk
  have := TOk.kin (h3 i kid hi9) y hy
  have hlt := (List.getElem?_eq_some_iff.1 hi9).1
  exact kin_kid h2 (by rw [kids_len hN.ok h1] at hlt; omega) this
theorem TOk.room {l : List Wrt} {d : Nat} {id : Int} {lo : Str} {b : Str} (h : TOk l d id lo (some b)) : slt lo b = true := by
 have hm := h.many
 have : 0 < (pOf l d id).length := Nat.lt_of_lt_of_le (Nat.two_pow_pos d) hm
 obtain ⟨y, hy⟩ := List.exists_mem_of_length_pos this
 have := h.kin y hy
 simp only [Go.Proofs.YtgmkknonnidgaaaGreat.kin, Bool.and_eq_true, Bool.not_eq_true'] at this
 exact slt_le_lt this.1 this.2
end Go.Proofs.YtgmkknonnidgaaaGreat

namespace Go.Proofs.YtgmkknonnidgaaaGreat
abbrev Br := Str × Int
def lf (ps : List Pr) : Nd := ⟨true, ps.map (·.1), ps.map (·.2), []⟩
def inr (bs : List Br) : Nd := ⟨false, bs.tail.map (·.1), [], bs.map (·.2)⟩
def brs (n : Nd) : List Br := ([], n.kids.headD 0) :: n.keys.zip n.kids.tail
theorem npr_lf (ps : List Pr) : npr (lf ps) = ps := by
 unfold npr lf
 show (ps.map (·.1)).zip (ps.map (·.2)) = ps
 induction ps with
 | nil => rfl
 | cons a r ih => simp [ih]
theorem map_fst_zip' {α β : Type} : ∀ (a : List α) (b : List β), a.length = b.length → (a.zip b).map (·.1) = a ∧ (a.zip b).map (·.2) = b
 | [], [], _ => ⟨rfl, rfl⟩
 | [], _ :: _, h => by simp at h
 | _ :: _, [], h => by simp at h
 | x :: a, y :: b, h => by
  obtain ⟨h1, h2⟩ := map_fst_zip' a b (by simpa using h)
  simp [h1, h2]
theorem lf_npr {n : Nd} (hok : NOk n) (hl : n.leaf = true) : lf (npr n) = n := by
 have h1 := hok.2.1
 unfold ncount at h1
 rw [if_pos hl] at h1
 obtain ⟨leaf, keys, vals, kids⟩ := n
 obtain ⟨a, b⟩ := map_fst_zip' keys vals (by simpa using h1.1.symm)
 have hk : kids = [] := List.eq_nil_of_length_eq_zero h1.2
 dsimp only at hl
 subst hl hk
 unfold lf npr
 simp only [Nd.mk.injEq, true_and, and_true]
 exact ⟨a, b⟩
theorem inr_brs {n : Nd} (hl : n.leaf = false) (hv : n.vals = []) (hk : n.kids.length = n.keys.length + 1) : inr (brs n) = n := by
 obtain ⟨leaf, keys, vals, kids⟩ := n
 dsimp only at hl hv hk
 subst hl hv
 cases kids with
 | nil => simp at hk
 | cons d r =>
  obtain ⟨a, b⟩ := map_fst_zip' keys r (by simpa using hk.symm)
  unfold inr brs
  simp only [List.tail_cons, List.map_cons, List.headD_cons, Nd.mk.injEq, true_and, a, b]
theorem brs_len {n : Nd} (hk : n.kids.length = n.keys.length + 1) : (brs n).length = n.kids.length := by
 unfold brs
 simp only [List.length_cons, List.length_zip, List.length_tail, hk]
 omega
theorem NOk.vals0 {n : Nd} (hok : NOk n) (hl : n.leaf = false) : n.vals = [] := by
 have h1 := hok.2.1
 unfold ncount at h1
 rw [hl, if_neg (by decide)] at h1
 exact List.eq_nil_of_length_eq_zero h1.1
theorem inr_brs' {n : Nd} (hok : NOk n) (hl : n.leaf = false) : inr (brs n) = n := inr_brs hl (hok.vals0 hl) (kids_len hok hl)
def Seg (l : List Wrt) (d : Nat) : Str → Option Str → List Br → Prop
 | _, _, [] => False
 | lo, hi, [b] => TOk l d b.2 lo hi
 | lo, hi, b :: c :: r => TOk l d b.2 lo (some c.1) ∧ Seg l d c.1 hi (c :: r)
theorem Seg.ne {l : List Wrt} {d : Nat} {lo : Str} {hi : Option Str} {bs : List Br} (h : Seg l d lo hi bs) : bs ≠ [] := by
 intro e; subst e; exact h
theorem Seg.ext {l l' : List Wrt} (h : Ext l l') {d : Nat} : ∀ {bs : List Br} {lo : Str} {hi : Option Str}, Seg l d lo hi bs → Seg l' d lo hi bs
 | [], _, _, k => k
 | [b], _, _, k => (TOk.ext h k).1
 | b :: c :: r, _, _, k => ⟨(TOk.ext h k.1).1, Seg.ext h k.2⟩
theorem Seg.each {l : List Wrt} {d : Nat} : ∀ {bs : List Br} {lo : Str} {hi : Option Str}, Seg l d lo hi bs → ∀ b ∈ bs, ∃ lo' hi', TOk l d b.2 lo' hi'
 | [], _, _, k, b, hb => by cases hb
 | [c], _, _, k, b, hb => by
  have : b = c := by simpa using hb
  subst this; exact ⟨_, _, k⟩
 | c :: e :: r, _, _, k, b, hb => by
  rcases List.mem_cons.1 hb with rfl | hb
  ·exact ⟨_, _, k.1⟩
  ·exact Seg.each k.2 b hb
theorem seg_app {l : List Wrt} {d : Nat} : ∀ {a : List Br} {lo : Str} {hi : Option Str} {c : Br} {r : List Br}, a ≠ [] → (Seg l d lo hi (a ++ c :: r) ↔ Seg l d lo (some c.1) a ∧ Seg l d c.1 hi (c :: r))
 | [], _, _, _, _, h => absurd rfl h
 | [b], lo, hi, c, r, _ => Iff.rfl
 | b :: e :: a, lo, hi, c, r, _ => by
  have ih := seg_app (l := l) (d := d) (a := e :: a) (lo := e.1) (hi := hi) (c := c) (r := r) (by simp)
  show (TOk l d b.2 lo (some e.1) ∧ Seg l d e.1 hi (e :: a ++ c :: r)) ↔ (TOk l d b.2 lo (some e.1) ∧ Seg l d e.1 (some c.1) (e :: a)) ∧ _
  rw [ih, and_assoc]
theorem seg_first {l : List Wrt} {d : Nat} {lo : Str} {hi : Option Str} {b c : Br} {r : List Br} (h : b.2 = c.2) : Seg l d lo hi (b :: r) ↔ Seg l d lo hi (c :: r) := by
 cases r with
 | nil => show TOk l d b.2 lo hi ↔ TOk l d c.2 lo hi; rw [h]
 | cons e r => show (TOk l d b.2 lo _ ∧ _) ↔ (TOk l d c.2 lo _ ∧ _); rw [h]
theorem slt_trans_le {a b c : Str} (h1 : slt b a = false) (h2 : slt c b = false) : slt c a = false := by
 cases h : slt c a with
 | false => rfl
 | true =>
  have := slt_lt_le h h1
  rw [this] at h2; cases h2
theorem Seg.room {l : List Wrt} {d : Nat} : ∀ {bs : List Br} {lo : Str} {b : Str}, Seg l d lo (some b) bs → slt lo b = true
 | [], _, _, k => k.elim
 | [c], lo, b, k => TOk.room k
 | c :: e :: r, lo, b, k => slt_trans (TOk.room k.1) (Seg.room k.2)
theorem Seg.hi {l : List Wrt} {d : Nat} : ∀ {bs : List Br} {lo : Str} {hi hi' : Option Str}, Seg l d lo hi bs → (∀ lo, Wide lo hi lo hi') → Seg l d lo hi' bs
 | [], _, _, _, k, _ => k
 | [c], _, _, _, k, hw => TOk.wide k (hw _)
 | c :: e :: r, _, _, _, k, hw => ⟨k.1, Seg.hi k.2 hw⟩
theorem Seg.lo {l : List Wrt} {d : Nat} {bs : List Br} {lo lo' : Str} {hi : Option Str} (k : Seg l d lo hi bs) (hw : slt lo lo' = false) : Seg l d lo' hi bs := by
 match bs, k with
 | [c], k => exact TOk.wide k ⟨hw, (Wide.refl lo hi).2⟩
 | c :: e :: r, k => exact ⟨TOk.wide k.1 ⟨hw, slt_irr _⟩, k.2⟩
theorem Seg.keys {l : List Wrt} {d : Nat} : ∀ {bs : List Br} {lo : Str} {hi : Option Str}, Seg l d lo hi bs → Rise (bs.tail.map (·.1)) ∧ ∀ k ∈ bs.tail.map (·.1), slt lo k = true ∧ kin lo hi k = true
 | [], _, _, k => k.elim
 | [c], lo, hi, k => ⟨List.Pairwise.nil, fun k hk => by simp at hk⟩
 | c :: e :: r, lo, hi, k => by
  obtain ⟨h1, h2⟩ := Seg.keys k.2
  have hr := TOk.room k.1
  have he : kin lo hi e.1 = true := by
   simp only [Go.Proofs.YtgmkknonnidgaaaGreat.kin, Bool.and_eq_true, Bool.not_eq_true']
   refine ⟨slt_asym hr, ?_⟩
   cases hi with
   | none => rfl
   | some b => exact Seg.room k.2
  refine ⟨?_, fun y hy => ?_⟩
  ·show Rise (e.1 :: (e :: r).tail.map (·.1))
   exact List.pairwise_cons.2 ⟨fun y hy => (h2 y hy).1, h1⟩
  ·have hy' : y = e.1 ∨ y ∈ (e :: r).tail.map (·.1) := by simpa using hy
   rcases hy' with rfl | hy'
   ·exact ⟨hr, he⟩
   ·obtain ⟨a, b⟩ := h2 y hy'
    refine ⟨slt_trans hr a, ?_⟩
    simp only [Go.Proofs.YtgmkknonnidgaaaGreat.kin, Bool.and_eq_true, Bool.not_eq_true'] at b ⊢
    exact ⟨slt_asym (slt_trans hr a), b.2⟩
def sprs (l : List Wrt) (d : Nat) (bs : List Br) : List Pr := bs.flatMap fun b => pOf l d b.2
def sids (l : List Wrt) (d : Nat) (bs : List Br) : List Int := bs.flatMap fun b => idsOf l d b.2
theorem sprs_app (l : List Wrt) (d : Nat) (a b : List Br) : sprs l d (a ++ b) = sprs l d a ++ sprs l d b := by unfold sprs; rw [List.flatMap_append]
theorem sids_app (l : List Wrt) (d : Nat) (a b : List Br) : sids l d (a ++ b) = sids l d a ++ sids l d b := by unfold sids; rw [List.flatMap_append]
theorem sprs_inr (l : List Wrt) (d : Nat) (bs : List Br) : (inr bs).kids.flatMap (pOf l d) = sprs l d bs := by
 unfold inr sprs
 show (bs.map (·.2)).flatMap (pOf l d) = _
 rw [List.flatMap_map]
theorem sids_inr (l : List Wrt) (d : Nat) (bs : List Br) : (inr bs).kids.flatMap (idsOf l d) = sids l d bs := by
 unfold inr sids
 show (bs.map (·.2)).flatMap (idsOf l d) = _
 rw [List.flatMap_map]
theorem seg_ext {l l' : List Wrt} (h : Ext l l') {d : Nat} {bs : List Br} (k : ∀ b ∈ bs, ∃ lo' hi', TOk l d b.2 lo' hi') : sprs l' d bs = sprs l d bs ∧ sids l' d bs = sids l d bs :=
 ⟨flatMap_same _ fun b hb => by obtain ⟨_, _, q⟩ := k b hb; exact (TOk.ext h q).2.2, flatMap_same _ fun b hb => by obtain ⟨_, _, q⟩ := k b hb; exact (TOk.ext h q).2.1⟩
theorem Seg.kin {l : List Wrt} {d : Nat} : ∀ {bs : List Br} {lo : Str} {hi : Option Str}, Seg l d lo hi bs → ∀ y ∈ sprs l d bs, kin lo hi y.1 = true
 | [], _, _, k, _, _ => k.elim
 | [c], lo, hi, k, y, hy => TOk.kin k y (by simpa [sprs] using hy)
 | c :: e :: r, lo, hi, k, y, hy => by
  have hy' : y ∈ pOf l d c.2 ∨ y ∈ sprs l d (e :: r) := by simpa [sprs] using hy
  have hr := TOk.room k.1
  rcases hy' with hy | hy
  ·have := TOk.kin k.1 y hy
   simp only [Go.Proofs.YtgmkknonnidgaaaGreat.kin, Bool.and_eq_true, Bool.not_eq_true'] at this ⊢
   refine ⟨this.1, ?_⟩
   cases hi with
   | none => rfl
   | some b => exact slt_trans this.2 (Seg.room k.2)
  ·have := Seg.kin k.2 y hy
   simp only [Go.Proofs.YtgmkknonnidgaaaGreat.kin, Bool.and_eq_true, Bool.not_eq_true'] at this ⊢
   refine ⟨?_, this.2⟩
   exact slt_trans_le (slt_asym hr) this.1
theorem kidLo_succ {a b : Str} {ks : List Str} {vals : List Str} {d0 : Int} {ds : List Int} {lf : Bool} (lo : Str) (i : Nat) : kidLo ⟨lf, a :: ks, vals, d0 :: ds⟩ lo (i + 1) = kidLo ⟨lf, ks, vals, ds⟩ a i := by
 unfold kidLo
 rw [if_neg (by omega)]
 cases i with
 | zero => simp
 | succ i => simp
theorem kidHi_succ {a : Str} {ks : List Str} {vals : List Str} {d0 : Int} {ds : List Int} {lf : Bool} (hi : Option Str) (i : Nat) : kidHi ⟨lf, a :: ks, vals, d0 :: ds⟩ hi (i + 1) = kidHi ⟨lf, ks, vals, ds⟩ hi i := by
 unfold kidHi
 simp
theorem seg_kids {l : List Wrt} {d : Nat} : ∀ {bs : List Br} {lo : Str} {hi : Option Str}, bs ≠ [] → (Seg l d lo hi bs ↔ ∀ (i : Nat) kid, (inr bs).kids[i]? = some kid → TOk l d kid (kidLo (inr bs) lo i) (kidHi (inr bs) hi i))
 | [], _, _, h => absurd rfl h
 | [b], lo, hi, _ => by
  constructor
  ·intro h i kid hk
   cases i with
   | zero =>
    have : b.2 = kid := by simpa [inr] using hk
    subst this
    exact h
   | succ i => simp [inr] at hk
  ·intro h
   exact h 0 b.2 rfl
 | b :: c :: r, lo, hi, _ => by
  have ih := seg_kids (l := l) (d := d) (bs := c :: r) (lo := c.1) (hi := hi) (by simp)
  have e : inr (b :: c :: r) = ⟨false, c.1 :: (inr (c :: r)).keys, [], b.2 :: (inr (c :: r)).kids⟩ := rfl
  have e2 : inr (c :: r) = ⟨false, (inr (c :: r)).keys, [], (inr (c :: r)).kids⟩ := rfl
  show (TOk l d b.2 lo (some c.1) ∧ Seg l d c.1 hi (c :: r)) ↔ _
  rw [ih]
  constructor
  ·rintro ⟨h1, h2⟩ i kid hk
   cases i with
   | zero =>
    have : b.2 = kid := by simpa [inr] using hk
    subst this
    exact h1
   | succ i =>
    rw [e, kidLo_succ (b := c.1), kidHi_succ, ← e2]
    exact h2 i kid (by rw [e] at hk; simpa using hk)
  ·intro h
   refine ⟨h 0 b.2 rfl, fun i kid hk => ?_⟩
   have := h (i + 1) kid (by rw [e]; simpa using hk)
   rw [e, kidLo_succ (b := c.1), kidHi_succ, ← e2] at this
   exact this
theorem tok_seg {l : List Wrt} {d : Nat} {id : Int} {lo : Str} {hi : Option Str} (h : TOk l (d + 1) id lo hi) : ∃ nd, NdIs l id nd ∧ nd.leaf = false ∧ Seg l d lo hi (brs nd) ∧ idsOf l (d + 1) id = id :: sids l d (brs nd) ∧ pOf l (d + 1) id = sprs l d (brs nd) := by
 obtain ⟨nd, hN, h1, h2, h3⟩ := h
 have e := inr_brs' hN.ok h1
 refine ⟨nd, hN, h1, ?_, ?_, ?_⟩
 ·rw [seg_kids (by unfold brs; simp), e]; exact h3
 ·rw [idsOf, hN.at, ← sids_inr, e]
 ·rw [pOf, hN.at, ← sprs_inr, e]
theorem seg_tok {l : List Wrt} {d : Nat} {id : Int} {lo : Str} {hi : Option Str} {bs : List Br} (hN : NdIs l id (inr bs)) (h : Seg l d lo hi bs) : TOk l (d + 1) id lo hi ∧ idsOf l (d + 1) id = id :: sids l d bs ∧ pOf l (d + 1) id = sprs l d bs := by
 refine ⟨⟨_, hN, rfl, List.all_eq_true.2 fun k hk => (h.keys.2 k hk).2, (seg_kids h.ne).1 h⟩, ?_, ?_⟩
 ·rw [idsOf, hN.at, sids_inr]
 ·rw [pOf, hN.at, sprs_inr]
theorem lf_tok {l : List Wrt} {id : Int} {lo : Str} {hi : Option Str} {ps : List Pr} (hN : NdIs l id (lf ps)) (h0 : ps ≠ []) (h : ∀ y ∈ ps, kin lo hi y.1 = true) : TOk l 0 id lo hi ∧ idsOf l 0 id = [id] ∧ pOf l 0 id = ps := by
 refine ⟨⟨_, hN, rfl, by simpa [lf] using h0, List.all_eq_true.2 fun k hk => ?_⟩, rfl, by rw [pOf, hN.at, npr_lf]⟩
 obtain ⟨y, hy, rfl⟩ := List.mem_map.1 hk
 exact h y hy
end Go.Proofs.YtgmkknonnidgaaaGreat

namespace Go.Proofs.YtgmkknonnidgaaaGreat
def pw (y : Pr) : Nat := 2 + y.1.length + y.2.length
def bw (b : Br) : Nat := 5 + b.1.length
theorem sum_take_succ {ws : List Nat} {k : Nat} {x : Nat} (h : ws[k]? = some x) : (ws.take (k + 1)).sum = (ws.take k).sum + x := by
 rw [List.take_add_one, h]; simp
theorem nsz_lf (ps : List Pr) : ∀ k, k ≤ ps.length → nsz (lf ps) k = 2 + (((ps.map pw).take k).sum : Int)
 | 0, _ => by simp [nsz]
 | k + 1, h => by
  have ih := nsz_lf ps k (by omega)
  have hk : ps[k]? = some ps[k] := List.getElem?_eq_getElem (by omega)
  have hw : (ps.map pw)[k]? = some (pw ps[k]) := by simp [hk]
  rw [sum_take_succ hw]
  simp only [nsz, ih]
  have e1 : (lf ps).keys[k]? = some ps[k].1 := by simp [lf, hk]
  have e2 : (lf ps).vals[k]? = some ps[k].2 := by simp [lf, hk]
  have e3 : (lf ps).leaf = true := rfl
  rw [e1, e2, e3]
  simp only [Option.getD_some, if_true, pw]
  push_cast
  omega
theorem nsize_lf (ps : List Pr) : nsize (lf ps) = 2 + ((ps.map pw).sum : Int) := by
 unfold nsize
 have e : (lf ps).keys.length = ps.length := by simp [lf]
 rw [e, nsz_lf ps ps.length (Nat.le_refl _), show (lf ps).leaf = true from rfl]
 have : (ps.map pw).take ps.length = ps.map pw := List.take_of_length_le (by simp)
 rw [this]; simp
theorem nsz_inr (b : Br) (r : List Br) : ∀ k, k ≤ r.length → nsz (inr (b :: r)) k + 4 * (k : Int) = 2 + (((r.map bw).take k).sum : Int)
 | 0, _ => by simp [nsz]
 | k + 1, h => by
  have ih := nsz_inr b r k (by omega)
  have hk : r[k]? = some r[k] := List.getElem?_eq_getElem (by omega)
  have hw : (r.map bw)[k]? = some (bw r[k]) := by simp [hk]
  rw [sum_take_succ hw]
  simp only [nsz]
  have e1 : (inr (b :: r)).keys[k]? = some r[k].1 := by simp [inr, hk]
  have e3 : (inr (b :: r)).leaf = false := rfl
  rw [e1, e3]
  simp only [Option.getD_some, bw]
  push_cast
  simp
  omega
theorem nsize_inr (b : Br) (r : List Br) : nsize (inr (b :: r)) = 6 + ((r.map bw).sum : Int) := by
 unfold nsize
 have e : (inr (b :: r)).keys.length = r.length := by simp [inr]
 have e2 : (inr (b :: r)).kids.length = r.length + 1 := by simp [inr]
 have h := nsz_inr b r r.length (Nat.le_refl _)
 have : (r.map bw).take r.length = r.map bw := List.take_of_length_le (by simp)
 rw [this] at h
 rw [e, e2, show (inr (b :: r)).leaf = false from rfl]
 push_cast
 try simp
 omega
theorem nkeys_of {n : Nd} (h : Rise n.keys) (hl : ∀ k ∈ n.keys, 1 ≤ k.length ∧ k.length ≤ 32) : nkeys n n.keys.length := by
 intro k hk
 have e : ∀ j, j < n.keys.length → nkey n j = n.keys[j]?.getD [] := fun j _ => rfl
 have e1 : nkey n k = n.keys[k] := by rw [nkey, List.getElem?_eq_getElem hk]; rfl
 have hm := hl n.keys[k] (List.getElem_mem hk)
 refine ⟨by rw [e1]; exact hm.1, by rw [e1]; exact hm.2, fun h0 => ?_⟩
 have e2 : nkey n (k - 1) = n.keys[k - 1] := by rw [nkey, List.getElem?_eq_getElem (by omega)]; rfl
 rw [e1, e2]
 exact List.pairwise_iff_getElem.1 h (k - 1) k (by omega) hk (by omega)
theorem nkeys_to {n : Nd} (h : nkeys n n.keys.length) : Rise n.keys ∧ ∀ k ∈ n.keys, 1 ≤ k.length ∧ k.length ≤ 32 := by
 refine ⟨rise_of h, fun k hk => ?_⟩
 obtain ⟨i, hi, e⟩ := List.getElem_of_mem hk
 have := h i hi
 have e1 : nkey n i = k := by rw [nkey, List.getElem?_eq_getElem hi, e]; rfl
 rw [nkOk, e1] at this
 exact ⟨this.1, this.2.1⟩
def PrOk (ps : List Pr) : Prop := Rise (ps.map (·.1)) ∧ ∀ y ∈ ps, (1 ≤ y.1.length ∧ y.1.length ≤ 32) ∧ y.2.length ≤ 64
theorem lf_ok {ps : List Pr} (h : PrOk ps) (hs : nsize (lf ps) ≤ 244) : NOk (lf ps) := by
 refine ⟨nkeys_of h.1 (fun k hk => ?_), ?_, fun k hk => ?_, fun k hk => ?_, hs⟩
 ·obtain ⟨y, hy, rfl⟩ := List.mem_map.1 hk
  exact (h.2 y hy).1
 ·unfold ncount; rw [show (lf ps).leaf = true from rfl, if_pos rfl]; exact ⟨by simp [lf], rfl⟩
 ·have hk' : k < ps.length := by simpa [lf] using hk
  have : (lf ps).vals[k]? = some ps[k].2 := by simp [lf, hk']
  rw [this]
  exact (h.2 _ (List.getElem_mem hk')).2
 ·simp [lf] at hk
theorem lf_to {nd : Nd} (hok : NOk nd) (hl : nd.leaf = true) : nd = lf (npr nd) ∧ PrOk (npr nd) := by
 have e := lf_npr hok hl
 refine ⟨e.symm, ?_⟩
 obtain ⟨h1, h2⟩ := nkeys_to hok.1
 rw [← e] at h1 h2
 refine ⟨h1, fun y hy => ⟨h2 y.1 (List.mem_map.2 ⟨y, hy, rfl⟩), ?_⟩⟩
 have hv := hok.2.2.1
 have hm : y.2 ∈ nd.vals := (List.of_mem_zip hy).2
 obtain ⟨i, hi, e⟩ := List.getElem_of_mem hm
 have := hv i hi
 rw [List.getElem?_eq_getElem hi, e] at this
 exact this
def BrOk (bs : List Br) : Prop := (∀ b ∈ bs.tail, 1 ≤ b.1.length ∧ b.1.length ≤ 32) ∧ ∀ b ∈ bs, 1 ≤ b.2 ∧ b.2 ≤ 65536
theorem inr_ok {bs : List Br} (hr : Rise (bs.tail.map (·.1))) (h : BrOk bs) (h0 : bs.tail ≠ []) (hs : nsize (inr bs) ≤ 244) : NOk (inr bs) := by
 have hb : bs.length = bs.tail.length + 1 := by cases bs with | nil => exact absurd rfl h0 | cons a r => simp
 refine ⟨nkeys_of hr (fun k hk => ?_), ?_, fun k hk => ?_, fun k hk => ?_, hs⟩
 ·obtain ⟨y, hy, rfl⟩ := List.mem_map.1 hk
  exact h.1 y hy
 ·unfold ncount
  rw [show (inr bs).leaf = false from rfl, if_neg (by decide)]
  refine ⟨rfl, ?_, ?_⟩
  ·have : (inr bs).keys.length = bs.tail.length := by simp [inr]
   have h9 : bs.tail.length ≠ 0 := fun h => h0 (List.eq_nil_of_length_eq_zero h)
   omega
  ·simp only [inr, List.length_map]; exact hb
 ·simp [inr] at hk
 ·have hk' : k < bs.length := by simpa [inr] using hk
  have : (inr bs).kids[k]? = some bs[k].2 := by simp [inr, hk']
  rw [this]
  exact h.2 _ (List.getElem_mem hk')
theorem inr_to {nd : Nd} (hok : NOk nd) (hl : nd.leaf = false) : nd = inr (brs nd) ∧ BrOk (brs nd) ∧ (brs nd).tail ≠ [] := by
 have e := inr_brs' hok hl
 obtain ⟨h1, h2⟩ := nkeys_to hok.1
 have hk := kids_len hok hl
 have hc := hok.2.1
 unfold ncount at hc
 rw [hl, if_neg (by decide)] at hc
 refine ⟨e.symm, ⟨fun b hb => ?_, fun b hb => ?_⟩, fun h9 => ?_⟩
 ·have : b.1 ∈ (inr (brs nd)).keys := List.mem_map.2 ⟨b, hb, rfl⟩
  rw [e] at this
  exact h2 _ this
 ·have : b.2 ∈ (inr (brs nd)).kids := List.mem_map.2 ⟨b, hb, rfl⟩
  rw [e] at this
  obtain ⟨i, hi, e9⟩ := List.getElem_of_mem this
  have := hok.2.2.2.1 i hi
  rw [List.getElem?_eq_getElem hi, e9] at this
  exact this
 ·have : (inr (brs nd)).keys = [] := by unfold inr; rw [h9]; rfl
  rw [e] at this
  rw [this] at hc; simp at hc
def cutL (n : Nd) (k : Nat) : Nd := if n.leaf then ⟨true, n.keys.take k, n.vals.take k, []⟩ else ⟨false, n.keys.take k, [], n.kids.take (k + 1)⟩
def cutR (n : Nd) (k : Nat) : Nd := if n.leaf then ⟨true, n.keys.drop k, n.vals.drop k, []⟩ else ⟨false, n.keys.drop (k + 1), [], n.kids.drop (k + 1)⟩
def cutG (n : Nd) (k : Nat) : Int := max (nsize (cutL n k)) (nsize (cutR n k))
def midTo (n : Nd) : Nat → Nat × Int
 | 0 => (0, nsize n)
 | k + 1 => if cutG n k < (midTo n k).2 then (k, cutG n k) else midTo n k
def midOf (n : Nd) : Nat := (midTo n n.keys.length).1
theorem midTo_ok (n : Nd) : ∀ k, (∀ j, j < k → (midTo n k).2 ≤ cutG n j) ∧ (midTo n k).2 ≤ nsize n ∧ ((midTo n k).2 < nsize n → (midTo n k).1 < k ∧ cutG n (midTo n k).1 = (midTo n k).2)
 | 0 => ⟨fun j h => by omega, Int.le_refl _, fun h => by simp [midTo] at h⟩
 | k + 1 => by
  obtain ⟨h1, h2, h3⟩ := midTo_ok n k
  simp only [midTo]
  split
  ·rename_i hc
   refine ⟨fun j hj => ?_, by show cutG n k ≤ _; omega, fun _ => ⟨by show k < k + 1; omega, rfl⟩⟩
   show cutG n k ≤ cutG n j
   by_cases e : j = k
   ·subst e; exact Int.le_refl _
   ·have := h1 j (by omega); omega
  ·rename_i hc
   refine ⟨fun j hj => ?_, h2, fun h => ⟨by have := (h3 h).1; omega, (h3 h).2⟩⟩
   by_cases e : j = k
   ·subst e; omega
   ·exact h1 j (by omega)
theorem cutL_lf (ps : List Pr) (k : Nat) : cutL (lf ps) k = lf (ps.take k) := by simp [cutL, lf, List.map_take]
theorem cutR_lf (ps : List Pr) (k : Nat) : cutR (lf ps) k = lf (ps.drop k) := by simp [cutR, lf, List.map_drop]
theorem cutL_inr (b : Br) (r : List Br) (k : Nat) : cutL (inr (b :: r)) k = inr (b :: r.take k) := by simp [cutL, inr, List.map_take]
theorem cutR_inr (b : Br) (r : List Br) (k : Nat) : cutR (inr (b :: r)) k = inr (r.drop k) := by simp [cutR, inr, List.map_drop]
theorem pref (ws : List Nat) (M : Nat) (h : M < ws.sum) : ∃ j, j < ws.length ∧ (ws.take j).sum ≤ M ∧ M < (ws.take (j + 1)).sum := by
 induction ws generalizing M with
 | nil => simp at h
 | cons a r ih =>
  by_cases ha : M < a
  ·exact ⟨0, by simp, by simp, by simpa using ha⟩
  ·obtain ⟨j, h1, h2, h3⟩ := ih (M - a) (by simp at h; omega)
   refine ⟨j + 1, by simp; omega, by simp; omega, by simp at h3 ⊢; omega⟩
theorem sum_split (ws : List Nat) (j : Nat) : (ws.take j).sum + (ws.drop j).sum = ws.sum := by
 conv => rhs; rw [← List.take_append_drop j ws]
 rw [List.sum_append]
theorem leaf_cut {ps : List Pr} (hw : ∀ y ∈ ps, pw y ≤ 98) (h1 : 244 < nsize (lf ps)) (h2 : nsize (lf ps) ≤ 342) : 0 < midOf (lf ps) ∧ midOf (lf ps) < ps.length ∧ nsize (lf (ps.take (midOf (lf ps)))) ≤ 244 ∧ nsize (lf (ps.drop (midOf (lf ps)))) ≤ 244 := by
 have hk : (lf ps).keys.length = ps.length := by simp [lf]
 obtain ⟨a, b, c⟩ := midTo_ok (lf ps) ps.length
 have em : midOf (lf ps) = (midTo (lf ps) ps.length).1 := by rw [midOf, hk]
 have hs := nsize_lf ps
 obtain ⟨j, j1, j2, j3⟩ := pref (ps.map pw) 242 (by omega)
 have jl : j < ps.length := by simpa using j1
 have hwj : (ps.map pw)[j]? = some (pw ps[j]) := by simp [jl]
 have hle := hw ps[j] (List.getElem_mem jl)
 rw [sum_take_succ hwj] at j3
 have hsp := sum_split (ps.map pw) j
 have hg : cutG (lf ps) j ≤ 244 := by
  unfold cutG
  rw [cutL_lf, cutR_lf, nsize_lf, nsize_lf, List.map_take, List.map_drop]
  omega
 have hlt := a j jl
 obtain ⟨c1, c2⟩ := c (by omega)
 rw [← em] at c1 c2
 have hg2 : cutG (lf ps) (midOf (lf ps)) ≤ 244 := by omega
 unfold cutG at hg2
 rw [cutL_lf, cutR_lf] at hg2
 refine ⟨?_, c1, by omega, by omega⟩
 apply Nat.pos_of_ne_zero
 intro h0
 rw [h0] at hg2
 simp only [List.drop_zero] at hg2
 omega
theorem inr_cut {b0 : Br} {r : List Br} (hw : ∀ y ∈ r, bw y ≤ 37) (h1 : 244 < nsize (inr (b0 :: r))) (h2 : nsize (inr (b0 :: r)) ≤ 281) :
  0 < midOf (inr (b0 :: r)) ∧ midOf (inr (b0 :: r)) + 1 < r.length ∧ nsize (inr (b0 :: r.take (midOf (inr (b0 :: r))))) ≤ 244 ∧ nsize (inr (r.drop (midOf (inr (b0 :: r))))) ≤ 244 := by
 have hk : (inr (b0 :: r)).keys.length = r.length := by simp [inr]
 obtain ⟨a, b, c⟩ := midTo_ok (inr (b0 :: r)) r.length
 obtain ⟨m, em⟩ : ∃ m, m = midOf (inr (b0 :: r)) := ⟨_, rfl⟩
 have em' : m = (midTo (inr (b0 :: r)) r.length).1 := by rw [em, midOf, hk]
 rw [← em]
 have hs := nsize_inr b0 r
 have hbp : ∀ y : Br, 5 ≤ bw y := fun y => by unfold bw; omega
 -- sizes of the parts
 have hG : ∀ j, j < r.length → ∃ x : Nat, x = bw r[j]! ∧ x ≤ 37 ∧ 5 ≤ x ∧ ((r.map bw).take j).sum + x + ((r.map bw).drop (j + 1)).sum = (r.map bw).sum ∧ nsize (cutL (inr (b0 :: r)) j) = 6 + (((r.map bw).take j).sum : Int) ∧ nsize (cutR (inr (b0 :: r)) j) = 6 + (((r.map bw).drop (j + 1)).sum : Int) := by
  intro j hj
  have hwj : (r.map bw)[j]? = some (bw r[j]) := by simp [hj]
  have hsp := sum_split (r.map bw) (j + 1)
  rw [sum_take_succ hwj] at hsp
  refine ⟨bw r[j], by rw [getElem!_pos r j hj], hw _ (List.getElem_mem hj), hbp _, hsp, ?_, ?_⟩
  ·rw [cutL_inr, nsize_inr, List.map_take]
  ·rw [cutR_inr]
   have e : r.drop j = r[j] :: r.drop (j + 1) := List.drop_eq_getElem_cons hj
   rw [e, nsize_inr, List.map_drop]
 have hlen : 6 < r.length := by
  have : ∀ l : List Br, (∀ y ∈ l, bw y ≤ 37) → (l.map bw).sum ≤ 37 * l.length := by
   intro l
   induction l with
   | nil => intro _; simp
   | cons a l ih =>
    intro h
    have h1 := ih fun y hy => h y (by simp [hy])
    have h2 := h a (by simp)
    simp only [List.map_cons, List.sum_cons, List.length_cons]
    omega
  have := this r hw
  omega
 obtain ⟨j, j1, j2, j3⟩ := pref (r.map bw) 238 (by omega)
 have jl : j < r.length := by simpa using j1
 obtain ⟨x, _, x1, x2, x3, x4, x5⟩ := hG j jl
 have hwj : (r.map bw)[j]? = some (bw r[j]) := by simp [jl]
 rw [sum_take_succ hwj] at j3
 have hxj : x = bw r[j] := by
  obtain ⟨x', h9, _⟩ := hG j jl
  have : r[j]! = r[j] := getElem!_pos r j jl
  simp_all
 have hg : cutG (inr (b0 :: r)) j ≤ 244 := by unfold cutG; rw [x4, x5]; omega
 have hlt := a j jl
 obtain ⟨c1, c2⟩ := c (by omega)
 rw [← em'] at c1 c2
 have hgm : cutG (inr (b0 :: r)) m ≤ 244 := by omega
 have hmin : ∀ j, j < r.length → cutG (inr (b0 :: r)) m ≤ cutG (inr (b0 :: r)) j := fun j hj => by have := a j hj; omega
 refine ⟨?_, ?_, ?_, ?_⟩
 ·apply Nat.pos_of_ne_zero
  intro h0
  have hm1 := hmin 1 (by omega)
  rw [h0] at hm1
  obtain ⟨y, _, y1, y2, y3, y4, y5⟩ := hG 0 (by omega)
  obtain ⟨z, _, z1, z2, z3, z4, z5⟩ := hG 1 (by omega)
  have e0 : ((r.map bw).take 0).sum = 0 := by simp
  have hw0 : (r.map bw)[0]? = some (bw r[0]) := by simp [show 0 < r.length by omega]
  have e1 := sum_take_succ hw0
  have hsp0 := sum_split (r.map bw) 1
  have b1 := hw r[0] (List.getElem_mem (by omega))
  unfold cutG at hm1
  rw [y4, y5, z4, z5] at hm1
  simp only [Nat.zero_add] at *
  omega
 ·by_cases h9 : m + 1 < r.length
  ·exact h9
  ·exfalso
   have hmm : m = r.length - 1 := by omega
   have hm1 := hmin (r.length - 2) (by omega)
   rw [hmm] at hm1
   obtain ⟨y, _, y1, y2, y3, y4, y5⟩ := hG (r.length - 1) (by omega)
   obtain ⟨z, _, z1, z2, z3, z4, z5⟩ := hG (r.length - 2) (by omega)
   have ed : ((r.map bw).drop (r.length - 1 + 1)).sum = 0 := by rw [List.drop_eq_nil_of_le (by simp; omega)]; rfl
   have hwl : (r.map bw)[r.length - 2]? = some (bw r[r.length - 2]) := by simp [show r.length - 2 < r.length by omega]
   have e1 := sum_take_succ hwl
   rw [show r.length - 2 + 1 = r.length - 1 by omega] at e1 z3 z5
   have hwl2 : (r.map bw)[r.length - 1]? = some (bw r[r.length - 1]) := by simp [show r.length - 1 < r.length by omega]
   have hsp0 := sum_split (r.map bw) (r.length - 1)
   have b1 := hbp r[r.length - 2]
   unfold cutG at hm1
   rw [y4, y5, z4, z5] at hm1
   omega
 ·rw [← cutL_inr]; unfold cutG at hgm; omega
 ·rw [← cutR_inr (b := b0)]; unfold cutG at hgm; omega
end Go.Proofs.YtgmkknonnidgaaaGreat

namespace Go.Proofs.YtgmkknonnidgaaaGreat
open Go.RowKit
theorem retNTN {P : Program} {fn : Func} {R : Ending → World → Prop} {a : Act} {w : World} {p q u1 : Tmp} {ty ty' : TypeId} (h : fn.results = #[.cell p ty, .tmp u1, .cell q ty']) (hd : a.defers = []) (g g' : Nat) (hp : a.tmps.getD p undef = .pointer (some ⟨g, 0, none⟩)) (hq : a.tmps.getD q undef = .pointer (some ⟨g', 0, none⟩))
  (cs cs' : Array Value) (t t' : TypeId) (fr fr' : Nat × Nat) (hg : w.heap[g]? = some (.cells cs t fr)) (hg' : w.heap[g']? = some (.cells cs' t' fr')) (d d' : TypeDesc) (hu : P.underlying ty = some d) (hr : (match d with | .struct _ | .array _ _ => true | _ => false) = true) (hi : (P.info? ty).map (·.size) = some cs.size)
  (hu' : P.underlying ty' = some d') (hr' : (match d' with | .struct _ | .array _ _ => true | _ => false) = true) (hi' : (P.info? ty').map (·.size) = some cs'.size)
  (v1 : Value) (e1 : a.tmps.getD u1 undef = v1) (hR : R (.returned (.tuple #[.agg cs, v1, .agg cs'])) w) : bodyPost P fn R .ret a w := by
 refine bodyPost_ret (v := .tuple #[.agg cs, v1, .agg cs']) ?_ hd hR
 have hp' : a.tmps[p]?.getD undef = .pointer (some ⟨g, 0, none⟩) := by simpa using hp
 have hq' : a.tmps[q]?.getD undef = .pointer (some ⟨g', 0, none⟩) := by simpa using hq
 have e1' : a.tmps[u1]?.getD undef = v1 := by simpa using e1
 simp [results, h, hp', hq', e1', asAddr, run_loadVar_row w g t ty cs fr d hg hu hr hi, run_loadVar_row w g' t' ty' cs' fr' d' hg' hu' hr' hi']
abbrev CutR (w w' : World) (n : Nd) (i : Nat) (e : Ending) : Prop := ∃ k1 v1 d1 k2 v2 d2, e = .returned (.tuple #[nv (cutL n i) k1 v1 d1, st (n.keys.getD i []), nv (cutR n i) k2 v2 d2]) ∧ RdK w' k1 v1 d1 (cutL n i) ∧ RdK w' k2 v2 d2 (cutR n i) ∧ Below w.heap.size w w'
theorem rd_nilT (w : World) : RdT w (.slice none 0 0) [] := ⟨none, 0, rfl, by simp, by decide, fun _ => rfl, .inl rfl⟩
theorem rd_nilI (w : World) : RdI w (.slice none 0 0) [] := ⟨none, 0, rfl, by simp, by decide, fun _ => rfl, .inl rfl⟩
set_option maxRecDepth 100000 in
set_option maxHeartbeats 8000000 in
theorem pcut_leaf (w : World) (n : Nd) (kv vv dv : Value) (i : Nat) (h0 : RdK w kv vv dv n) (hi : i < n.keys.length) (hl : n.keys.length ≤ 1000) (hlf : n.leaf = true) (hlv : n.vals.length = n.keys.length) :
  Calls Tryz.prog 86 #[nv n kv vv dv, .int .i64 (i : Int)] w fun e w' => CutR w w' n i e := by
 have hr := h0.rd
 obtain ⟨ka, kc, va, vc, da, dc, rfl, rfl, rfl⟩ := hr.slices
 obtain ⟨x, hx⟩ : ∃ x, n.keys[i]? = some x := ⟨_, List.getElem?_eq_getElem hi⟩
 have hgd : n.keys.getD i [] = x := by rw [List.getD_eq_getElem?_getD, hx]; rfl
 obtain ⟨X, hX, D0, D1, D2, bX, sX⟩ := boxes4s w (.bool n.leaf) (.slice ka n.keys.length kc) (.slice va n.vals.length vc) (.slice da n.kids.length dc) 76
 have hkc := rdS_cap hr.keys
 obtain ⟨kb, ko, rfl, hcx⟩ := hr.keys.strAt hx
 have hkbw : Hid (kb < w.heap.size) := cell_lt hcx
 replace hcx := (bX.cell (cell_lt hcx)).trans hcx
 have hvc := rdS_cap hr.vals
 obtain ⟨y, hy⟩ : ∃ y, n.vals[i]? = some y := ⟨_, List.getElem?_eq_getElem (by omega)⟩
 obtain ⟨vb, vo, rfl, hvx⟩ := hr.vals.strAt hy
 have hck : ¬ kc = i := by omega
 have hcv : ¬ vc = i := by omega
 have RL : RdK w (.slice (some ⟨kb, ko, none⟩) i kc) (.slice (some ⟨vb, vo, none⟩) i vc) (.slice none 0 0) (cutL n i) := by
  unfold cutL
  rw [hlf, if_pos rfl]
  exact ⟨⟨rdS_front hr.keys (by omega), rdS_front hr.vals (by omega), rd_nilI _⟩, h0.tk.same _ _, h0.tv.same _ _, TyB.nil _ _ _ _⟩
 have RR : RdK w (.slice (some ⟨kb, ko + i, none⟩) (n.keys.length - i) (kc - i)) (.slice (some ⟨vb, vo + i, none⟩) (n.vals.length - i) (vc - i)) (.slice none 0 0) (cutR n i) := by
  unfold cutR
  rw [hlf, if_pos rfl]
  exact ⟨⟨rdS_back rfl hr.keys (by omega) hck, rdS_back rfl hr.vals (by omega) hcv, rd_nilI _⟩, h0.tk.part rfl, h0.tv.part rfl, TyB.nil _ _ _ _⟩
 have HRR := hide (And.intro RL RR)
 obtain ⟨⟨E0, E1, E2, E3⟩, EF⟩ := cells4 D0
 have HD := hide (And.intro D0 (And.intro D1 D2))
 have HB := hide bX
 have hsX := hide sX
 obtain ⟨K, hK⟩ : ∃ K, K = n.keys.length := ⟨_, rfl⟩
 obtain ⟨V, hV⟩ : ∃ K, K = n.vals.length := ⟨_, rfl⟩
 obtain ⟨Z, hZ⟩ : ∃ K, K = n.kids.length := ⟨_, rfl⟩
 rw [← hK] at hi hl hX HD E1 hkc
 (try rw [← hK] at HRR)
 simp only [← hV, ← hZ] at hX HRR HD E2 E3
 dsimp only [nv]
 rw [← hK, ← hV, ← hZ]
 have hcl := hide (show (∀ a b c, nv (cutL n i) a b c = .agg #[.bool true, a, b, c]) ∧ ∀ a b c, nv (cutR n i) a b c = .agg #[.bool true, a, b, c] by unfold cutL cutR; rw [hlf]; exact ⟨fun _ _ _ => rfl, fun _ _ _ => rfl⟩)
 have g1 : i ≤ K := by omega
 have g2 : i ≤ V := by omega
 have g3 : i ≤ kc := by omega
 have g4 : i ≤ vc := by rw [← hV] at hvc; omega
 rw [hlf] at hX HD E0 ⊢
 have hXd : Hid (Below X.heap.size X X.drew) := below_drewN' X 1 _
 rw [hX] at E0 E1 E2 E3 EF
 replace hK := hide hK
 replace hV := hide hV
 replace hZ := hide hZ
 replace hgd := hide hgd
 replace hlf := hide hlf
 replace hx := hide hx
 clear D0 D1 D2 bX hr h0 RL RR hy hvx hvc hlv
 go_enter Tryz.func86, Tryz.ntmps86
 go_upto_region 2 with fail
 rw [← hX]
 replace hX := hide hX
 clear E0 E1 E2 E3 EF
 -- the left part
 obtain ⟨⟨E0, E1, E2, E3⟩, EF⟩ := cells4 (drewHeap HD.out.1)
 refine wp_region_mid (fun w' => w'.cell? ⟨w.heap.size, 1, none⟩ = some (.slice (some ⟨kb, ko, none⟩) K kc) ∧ w'.cell? ⟨w.heap.size, 2, none⟩ = some (.slice (some ⟨vb, vo, none⟩) V vc)) 9 10 mixed (by kernel_rfl) (fun _ _ _ _ h => h) ⟨E1, E2⟩ ?_
 dsimp only [List.take, List.drop]
 iterate 9
  refine take_one (v := ?_) (by rfl) ?_ ?_
  rotate_left
  ·rintro w' ⟨s1, s2⟩
   go_simp
   try with_reducible rfl
  try simp only [Act.put, List.setIfInBounds_toArray, List.set_cons_zero, List.set_cons_succ]
 refine mid_one fun K' hK' => ?_
 rw [if_pos (by rfl)]
 go_simp
 refine hK' _ _ ⟨cellAl E1 _, cellAl E2 _⟩ ?_
 clear hK' K'
 show wpList _ _ _ _ _ _
 obtain ⟨Y, hY, DY, bY, sY⟩ := boxedN X.drew #[.bool true, (.slice (some ⟨kb, ko, none⟩) i kc), (.slice (some ⟨vb, vo, none⟩) i vc), (.slice none 0 0)] 76
 have bXY := hXd.out.trans (bY.mono hXd.out.size)
 have HY := hide (And.intro (And.intro ((bXY.block _ (lt_of_block HD.out.1)).trans HD.out.1) (And.intro ((bXY.block _ (lt_of_block HD.out.2.1)).trans HD.out.2.1) ((bXY.block _ (lt_of_block HD.out.2.2)).trans HD.out.2.2))) (And.intro DY bXY))
 have hsY : Hid (Y.heap.size = w.heap.size + 3 + 1) := by show _ = _; rw [sY]; show X.heap.size + 1 = _; rw [hsX.out]
 clear E0 E1 E2 E3 EF DY bY bXY sY
 go_upto_region 3 with fail
 have hY' : (X.alloc (.cells #[.bool true, (.slice (some ⟨kb, ko, none⟩) i kc), (.slice (some ⟨vb, vo, none⟩) i vc), (.slice none 0 0)] 76)).drew = Y := by rw [hY]; rfl
 rw [hY']
 clear hY'
 replace hY := hide hY
 -- the right part
 have hYd : Hid (Below Y.heap.size Y Y.drew) := below_drewN' Y 1 _
 obtain ⟨⟨E0, E1, E2, E3⟩, EF⟩ := cells4 (drewHeap HY.out.1.1)
 refine wp_region_mid (fun w' => w'.cell? ⟨w.heap.size, 1, none⟩ = some (.slice (some ⟨kb, ko, none⟩) K kc) ∧ w'.cell? ⟨w.heap.size, 2, none⟩ = some (.slice (some ⟨vb, vo, none⟩) V vc)) 9 10 mixed (by kernel_rfl) (fun _ _ _ _ h => h) ⟨E1, E2⟩ ?_
 dsimp only [List.take, List.drop]
 iterate 9
  refine take_one (v := ?_) (by rfl) ?_ ?_
  rotate_left
  ·rintro w' ⟨s1, s2⟩
   go_simp
   try with_reducible rfl
  try simp only [Act.put, List.setIfInBounds_toArray, List.set_cons_zero, List.set_cons_succ]
 refine mid_one fun K' hK' => ?_
 rw [if_pos (by rfl)]
 go_simp
 refine hK' _ _ ⟨cellAl E1 _, cellAl E2 _⟩ ?_
 clear hK' K'
 show wpList _ _ _ _ _ _
 obtain ⟨U, hU, DU, bU, sU⟩ := boxedN Y.drew #[.bool true, (.slice (some ⟨kb, ko + i, none⟩) (K - i) (kc - i)), (.slice (some ⟨vb, vo + i, none⟩) (V - i) (vc - i)), (.slice none 0 0)] 76
 have bYU := hYd.out.trans (bU.mono hYd.out.size)
 have bXU := HY.out.2.2.trans (bYU.mono HY.out.2.2.size)
 have DL := (bYU.block _ (lt_of_block HY.out.2.1)).trans HY.out.2.1
 have e3 : X.drew.heap.size = w.heap.size + 3 := hsX.out
 have e4 : Y.drew.heap.size = w.heap.size + 3 + 1 := hsY.out
 rw [e3] at DL
 rw [e4] at DU
 have HU := hide (And.intro (And.intro ((bYU.block _ (lt_of_block HY.out.1.1)).trans HY.out.1.1) (And.intro ((bYU.block _ (lt_of_block HY.out.1.2.1)).trans HY.out.1.2.1) ((bYU.block _ (lt_of_block HY.out.1.2.2)).trans HY.out.1.2.2))) (And.intro DL (And.intro DU bXU)))
 have hsU : Hid (U.heap.size = w.heap.size + 3 + 1 + 1) := by show _ = _; rw [sU, e4]
 clear E0 E1 E2 E3 EF DU DL bU bYU bXU sU HY
 go_upto_region 4 with fail
 have hU' : (Y.alloc (.cells #[.bool true, (.slice (some ⟨kb, ko + i, none⟩) (K - i) (kc - i)), (.slice (some ⟨vb, vo + i, none⟩) (V - i) (vc - i)), (.slice none 0 0)] 76)).drew = U := by rw [hU]; rfl
 rw [hU', hsY.out]
 clear hU'
 replace hU := hide hU
 clear e3 e4
 -- both are told
 have hUd : Hid (Below U.heap.size U U.drew) := below_drewN' U 1 _
 obtain ⟨Z', hZ'⟩ : ∃ Z, Z = U.drew := ⟨_, rfl⟩
 rw [← hZ'] at hUd
 obtain ⟨⟨E0, E1, E2, E3⟩, EF⟩ := cells4 ((hUd.out.block _ (lt_of_block HU.out.1.1)).trans HU.out.1.1)
 obtain ⟨⟨L0, L1, L2, L3⟩, LF⟩ := cells4 ((hUd.out.block _ (lt_of_block HU.out.2.1)).trans HU.out.2.1)
 obtain ⟨⟨R0, R1, R2, R3⟩, RF⟩ := cells4 ((hUd.out.block _ (lt_of_block HU.out.2.2.1)).trans HU.out.2.2.1)
 have R1' := (hUd.out.block _ (lt_of_block HU.out.1.2.1)).trans HU.out.1.2.1
 have R2' := (hUd.out.block _ (lt_of_block HU.out.1.2.2)).trans HU.out.1.2.2
 obtain ⟨⟨P0, P1, P2, P3⟩, PF⟩ := cells4 R1'
 have cx := (hUd.out.cell (Nat.lt_of_lt_of_le (cell_lt hcx) HU.out.2.2.2.size)).trans ((HU.out.2.2.2.cell (cell_lt hcx)).trans hcx)
 have hbw : kb < w.heap.size := hkbw.out
 obtain ⟨Q, hQ, q1, q2, q3⟩ := set8 (show w.heap.size + 1 ≠ w.heap.size + 2 by omega) R1' R2' ((HB.out.trans ((HU.out.2.2.2.trans (hUd.out.mono HU.out.2.2.2.size)).mono HB.out.size))) (show w.heap.size ≤ w.heap.size + 1 by omega) (show w.heap.size ≤ w.heap.size + 2 by omega) (.bool true) (.slice (some ⟨kb, ko, none⟩) i kc) (.slice (some ⟨vb, vo, none⟩) i vc) (.slice none 0 0) (.bool true) (.slice (some ⟨kb, ko + i, none⟩) (K - i) (kc - i)) (.slice (some ⟨vb, vo + i, none⟩) (V - i) (vc - i)) (.slice none 0 0)
 refine wp_region_mid (fun w' => (w'.cell? ⟨w.heap.size, 1, none⟩ = some (.slice (some ⟨kb, ko, none⟩) K kc) ∧ w'.cell? ⟨kb, ko + i, none⟩ = some (st x)) ∧ (w'.cell? ⟨w.heap.size + 3, 0, none⟩ = some (.bool true) ∧ w'.cell? ⟨w.heap.size + 3, 1, none⟩ = some (.slice (some ⟨kb, ko, none⟩) i kc) ∧ w'.cell? ⟨w.heap.size + 3, 2, none⟩ = some (.slice (some ⟨vb, vo, none⟩) i vc) ∧ w'.cell? ⟨w.heap.size + 3, 3, none⟩ = some (.slice none 0 0)) ∧
  (w'.cell? ⟨w.heap.size + 3 + 1, 0, none⟩ = some (.bool true) ∧ w'.cell? ⟨w.heap.size + 3 + 1, 1, none⟩ = some (.slice (some ⟨kb, ko + i, none⟩) (K - i) (kc - i)) ∧ w'.cell? ⟨w.heap.size + 3 + 1, 2, none⟩ = some (.slice (some ⟨vb, vo + i, none⟩) (V - i) (vc - i)) ∧ w'.cell? ⟨w.heap.size + 3 + 1, 3, none⟩ = some (.slice none 0 0))) 7 9 mixed (by kernel_rfl) (fun _ _ _ _ h => h) (by rw [← hZ']; exact ⟨⟨E1, cx⟩, ⟨L0, L1, L2, L3⟩, ⟨R0, R1, R2, R3⟩⟩) ?_
 dsimp only [List.take, List.drop]
 iterate 7
  refine take_one (v := ?_) (by rfl) ?_ ?_
  rotate_left
  ·rintro w' ⟨⟨s1, s2⟩, ⟨s3, s4, s5, s6⟩, ⟨s7, s8, s9, s10⟩⟩
   go_simp
   try with_reducible rfl
  try simp only [Act.put, List.setIfInBounds_toArray, List.set_cons_zero, List.set_cons_succ]
 rw [← hZ']
 replace hZ' := hide hZ'
 refine mid_one fun K' hK' => ?_
 rw [if_pos (by rfl)]
 go_simp
 have oth : ∀ (b j : Nat) (u : Value), Z'.cell? ⟨b, j, none⟩ = some u → b ≠ w.heap.size + 1 → (S4 (w.heap.size + 1) Z' (.bool true) (.slice (some ⟨kb, ko, none⟩) i kc) (.slice (some ⟨vb, vo, none⟩) i vc) (.slice none 0 0)).cell? ⟨b, j, none⟩ = some u := fun b j u hc hne => by
  have e9 := s4_other (w := Z') (g := w.heap.size + 1) (.bool true) (.slice (some ⟨kb, ko, none⟩) i kc) (.slice (some ⟨vb, vo, none⟩) i vc) (.slice none 0 0) hne
  simp only [World.cell?] at hc ⊢
  rw [e9]; exact hc
 refine hK' _ _ ⟨⟨oth _ _ _ E1 (by omega), oth _ _ _ cx (by omega)⟩, ⟨oth _ _ _ L0 (by omega), oth _ _ _ L1 (by omega), oth _ _ _ L2 (by omega), oth _ _ _ L3 (by omega)⟩, ⟨oth _ _ _ R0 (by omega), oth _ _ _ R1 (by omega), oth _ _ _ R2 (by omega), oth _ _ _ R3 (by omega)⟩⟩ ?_
 clear hK' K'
 refine mid_one fun K' hK' => ?_
 rw [if_pos (by rfl)]
 go_simp
 refine hK' _ _ ⟨⟨oth _ _ _ E1 (by omega), oth _ _ _ cx (by omega)⟩, ⟨oth _ _ _ L0 (by omega), oth _ _ _ L1 (by omega), oth _ _ _ L2 (by omega), oth _ _ _ L3 (by omega)⟩, ⟨oth _ _ _ R0 (by omega), oth _ _ _ R1 (by omega), oth _ _ _ R2 (by omega), oth _ _ _ R3 (by omega)⟩⟩ ?_
 clear hK' K'
 show wpList _ _ _ _ _ _
 have O2 : (S4 (w.heap.size + 1) Z' (.bool true) (.slice (some ⟨kb, ko, none⟩) i kc) (.slice (some ⟨vb, vo, none⟩) i vc) (.slice none 0 0)).heap[w.heap.size + 1 + 1]? = some (.cells #[.bool false, .slice none 0 0, .slice none 0 0, .slice none 0 0] 76 (0, 0)) := (s4_other _ _ _ _ (show w.heap.size + 1 + 1 ≠ w.heap.size + 1 by omega)).trans R2'
 obtain ⟨⟨M0, M1, M2, M3⟩, MF⟩ := cells4 O2
 have FIN : Hid (RdK Q (.slice (some ⟨kb, ko, none⟩) i kc) (.slice (some ⟨vb, vo, none⟩) i vc) (.slice none 0 0) (cutL n i) ∧ RdK Q (.slice (some ⟨kb, ko + i, none⟩) (K - i) (kc - i)) (.slice (some ⟨vb, vo + i, none⟩) (V - i) (vc - i)) (.slice none 0 0) (cutR n i)) := ⟨HRR.out.1.to q3, HRR.out.2.to q3⟩
 have HQ1 := hide q1
 have HQ2 := hide q2
 have HQ3 := hide q3
 rw [hQ] at HQ1 HQ2 HQ3 FIN
 clear E0 E1 E2 E3 EF L0 L1 L2 L3 LF R0 R1 R2 R3 RF P0 P1 P2 P3 PF R1' R2' cx oth q1 q2 q3 hQ O2
 go_wp2
 refine retNTN rfl rfl (w.heap.size + 1) (w.heap.size + 2) rfl rfl _ _ _ _ (0, 0) (0, 0) HQ1.out HQ2.out _ _ Tryz.underlying76 rfl info_nd10 Tryz.underlying76 rfl info_nd10 _ rfl ?_
 refine ⟨_, _, _, _, _, _, ?_, FIN.out.1, FIN.out.2, HQ3.out⟩
 rw [hgd.out, hcl.out.1, hcl.out.2]
 rfl
set_option maxRecDepth 100000 in
set_option maxHeartbeats 8000000 in
theorem pcut_innA (w : World) (n : Nd) (kv vv dv : Value) (i : Nat) (h0 : RdK w kv vv dv n) (hi : i < n.keys.length) (hl : n.keys.length ≤ 1000) (hlf : n.leaf = false) (hkd : n.kids.length = n.keys.length + 1) (hq : ∀ a c, kv = .slice a n.keys.length c → ¬ c = i + 1) :
  Calls Tryz.prog 86 #[nv n kv vv dv, .int .i64 (i : Int)] w fun e w' => CutR w w' n i e := by
 have hr := h0.rd
 obtain ⟨ka, kc, va, vc, da, dc, rfl, rfl, rfl⟩ := hr.slices
 obtain ⟨x, hx⟩ : ∃ x, n.keys[i]? = some x := ⟨_, List.getElem?_eq_getElem hi⟩
 have hgd : n.keys.getD i [] = x := by rw [List.getD_eq_getElem?_getD, hx]; rfl
 obtain ⟨X, hX, D0, D1, D2, bX, sX⟩ := boxes4s w (.bool n.leaf) (.slice ka n.keys.length kc) (.slice va n.vals.length vc) (.slice da n.kids.length dc) 76
 have hkc := rdS_cap hr.keys
 obtain ⟨kb, ko, rfl, hcx⟩ := hr.keys.strAt hx
 have hkbw : Hid (kb < w.heap.size) := cell_lt hcx
 replace hcx := (bX.cell (cell_lt hcx)).trans hcx
 have hck := hq _ _ rfl
 have hdc := rdS_cap hr.kids
 obtain ⟨y, hy⟩ : ∃ y, n.kids[0]? = some y := ⟨_, List.getElem?_eq_getElem (by omega)⟩
 obtain ⟨db, dO, rfl, hvx⟩ := hr.kids.intAt hy
 have hcv : ¬ dc = i + 1 := by omega
 have RL : RdK w (.slice (some ⟨kb, ko, none⟩) i kc) (.slice none 0 0) (.slice (some ⟨db, dO, none⟩) (i + 1) dc) (cutL n i) := by
  unfold cutL
  rw [hlf, if_neg (by decide)]
  exact ⟨⟨rdS_front hr.keys (by omega), rd_nilT _, rdS_front hr.kids (by omega)⟩, h0.tk.same _ _, TyB.nil _ _ _ _, h0.td.same _ _⟩
 have RR : RdK w (.slice (some ⟨kb, ko + (i + 1), none⟩) (n.keys.length - (i + 1)) (kc - (i + 1))) (.slice none 0 0) (.slice (some ⟨db, dO + (i + 1), none⟩) (n.kids.length - (i + 1)) (dc - (i + 1))) (cutR n i) := by
  unfold cutR
  rw [hlf, if_neg (by decide)]
  exact ⟨⟨rdS_back rfl hr.keys (by omega) hck, rd_nilT _, rdS_back rfl hr.kids (by omega) hcv⟩, h0.tk.part rfl, TyB.nil _ _ _ _, h0.td.part rfl⟩
 have HRR := hide (And.intro RL RR)
 obtain ⟨⟨E0, E1, E2, E3⟩, EF⟩ := cells4 D0
 have HD := hide (And.intro D0 (And.intro D1 D2))
 have HB := hide bX
 have hsX := hide sX
 obtain ⟨K, hK⟩ : ∃ K, K = n.keys.length := ⟨_, rfl⟩
 obtain ⟨V, hV⟩ : ∃ K, K = n.vals.length := ⟨_, rfl⟩
 obtain ⟨Z, hZ⟩ : ∃ K, K = n.kids.length := ⟨_, rfl⟩
 rw [← hK] at hi hl hX HD E1 hkc
 (try rw [← hK] at HRR)
 simp only [← hV, ← hZ] at hX HRR HD E2 E3
 dsimp only [nv]
 rw [← hK, ← hV, ← hZ]
 have hcl := hide (show (∀ a b c, nv (cutL n i) a b c = .agg #[.bool false, a, b, c]) ∧ ∀ a b c, nv (cutR n i) a b c = .agg #[.bool false, a, b, c] by unfold cutL cutR; rw [hlf]; exact ⟨fun _ _ _ => rfl, fun _ _ _ => rfl⟩)
 have g2 : i + 1 ≤ Z := by rw [hZ, hkd]; omega
 have g4 : i + 1 ≤ dc := by omega
 have g5 : IntKind.i64.wrap ((i : Int) + 1) = (i : Int) + 1 := IntWalk.i64_in _ (by omega)
 have g6 : (0 : Int) ≤ (i : Int) + 1 := by omega
 have g7 : ((i : Int) + 1).toNat = i + 1 := by omega
 have g8 : (i : Int) + 1 ≤ (Z : Int) := by omega
 have g9 : (i : Int) + 1 ≤ (dc : Int) := by omega
 have g1 : i ≤ K := by omega
 have g3 : i ≤ kc := by omega
 have g10 : (i : Int) + 1 ≤ (K : Int) := by omega
 have g11 : (i : Int) + 1 ≤ (kc : Int) := by omega
 have g12 : i + 1 ≤ K := by omega
 rw [hlf] at hX HD E0 ⊢
 have hXd : Hid (Below X.heap.size X X.drew) := below_drewN' X 1 _
 rw [hX] at E0 E1 E2 E3 EF
 replace hK := hide hK
 replace hV := hide hV
 replace hZ := hide hZ
 replace hgd := hide hgd
 replace hlf := hide hlf
 replace hx := hide hx
 clear D0 D1 D2 bX hr h0 RL RR hy hvx hdc hkd hq
 go_enter Tryz.func86, Tryz.ntmps86
 go_upto_region 5 with fail
 rw [← hX]
 replace hX := hide hX
 clear E0 E1 E2 E3 EF
 -- the left part
 obtain ⟨⟨E0, E1, E2, E3⟩, EF⟩ := cells4 (drewHeap HD.out.1)
 refine wp_region_mid (fun w' => w'.cell? ⟨w.heap.size, 1, none⟩ = some (.slice (some ⟨kb, ko, none⟩) K kc) ∧ w'.cell? ⟨w.heap.size, 3, none⟩ = some (.slice (some ⟨db, dO, none⟩) Z dc)) 10 11 mixed (by kernel_rfl) (fun _ _ _ _ h => h) ⟨E1, E3⟩ ?_
 dsimp only [List.take, List.drop]
 iterate 10
  refine take_one (v := ?_) (by rfl) ?_ ?_
  rotate_left
  ·rintro w' ⟨s1, s2⟩
   go_simp
   try with_reducible rfl
  try simp only [Act.put, List.setIfInBounds_toArray, List.set_cons_zero, List.set_cons_succ]
 refine mid_one fun K' hK' => ?_
 rw [if_pos (by rfl)]
 go_simp
 refine hK' _ _ ⟨cellAl E1 _, cellAl E3 _⟩ ?_
 clear hK' K'
 show wpList _ _ _ _ _ _
 obtain ⟨Y, hY, DY, bY, sY⟩ := boxedN X.drew #[.bool false, (.slice (some ⟨kb, ko, none⟩) i kc), (.slice none 0 0), (.slice (some ⟨db, dO, none⟩) (i + 1) dc)] 76
 have bXY := hXd.out.trans (bY.mono hXd.out.size)
 have HY := hide (And.intro (And.intro ((bXY.block _ (lt_of_block HD.out.1)).trans HD.out.1) (And.intro ((bXY.block _ (lt_of_block HD.out.2.1)).trans HD.out.2.1) ((bXY.block _ (lt_of_block HD.out.2.2)).trans HD.out.2.2))) (And.intro DY bXY))
 have hsY : Hid (Y.heap.size = w.heap.size + 3 + 1) := by show _ = _; rw [sY]; show X.heap.size + 1 = _; rw [hsX.out]
 clear E0 E1 E2 E3 EF DY bY bXY sY
 go_upto_region 6 with fail
 have hY' : (X.alloc (.cells #[.bool false, (.slice (some ⟨kb, ko, none⟩) i kc), (.slice none 0 0), (.slice (some ⟨db, dO, none⟩) (i + 1) dc)] 76)).drew = Y := by rw [hY]; rfl
 rw [hY']
 clear hY'
 replace hY := hide hY
 -- the right part
 have hYd : Hid (Below Y.heap.size Y Y.drew) := below_drewN' Y 1 _
 obtain ⟨⟨E0, E1, E2, E3⟩, EF⟩ := cells4 (drewHeap HY.out.1.1)
 refine wp_region_mid (fun w' => w'.cell? ⟨w.heap.size, 1, none⟩ = some (.slice (some ⟨kb, ko, none⟩) K kc) ∧ w'.cell? ⟨w.heap.size, 3, none⟩ = some (.slice (some ⟨db, dO, none⟩) Z dc)) 11 12 mixed (by kernel_rfl) (fun _ _ _ _ h => h) ⟨E1, E3⟩ ?_
 dsimp only [List.take, List.drop]
 iterate 11
  refine take_one (v := ?_) (by rfl) ?_ ?_
  rotate_left
  ·rintro w' ⟨s1, s2⟩
   go_simp
   try with_reducible rfl
  try simp only [Act.put, List.setIfInBounds_toArray, List.set_cons_zero, List.set_cons_succ]
 refine mid_one fun K' hK' => ?_
 rw [if_pos (by rfl)]
 go_simp
 refine hK' _ _ ⟨cellAl E1 _, cellAl E3 _⟩ ?_
 clear hK' K'
 show wpList _ _ _ _ _ _
 obtain ⟨U, hU, DU, bU, sU⟩ := boxedN Y.drew #[.bool false, (.slice (some ⟨kb, ko + (i + 1), none⟩) (K - (i + 1)) (kc - (i + 1))), (.slice none 0 0), (.slice (some ⟨db, dO + (i + 1), none⟩) (Z - (i + 1)) (dc - (i + 1)))] 76
 have bYU := hYd.out.trans (bU.mono hYd.out.size)
 have bXU := HY.out.2.2.trans (bYU.mono HY.out.2.2.size)
 have DL := (bYU.block _ (lt_of_block HY.out.2.1)).trans HY.out.2.1
 have e3 : X.drew.heap.size = w.heap.size + 3 := hsX.out
 have e4 : Y.drew.heap.size = w.heap.size + 3 + 1 := hsY.out
 rw [e3] at DL
 rw [e4] at DU
 have HU := hide (And.intro (And.intro ((bYU.block _ (lt_of_block HY.out.1.1)).trans HY.out.1.1) (And.intro ((bYU.block _ (lt_of_block HY.out.1.2.1)).trans HY.out.1.2.1) ((bYU.block _ (lt_of_block HY.out.1.2.2)).trans HY.out.1.2.2))) (And.intro DL (And.intro DU bXU)))
 have hsU : Hid (U.heap.size = w.heap.size + 3 + 1 + 1) := by show _ = _; rw [sU, e4]
 clear E0 E1 E2 E3 EF DU DL bU bYU bXU sU HY
 go_upto_region 7 with fail
 have hU' : (Y.alloc (.cells #[.bool false, (.slice (some ⟨kb, ko + (i + 1), none⟩) (K - (i + 1)) (kc - (i + 1))), (.slice none 0 0), (.slice (some ⟨db, dO + (i + 1), none⟩) (Z - (i + 1)) (dc - (i + 1)))] 76)).drew = U := by rw [hU]; rfl
 rw [hU', hsY.out]
 clear hU'
 replace hU := hide hU
 clear e3 e4
 -- both are told
 have hUd : Hid (Below U.heap.size U U.drew) := below_drewN' U 1 _
 obtain ⟨Z', hZ'⟩ : ∃ Z, Z = U.drew := ⟨_, rfl⟩
 rw [← hZ'] at hUd
 obtain ⟨⟨E0, E1, E2, E3⟩, EF⟩ := cells4 ((hUd.out.block _ (lt_of_block HU.out.1.1)).trans HU.out.1.1)
 obtain ⟨⟨L0, L1, L2, L3⟩, LF⟩ := cells4 ((hUd.out.block _ (lt_of_block HU.out.2.1)).trans HU.out.2.1)
 obtain ⟨⟨R0, R1, R2, R3⟩, RF⟩ := cells4 ((hUd.out.block _ (lt_of_block HU.out.2.2.1)).trans HU.out.2.2.1)
 have R1' := (hUd.out.block _ (lt_of_block HU.out.1.2.1)).trans HU.out.1.2.1
 have R2' := (hUd.out.block _ (lt_of_block HU.out.1.2.2)).trans HU.out.1.2.2
 obtain ⟨⟨P0, P1, P2, P3⟩, PF⟩ := cells4 R1'
 have cx := (hUd.out.cell (Nat.lt_of_lt_of_le (cell_lt hcx) HU.out.2.2.2.size)).trans ((HU.out.2.2.2.cell (cell_lt hcx)).trans hcx)
 have hbw : kb < w.heap.size := hkbw.out
 obtain ⟨Q, hQ, q1, q2, q3⟩ := set8 (show w.heap.size + 1 ≠ w.heap.size + 2 by omega) R1' R2' ((HB.out.trans ((HU.out.2.2.2.trans (hUd.out.mono HU.out.2.2.2.size)).mono HB.out.size))) (show w.heap.size ≤ w.heap.size + 1 by omega) (show w.heap.size ≤ w.heap.size + 2 by omega) (.bool false) (.slice (some ⟨kb, ko, none⟩) i kc) (.slice none 0 0) (.slice (some ⟨db, dO, none⟩) (i + 1) dc) (.bool false) (.slice (some ⟨kb, ko + (i + 1), none⟩) (K - (i + 1)) (kc - (i + 1))) (.slice none 0 0) (.slice (some ⟨db, dO + (i + 1), none⟩) (Z - (i + 1)) (dc - (i + 1)))
 refine wp_region_mid (fun w' => (w'.cell? ⟨w.heap.size, 1, none⟩ = some (.slice (some ⟨kb, ko, none⟩) K kc) ∧ w'.cell? ⟨kb, ko + i, none⟩ = some (st x)) ∧ (w'.cell? ⟨w.heap.size + 3, 0, none⟩ = some (.bool false) ∧ w'.cell? ⟨w.heap.size + 3, 1, none⟩ = some (.slice (some ⟨kb, ko, none⟩) i kc) ∧ w'.cell? ⟨w.heap.size + 3, 2, none⟩ = some (.slice none 0 0) ∧ w'.cell? ⟨w.heap.size + 3, 3, none⟩ = some (.slice (some ⟨db, dO, none⟩) (i + 1) dc)) ∧
  (w'.cell? ⟨w.heap.size + 3 + 1, 0, none⟩ = some (.bool false) ∧ w'.cell? ⟨w.heap.size + 3 + 1, 1, none⟩ = some (.slice (some ⟨kb, ko + (i + 1), none⟩) (K - (i + 1)) (kc - (i + 1))) ∧ w'.cell? ⟨w.heap.size + 3 + 1, 2, none⟩ = some (.slice none 0 0) ∧ w'.cell? ⟨w.heap.size + 3 + 1, 3, none⟩ = some (.slice (some ⟨db, dO + (i + 1), none⟩) (Z - (i + 1)) (dc - (i + 1))))) 7 9 mixed (by kernel_rfl) (fun _ _ _ _ h => h) (by rw [← hZ']; exact ⟨⟨E1, cx⟩, ⟨L0, L1, L2, L3⟩, ⟨R0, R1, R2, R3⟩⟩) ?_
 dsimp only [List.take, List.drop]
 iterate 7
  refine take_one (v := ?_) (by rfl) ?_ ?_
  rotate_left
  ·rintro w' ⟨⟨s1, s2⟩, ⟨s3, s4, s5, s6⟩, ⟨s7, s8, s9, s10⟩⟩
   go_simp
   try with_reducible rfl
  try simp only [Act.put, List.setIfInBounds_toArray, List.set_cons_zero, List.set_cons_succ]
 rw [← hZ']
 replace hZ' := hide hZ'
 refine mid_one fun K' hK' => ?_
 rw [if_pos (by rfl)]
 go_simp
 have oth : ∀ (b j : Nat) (u : Value), Z'.cell? ⟨b, j, none⟩ = some u → b ≠ w.heap.size + 1 → (S4 (w.heap.size + 1) Z' (.bool false) (.slice (some ⟨kb, ko, none⟩) i kc) (.slice none 0 0) (.slice (some ⟨db, dO, none⟩) (i + 1) dc)).cell? ⟨b, j, none⟩ = some u := fun b j u hc hne => by
  have e9 := s4_other (w := Z') (g := w.heap.size + 1) (.bool false) (.slice (some ⟨kb, ko, none⟩) i kc) (.slice none 0 0) (.slice (some ⟨db, dO, none⟩) (i + 1) dc) hne
  simp only [World.cell?] at hc ⊢
  rw [e9]; exact hc
 refine hK' _ _ ⟨⟨oth _ _ _ E1 (by omega), oth _ _ _ cx (by omega)⟩, ⟨oth _ _ _ L0 (by omega), oth _ _ _ L1 (by omega), oth _ _ _ L2 (by omega), oth _ _ _ L3 (by omega)⟩, ⟨oth _ _ _ R0 (by omega), oth _ _ _ R1 (by omega), oth _ _ _ R2 (by omega), oth _ _ _ R3 (by omega)⟩⟩ ?_
 clear hK' K'
 refine mid_one fun K' hK' => ?_
 rw [if_pos (by rfl)]
 go_simp
 refine hK' _ _ ⟨⟨oth _ _ _ E1 (by omega), oth _ _ _ cx (by omega)⟩, ⟨oth _ _ _ L0 (by omega), oth _ _ _ L1 (by omega), oth _ _ _ L2 (by omega), oth _ _ _ L3 (by omega)⟩, ⟨oth _ _ _ R0 (by omega), oth _ _ _ R1 (by omega), oth _ _ _ R2 (by omega), oth _ _ _ R3 (by omega)⟩⟩ ?_
 clear hK' K'
 show wpList _ _ _ _ _ _
 have O2 : (S4 (w.heap.size + 1) Z' (.bool false) (.slice (some ⟨kb, ko, none⟩) i kc) (.slice none 0 0) (.slice (some ⟨db, dO, none⟩) (i + 1) dc)).heap[w.heap.size + 1 + 1]? = some (.cells #[.bool false, .slice none 0 0, .slice none 0 0, .slice none 0 0] 76 (0, 0)) := (s4_other _ _ _ _ (show w.heap.size + 1 + 1 ≠ w.heap.size + 1 by omega)).trans R2'
 obtain ⟨⟨M0, M1, M2, M3⟩, MF⟩ := cells4 O2
 have FIN : Hid (RdK Q (.slice (some ⟨kb, ko, none⟩) i kc) (.slice none 0 0) (.slice (some ⟨db, dO, none⟩) (i + 1) dc) (cutL n i) ∧ RdK Q (.slice (some ⟨kb, ko + (i + 1), none⟩) (K - (i + 1)) (kc - (i + 1))) (.slice none 0 0) (.slice (some ⟨db, dO + (i + 1), none⟩) (Z - (i + 1)) (dc - (i + 1))) (cutR n i)) := ⟨HRR.out.1.to q3, HRR.out.2.to q3⟩
 have HQ1 := hide q1
 have HQ2 := hide q2
 have HQ3 := hide q3
 rw [hQ] at HQ1 HQ2 HQ3 FIN
 clear E0 E1 E2 E3 EF L0 L1 L2 L3 LF R0 R1 R2 R3 RF P0 P1 P2 P3 PF R1' R2' cx oth q1 q2 q3 hQ O2
 go_wp2
 refine retNTN rfl rfl (w.heap.size + 1) (w.heap.size + 2) rfl rfl _ _ _ _ (0, 0) (0, 0) HQ1.out HQ2.out _ _ Tryz.underlying76 rfl info_nd10 Tryz.underlying76 rfl info_nd10 _ rfl ?_
 refine ⟨_, _, _, _, _, _, ?_, FIN.out.1, FIN.out.2, HQ3.out⟩
 rw [hgd.out, hcl.out.1, hcl.out.2]
 rfl
set_option maxRecDepth 100000 in
set_option maxHeartbeats 8000000 in
theorem pcut_innB (w : World) (n : Nd) (kv vv dv : Value) (i : Nat) (h0 : RdK w kv vv dv n) (hi : i < n.keys.length) (hl : n.keys.length ≤ 1000) (hlf : n.leaf = false) (hkd : n.kids.length = n.keys.length + 1) (hq : ∃ a, kv = .slice a n.keys.length (i + 1)) :
  Calls Tryz.prog 86 #[nv n kv vv dv, .int .i64 (i : Int)] w fun e w' => CutR w w' n i e := by
 have hr := h0.rd
 obtain ⟨ka, kc, va, vc, da, dc, rfl, rfl, rfl⟩ := hr.slices
 obtain ⟨x, hx⟩ : ∃ x, n.keys[i]? = some x := ⟨_, List.getElem?_eq_getElem hi⟩
 have hgd : n.keys.getD i [] = x := by rw [List.getD_eq_getElem?_getD, hx]; rfl
 obtain ⟨X, hX, D0, D1, D2, bX, sX⟩ := boxes4s w (.bool n.leaf) (.slice ka n.keys.length kc) (.slice va n.vals.length vc) (.slice da n.kids.length dc) 76
 have hkc := rdS_cap hr.keys
 obtain ⟨kb, ko, rfl, hcx⟩ := hr.keys.strAt hx
 have hkbw : Hid (kb < w.heap.size) := cell_lt hcx
 replace hcx := (bX.cell (cell_lt hcx)).trans hcx
 have hkc9 : kc = i + 1 := by
  obtain ⟨a9, e9⟩ := hq
  simp only [Value.slice.injEq] at e9
  exact e9.2.2
 clear hq
 subst hkc9
 have hkl : n.keys.length = i + 1 := by omega
 have hdc := rdS_cap hr.kids
 obtain ⟨y, hy⟩ : ∃ y, n.kids[0]? = some y := ⟨_, List.getElem?_eq_getElem (by omega)⟩
 obtain ⟨db, dO, rfl, hvx⟩ := hr.kids.intAt hy
 have hcv : ¬ dc = i + 1 := by omega
 have RL : RdK w (.slice (some ⟨kb, ko, none⟩) i (i + 1)) (.slice none 0 0) (.slice (some ⟨db, dO, none⟩) (i + 1) dc) (cutL n i) := by
  unfold cutL
  rw [hlf, if_neg (by decide)]
  exact ⟨⟨rdS_front hr.keys (by omega), rd_nilT _, rdS_front hr.kids (by omega)⟩, h0.tk.same _ _, TyB.nil _ _ _ _, h0.td.same _ _⟩
 have RR : RdK w (.slice (some ⟨kb, ko, none⟩) 0 0) (.slice none 0 0) (.slice (some ⟨db, dO + (i + 1), none⟩) (n.kids.length - (i + 1)) (dc - (i + 1))) (cutR n i) := by
  unfold cutR
  rw [hlf, if_neg (by decide)]
  have e0 : n.keys.drop (i + 1) = [] := List.drop_of_length_le (by omega)
  refine ⟨⟨?_, rd_nilT _, rdS_back rfl hr.kids (by omega) hcv⟩, h0.tk.part rfl, TyB.nil _ _ _ _, h0.td.part rfl⟩
  show RdT _ _ (n.keys.drop (i + 1))
  rw [e0]
  exact ⟨_, 0, rfl, by simp, by decide, (fun h => by cases h), .inl rfl⟩
 have HRR := hide (And.intro RL RR)
 obtain ⟨⟨E0, E1, E2, E3⟩, EF⟩ := cells4 D0
 have HD := hide (And.intro D0 (And.intro D1 D2))
 have HB := hide bX
 have hsX := hide sX
 obtain ⟨K, hK⟩ : ∃ K, K = n.keys.length := ⟨_, rfl⟩
 obtain ⟨V, hV⟩ : ∃ K, K = n.vals.length := ⟨_, rfl⟩
 obtain ⟨Z, hZ⟩ : ∃ K, K = n.kids.length := ⟨_, rfl⟩
 rw [← hK] at hi hl hX HD E1 hkc
 (try rw [← hK] at HRR)
 simp only [← hV, ← hZ] at hX HRR HD E2 E3
 dsimp only [nv]
 rw [← hK, ← hV, ← hZ]
 obtain rfl : K = i + 1 := by omega
 have hcl := hide (show (∀ a b c, nv (cutL n i) a b c = .agg #[.bool false, a, b, c]) ∧ ∀ a b c, nv (cutR n i) a b c = .agg #[.bool false, a, b, c] by unfold cutL cutR; rw [hlf]; exact ⟨fun _ _ _ => rfl, fun _ _ _ => rfl⟩)
 have g2 : i + 1 ≤ Z := by rw [hZ, hkd]; omega
 have g4 : i + 1 ≤ dc := by omega
 have g5 : IntKind.i64.wrap ((i : Int) + 1) = (i : Int) + 1 := IntWalk.i64_in _ (by omega)
 have g6 : (0 : Int) ≤ (i : Int) + 1 := by omega
 have g7 : ((i : Int) + 1).toNat = i + 1 := by omega
 have g8 : (i : Int) + 1 ≤ (Z : Int) := by omega
 have g9 : (i : Int) + 1 ≤ (dc : Int) := by omega
 have g1 : (i : Int) ≤ (i : Int) + 1 := by omega
 have g3 : (i : Int) < (i : Int) + 1 := by omega
 rw [hlf] at hX HD E0 ⊢
 have hXd : Hid (Below X.heap.size X X.drew) := below_drewN' X 1 _
 rw [hX] at E0 E1 E2 E3 EF
 replace hK := hide hK
 replace hV := hide hV
 replace hZ := hide hZ
 replace hgd := hide hgd
 replace hlf := hide hlf
 replace hx := hide hx
 clear D0 D1 D2 bX hr h0 RL RR hy hvx hdc hkd hkl
 go_enter Tryz.func86, Tryz.ntmps86
 go_upto_region 5 with fail
 rw [← hX]
 replace hX := hide hX
 clear E0 E1 E2 E3 EF
 -- the left part
 obtain ⟨⟨E0, E1, E2, E3⟩, EF⟩ := cells4 (drewHeap HD.out.1)
 refine wp_region_mid (fun w' => w'.cell? ⟨w.heap.size, 1, none⟩ = some (.slice (some ⟨kb, ko, none⟩) (i + 1) (i + 1)) ∧ w'.cell? ⟨w.heap.size, 3, none⟩ = some (.slice (some ⟨db, dO, none⟩) Z dc)) 10 11 mixed (by kernel_rfl) (fun _ _ _ _ h => h) ⟨E1, E3⟩ ?_
 dsimp only [List.take, List.drop]
 iterate 10
  refine take_one (v := ?_) (by rfl) ?_ ?_
  rotate_left
  ·rintro w' ⟨s1, s2⟩
   go_simp
   try with_reducible rfl
  try simp only [Act.put, List.setIfInBounds_toArray, List.set_cons_zero, List.set_cons_succ]
 refine mid_one fun K' hK' => ?_
 rw [if_pos (by rfl)]
 go_simp
 refine hK' _ _ ⟨cellAl E1 _, cellAl E3 _⟩ ?_
 clear hK' K'
 show wpList _ _ _ _ _ _
 obtain ⟨Y, hY, DY, bY, sY⟩ := boxedN X.drew #[.bool false, (.slice (some ⟨kb, ko, none⟩) i (i + 1)), (.slice none 0 0), (.slice (some ⟨db, dO, none⟩) (i + 1) dc)] 76
 have bXY := hXd.out.trans (bY.mono hXd.out.size)
 have HY := hide (And.intro (And.intro ((bXY.block _ (lt_of_block HD.out.1)).trans HD.out.1) (And.intro ((bXY.block _ (lt_of_block HD.out.2.1)).trans HD.out.2.1) ((bXY.block _ (lt_of_block HD.out.2.2)).trans HD.out.2.2))) (And.intro DY bXY))
 have hsY : Hid (Y.heap.size = w.heap.size + 3 + 1) := by show _ = _; rw [sY]; show X.heap.size + 1 = _; rw [hsX.out]
 clear E0 E1 E2 E3 EF DY bY bXY sY
 go_upto_region 6 with fail
 have hY' : (X.alloc (.cells #[.bool false, (.slice (some ⟨kb, ko, none⟩) i (i + 1)), (.slice none 0 0), (.slice (some ⟨db, dO, none⟩) (i + 1) dc)] 76)).drew = Y := by rw [hY]; rfl
 rw [hY']
 clear hY'
 replace hY := hide hY
 -- the right part
 have hYd : Hid (Below Y.heap.size Y Y.drew) := below_drewN' Y 1 _
 obtain ⟨⟨E0, E1, E2, E3⟩, EF⟩ := cells4 (drewHeap HY.out.1.1)
 refine wp_region_mid (fun w' => w'.cell? ⟨w.heap.size, 1, none⟩ = some (.slice (some ⟨kb, ko, none⟩) (i + 1) (i + 1)) ∧ w'.cell? ⟨w.heap.size, 3, none⟩ = some (.slice (some ⟨db, dO, none⟩) Z dc)) 11 12 mixed (by kernel_rfl) (fun _ _ _ _ h => h) ⟨E1, E3⟩ ?_
 dsimp only [List.take, List.drop]
 iterate 11
  refine take_one (v := ?_) (by rfl) ?_ ?_
  rotate_left
  ·rintro w' ⟨s1, s2⟩
   go_simp
   try with_reducible rfl
  try simp only [Act.put, List.setIfInBounds_toArray, List.set_cons_zero, List.set_cons_succ]
 refine mid_one fun K' hK' => ?_
 rw [if_pos (by rfl)]
 go_simp
 refine hK' _ _ ⟨cellAl E1 _, cellAl E3 _⟩ ?_
 clear hK' K'
 show wpList _ _ _ _ _ _
 obtain ⟨U, hU, DU, bU, sU⟩ := boxedN Y.drew #[.bool false, (.slice (some ⟨kb, ko, none⟩) 0 0), (.slice none 0 0), (.slice (some ⟨db, dO + (i + 1), none⟩) (Z - (i + 1)) (dc - (i + 1)))] 76
 have bYU := hYd.out.trans (bU.mono hYd.out.size)
 have bXU := HY.out.2.2.trans (bYU.mono HY.out.2.2.size)
 have DL := (bYU.block _ (lt_of_block HY.out.2.1)).trans HY.out.2.1
 have e3 : X.drew.heap.size = w.heap.size + 3 := hsX.out
 have e4 : Y.drew.heap.size = w.heap.size + 3 + 1 := hsY.out
 rw [e3] at DL
 rw [e4] at DU
 have HU := hide (And.intro (And.intro ((bYU.block _ (lt_of_block HY.out.1.1)).trans HY.out.1.1) (And.intro ((bYU.block _ (lt_of_block HY.out.1.2.1)).trans HY.out.1.2.1) ((bYU.block _ (lt_of_block HY.out.1.2.2)).trans HY.out.1.2.2))) (And.intro DL (And.intro DU bXU)))
 have hsU : Hid (U.heap.size = w.heap.size + 3 + 1 + 1) := by show _ = _; rw [sU, e4]
 clear E0 E1 E2 E3 EF DU DL bU bYU bXU sU HY
 go_upto_region 7 with fail
 have hU' : (Y.alloc (.cells #[.bool false, (.slice (some ⟨kb, ko, none⟩) 0 0), (.slice none 0 0), (.slice (some ⟨db, dO + (i + 1), none⟩) (Z - (i + 1)) (dc - (i + 1)))] 76)).drew = U := by rw [hU]; rfl
 rw [hU', hsY.out]
 clear hU'
 replace hU := hide hU
 clear e3 e4
 -- both are told
 have hUd : Hid (Below U.heap.size U U.drew) := below_drewN' U 1 _
 obtain ⟨Z', hZ'⟩ : ∃ Z, Z = U.drew := ⟨_, rfl⟩
 rw [← hZ'] at hUd
 obtain ⟨⟨E0, E1, E2, E3⟩, EF⟩ := cells4 ((hUd.out.block _ (lt_of_block HU.out.1.1)).trans HU.out.1.1)
 obtain ⟨⟨L0, L1, L2, L3⟩, LF⟩ := cells4 ((hUd.out.block _ (lt_of_block HU.out.2.1)).trans HU.out.2.1)
 obtain ⟨⟨R0, R1, R2, R3⟩, RF⟩ := cells4 ((hUd.out.block _ (lt_of_block HU.out.2.2.1)).trans HU.out.2.2.1)
 have R1' := (hUd.out.block _ (lt_of_block HU.out.1.2.1)).trans HU.out.1.2.1
 have R2' := (hUd.out.block _ (lt_of_block HU.out.1.2.2)).trans HU.out.1.2.2
 obtain ⟨⟨P0, P1, P2, P3⟩, PF⟩ := cells4 R1'
 have cx := (hUd.out.cell (Nat.lt_of_lt_of_le (cell_lt hcx) HU.out.2.2.2.size)).trans ((HU.out.2.2.2.cell (cell_lt hcx)).trans hcx)
 have hbw : kb < w.heap.size := hkbw.out
 obtain ⟨Q, hQ, q1, q2, q3⟩ := set8 (show w.heap.size + 1 ≠ w.heap.size + 2 by omega) R1' R2' ((HB.out.trans ((HU.out.2.2.2.trans (hUd.out.mono HU.out.2.2.2.size)).mono HB.out.size))) (show w.heap.size ≤ w.heap.size + 1 by omega) (show w.heap.size ≤ w.heap.size + 2 by omega) (.bool false) (.slice (some ⟨kb, ko, none⟩) i (i + 1)) (.slice none 0 0) (.slice (some ⟨db, dO, none⟩) (i + 1) dc) (.bool false) (.slice (some ⟨kb, ko, none⟩) 0 0) (.slice none 0 0) (.slice (some ⟨db, dO + (i + 1), none⟩) (Z - (i + 1)) (dc - (i + 1)))
 refine wp_region_mid (fun w' => (w'.cell? ⟨w.heap.size, 1, none⟩ = some (.slice (some ⟨kb, ko, none⟩) (i + 1) (i + 1)) ∧ w'.cell? ⟨kb, ko + i, none⟩ = some (st x)) ∧ (w'.cell? ⟨w.heap.size + 3, 0, none⟩ = some (.bool false) ∧ w'.cell? ⟨w.heap.size + 3, 1, none⟩ = some (.slice (some ⟨kb, ko, none⟩) i (i + 1)) ∧ w'.cell? ⟨w.heap.size + 3, 2, none⟩ = some (.slice none 0 0) ∧ w'.cell? ⟨w.heap.size + 3, 3, none⟩ = some (.slice (some ⟨db, dO, none⟩) (i + 1) dc)) ∧
  (w'.cell? ⟨w.heap.size + 3 + 1, 0, none⟩ = some (.bool false) ∧ w'.cell? ⟨w.heap.size + 3 + 1, 1, none⟩ = some (.slice (some ⟨kb, ko, none⟩) 0 0) ∧ w'.cell? ⟨w.heap.size + 3 + 1, 2, none⟩ = some (.slice none 0 0) ∧ w'.cell? ⟨w.heap.size + 3 + 1, 3, none⟩ = some (.slice (some ⟨db, dO + (i + 1), none⟩) (Z - (i + 1)) (dc - (i + 1))))) 7 9 mixed (by kernel_rfl) (fun _ _ _ _ h => h) (by rw [← hZ']; exact ⟨⟨E1, cx⟩, ⟨L0, L1, L2, L3⟩, ⟨R0, R1, R2, R3⟩⟩) ?_
 dsimp only [List.take, List.drop]
 iterate 7
  refine take_one (v := ?_) (by rfl) ?_ ?_
  rotate_left
  ·rintro w' ⟨⟨s1, s2⟩, ⟨s3, s4, s5, s6⟩, ⟨s7, s8, s9, s10⟩⟩
   go_simp
   try with_reducible rfl
  try simp only [Act.put, List.setIfInBounds_toArray, List.set_cons_zero, List.set_cons_succ]
 rw [← hZ']
 replace hZ' := hide hZ'
 refine mid_one fun K' hK' => ?_
 rw [if_pos (by rfl)]
 go_simp
 have oth : ∀ (b j : Nat) (u : Value), Z'.cell? ⟨b, j, none⟩ = some u → b ≠ w.heap.size + 1 → (S4 (w.heap.size + 1) Z' (.bool false) (.slice (some ⟨kb, ko, none⟩) i (i + 1)) (.slice none 0 0) (.slice (some ⟨db, dO, none⟩) (i + 1) dc)).cell? ⟨b, j, none⟩ = some u := fun b j u hc hne => by
  have e9 := s4_other (w := Z') (g := w.heap.size + 1) (.bool false) (.slice (some ⟨kb, ko, none⟩) i (i + 1)) (.slice none 0 0) (.slice (some ⟨db, dO, none⟩) (i + 1) dc) hne
  simp only [World.cell?] at hc ⊢
  rw [e9]; exact hc
 refine hK' _ _ ⟨⟨oth _ _ _ E1 (by omega), oth _ _ _ cx (by omega)⟩, ⟨oth _ _ _ L0 (by omega), oth _ _ _ L1 (by omega), oth _ _ _ L2 (by omega), oth _ _ _ L3 (by omega)⟩, ⟨oth _ _ _ R0 (by omega), oth _ _ _ R1 (by omega), oth _ _ _ R2 (by omega), oth _ _ _ R3 (by omega)⟩⟩ ?_
 clear hK' K'
 refine mid_one fun K' hK' => ?_
 rw [if_pos (by rfl)]
 go_simp
 refine hK' _ _ ⟨⟨oth _ _ _ E1 (by omega), oth _ _ _ cx (by omega)⟩, ⟨oth _ _ _ L0 (by omega), oth _ _ _ L1 (by omega), oth _ _ _ L2 (by omega), oth _ _ _ L3 (by omega)⟩, ⟨oth _ _ _ R0 (by omega), oth _ _ _ R1 (by omega), oth _ _ _ R2 (by omega), oth _ _ _ R3 (by omega)⟩⟩ ?_
 clear hK' K'
 show wpList _ _ _ _ _ _
 have O2 : (S4 (w.heap.size + 1) Z' (.bool false) (.slice (some ⟨kb, ko, none⟩) i (i + 1)) (.slice none 0 0) (.slice (some ⟨db, dO, none⟩) (i + 1) dc)).heap[w.heap.size + 1 + 1]? = some (.cells #[.bool false, .slice none 0 0, .slice none 0 0, .slice none 0 0] 76 (0, 0)) := (s4_other _ _ _ _ (show w.heap.size + 1 + 1 ≠ w.heap.size + 1 by omega)).trans R2'
 obtain ⟨⟨M0, M1, M2, M3⟩, MF⟩ := cells4 O2
 have FIN : Hid (RdK Q (.slice (some ⟨kb, ko, none⟩) i (i + 1)) (.slice none 0 0) (.slice (some ⟨db, dO, none⟩) (i + 1) dc) (cutL n i) ∧ RdK Q (.slice (some ⟨kb, ko, none⟩) 0 0) (.slice none 0 0) (.slice (some ⟨db, dO + (i + 1), none⟩) (Z - (i + 1)) (dc - (i + 1))) (cutR n i)) := ⟨HRR.out.1.to q3, HRR.out.2.to q3⟩
 have HQ1 := hide q1
 have HQ2 := hide q2
 have HQ3 := hide q3
 rw [hQ] at HQ1 HQ2 HQ3 FIN
 clear E0 E1 E2 E3 EF L0 L1 L2 L3 LF R0 R1 R2 R3 RF P0 P1 P2 P3 PF R1' R2' cx oth q1 q2 q3 hQ O2
 go_wp2
 refine retNTN rfl rfl (w.heap.size + 1) (w.heap.size + 2) rfl rfl _ _ _ _ (0, 0) (0, 0) HQ1.out HQ2.out _ _ Tryz.underlying76 rfl info_nd10 Tryz.underlying76 rfl info_nd10 _ rfl ?_
 refine ⟨_, _, _, _, _, _, ?_, FIN.out.1, FIN.out.2, HQ3.out⟩
 rw [hgd.out, hcl.out.1, hcl.out.2]
 rfl
theorem pcut_any (w : World) (n : Nd) (kv vv dv : Value) (i : Nat) (h : RdK w kv vv dv n) (hi : i < n.keys.length) (hl : n.keys.length ≤ 1000) (hc : (n.leaf = true ∧ n.vals.length = n.keys.length) ∨ (n.leaf = false ∧ n.kids.length = n.keys.length + 1)) :
  Calls Tryz.prog 86 #[nv n kv vv dv, .int .i64 (i : Int)] w fun e w' => CutR w w' n i e := by
 rcases hc with ⟨h1, h2⟩ | ⟨h1, h2⟩
 ·exact pcut_leaf w n kv vv dv i h hi hl h1 h2
 ·obtain ⟨a, c, rfl⟩ := h.rd.keys.slice
  by_cases hq : c = i + 1
  ·subst hq
   exact pcut_innB w n _ vv dv i h hi hl h1 h2 ⟨a, rfl⟩
  ·refine pcut_innA w n _ vv dv i h hi hl h1 h2 fun a' c' e => ?_
   simp only [Value.slice.injEq] at e
   rw [← e.2.2]
   exact hq
end Go.Proofs.YtgmkknonnidgaaaGreat

namespace Go.Proofs.YtgmkknonnidgaaaGreat
open Go.RowKit
theorem midTo_succ (n : Nd) (k : Nat) : midTo n (k + 1) = if cutG n k < (midTo n k).2 then (k, cutG n k) else midTo n k := rfl
structure NBd (n : Nd) : Prop where
 self : 0 ≤ nsize n ∧ nsize n ≤ 1000000
 left : ∀ i, i < n.keys.length → 0 ≤ nsize (cutL n i) ∧ nsize (cutL n i) ≤ 1000000
 right : ∀ i, i < n.keys.length → 0 ≤ nsize (cutR n i) ∧ nsize (cutR n i) ≤ 1000000
set_option maxRecDepth 100000 in
set_option maxHeartbeats 4000000 in
theorem pmid_any (w : World) (n : Nd) (kv vv dv : Value) (h : RdK w kv vv dv n) (hl : n.keys.length ≤ 1000) (hc : (n.leaf = true ∧ n.vals.length = n.keys.length) ∨ (n.leaf = false ∧ n.kids.length = n.keys.length + 1)) (hbd : NBd n) :
  Calls Tryz.prog 87 #[nv n kv vv dv] w fun e w' => e = .returned (.int .i64 (midOf n : Int)) ∧ Below w.heap.size w w' := by
 obtain ⟨ka, kc, va, vc, da, dc, rfl, rfl, rfl⟩ := h.rd.slices
 obtain ⟨W, hW, DW, bW, sW⟩ := boxedN w #[.bool n.leaf, .slice ka n.keys.length kc, .slice va n.vals.length vc, .slice da n.kids.length dc] 76
 have HN := hide (h.to bW)
 have KS := hide (psize9_any W _ _ _ n HN.out.rd)
 obtain ⟨⟨E0, E1, E2, E3⟩, EF⟩ := cells4 DW
 have HD := hide DW
 have HB := hide bW
 replace hbd := hide hbd
 replace hc := hide hc
 rw [hW] at E0 E1 E2 E3 EF KS
 dsimp only [nv] at KS ⊢
 clear h DW bW
 have hmd : Hid (midOf n = (midTo n n.keys.length).1) := rfl
 have hbs := hide (And.intro hbd.out.self (And.intro hbd.out.left hbd.out.right))
 generalize hK : n.keys.length = K at *
 replace hK := hide hK
 go_enter Tryz.func87, Tryz.ntmps87
 go_wp2_with fail
 refine KS.out.mono ?_
 rintro e w1 ⟨rfl, b1⟩
 rw [← hW] at b1
 replace hW := hide hW
 clear E0 E1 E2 E3 EF KS
 have hws : wrap64 (nsize n) = nsize n := by have := hbd.out.self; unfold wrap64; omega
 rw [hws]
 have D1 := (b1.block _ (lt_of_block HD.out)).trans HD.out
 obtain ⟨⟨E0, E1, E2, E3⟩, EF⟩ := cells4 D1
 have HI : Hid (Below W.heap.size W w1) := b1
 have hm0 : Hid (midTo n 0 = (0, nsize n)) := rfl
 clear D1 b1 hws
 go_wp2_with fail
 clear E0 E1 E2 E3 EF
 go_loopw [3, 4, 15] (fun bst lst p wr => ∃ k : Nat, k ≤ K ∧ p = .int .i64 k ∧ bst = .int .i64 ((midTo n k).1 : Int) ∧ lst = .int .i64 (midTo n k).2 ∧ Hid (Below W.heap.size W wr)) (fun _ _ p _ => K - (intOf p).toNat)
 case atStart => exact ⟨0, Nat.zero_le _, rfl, rfl, rfl, HI⟩
 case round =>
  obtain ⟨k, hk, rfl, rfl, rfl, hI⟩ := hrel
  clear HI
  by_cases hlt : k < K
  ·have hq : (k : Int) < (K : Int) := by omega
   have D1 := (hI.out.block _ (lt_of_block HD.out)).trans HD.out
   obtain ⟨⟨E0, E1, E2, E3⟩, EF⟩ := cells4 D1
   have KC := hide (pcut_any wr n _ _ _ k (HN.out.to hI.out) (by rw [hK.out]; exact hlt) (by rw [hK.out]; exact hl) (by rw [hK.out]; exact hc.out))
   have gL := hbs.out.2.1 k hlt
   have gR := hbs.out.2.2 k hlt
   have hms := hide (midTo_succ n k)
   dsimp only [nv] at KC
   clear D1
   go_wp2_with fail
   refine KC.out.mono ?_
   rintro e w2 ⟨k1, v1, d1, k2, v2, d2, rfl, r1, r2, b2⟩
   clear E0 E1 E2 E3 EF KC
   have B2 := hide (hI.out.trans (b2.mono hI.out.size))
   obtain ⟨k1a, k1c, v1a, v1c, d1a, d1c, rfl, rfl, rfl⟩ := r1.rd.slices
   obtain ⟨k2a, k2c, v2a, v2c, d2a, d2c, rfl, rfl, rfl⟩ := r2.rd.slices
   obtain ⟨Y1, hY1, DY1, bY1, sY1⟩ := boxedN w2 #[.bool (cutL n k).leaf, .slice k1a (cutL n k).keys.length k1c, .slice v1a (cutL n k).vals.length v1c, .slice d1a (cutL n k).kids.length d1c] 76
   obtain ⟨Y2, hY2, DY2, bY2, sY2⟩ := boxedN Y1 #[.bool (cutR n k).leaf, .slice k2a (cutR n k).keys.length k2c, .slice v2a (cutR n k).vals.length v2c, .slice d2a (cutR n k).kids.length d2c] 76
   rw [sY1] at DY2
   have bY := bY1.trans (bY2.mono bY1.size)
   have HY := hide (And.intro ((bY2.block _ (lt_of_block DY1)).trans DY1) (And.intro DY2 (And.intro (r1.to bY) (And.intro (r2.to bY) (B2.out.trans (bY.mono B2.out.size))))))
   clear DY1 DY2 bY1 bY2 bY r1 r2 b2 hI
   dsimp only [nv]
   go_upto_region 6 with fail
   rw [← hY1, ← hY2]
   replace hY1 := hide hY1
   replace hY2 := hide hY2
   obtain ⟨D1, D2, r1, r2, bB⟩ := HY.out
   have b0 : Below Y2.heap.size Y2 Y2.drew := below_drewN' Y2 1 _
   obtain ⟨X1, hX1⟩ : ∃ X, X = Y2.drew := ⟨_, rfl⟩
   rw [← hX1] at b0
   have HR := hide (And.intro (r1.to b0) (r2.to b0))
   have HS : Hid (∀ u, Below Y2.heap.size Y2 u → (Y2.heap.size ≤ u.heap.size) ∧ u.heap[w2.heap.size]? = some (.cells #[.bool (cutL n k).leaf, .slice k1a (cutL n k).keys.length k1c, .slice v1a (cutL n k).vals.length v1c, .slice d1a (cutL n k).kids.length d1c] 76 (0, 0)) ∧ u.heap[w2.heap.size + 1]? = some (.cells #[.bool (cutR n k).leaf, .slice k2a (cutR n k).keys.length k2c, .slice v2a (cutR n k).vals.length v2c, .slice d2a (cutR n k).kids.length d2c] 76 (0, 0))) := fun u bu => ⟨bu.size, (bu.block _ (lt_of_block D1)).trans D1, (bu.block _ (lt_of_block D2)).trans D2⟩
   have K1 := hide (psize9_any X1 _ _ _ (cutL n k) HR.out.1.rd)
   have K2 : Hid (∀ u, Below X1.heap.size X1 u → _) := fun u bu => psize9_any u _ _ _ (cutR n k) (HR.out.2.to bu).rd
   dsimp only [nv] at K1 K2
   have w1s : wrap64 (nsize (cutL n k)) = nsize (cutL n k) := by unfold wrap64; omega
   have w2s : wrap64 (nsize (cutR n k)) = nsize (cutR n k) := by unfold wrap64; omega
   rw [w1s] at K1
   simp only [w2s] at K2
   have hG : Hid (cutG n k = max (nsize (cutL n k)) (nsize (cutR n k))) := rfl
   generalize nsize (cutL n k) = N1 at *
   generalize nsize (cutR n k) = N2 at *
   generalize (cutL n k).keys.length = A1 at *
   generalize (cutL n k).vals.length = A2 at *
   generalize (cutL n k).kids.length = A3 at *
   generalize (cutR n k).keys.length = B1 at *
   generalize (cutR n k).vals.length = B2 at *
   generalize (cutR n k).kids.length = B3 at *
   clear w1s w2s
   have HSS : Hid (∀ w', Below Y2.heap.size Y2 w' → (w'.cell? ⟨w2.heap.size, 0, none⟩ = some (.bool (cutL n k).leaf) ∧ w'.cell? ⟨w2.heap.size, 1, none⟩ = some (.slice k1a A1 k1c) ∧ w'.cell? ⟨w2.heap.size, 2, none⟩ = some (.slice v1a A2 v1c) ∧ w'.cell? ⟨w2.heap.size, 3, none⟩ = some (.slice d1a A3 d1c)) ∧ (w'.cell? ⟨w2.heap.size + 1, 0, none⟩ = some (.bool (cutR n k).leaf) ∧ w'.cell? ⟨w2.heap.size + 1, 1, none⟩ = some (.slice k2a B1 k2c) ∧ w'.cell? ⟨w2.heap.size + 1, 2, none⟩ = some (.slice v2a B2 v2c) ∧ w'.cell? ⟨w2.heap.size + 1, 3, none⟩ = some (.slice d2a B3 d2c))) := fun u bu => by
    obtain ⟨_, q1, q2⟩ := HS.out u bu
    exact ⟨(cells4 q1).1, (cells4 q2).1⟩
   have B3' := hide bB
   clear D1 D2 r1 r2 bB HY HS
   refine wp_region_sched (fun w' => (w'.cell? ⟨w2.heap.size, 0, none⟩ = some (.bool (cutL n k).leaf) ∧ w'.cell? ⟨w2.heap.size, 1, none⟩ = some (.slice k1a A1 k1c) ∧ w'.cell? ⟨w2.heap.size, 2, none⟩ = some (.slice v1a A2 v1c) ∧ w'.cell? ⟨w2.heap.size, 3, none⟩ = some (.slice d1a A3 d1c)) ∧ (w'.cell? ⟨w2.heap.size + 1, 0, none⟩ = some (.bool (cutR n k).leaf) ∧ w'.cell? ⟨w2.heap.size + 1, 1, none⟩ = some (.slice k2a B1 k2c) ∧ w'.cell? ⟨w2.heap.size + 1, 2, none⟩ = some (.slice v2a B2 v2c) ∧ w'.cell? ⟨w2.heap.size + 1, 3, none⟩ = some (.slice d2a B3 d2c))) [(0, true), (2, true), (1, false), (3, false)] 4 mixed (by kernel_rfl) (fun _ _ _ _ h => h) ?_
   rw [← hX1]
   replace hX1 := hide hX1
   iterate 2
    refine sched_take (v := ?_) rfl (by kernel_rfl) (HSS.out _ b0) ?_ ?_
    rotate_left
    ·rintro w' ⟨⟨s1, s2, s3, s4⟩, ⟨t1, t2, t3, t4⟩⟩
     go_simp
     try with_reducible rfl
    try simp only [Act.put, List.setIfInBounds_toArray, List.set_cons_zero, List.set_cons_succ]
   refine sched_run rfl (by kernel_rfl) fun K' hK' => ?_
   refine wp_call_of 71 _ _ (by rfl) _ (by simp [Act.eval]) (Tryz.call71 _ _) K1.out ?_
   rintro e w4 ⟨rfl, b4⟩
   have b04 := b0.trans (b4.mono b0.size)
   refine ⟨_, rfl, hK' _ _ (HSS.out _ b04) ?_⟩
   clear hK' K'
   try simp only [Act.put, List.setIfInBounds_toArray, List.set_cons_zero, List.set_cons_succ]
   refine sched_run rfl (by kernel_rfl) fun K' hK' => ?_
   refine wp_call_of 71 _ _ (by rfl) _ (by simp [Act.eval]) (Tryz.call71 _ _) (K2.out w4 b4) ?_
   rintro e w5 ⟨rfl, b5⟩
   have b05 := b04.trans (b5.mono b04.size)
   refine ⟨_, rfl, hK' _ _ (HSS.out _ b05) ?_⟩
   clear hK' K'
   try simp only [Act.put, List.setIfInBounds_toArray, List.set_cons_zero, List.set_cons_succ]
   show wpList _ _ _ _ _ _
   dsimp only [List.drop]
   have B5 := hide (B3'.out.trans (b05.mono B3'.out.size))
   clear b4 b04 b5 b05 b0 K1 K2 HSS B3' HR
   obtain ⟨⟨M1, M2⟩, hM⟩ : ∃ q, q = midTo n k := ⟨_, rfl⟩
   rw [← hM]
   dsimp only
   replace hM := hide hM.symm
   by_cases hmx : N1 ≤ N2
   ·by_cases hcp : N2 < M2
    ·have hz : Hid (midTo n (k + 1) = (k, N2)) := by
      show _ = _
      rw [hms.out, hG.out, hM.out]
      dsimp only
      rw [show max N1 N2 = N2 by omega]
      exact if_pos hcp
     go_wp2
     go_roundw
     case rel => exact ⟨k + 1, by omega, by go_num, by rw [hz.out], by first | (rw [hz.out]; done) | (rw [hz.out]; dsimp only; congr 1; split <;> omega), B5⟩
     case measure => simp [intOf]; omega
    ·skip
     have hz : Hid (midTo n (k + 1) = (M1, M2)) := by
      show _ = _
      rw [hms.out, hG.out, hM.out]
      dsimp only
      rw [show max N1 N2 = N2 by omega]
      exact if_neg hcp
     go_wp2
     go_roundw
     case rel => exact ⟨k + 1, by omega, by go_num, by rw [hz.out], by first | (rw [hz.out]; done) | (rw [hz.out]; dsimp only; congr 1; split <;> omega), B5⟩
     case measure => simp [intOf]; omega
   ·have hmx' : N2 < N1 := by omega
    by_cases hcp : N1 < M2
    ·skip
     have hz : Hid (midTo n (k + 1) = (k, N1)) := by
      show _ = _
      rw [hms.out, hG.out, hM.out]
      dsimp only
      rw [show max N1 N2 = N1 by omega]
      exact if_pos hcp
     go_wp2
     go_roundw
     case rel => exact ⟨k + 1, by omega, by go_num, by rw [hz.out], by first | (rw [hz.out]; done) | (rw [hz.out]; dsimp only; congr 1; split <;> omega), B5⟩
     case measure => simp [intOf]; omega
    ·skip
     have hz : Hid (midTo n (k + 1) = (M1, M2)) := by
      show _ = _
      rw [hms.out, hG.out, hM.out]
      dsimp only
      rw [show max N1 N2 = N1 by omega]
      exact if_neg hcp
     go_wp2
     go_roundw
     case rel => exact ⟨k + 1, by omega, by go_num, by rw [hz.out], by first | (rw [hz.out]; done) | (rw [hz.out]; dsimp only; congr 1; split <;> omega), B5⟩
     case measure => simp [intOf]; omega
  ·have hq : ¬ (k : Int) < (K : Int) := by omega
   obtain rfl : k = K := by omega
   have hr : Hid (((midTo n k).1 : Int) = (midOf n : Int)) := by show _ = _; rw [hmd.out]
   have BB := hide (HB.out.trans (hI.out.mono HB.out.size))
   go_wp2
   go_ret
   exact ⟨ret_i9 hr.out, BB.out⟩
end Go.Proofs.YtgmkknonnidgaaaGreat

namespace Go.Proofs.YtgmkknonnidgaaaGreat
open Go.RowKit
def seg (L : List Value) (o : Nat) (vs : List Value) : List Value := L.take o ++ vs ++ L.drop (o + vs.length)
theorem seg_len {L : List Value} {o : Nat} {vs : List Value} (h : o + vs.length ≤ L.length) : (seg L o vs).length = L.length := by
 unfold seg; simp; omega
theorem seg_at {L : List Value} {o : Nat} {vs : List Value} (h : o + vs.length ≤ L.length) {j : Nat} (hj : j < o ∨ o + vs.length ≤ j) : (seg L o vs)[j]? = L[j]? := by
 unfold seg
 rcases hj with hj | hj
 ·rw [List.append_assoc, List.getElem?_append_left (by simp; omega), List.getElem?_take, if_pos hj]
 ·rw [List.getElem?_append_right (by simp; omega), List.getElem?_drop]
  congr 1
  simp
  omega
theorem seg_take {L : List Value} {o k : Nat} {vs : List Value} (h : o + vs.length ≤ L.length) (hk : k ≤ o) : (seg L o vs).take k = L.take k := by
 unfold seg
 rw [List.append_assoc, List.take_append_of_le_length (by simp; omega), List.take_take]
 congr 1; omega
theorem seg_two {L A V C : List Value} (hA : L.take A.length = A) (hl : A.length + V.length + C.length ≤ L.length) : (seg (seg L (A.length + V.length) C) A.length V).take (A.length + V.length + C.length) = A ++ V ++ C := by
 have e1 : seg L (A.length + V.length) C = L.take (A.length + V.length) ++ C ++ L.drop (A.length + V.length + C.length) := rfl
 have h1 : (seg L (A.length + V.length) C).take A.length = A := by rw [seg_take hl (by omega), hA]
 have h2 : (seg L (A.length + V.length) C).drop (A.length + V.length) = C ++ L.drop (A.length + V.length + C.length) := by
  rw [e1, List.append_assoc, List.drop_left' (by simp; omega)]
 have e2 : seg (seg L (A.length + V.length) C) A.length V = (A ++ V ++ C) ++ L.drop (A.length + V.length + C.length) := by
  rw [seg, h1, h2]; simp
 rw [e2, List.take_left' (by simp; omega)]
theorem seg_two' {L A V C : List Value} (hA : L.take A.length = A) (hl : A.length + V.length + C.length ≤ L.length) : (seg (seg L A.length V) (A.length + V.length) C).take (A.length + V.length + C.length) = A ++ V ++ C := by
 have h0 : (seg L A.length V).length = L.length := seg_len (by omega)
 have h1 : (seg L A.length V).take (A.length + V.length) = A ++ V := by
  rw [seg, hA, List.take_left' (by simp)]
 have e2 : seg (seg L A.length V) (A.length + V.length) C = (A ++ V ++ C) ++ (seg L A.length V).drop (A.length + V.length + C.length) := by
  rw [seg, h1]
 rw [e2, List.take_left' (by simp; omega)]
theorem run_copyN {P : Program} (w : World) (dT sT ty elem : TypeId) (n g o dLen dCap : Nat) (a : Addr) (sLen sCap : Nat) (cur : Array Value) (t : TypeId) (cs : List Value) (m : Nat)
  (hu : P.underlying dT = some (.slice elem)) (hs : (P.info? elem).map (·.size) = some n) (hg : w.heap[g]? = some (.cells cur t (0, 0))) (hm : m = Nat.min sLen dLen) (hn : cs.length = m * n)
  (hsrc : ∀ j v, cs[j]? = some v → w.cell? (a.add j) = some v) (hfit : o + cs.length ≤ cur.size) (h1 : ∀ v ∈ cs, v.oneCell' = true) :
  (Builtin.copy_ #[dT, sT] ty #[.slice (some ⟨g, o, none⟩) dLen dCap, .slice (some a) sLen sCap]).run P w = .ok (goInt m) (w.setRow g (seg cur.toList o cs).toArray) := by
 have hf := run_firstCells_some (P := P) w n m a sLen sCap cs hn hsrc
 have hst := run_storeCells_at P g o t cs 0 cur w hg (by simpa using hfit) h1
 simp only [Nat.add_zero] at hst
 cases hq : P.info? elem with
 | none => simp [hq] at hs
 | some i =>
  have hi : i.size = n := by simpa [hq] using hs
  simp [Builtin.copy_, run_underlying hu, Builtin.lenOf, sizeOf, typeInfo, hq, hi, ← hm, hf, hst, seg]
theorem run_copyN_none {P : Program} (w : World) (dT sT ty elem : TypeId) (n : Nat) (g : Addr) (dLen dCap : Nat) (hu : P.underlying dT = some (.slice elem)) (hs : (P.info? elem).map (·.size) = some n) :
  (Builtin.copy_ #[dT, sT] ty #[.slice (some g) dLen dCap, .slice none 0 0]).run P w = .ok (goInt 0) w := run_copy_nil P w dT sT ty elem g dLen dCap hu (by rw [hs]; rfl)
theorem run_clearN {P : Program} (w : World) (t e ty : TypeId) (z : Value) (n g o m c : Nat) (cur : Array Value) (T : TypeId) (ht : P.underlying t = some (.slice e)) (hv : ∀ w, (zeroValue e).run P w = .ok z w) (hz : z.cells.size = n) (h1 : ∀ v ∈ z.cells, v.oneCell' = true)
  (hg : w.heap[g]? = some (.cells cur T (0, 0))) (hfit : o + m * n ≤ cur.size) (hm : 0 < m) :
  (Builtin.clear_ #[t] ty #[.slice (some ⟨g, o, none⟩) m c]).run P w = .ok (.tuple #[]) (w.setRow g (seg cur.toList o (Builtin.zeroCells z.cells m).toList).toArray) := by
 have hl : (Builtin.zeroCells z.cells m).toList.length = m * n := by simp [Builtin.zeroCells, hz]
 have h1' : ∀ v ∈ (Builtin.zeroCells z.cells m).toList, v.oneCell' = true := by
  intro v hv'
  simp only [Builtin.zeroCells, Array.toList_map, Array.toList_range, List.mem_map, List.mem_range] at hv'
  obtain ⟨j, hj, rfl⟩ := hv'
  by_cases hn0 : z.cells.size = 0
  ·rw [hn0, Nat.mul_zero] at hj; omega
  ·have hlt : j % z.cells.size < z.cells.size := Nat.mod_lt _ (by omega)
   rw [getElem!_pos z.cells _ hlt]
   exact h1 _ (Array.getElem_mem hlt)
 have hst := run_storeCells_at P g o T (Builtin.zeroCells z.cells m).toList 0 cur w hg (by rw [hl]; simpa using hfit) h1'
 simp only [Nat.add_zero] at hst
 obtain ⟨k, rfl⟩ : ∃ k, m = k + 1 := ⟨m - 1, by omega⟩
 simp [Builtin.clear_, run_underlying ht, hv, hst, seg]
theorem run_clear_none {P : Program} (w : World) (t e ty : TypeId) (a : Option Addr) (c : Nat) (ht : P.underlying t = some (.slice e)) : (Builtin.clear_ #[t] ty #[.slice a 0 c]).run P w = .ok (.tuple #[]) w := by
 cases a <;> simp [Builtin.clear_, run_underlying ht]
theorem run_growN {P : Program} (w : World) (t tn ty e : TypeId) (i0 : TypeInfo) (z : Value) (kn : IntKind) (n by8 : Nat) (ht : P.underlying t = some (.slice e)) (htn : P.underlying tn = some (.int kn)) (hi0 : P.info? e = some i0) (hz : i0.zero = some z) (hs : i0.size = n) (hby : i0.bytes = by8) (hzs : z.cells.size = n) (hn : 0 < n)
  (g cap i k : Nat) (cur : Array Value) (A : List Value) (hg : w.heap[g]? = some (.cells cur e (0, 0))) (hA : A.length = i * n) (hct : cur.toList.take (i * n) = A) (hk : 0 < k) (hroom : cap < i + k) (hbig : (i + k) * by8 ≤ 140737488355328) (h63 : i + k ≤ 1000000000) (hk8 : k * by8 ≤ 281474976710656) :
  ∃ G ROW, (Builtin.append_ #[t, tn] ty #[.slice (some ⟨g, 0, none⟩) i cap, .int .i64 (k : Int)]).run P w = .ok (.slice (some ⟨w.heap.size, 0, none⟩) (i + k) G) (w.drew.alloc (.cells ROW e)) ∧ ROW.size = G * n ∧ ROW.toList.take A.length = A ∧ i + k ≤ G ∧ G ≤ 9223372036854775807 := by
 have hold : (Builtin.firstCells i0.size i (.slice (some ⟨g, 0, none⟩) i cap)).run P w.drew = .ok A.toArray w.drew := by
  rw [hs]
  refine run_firstCells_some w.drew n i ⟨g, 0, none⟩ i cap A hA (fun j v hj => ?_)
  have hj' := hj
  rw [← hct, List.getElem?_take] at hj'
  split at hj'
  ·have : (⟨g, 0, none⟩ : Addr).add j = ⟨g, j, none⟩ := by rw [Addr.add_lit]; simp
   rw [this]
   show w.cell? _ = _
   simp only [World.cell?, hg]
   simpa using hj'
  ·cases hj'
 have h := Lib.run_append_grow_zeros w t tn ty e i0 z .i64 kn ht htn hi0 hz (some ⟨g, 0, none⟩) i cap A hold k hk (by omega) (by omega) (by omega) (by rw [hby]; exact hk8) (by rw [hby]; exact growslice_fits hroom hbig)
 have hge := grownCap_ge w (i + k) cap e
 have hle := grownCap_le_maxLen w (i + k) cap e (by unfold maxLen; omega)
 refine ⟨_, _, h, ?_, ?_, hge, by unfold maxLen at hle; exact hle⟩
 ·rw [Array.size_append, Array.size_append, size_zeroCells, size_zeroCells, hzs, List.size_toArray, hA, ← Nat.add_mul, ← Nat.add_mul]
  congr 1
  omega
 ·rw [Array.toList_append, Array.toList_append, List.append_assoc, List.take_left']
  rfl
theorem wp_run_copy {P : Program} (w : World) {o : Oper} {a : Act} {K : Act → World → Prop} {Q : Exit → Act → World → Prop} (d s : Operand) (t t' : TypeId)
  (ho : o.op = .call { callee := .builtin .copy, args := #[d, s], argTypes := #[t, t'] }) (v u : Value) (hd : a.eval d = v) (hs : a.eval s = u) (v' : Value) (w' : World)
  (hr : (Builtin.copy_ #[t, t'] o.type #[v, u]).run P w = .ok v' w') (h : K (a.put o.dst v') w') : o.wp P a w K Q := by
 unfold Oper.wp
 simp [execOp, ho, resolve, invoke, builtin, hd, hs, hr, Result.andThen]
 exact h
theorem wpList_run_copy {P : Program} (w : World) {ops : Array Oper} {rest : List Oper} {o : Oper} {a : Act} {Q : Exit → Act → World → Prop} (hgd : o.guard = none) (d s : Operand) (t t' : TypeId)
  (ho : o.op = .call { callee := .builtin .copy, args := #[d, s], argTypes := #[t, t'] }) (v u : Value) (hd : a.eval d = v) (hs : a.eval s = u) (v' : Value) (w' : World)
  (hr : (Builtin.copy_ #[t, t'] o.type #[v, u]).run P w = .ok v' w') (h : wpList P ops Q rest (a.put o.dst v') w') : wpList P ops Q (o :: rest) a w :=
 wpList_plain hgd fun _ hK => wp_run_copy w d s t t' ho v u hd hs v' w' hr (hK _ _ h)
theorem row_set {B T n k g cap : Nat} {w : World} {cur : Array Value} {L cc : List Value} (hg : w.heap[g]? = some (.cells cur T (0, 0))) (hB : B ≤ g) (hk : k ≤ cap) (hc : cap ≤ maxLen) (hs : L.length = cap * n) (hl : cc.length = k * n) (ht : L.take (k * n) = cc) :
  (w.setRow g L.toArray).ownsRow B T n (.slice (some ⟨g, 0, none⟩) k cap) k cc ∧ w.grownBy (w.setRow g L.toArray) (some g) :=
 ⟨⟨hl, .inr ⟨g, cap, _, rfl, hB, setRow_heap w g cur _ T _ hg, hk, hc, by simpa using hs, by simpa using ht⟩⟩, ⟨rfl, rfl, rfl, by simp, fun j _ hj => setRow_other w g j _ (fun e => hj (by simp [e]))⟩⟩
theorem own_block {B T n k : Nat} {w : World} {v : Value} {cc : List Value} (h : w.ownsRow B T n v k cc) (hk : 0 < k) : ∃ g cap cur, v = .slice (some ⟨g, 0, none⟩) k cap ∧ B ≤ g ∧ w.heap[g]? = some (.cells cur T (0, 0)) ∧ k ≤ cap ∧ cap ≤ maxLen ∧ cur.size = cap * n ∧ cur.toList.take (k * n) = cc := by
 rcases h.2 with ⟨_, e⟩ | h
 ·omega
 ·exact h
end Go.Proofs.YtgmkknonnidgaaaGreat

namespace Go.Proofs.YtgmkknonnidgaaaGreat
open Go.RowKit
def bcl (bs : List Br) : List Value := bs.flatMap fun b => [st b.1, .int .i64 b.2]
theorem bcl_app (a b : List Br) : bcl (a ++ b) = bcl a ++ bcl b := by unfold bcl; rw [List.flatMap_append]
theorem bcl_len (l : List Br) : (bcl l).length = l.length * 2 := by
 induction l with
 | nil => rfl
 | cons y r ih => show ([_, _] ++ bcl r).length = _; rw [List.length_append, ih]; simp; omega
theorem bcl_at : ∀ (l : List Br) (i : Nat) (y : Br), l[i]? = some y → (bcl l)[i * 2]? = some (st y.1) ∧ (bcl l)[i * 2 + 1]? = some (.int .i64 y.2)
 | [], i, y, h => by simp at h
 | x :: r, 0, y, h => by
  have : x = y := by simpa using h
  subst this
  exact ⟨rfl, rfl⟩
 | x :: r, i + 1, y, h => by
  have := bcl_at r i y (by simpa using h)
  rw [show (i + 1) * 2 = i * 2 + 2 from by omega, show i * 2 + 2 + 1 = i * 2 + 1 + 2 from by omega]
  exact this
theorem bcl_one (l : List Br) : ∀ v ∈ bcl l, v.oneCell' = true := by
 intro v hv
 obtain ⟨y, _, hv⟩ := List.mem_flatMap.1 hv
 simp at hv
 rcases hv with rfl | rfl <;> rfl
theorem bcl_take (l : List Br) (k : Nat) : (bcl l).take (k * 2) = bcl (l.take k) := by
 rcases Nat.lt_or_ge k l.length with h | h
 ·have e : l = l.take k ++ l.drop k := (List.take_append_drop k l).symm
  have : bcl l = bcl (l.take k) ++ bcl (l.drop k) := by rw [← bcl_app, ← e]
  rw [this, List.take_left' (by rw [bcl_len, List.length_take]; congr 1; omega)]
 ·rw [List.take_of_length_le (by rw [bcl_len]; omega), List.take_of_length_le h]
abbrev OwnBr (B : Nat) (w : World) (v : Value) (bs : List Br) : Prop := w.ownsRow B 133 2 v bs.length (bcl bs)
theorem infoBr : (Tryz.prog.info? 133).map (fun i => (i.zero, i.size, i.bytes)) = some (some (.agg #[.string ⟨#[]⟩, .int .i64 0]), 2, 24) := by kernel_rfl
theorem OwnBr.slice {B : Nat} {w : World} {v : Value} {bs : List Br} (h : OwnBr B w v bs) : ∃ a c, v = .slice a bs.length c := by
 rcases h.2 with ⟨rfl, e⟩ | ⟨g, cap, cur, rfl, _⟩
 ·exact ⟨none, 0, by rw [e]⟩
 ·exact ⟨_, _, rfl⟩
theorem OwnBr.at {B : Nat} {w : World} {v : Value} {bs : List Br} (h : OwnBr B w v bs) {i : Nat} {y : Br} (hy : bs[i]? = some y) : ∃ g cap, v = .slice (some ⟨g, 0, none⟩) bs.length cap ∧ B ≤ g ∧ w.cell? ⟨g, i * 2, none⟩ = some (st y.1) ∧ w.cell? ⟨g, i * 2 + 1, none⟩ = some (.int .i64 y.2) ∧ ∀ j, w.frozen? ⟨g, j, none⟩ = false := by
 have hi := (List.getElem?_eq_some_iff.1 hy).1
 obtain ⟨g, cap, cur, e, hB, hg, hk, hm, hs, ht⟩ := own_block h (by omega)
 obtain ⟨c1, c2⟩ := bcl_at bs i y hy
 have hcell : ∀ j, j < bs.length * 2 → w.cell? ⟨g, j, none⟩ = (bcl bs)[j]? := fun j hj => by
  rw [← ht, List.getElem?_take, if_pos hj]
  simp [World.cell?, hg]
 exact ⟨g, cap, e, hB, by rw [hcell _ (by omega), c1], by rw [hcell _ (by omega), c2], frozN hg⟩
theorem wpList_appBr {ops : Array Oper} {rest : List Oper} {o : Oper} {a : Act} {w : World} {Q : Exit → Act → World → Prop} (hgd : o.guard = none) (s x : Operand)
  (ho : o.op = .call { callee := .builtin .append, args := #[s, x], argTypes := #[130, 130] }) (B : Nat) (v : Value) (bs : List Br) (y : Br) (g : Nat) (hs : a.eval s = v) (hx : a.eval x = .slice (some ⟨g, 0, none⟩) 1 1)
  (hown : OwnBr B w v bs) (hc1 : w.cell? ⟨g, 0, none⟩ = some (st y.1)) (hc2 : w.cell? ⟨g, 1, none⟩ = some (.int .i64 y.2)) (hlen : (bs.length + 1) * 24 ≤ 140737488355328) (hB : B ≤ w.heap.size)
  (h : ∀ v' w', OwnBr B w' v' (bs ++ [y]) → Below B w w' → wpList Tryz.prog ops Q rest (a.put o.dst v') w') : wpList Tryz.prog ops Q (o :: rest) a w := by
 obtain ⟨i0, hi, hz0, hz1, hz2⟩ := info_parts infoBr
 have n2 : ∀ j u, (bcl [y])[j]? = some u → w.cell? ((⟨g, 0, none⟩ : Addr).add j) = some u := by
  intro j u hj
  match j, hj with
  | 0, hj => simp [bcl] at hj; subst hj; simpa [Addr.add] using hc1
  | 1, hj => simp [bcl] at hj; subst hj; simpa [Addr.add] using hc2
  | j + 2, hj => simp [bcl] at hj
 refine wpList_append_own _ hgd s x 130 ho B 133 i0 (.agg #[.string ⟨#[]⟩, .int .i64 0]) 2 24 Tryz.underlying130 hi hz0 hz1 hz2 rfl (by decide) v bs.length (bcl bs) hs hown ⟨g, 0, none⟩ 1 1 (bcl [y]) hx rfl n2
  (bcl_one _) (by rw [show maxLen = 9223372036854775807 from rfl]; omega) hlen hB ?_
 intro v' w' q1 q2 _
 refine h v' w' ?_ ((Below.refl _ _).grown q2 hB (fun k hk => (World.ownsRow.lt hown k hk).1))
 show World.ownsRow _ _ _ _ _ _ _
 rw [bcl_app, List.length_append]
 exact q1
theorem own_litBr {w : World} (y : Br) : OwnBr w.heap.size (w.alloc (.cells #[st y.1, .int .i64 y.2] 133)) (.slice (some ⟨w.heap.size, 0, none⟩) 1 1) [y] :=
 ⟨rfl, .inr ⟨w.heap.size, 1, _, rfl, Nat.le_refl _, heap_alloc_last w _, Nat.le_refl _, by decide, rfl, rfl⟩⟩
set_option maxRecDepth 100000 in
set_option maxHeartbeats 4000000 in
theorem pbrs_any (w : World) (n : Nd) (kv vv dv : Value) (h : RdN w kv vv dv n) (hk : n.kids.length = n.keys.length + 1) (hl : n.keys.length ≤ 1000) :
  Calls Tryz.prog 69 #[nv n kv vv dv] w fun e w' => ∃ v', e = .returned v' ∧ OwnBr w.heap.size w' v' (brs n) ∧ Below w.heap.size w w' := by
 obtain ⟨ka, kc, va, vc, da, dc, rfl, rfl, rfl⟩ := h.slices
 obtain ⟨W, hW, DW, bW, sW⟩ := boxedN w #[.bool n.leaf, .slice ka n.keys.length kc, .slice va n.vals.length vc, .slice da n.kids.length dc] 76
 obtain ⟨d0, hd0⟩ : ∃ d, n.kids[0]? = some d := ⟨_, List.getElem?_eq_getElem (by omega)⟩
 obtain ⟨db, doff, rfl, hdc⟩ := (h.to bW).kids.intAt hd0
 rw [Nat.add_zero] at hdc
 obtain ⟨⟨E0, E1, E2, E3⟩, EF⟩ := cells4 DW
 have hbl : (brs n).length = n.keys.length + 1 := by rw [brs_len hk]; exact hk
 have hb0 : (brs n).take 1 = [([], d0)] := by
  unfold brs
  have : n.kids.headD 0 = d0 := by
   cases hn : n.kids with
   | nil => rw [hn] at hd0; simp at hd0
   | cons a r => rw [hn] at hd0; simpa using hd0
  rw [this]; rfl
 have hbk : ∀ (k : Nat) x d, n.keys[k]? = some x → n.kids[k + 1]? = some d → (brs n)[k + 1]? = some (x, d) := fun k x d h1 h2 => by
  unfold brs
  rw [List.getElem?_cons_succ, List.getElem?_zip_eq_some]
  exact ⟨h1, by rw [List.getElem?_tail]; exact h2⟩
 obtain ⟨X, hX⟩ : ∃ X, X = W.alloc (.cells #[st [], .int .i64 d0] 133) := ⟨_, rfl⟩
 have bX : Below W.heap.size W X := by rw [hX]; exact (Below.refl _ _).alloc (Nat.le_refl _) _
 have oX : OwnBr W.heap.size X (.slice (some ⟨W.heap.size, 0, none⟩) 1 1) ((brs n).take 1) := by rw [hb0, hX]; exact own_litBr ([], d0)
 have HI : Hid (OwnBr W.heap.size X (.slice (some ⟨w.heap.size + 1, 0, none⟩) 1 1) ((brs n).take (0 + 1)) ∧ Below W.heap.size W X) := by rw [← sW]; exact ⟨oX, bX⟩
 have HH := hide (h.to bW)
 have HD := hide DW
 have HB := hide bW
 have hkk : Hid (n.kids.length = n.keys.length + 1) := hk
 have hK0 : ¬ n.kids.length = 0 := by omega
 have X1 := (bX.cell (cell_lt E1)).trans E1
 have XF : X.frozen? ⟨w.heap.size, 0, none⟩ = false := frozN ((bX.block _ (lt_of_block DW)).trans DW) 0
 replace hbl := hide hbl
 replace hbk := hide hbk
 replace hb0 := hide hb0
 have hsW := hide sW
 rw [hW] at E0 E1 E2 E3 EF hdc
 rw [hX, hW] at X1 XF
 clear h DW bW hk oX bX
 dsimp only [nv]
 go_enter Tryz.func69, Tryz.ntmps69
 generalize hK : n.keys.length = K at *
 generalize hKd : n.kids.length = KD at *
 replace hKd := hide hKd
 go_wp2_with fail
 rw [← hW, ← hX]
 replace hW := hide hW
 replace hX := hide hX
 replace hK := hide hK
 clear E0 E1 E2 E3 EF X1 XF hdc
 go_loopw [3, 15] (fun o p wr => ∃ k : Nat, k ≤ K ∧ p = .int .i64 k ∧ Hid (OwnBr W.heap.size wr o ((brs n).take (k + 1)) ∧ Below W.heap.size W wr)) (fun _ p _ => K - (intOf p).toNat)
 case atStart => exact ⟨0, Nat.zero_le _, rfl, HI⟩
 case round =>
  obtain ⟨k, hk, rfl, hI⟩ := hrel
  clear HI
  by_cases hlt : k < K
  ·have hq : (k : Int) < (K : Int) := by omega
   obtain ⟨x, hx⟩ : ∃ x, n.keys[k]? = some x := ⟨_, List.getElem?_eq_getElem (by rw [hK.out]; exact hlt)⟩
   obtain ⟨d, hd⟩ : ∃ d, n.kids[k + 1]? = some d := ⟨_, List.getElem?_eq_getElem (by rw [hKd.out]; have := hkk.out; omega)⟩
   obtain ⟨kb, koff, rfl, hc1⟩ := (HH.out.to hI.out.2).keys.strAt hx
   obtain ⟨db', doff', e9, hc2⟩ := (HH.out.to hI.out.2).kids.intAt hd
   simp only [Option.some.injEq, Addr.mk.injEq, and_true] at e9
   obtain ⟨rfl, rfl⟩ := e9
   have D6 := (hI.out.2.block _ (lt_of_block HD.out)).trans HD.out
   obtain ⟨⟨E0, E1, E2, E3⟩, EF⟩ := cells4 D6
   have hsn : Hid ((brs n).take (k + 1 + 1) = (brs n).take (k + 1) ++ [(x, d)]) := by show _ = _; rw [List.take_add_one, hbk.out k x d hx hd]; rfl
   obtain ⟨oa, oc, ho⟩ := hI.out.1.slice
   have htl : ((brs n).take (k + 1)).length = k + 1 := by rw [List.length_take, hbl.out]; have := hK.out; omega
   rw [htl] at ho
   subst ho
   obtain ⟨V, hV, DV, bV, sV⟩ := boxedN wr #[st x, .int .i64 d] 133
   have V0 := cellN DV (i := 0) rfl
   have V1 := cellN DV (i := 1) rfl
   have OV : OwnBr W.heap.size V (.slice oa (k + 1) oc) ((brs n).take (k + 1)) := rows_to hI.out.1 bV
   have hBV : W.heap.size ≤ V.heap.size := Nat.le_trans hI.out.2.size bV.size
   have BV := hide (hI.out.2.trans (bV.mono hI.out.2.size))
   have hn8 : (((brs n).take (k + 1)).length + 1) * 24 ≤ 140737488355328 := by rw [htl]; omega
   replace htl := hide htl
   replace hx := hide hx
   replace hd := hide hd
   have hkd : (k : Int) + 1 < (KD : Int) := by have := hkk.out; omega
   have hw1 : IntKind.i64.wrap ((k : Int) + 1) = (k : Int) + 1 := IntWalk.i64_in _ (by omega)
   have htn : ((k : Int) + 1).toNat = k + 1 := by omega
   rw [hV] at V0 V1 OV hBV
   clear D6 DV bV sV hI
   go_wp2_with (at_builtin; refine wpList_appBr rfl _ _ rfl W.heap.size _ _ (x, d) wr.heap.size rfl rfl OV V0 V1 hn8 hBV ?_; intro v5 w5 o5 b5)
   rw [← hsn.out] at o5
   rw [← hV] at b5
   have I5 := hide (And.intro o5 (BV.out.trans b5))
   clear o5 b5 OV V0 V1 hBV hn8 hc1 hc2 E0 E1 E2 E3 EF
   go_wp2
   go_roundw
   case rel => exact ⟨k + 1, by omega, by go_num, I5⟩
   case measure => simp [intOf]; omega
  ·have hq : ¬ (k : Int) < (K : Int) := by omega
   have htk : (brs n).take (k + 1) = brs n := List.take_of_length_le (by rw [hbl.out]; have := hK.out; omega)
   rw [htk] at hI
   have hBB : Hid (w.heap.size ≤ W.heap.size) := HB.out.size
   go_wp2
   go_ret
   exact ⟨_, rfl, rows_mono hI.out.1 hBB.out, HB.out.trans (hI.out.2.mono hBB.out)⟩
structure ISt (X : World) (nb : Nat) (w : World) (kv dv : Value) (n : Nd) : Prop where
 bel : Below nb X w
 box : w.heap[nb]? = some (.cells #[.bool false, kv, .slice none 0 0, dv] 76 (0, 0))
 keys : OwnT (nb + 1) w kv n.keys
 kids : OwnJ (nb + 1) w dv n.kids
 hs : nb + 1 ≤ w.heap.size
theorem ISt.to {X : World} {nb : Nat} {w w' : World} {kv dv : Value} {n : Nd} (h : ISt X nb w kv dv n) (b : Below w.heap.size w w') : ISt X nb w' kv dv n :=
 ⟨h.bel.trans (b.mono (by have := h.hs; omega)), (b.block _ (lt_of_block h.box)).trans h.box, rows_to h.keys b, rows_to h.kids b, Nat.le_trans h.hs b.size⟩
theorem ISt.key {X : World} {nb : Nat} {w w' : World} {kv dv v' : Value} {n : Nd} {x : Str} (h : ISt X nb w kv dv n) (o : OwnT (nb + 1) w' v' (n.keys ++ [x])) (g : w.grownBy w' kv.ownBlock) :
  ISt X nb (w'.setCell ⟨nb, 1, none⟩ v') v' dv ⟨n.leaf, n.keys ++ [x], n.vals, n.kids⟩ := by
 have kt := fun e (he : e ≠ 9) => KeepT.grown h.keys g he
 have bx := kt _ (by decide) _ _ _ h.box
 have b1 : Below nb X w' := h.bel.grown g (by have := h.hs; have := h.bel.size; omega) (fun k hk => by have := (World.ownsRow.lt h.keys k hk).1; omega)
 refine ⟨b1.setCell (p := ⟨nb, 1, none⟩) (Nat.le_refl _) _, ?_, rows_keepT o (KeepT.set (a := ⟨nb, 1, none⟩) bx (by decide) _), rows_keepT (rows_keepT h.kids (kt _ (by decide))) (KeepT.set (a := ⟨nb, 1, none⟩) bx (by decide) _), ?_⟩
 ·have := heap_setN bx 1 v'
  simpa using this
 ·have := g.size; have := h.hs
  simp; omega
theorem ISt.kid {X : World} {nb : Nat} {w w' : World} {kv dv v' : Value} {n : Nd} {x : Int} (h : ISt X nb w kv dv n) (o : OwnJ (nb + 1) w' v' (n.kids ++ [x])) (g : w.grownBy w' dv.ownBlock) :
  ISt X nb (w'.setCell ⟨nb, 3, none⟩ v') kv v' ⟨n.leaf, n.keys, n.vals, n.kids ++ [x]⟩ := by
 have kt := fun e (he : e ≠ 3) => KeepT.grown h.kids g he
 have bx := kt _ (by decide) _ _ _ h.box
 have b1 : Below nb X w' := h.bel.grown g (by have := h.hs; have := h.bel.size; omega) (fun k hk => by have := (World.ownsRow.lt h.kids k hk).1; omega)
 refine ⟨b1.setCell (p := ⟨nb, 3, none⟩) (Nat.le_refl _) _, ?_, rows_keepT (rows_keepT h.keys (kt _ (by decide))) (KeepT.set (a := ⟨nb, 3, none⟩) bx (by decide) _), rows_keepT o (KeepT.set (a := ⟨nb, 3, none⟩) bx (by decide) _), ?_⟩
 ·have := heap_setN bx 3 v'
  simpa using this
 ·have := g.size; have := h.hs
  simp; omega
def inrTo (bs : List Br) (k : Nat) : Nd := ⟨false, (bs.take k).tail.map (·.1), [], (bs.take k).map (·.2)⟩
theorem inrTo_zero (bs : List Br) : inrTo bs 0 = ⟨false, [], [], []⟩ := by simp [inrTo]
theorem inrTo_first {bs : List Br} {y : Br} (h : bs[0]? = some y) : inrTo bs (0 + 1) = ⟨false, [], [], [y.2]⟩ := by
 cases bs with
 | nil => simp at h
 | cons a r => simp at h; subst h; simp [inrTo]
theorem inrTo_next {bs : List Br} {k : Nat} {y : Br} (h : bs[k]? = some y) (hk : 0 < k) : inrTo bs (k + 1) = ⟨false, (inrTo bs k).keys ++ [y.1], [], (inrTo bs k).kids ++ [y.2]⟩ := by
 unfold inrTo
 rw [List.take_add_one, h]
 have : (bs.take k) ≠ [] := fun e => by
  have := congrArg List.length e
  have hl := (List.getElem?_eq_some_iff.1 h).1
  simp at this
  rcases this with h9 | h9
  ·omega
  ·subst h9; simp at hl
 cases ht : bs.take k with
 | nil => exact absurd ht this
 | cons a r => simp
theorem inrTo_all (bs : List Br) : inrTo bs bs.length = inr bs := by unfold inrTo inr; rw [List.take_of_length_le (Nat.le_refl _)]
theorem inrTo_len (bs : List Br) (k : Nat) : (inrTo bs k).keys.length ≤ bs.length ∧ (inrTo bs k).kids.length ≤ bs.length := by unfold inrTo; simp; omega
theorem wpList_appI {ops : Array Oper} {rest : List Oper} {o : Oper} {a : Act} {w : World} {Q : Exit → Act → World → Prop} (hgd : o.guard = none) (s x : Operand)
  (ho : o.op = .call { callee := .builtin .append, args := #[s, x], argTypes := #[74, 74] }) (B : Nat) (v : Value) (xs : List Int) (y : Int) (g : Nat) (hs : a.eval s = v) (hx : a.eval x = .slice (some ⟨g, 0, none⟩) 1 1)
  (hown : OwnJ B w v xs) (hc : w.cell? ⟨g, 0, none⟩ = some (.int .i64 y)) (hlen : (xs.length + 1) * 8 ≤ 140737488355328) (hB : B ≤ w.heap.size)
  (h : ∀ g' cap w', OwnJ B w' (.slice (some ⟨g', 0, none⟩) (xs.length + 1) cap) (xs ++ [y]) → w.grownBy w' v.ownBlock → wpList Tryz.prog ops Q rest (a.put o.dst (.slice (some ⟨g', 0, none⟩) (xs.length + 1) cap)) w') : wpList Tryz.prog ops Q (o :: rest) a w := by
 obtain ⟨i0, hi, hz0, hz1, hz2⟩ := info_parts infoJ
 have n2 : ∀ j u, ([y].map (Value.int .i64))[j]? = some u → w.cell? ((⟨g, 0, none⟩ : Addr).add j) = some u := by
  intro j u hj
  match j, hj with
  | 0, hj => simp at hj; subst hj; simpa [Addr.add] using hc
  | j + 1, hj => simp at hj
 refine wpList_append_lies _ hgd s x 74 ho B 3 i0 (.int .i64 0) 1 8 Tryz.underlying74 hi hz0 hz1 hz2 rfl (by decide) v xs.length (xs.map (Value.int .i64)) hs hown ⟨g, 0, none⟩ 1 1 ([y].map (Value.int .i64)) hx rfl n2
  (fun u hu => by simp at hu; subst hu; rfl) (by decide) (by rw [show maxLen = 9223372036854775807 from rfl]; omega) hlen hB _ rfl ?_
 intro g' cap w' h1 h2 h3 _
 refine h g' cap w' ?_ h2
 show World.ownsRow _ _ _ _ _ _ _
 rw [List.map_append]
 simpa using h1
set_option maxRecDepth 100000 in
set_option maxHeartbeats 4000000 in
theorem pinr_any (B : Nat) (w : World) (v : Value) (bs : List Br) (h : OwnBr B w v bs) (hl : bs.length ≤ 1000) :
  Calls Tryz.prog 67 #[v] w fun e w' => ∃ kv dv, e = .returned (nv (inr bs) kv (.slice none 0 0) dv) ∧ OwnN w.heap.size w' kv (.slice none 0 0) dv (inr bs) ∧ Below w.heap.size w w' := by
 obtain ⟨a, c, rfl⟩ := h.slice
 obtain ⟨W, hW, DW, bW, sW⟩ := boxedN w #[.bool false, .slice none 0 0, .slice none 0 0, .slice none 0 0] 76
 obtain ⟨X, hX, DX, bX, sX⟩ := boxedN W #[.bool false, .slice none 0 0, .slice none 0 0, .slice none 0 0] 76
 have bWX := bW.trans (bX.mono bW.size)
 rw [sW] at DX
 have I0 : Hid (ISt X (w.heap.size + 1) X (.slice none 0 0) (.slice none 0 0) (inrTo bs 0)) := by
  show ISt _ _ _ _ _ _
  rw [inrTo_zero]
  exact ⟨Below.refl _ _, DX, World.ownsRow_nil _ _ _ _, World.ownsRow_nil _ _ _ _, by rw [sX, sW]; omega⟩
 have HO : Hid (OwnBr B X (.slice a bs.length c) bs) := rows_to h bWX
 have HR : Hid (X.heap[w.heap.size]? = some (.cells #[.bool false, .slice none 0 0, .slice none 0 0, .slice none 0 0] 76 (0, 0))) := (bX.block _ (lt_of_block DW)).trans DW
 have HB := hide bWX
 have HP : Hid (OwnBr B w (.slice a bs.length c) bs) := h
 generalize hK : bs.length = K at *
 replace hK := hide hK
 clear h DW DX bW bX bWX
 go_enter Tryz.func67, Tryz.ntmps67
 go_wp2_with fail
 rw [← hW, ← hX]
 replace hW := hide hW
 replace hX := hide hX
 go_loopw [8] (fun p wr => ∃ k : Nat, k ≤ K ∧ p = .int .i64 k ∧ Hid (∃ kv dv, ISt X (w.heap.size + 1) wr kv dv (inrTo bs k))) (fun p _ => K - (intOf p).toNat)
 case atStart => exact ⟨0, Nat.zero_le _, rfl, hide ⟨_, _, I0.out⟩⟩
 case round =>
  obtain ⟨k, hk, rfl, hI⟩ := hrel
  clear I0
  obtain ⟨kv, dv, I1⟩ := hI.out
  by_cases hlt : k < K
  ·have hq : (k : Int) < (K : Int) := by omega
   obtain ⟨⟨x, d⟩, hy⟩ : ∃ y, bs[k]? = some y := ⟨_, List.getElem?_eq_getElem (by rw [hK.out]; exact hlt)⟩
   obtain ⟨g, cap, e9, hBg, c1, c2, cf⟩ := HP.out.at hy
   simp only [Value.slice.injEq] at e9
   obtain ⟨rfl, h9, rfl⟩ := e9
   clear h9
   have bw1 : Below w.heap.size w wr := HB.out.trans (I1.bel.mono (by omega))
   replace c1 := (bw1.cell (cell_lt c1)).trans c1
   replace c2 := (bw1.cell (cell_lt c2)).trans c2
   obtain ⟨V, hV, DV, bV, sV⟩ := boxedN wr #[st x, .int .i64 d] 133
   have IV := I1.to bV
   have DV' := hide DV
   clear hI bw1 bV
   by_cases h0 : k = 0
   ·subst h0
    have hn9 : Hid (((inrTo bs 0).kids.length + 1) * 8 ≤ 140737488355328) := by show _ ≤ _; have := (inrTo_len bs 0).2; have := hK.out; omega
    have hres : Hid (inrTo bs (0 + 1) = ⟨(inrTo bs 0).leaf, (inrTo bs 0).keys, (inrTo bs 0).vals, (inrTo bs 0).kids ++ [d]⟩) := by show _ = _; rw [inrTo_first hy, inrTo_zero]; rfl
    go_upto_region 7 with fail
    rw [← hV]
    obtain ⟨Y, hY⟩ : ∃ Y, Y = V := ⟨_, rfl⟩
    have IY : ISt X (w.heap.size + 1) Y kv dv (inrTo bs 0) := by rw [hY]; exact IV
    have Y1 : Y.cell? ⟨wr.heap.size, 1, none⟩ = some (.int .i64 d) := by rw [hY]; exact cellN DV rfl
    rw [← hY]
    replace hV := hide hV
    clear IV DV DV' I1 c1 c2 hY
    -- the kid is appended
    obtain ⟨⟨E0, E1, E2, E3⟩, EF⟩ := cells4 IY.box
    obtain ⟨T, hT, DT, bT, sT⟩ := boxedN Y #[.int .i64 d] 3
    have IT := IY.to bT
    have T0 := cellN DT (i := 0) rfl
    have OT := IT.kids
    have hBT : w.heap.size + 1 + 1 ≤ T.heap.size := IT.hs
    obtain ⟨da, dc, hdv⟩ := IT.kids.rd.slice
    subst hdv
    have FIN : Hid (∀ g5 cap5 w5, OwnJ (w.heap.size + 1 + 1) w5 (.slice (some ⟨g5, 0, none⟩) ((inrTo bs 0).kids.length + 1) cap5) ((inrTo bs 0).kids ++ [d]) → T.grownBy w5 (Value.slice da (inrTo bs 0).kids.length dc).ownBlock →
      w5.cell? ⟨w.heap.size + 1, 3, none⟩ = some (.slice da (inrTo bs 0).kids.length dc) ∧ w5.frozen? ⟨w.heap.size + 1, 3, none⟩ = false ∧ Hid (∃ kv dv, ISt X (w.heap.size + 1) (w5.setCell ⟨w.heap.size + 1, 3, none⟩ (.slice (some ⟨g5, 0, none⟩) ((inrTo bs 0).kids.length + 1) cap5)) kv dv (inrTo bs (0 + 1)))) := fun g5 cap5 w5 o5 r5 => by
     have bx5 := KeepT.grown IT.kids r5 (show 76 ≠ 3 by decide) _ _ _ IT.box
     obtain ⟨⟨F0, F1, F2, F3⟩, FF⟩ := cells4 bx5
     have I5 := IT.kid o5 r5
     exact ⟨F3, FF 3, hide ⟨_, _, Eq.mp (congrArg (ISt X (w.heap.size + 1) _ _ _) hres.out.symm) I5⟩⟩
    rw [hT] at T0 OT hBT FIN
    clear IT DT bT IY
    go_wp2_with (at_builtin; refine wpList_appI rfl _ _ rfl (w.heap.size + 1 + 1) _ _ d Y.heap.size rfl rfl OT T0 hn9.out hBT ?_; intro g5 cap5 w5 o5 r5; obtain ⟨F1, F2, F3⟩ := FIN.out g5 cap5 w5 o5 r5; clear o5 r5)
    go_roundw
    case rel => exact ⟨0 + 1, by omega, by go_num, F3⟩
    case measure => simp [intOf]; omega
   ·have hp : (k : Int) > 0 := by omega
    have hn9 : Hid (((inrTo bs k).kids.length + 1) * 8 ≤ 140737488355328) := by show _ ≤ _; have := (inrTo_len bs k).2; have := hK.out; omega
    have hres : Hid (inrTo bs (k + 1) = ⟨(inrTo bs k).leaf, (inrTo bs k).keys ++ [x], (inrTo bs k).vals, (inrTo bs k).kids ++ [d]⟩) := by show _ = _; rw [inrTo_next hy (by omega)]; rfl
    obtain ⟨⟨E0, E1, E2, E3⟩, EF⟩ := cells4 IV.box
    have V0 := cellN DV (i := 0) rfl
    obtain ⟨T, hT, DT, bT, sT⟩ := boxedN V #[st x] 9
    have IT := IV.to bT
    have T0 := cellN DT (i := 0) rfl
    have DT' := (bT.block _ (lt_of_block DV)).trans DV
    have OT := IT.keys
    have hBT : w.heap.size + 1 + 1 ≤ T.heap.size := IT.hs
    have hn8 : ((inrTo bs k).keys.length + 1) * 16 ≤ 140737488355328 := by have := (inrTo_len bs k).1; have := hK.out; omega
    obtain ⟨ka, kc, hkv⟩ := IT.keys.rd.slice
    subst hkv
    have FIN : Hid (∀ g5 cap5 w5, OwnT (w.heap.size + 1 + 1) w5 (.slice (some ⟨g5, 0, none⟩) ((inrTo bs k).keys.length + 1) cap5) ((inrTo bs k).keys ++ [x]) → T.grownBy w5 (Value.slice ka (inrTo bs k).keys.length kc).ownBlock →
      w5.cell? ⟨w.heap.size + 1, 1, none⟩ = some (.slice ka (inrTo bs k).keys.length kc) ∧ w5.frozen? ⟨w.heap.size + 1, 1, none⟩ = false ∧ Hid (∃ kv, ISt X (w.heap.size + 1) (w5.setCell ⟨w.heap.size + 1, 1, none⟩ (.slice (some ⟨g5, 0, none⟩) ((inrTo bs k).keys.length + 1) cap5)) kv dv ⟨(inrTo bs k).leaf, (inrTo bs k).keys ++ [x], (inrTo bs k).vals, (inrTo bs k).kids⟩ ∧
       (w5.setCell ⟨w.heap.size + 1, 1, none⟩ (.slice (some ⟨g5, 0, none⟩) ((inrTo bs k).keys.length + 1) cap5)).cell? ⟨wr.heap.size, 1, none⟩ = some (.int .i64 d))) := fun g5 cap5 w5 o5 r5 => by
     have bx5 := KeepT.grown IT.keys r5 (show 76 ≠ 9 by decide) _ _ _ IT.box
     have br5 := KeepT.grown IT.keys r5 (show 133 ≠ 9 by decide) _ _ _ DT'
     obtain ⟨⟨F0, F1, F2, F3⟩, FF⟩ := cells4 bx5
     have I5 := IT.key o5 r5
     refine ⟨F1, FF 1, _, I5, cellN ((Below.heap_setCell _ _ _ _ (show wr.heap.size ≠ w.heap.size + 1 from ?_)).trans br5) rfl⟩
     have := I1.hs
     omega
    rw [sV] at T0
    rw [hV] at E0 E1 E2 E3 EF V0
    rw [hT, hV] at T0 OT hBT FIN
    replace h0 := hide h0
    clear IT DT bT IV DV DV' DT'
    go_upto_region 7 with (at_builtin; refine wpList_appS rfl _ _ rfl (w.heap.size + 1 + 1) _ _ x (wr.heap.size + 1) rfl rfl OT T0 hn8 hBT ?_; intro g5 cap5 w5 o5 r5 l5; obtain ⟨F1, F2, F3⟩ := FIN.out g5 cap5 w5 o5 r5; clear o5 r5 l5)
    obtain ⟨kv5, IY, Y1⟩ := F3.out
    obtain ⟨Y, hY⟩ : ∃ Y, Y = w5.setCell ⟨w.heap.size + 1, 1, none⟩ (.slice (some ⟨g5, 0, none⟩) ((inrTo bs k).keys.length + 1) cap5) := ⟨_, rfl⟩
    rw [← hY] at IY Y1 ⊢
    replace hV := hide hV
    clear E0 E1 E2 E3 EF V0 T0 OT hBT FIN I1 c1 c2 hY F1 F2 F3 hT hn8
    -- the kid is appended
    obtain ⟨⟨E0, E1, E2, E3⟩, EF⟩ := cells4 IY.box
    obtain ⟨T, hT, DT, bT, sT⟩ := boxedN Y #[.int .i64 d] 3
    have IT := IY.to bT
    have T0 := cellN DT (i := 0) rfl
    have OT := IT.kids
    have hBT : w.heap.size + 1 + 1 ≤ T.heap.size := IT.hs
    obtain ⟨da, dc, hdv⟩ := IT.kids.rd.slice
    subst hdv
    have FIN : Hid (∀ g5 cap5 w5, OwnJ (w.heap.size + 1 + 1) w5 (.slice (some ⟨g5, 0, none⟩) ((⟨(inrTo bs k).leaf, (inrTo bs k).keys ++ [x], (inrTo bs k).vals, (inrTo bs k).kids⟩ : Nd).kids.length + 1) cap5) ((⟨(inrTo bs k).leaf, (inrTo bs k).keys ++ [x], (inrTo bs k).vals, (inrTo bs k).kids⟩ : Nd).kids ++ [d]) → T.grownBy w5 (Value.slice da (⟨(inrTo bs k).leaf, (inrTo bs k).keys ++ [x], (inrTo bs k).vals, (inrTo bs k).kids⟩ : Nd).kids.length dc).ownBlock →
      w5.cell? ⟨w.heap.size + 1, 3, none⟩ = some (.slice da (⟨(inrTo bs k).leaf, (inrTo bs k).keys ++ [x], (inrTo bs k).vals, (inrTo bs k).kids⟩ : Nd).kids.length dc) ∧ w5.frozen? ⟨w.heap.size + 1, 3, none⟩ = false ∧ Hid (∃ kv dv, ISt X (w.heap.size + 1) (w5.setCell ⟨w.heap.size + 1, 3, none⟩ (.slice (some ⟨g5, 0, none⟩) ((⟨(inrTo bs k).leaf, (inrTo bs k).keys ++ [x], (inrTo bs k).vals, (inrTo bs k).kids⟩ : Nd).kids.length + 1) cap5)) kv dv (inrTo bs (k + 1)))) := fun g5 cap5 w5 o5 r5 => by
     have bx5 := KeepT.grown IT.kids r5 (show 76 ≠ 3 by decide) _ _ _ IT.box
     obtain ⟨⟨F0, F1, F2, F3⟩, FF⟩ := cells4 bx5
     have I5 := IT.kid o5 r5
     exact ⟨F3, FF 3, hide ⟨_, _, Eq.mp (congrArg (ISt X (w.heap.size + 1) _ _ _) hres.out.symm) I5⟩⟩
    rw [hT] at T0 OT hBT FIN
    clear IT DT bT IY
    go_wp2_with (at_builtin; refine wpList_appI rfl _ _ rfl (w.heap.size + 1 + 1) _ _ d Y.heap.size rfl rfl OT T0 hn9.out hBT ?_; intro g5 cap5 w5 o5 r5; obtain ⟨F1, F2, F3⟩ := FIN.out g5 cap5 w5 o5 r5; clear o5 r5)
    go_roundw
    case rel => exact ⟨k + 1, by omega, by go_num, F3⟩
    case measure => simp [intOf]; omega
  ·have hq : ¬ (k : Int) < (K : Int) := by omega
   obtain rfl : k = K := by omega
   rw [← hK.out, inrTo_all] at I1
   have R6 := (I1.bel.block _ (show w.heap.size < w.heap.size + 1 by omega)).trans HR.out
   obtain ⟨⟨E0, E1, E2, E3⟩, EF⟩ := cells4 I1.box
   obtain ⟨⟨J0, J1, J2, J3⟩, JF⟩ := cells4 R6
   have HR7 := hide R6
   obtain ⟨ka, kc, hkv⟩ := I1.keys.rd.slice
   obtain ⟨da, dc, hdv⟩ := I1.kids.rd.slice
   subst hkv hdv
   have k1 : ∀ e, e ≠ 76 → KeepT e wr (S4 w.heap.size wr (.bool false) (.slice ka (inr bs).keys.length kc) (.slice none 0 0) (.slice da (inr bs).kids.length dc)) := fun e he => s4_keep R6 _ _ _ _ he
   have OO : Hid (OwnN w.heap.size (S4 w.heap.size wr (.bool false) (.slice ka (inr bs).keys.length kc) (.slice none 0 0) (.slice da (inr bs).kids.length dc)) (.slice ka (inr bs).keys.length kc) (.slice none 0 0) (.slice da (inr bs).kids.length dc) (inr bs)) :=
    ⟨rows_mono (rows_keepT I1.keys (k1 _ (by decide))) (by omega), World.ownsRow_nil _ _ _ _, rows_mono (rows_keepT I1.kids (k1 _ (by decide))) (by omega)⟩
   have bw1 : Below w.heap.size w wr := HB.out.trans (I1.bel.mono (by omega))
   have BB := hide (below_set4n bw1 (Nat.le_refl _) (.bool false) (.slice ka (inr bs).keys.length kc) (.slice none 0 0) (.slice da (inr bs).kids.length dc))
   clear I1 R6 k1 bw1 hI
   go_wp2
   refine retN rfl rfl w.heap.size rfl _ _ (0, 0) (heap_set4 HR7.out _ _ _ _) _ Tryz.underlying76 rfl info_nd10 ?_
   exact ⟨_, _, rfl, OO.out, BB.out⟩
end Go.Proofs.YtgmkknonnidgaaaGreat

namespace Go.Proofs.YtgmkknonnidgaaaGreat
def pgs : Int → List Nd → List Wrt
 | _, [] => []
 | z, n :: r => (z, nenc n) :: pgs (z + 1) r
theorem pgs_len : ∀ (z : Int) (ad : List Nd), (pgs z ad).length = ad.length
 | _, [] => rfl
 | z, n :: r => by simp [pgs, pgs_len (z + 1) r]
theorem pgs_app : ∀ (z : Int) (a b : List Nd), pgs z (a ++ b) = pgs z a ++ pgs (z + a.length) b
 | z, [], b => by simp [pgs]
 | z, n :: a, b => by
  simp only [List.cons_append, pgs, List.length_cons]
  rw [pgs_app (z + 1) a b]
  congr 3
  push_cast
  omega
theorem tpage_app (b : List Wrt) (id : Int) : ∀ a : List Wrt, tpage (a ++ b) id = match tpage a id with | some x => some x | none => tpage b id
 | [] => rfl
 | y :: a => by
  simp only [List.cons_append, tpage]
  split
  ·rfl
  ·exact tpage_app b id a
theorem tpage_pgs_at : ∀ {z : Int} {ad : List Nd} {i : Nat} {n : Nd}, ad[i]? = some n → tpage (pgs z ad) (z + i) = some (nenc n)
 | z, [], i, n, h => by simp at h
 | z, m :: r, 0, n, h => by
  have : m = n := by simpa using h
  subst this
  simp [pgs, tpage]
 | z, m :: r, i + 1, n, h => by
  have ih := tpage_pgs_at (z := z + 1) (ad := r) (i := i) (n := n) (by simpa using h)
  simp only [pgs, tpage]
  rw [if_neg (by push_cast; omega), show z + ((i + 1 : Nat) : Int) = z + 1 + (i : Int) by push_cast; omega]
  exact ih
abbrev lp (l : List Wrt) (next : Int) (ad : List Nd) : List Wrt := l ++ pgs next ad
theorem ext_app (a b : List Wrt) : Ext a (a ++ b) := fun id x h => by rw [tpage_app, h]
theorem ext_more (l : List Wrt) (next : Int) (ad more : List Nd) : Ext (lp l next ad) (lp l next (ad ++ more)) := by
 rw [lp, lp, pgs_app, ← List.append_assoc]
 exact ext_app _ _
theorem new_is {l : List Wrt} {next : Int} {ad more : List Nd} {n : Nd} (hnl : ∀ id x, tpage l id = some x → id < next) (hok : NOk n) : NdIs (lp l next (ad ++ n :: more)) (next + ad.length) n := by
 refine ⟨nenc n, ?_, ndec_enc hok⟩
 rw [tpage_app]
 cases h : tpage l (next + (ad.length : Int)) with
 | some x => have := hnl _ _ h; omega
 | none => exact tpage_pgs_at (by simp)
def NO (l : List Wrt) : Nat → Nd → Str → Option Str → Prop
 | 0, n, lo, hi => ∃ ps, n = lf ps ∧ PrOk ps ∧ ∀ y ∈ ps, kin lo hi y.1 = true
 | d + 1, n, lo, hi => ∃ bs, n = inr bs ∧ BrOk bs ∧ Seg l d lo hi bs
def nP (l : List Wrt) : Nat → Nd → List Pr
 | 0, n => npr n
 | d + 1, n => n.kids.flatMap (pOf l d)
def nI (l : List Wrt) : Nat → Nd → List Int
 | 0, _ => []
 | d + 1, n => n.kids.flatMap (idsOf l d)
def Lim : Nat → Int
 | 0 => 342
 | _ + 1 => 281
theorem NO.ext {l l' : List Wrt} (h : Ext l l') {d : Nat} {n : Nd} {lo : Str} {hi : Option Str} (k : NO l d n lo hi) : NO l' d n lo hi ∧ nP l' d n = nP l d n ∧ nI l' d n = nI l d n := by
 cases d with
 | zero => exact ⟨k, rfl, rfl⟩
 | succ d =>
  obtain ⟨bs, rfl, h1, h2⟩ := k
  have hs := seg_ext h h2.each
  refine ⟨⟨bs, rfl, h1, h2.ext h⟩, ?_, ?_⟩
  ·rw [nP, nP, sprs_inr, sprs_inr]; exact hs.1
  ·rw [nI, nI, sids_inr, sids_inr]; exact hs.2
theorem tok_no {l : List Wrt} {d : Nat} {id : Int} {lo : Str} {hi : Option Str} (h : TOk l d id lo hi) : ∃ nd, NdIs l id nd ∧ NO l d nd lo hi ∧ idsOf l d id = id :: nI l d nd ∧ pOf l d id = nP l d nd := by
 cases d with
 | zero =>
  obtain ⟨nd, hN, h1, h2, h3⟩ := h
  obtain ⟨e, hp⟩ := lf_to hN.ok h1
  refine ⟨nd, hN, ⟨_, e, hp, fun y hy => List.all_eq_true.1 h3 _ (List.of_mem_zip hy).1⟩, rfl, by rw [pOf, hN.at]; rfl⟩
 | succ d =>
  obtain ⟨nd, hN, h1, h2, h3, h4⟩ := tok_seg h
  obtain ⟨e, hb, _⟩ := inr_to hN.ok h1
  refine ⟨nd, hN, ⟨_, e, hb, h2⟩, ?_, ?_⟩
  ·rw [h3, nI]
   conv => rhs; rw [e]
   rw [sids_inr]
  ·rw [h4, nP]
   conv => rhs; rw [e]
   rw [sprs_inr]
theorem no_tok {l : List Wrt} {d : Nat} {id : Int} {n : Nd} {lo : Str} {hi : Option Str} (h : NO l d n lo hi) (hN : NdIs l id n) (h0 : n.keys ≠ []) : TOk l d id lo hi ∧ idsOf l d id = id :: nI l d n ∧ pOf l d id = nP l d n := by
 cases d with
 | zero =>
  obtain ⟨ps, rfl, h1, h2⟩ := h
  obtain ⟨a, b, c⟩ := lf_tok hN (fun e => h0 (by subst e; rfl)) h2
  exact ⟨a, b, by rw [c, nP, npr_lf]⟩
 | succ d =>
  obtain ⟨bs, rfl, h1, h2⟩ := h
  obtain ⟨a, b, c⟩ := seg_tok hN h2
  exact ⟨a, by rw [b, nI, sids_inr], by rw [c, nP, sprs_inr]⟩
theorem NO.ok {l : List Wrt} {d : Nat} {n : Nd} {lo : Str} {hi : Option Str} (h : NO l d n lo hi) (h0 : n.keys ≠ []) (hs : nsize n ≤ 244) : NOk n := by
 cases d with
 | zero =>
  obtain ⟨ps, rfl, h1, h2⟩ := h
  exact lf_ok h1 hs
 | succ d =>
  obtain ⟨bs, rfl, h1, h2⟩ := h
  exact inr_ok h2.keys.1 h1 (fun e => h0 (by unfold inr; rw [e]; rfl)) hs
theorem NO.leaf {l : List Wrt} {d : Nat} {n : Nd} {lo : Str} {hi : Option Str} (h : NO l d n lo hi) : n.leaf = decide (d = 0) := by
 cases d with
 | zero => obtain ⟨ps, rfl, _⟩ := h; rfl
 | succ d => obtain ⟨ps, rfl, _⟩ := h; rfl
theorem TOk.there {l : List Wrt} {next : Int} (hnl : ∀ id x, tpage l id = some x → id < next) : ∀ {d : Nat} {id : Int} {lo : Str} {hi : Option Str}, TOk l d id lo hi → ∀ i ∈ idsOf l d id, i < next
 | 0, id, lo, hi, ⟨nd, ⟨x, hx, _⟩, _⟩, i, hi9 => by
  have : i = id := by simpa [idsOf] using hi9
  subst this; exact hnl _ _ hx
 | d + 1, id, lo, hi, ⟨nd, hN, h1, h2, h3⟩, i, hi9 => by
  rw [idsOf, hN.at] at hi9
  rcases List.mem_cons.1 hi9 with rfl | hi9
  ·obtain ⟨x, hx, _⟩ := hN; exact hnl _ _ hx
  ·obtain ⟨kid, hk, hi9⟩ := List.mem_flatMap.1 hi9
   obtain ⟨j, hj⟩ := mem_at hk
   exact TOk.there hnl (h3 j kid hj) i hi9
theorem Seg.there {l : List Wrt} {next : Int} (hnl : ∀ id x, tpage l id = some x → id < next) {d : Nat} {lo : Str} {hi : Option Str} {bs : List Br} (h : Seg l d lo hi bs) : ∀ i ∈ sids l d bs, i < next := by
 intro i hi9
 obtain ⟨b, hb, hi9⟩ := List.mem_flatMap.1 hi9
 obtain ⟨_, _, q⟩ := h.each b hb
 exact q.there hnl i hi9
def laidOf (next : Int) (ad : List Nd) (n : Nd) (ahead : Str) : List Br × List Nd :=
 if n.keys.length = 0 then ([], ad)
 else if nsize n ≤ 244 then ([(ahead, next + (ad.length : Int))], ad ++ [n])
 else ([(ahead, next + (ad.length : Int)), (n.keys.getD (midOf n) [], next + (ad.length : Int) + 1)], ad ++ [cutL n (midOf n), cutR n (midOf n)])
structure Laid (l : List Wrt) (next : Int) (ad ad' : List Nd) (d : Nat) (n : Nd) (ahead lo : Str) (hi : Option Str) (bs : List Br) : Prop where
 more : ∃ more, ad' = ad ++ more ∧ more.length ≤ 2 ∧ ∀ x ∈ more, NOk x
 prs : sprs (lp l next ad') d bs = nP (lp l next ad) d n
 nod : (sids (lp l next ad') d bs).Nodup
 ids : ∀ i ∈ sids (lp l next ad') d bs, i ∈ nI (lp l next ad) d n ∨ (next + (ad.length : Int) ≤ i ∧ i < next + (ad'.length : Int))
 seg : (bs = [] ∧ n.keys = []) ∨ (∃ k r, bs = (ahead, k) :: r ∧ Seg (lp l next ad') d lo hi bs)
 br : BrOk bs
 len : bs.length ≤ 2
theorem laid_len (next : Int) (ad : List Nd) (n : Nd) (ahead : Str) : ad.length ≤ (laidOf next ad n ahead).2.length ∧ (laidOf next ad n ahead).2.length ≤ ad.length + 2 := by
 unfold laidOf
 split
 ·exact ⟨Nat.le_refl _, Nat.le_add_right _ _⟩
 ·split <;> simp
theorem nodup_two {a b : Int} {x y : List Int} (h : (x ++ y).Nodup) (hab : a ≠ b) (ha : a ∉ x ++ y) (hb : b ∉ x ++ y) : ((a :: x) ++ (b :: y)).Nodup := by
 rw [List.nodup_append] at h ⊢
 simp only [List.mem_append, not_or] at ha hb
 refine ⟨List.nodup_cons.2 ⟨ha.1, h.1⟩, List.nodup_cons.2 ⟨hb.2, h.2.1⟩, fun p hp q hq e => ?_⟩
 subst e
 rcases List.mem_cons.1 hp with rfl | hp <;> rcases List.mem_cons.1 hq with h9 | hq
 ·exact hab h9
 ·exact ha.2 hq
 ·subst h9; exact hb.1 hp
 ·exact h.2.2 p hp p hq rfl
theorem laid_ok {l : List Wrt} {next : Int} {ad : List Nd} {d : Nat} {n : Nd} {ahead lo : Str} {hi : Option Str} (hnl : ∀ id x, tpage l id = some x → id < next) (hn1 : 1 ≤ next) (hN : NO (lp l next ad) d n lo hi) (hL : nsize n ≤ Lim d) (hnod : (nI (lp l next ad) d n).Nodup)
  (hold : ∀ i ∈ nI (lp l next ad) d n, i < next + (ad.length : Int)) (hM : next + ((laidOf next ad n ahead).2.length : Int) ≤ 65536) (hnb : n.leaf = true ∨ n.keys ≠ []) :
  Laid l next ad (laidOf next ad n ahead).2 d n ahead lo hi (laidOf next ad n ahead).1 := by
 unfold laidOf at hM ⊢
 by_cases h0 : n.keys.length = 0
 ·rw [if_pos h0] at hM ⊢
  have hk : n.keys = [] := List.eq_nil_of_length_eq_zero h0
  have hl : n.leaf = true := by
   rcases hnb with h | h
   ·exact h
   ·exact absurd hk h
  have hd : d = 0 := by have := hN.leaf; rw [hl] at this; simpa using this.symm
  subst hd
  refine ⟨⟨[], by simp, by simp, fun x hx => by cases hx⟩, ?_, by simp [sids], fun i hi => by simp [sids] at hi, .inl ⟨rfl, hk⟩, ⟨(fun b hb => by cases hb), (fun b hb => by cases hb)⟩, by simp⟩
  show sprs _ _ [] = npr n
  rw [npr, hk]; rfl
 ·rw [if_neg h0] at hM ⊢
  have hk : n.keys ≠ [] := fun e => h0 (by rw [e]; rfl)
  by_cases h1 : nsize n ≤ 244
  ·rw [if_pos h1] at hM ⊢
   dsimp only at hM ⊢
   have hok := hN.ok hk h1
   obtain ⟨hN2, e1, e2⟩ := hN.ext (ext_more l next ad [n])
   have his : NdIs (lp l next (ad ++ [n])) (next + ad.length) n := new_is hnl hok
   obtain ⟨t1, t2, t3⟩ := no_tok hN2 his hk
   have hM' : next + ((ad.length : Int) + 1) ≤ 65536 := by simpa using hM
   refine ⟨⟨[n], rfl, by simp, fun x hx => by simp at hx; subst hx; exact hok⟩, ?_, ?_, ?_, .inr ⟨_, [], rfl, t1⟩, ⟨(fun b hb => by cases hb), fun b hb => ?_⟩, by simp⟩
   ·simp only [sprs, List.flatMap_cons, List.flatMap_nil, List.append_nil]
    rw [t3, e1]
   ·simp only [sids, List.flatMap_cons, List.flatMap_nil, List.append_nil]
    rw [t2, e2, List.nodup_cons]
    exact ⟨fun h => by have := hold _ h; omega, hnod⟩
   ·intro i hi9
    simp only [sids, List.flatMap_cons, List.flatMap_nil, List.append_nil] at hi9
    rw [t2, e2] at hi9
    rcases List.mem_cons.1 hi9 with rfl | hi9
    ·exact .inr ⟨Int.le_refl _, by simp; omega⟩
    ·exact .inl hi9
   ·simp only [List.mem_singleton] at hb
    subst hb
    show 1 ≤ next + (ad.length : Int) ∧ next + (ad.length : Int) ≤ 65536
    omega
  ·rw [if_neg h1] at hM ⊢
   dsimp only at hM ⊢
   have hM' : next + ((ad.length : Int) + 2) ≤ 65536 := by simpa using hM
   have e9 : ad ++ [cutL n (midOf n), cutR n (midOf n)] = (ad ++ [cutL n (midOf n)]) ++ [cutR n (midOf n)] := by simp
   have e8 : (next + (ad.length : Int) + 1) = next + ((ad ++ [cutL n (midOf n)]).length : Int) := by simp; omega
   cases d with
   | zero =>
    obtain ⟨ps, rfl, hp, hin⟩ := hN
    have hw : ∀ y ∈ ps, pw y ≤ 98 := fun y hy => by have := hp.2 y hy; unfold pw; omega
    obtain ⟨m1, m2, m3, m4⟩ := leaf_cut hw (by omega) hL
    obtain ⟨m, hm⟩ : ∃ m, m = midOf (lf ps) := ⟨_, rfl⟩
    rw [← hm] at m1 m2 m3 m4 e9 e8 ⊢
    rw [cutL_lf, cutR_lf] at e9 ⊢
    rw [cutL_lf] at e8
    have hr := hp.1
    have eps : ps.take m ++ ps.drop m = ps := List.take_append_drop m ps
    have hr2 := hr
    rw [← eps, List.map_append] at hr2
    obtain ⟨r1, r2, r3⟩ := List.pairwise_append.1 hr2
    have hgk : (lf ps).keys.getD m [] = ps[m].1 := by simp [lf, m2]
    rw [hgk]
    have hdr : ps.drop m = ps[m] :: ps.drop (m + 1) := List.drop_eq_getElem_cons m2
    have okL : NOk (lf (ps.take m)) := lf_ok ⟨r1, fun y hy => hp.2 y (List.mem_of_mem_take hy)⟩ m3
    have okR : NOk (lf (ps.drop m)) := lf_ok ⟨r2, fun y hy => hp.2 y (List.mem_of_mem_drop hy)⟩ m4
    have isL : NdIs (lp l next (ad ++ [lf (ps.take m), lf (ps.drop m)])) (next + ad.length) (lf (ps.take m)) := new_is hnl okL
    have isR : NdIs (lp l next (ad ++ [lf (ps.take m), lf (ps.drop m)])) (next + (ad.length : Int) + 1) (lf (ps.drop m)) := by rw [e9, e8]; exact new_is hnl okR
    have hmm : ps[m].1 ∈ (ps.drop m).map (·.1) := List.mem_map.2 ⟨ps[m], by rw [hdr]; exact List.mem_cons_self .., rfl⟩
    obtain ⟨a1, a2, a3⟩ := lf_tok (lo := lo) (hi := some ps[m].1) isL (fun e => by have := congrArg List.length e; simp only [List.length_take, List.length_nil] at this; omega) (fun y hy => by
     have h8 := hin y (List.mem_of_mem_take hy)
     simp only [Go.Proofs.YtgmkknonnidgaaaGreat.kin, Bool.and_eq_true, Bool.not_eq_true'] at h8 ⊢
     exact ⟨h8.1, r3 y.1 (List.mem_map.2 ⟨y, hy, rfl⟩) _ hmm⟩)
    obtain ⟨b1, b2, b3⟩ := lf_tok (lo := ps[m].1) (hi := hi) isR (fun e => by have := congrArg List.length e; simp only [List.length_drop, List.length_nil] at this; omega) (fun y hy => by
     have h8 := hin y (List.mem_of_mem_drop hy)
     simp only [Go.Proofs.YtgmkknonnidgaaaGreat.kin, Bool.and_eq_true, Bool.not_eq_true'] at h8 ⊢
     refine ⟨?_, h8.2⟩
     rw [hdr] at hy r2
     rcases List.mem_cons.1 hy with rfl | hy
     ·exact slt_irr _
     ·rw [List.map_cons] at r2
      exact slt_asym ((List.pairwise_cons.1 r2).1 y.1 (List.mem_map.2 ⟨y, hy, rfl⟩)))
    refine ⟨⟨_, rfl, by simp, fun x hx => ?_⟩, ?_, ?_, ?_, .inr ⟨_, _, rfl, a1, b1⟩, ⟨fun b hb => ?_, fun b hb => ?_⟩, by simp⟩
    ·simp at hx; rcases hx with rfl | rfl
     ·exact okL
     ·exact okR
    ·simp only [sprs, List.flatMap_cons, List.flatMap_nil, List.append_nil]
     rw [a3, b3, eps, nP, npr_lf]
    ·simp only [sids, List.flatMap_cons, List.flatMap_nil, List.append_nil]
     rw [a2, b2]
     refine List.nodup_append.2 ⟨by simp, by simp, fun a ha b hb e => ?_⟩
     simp only [List.mem_singleton] at ha hb
     omega
    ·intro i hi9
     simp only [sids, List.flatMap_cons, List.flatMap_nil, List.append_nil] at hi9
     rw [a2, b2] at hi9
     refine .inr ?_
     simp at hi9 ⊢
     omega
    ·simp only [List.tail_cons, List.mem_singleton] at hb
     subst hb
     exact (hp.2 ps[m] (List.getElem_mem m2)).1
    ·simp only [List.mem_cons, List.not_mem_nil, or_false] at hb
     rcases hb with rfl | rfl
     ·show 1 ≤ next + (ad.length : Int) ∧ next + (ad.length : Int) ≤ 65536
      omega
     ·show 1 ≤ next + (ad.length : Int) + 1 ∧ next + (ad.length : Int) + 1 ≤ 65536
      omega
   | succ d =>
    have hNe := hN.ext (ext_more l next ad [cutL n (midOf n), cutR n (midOf n)])
    obtain ⟨bs, rfl, hb, hsg⟩ := hN
    cases bs with
    | nil => exact hsg.elim
    | cons b0 r =>
     have hw : ∀ y ∈ r, bw y ≤ 37 := fun y hy => by have := hb.1 y (by simpa using hy); unfold bw; omega
     obtain ⟨m1, m2, m3, m4⟩ := inr_cut hw (by omega) hL
     obtain ⟨m, hm⟩ : ∃ m, m = midOf (inr (b0 :: r)) := ⟨_, rfl⟩
     rw [← hm] at m1 m2 m3 m4 e9 e8 hNe ⊢
     rw [cutL_inr, cutR_inr] at e9 hNe ⊢
     rw [cutL_inr] at e8
     have hml : m < r.length := by omega
     have hgk : (inr (b0 :: r)).keys.getD m [] = r[m].1 := by simp [inr, hml]
     rw [hgk]
     have hdr : r.drop m = r[m] :: r.drop (m + 1) := List.drop_eq_getElem_cons hml
     have eb : b0 :: r = (b0 :: r.take m) ++ r[m] :: r.drop (m + 1) := by rw [List.cons_append, ← hdr, List.take_append_drop]
     obtain ⟨L2, hL2⟩ : ∃ L, L = lp l next (ad ++ [inr (b0 :: r.take m), inr (r.drop m)]) := ⟨_, rfl⟩
     rw [← hL2] at hNe
     obtain ⟨⟨bs', ebs, _, sg2⟩, e1, e2⟩ := hNe
     have sg : Seg L2 d lo hi (b0 :: r) := by rw [hL2]; exact hsg.ext (ext_more l next ad _)
     have sgk := sg.keys.1
     rw [eb, seg_app (by simp)] at sg
     have kr : Rise (r.map (·.1)) := sgk
     rw [← List.take_append_drop m r, List.map_append] at kr
     obtain ⟨r1, r2, r3⟩ := List.pairwise_append.1 kr
     have okL : NOk (inr (b0 :: r.take m)) := inr_ok r1 ⟨fun b h9 => hb.1 b (List.mem_of_mem_take h9), fun b h9 => hb.2 b (by rcases List.mem_cons.1 h9 with rfl | h9; exact List.mem_cons_self ..; exact List.mem_cons_of_mem _ (List.mem_of_mem_take h9))⟩ (fun e => by have := congrArg List.length e; simp only [List.tail_cons, List.length_take, List.length_nil] at this; omega) m3
     have okR : NOk (inr (r.drop m)) := by
      refine inr_ok ?_ ⟨fun b h9 => hb.1 b (List.mem_of_mem_drop (List.mem_of_mem_tail h9)), fun b h9 => hb.2 b (List.mem_cons_of_mem _ (List.mem_of_mem_drop h9))⟩ (fun e => by have := congrArg List.length e; simp only [List.length_tail, List.length_drop, List.length_nil] at this; omega) m4
      rw [hdr, List.map_cons] at r2
      rw [hdr]
      exact (List.pairwise_cons.1 r2).2
     have isL : NdIs L2 (next + ad.length) (inr (b0 :: r.take m)) := by rw [hL2]; exact new_is hnl okL
     have isR : NdIs L2 (next + (ad.length : Int) + 1) (inr (r.drop m)) := by rw [hL2, e9, e8]; exact new_is hnl okR
     obtain ⟨a1, a2, a3⟩ := seg_tok isL sg.1
     rw [← hdr] at sg
     obtain ⟨b1, b2, b3⟩ := seg_tok isR sg.2
     have es : sids L2 d (b0 :: r.take m) ++ sids L2 d (r.drop m) = nI (lp l next ad) (d + 1) (inr (b0 :: r)) := by
      rw [← sids_app, List.cons_append, List.take_append_drop, ← e2, nI, sids_inr]
     have ep : sprs L2 d (b0 :: r.take m) ++ sprs L2 d (r.drop m) = nP (lp l next ad) (d + 1) (inr (b0 :: r)) := by
      rw [← sprs_app, List.cons_append, List.take_append_drop, ← e1, nP, sprs_inr]
     refine ⟨⟨_, rfl, by simp, fun x hx => ?_⟩, ?_, ?_, ?_, .inr ⟨_, _, rfl, ?_⟩, ⟨fun b h9 => ?_, fun b h9 => ?_⟩, by simp⟩
     ·simp at hx; rcases hx with rfl | rfl
      ·exact okL
      ·exact okR
     ·rw [← hL2]
      simp only [sprs, List.flatMap_cons, List.flatMap_nil, List.append_nil]
      rw [a3, b3, ep]
     ·rw [← hL2]
      simp only [sids, List.flatMap_cons, List.flatMap_nil, List.append_nil]
      rw [a2, b2]
      rw [← es] at hnod hold
      exact nodup_two hnod (by omega) (fun h => by have := hold _ h; omega) (fun h => by have := hold _ h; omega)
     ·rw [← hL2]
      intro i hi9
      simp only [sids, List.flatMap_cons, List.flatMap_nil, List.append_nil] at hi9
      rw [a2, b2] at hi9
      rw [← es]
      simp only [List.cons_append, List.mem_cons, List.mem_append] at hi9
      rcases hi9 with rfl | hi9 | rfl | hi9
      ·exact .inr ⟨Int.le_refl _, by simp; omega⟩
      ·exact .inl (List.mem_append_left _ hi9)
      ·exact .inr ⟨by omega, by simp; omega⟩
      ·exact .inl (List.mem_append_right _ hi9)
     ·rw [← hL2]; exact ⟨a1, b1⟩
     ·simp only [List.tail_cons, List.mem_singleton] at h9
      subst h9
      exact hb.1 r[m] (by simp)
     ·simp only [List.mem_cons, List.not_mem_nil, or_false] at h9
      rcases h9 with rfl | rfl
      ·show 1 ≤ next + (ad.length : Int) ∧ next + (ad.length : Int) ≤ 65536
       omega
      ·show 1 ≤ next + (ad.length : Int) + 1 ∧ next + (ad.length : Int) + 1 ≤ 65536
       omega
end Go.Proofs.YtgmkknonnidgaaaGreat

namespace Go.Proofs.YtgmkknonnidgaaaGreat
def loY (P : List Br) (a lo : Str) : Str := if P = [] then lo else a
def hiS : List Br → Option Str → Option Str
 | [], hi => hi
 | c :: _, _ => some c.1
theorem seg3 {l : List Wrt} {d : Nat} {lo : Str} {hi : Option Str} {P S Y : List Br} {y : Br} :
  Seg l d lo hi (P ++ (y :: Y) ++ S) ↔ (P = [] ∨ Seg l d lo (some y.1) P) ∧ Seg l d (loY P y.1 lo) (hiS S hi) (y :: Y) ∧ (S = [] ∨ ∃ c r, S = c :: r ∧ Seg l d c.1 hi S) := by
 cases P with
 | nil =>
  simp only [List.nil_append, loY, if_true, true_or, true_and]
  cases S with
  | nil => simp [hiS]
  | cons c r =>
   rw [seg_app (by simp)]
   constructor
   ·rintro ⟨h1, h2⟩; exact ⟨h1, .inr ⟨c, r, rfl, h2⟩⟩
   ·rintro ⟨h1, h2 | ⟨c', r', e, h2⟩⟩
    ·cases h2
    ·cases e; exact ⟨h1, h2⟩
 | cons p P =>
  have e : loY (p :: P) y.1 lo = y.1 := by simp [loY]
  rw [e, List.append_assoc, List.cons_append (a := y), seg_app (by simp)]
  have hp : (p :: P = [] ∨ Seg l d lo (some y.1) (p :: P)) ↔ Seg l d lo (some y.1) (p :: P) := by simp
  rw [hp]
  refine and_congr_right fun _ => ?_
  cases S with
  | nil => simp [hiS]
  | cons c r =>
   rw [← List.cons_append, seg_app (by simp)]
   constructor
   ·rintro ⟨h1, h2⟩; exact ⟨h1, .inr ⟨c, r, rfl, h2⟩⟩
   ·rintro ⟨h1, h2 | ⟨c', r', e, h2⟩⟩
    ·cases h2
    ·cases e; exact ⟨h1, h2⟩
theorem wide_hi {l : List Wrt} {d : Nat} {a : Str} {hi : Option Str} {Y : List Br} (h : Seg l d a hi Y) (lo : Str) : Wide lo (some a) lo hi := by
 refine ⟨slt_irr _, ?_⟩
 cases hi with
 | none => trivial
 | some b => exact slt_asym h.room
theorem seg_gone {l : List Wrt} {d : Nat} {lo : Str} {hi : Option Str} {P S Y : List Br} {y : Br} (h : Seg l d lo hi (P ++ (y :: Y) ++ S)) (h0 : P ++ S ≠ []) : Seg l d lo hi (P ++ S) := by
 obtain ⟨h1, h2, h3⟩ := seg3.1 h
 cases P with
 | nil =>
  cases S with
  | nil => simp at h0
  | cons c r =>
   rcases h3 with h3 | ⟨c', r', e, h3⟩
   ·cases h3
   ·cases e
    simp only [loY, if_true, hiS] at h2
    exact h3.lo (slt_asym h2.room)
 | cons p P =>
  have e : loY (p :: P) y.1 lo = y.1 := by simp [loY]
  rw [e] at h2
  have hP : Seg l d lo (some y.1) (p :: P) := by
   rcases h1 with h1 | h1
   ·cases h1
   ·exact h1
  cases S with
  | nil => rw [List.append_nil]; exact hP.hi (fun lo => wide_hi h2 lo)
  | cons c r =>
   rcases h3 with h3 | ⟨c', r', e, h3⟩
   ·cases h3
   ·cases e
    rw [seg_app (by simp)]
    exact ⟨hP.hi (fun lo => wide_hi h2 lo), h3⟩
def tw (bs : List Br) : Nat := (bs.map bw).sum
theorem tw_app (a b : List Br) : tw (a ++ b) = tw a + tw b := by simp [tw]
theorem tw_le {bs : List Br} (h : ∀ b ∈ bs, b.1.length ≤ 32) : tw bs ≤ 37 * bs.length := by
 induction bs with
 | nil => simp [tw]
 | cons b r ih =>
  have h1 := ih fun x hx => h x (by simp [hx])
  have h2 := h b (by simp)
  simp only [tw, List.map_cons, List.sum_cons, List.length_cons, bw] at h1 ⊢
  omega
theorem nsize_tail {bs : List Br} (h : bs ≠ []) : nsize (inr bs) = 6 + (tw bs.tail : Int) := by
 cases bs with
 | nil => exact absurd rfl h
 | cons b r => rw [nsize_inr]; rfl
structure Now (l : List Wrt) (d : Nat) (y : Br) (lo : Str) (hi : Option Str) (now : List Br) : Prop where
 seg : now = [] ∨ ∃ k r, now = (y.1, k) :: r ∧ Seg l d lo hi now
 br : BrOk now
 len : now.length ≤ 2
theorem put_now {l : List Wrt} {d : Nat} {lo : Str} {hi : Option Str} {P S Y now : List Br} {y : Br} (h : Seg l d lo hi (P ++ (y :: Y) ++ S)) (h0 : P ++ S ≠ [] ∨ now ≠ []) (hN : Now l d y (loY P y.1 lo) (hiS S hi) now) (hb : BrOk (P ++ (y :: Y) ++ S)) :
  Seg l d lo hi (P ++ now ++ S) ∧ BrOk (P ++ now ++ S) ∧ nsize (inr (P ++ now ++ S)) ≤ nsize (inr (P ++ (y :: Y) ++ S)) + 37 := by
 have hpn : P ++ (y :: Y) ++ S ≠ [] := by simp
 rcases hN.seg with rfl | ⟨k, r, rfl, hs⟩
 ·rw [List.append_nil]
  have h9 : P ++ S ≠ [] := by rcases h0 with h0 | h0; exact h0; exact absurd rfl h0
  refine ⟨seg_gone h h9, ⟨fun b hb9 => ?_, fun b hb9 => hb.2 b (by simp only [List.mem_append] at hb9 ⊢; rcases hb9 with h | h <;> simp [h])⟩, ?_⟩
  ·refine hb.1 b ?_
   cases P with
   | nil => simp only [List.nil_append] at hb9; simp [List.mem_of_mem_tail hb9]
   | cons p P =>
    simp only [List.cons_append, List.tail_cons, List.mem_append] at hb9 ⊢
    rcases hb9 with h | h <;> simp [h]
  ·rw [nsize_tail h9, nsize_tail hpn]
   cases P with
   | nil =>
    have : tw S.tail ≤ tw S := by cases S with | nil => simp [tw] | cons a r => simp [tw]
    simp only [List.nil_append, List.cons_append, List.tail_cons, tw_app]
    push_cast; omega
   | cons p P => simp only [List.cons_append, List.tail_cons, tw_app]; push_cast; omega
 ·have hr : tw r ≤ 37 := by
   have h1 := tw_le (bs := r) (fun b hb9 => (hN.br.1 b (by simpa using hb9)).2)
   have h2 := hN.len
   simp only [List.length_cons] at h2
   have : 37 * r.length ≤ 37 := by omega
   omega
  obtain ⟨a1, a2, a3⟩ := seg3.1 h
  refine ⟨seg3.2 ⟨a1, hs, a3⟩, ⟨fun b hb9 => ?_, fun b hb9 => ?_⟩, ?_⟩
  ·cases P with
   | nil =>
    simp only [List.nil_append, List.cons_append, List.tail_cons, List.mem_append] at hb9
    rcases hb9 with h9 | h9
    ·exact hN.br.1 b (by simpa using h9)
    ·exact hb.1 b (by simp [h9])
   | cons p P =>
    simp only [List.cons_append, List.tail_cons, List.mem_append, List.mem_cons] at hb9
    rcases hb9 with (h9 | rfl | h9) | h9
    ·exact hb.1 b (by simp [h9])
    ·exact hb.1 y (by simp)
    ·exact hN.br.1 b (by simpa using h9)
    ·exact hb.1 b (by simp [h9])
  ·simp only [List.mem_append] at hb9
   rcases hb9 with (h9 | h9) | h9
   ·exact hb.2 b (by simp [h9])
   ·exact hN.br.2 b h9
   ·exact hb.2 b (by simp [h9])
  ·rw [nsize_tail (by simp), nsize_tail hpn]
   cases P with
   | nil => simp only [List.nil_append, List.cons_append, List.tail_cons, tw_app]; push_cast; omega
   | cons p P =>
    have e1 : tw ((y.1, k) :: r) = bw y + tw r := by simp [tw, bw]
    have e2 : tw (y :: Y) = bw y + tw Y := by simp [tw, bw]
    simp only [List.cons_append, List.tail_cons, tw_app, e1, e2]; push_cast; omega
def bareB (n : Nd) : Bool := !n.leaf && decide (n.keys.length = 0)
def joinOf (l : List Wrt) (n : Nd) (fr k : Nat) (now : Nd) : Nd :=
 inr (brs (if fr = k then now else nodeAt l (n.kids.getD fr 0)) ++
  (n.keys.getD fr [], (if fr = k then nodeAt l (n.kids.getD (fr + 1) 0) else now).kids.headD 0) :: (brs (if fr = k then nodeAt l (n.kids.getD (fr + 1) 0) else now)).tail)
def rplc (bs : List Br) (i j : Nat) (now : List Br) : List Br := bs.take i ++ now ++ bs.drop j
def rebOf (l : List Wrt) (next : Int) (key : Str) (ed : Nd → Nd) : Nat → Nd → List Nd → Nd × List Nd
 | 0, n, ad => (ed n, ad)
 | d + 1, n, ad =>
  let k := (nfind n key).toNat
  let p := rebOf l next key ed d (nodeAt l (n.kids.getD k 0)) ad
  if bareB p.1 = true then
   let q := laidOf next p.2 (joinOf l n (k - 1) k p.1) ((brs n).getD (k - 1) ([], 0)).1
   (inr (rplc (brs n) (k - 1) (k - 1 + 2) q.1), q.2)
  else
   let q := laidOf next p.2 p.1 ((brs n).getD k ([], 0)).1
   (inr (rplc (brs n) k (k + 1) q.1), q.2)
theorem reb_len (l : List Wrt) (next : Int) (key : Str) (ed : Nd → Nd) : ∀ (d : Nat) (n : Nd) (ad : List Nd), ad.length ≤ (rebOf l next key ed d n ad).2.length ∧ (rebOf l next key ed d n ad).2.length ≤ ad.length + 2 * d
 | 0, n, ad => ⟨Nat.le_refl _, Nat.le_refl _⟩
 | d + 1, n, ad => by
  have ih := reb_len l next key ed d (nodeAt l (n.kids.getD (nfind n key).toNat 0)) ad
  simp only [rebOf]
  split
  ·have := laid_len next (rebOf l next key ed d (nodeAt l (n.kids.getD (nfind n key).toNat 0)) ad).2 (joinOf l n ((nfind n key).toNat - 1) (nfind n key).toNat (rebOf l next key ed d (nodeAt l (n.kids.getD (nfind n key).toNat 0)) ad).1) ((brs n).getD ((nfind n key).toNat - 1) ([], 0)).1
   dsimp only
   omega
  ·have := laid_len next (rebOf l next key ed d (nodeAt l (n.kids.getD (nfind n key).toNat 0)) ad).2 (rebOf l next key ed d (nodeAt l (n.kids.getD (nfind n key).toNat 0)) ad).1 ((brs n).getD (nfind n key).toNat ([], 0)).1
   dsimp only
   omega
structure EdOk (key : Str) (upd : List Pr → List Pr) (ed : Nd → Nd) : Prop where
 leaf : ∀ ps, PrOk ps → nsize (lf ps) ≤ 244 → ed (lf ps) = lf (upd ps) ∧ PrOk (upd ps) ∧ nsize (lf (upd ps)) ≤ 342 ∧ ∀ y ∈ upd ps, y ∈ ps ∨ y.1 = key
 loc : ∀ A X C, (∀ y ∈ A, slt y.1 key = true) → (∀ y ∈ C, slt key y.1 = true) → upd (A ++ X ++ C) = A ++ upd X ++ C
structure Reb (l : List Wrt) (next : Int) (upd : List Pr → List Pr) (d : Nat) (n : Nd) (lo : Str) (hi : Option Str) (ad : List Nd) (n' : Nd) (ad' : List Nd) : Prop where
 more : ∃ more, ad' = ad ++ more ∧ ∀ x ∈ more, NOk x
 no : NO (lp l next ad') d n' lo hi
 prs : nP (lp l next ad') d n' = upd (nP l d n)
 nod : (nI (lp l next ad') d n').Nodup
 ids : ∀ i ∈ nI (lp l next ad') d n', i ∈ nI l d n ∨ (next + (ad.length : Int) ≤ i ∧ i < next + (ad'.length : Int))
 siz : nsize n' ≤ Lim d
theorem brs_inr (bs : List Br) (h : bs ≠ []) : ∃ b r, bs = b :: r ∧ brs (inr bs) = ([], b.2) :: r := by
 cases bs with
 | nil => exact absurd rfl h
 | cons b r =>
  refine ⟨b, r, rfl, ?_⟩
  unfold brs inr
  simp only [List.tail_cons, List.map_cons, List.headD_cons]
  congr 1
  exact zip_map r
where zip_map : ∀ r : List Br, (r.map (·.1)).zip (r.map (·.2)) = r
 | [] => rfl
 | a :: r => by simp [zip_map r]
theorem no_brs {l : List Wrt} {d : Nat} {n : Nd} {lo : Str} {hi : Option Str} (h : NO l (d + 1) n lo hi) : n = inr (brs n) ∧ BrOk (brs n) ∧ Seg l d lo hi (brs n) ∧ nP l (d + 1) n = sprs l d (brs n) ∧ nI l (d + 1) n = sids l d (brs n) := by
 obtain ⟨bs, rfl, h1, h2⟩ := h
 obtain ⟨b, r, rfl, e⟩ := brs_inr bs h2.ne
 have h1' : BrOk (([], b.2) :: r) := ⟨h1.1, fun x hx => by
  rcases List.mem_cons.1 hx with rfl | hx
  ·exact h1.2 b (List.mem_cons_self ..)
  ·exact h1.2 x (List.mem_cons_of_mem _ hx)⟩
 rw [e]
 refine ⟨rfl, h1', (seg_first (b := b) (c := ([], b.2)) rfl).1 h2, ?_, ?_⟩
 ·rw [nP, sprs_inr]; rfl
 ·rw [nI, sids_inr]; rfl
end Go.Proofs.YtgmkknonnidgaaaGreat

namespace Go.Proofs.YtgmkknonnidgaaaGreat
open Go.RowKit
theorem sizeBr : (Tryz.prog.info? 133).map (·.size) = some 2 := by kernel_rfl
theorem zeroBr (w : World) : (zeroValue 133).run Tryz.prog w = .ok (.agg #[.string ⟨#[]⟩, .int .i64 0]) w := by kernel_rfl
theorem cell_rowB {w : World} {g : Nat} {cur : Array Value} {T : TypeId} {fr : Nat × Nat} (h : w.heap[g]? = some (.cells cur T fr)) (j : Nat) : w.cell? ⟨g, j, none⟩ = cur.toList[j]? := by
 simp [World.cell?, h]
theorem bcl_drop (l : List Br) (k q : Nat) (hk : k ≤ l.length) : (bcl (l.drop k))[q]? = (bcl l)[k * 2 + q]? := by
 have e : bcl l = bcl (l.take k) ++ bcl (l.drop k) := by rw [← bcl_app, List.take_append_drop]
 rw [e, List.getElem?_append_right (by rw [bcl_len, List.length_take, Nat.min_eq_left hk]; omega)]
 congr 1
 rw [bcl_len, List.length_take, Nat.min_eq_left hk]
 omega
theorem rep_front {L : List Value} {bs : List Br} (h : L.take (bs.length * 2) = bcl bs) {i : Nat} (hi : i ≤ bs.length) : L.take (i * 2) = bcl (bs.take i) := by
 have : L.take (i * 2) = (L.take (bs.length * 2)).take (i * 2) := by rw [List.take_take]; congr 1; omega
 rw [this, h, bcl_take]
theorem rplc_bcl (bs now : List Br) (i j : Nat) : bcl (rplc bs i j now) = bcl (bs.take i) ++ bcl now ++ bcl (bs.drop j) := by unfold rplc; rw [bcl_app, bcl_app]
theorem rplc_len {bs now : List Br} {i j : Nat} (hi : i ≤ bs.length) : (rplc bs i j now).length = i + now.length + (bs.length - j) := by
 unfold rplc
 rw [List.length_append, List.length_append, List.length_take, List.length_drop, Nat.min_eq_left hi]
theorem rep_own {w0 w : World} {bs now : List Br} {g cap i j : Nat} {cur : Array Value} {L : List Value} (hg : w.heap[g]? = some (.cells cur 133 (0, 0))) (hk : i + now.length + (bs.length - j) ≤ cap) (hcm : cap ≤ 9223372036854775807) (hL : L.length = cap * 2) (hi : i ≤ bs.length)
  (ht : L.take ((i + now.length + (bs.length - j)) * 2) = bcl (bs.take i) ++ bcl now ++ bcl (bs.drop j)) (hw : w0.grownBy w (some g)) :
  OwnBr g (w.setRow g L.toArray) (.slice (some ⟨g, 0, none⟩) (i + now.length + (bs.length - j)) cap) (rplc bs i j now) ∧ w0.grownBy (w.setRow g L.toArray) (some g) := by
 have hrow := row_set (B := g) (k := i + now.length + (bs.length - j)) (cap := cap) (n := 2) (cc := bcl (rplc bs i j now)) hg (Nat.le_refl _) hk (by unfold maxLen; exact hcm) hL (by rw [bcl_len, rplc_len hi]) (by rw [rplc_bcl]; exact ht)
 refine ⟨?_, ⟨hrow.2.os.trans hw.os, hrow.2.tape.trans hw.tape, hrow.2.output.trans hw.output, Nat.le_trans hw.size hrow.2.size, fun k hk h2 => (hrow.2.block k (Nat.lt_of_lt_of_le hk hw.size) h2).trans (hw.block k hk h2)⟩⟩
 show World.ownsRow _ _ _ _ _ _ _
 rw [rplc_len hi]
 exact hrow.1
theorem zbl (m : Nat) : (Builtin.zeroCells (Value.agg #[.string ⟨#[]⟩, .int .i64 0]).cells m).toList.length = m * 2 := by rw [Array.length_toList, size_zeroCells]; rfl
theorem zb_one : ∀ v ∈ (Value.agg #[.string ⟨#[]⟩, .int .i64 0]).cells, v.oneCell' = true := by
 intro v hv
 simp [Value.cells] at hv
 rcases hv with rfl | rfl <;> rfl
set_option maxRecDepth 100000 in
set_option maxHeartbeats 4000000 in
theorem prep_exp (w : World) (bs now : List Br) (g cap i j : Nat) (cur : Array Value) (hg : w.heap[g]? = some (.cells cur 133 (0, 0))) (hcs : cur.size = cap * 2) (hct : cur.toList.take (bs.length * 2) = bcl bs) (hcm : cap ≤ 9223372036854775807) (hkc : bs.length ≤ cap) (hl : bs.length ≤ 1000) (hij : i < j) (gn : Nat) (hb : w.heap[gn]? = some (.cells (bcl now).toArray 133 (0, 0))) (hne : g ≠ gn) (hj : j < bs.length) (hx : j < i + now.length) (hm2 : now.length ≤ 2) (hroom : i + now.length + (bs.length - j) ≤ cap) :
  Calls Tryz.prog 70 #[.slice (some ⟨g, 0, none⟩) bs.length cap, .int .i64 (i : Int), .int .i64 (j : Int), .slice (some ⟨gn, 0, none⟩) now.length now.length] w fun e w' => ∃ v', e = .returned v' ∧ OwnBr g w' v' (rplc bs i j now) ∧ w.grownBy w' (some g) := by
 have hcl : cur.toList.length = cap * 2 := by rw [Array.length_toList]; exact hcs
 have hat : ∀ q, q < bs.length * 2 → cur.toList[q]? = (bcl bs)[q]? := fun q hq => by rw [← hct, List.getElem?_take, if_pos hq]
 have hAt := rep_front hct (show i ≤ bs.length by omega)
 have hAl : (bcl (bs.take i)).length = i * 2 := by rw [bcl_len, List.length_take]; congr 1; omega
 have hCl : (bcl (bs.drop j)).length = (bs.length - j) * 2 := by rw [bcl_len, List.length_drop]
 have hVl := bcl_len now
 have hgd : w.drew.drew.heap[g]? = some (.cells cur 133 (0, 0)) := drewHeap (drewHeap hg)
 obtain ⟨L1, hL1⟩ : ∃ L, L = seg cur.toList ((i + now.length) * 2) (bcl (bs.drop j)) := ⟨_, rfl⟩
 have hl1 : L1.length = cap * 2 := by rw [hL1, seg_len (by rw [hCl]; omega)]; exact hcl
 obtain ⟨W1, hW1⟩ : ∃ W, W = w.drew.drew.setRow g L1.toArray := ⟨_, rfl⟩
 have hg1 : W1.heap[g]? = some (.cells L1.toArray 133 (0, 0)) := by rw [hW1]; exact setRow_heap _ g cur _ _ _ hgd
 have hb1 : W1.heap[gn]? = some (.cells (bcl now).toArray 133 (0, 0)) := by rw [hW1]; exact (setRow_other _ g gn _ (Ne.symm hne)).trans (drewHeap (drewHeap hb))
 have hov : Hid (∀ la ca, (callFunc 89 #[.slice (some ⟨g, (i + now.length) * 2, none⟩) la ca, .slice (some ⟨gn, 0, none⟩) now.length now.length]).run Tryz.prog w.drew = .ok (.value (.bool false)) w.drew) := fun la ca => by
  rw [run_callFunc_extern Tryz.func89 (by kernel_rfl) (by kernel_rfl) (by kernel_rfl) (e := Extern.SlicesOverlaps.overlaps #[130, 130] #[4]) (by kernel_rfl),
   Lib.run_overlaps_apart w.drew 130 4 133 Tryz.underlying130 2 (fun w => by kernel_rfl) ⟨g, (i + now.length) * 2, none⟩ ⟨gn, 0, none⟩ la ca now.length now.length hne 133 133 (cap * 2) (now.length * 2) (by simp [World.shape?, drewHeap hg, hcs]) (by simp [World.shape?, drewHeap hb, hVl]) (by omega) (by simp [World.frozen?, drewHeap hg]) (by simp [World.frozen?, drewHeap hg])]
  rfl
 have hcp1 : Hid (∀ ty dc sc, (Builtin.copy_ #[130, 130] ty #[.slice (some ⟨g, (i + now.length) * 2, none⟩) (bs.length - j) dc, .slice (some ⟨g, j * 2, none⟩) (bs.length - j) sc]).run Tryz.prog w.drew.drew = .ok (goInt (bs.length - j : Nat)) W1) := fun ty dc sc => by
  rw [hW1, hL1]
  refine run_copyN w.drew.drew _ _ ty 133 2 g ((i + now.length) * 2) _ dc ⟨g, j * 2, none⟩ _ sc cur 133 (bcl (bs.drop j)) (bs.length - j) Tryz.underlying130 sizeBr hgd ?_ hCl (fun q v hq => ?_) (by rw [hCl]; omega) (bcl_one _)
  ·show _ = min _ _
   omega
  ·rw [Addr.add_lit, cell_rowB hgd]
   have hql := (List.getElem?_eq_some_iff.1 hq).1
   rw [hCl] at hql
   rw [hat _ (by omega), ← bcl_drop _ _ _ (by omega)]
   exact hq
 obtain ⟨L2, hL2⟩ : ∃ L, L = seg L1 (i * 2) (bcl now) := ⟨_, rfl⟩
 have hl2 : L2.length = cap * 2 := by rw [hL2, seg_len (by rw [hVl]; omega)]; exact hl1
 have hcp2 : Hid (∀ ty dc, (Builtin.copy_ #[130, 130] ty #[.slice (some ⟨g, i * 2, none⟩) (i + now.length + (bs.length - j) - i) dc, .slice (some ⟨gn, 0, none⟩) now.length now.length]).run Tryz.prog W1 = .ok (goInt now.length) (W1.setRow g L2.toArray)) := fun ty dc => by
  have h9 := run_copyN (P := Tryz.prog) W1 130 130 ty 133 2 g (i * 2) (i + now.length + (bs.length - j) - i) dc ⟨gn, 0, none⟩ now.length now.length L1.toArray 133 (bcl now) now.length Tryz.underlying130 sizeBr hg1 (by show _ = min _ _; omega) hVl (fun q v hq => by
   rw [Addr.add_lit, cell_rowB hb1]
   simpa using hq) (by rw [hVl, List.size_toArray]; omega) (bcl_one _)
  rw [h9, hL2]
 have h8 := seg_two (L := cur.toList) (A := bcl (bs.take i)) (V := bcl now) (C := bcl (bs.drop j)) (by rw [hAl]; exact hAt) (by rw [hAl, hVl, hCl, hcl]; omega)
 have FIN : Hid (OwnBr g (W1.setRow g L2.toArray) (.slice (some ⟨g, 0, none⟩) (i + now.length + (bs.length - j)) cap) (rplc bs i j now) ∧ w.grownBy (W1.setRow g L2.toArray) (some g)) := by
  refine rep_own hg1 hroom hcm hl2 (by omega) ?_ ?_
  ·rw [hL2, hL1]
   rw [hAl, hVl, hCl] at h8
   rw [show (i + now.length + (bs.length - j)) * 2 = i * 2 + now.length * 2 + (bs.length - j) * 2 by omega, show (i + now.length) * 2 = i * 2 + now.length * 2 by omega]
   exact h8
  ·rw [hW1]
   exact ⟨rfl, rfl, rfl, by simp, fun k hk h2 => (setRow_other _ _ _ _ (fun e => h2 (by rw [e]))).trans rfl⟩
 obtain ⟨n, hn⟩ : ∃ n, n = bs.length := ⟨_, rfl⟩
 obtain ⟨m, hm⟩ : ∃ m, m = now.length := ⟨_, rfl⟩
 obtain ⟨IM, hIM⟩ : ∃ q, q = i + now.length := ⟨_, rfl⟩
 obtain ⟨D, hD⟩ : ∃ q, q = bs.length - j := ⟨_, rfl⟩
 obtain ⟨T, hT⟩ : ∃ q, q = i + now.length + (bs.length - j) := ⟨_, rfl⟩
 rw [← hT] at hcp2 FIN hroom
 rw [← hIM] at hov hcp1 hx
 rw [← hD] at hcp1
 rw [← hn, ← hm]
 rw [← hm] at hov hcp2 hm2
 have f1 : n - j = D := by omega
 have f2 : T - IM = D := by omega
 have f3 : (i : Int) + (m : Int) = (IM : Int) := by omega
 have f4 : (IM : Int) + (D : Int) = (T : Int) := by omega
 have f5 : IntKind.i64.wrap (IM : Int) = (IM : Int) := IntWalk.i64_in _ (by omega)
 have f6 : IntKind.i64.wrap (T : Int) = (T : Int) := IntWalk.i64_in _ (by omega)
 have f7 : ((i : Int) == (j : Int)) = false := by simp; omega
 have f8 : ((j : Int) == (n : Int)) = false := by simp; omega
 have f9 : ¬ (cap = IM) := by omega
 have f10 : ¬ (cap = i) := by omega
 have f11 : ¬ (cap = j) := by omega
 have f12 : ¬ (IM : Int) ≤ (j : Int) := by omega
 have f13 : ¬ (T : Int) > (cap : Int) := by omega
 have f14 : i ≤ j := by omega
 have f15 : j ≤ n := by omega
 have f16 : i ≤ n := by omega
 have f17 : IM ≤ T := by omega
 have f18 : i ≤ T := by omega
 have f19 : j ≤ cap := by omega
 have f20 : i ≤ cap := by omega
 replace hn := hide hn
 replace hm := hide hm
 replace hIM := hide hIM
 replace hD := hide hD
 replace hT := hide hT
 clear hcs hct hcl hat hAt hAl hCl hVl hgd hL1 hl1 hW1 hg1 hb1 hL2 hl2 h8 hg hb hne
 go_enter Tryz.func70, Tryz.ntmps70
 go_wp2_with fail
 refine wp_region_mid (fun _ => True) 12 12 mixed (by kernel_rfl) (fun _ _ _ _ h => h) trivial ?_
 dsimp only [List.take, List.drop]
 iterate 12
  refine take_one (v := ?_) (by rfl) ?_ ?_
  rotate_left
  ·rintro w' _
   go_simp
   try with_reducible rfl
  try simp only [Act.put, List.setIfInBounds_toArray, List.set_cons_zero, List.set_cons_succ]
 show wpList _ _ _ _ _ _
 go_wp2_with (simp only [hov.out])
 refine wp_region_mid (fun _ => True) 9 9 mixed (by kernel_rfl) (fun _ _ _ _ h => h) trivial ?_
 dsimp only [List.take, List.drop]
 iterate 9
  refine take_one (v := ?_) (by rfl) ?_ ?_
  rotate_left
  ·rintro w' _
   go_simp
   try with_reducible rfl
  try simp only [Act.put, List.setIfInBounds_toArray, List.set_cons_zero, List.set_cons_succ]
 show wpList _ _ _ _ _ _
 refine wpList_run_copy _ rfl _ _ 130 130 rfl _ _ rfl rfl _ _ (hcp1.out _ _ _) ?_
 go_wp2_with (simp only [hcp2.out, Result.andThen_ok])
 go_ret
 exact ⟨_, rfl, FIN.out.1, FIN.out.2⟩
set_option maxRecDepth 100000 in
set_option maxHeartbeats 4000000 in
theorem prep_fitC (w : World) (bs now : List Br) (g cap i j : Nat) (cur : Array Value) (hg : w.heap[g]? = some (.cells cur 133 (0, 0))) (hcs : cur.size = cap * 2) (hct : cur.toList.take (bs.length * 2) = bcl bs) (hcm : cap ≤ 9223372036854775807) (hkc : bs.length ≤ cap) (hl : bs.length ≤ 1000) (hij : i < j) (gn : Nat) (hb : w.heap[gn]? = some (.cells (bcl now).toArray 133 (0, 0))) (hne : g ≠ gn) (hj : j < bs.length) (hx : i + now.length ≤ j) (hm0 : 0 < now.length) (hlt : i + now.length < j) :
  Calls Tryz.prog 70 #[.slice (some ⟨g, 0, none⟩) bs.length cap, .int .i64 (i : Int), .int .i64 (j : Int), .slice (some ⟨gn, 0, none⟩) now.length now.length] w fun e w' => ∃ v', e = .returned v' ∧ OwnBr g w' v' (rplc bs i j now) ∧ w.grownBy w' (some g) := by
 have hcl : cur.toList.length = cap * 2 := by rw [Array.length_toList]; exact hcs
 have hat : ∀ q, q < bs.length * 2 → cur.toList[q]? = (bcl bs)[q]? := fun q hq => by rw [← hct, List.getElem?_take, if_pos hq]
 have hAt := rep_front hct (show i ≤ bs.length by omega)
 have hAl : (bcl (bs.take i)).length = i * 2 := by rw [bcl_len, List.length_take]; congr 1; omega
 have hCl : (bcl (bs.drop j)).length = (bs.length - j) * 2 := by rw [bcl_len, List.length_drop]
 have hVl := bcl_len now
 have hgd : w.drew.heap[g]? = some (.cells cur 133 (0, 0)) := drewHeap hg
 have hbd : w.drew.heap[gn]? = some (.cells (bcl now).toArray 133 (0, 0)) := drewHeap hb
 obtain ⟨L1, hL1⟩ : ∃ L, L = seg cur.toList (i * 2) (bcl now) := ⟨_, rfl⟩
 have hl1 : L1.length = cap * 2 := by rw [hL1, seg_len (by rw [hVl]; omega)]; exact hcl
 obtain ⟨W1, hW1⟩ : ∃ W, W = w.drew.setRow g L1.toArray := ⟨_, rfl⟩
 have hg1 : W1.heap[g]? = some (.cells L1.toArray 133 (0, 0)) := by rw [hW1]; exact setRow_heap _ g cur _ _ _ hgd
 have hg1d : W1.drew.heap[g]? = some (.cells L1.toArray 133 (0, 0)) := drewHeap hg1
 have hcp1 : Hid (∀ ty dc, (Builtin.copy_ #[130, 130] ty #[.slice (some ⟨g, i * 2, none⟩) (i + now.length + (bs.length - j) - i) dc, .slice (some ⟨gn, 0, none⟩) now.length now.length]).run Tryz.prog w.drew = .ok (goInt now.length) W1) := fun ty dc => by
  have h9 := run_copyN (P := Tryz.prog) w.drew 130 130 ty 133 2 g (i * 2) (i + now.length + (bs.length - j) - i) dc ⟨gn, 0, none⟩ now.length now.length cur 133 (bcl now) now.length Tryz.underlying130 sizeBr hgd (by show _ = min _ _; omega) hVl (fun q v hq => by
   rw [Addr.add_lit, cell_rowB hbd]
   simpa using hq) (by rw [hVl, hcs]; omega) (bcl_one _)
  rw [h9, hW1, hL1]
 obtain ⟨L2, hL2⟩ : ∃ L, L = seg L1 ((i + now.length) * 2) (bcl (bs.drop j)) := ⟨_, rfl⟩
 have hl2 : L2.length = cap * 2 := by rw [hL2, seg_len (by rw [hCl]; omega)]; exact hl1
 obtain ⟨W2, hW2⟩ : ∃ W, W = W1.drew.setRow g L2.toArray := ⟨_, rfl⟩
 have hg2 : W2.heap[g]? = some (.cells L2.toArray 133 (0, 0)) := by rw [hW2]; exact setRow_heap _ g L1.toArray _ _ _ hg1d
 have hcp2 : Hid (∀ ty dc sc, (Builtin.copy_ #[130, 130] ty #[.slice (some ⟨g, (i + now.length) * 2, none⟩) (bs.length - j) dc, .slice (some ⟨g, j * 2, none⟩) (bs.length - j) sc]).run Tryz.prog W1.drew = .ok (goInt (bs.length - j : Nat)) W2) := fun ty dc sc => by
  have h9 := run_copyN (P := Tryz.prog) W1.drew 130 130 ty 133 2 g ((i + now.length) * 2) (bs.length - j) dc ⟨g, j * 2, none⟩ (bs.length - j) sc L1.toArray 133 (bcl (bs.drop j)) (bs.length - j) Tryz.underlying130 sizeBr hg1d (by show _ = min _ _; omega) hCl (fun q v hq => by
   rw [Addr.add_lit, cell_rowB hg1d]
   have hql := (List.getElem?_eq_some_iff.1 hq).1
   rw [hCl] at hql
   show L1[j * 2 + q]? = some v
   rw [hL1, seg_at (by rw [hVl]; omega) (.inr (by rw [hVl]; omega)), hat _ (by omega), ← bcl_drop _ _ _ (by omega)]
   exact hq) (by rw [hCl, List.size_toArray]; omega) (bcl_one _)
  rw [h9, hW2, hL2]
 have h8 := seg_two' (L := cur.toList) (A := bcl (bs.take i)) (V := bcl now) (C := bcl (bs.drop j)) (by rw [hAl]; exact hAt) (by rw [hAl, hVl, hCl, hcl]; omega)
 have h82 : L2.take ((i + now.length + (bs.length - j)) * 2) = bcl (bs.take i) ++ bcl now ++ bcl (bs.drop j) := by
  rw [hAl, hVl, hCl] at h8
  rw [hL2, hL1, show (i + now.length + (bs.length - j)) * 2 = i * 2 + now.length * 2 + (bs.length - j) * 2 by omega, show (i + now.length) * 2 = i * 2 + now.length * 2 by omega]
  exact h8
 have hgr2 : w.grownBy W2 (some g) := by
  rw [hW2, hW1]
  refine ⟨rfl, rfl, rfl, by simp, fun k hk h2 => (setRow_other _ _ _ _ (fun e => h2 (by rw [e]))).trans ?_⟩
  exact (setRow_other (w.drew) g k L1.toArray (fun e => h2 (by rw [e]))).trans rfl
 obtain ⟨L3, hL3⟩ : ∃ L, L = seg L2 ((i + now.length + (bs.length - j)) * 2) (Builtin.zeroCells (Value.agg #[.string ⟨#[]⟩, .int .i64 0]).cells (bs.length - (i + now.length + (bs.length - j)))).toList := ⟨_, rfl⟩
 have hl3 : L3.length = cap * 2 := by rw [hL3, seg_len (by rw [zbl]; omega)]; exact hl2
 have hcr : Hid (∀ ty c, (Builtin.clear_ #[130] ty #[.slice (some ⟨g, (i + now.length + (bs.length - j)) * 2, none⟩) (bs.length - (i + now.length + (bs.length - j))) c]).run Tryz.prog W2 = .ok (.tuple #[]) (W2.setRow g L3.toArray)) := fun ty c => by
  have h9 := run_clearN (P := Tryz.prog) W2 130 133 ty _ 2 g ((i + now.length + (bs.length - j)) * 2) (bs.length - (i + now.length + (bs.length - j))) c L2.toArray 133 Tryz.underlying130 zeroBr rfl zb_one hg2 (by rw [List.size_toArray]; omega) (by omega)
  rw [h9, hL3]
 have FIN : Hid (OwnBr g (W2.setRow g L3.toArray) (.slice (some ⟨g, 0, none⟩) (i + now.length + (bs.length - j)) cap) (rplc bs i j now) ∧ w.grownBy (W2.setRow g L3.toArray) (some g)) := by
  refine rep_own hg2 (by omega) hcm hl3 (by omega) ?_ hgr2
  rw [hL3, seg_take (by rw [zbl]; omega) (Nat.le_refl _)]
  exact h82
 clear hL3 hl3
 obtain ⟨n, hn⟩ : ∃ n, n = bs.length := ⟨_, rfl⟩
 obtain ⟨m, hm⟩ : ∃ m, m = now.length := ⟨_, rfl⟩
 obtain ⟨IM, hIM⟩ : ∃ q, q = i + now.length := ⟨_, rfl⟩
 obtain ⟨D, hD⟩ : ∃ q, q = bs.length - j := ⟨_, rfl⟩
 obtain ⟨T, hT⟩ : ∃ q, q = i + now.length + (bs.length - j) := ⟨_, rfl⟩
 rw [← hT] at hcp1 hcr FIN
 rw [← hIM] at hcp2 hx
 rw [← hD] at hcp2
 rw [← hn, ← hm]
 rw [← hn] at hcr
 rw [← hm] at hcp1 hm0
 have f1 : n - j = D := by omega
 have f2 : T - IM = D := by omega
 have f3 : (i : Int) + (m : Int) = (IM : Int) := by omega
 have f4 : (IM : Int) + (D : Int) = (T : Int) := by omega
 have f5 : IntKind.i64.wrap (IM : Int) = (IM : Int) := IntWalk.i64_in _ (by omega)
 have f6 : IntKind.i64.wrap (T : Int) = (T : Int) := IntWalk.i64_in _ (by omega)
 have f7 : ((i : Int) == (j : Int)) = false := by simp; omega
 have f8 : ((j : Int) == (n : Int)) = false := by simp; omega
 have f10 : ¬ (cap = i) := by omega
 have f11 : ¬ (cap = j) := by omega
 have f14 : i ≤ j := by omega
 have f15 : j ≤ n := by omega
 have f16 : i ≤ n := by omega
 have f17 : IM ≤ T := by omega
 have f18 : i ≤ T := by omega
 have f19 : j ≤ cap := by omega
 have f20 : i ≤ cap := by omega
 have f9 : ¬ (cap = IM) := by omega
 have f12 : (IM : Int) ≤ (j : Int) := by omega
 have f13 : ¬ (T : Int) > (cap : Int) := by omega
 have f21 : T ≤ n := by omega
 have f22 : ¬ (cap = T) := by omega
 replace hn := hide hn
 replace hm := hide hm
 replace hIM := hide hIM
 replace hD := hide hD
 replace hT := hide hT
 clear hcs hct hcl hat hAt hAl hCl hVl hgd hbd hL1 hl1 hW1 hg1 hg1d hL2 hl2 hW2 hg2 h8 h82 hgr2 hg hb hne
 go_enter Tryz.func70, Tryz.ntmps70
 go_wp2_with fail
 refine wp_region_mid (fun _ => True) 12 12 mixed (by kernel_rfl) (fun _ _ _ _ h => h) trivial ?_
 dsimp only [List.take, List.drop]
 iterate 12
  refine take_one (v := ?_) (by rfl) ?_ ?_
  rotate_left
  ·rintro w' _
   go_simp
   try with_reducible rfl
  try simp only [Act.put, List.setIfInBounds_toArray, List.set_cons_zero, List.set_cons_succ]
 show wpList _ _ _ _ _ _
 go_wp2_with (simp only [hcp1.out, Result.andThen_ok])
 refine wp_region_mid (fun _ => True) 9 9 mixed (by kernel_rfl) (fun _ _ _ _ h => h) trivial ?_
 dsimp only [List.take, List.drop]
 iterate 9
  refine take_one (v := ?_) (by rfl) ?_ ?_
  rotate_left
  ·rintro w' _
   go_simp
   try with_reducible rfl
  try simp only [Act.put, List.setIfInBounds_toArray, List.set_cons_zero, List.set_cons_succ]
 show wpList _ _ _ _ _ _
 refine wpList_run_copy _ rfl _ _ 130 130 rfl _ _ rfl rfl _ _ (hcp2.out _ _ _) ?_
 go_wp2_with (simp only [hcr.out, Result.andThen_ok])
 go_ret
 exact ⟨_, rfl, FIN.out.1, FIN.out.2⟩
set_option maxRecDepth 100000 in
set_option maxHeartbeats 4000000 in
theorem prep_fitA (w : World) (bs now : List Br) (g cap i j : Nat) (cur : Array Value) (hg : w.heap[g]? = some (.cells cur 133 (0, 0))) (hcs : cur.size = cap * 2) (hct : cur.toList.take (bs.length * 2) = bcl bs) (hcm : cap ≤ 9223372036854775807) (hkc : bs.length ≤ cap) (hl : bs.length ≤ 1000) (hij : i < j) (gn : Nat) (hb : w.heap[gn]? = some (.cells (bcl now).toArray 133 (0, 0))) (hne : g ≠ gn) (hj : j < bs.length) (hx : i + now.length ≤ j) (hm0 : 0 < now.length) (hlt : i + now.length = j) (hcap : cap = bs.length) :
  Calls Tryz.prog 70 #[.slice (some ⟨g, 0, none⟩) bs.length cap, .int .i64 (i : Int), .int .i64 (j : Int), .slice (some ⟨gn, 0, none⟩) now.length now.length] w fun e w' => ∃ v', e = .returned v' ∧ OwnBr g w' v' (rplc bs i j now) ∧ w.grownBy w' (some g) := by
 have hcl : cur.toList.length = cap * 2 := by rw [Array.length_toList]; exact hcs
 have hat : ∀ q, q < bs.length * 2 → cur.toList[q]? = (bcl bs)[q]? := fun q hq => by rw [← hct, List.getElem?_take, if_pos hq]
 have hAt := rep_front hct (show i ≤ bs.length by omega)
 have hAl : (bcl (bs.take i)).length = i * 2 := by rw [bcl_len, List.length_take]; congr 1; omega
 have hCl : (bcl (bs.drop j)).length = (bs.length - j) * 2 := by rw [bcl_len, List.length_drop]
 have hVl := bcl_len now
 have hgd : w.drew.heap[g]? = some (.cells cur 133 (0, 0)) := drewHeap hg
 have hbd : w.drew.heap[gn]? = some (.cells (bcl now).toArray 133 (0, 0)) := drewHeap hb
 obtain ⟨L1, hL1⟩ : ∃ L, L = seg cur.toList (i * 2) (bcl now) := ⟨_, rfl⟩
 have hl1 : L1.length = cap * 2 := by rw [hL1, seg_len (by rw [hVl]; omega)]; exact hcl
 obtain ⟨W1, hW1⟩ : ∃ W, W = w.drew.setRow g L1.toArray := ⟨_, rfl⟩
 have hg1 : W1.heap[g]? = some (.cells L1.toArray 133 (0, 0)) := by rw [hW1]; exact setRow_heap _ g cur _ _ _ hgd
 have hg1d : W1.drew.heap[g]? = some (.cells L1.toArray 133 (0, 0)) := drewHeap hg1
 have hcp1 : Hid (∀ ty dc, (Builtin.copy_ #[130, 130] ty #[.slice (some ⟨g, i * 2, none⟩) (i + now.length + (bs.length - j) - i) dc, .slice (some ⟨gn, 0, none⟩) now.length now.length]).run Tryz.prog w.drew = .ok (goInt now.length) W1) := fun ty dc => by
  have h9 := run_copyN (P := Tryz.prog) w.drew 130 130 ty 133 2 g (i * 2) (i + now.length + (bs.length - j) - i) dc ⟨gn, 0, none⟩ now.length now.length cur 133 (bcl now) now.length Tryz.underlying130 sizeBr hgd (by show _ = min _ _; omega) hVl (fun q v hq => by
   rw [Addr.add_lit, cell_rowB hbd]
   simpa using hq) (by rw [hVl, hcs]; omega) (bcl_one _)
  rw [h9, hW1, hL1]
 obtain ⟨L2, hL2⟩ : ∃ L, L = seg L1 ((i + now.length) * 2) (bcl (bs.drop j)) := ⟨_, rfl⟩
 have hl2 : L2.length = cap * 2 := by rw [hL2, seg_len (by rw [hCl]; omega)]; exact hl1
 obtain ⟨W2, hW2⟩ : ∃ W, W = W1.drew.setRow g L2.toArray := ⟨_, rfl⟩
 have hg2 : W2.heap[g]? = some (.cells L2.toArray 133 (0, 0)) := by rw [hW2]; exact setRow_heap _ g L1.toArray _ _ _ hg1d
 have hcp2 : Hid (∀ ty dc sc, (Builtin.copy_ #[130, 130] ty #[.slice (some ⟨g, (i + now.length) * 2, none⟩) (bs.length - j) dc, .slice (some ⟨g, j * 2, none⟩) (bs.length - j) sc]).run Tryz.prog W1.drew = .ok (goInt (bs.length - j : Nat)) W2) := fun ty dc sc => by
  have h9 := run_copyN (P := Tryz.prog) W1.drew 130 130 ty 133 2 g ((i + now.length) * 2) (bs.length - j) dc ⟨g, j * 2, none⟩ (bs.length - j) sc L1.toArray 133 (bcl (bs.drop j)) (bs.length - j) Tryz.underlying130 sizeBr hg1d (by show _ = min _ _; omega) hCl (fun q v hq => by
   rw [Addr.add_lit, cell_rowB hg1d]
   have hql := (List.getElem?_eq_some_iff.1 hq).1
   rw [hCl] at hql
   show L1[j * 2 + q]? = some v
   rw [hL1, seg_at (by rw [hVl]; omega) (.inr (by rw [hVl]; omega)), hat _ (by omega), ← bcl_drop _ _ _ (by omega)]
   exact hq) (by rw [hCl, List.size_toArray]; omega) (bcl_one _)
  rw [h9, hW2, hL2]
 have h8 := seg_two' (L := cur.toList) (A := bcl (bs.take i)) (V := bcl now) (C := bcl (bs.drop j)) (by rw [hAl]; exact hAt) (by rw [hAl, hVl, hCl, hcl]; omega)
 have h82 : L2.take ((i + now.length + (bs.length - j)) * 2) = bcl (bs.take i) ++ bcl now ++ bcl (bs.drop j) := by
  rw [hAl, hVl, hCl] at h8
  rw [hL2, hL1, show (i + now.length + (bs.length - j)) * 2 = i * 2 + now.length * 2 + (bs.length - j) * 2 by omega, show (i + now.length) * 2 = i * 2 + now.length * 2 by omega]
  exact h8
 have hgr2 : w.grownBy W2 (some g) := by
  rw [hW2, hW1]
  refine ⟨rfl, rfl, rfl, by simp, fun k hk h2 => (setRow_other _ _ _ _ (fun e => h2 (by rw [e]))).trans ?_⟩
  exact (setRow_other (w.drew) g k L1.toArray (fun e => h2 (by rw [e]))).trans rfl
 have hcr : Hid (∀ ty A c, (Builtin.clear_ #[130] ty #[.slice A 0 c]).run Tryz.prog W2 = .ok (.tuple #[]) W2) := fun ty A c => run_clear_none W2 _ _ ty A c Tryz.underlying130
 have FIN : Hid (OwnBr g W2 (.slice (some ⟨g, 0, none⟩) (i + now.length + (bs.length - j)) cap) (rplc bs i j now) ∧ w.grownBy W2 (some g)) := by
  have h9 := rep_own (w0 := w) hg2 (show i + now.length + (bs.length - j) ≤ cap by omega) hcm hl2 (by omega) h82 hgr2
  rw [setRow_self W2 g L2.toArray _ _ hg2] at h9
  exact h9
 obtain ⟨n, hn⟩ : ∃ n, n = bs.length := ⟨_, rfl⟩
 obtain ⟨m, hm⟩ : ∃ m, m = now.length := ⟨_, rfl⟩
 obtain ⟨IM, hIM⟩ : ∃ q, q = i + now.length := ⟨_, rfl⟩
 obtain ⟨D, hD⟩ : ∃ q, q = bs.length - j := ⟨_, rfl⟩
 obtain ⟨T, hT⟩ : ∃ q, q = i + now.length + (bs.length - j) := ⟨_, rfl⟩
 rw [← hT] at hcp1 FIN
 rw [← hIM] at hcp2 hx
 rw [← hD] at hcp2
 rw [← hn, ← hm]
 rw [← hm] at hcp1 hm0
 have f1 : n - j = D := by omega
 have f2 : T - IM = D := by omega
 have f3 : (i : Int) + (m : Int) = (IM : Int) := by omega
 have f4 : (IM : Int) + (D : Int) = (T : Int) := by omega
 have f5 : IntKind.i64.wrap (IM : Int) = (IM : Int) := IntWalk.i64_in _ (by omega)
 have f6 : IntKind.i64.wrap (T : Int) = (T : Int) := IntWalk.i64_in _ (by omega)
 have f7 : ((i : Int) == (j : Int)) = false := by simp; omega
 have f8 : ((j : Int) == (n : Int)) = false := by simp; omega
 have f10 : ¬ (cap = i) := by omega
 have f11 : ¬ (cap = j) := by omega
 have f14 : i ≤ j := by omega
 have f15 : j ≤ n := by omega
 have f16 : i ≤ n := by omega
 have f17 : IM ≤ T := by omega
 have f18 : i ≤ T := by omega
 have f19 : j ≤ cap := by omega
 have f20 : i ≤ cap := by omega
 have f9 : ¬ (cap = IM) := by omega
 have f12 : (IM : Int) ≤ (j : Int) := by omega
 have f13 : ¬ (T : Int) > (cap : Int) := by omega
 have f21 : T ≤ n := by omega
 have f22 : n = cap := by omega
 have f23 : T = cap := by omega
 replace hn := hide hn
 replace hm := hide hm
 replace hIM := hide hIM
 replace hD := hide hD
 replace hT := hide hT
 clear hcs hct hcl hat hAt hAl hCl hVl hgd hbd hL1 hl1 hW1 hg1 hg1d hL2 hl2 hW2 hg2 h8 h82 hgr2 hg hb hne
 clear hcap hlt
 subst f22 f23
 go_enter Tryz.func70, Tryz.ntmps70
 go_wp2_with fail
 refine wp_region_mid (fun _ => True) 12 12 mixed (by kernel_rfl) (fun _ _ _ _ h => h) trivial ?_
 dsimp only [List.take, List.drop]
 iterate 12
  refine take_one (v := ?_) (by rfl) ?_ ?_
  rotate_left
  ·rintro w' _
   go_simp
   try with_reducible rfl
  try simp only [Act.put, List.setIfInBounds_toArray, List.set_cons_zero, List.set_cons_succ]
 show wpList _ _ _ _ _ _
 go_wp2_with (simp only [hcp1.out, Result.andThen_ok])
 refine wp_region_mid (fun _ => True) 9 9 mixed (by kernel_rfl) (fun _ _ _ _ h => h) trivial ?_
 dsimp only [List.take, List.drop]
 iterate 9
  refine take_one (v := ?_) (by rfl) ?_ ?_
  rotate_left
  ·rintro w' _
   go_simp
   try with_reducible rfl
  try simp only [Act.put, List.setIfInBounds_toArray, List.set_cons_zero, List.set_cons_succ]
 show wpList _ _ _ _ _ _
 refine wpList_run_copy _ rfl _ _ 130 130 rfl _ _ rfl rfl _ _ (hcp2.out _ _ _) ?_
 go_wp2_with (simp only [hcr.out, Result.andThen_ok])
 go_ret
 exact ⟨_, rfl, FIN.out.1, FIN.out.2⟩
set_option maxRecDepth 100000 in
set_option maxHeartbeats 4000000 in
theorem prep_fitB (w : World) (bs now : List Br) (g cap i j : Nat) (cur : Array Value) (hg : w.heap[g]? = some (.cells cur 133 (0, 0))) (hcs : cur.size = cap * 2) (hct : cur.toList.take (bs.length * 2) = bcl bs) (hcm : cap ≤ 9223372036854775807) (hkc : bs.length ≤ cap) (hl : bs.length ≤ 1000) (hij : i < j) (gn : Nat) (hb : w.heap[gn]? = some (.cells (bcl now).toArray 133 (0, 0))) (hne : g ≠ gn) (hj : j < bs.length) (hx : i + now.length ≤ j) (hm0 : 0 < now.length) (hlt : i + now.length = j) (hcap : cap ≠ bs.length) :
  Calls Tryz.prog 70 #[.slice (some ⟨g, 0, none⟩) bs.length cap, .int .i64 (i : Int), .int .i64 (j : Int), .slice (some ⟨gn, 0, none⟩) now.length now.length] w fun e w' => ∃ v', e = .returned v' ∧ OwnBr g w' v' (rplc bs i j now) ∧ w.grownBy w' (some g) := by
 have hcl : cur.toList.length = cap * 2 := by rw [Array.length_toList]; exact hcs
 have hat : ∀ q, q < bs.length * 2 → cur.toList[q]? = (bcl bs)[q]? := fun q hq => by rw [← hct, List.getElem?_take, if_pos hq]
 have hAt := rep_front hct (show i ≤ bs.length by omega)
 have hAl : (bcl (bs.take i)).length = i * 2 := by rw [bcl_len, List.length_take]; congr 1; omega
 have hCl : (bcl (bs.drop j)).length = (bs.length - j) * 2 := by rw [bcl_len, List.length_drop]
 have hVl := bcl_len now
 have hgd : w.drew.heap[g]? = some (.cells cur 133 (0, 0)) := drewHeap hg
 have hbd : w.drew.heap[gn]? = some (.cells (bcl now).toArray 133 (0, 0)) := drewHeap hb
 obtain ⟨L1, hL1⟩ : ∃ L, L = seg cur.toList (i * 2) (bcl now) := ⟨_, rfl⟩
 have hl1 : L1.length = cap * 2 := by rw [hL1, seg_len (by rw [hVl]; omega)]; exact hcl
 obtain ⟨W1, hW1⟩ : ∃ W, W = w.drew.setRow g L1.toArray := ⟨_, rfl⟩
 have hg1 : W1.heap[g]? = some (.cells L1.toArray 133 (0, 0)) := by rw [hW1]; exact setRow_heap _ g cur _ _ _ hgd
 have hg1d : W1.drew.heap[g]? = some (.cells L1.toArray 133 (0, 0)) := drewHeap hg1
 have hcp1 : Hid (∀ ty dc, (Builtin.copy_ #[130, 130] ty #[.slice (some ⟨g, i * 2, none⟩) (i + now.length + (bs.length - j) - i) dc, .slice (some ⟨gn, 0, none⟩) now.length now.length]).run Tryz.prog w.drew = .ok (goInt now.length) W1) := fun ty dc => by
  have h9 := run_copyN (P := Tryz.prog) w.drew 130 130 ty 133 2 g (i * 2) (i + now.length + (bs.length - j) - i) dc ⟨gn, 0, none⟩ now.length now.length cur 133 (bcl now) now.length Tryz.underlying130 sizeBr hgd (by show _ = min _ _; omega) hVl (fun q v hq => by
   rw [Addr.add_lit, cell_rowB hbd]
   simpa using hq) (by rw [hVl, hcs]; omega) (bcl_one _)
  rw [h9, hW1, hL1]
 obtain ⟨L2, hL2⟩ : ∃ L, L = seg L1 ((i + now.length) * 2) (bcl (bs.drop j)) := ⟨_, rfl⟩
 have hl2 : L2.length = cap * 2 := by rw [hL2, seg_len (by rw [hCl]; omega)]; exact hl1
 obtain ⟨W2, hW2⟩ : ∃ W, W = W1.drew.setRow g L2.toArray := ⟨_, rfl⟩
 have hg2 : W2.heap[g]? = some (.cells L2.toArray 133 (0, 0)) := by rw [hW2]; exact setRow_heap _ g L1.toArray _ _ _ hg1d
 have hcp2 : Hid (∀ ty dc sc, (Builtin.copy_ #[130, 130] ty #[.slice (some ⟨g, (i + now.length) * 2, none⟩) (bs.length - j) dc, .slice (some ⟨g, j * 2, none⟩) (bs.length - j) sc]).run Tryz.prog W1.drew = .ok (goInt (bs.length - j : Nat)) W2) := fun ty dc sc => by
  have h9 := run_copyN (P := Tryz.prog) W1.drew 130 130 ty 133 2 g ((i + now.length) * 2) (bs.length - j) dc ⟨g, j * 2, none⟩ (bs.length - j) sc L1.toArray 133 (bcl (bs.drop j)) (bs.length - j) Tryz.underlying130 sizeBr hg1d (by show _ = min _ _; omega) hCl (fun q v hq => by
   rw [Addr.add_lit, cell_rowB hg1d]
   have hql := (List.getElem?_eq_some_iff.1 hq).1
   rw [hCl] at hql
   show L1[j * 2 + q]? = some v
   rw [hL1, seg_at (by rw [hVl]; omega) (.inr (by rw [hVl]; omega)), hat _ (by omega), ← bcl_drop _ _ _ (by omega)]
   exact hq) (by rw [hCl, List.size_toArray]; omega) (bcl_one _)
  rw [h9, hW2, hL2]
 have h8 := seg_two' (L := cur.toList) (A := bcl (bs.take i)) (V := bcl now) (C := bcl (bs.drop j)) (by rw [hAl]; exact hAt) (by rw [hAl, hVl, hCl, hcl]; omega)
 have h82 : L2.take ((i + now.length + (bs.length - j)) * 2) = bcl (bs.take i) ++ bcl now ++ bcl (bs.drop j) := by
  rw [hAl, hVl, hCl] at h8
  rw [hL2, hL1, show (i + now.length + (bs.length - j)) * 2 = i * 2 + now.length * 2 + (bs.length - j) * 2 by omega, show (i + now.length) * 2 = i * 2 + now.length * 2 by omega]
  exact h8
 have hgr2 : w.grownBy W2 (some g) := by
  rw [hW2, hW1]
  refine ⟨rfl, rfl, rfl, by simp, fun k hk h2 => (setRow_other _ _ _ _ (fun e => h2 (by rw [e]))).trans ?_⟩
  exact (setRow_other (w.drew) g k L1.toArray (fun e => h2 (by rw [e]))).trans rfl
 have hcr : Hid (∀ ty A c, (Builtin.clear_ #[130] ty #[.slice A 0 c]).run Tryz.prog W2 = .ok (.tuple #[]) W2) := fun ty A c => run_clear_none W2 _ _ ty A c Tryz.underlying130
 have FIN : Hid (OwnBr g W2 (.slice (some ⟨g, 0, none⟩) (i + now.length + (bs.length - j)) cap) (rplc bs i j now) ∧ w.grownBy W2 (some g)) := by
  have h9 := rep_own (w0 := w) hg2 (show i + now.length + (bs.length - j) ≤ cap by omega) hcm hl2 (by omega) h82 hgr2
  rw [setRow_self W2 g L2.toArray _ _ hg2] at h9
  exact h9
 obtain ⟨n, hn⟩ : ∃ n, n = bs.length := ⟨_, rfl⟩
 obtain ⟨m, hm⟩ : ∃ m, m = now.length := ⟨_, rfl⟩
 obtain ⟨IM, hIM⟩ : ∃ q, q = i + now.length := ⟨_, rfl⟩
 obtain ⟨D, hD⟩ : ∃ q, q = bs.length - j := ⟨_, rfl⟩
 obtain ⟨T, hT⟩ : ∃ q, q = i + now.length + (bs.length - j) := ⟨_, rfl⟩
 rw [← hT] at hcp1 FIN
 rw [← hIM] at hcp2 hx
 rw [← hD] at hcp2
 rw [← hn, ← hm]
 rw [← hm] at hcp1 hm0
 have f1 : n - j = D := by omega
 have f2 : T - IM = D := by omega
 have f3 : (i : Int) + (m : Int) = (IM : Int) := by omega
 have f4 : (IM : Int) + (D : Int) = (T : Int) := by omega
 have f5 : IntKind.i64.wrap (IM : Int) = (IM : Int) := IntWalk.i64_in _ (by omega)
 have f6 : IntKind.i64.wrap (T : Int) = (T : Int) := IntWalk.i64_in _ (by omega)
 have f7 : ((i : Int) == (j : Int)) = false := by simp; omega
 have f8 : ((j : Int) == (n : Int)) = false := by simp; omega
 have f10 : ¬ (cap = i) := by omega
 have f11 : ¬ (cap = j) := by omega
 have f14 : i ≤ j := by omega
 have f15 : j ≤ n := by omega
 have f16 : i ≤ n := by omega
 have f17 : IM ≤ T := by omega
 have f18 : i ≤ T := by omega
 have f19 : j ≤ cap := by omega
 have f20 : i ≤ cap := by omega
 have f9 : ¬ (cap = IM) := by omega
 have f12 : (IM : Int) ≤ (j : Int) := by omega
 have f13 : ¬ (T : Int) > (cap : Int) := by omega
 have f21 : T ≤ n := by omega
 have f22 : ¬ (cap = n) := by omega
 have f23 : T = n := by omega
 replace hn := hide hn
 replace hm := hide hm
 replace hIM := hide hIM
 replace hD := hide hD
 replace hT := hide hT
 clear hcs hct hcl hat hAt hAl hCl hVl hgd hbd hL1 hl1 hW1 hg1 hg1d hL2 hl2 hW2 hg2 h8 h82 hgr2 hg hb hne
 clear hcap hlt
 subst f23
 go_enter Tryz.func70, Tryz.ntmps70
 go_wp2_with fail
 refine wp_region_mid (fun _ => True) 12 12 mixed (by kernel_rfl) (fun _ _ _ _ h => h) trivial ?_
 dsimp only [List.take, List.drop]
 iterate 12
  refine take_one (v := ?_) (by rfl) ?_ ?_
  rotate_left
  ·rintro w' _
   go_simp
   try with_reducible rfl
  try simp only [Act.put, List.setIfInBounds_toArray, List.set_cons_zero, List.set_cons_succ]
 show wpList _ _ _ _ _ _
 go_wp2_with (simp only [hcp1.out, Result.andThen_ok])
 refine wp_region_mid (fun _ => True) 9 9 mixed (by kernel_rfl) (fun _ _ _ _ h => h) trivial ?_
 dsimp only [List.take, List.drop]
 iterate 9
  refine take_one (v := ?_) (by rfl) ?_ ?_
  rotate_left
  ·rintro w' _
   go_simp
   try with_reducible rfl
  try simp only [Act.put, List.setIfInBounds_toArray, List.set_cons_zero, List.set_cons_succ]
 show wpList _ _ _ _ _ _
 refine wpList_run_copy _ rfl _ _ 130 130 rfl _ _ rfl rfl _ _ (hcp2.out _ _ _) ?_
 go_wp2_with (simp only [hcr.out, Result.andThen_ok])
 go_ret
 exact ⟨_, rfl, FIN.out.1, FIN.out.2⟩
end Go.Proofs.YtgmkknonnidgaaaGreat

namespace Go.Proofs.YtgmkknonnidgaaaGreat
open Go.RowKit
set_option maxRecDepth 100000 in
set_option maxHeartbeats 4000000 in
theorem prep_gone (w : World) (bs : List Br) (g cap i j : Nat) (cur : Array Value) (hg : w.heap[g]? = some (.cells cur 133 (0, 0))) (hcs : cur.size = cap * 2) (hct : cur.toList.take (bs.length * 2) = bcl bs) (hcm : cap ≤ 9223372036854775807) (hkc : bs.length ≤ cap) (hl : bs.length ≤ 1000) (hij : i < j) (hj : j < bs.length) :
  Calls Tryz.prog 70 #[.slice (some ⟨g, 0, none⟩) bs.length cap, .int .i64 (i : Int), .int .i64 (j : Int), .slice none 0 0] w fun e w' => ∃ v', e = .returned v' ∧ OwnBr g w' v' (rplc bs i j []) ∧ w.grownBy w' (some g) := by
 have hcl : cur.toList.length = cap * 2 := by rw [Array.length_toList]; exact hcs
 have hat : ∀ q, q < bs.length * 2 → cur.toList[q]? = (bcl bs)[q]? := fun q hq => by rw [← hct, List.getElem?_take, if_pos hq]
 have hAt := rep_front hct (show i ≤ bs.length by omega)
 have hAl : (bcl (bs.take i)).length = i * 2 := by rw [bcl_len, List.length_take]; congr 1; omega
 have hCl : (bcl (bs.drop j)).length = (bs.length - j) * 2 := by rw [bcl_len, List.length_drop]
 have hgd : w.drew.drew.heap[g]? = some (.cells cur 133 (0, 0)) := drewHeap (drewHeap hg)
 have hcp1 : Hid (∀ ty dl dc, (Builtin.copy_ #[130, 130] ty #[.slice (some ⟨g, i * 2, none⟩) dl dc, .slice none 0 0]).run Tryz.prog w.drew = .ok (goInt 0) w.drew) := fun ty dl dc => run_copyN_none w.drew _ _ ty _ 2 _ dl dc Tryz.underlying130 sizeBr
 obtain ⟨L2, hL2⟩ : ∃ L, L = seg cur.toList (i * 2) (bcl (bs.drop j)) := ⟨_, rfl⟩
 have hl2 : L2.length = cap * 2 := by rw [hL2, seg_len (by rw [hCl]; omega)]; exact hcl
 obtain ⟨W2, hW2⟩ : ∃ W, W = w.drew.drew.setRow g L2.toArray := ⟨_, rfl⟩
 have hg2 : W2.heap[g]? = some (.cells L2.toArray 133 (0, 0)) := by rw [hW2]; exact setRow_heap _ g cur _ _ _ hgd
 have hcp2 : Hid (∀ ty dc sc, (Builtin.copy_ #[130, 130] ty #[.slice (some ⟨g, i * 2, none⟩) (bs.length - j) dc, .slice (some ⟨g, j * 2, none⟩) (bs.length - j) sc]).run Tryz.prog w.drew.drew = .ok (goInt (bs.length - j : Nat)) W2) := fun ty dc sc => by
  have h9 := run_copyN (P := Tryz.prog) w.drew.drew 130 130 ty 133 2 g (i * 2) (bs.length - j) dc ⟨g, j * 2, none⟩ (bs.length - j) sc cur 133 (bcl (bs.drop j)) (bs.length - j) Tryz.underlying130 sizeBr hgd (by show _ = min _ _; omega) hCl (fun q v hq => by
   rw [Addr.add_lit, cell_rowB hgd]
   have hql := (List.getElem?_eq_some_iff.1 hq).1
   rw [hCl] at hql
   rw [hat _ (by omega), ← bcl_drop _ _ _ (by omega)]
   exact hq) (by rw [hCl, hcs]; omega) (bcl_one _)
  rw [h9, hW2, hL2]
 have h82 : L2.take ((i + (bs.length - j)) * 2) = bcl (bs.take i) ++ bcl (bs.drop j) := by
  rw [hL2, seg, hAt, List.take_left' (by rw [List.length_append, hAl, hCl]; omega)]
 have hgr2 : w.grownBy W2 (some g) := by
  rw [hW2]
  exact ⟨rfl, rfl, rfl, by simp, fun k hk h2 => (setRow_other _ _ _ _ (fun e => h2 (by rw [e]))).trans rfl⟩
 obtain ⟨L3, hL3⟩ : ∃ L, L = seg L2 ((i + (bs.length - j)) * 2) (Builtin.zeroCells (Value.agg #[.string ⟨#[]⟩, .int .i64 0]).cells (bs.length - (i + (bs.length - j)))).toList := ⟨_, rfl⟩
 have hl3 : L3.length = cap * 2 := by rw [hL3, seg_len (by rw [zbl]; omega)]; exact hl2
 have hcr : Hid (∀ ty c, (Builtin.clear_ #[130] ty #[.slice (some ⟨g, (i + (bs.length - j)) * 2, none⟩) (bs.length - (i + (bs.length - j))) c]).run Tryz.prog W2 = .ok (.tuple #[]) (W2.setRow g L3.toArray)) := fun ty c => by
  have h9 := run_clearN (P := Tryz.prog) W2 130 133 ty _ 2 g ((i + (bs.length - j)) * 2) (bs.length - (i + (bs.length - j))) c L2.toArray 133 Tryz.underlying130 zeroBr rfl zb_one hg2 (by rw [List.size_toArray]; omega) (by omega)
  rw [h9, hL3]
 have FIN : Hid (OwnBr g (W2.setRow g L3.toArray) (.slice (some ⟨g, 0, none⟩) (i + (bs.length - j)) cap) (rplc bs i j []) ∧ w.grownBy (W2.setRow g L3.toArray) (some g)) := by
  have h9 := rep_own (now := []) hg2 (show i + ([] : List Br).length + (bs.length - j) ≤ cap by simp; omega) hcm hl3 (show i ≤ bs.length by omega) (by
   rw [hL3]
   simp only [List.length_nil, Nat.add_zero]
   rw [seg_take (by rw [zbl]; omega) (Nat.le_refl _), h82]
   simp [bcl]) hgr2
  simp only [List.length_nil, Nat.add_zero] at h9
  exact h9
 obtain ⟨n, hn⟩ : ∃ n, n = bs.length := ⟨_, rfl⟩
 obtain ⟨D, hD⟩ : ∃ q, q = bs.length - j := ⟨_, rfl⟩
 obtain ⟨T, hT⟩ : ∃ q, q = i + (bs.length - j) := ⟨_, rfl⟩
 rw [← hT] at hcr FIN
 rw [← hD] at hcp2
 rw [← hn] at hcr ⊢
 have f1 : n - j = D := by omega
 have f2 : T - i = D := by omega
 have f4 : (i : Int) + (D : Int) = (T : Int) := by omega
 have f5 : IntKind.i64.wrap (i : Int) = (i : Int) := IntWalk.i64_in _ (by omega)
 have f6 : IntKind.i64.wrap (T : Int) = (T : Int) := IntWalk.i64_in _ (by omega)
 have f7 : ((i : Int) == (j : Int)) = false := by simp; omega
 have f8 : ((j : Int) == (n : Int)) = false := by simp; omega
 have f10 : ¬ (cap = i) := by omega
 have f11 : ¬ (cap = j) := by omega
 have f12 : (i : Int) ≤ (j : Int) := by omega
 have f13 : ¬ (T : Int) > (cap : Int) := by omega
 have f14 : i ≤ j := by omega
 have f15 : j ≤ n := by omega
 have f16 : i ≤ n := by omega
 have f18 : i ≤ T := by omega
 have f19 : j ≤ cap := by omega
 have f20 : i ≤ cap := by omega
 have f21 : T ≤ n := by omega
 have f22 : ¬ (cap = T) := by omega
 replace hn := hide hn
 replace hD := hide hD
 replace hT := hide hT
 clear hcs hct hcl hat hAt hAl hCl hgd hL2 hl2 hW2 hg2 h82 hgr2 hg hL3 hl3
 go_enter Tryz.func70, Tryz.ntmps70
 go_wp2_with fail
 refine wp_region_mid (fun _ => True) 12 12 mixed (by kernel_rfl) (fun _ _ _ _ h => h) trivial ?_
 dsimp only [List.take, List.drop]
 iterate 12
  refine take_one (v := ?_) (by rfl) ?_ ?_
  rotate_left
  ·rintro w' _
   go_simp
   try with_reducible rfl
  try simp only [Act.put, List.setIfInBounds_toArray, List.set_cons_zero, List.set_cons_succ]
 show wpList _ _ _ _ _ _
 go_wp2_with (simp only [hcp1.out, Result.andThen_ok])
 refine wp_region_mid (fun _ => True) 9 9 mixed (by kernel_rfl) (fun _ _ _ _ h => h) trivial ?_
 dsimp only [List.take, List.drop]
 iterate 9
  refine take_one (v := ?_) (by rfl) ?_ ?_
  rotate_left
  ·rintro w' _
   go_simp
   try with_reducible rfl
  try simp only [Act.put, List.setIfInBounds_toArray, List.set_cons_zero, List.set_cons_succ]
 show wpList _ _ _ _ _ _
 refine wpList_run_copy _ rfl _ _ 130 130 rfl _ _ rfl rfl _ _ (hcp2.out _ _ _) ?_
 go_wp2_with (simp only [hcr.out, Result.andThen_ok])
 go_ret
 exact ⟨_, rfl, FIN.out.1, FIN.out.2⟩
set_option maxRecDepth 100000 in
set_option maxHeartbeats 4000000 in
theorem prep_grow (w : World) (bs now : List Br) (g cap i j : Nat) (cur : Array Value) (hg : w.heap[g]? = some (.cells cur 133 (0, 0))) (hcs : cur.size = cap * 2) (hct : cur.toList.take (bs.length * 2) = bcl bs) (hcm : cap ≤ 9223372036854775807) (hkc : bs.length ≤ cap) (hl : bs.length ≤ 1000) (hij : i < j) (gn : Nat) (hb : w.heap[gn]? = some (.cells (bcl now).toArray 133 (0, 0))) (hne : g ≠ gn) (hj : j < bs.length) (hm0 : 0 < now.length) (hm2 : now.length ≤ 2) (hroom : cap < i + now.length + (bs.length - j)) :
  Calls Tryz.prog 70 #[.slice (some ⟨g, 0, none⟩) bs.length cap, .int .i64 (i : Int), .int .i64 (j : Int), .slice (some ⟨gn, 0, none⟩) now.length now.length] w fun e w' => ∃ v', e = .returned v' ∧ OwnBr w.heap.size w' v' (rplc bs i j now) ∧ w.grownBy w' (some g) := by
 have hcl : cur.toList.length = cap * 2 := by rw [Array.length_toList]; exact hcs
 have hat : ∀ q, q < bs.length * 2 → cur.toList[q]? = (bcl bs)[q]? := fun q hq => by rw [← hct, List.getElem?_take, if_pos hq]
 have hAt := rep_front hct (show i ≤ bs.length by omega)
 have hAl : (bcl (bs.take i)).length = i * 2 := by rw [bcl_len, List.length_take]; congr 1; omega
 have hCl : (bcl (bs.drop j)).length = (bs.length - j) * 2 := by rw [bcl_len, List.length_drop]
 have hVl := bcl_len now
 obtain ⟨i0, hi0, hz0, hz1, hz2⟩ := info_parts infoBr
 have hgd : w.drew.heap[g]? = some (.cells cur 133 (0, 0)) := drewHeap hg
 obtain ⟨G, ROW, hr, hR1, hR2, hR3, hR4⟩ := run_growN w.drew 130 3 130 133 i0 _ .i64 2 24 Tryz.underlying130 Tryz.underlying3 hi0 hz0 hz1 hz2 rfl (by omega) g cap i (now.length + (bs.length - j)) cur (bcl (bs.take i)) hgd hAl hAt (by omega) (by omega) (by omega) (by omega) (by omega)
 have hik : i + (now.length + (bs.length - j)) = i + now.length + (bs.length - j) := by omega
 rw [hik] at hr hR3
 rw [hAl] at hR2
 have hsz : w.drew.heap.size = w.heap.size := rfl
 rw [hsz] at hr
 obtain ⟨W1, hW1⟩ : ∃ W, W = w.drew.drew.alloc (.cells ROW 133) := ⟨_, rfl⟩
 have hd1 : W1.heap[w.heap.size]? = some (.cells ROW 133 (0, 0)) := by rw [hW1]; exact heap_alloc_last w.drew.drew _
 have hgl : g < w.heap.size := lt_of_block hg
 have hvl : gn < w.heap.size := lt_of_block hb
 have ho1 : ∀ k, k < w.heap.size → W1.heap[k]? = w.heap[k]? := fun k hk => by
  rw [hW1]
  simp only [World.alloc, Array.getElem?_push]
  rw [if_neg (show k ≠ w.drew.drew.heap.size from by have : w.drew.drew.heap.size = w.heap.size := rfl; omega)]
  rfl
 have hs1 : W1.heap.size = w.heap.size + 1 := by rw [hW1]; simp [World.alloc]
 have hRl : ROW.toList.length = G * 2 := by rw [Array.length_toList, hR1]
 obtain ⟨L2, hL2⟩ : ∃ L, L = seg ROW.toList (i * 2) (bcl now) := ⟨_, rfl⟩
 have hl2 : L2.length = G * 2 := by rw [hL2, seg_len (by rw [hVl, hRl]; omega)]; exact hRl
 obtain ⟨W2, hW2⟩ : ∃ W, W = W1.setRow w.heap.size L2.toArray := ⟨_, rfl⟩
 have hd2 : W2.heap[w.heap.size]? = some (.cells L2.toArray 133 (0, 0)) := by rw [hW2]; exact setRow_heap _ _ _ _ _ _ hd1
 have hd2' : W2.drew.heap[w.heap.size]? = some (.cells L2.toArray 133 (0, 0)) := drewHeap hd2
 have ho2 : ∀ k, k < w.heap.size → W2.heap[k]? = w.heap[k]? := fun k hk => by rw [hW2]; exact (setRow_other _ _ _ _ (by omega)).trans (ho1 k hk)
 have hcp1 : Hid (∀ ty dc, (Builtin.copy_ #[130, 130] ty #[.slice (some ⟨w.heap.size, i * 2, none⟩) (i + now.length + (bs.length - j) - i) dc, .slice (some ⟨gn, 0, none⟩) now.length now.length]).run Tryz.prog W1 = .ok (goInt now.length) W2) := fun ty dc => by
  have h9 := run_copyN (P := Tryz.prog) W1 130 130 ty 133 2 w.heap.size (i * 2) (i + now.length + (bs.length - j) - i) dc ⟨gn, 0, none⟩ now.length now.length ROW 133 (bcl now) now.length Tryz.underlying130 sizeBr hd1 (by show _ = min _ _; omega) hVl (fun q v hq => by
   rw [Addr.add_lit, cell_rowB ((ho1 gn hvl).trans hb)]
   simpa using hq) (by rw [hVl, hR1]; omega) (bcl_one _)
  rw [h9, hW2, hL2]
 obtain ⟨L3, hL3⟩ : ∃ L, L = seg L2 ((i + now.length) * 2) (bcl (bs.drop j)) := ⟨_, rfl⟩
 have hl3 : L3.length = G * 2 := by rw [hL3, seg_len (by rw [hCl]; omega)]; exact hl2
 obtain ⟨W3, hW3⟩ : ∃ W, W = W2.drew.setRow w.heap.size L3.toArray := ⟨_, rfl⟩
 have hcp2 : Hid (∀ ty dc sc, (Builtin.copy_ #[130, 130] ty #[.slice (some ⟨w.heap.size, (i + now.length) * 2, none⟩) (bs.length - j) dc, .slice (some ⟨g, j * 2, none⟩) (bs.length - j) sc]).run Tryz.prog W2.drew = .ok (goInt (bs.length - j : Nat)) W3) := fun ty dc sc => by
  have h9 := run_copyN (P := Tryz.prog) W2.drew 130 130 ty 133 2 w.heap.size ((i + now.length) * 2) (bs.length - j) dc ⟨g, j * 2, none⟩ (bs.length - j) sc L2.toArray 133 (bcl (bs.drop j)) (bs.length - j) Tryz.underlying130 sizeBr hd2' (by show _ = min _ _; omega) hCl (fun q v hq => by
   rw [Addr.add_lit, cell_rowB (w := W2.drew) (drewHeap ((ho2 g hgl).trans hg))]
   have hql := (List.getElem?_eq_some_iff.1 hq).1
   rw [hCl] at hql
   rw [hat _ (by omega), ← bcl_drop _ _ _ (by omega)]
   exact hq) (by rw [hCl, List.size_toArray]; omega) (bcl_one _)
  rw [h9, hW3, hL3]
 have h8 := seg_two' (L := ROW.toList) (A := bcl (bs.take i)) (V := bcl now) (C := bcl (bs.drop j)) (by rw [hAl]; exact hR2) (by rw [hAl, hVl, hCl, hRl]; omega)
 have h82 : L3.take ((i + now.length + (bs.length - j)) * 2) = bcl (rplc bs i j now) := by
  rw [hAl, hVl, hCl] at h8
  rw [rplc_bcl, hL3, hL2, show (i + now.length + (bs.length - j)) * 2 = i * 2 + now.length * 2 + (bs.length - j) * 2 by omega, show (i + now.length) * 2 = i * 2 + now.length * 2 by omega]
  exact h8
 have FIN : Hid (OwnBr w.heap.size W3 (.slice (some ⟨w.heap.size, 0, none⟩) (i + now.length + (bs.length - j)) G) (rplc bs i j now) ∧ w.grownBy W3 (some g)) := by
  have hrow := row_set (B := w.heap.size) (k := i + now.length + (bs.length - j)) (cap := G) (n := 2) hd2' (Nat.le_refl _) hR3 (by unfold maxLen; exact hR4) hl3 (by rw [bcl_len, rplc_len (by omega)]) h82
  refine ⟨?_, ?_⟩
  ·have := hrow.1
   rw [← hW3] at this
   show World.ownsRow _ _ _ _ _ _ _
   rw [rplc_len (by omega)]; exact this
  ·refine ⟨by rw [hW3, hW2, hW1]; rfl, by rw [hW3, hW2, hW1]; rfl, by rw [hW3, hW2, hW1]; rfl, ?_, fun k hk _ => ?_⟩
   ·rw [hW3, setRow_size]
    show w.heap.size ≤ W2.heap.size
    rw [hW2, setRow_size, hs1]; omega
   ·rw [hW3]
    exact (setRow_other _ _ _ _ (by omega)).trans (ho2 k hk)
 rw [← hW1] at hr
 obtain ⟨n, hn⟩ : ∃ n, n = bs.length := ⟨_, rfl⟩
 obtain ⟨m, hm⟩ : ∃ m, m = now.length := ⟨_, rfl⟩
 obtain ⟨IM, hIM⟩ : ∃ q, q = i + now.length := ⟨_, rfl⟩
 obtain ⟨D, hD⟩ : ∃ q, q = bs.length - j := ⟨_, rfl⟩
 obtain ⟨T, hT⟩ : ∃ q, q = i + now.length + (bs.length - j) := ⟨_, rfl⟩
 rw [← hT] at hcp1 FIN hroom hr hR3
 rw [← hIM] at hcp2
 rw [← hD] at hcp2
 rw [← hn, ← hm]
 rw [← hm] at hcp1 hm0 hm2
 have f1 : n - j = D := by omega
 have f2 : T - IM = D := by omega
 have f3 : (i : Int) + (m : Int) = (IM : Int) := by omega
 have f4 : (IM : Int) + (D : Int) = (T : Int) := by omega
 have f5 : IntKind.i64.wrap (IM : Int) = (IM : Int) := IntWalk.i64_in _ (by omega)
 have f6 : IntKind.i64.wrap (T : Int) = (T : Int) := IntWalk.i64_in _ (by omega)
 have f7 : ((i : Int) == (j : Int)) = false := by simp; omega
 have f8 : ((j : Int) == (n : Int)) = false := by simp; omega
 have f10 : ¬ (cap = i) := by omega
 have f11 : ¬ (cap = j) := by omega
 have f14 : i ≤ j := by omega
 have f15 : j ≤ n := by omega
 have f16 : i ≤ n := by omega
 have f17 : IM ≤ T := by omega
 have f18 : i ≤ T := by omega
 have f19 : j ≤ cap := by omega
 have f20 : i ≤ cap := by omega
 have f9 : ¬ (G = IM) := by omega
 have f12 : ¬ (G = i) := by omega
 have f13 : (T : Int) > (cap : Int) := by omega
 have f23 : IntKind.i64.wrap ((T : Int) - (i : Int)) = (T : Int) - (i : Int) := IntWalk.i64_in _ (by omega)
 have hap : Hid ((Builtin.append_ #[130, 3] 130 #[.slice (some ⟨g, 0, none⟩) i cap, .int .i64 ((T : Int) - (i : Int))]).run Tryz.prog w.drew = .ok (.slice (some ⟨w.heap.size, 0, none⟩) T G) W1) := by
  show _ = _
  rw [show (T : Int) - (i : Int) = ((now.length + (bs.length - j) : Nat) : Int) by omega]
  exact hr
 replace hn := hide hn
 replace hm := hide hm
 replace hIM := hide hIM
 replace hD := hide hD
 replace hT := hide hT
 clear hcs hct hcl hat hAt hAl hCl hVl hgd hg hb hne hr hR1 hR2 hR4 hik hsz hW1 hd1 hgl hvl ho1 hs1 hRl hL2 hl2 hW2 hd2 hd2' ho2 hL3 hl3 hW3 h8 h82 hi0 hz0 hz1
 go_enter Tryz.func70, Tryz.ntmps70
 go_wp2_with fail
 refine wp_region_mid (fun _ => True) 12 12 mixed (by kernel_rfl) (fun _ _ _ _ h => h) trivial ?_
 dsimp only [List.take, List.drop]
 iterate 12
  refine take_one (v := ?_) (by rfl) ?_ ?_
  rotate_left
  ·rintro w' _
   go_simp
   try with_reducible rfl
  try simp only [Act.put, List.setIfInBounds_toArray, List.set_cons_zero, List.set_cons_succ]
 show wpList _ _ _ _ _ _
 go_wp2_with (first | (at_builtin; refine Lib.wpList_append_run _ rfl _ _ _ _ rfl _ _ rfl rfl _ _ hap.out ?_) | simp only [hcp1.out, Result.andThen_ok])
 refine wp_region_mid (fun _ => True) 9 9 mixed (by kernel_rfl) (fun _ _ _ _ h => h) trivial ?_
 dsimp only [List.take, List.drop]
 iterate 9
  refine take_one (v := ?_) (by rfl) ?_ ?_
  rotate_left
  ·rintro w' _
   go_simp
   try with_reducible rfl
  try simp only [Act.put, List.setIfInBounds_toArray, List.set_cons_zero, List.set_cons_succ]
 show wpList _ _ _ _ _ _
 refine wpList_run_copy _ rfl _ _ 130 130 rfl _ _ rfl rfl _ _ (hcp2.out _ _ _) ?_
 go_wp2
 go_ret
 exact ⟨_, rfl, FIN.out.1, FIN.out.2⟩
end Go.Proofs.YtgmkknonnidgaaaGreat

namespace Go.Proofs.YtgmkknonnidgaaaGreat
open Go.RowKit
theorem rplc_end (bs now : List Br) (i : Nat) : rplc bs i bs.length now = bs.take i ++ now := by unfold rplc; rw [List.drop_length, List.append_nil]
set_option maxRecDepth 100000 in
set_option maxHeartbeats 4000000 in
theorem prep_endN (w : World) (bs : List Br) (g cap i : Nat) (cur : Array Value) (hg : w.heap[g]? = some (.cells cur 133 (0, 0))) (hcs : cur.size = cap * 2) (hct : cur.toList.take (bs.length * 2) = bcl bs) (hcm : cap ≤ 9223372036854775807) (hkc : bs.length ≤ cap) (hl : bs.length ≤ 1000) (hij : i < bs.length) :
  Calls Tryz.prog 70 #[.slice (some ⟨g, 0, none⟩) bs.length cap, .int .i64 (i : Int), .int .i64 (bs.length : Int), .slice none 0 0] w fun e w' => ∃ v', e = .returned v' ∧ OwnBr g w' v' (rplc bs i bs.length []) ∧ w.grownBy w' (some g) := by
 have hcl : cur.toList.length = cap * 2 := by rw [Array.length_toList]; exact hcs
 have hAt := rep_front hct (show i ≤ bs.length by omega)
 have hAl : (bcl (bs.take i)).length = i * 2 := by rw [bcl_len, List.length_take]; congr 1; omega
 obtain ⟨i0, hi0, hz0, hz1, hz2⟩ := info_parts infoBr
 have hown : w.ownsRow g 133 2 (.slice (some ⟨g, 0, none⟩) i cap) i (bcl (bs.take i)) := ⟨hAl, .inr ⟨g, cap, cur, rfl, Nat.le_refl _, hg, by omega, by unfold maxLen; exact hcm, hcs, hAt⟩⟩
 have hap : Hid ((Builtin.append_ #[130, 130] 130 #[.slice (some ⟨g, 0, none⟩) i cap, .slice none 0 0]).run Tryz.prog w = .ok (.slice (some ⟨g, 0, none⟩) i cap) w) :=
  run_append_owned_none (P := Tryz.prog) (w := w) g 130 _ 133 i0 2 Tryz.underlying130 hi0 _ i _ hown
 obtain ⟨L3, hL3⟩ : ∃ L, L = seg cur.toList (i * 2) (Builtin.zeroCells (Value.agg #[.string ⟨#[]⟩, .int .i64 0]).cells (bs.length - i)).toList := ⟨_, rfl⟩
 have hl3 : L3.length = cap * 2 := by rw [hL3, seg_len (by rw [zbl]; omega)]; exact hcl
 have hcr : Hid (∀ ty c, (Builtin.clear_ #[130] ty #[.slice (some ⟨g, i * 2, none⟩) (bs.length - i) c]).run Tryz.prog w = .ok (.tuple #[]) (w.setRow g L3.toArray)) := fun ty c => by
  have h9 := run_clearN (P := Tryz.prog) w 130 133 ty _ 2 g (i * 2) (bs.length - i) c cur 133 Tryz.underlying130 zeroBr rfl zb_one hg (by rw [hcs]; omega) (by omega)
  rw [h9, hL3]
 have FIN : Hid (OwnBr g (w.setRow g L3.toArray) (.slice (some ⟨g, 0, none⟩) i cap) (rplc bs i bs.length []) ∧ w.grownBy (w.setRow g L3.toArray) (some g)) := by
  have h9 := rep_own (now := []) (j := bs.length) (w0 := w) hg (show i + ([] : List Br).length + (bs.length - bs.length) ≤ cap by simp; omega) hcm hl3 (show i ≤ bs.length by omega) (by
   rw [hL3]
   simp only [List.length_nil, Nat.add_zero, Nat.sub_self]
   rw [seg_take (by rw [zbl]; omega) (Nat.le_refl _), hAt]
   simp [bcl]) (World.grownBy.refl _ _)
  simp only [List.length_nil, Nat.add_zero, Nat.sub_self] at h9
  exact h9
 obtain ⟨n, hn⟩ : ∃ n, n = bs.length := ⟨_, rfl⟩
 rw [← hn] at hcr FIN hij ⊢
 have f7 : ((i : Int) == (n : Int)) = false := by simp; omega
 have f8 : ((n : Int) == (n : Int)) = true := by simp
 have f10 : ¬ (cap = i) := by omega
 have f16 : i ≤ n := by omega
 have f20 : i ≤ cap := by omega
 have f24 : n ≤ cap := by omega
 have f21 : (i : Int) < (n : Int) := by omega
 replace hn := hide hn
 clear hcs hct hcl hAt hAl hg hL3 hl3 hown hi0 hz0 hz1
 go_enter Tryz.func70, Tryz.ntmps70
 go_wp2_with (first | (at_builtin; refine Lib.wpList_append_run _ rfl _ _ _ _ rfl _ _ rfl rfl _ _ hap.out ?_) | simp only [hcr.out, Result.andThen_ok])
 go_ret
 exact ⟨_, rfl, FIN.out.1, FIN.out.2⟩
set_option maxRecDepth 100000 in
set_option maxHeartbeats 4000000 in
theorem prep_endC (w : World) (bs now : List Br) (g cap i : Nat) (cur : Array Value) (hg : w.heap[g]? = some (.cells cur 133 (0, 0))) (hcs : cur.size = cap * 2) (hct : cur.toList.take (bs.length * 2) = bcl bs) (hcm : cap ≤ 9223372036854775807) (hkc : bs.length ≤ cap) (hl : bs.length ≤ 1000) (hij : i < bs.length) (gn : Nat) (hb : w.heap[gn]? = some (.cells (bcl now).toArray 133 (0, 0))) (hne : g ≠ gn) (hm0 : 0 < now.length) (hlt : i + now.length < bs.length) :
  Calls Tryz.prog 70 #[.slice (some ⟨g, 0, none⟩) bs.length cap, .int .i64 (i : Int), .int .i64 (bs.length : Int), .slice (some ⟨gn, 0, none⟩) now.length now.length] w fun e w' => ∃ v', e = .returned v' ∧ OwnBr g w' v' (rplc bs i bs.length now) ∧ w.grownBy w' (some g) := by
 have hcl : cur.toList.length = cap * 2 := by rw [Array.length_toList]; exact hcs
 have hAt := rep_front hct (show i ≤ bs.length by omega)
 have hAl : (bcl (bs.take i)).length = i * 2 := by rw [bcl_len, List.length_take]; congr 1; omega
 have hVl := bcl_len now
 obtain ⟨i0, hi0, hz0, hz1, hz2⟩ := info_parts infoBr
 obtain ⟨L1, hL1⟩ : ∃ L, L = seg cur.toList (i * 2) (bcl now) := ⟨_, rfl⟩
 have hl1 : L1.length = cap * 2 := by rw [hL1, seg_len (by rw [hVl]; omega)]; exact hcl
 obtain ⟨W1, hW1⟩ : ∃ W, W = w.setRow g L1.toArray := ⟨_, rfl⟩
 have hg1 : W1.heap[g]? = some (.cells L1.toArray 133 (0, 0)) := by rw [hW1]; exact setRow_heap _ g cur _ _ _ hg
 have hap : Hid ((Builtin.append_ #[130, 130] 130 #[.slice (some ⟨g, 0, none⟩) i cap, .slice (some ⟨gn, 0, none⟩) now.length now.length]).run Tryz.prog w = .ok (.slice (some ⟨g, 0, none⟩) (i + now.length) cap) W1) := by
  have h9 := run_append_room (P := Tryz.prog) w 130 130 133 i0 Tryz.underlying130 hi0 g i cap cur hg ⟨gn, 0, none⟩ now.length now.length (bcl now) (by rw [hz1]; exact hVl) (fun q v hq => by
   rw [Addr.add_lit, cell_rowB hb]
   simpa using hq) (bcl_one _) (by omega) (by rw [hz1, hVl, hcs]; omega)
  show _ = _
  rw [h9, hW1, hL1, hz1]
  rfl
 obtain ⟨L3, hL3⟩ : ∃ L, L = seg L1 ((i + now.length) * 2) (Builtin.zeroCells (Value.agg #[.string ⟨#[]⟩, .int .i64 0]).cells (bs.length - (i + now.length))).toList := ⟨_, rfl⟩
 have hl3 : L3.length = cap * 2 := by rw [hL3, seg_len (by rw [zbl]; omega)]; exact hl1
 have hcr : Hid (∀ ty c, (Builtin.clear_ #[130] ty #[.slice (some ⟨g, (i + now.length) * 2, none⟩) (bs.length - (i + now.length)) c]).run Tryz.prog W1 = .ok (.tuple #[]) (W1.setRow g L3.toArray)) := fun ty c => by
  have h9 := run_clearN (P := Tryz.prog) W1 130 133 ty _ 2 g ((i + now.length) * 2) (bs.length - (i + now.length)) c L1.toArray 133 Tryz.underlying130 zeroBr rfl zb_one hg1 (by rw [List.size_toArray]; omega) (by omega)
  rw [h9, hL3]
 have hgr : w.grownBy W1 (some g) := by
  rw [hW1]
  exact ⟨rfl, rfl, rfl, by simp, fun k hk h2 => (setRow_other _ _ _ _ (fun e => h2 (by rw [e]))).trans rfl⟩
 have FIN : Hid (OwnBr g (W1.setRow g L3.toArray) (.slice (some ⟨g, 0, none⟩) (i + now.length) cap) (rplc bs i bs.length now) ∧ w.grownBy (W1.setRow g L3.toArray) (some g)) := by
  have h9 := rep_own (j := bs.length) (w0 := w) hg1 (show i + now.length + (bs.length - bs.length) ≤ cap by omega) hcm hl3 (show i ≤ bs.length by omega) (by
   rw [hL3]
   simp only [Nat.sub_self, Nat.add_zero]
   rw [seg_take (by rw [zbl]; omega) (Nat.le_refl _), hL1, seg, hAt, List.drop_length, List.take_left' (by rw [List.length_append, hAl, hVl]; omega)]
   simp [bcl]) hgr
  simp only [Nat.add_zero, Nat.sub_self] at h9
  exact h9
 obtain ⟨n, hn⟩ : ∃ n, n = bs.length := ⟨_, rfl⟩
 obtain ⟨m, hm⟩ : ∃ m, m = now.length := ⟨_, rfl⟩
 obtain ⟨IM, hIM⟩ : ∃ q, q = i + now.length := ⟨_, rfl⟩
 rw [← hIM] at hap hcr FIN hlt
 rw [← hm] at hap ⊢
 rw [← hn] at hcr FIN hij hlt ⊢
 have f7 : ((i : Int) == (n : Int)) = false := by simp; omega
 have f8 : ((n : Int) == (n : Int)) = true := by simp
 have f10 : ¬ (cap = i) := by omega
 have f16 : i ≤ n := by omega
 have f20 : i ≤ cap := by omega
 have f24 : n ≤ cap := by omega
 have f21 : (IM : Int) < (n : Int) := by omega
 have f22 : ¬ (cap = IM) := by omega
 have f23 : IM ≤ n := by omega
 replace hn := hide hn
 replace hm := hide hm
 replace hIM := hide hIM
 clear hcs hct hcl hAt hAl hg hb hne hL1 hl1 hW1 hg1 hL3 hl3 hgr hVl hi0 hz0 hz1
 go_enter Tryz.func70, Tryz.ntmps70
 go_wp2_with (first | (at_builtin; refine Lib.wpList_append_run _ rfl _ _ _ _ rfl _ _ rfl rfl _ _ hap.out ?_) | simp only [hcr.out, Result.andThen_ok])
 go_ret
 exact ⟨_, rfl, FIN.out.1, FIN.out.2⟩
set_option maxRecDepth 100000 in
set_option maxHeartbeats 4000000 in
theorem prep_endD (w : World) (bs now : List Br) (g cap i : Nat) (cur : Array Value) (hg : w.heap[g]? = some (.cells cur 133 (0, 0))) (hcs : cur.size = cap * 2) (hct : cur.toList.take (bs.length * 2) = bcl bs) (hcm : cap ≤ 9223372036854775807) (hkc : bs.length ≤ cap) (hl : bs.length ≤ 1000) (hij : i < bs.length) (gn : Nat) (hb : w.heap[gn]? = some (.cells (bcl now).toArray 133 (0, 0))) (hne : g ≠ gn) (hm0 : 0 < now.length) (hm2 : now.length ≤ 2) (hlt : bs.length ≤ i + now.length) :
  Calls Tryz.prog 70 #[.slice (some ⟨g, 0, none⟩) bs.length cap, .int .i64 (i : Int), .int .i64 (bs.length : Int), .slice (some ⟨gn, 0, none⟩) now.length now.length] w fun e w' => ∃ v', e = .returned v' ∧ OwnBr g w' v' (rplc bs i bs.length now) ∧ w.grownBy w' (some g) := by
 have hcl : cur.toList.length = cap * 2 := by rw [Array.length_toList]; exact hcs
 have hAt := rep_front hct (show i ≤ bs.length by omega)
 have hAl : (bcl (bs.take i)).length = i * 2 := by rw [bcl_len, List.length_take]; congr 1; omega
 have hVl := bcl_len now
 obtain ⟨i0, hi0, hz0, hz1, hz2⟩ := info_parts infoBr
 have hown : w.ownsRow g 133 2 (.slice (some ⟨g, 0, none⟩) i cap) i (bcl (bs.take i)) := ⟨hAl, .inr ⟨g, cap, cur, rfl, Nat.le_refl _, hg, by omega, by unfold maxLen; exact hcm, hcs, hAt⟩⟩
 obtain ⟨g', c', W1, hap, ho, hgr, _, _⟩ := run_append_lies (P := Tryz.prog) w 130 130 g 133 i0 _ 2 24 Tryz.underlying130 hi0 hz0 hz1 hz2 rfl (by decide) _ i _ hown ⟨gn, 0, none⟩ now.length now.length (bcl now) hVl (fun q v hq => by
   rw [Addr.add_lit, cell_rowB hb]
   simpa using hq) (bcl_one _) hm0 (by unfold maxLen; omega) (by omega) (Nat.le_of_lt (lt_of_block hg)) _ rfl
 have FIN : Hid (OwnBr g W1 (.slice (some ⟨g', 0, none⟩) (i + now.length) c') (rplc bs i bs.length now) ∧ w.grownBy W1 (some g)) := by
  refine ⟨?_, hgr⟩
  show World.ownsRow _ _ _ _ _ _ _
  rw [rplc_end, bcl_app, show (bs.take i ++ now).length = i + now.length by rw [List.length_append, List.length_take]; omega]
  exact ho
 replace hap := hide hap
 obtain ⟨n, hn⟩ : ∃ n, n = bs.length := ⟨_, rfl⟩
 obtain ⟨m, hm⟩ : ∃ m, m = now.length := ⟨_, rfl⟩
 obtain ⟨IM, hIM⟩ : ∃ q, q = i + now.length := ⟨_, rfl⟩
 rw [← hIM] at hap FIN hlt
 rw [← hm] at hap ⊢
 rw [← hn] at FIN hij hlt ⊢
 have f7 : ((i : Int) == (n : Int)) = false := by simp; omega
 have f8 : ((n : Int) == (n : Int)) = true := by simp
 have f10 : ¬ (cap = i) := by omega
 have f16 : i ≤ n := by omega
 have f20 : i ≤ cap := by omega
 have f24 : n ≤ cap := by omega
 have f21 : ¬ (IM : Int) < (n : Int) := by omega
 replace hn := hide hn
 replace hm := hide hm
 replace hIM := hide hIM
 clear hcs hct hcl hAt hAl hg hb hne hVl hi0 hz0 hz1 hown ho hgr
 go_enter Tryz.func70, Tryz.ntmps70
 go_wp2_with (at_builtin; refine Lib.wpList_append_run _ rfl _ _ _ _ rfl _ _ rfl rfl _ _ hap.out ?_)
 go_ret
 exact ⟨_, rfl, FIN.out.1, FIN.out.2⟩
theorem prepl_any (B : Nat) (w : World) (v u : Value) (bs now : List Br) (i j : Nat) (h : OwnBr B w v bs) (hB : B ≤ w.heap.size) (hnow : (u = .slice none 0 0 ∧ now = []) ∨ (∃ gn, u = .slice (some ⟨gn, 0, none⟩) now.length now.length ∧ 0 < now.length ∧ w.heap[gn]? = some (.cells (bcl now).toArray 133 (0, 0)) ∧ ∀ b, v.ownBlock = some b → b ≠ gn))
  (hm2 : now.length ≤ 2) (hij : i < j) (hj : j ≤ bs.length) (hl : bs.length ≤ 1000) :
  Calls Tryz.prog 70 #[v, .int .i64 (i : Int), .int .i64 (j : Int), u] w fun e w' => ∃ v', e = .returned v' ∧ OwnBr B w' v' (rplc bs i j now) ∧ w.grownBy w' v.ownBlock := by
 obtain ⟨g, cap, cur, rfl, hBg, hg, hkc, hcm, hcs, hct⟩ := own_block h (by omega)
 unfold maxLen at hcm
 have hfin : ∀ (e : Ending) (w' : World), (∃ v', e = .returned v' ∧ OwnBr g w' v' (rplc bs i j now) ∧ w.grownBy w' (some g)) → ∃ v', e = .returned v' ∧ OwnBr B w' v' (rplc bs i j now) ∧ w.grownBy w' (Value.slice (some ⟨g, 0, none⟩) bs.length cap).ownBlock := by
  rintro e w' ⟨v', rfl, o, gr⟩
  exact ⟨v', rfl, rows_mono o hBg, gr⟩
 rcases hnow with ⟨rfl, rfl⟩ | ⟨gn, rfl, hm0, hb, hne⟩
 ·by_cases hje : j = bs.length
  ·subst hje
   exact (prep_endN w bs g cap i cur hg hcs hct hcm hkc hl hij).mono hfin
  ·exact (prep_gone w bs g cap i j cur hg hcs hct hcm hkc hl hij (by omega)).mono hfin
 ·have hgn : g ≠ gn := hne g rfl
  by_cases hje : j = bs.length
  ·subst hje
   by_cases hlt : i + now.length < bs.length
   ·exact (prep_endC w bs now g cap i cur hg hcs hct hcm hkc hl hij gn hb hgn hm0 hlt).mono hfin
   ·exact (prep_endD w bs now g cap i cur hg hcs hct hcm hkc hl hij gn hb hgn hm0 hm2 (by omega)).mono hfin
  ·by_cases hroom : i + now.length + (bs.length - j) ≤ cap
   ·by_cases hx : i + now.length ≤ j
    ·by_cases he : i + now.length = j
     ·by_cases hcap : cap = bs.length
      ·exact (prep_fitA w bs now g cap i j cur hg hcs hct hcm hkc hl hij gn hb hgn (by omega) hx hm0 he hcap).mono hfin
      ·exact (prep_fitB w bs now g cap i j cur hg hcs hct hcm hkc hl hij gn hb hgn (by omega) hx hm0 he hcap).mono hfin
     ·exact (prep_fitC w bs now g cap i j cur hg hcs hct hcm hkc hl hij gn hb hgn (by omega) hx hm0 (by omega)).mono hfin
    ·exact (prep_exp w bs now g cap i j cur hg hcs hct hcm hkc hl hij gn hb hgn (by omega) (by omega) hm2 hroom).mono hfin
   ·refine (prep_grow w bs now g cap i j cur hg hcs hct hcm hkc hl hij gn hb hgn (by omega) hm0 hm2 (by omega)).mono ?_
    rintro e w' ⟨v', rfl, o, gr⟩
    exact ⟨v', rfl, rows_mono o hB, gr⟩
end Go.Proofs.YtgmkknonnidgaaaGreat
