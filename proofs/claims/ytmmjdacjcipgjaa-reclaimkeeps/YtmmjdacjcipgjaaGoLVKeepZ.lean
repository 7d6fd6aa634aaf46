/- Several texts in one: TPG TPH LVKeep. -/
import Derived.Deep.QuietTactic
import Derived.BigQuiet
import Derived.Laws.Cover1
import Derived.Test.YtmmjdacjcipgjaaGoLVKeep3
import Derived.Test.YtmmjdacjcipgjaaGoLVKeep5
import Derived.Test.YtmmjdacjcipgjaaGoLVKeep2
set_option linter.unusedVariables false
set_option linter.unusedSimpArgs false
namespace Go.Proofs.Ytmmjdacjcipgjaa
open Go.RowKit
theorem wpList_appQ {ops : Array Oper} {rest : List Oper} {o : Oper} {a : Act} {w : World} {Q : Exit → Act → World → Prop} (hgd : o.guard = none) (s x : Operand)
  (ho : o.op = .call { callee := .builtin .append, args := #[s, x], argTypes := #[30, 30] }) (B : Nat) (v : Value) (xs : List Pr) (y : Pr) (g : Nat) (hs : a.eval s = v) (hx : a.eval x = .slice (some ⟨g, 0, none⟩) 1 1)
  (hown : OwnP B w v xs) (hc1 : w.cell? ⟨g, 0, none⟩ = some (st y.1)) (hc2 : w.cell? ⟨g, 1, none⟩ = some (st y.2)) (hlen : (xs.length + 1) * 32 ≤ 140737488355328) (hB : B ≤ w.heap.size)
  (h : ∀ v' w', OwnP B w' v' (xs ++ [y]) → w.grownBy w' v.ownBlock → wpList Try.prog ops Q rest (a.put o.dst v') w') : wpList Try.prog ops Q (o :: rest) a w := by
 obtain ⟨i0, hi, hz0, hz1, hz2⟩ := info_parts infoP
 have n2 : ∀ j u, (pcl [y])[j]? = some u → w.cell? ((⟨g, 0, none⟩ : Addr).add j) = some u := by
  intro j u hj
  match j, hj with
  | 0, hj => simp [pcl] at hj; subst hj; simpa [Addr.add] using hc1
  | 1, hj => simp [pcl] at hj; subst hj; simpa [Addr.add] using hc2
  | j + 2, hj => simp [pcl] at hj
 refine wpList_append_own _ hgd s x 30 ho B 83 i0 (.agg #[.string ⟨#[]⟩, .string ⟨#[]⟩]) 2 32 Try.underlying30 hi hz0 hz1 hz2 rfl (by decide) v xs.length (pcl xs) hs hown ⟨g, 0, none⟩ 1 1 (pcl [y]) hx rfl n2 (one_pcl [y])
  (by rw [show maxLen = 9223372036854775807 from rfl]; omega) hlen hB ?_
 intro v' w' h1 h2 _
 refine h v' w' ?_ h2
 show World.ownsRow _ _ _ _ _ _ _
 rw [pcl_app]
 simpa using h1
structure KSc (C : Nat) (w w' : World) : Prop where
 typ : ∀ e, e ≠ 30 → e ≠ 83 → KeepT e w w'
 map : ∀ (b : Nat) es c, w.heap[b]? = some (.map es c) → w'.heap[b]? = some (.map es c)
 bel : Below C w w'
theorem KSc.of {C : Nat} {w w' : World} (h : Below w.heap.size w w') (hC : C ≤ w.heap.size) : KSc C w w' := ⟨fun e _ _ => KeepT.below h, fun b es c x => (h.block b (lt_of_block x)).trans x, h.mono hC⟩
theorem KSc.refl (C : Nat) (w : World) : KSc C w w := ⟨fun e _ _ => KeepT.refl _ _, fun b es c x => x, Below.refl _ _⟩
theorem KSc.trans {C : Nat} {a b c : World} (h : KSc C a b) (k : KSc C b c) : KSc C a c := ⟨fun e h1 h2 => (h.typ e h1 h2).trans (k.typ e h1 h2), fun i es q x => k.map i es q (h.map i es q x), h.bel.trans k.bel⟩
theorem KSc.app {C : Nat} {w w' : World} {v : Value} {xs : List Pr} {B : Nat} (ho : OwnP B w v xs) (hg : w.grownBy w' v.ownBlock) (hB : C ≤ B) (hC : C ≤ w.heap.size) : KSc C w w' := by
 refine ⟨fun e _ h2 => KeepT.grown ho hg h2, fun b es c x => ?_, (Below.refl _ _).grown hg hC (fun k hk => Nat.le_trans hB (World.ownsRow.lt ho k hk).1)⟩
 refine (hg.block b (lt_of_block x) fun h => ?_).trans x
 rcases ho.2 with ⟨hn, _⟩ | ⟨g, cap, cur, hv, _, hg', _⟩
 ·rw [hn] at h; cases h
 ·rw [hv] at h
  simp only [Value.ownBlock, Option.some.injEq] at h
  subst h
  rw [x] at hg'
  cases hg'
theorem KSc.set {C : Nat} {w : World} {g : Nat} {cs : Array Value} (h : w.heap[g]? = some (.cells cs 30 (0, 0))) (hC : C ≤ g) (i : Nat) (x : Value) : KSc C w (w.setCell ⟨g, i, none⟩ x) := by
 refine ⟨fun e h1 _ => KeepT.set (a := ⟨g, i, none⟩) h h1 x, fun b es c y => ?_, (Below.refl _ _).setCell hC _⟩
 refine (Below.heap_setCell _ _ _ _ fun h' => ?_).trans y
 dsimp only at h'
 rw [h', h] at y
 cases y
structure ScI (C : Nat) (w : World) (ga gp : Nat) (fr tw : Str) (out : List Pr) : Prop where
 ask : w.heap[ga]? = some (.cells #[st fr, st tw] 75 (0, 0))
 var : ∃ v, w.heap[gp]? = some (.cells #[v] 30 (0, 0)) ∧ OwnP C w v out
 hC : C ≤ gp
theorem ScI.to {C : Nat} {w w' : World} {ga gp : Nat} {fr tw : Str} {out : List Pr} (h : ScI C w ga gp fr tw out) (b : Below w.heap.size w w') : ScI C w' ga gp fr tw out := by
 obtain ⟨v, h1, h2⟩ := h.var
 exact ⟨(b.block _ (lt_of_block h.ask)).trans h.ask, ⟨v, (b.block _ (lt_of_block h1)).trans h1, rows_to h2 b⟩, h.hC⟩
theorem ScI.app {C : Nat} {w wA w5 : World} {ga gp : Nat} {fr tw : Str} {out : List Pr} {y : Pr} {v v5 : Value} (h : ScI C w ga gp fr tw out) (hv : w.heap[gp]? = some (.cells #[v] 30 (0, 0))) (ho : OwnP C w v out) (bA : Below w.heap.size w wA) (hC : C ≤ w.heap.size)
  (o5 : OwnP C w5 v5 (out ++ [y])) (g5 : wA.grownBy w5 v.ownBlock) : ScI C (w5.setCell ⟨gp, 0, none⟩ v5) ga gp fr tw (out ++ [y]) ∧ KSc C w (w5.setCell ⟨gp, 0, none⟩ v5) ∧ w5.cell? ⟨gp, 0, none⟩ = some v ∧ w5.frozen? ⟨gp, 0, none⟩ = false := by
 have k1 := KSc.of bA hC
 have k2 := KSc.app (C := C) (rows_to ho bA) g5 (Nat.le_refl _) (Nat.le_trans hC bA.size)
 have hA := (bA.block _ (lt_of_block hv)).trans hv
 have h5 := KeepT.grown (rows_to ho bA) g5 (e := 30) (by decide) _ _ _ hA
 have k3 := KSc.set (C := C) h5 h.hC 0 v5
 refine ⟨⟨(((k1.trans k2).trans k3).typ _ (by decide) (by decide)) _ _ _ h.ask, ⟨v5, ?_, rows_keepT o5 (KeepT.set (a := ⟨gp, 0, none⟩) h5 (by decide) v5)⟩, h.hC⟩, (k1.trans k2).trans k3, cellN h5 rfl, frozN h5 0⟩
 have := heap_setN h5 0 v5
 simpa using this
def hiOf (tw : Str) : Option Str := if tw = [] then none else some tw
theorem hiOf_ok (tw : Str) : HiOk (hiOf tw) ∧ (hiOf tw).getD [] = tw := by
 unfold hiOf HiOk
 by_cases h : tw = []
 ·subst h; simp
 ·simp [h]
theorem pin_kin (fr tw : Str) (y : Pr) : pin fr tw y = kin fr (hiOf tw) y.1 := by
 rw [kin_ok (hiOf_ok tw).1, (hiOf_ok tw).2]; rfl
theorem npr_at {nd : Nd} {k : Nat} {a b : Str} (h1 : nd.keys[k]? = some a) (h2 : nd.vals[k]? = some b) : (npr nd)[k]? = some (a, b) := by simp [npr, List.getElem?_zip_eq_some, h1, h2]
set_option maxRecDepth 100000 in
set_option maxHeartbeats 4000000 in
theorem pscl_any (C : Nat) (w : World) (ga gp : Nat) (fr tw : Str) (out : List Pr) (nd : Nd) (kv vv dv : Value) {B : Nat} (hS : ScI C w ga gp fr tw out) (hC : C ≤ w.heap.size) (hN : OwnN B w kv vv dv nd) (hlv : nd.vals.length = nd.keys.length) (hlen : out.length + (npr nd).length ≤ 4096) :
  Calls Try.prog 32 #[nv nd kv vv dv, .pointer (some ⟨ga, 0, none⟩), .pointer (some ⟨gp, 0, none⟩)] w fun e w' => e = .returned (.tuple #[]) ∧ ScI C w' ga gp fr tw (out ++ pscan (npr nd) fr tw) ∧ KSc C w w' := by
 have hnl : (npr nd).length = nd.keys.length := by rw [npr, List.length_zip, hlv, Nat.min_self]
 obtain ⟨X, hX, DX, bX, sX⟩ := boxedN w #[.bool nd.leaf, kv, vv, dv] 79
 have HS := hide (hS.to bX)
 have HK := hide (KSc.of bX hC)
 have HN := hide (hN.to bX)
 have HD := hide DX
 obtain ⟨ka, kc, va, vc, da, dc, rfl, rfl, rfl⟩ := hN.rd.slices
 obtain ⟨⟨E0, E1, E2, E3⟩, EF⟩ := cells4 DX
 rw [hX] at E0 E1 E2 E3 EF
 obtain ⟨K, hK⟩ : ∃ K, K = nd.keys.length := ⟨_, rfl⟩
 have hKb : K ≤ 4096 := by omega
 replace hlen := hide hlen
 replace hnl := hide hnl
 replace hlv := hide hlv
 have hCX : Hid (C ≤ w.heap.size) := hC
 clear hS hN DX bX hC
 dsimp only [nv]
 go_enter Try.func32, Try.ntmps32
 go_wp2
 rw [← hX]
 rw [← hK] at HD HN ⊢
 replace hX := hide hX
 replace hK := hide hK
 clear E0 E1 E2 E3 EF
 obtain ⟨nb, hnb⟩ : ∃ nb, nb = w.heap.size := ⟨_, rfl⟩
 rw [← hnb] at HD ⊢
 have hCX2 : Hid (C ≤ X.heap.size) := by show _ ≤ _; have := hCX.out; omega
 clear hnb sX
 go_loopw [9] (fun p wr => ∃ i : Nat, i ≤ K ∧ p = .int .i64 i ∧ Hid (ScI C wr ga gp fr tw (out ++ pscan ((npr nd).take i) fr tw) ∧ KSc C X wr)) (fun p _ => K - (intOf p).toNat)
 case atStart => exact ⟨0, Nat.zero_le _, rfl, hide ⟨by simpa [pscan] using HS.out, KSc.refl _ _⟩⟩
 case round =>
  obtain ⟨i, hi, rfl, hI⟩ := hrel
  have D6 := hI.out.2.typ _ (by decide) (by decide) _ _ _ HD.out
  have N6 := HN.out.keepT (hI.out.2.typ _ (by decide) (by decide)) (hI.out.2.typ _ (by decide) (by decide))
  obtain ⟨⟨E0, E1, E2, E3⟩, EF⟩ := cells4 D6
  obtain ⟨⟨A0, A1⟩, AF⟩ := cells2r hI.out.1.ask
  by_cases hlt : i < K
  ·have hq : (i : Int) < (K : Int) := by omega
   obtain ⟨y1, hy1⟩ := some_el nd.keys (k := i) (by rw [← hK.out]; exact hlt)
   obtain ⟨y2, hy2⟩ := some_el nd.vals (k := i) (by rw [hlv.out, ← hK.out]; exact hlt)
   have hpa := hide (npr_at hy1 hy2)
   have hsn := hide (pscan_snoc (npr nd) fr tw hpa.out)
   obtain ⟨b, off, e1, hc1⟩ := N6.rd.keys.strAt hy1
   subst e1
   have KL := hide (placks_any wr fr (hiOf tw) y1 (hiOf_ok tw).1)
   dsimp only [sv] at KL
   rw [(hiOf_ok tw).2, ← pin_kin fr tw (y1, y2)] at KL
   have HD6 := hide D6
   have HN6 := hide N6
   clear D6 N6
   go_wp2_with fail
   refine KL.out.mono ?_
   rintro e w1 ⟨rfl, b1⟩
   have I1 := hide (And.intro (hI.out.1.to b1) (hI.out.2.trans (KSc.of b1 (Nat.le_trans hCX2.out hI.out.2.bel.size))))
   have D7 := (b1.block _ (lt_of_block HD6.out)).trans HD6.out
   have N7 := HN6.out.to b1
   have hC1 : Hid (C ≤ w1.heap.size) := Nat.le_trans (Nat.le_trans hCX2.out hI.out.2.bel.size) b1.size
   clear E0 E1 E2 E3 EF A0 A1 AF hc1 KL hI HD6 HN6 b1
   obtain ⟨⟨E0, E1, E2, E3⟩, EF⟩ := cells4 D7
   cases hp : pin fr tw (y1, y2) with
   | false =>
    rw [hp, if_neg (by simp)] at hsn
    replace hp := hide hp
    go_wp2
    go_roundw
    case rel => exact ⟨i + 1, by omega, by go_num, by rw [hsn.out]; exact I1⟩
    case measure => simp [intOf]; omega
   | true =>
    rw [hp, if_pos rfl, ] at hsn
    obtain ⟨b2, off2, e2, hc2⟩ := N7.rd.vals.strAt hy2
    subst e2
    have hq2 : (i : Int) < (nd.vals.length : Int) := by have := hlv.out; have := hK.out; omega
    obtain ⟨v, v1, v2⟩ := I1.out.1.var
    obtain ⟨cur, hcur⟩ : ∃ c, c = out ++ pscan ((npr nd).take i) fr tw := ⟨_, rfl⟩
    rw [← hcur] at v2
    have hn : (cur.length + 1) * 32 ≤ 140737488355328 := by
     have h1 := List.length_filter_le (pin fr tw) ((npr nd).take i)
     have h2 := List.length_take_le' i (npr nd)
     have h3 := hlen.out
     have h4 : cur.length = out.length + (pscan ((npr nd).take i) fr tw).length := by rw [hcur, List.length_append]
     have h5 : (pscan ((npr nd).take i) fr tw).length ≤ (npr nd).length := Nat.le_trans h1 h2
     omega
    obtain ⟨pa, pc, rfl⟩ := (OwnP.rd v2).slice
    obtain ⟨WA, hWA⟩ : ∃ WA, WA = (w1.alloc (.cells #[st y1, st y2] 83)).drew := ⟨_, rfl⟩
    obtain ⟨wa, hwa, DA, bA0, sA⟩ := boxedN w1 #[st y1, st y2] 83
    have bA : Below w1.heap.size w1 WA := by rw [hWA, ← hwa]; exact bA0.trans (below_drewN' wa 1 _)
    have nc0 : WA.cell? ⟨w1.heap.size, 0, none⟩ = some (st y1) := by rw [hWA, ← hwa]; exact ((below_drewN' wa 1 wa.heap.size).cell (p := ⟨w1.heap.size, _, none⟩) (lt_of_block DA)).trans (cellN DA rfl)
    have nc1 : WA.cell? ⟨w1.heap.size, 1, none⟩ = some (st y2) := by rw [hWA, ← hwa]; exact ((below_drewN' wa 1 wa.heap.size).cell (p := ⟨w1.heap.size, _, none⟩) (lt_of_block DA)).trans (cellN DA rfl)
    have hsz : C ≤ WA.heap.size := Nat.le_trans hC1.out bA.size
    obtain ⟨Lc, hLc⟩ : ∃ L, L = cur.length := ⟨_, rfl⟩
    have hOW : OwnP C WA (.slice pa Lc pc) cur := by rw [hLc]; exact rows_to v2 bA
    have FIN : ∀ v5 w5, OwnP C w5 v5 (cur ++ [(y1, y2)]) → WA.grownBy w5 (Value.slice pa Lc pc).ownBlock →
      Hid (ScI C (w5.setCell ⟨gp, 0, none⟩ v5) ga gp fr tw (out ++ pscan ((npr nd).take (i + 1)) fr tw) ∧ KSc C X (w5.setCell ⟨gp, 0, none⟩ v5)) ∧ w5.cell? ⟨gp, 0, none⟩ = some (.slice pa Lc pc) ∧ w5.frozen? ⟨gp, 0, none⟩ = false := fun v5 w5 o5 g5 => by
     have hs1 := I1.out.1
     rw [← hcur] at hs1
     rw [hLc] at g5
     obtain ⟨a1, a2, a3, a4⟩ := hs1.app v1 v2 bA hC1.out o5 g5
     rw [hsn.out, ← List.append_assoc, ← hcur, hLc]
     exact ⟨⟨a1, I1.out.2.trans a2⟩, a3, a4⟩
    have V1 := cellN v1 (i := 0) rfl
    rw [← hLc] at V1
    rw [hWA] at nc0 nc1 hOW hsz FIN
    replace nc0 := hide nc0
    replace nc1 := hide nc1
    replace hOW := hide hOW
    replace hsz := hide hsz
    replace FIN := hide FIN
    replace hn := hide hn
    replace hp := hide hp
    replace hcur := hide hcur
    replace hLc := hide hLc
    clear hWA hwa DA bA0 sA bA v1 v2
    go_wp2
    refine wp_region_mid (fun w' => w'.cell? ⟨gp, 0, none⟩ = some (.slice pa Lc pc) ∧ w'.cell? ⟨nb, 2, none⟩ = some (.slice (some ⟨b2, off2, none⟩) nd.vals.length vc) ∧ w'.cell? ⟨b2, off2 + i, none⟩ = some (st y2)) 7 9 mixed (by kernel_rfl) (fun _ _ _ _ h => h) ⟨V1, E2, hc2⟩ ?_
    dsimp only [List.take, List.drop]
    iterate 7
     refine take_one (v := ?_) (by rfl) ?_ ?_
     rotate_left
     ·rintro w' ⟨s1, s2, s3⟩
      go_simp
      try with_reducible rfl
     try simp only [Act.put, List.setIfInBounds_toArray, List.set_cons_zero, List.set_cons_succ]
    refine mid_one fun K hK => ?_
    rw [if_pos (by rfl)]
    go_simp
    refine hK _ _ ⟨V1, E2, hc2⟩ ?_
    clear hK K
    refine mid_one fun K hK => ?_
    rw [if_pos (by rfl)]
    go_simp
    refine hK _ _ ⟨cellAl V1 _, cellAl E2 _, cellAl hc2 _⟩ ?_
    clear hK K
    show wpList _ _ _ _ _ _
    refine wpList_appQ rfl _ _ rfl C (.slice pa Lc pc) cur (y1, y2) w1.heap.size rfl rfl hOW.out nc0.out nc1.out hn.out hsz.out ?_
    intro v5 w5 o5 g5
    obtain ⟨a5, c5, h5⟩ := (OwnP.rd o5).slice
    subst h5
    obtain ⟨F1, F2, F3⟩ := FIN.out _ w5 o5 g5
    generalize (cur ++ [(y1, y2)]).length = m5 at *
    clear o5 g5 FIN
    go_wp2
    go_roundw
    case rel => exact ⟨i + 1, by omega, by go_num, F1⟩
    case measure => simp [intOf]; omega
  ·have hq : ¬ (i : Int) < (K : Int) := by omega
   have htk : (npr nd).take i = npr nd := List.take_of_length_le (by rw [hnl.out, ← hK.out]; omega)
   rw [htk] at hI
   clear D6 N6
   go_wp2
   (try simp only [Exit.inBlock, Exit.then])
   first
    | refine bodyPost_ret (results_none rfl _ _ _) rfl ?_
    | refine bodyPost_end (results_none rfl _ _ _) rfl ?_
   exact ⟨rfl, hI.out.1, HK.out.trans hI.out.2⟩
end Go.Proofs.Ytmmjdacjcipgjaa

namespace Go.Proofs.Ytmmjdacjcipgjaa
open Go.RowKit
def ndPrs (l : List Wrt) (k : Nat) (nd : Nd) : List Pr := if nd.leaf = true then npr nd else nd.kids.flatMap (prsOf l k)
def SN (l : List Wrt) (S : List Int) (k : Nat) (nd : Nd) : Prop := NOk nd ∧ (nd.leaf = false → ∃ lo hi, ∀ (i : Nat) kid, nd.kids[i]? = some kid → WOk l S k kid (kidLo nd lo i) (kidHi nd hi i))
theorem SN.top {t : Tr} {s : Sw} (ht : twalk t = some s) {nd : Nd} (h : TopIs t nd) : SN t.pages s.seen 15 nd ∧ ndPrs t.pages 15 nd = s.prs := by
 rcases h with ⟨h0, rfl⟩ | ⟨h0, x, h1, h2⟩
 ·refine ⟨⟨nd0_ok, fun h => by cases h⟩, ?_⟩
  unfold twalk at ht
  rw [if_pos h0] at ht
  simp only [Option.some.injEq] at ht
  subst ht
  rfl
 ·obtain ⟨⟨a1, x', nd', b1, b2, b3, b4, b5⟩, c⟩ := root_seen ht h0
  rw [h1] at b1
  simp only [Option.some.injEq] at b1
  subst b1
  rw [h2] at b2
  simp only [Prod.mk.injEq, and_true] at b2
  subst b2
  refine ⟨⟨ndec_ok h2, fun hl => ⟨[], none, b5 hl⟩⟩, ?_⟩
  unfold ndPrs
  cases hl : nd.leaf with
  | true => rw [c, prsOf_leaf h1 h2 hl]; simp
  | false => rw [c, prsOf_inner h1 h2 hl]; simp
theorem SN.kid {l : List Wrt} {S : List Int} {k : Nat} {nd : Nd} (h : SN l S k nd) (hl : nd.leaf = false) {i : Nat} {kid : Int} (hk : nd.kids[i]? = some kid) :
  kid ∈ S ∧ ∃ k' x nd', k = k' + 1 ∧ tpage l kid = some x ∧ ndec x = (nd', 0) ∧ SN l S k' nd' ∧ ndPrs l k' nd' = prsOf l k kid := by
 obtain ⟨lo, hi, h1⟩ := h.2 hl
 have hw := h1 i kid hk
 cases k with
 | zero => exact hw.elim
 | succ k' =>
  obtain ⟨b0, x, nd', b1, b2, b3, b4, b5⟩ := hw
  refine ⟨b0, k', x, nd', rfl, b1, b2, ⟨ndec_ok b2, fun hl' => ⟨_, _, b5 hl'⟩⟩, ?_⟩
  unfold ndPrs
  cases hl' : nd'.leaf with
  | true => rw [prsOf_leaf b1 b2 hl']; simp
  | false => rw [prsOf_inner b1 b2 hl']; simp
theorem PWk.sc {w0 w w' : World} {B g bm C : Nat} {t : Tr} {pv : Value} {s : Sw} {m : Int → Option Value} (h : PWk w0 w B g bm t pv s m) (k : KSc C w w') (hC : w0.heap.size ≤ C) : PWk w0 w' B g bm t pv s m := by
 have hm : w'.heap[bm]? = w.heap[bm]? := by
  obtain ⟨D, ⟨es, c, hb, _⟩, _⟩ := h.map
  rw [hb]; exact k.map _ _ _ hb
 refine ⟨k.typ _ (by decide) (by decide) _ _ _ h.box, h.map.kept hm, h.has, fun i v hv => ?_, h.pg, h.ok, h.dep, h.bel.trans (k.bel.mono hC), h.hg, h.hm, h.apt⟩
 obtain ⟨x, nd, kv, vv, dv, h1, h2, h3, h4, h5⟩ := h.nds i v hv
 exact ⟨x, nd, kv, vv, dv, h1, h2, h3, h4.keepT (k.typ _ (by decide) (by decide)) (k.typ _ (by decide) (by decide)), h5⟩
theorem pscan_app (a b : List Pr) (x y : Str) : pscan (a ++ b) x y = pscan a x y ++ pscan b x y := by unfold pscan; rw [List.filter_append]
theorem pscan_le (a : List Pr) (x y : Str) : (pscan a x y).length ≤ a.length := List.length_filter_le _ _
abbrev clo (ga gp : Nat) : Value := .func (.func 32) #[] #[.pointer (some ⟨ga, 0, none⟩), .pointer (some ⟨gp, 0, none⟩)]
set_option maxRecDepth 100000 in
set_option maxHeartbeats 4000000 in
theorem peach_any (w0 : World) (B g bm C ga gp : Nat) (t : Tr) (pv : Value) (s : Sw) (m : Int → Option Value) (fr tw : Str) (hw0 : w0.heap.size ≤ C) : ∀ (k : Nat) (w : World) (nd : Nd) (kv vv dv : Value) (out : List Pr),
  PWk w0 w B g bm t pv s m → ScI C w ga gp fr tw out → C ≤ w.heap.size → OwnN B w kv vv dv nd → SN t.pages s.seen k nd → out.length + (ndPrs t.pages k nd).length ≤ 4096 →
  Calls Try.prog 30 #[.pointer (some ⟨g, 0, none⟩), nv nd kv vv dv, clo ga gp] w fun e w' => e = .returned (.tuple #[]) ∧ ScI C w' ga gp fr tw (out ++ pscan (ndPrs t.pages k nd) fr tw) ∧ KSc C w w' := by
 intro k
 induction k with
 | zero =>
  intro w nd kv vv dv out H hS hC hN hs hlen
  obtain ⟨X, hX, DX, bX, sX⟩ := boxedN w #[.bool nd.leaf, kv, vv, dv] 79
  have HX := hide (H.to bX)
  have SX := hide (hS.to bX)
  have HK := hide (KSc.of bX hC)
  have HN := hide (hN.to bX)
  have HD := hide DX
  have hCX : Hid (C ≤ X.heap.size) := Nat.le_trans hC bX.size
  obtain ⟨ka, kc, va, vc, da, dc, rfl, rfl, rfl⟩ := hN.rd.slices
  obtain ⟨⟨E0, E1, E2, E3⟩, EF⟩ := cells4 DX
  replace hs := hide hs
  clear H hS hN DX bX hC
  dsimp only [nv, clo]
  cases hl : nd.leaf with
  | true =>
   have hlv : nd.vals.length = nd.keys.length := by
    have h1 := hs.out.1.2.1
    unfold ncount at h1
    rw [if_pos hl] at h1
    exact h1.1
   have hnp : Hid (ndPrs t.pages 0 nd = npr nd) := by show _ = _; unfold ndPrs; rw [if_pos hl]
   have KC := hide (pscl_any C X ga gp fr tw out nd _ _ _ SX.out hCX.out HN.out hlv (by rw [← hnp.out]; exact hlen))
   rw [hl] at E0 hX
   dsimp only [nv] at KC
   rw [hl] at KC
   replace hlen := hide hlen
   replace hl := hide hl
   rw [hX] at E0 E1 E2 E3 EF KC
   clear hlv
   go_enter Try.func30, Try.ntmps30
   go_wp2_with fail
   refine KC.out.mono ?_
   rintro e w1 ⟨rfl, q1, q2⟩
   rw [← hX] at q2
   have Q := hide (And.intro q1 (HK.out.trans q2))
   clear q1 q2 KC E0 E1 E2 E3 EF
   go_wp2
   (try simp only [Exit.inBlock, Exit.then])
   first
    | refine bodyPost_ret (results_none rfl _ _ _) rfl ?_
    | refine bodyPost_end (results_none rfl _ _ _) rfl ?_
   rw [hnp.out]
   exact ⟨rfl, Q.out.1, Q.out.2⟩
  | false =>
   exfalso
   have h1 := kids_len hs.out.1 hl
   obtain ⟨lo, hi, h2⟩ := hs.out.2 hl
   exact h2 0 _ (List.getElem?_eq_getElem (by omega))
 | succ k ih =>
  intro w nd kv vv dv out H hS hC hN hs hlen
  obtain ⟨X, hX, DX, bX, sX⟩ := boxedN w #[.bool nd.leaf, kv, vv, dv] 79
  have HX := hide (H.to bX)
  have SX := hide (hS.to bX)
  have HK := hide (KSc.of bX hC)
  have HN := hide (hN.to bX)
  have HD := hide DX
  have hCX : Hid (C ≤ X.heap.size) := Nat.le_trans hC bX.size
  obtain ⟨ka, kc, va, vc, da, dc, rfl, rfl, rfl⟩ := hN.rd.slices
  obtain ⟨⟨E0, E1, E2, E3⟩, EF⟩ := cells4 DX
  replace hs := hide hs
  replace ih := hide ih
  clear H hS hN DX bX hC
  dsimp only [nv, clo]
  cases hl : nd.leaf with
  | true =>
   have hlv : nd.vals.length = nd.keys.length := by
    have h1 := hs.out.1.2.1
    unfold ncount at h1
    rw [if_pos hl] at h1
    exact h1.1
   have hnp : Hid (ndPrs t.pages (k + 1) nd = npr nd) := by show _ = _; unfold ndPrs; rw [if_pos hl]
   have KC := hide (pscl_any C X ga gp fr tw out nd _ _ _ SX.out hCX.out HN.out hlv (by rw [← hnp.out]; exact hlen))
   rw [hl] at E0 hX
   dsimp only [nv] at KC
   rw [hl] at KC
   replace hlen := hide hlen
   replace hl := hide hl
   rw [hX] at E0 E1 E2 E3 EF KC
   clear hlv
   go_enter Try.func30, Try.ntmps30
   go_wp2_with fail
   refine KC.out.mono ?_
   rintro e w1 ⟨rfl, q1, q2⟩
   rw [← hX] at q2
   have Q := hide (And.intro q1 (HK.out.trans q2))
   clear q1 q2 KC E0 E1 E2 E3 EF
   go_wp2
   (try simp only [Exit.inBlock, Exit.then])
   first
    | refine bodyPost_ret (results_none rfl _ _ _) rfl ?_
    | refine bodyPost_end (results_none rfl _ _ _) rfl ?_
   rw [hnp.out]
   exact ⟨rfl, Q.out.1, Q.out.2⟩
  | false =>
   have hnp : Hid (ndPrs t.pages (k + 1) nd = nd.kids.flatMap (prsOf t.pages (k + 1))) := by show _ = _; unfold ndPrs; rw [hl]; rfl
   rw [hnp.out] at hlen
   have hD3 : nd.kids.length ≤ 301 := by have h1 := kids_len hs.out.1 hl; have := (npr_len hs.out.1).2; omega
   have HL := hide hl
   rw [hl] at E0 hX HD
   obtain ⟨D, hD⟩ : ∃ D, D = nd.kids.length := ⟨_, rfl⟩
   replace hlen := hide hlen
   rw [← hD] at E3 hX hD3 HN HD ⊢
   rw [hX] at E0 E1 E2 E3 EF
   replace hD := hide hD
   replace hl := hide hl
   go_enter Try.func30, Try.ntmps30
   go_wp2
   rw [← hX]
   replace hX := hide hX
   clear E0 E1 E2 E3 EF
   go_loopw [16] (fun p wr => ∃ i : Nat, i ≤ D ∧ p = .int .i64 i ∧ Hid (ScI C wr ga gp fr tw (out ++ pscan ((nd.kids.take i).flatMap (prsOf t.pages (k + 1))) fr tw) ∧ KSc C X wr)) (fun p _ => D - (intOf p).toNat)
   case atStart => exact ⟨0, Nat.zero_le _, rfl, hide ⟨by simpa [pscan] using SX.out, KSc.refl _ _⟩⟩
   case round =>
    obtain ⟨i, hi, rfl, hI⟩ := hrel
    have PW := HX.out.sc hI.out.2 hw0
    have N6 := HN.out.keepT (hI.out.2.typ _ (by decide) (by decide)) (hI.out.2.typ _ (by decide) (by decide))
    obtain ⟨⟨C0, C1, C2, C3⟩, ⟨C4, C5⟩, CF⟩ := PW.cell
    by_cases hlt : i < D
    ·have hq : (i : Int) < (D : Int) := by omega
     obtain ⟨kid, hkid⟩ := some_el nd.kids (k := i) (by rw [← hD.out]; exact hlt)
     obtain ⟨b3, off3, e3, hc3⟩ := N6.rd.kids.intAt hkid
     subst e3
     obtain ⟨s4, k', x, nd', hk', n1, n2, s5, s6⟩ := hs.out.kid HL.out hkid
     have hk'' : k = k' := by omega
     subst hk''
     obtain ⟨v, hv, x', nd'', kv', vv', dv', z1, z2, rfl, z4, _⟩ := PW.node s4
     rw [n1] at z1
     simp only [Option.some.injEq] at z1
     subst z1
     rw [n2] at z2
     simp only [Prod.mk.injEq, and_true] at z2
     subst z2
     have hkw : (Lit.int .i64 kid).wf = true := by
      have := hs.out.1.2.2.2.1 i (by rw [← hD.out]; exact hlt)
      rw [hkid] at this
      simp only [Option.getD_some] at this
      exact WalkArith.wf_i64 (by omega)
     have hlk1 := PW.map.look Try.underlying88 (zeroNd wr) hkw false
     rw [hv] at hlk1
     simp only [Option.getD_some, Bool.false_eq_true, if_false] at hlk1
     have htk : Hid ((nd.kids.take (i + 1)).flatMap (prsOf t.pages (k + 1)) = (nd.kids.take i).flatMap (prsOf t.pages (k + 1)) ++ prsOf t.pages (k + 1) kid) := by
      show _ = _
      rw [List.take_add_one, hkid, List.flatMap_append]
      simp
     have hle : (out ++ pscan ((nd.kids.take i).flatMap (prsOf t.pages (k + 1))) fr tw).length + (ndPrs t.pages k nd').length ≤ 4096 := by
      have h1 := pscan_le ((nd.kids.take i).flatMap (prsOf t.pages (k + 1))) fr tw
      have h2 := hlen.out
      have h3 : ((nd.kids.take i).flatMap (prsOf t.pages (k + 1))).length + (prsOf t.pages (k + 1) kid).length ≤ (nd.kids.flatMap (prsOf t.pages (k + 1))).length := by
       rw [← List.length_append, ← htk.out]
       conv => rhs; rw [← List.take_append_drop (i + 1) nd.kids, List.flatMap_append, List.length_append]
       omega
      rw [List.length_append, s6]
      omega
     have KR := hide (ih.out wr nd' kv' vv' dv' _ PW hI.out.1 (Nat.le_trans hCX.out hI.out.2.bel.size) z4 s5 hle)
     obtain ⟨ka', kc', va', vc', da', dc', rfl, rfl, rfl⟩ := z4.rd.slices
     dsimp only [nv, clo] at hlk1 KR
     have HI := hide hI.out.2
     have s6' := hide s6
     clear s4 n1 n2 s5 s6 hv z4 hkw hI PW N6 hle hk' C0 C1 C2 C4 C5 CF hkid
     go_wp2_with fail
     refine KR.out.mono ?_
     rintro e w7 ⟨rfl, q1, q2⟩
     rw [List.append_assoc, ← pscan_app, s6'.out, ← htk.out] at q1
     have Q := hide (And.intro q1 (HI.out.trans q2))
     clear q1 q2 KR hlk1
     go_wp2
     go_roundw
     case rel => exact ⟨i + 1, by omega, by go_num, Q⟩
     case measure => simp [intOf]; omega
    ·have hq : ¬ (i : Int) < (D : Int) := by omega
     have htk : nd.kids.take i = nd.kids := List.take_of_length_le (by rw [← hD.out]; omega)
     rw [htk] at hI
     clear PW N6
     go_wp2
     (try simp only [Exit.inBlock, Exit.then])
     first
      | refine bodyPost_ret (results_none rfl _ _ _) rfl ?_
      | refine bodyPost_end (results_none rfl _ _ _) rfl ?_
     rw [hnp.out]
     exact ⟨rfl, hI.out.1, HK.out.trans hI.out.2⟩
set_option maxRecDepth 100000 in
set_option maxHeartbeats 4000000 in
theorem pscan10_any (w : World) (t : Tr) (pv : Value) (fr tw : Str) (h : RdC w pv t.pages) (hroot : (Lit.int .i64 t.root).wf = true) : Calls Try.prog 8 #[tv t pv, st fr, st tw] w fun e w' =>
  ∃ v, e = .returned (.tuple #[v, .int .i64 (tscan t fr tw).2]) ∧ OwnP w.heap.size w' v (tscan t fr tw).1 ∧ Below w.heap.size w w' := by
 obtain ⟨W, hW, D, bW, sW⟩ := boxedN w #[.int .i64 t.root, .int .i64 t.next, pv] 26
 have KN := hide (pwalkof_any W t pv (h.to0 bW) hroot)
 obtain ⟨a, c, rfl⟩ := h.slice
 obtain ⟨⟨D0, D1, D2⟩, _⟩ := cells3p D
 have HB := hide bW
 rw [hW] at D0 D1 D2 KN
 dsimp only [tv] at KN ⊢
 clear h bW D sW
 obtain ⟨R, hR⟩ : ∃ R, R = tscan t fr tw := ⟨_, rfl⟩
 rw [← hR]
 replace hR := hide hR
 go_enter Try.func8, Try.ntmps8
 go_wp2_with fail
 refine KN.out.mono ?_
 rintro e w1 hp
 rw [← hW] at hp
 rcases hp with ⟨g, bm, B, s, m, rfl, p1, p2, p3, p4, p5⟩ | ⟨rfl, p1, p2⟩
 ·have hr : Hid (R = (pscan s.prs fr tw, 0)) := by show _ = _; rw [hR.out]; unfold tscan; rw [tprs_of p1 p2 p3]
  obtain ⟨X, hX, DX, bX, sX⟩ := boxedN w1 #[.slice none 0 0] 30
  obtain ⟨Y, hY, DY, bY, sY⟩ := boxedN X #[st fr, st tw] 75
  have bXY := bX.trans (bY.mono bX.size)
  have PY := hide (p4.to bXY)
  have B1 := hide (HB.out.trans (p4.bel.mono HB.out.size))
  have BY := hide (And.intro bXY B1.out)
  have hSc : Hid (ScI w1.heap.size Y (w1.heap.size + 1) w1.heap.size fr tw []) := ⟨by rw [← sX]; exact DY, ⟨_, (bY.block _ (lt_of_block DX)).trans DX, World.ownsRow_nil _ _ _ _⟩, Nat.le_refl _⟩
  have KT := hide (ptop_any W Y B g bm t _ s m PY.out hroot p2)
  have hWw : Hid (W.heap.size ≤ w1.heap.size) := p4.bel.size
  rw [hY, hX] at KT
  have hp2 := hide p2
  have hp3 := hide p3
  clear p1 p2 p3 p4 p5 KN hW D0 D1 D2 DX DY bX bY
  go_wp2_with fail
  refine KT.out.mono ?_
  rintro e w2 ⟨nd, kv, vv, dv, rfl, hT, ho, b2, _⟩
  rw [← hX, ← hY] at b2
  obtain ⟨q1, q2⟩ := SN.top hp2.out hT
  have KE := hide (peach_any W B g bm w1.heap.size (w1.heap.size + 1) w1.heap.size t _ s m fr tw hWw.out 15 w2 nd kv vv dv [] (PY.out.to b2) (hSc.out.to b2) (Nat.le_trans bXY.size b2.size) ho q1 (by rw [q2]; simpa using hp3.out))
  rw [q2] at KE
  have B2 := hide (And.intro (bXY.trans (b2.mono bXY.size)) B1.out)
  dsimp only [clo] at KE
  clear KT q1 q2 ho b2 hT bXY hX hY
  go_wp2_with fail
  refine KE.out.mono ?_
  rintro e w3 ⟨rfl, r1, r2⟩
  obtain ⟨v, v1, v2⟩ := r1.var
  rw [List.nil_append] at v2
  obtain ⟨pa, pc, rfl⟩ := (OwnP.rd v2).slice
  have V1 := cellN v1 (i := 0) rfl
  have O3 := hide v2
  have B3 := hide (B1.out.trans ((B2.out.1.trans r2.bel).mono B1.out.size))
  clear r1 r2 v1 v2 KE
  go_wp2
  go_ret2
  rw [hr.out]
  exact ⟨_, rfl, rows_mono O3.out B1.out.size, B3.out⟩
 ·have hr : Hid (R = ([], 9)) := by show _ = _; rw [hR.out]; unfold tscan; rw [p1]
  have B1 := hide (HB.out.trans (p2.mono HB.out.size))
  clear p1 p2 KN HB hW D0 D1 D2
  go_wp2
  go_ret2
  rw [hr.out]
  exact ⟨_, rfl, World.ownsRow_nil _ _ _ _, B1.out⟩
end Go.Proofs.Ytmmjdacjcipgjaa

namespace Go.Proofs.Ytmmjdacjcipgjaa.reclaimKeeps
open Go.ChangeShapes Go.WideShapes Go.ChangeAt Go.RowKit
theorem tscan_is {t : Tr} {ps : List Pr} (h : tprs t = some ps) (a b : Str) : tscan t a b = (pscan ps a b, 0) := by unfold tscan; rw [h]
theorem pscan_all (l : List Pr) : pscan l [] [] = l := by
 unfold pscan
 refine filter_all fun y _ => ?_
 unfold pin
 have : slt y.1 [] = false := by cases y.1 <;> rfl
 rw [this]
 rfl
set_option maxRecDepth 100000 in
set_option maxHeartbeats 32000000 in
theorem walk (w : World) (a0 : Option Addr) (len0 cap0 : Nat) (ls : List Sp3) (g0 : SSteps10.rd w [.slice a0 len0 cap0] ls) (m0 : ls.length * 40 ≤ 140737488351232 ∧ ∀ x ∈ ls, sp3fit x) (ev : Int) (hev : (Lit.int .i64 ev).wf = true) :
  Calls Try.prog 3 #[.slice a0 len0 cap0, .int .i64 ev] w fun e w' => e = .returned (.bool true) ∧ Below w.heap.size w w' := by
 obtain ⟨v0, e0, R0⟩ := g0
 obtain rfl : v0 = .slice a0 len0 cap0 := by simpa using e0.symm
 have HF := hide m0.2
 have HR := hide R0
 obtain ⟨a0', c0', h0'⟩ := R0.slice
 simp only [Value.slice.injEq] at h0'
 obtain ⟨rfl, hM, rfl⟩ := h0'
 replace hM := hide hM
 clear e0 m0 R0
 have KA := hide (palive11_any w)
 go_enter Try.func3, Try.ntmps3
 go_wp2_with fail
 refine KA.out.mono ?_
 rintro e w1 ⟨rfl, b1⟩
 clear KA
 have B1 := hide b1
 clear b1
 go_upto_region 3 with fail
 go_cut [1] from 30 to 34 (fun v wx => ∃ E : Nat, v = .int .i64 E ∧ 1 ≤ E ∧ E ≤ 20 ∧ w1 = wx)
 case first =>
  obtain ⟨E, hE1, hE2, hE⟩ := mod20 ev
  obtain ⟨x1, hx1⟩ : ∃ x, x = ev.tmod 20 := ⟨_, rfl⟩
  have hx3 : -20 < x1 ∧ x1 < 20 := by
   have h1 := Int.tmod_lt_of_pos ev (show (0 : Int) < 20 by omega)
   have h2 := Int.lt_tmod_of_pos ev (show (0 : Int) < 20 by omega)
   omega
  have hx4 : IntKind.i64.wrap (x1 + 20) = x1 + 20 := IntWalk.i64_in _ (by omega)
  replace hev := hide hev
  go_wp2_with fail
  go_meet
  case rel => exact ⟨E, by rw [← hE], hE1, hE2, rfl⟩
 case rest =>
 obtain ⟨E, rfl, hE1, hE2, rfl⟩ := hcut
 have hE0 : ((E : Int) == 0) = false := by simp; omega
 have hE3 : ¬ (E : Int) = 0 := by omega
 have KN0 := hide (pnew10_any w1)
 dsimp only [tv] at KN0
 go_wp2_with fail
 refine KN0.out.mono ?_
 rintro e w2 ⟨rfl, b2⟩
 obtain ⟨W, hW, DW, bW, sW⟩ := boxedN w2 #[.int .i64 0, .int .i64 1, .slice none 0 0] 26
 have HI : Hid (∃ t pv want rs hs, KI w1 W w2.heap.size t pv want rs (.slice none 0 0) hs (.slice none 0 0) 0) :=
  ⟨⟨0, 1, []⟩, .slice none 0 0, [], [], [], ⟨OwnX.nil _ _ _, ta0, by decide, (fun x hx => by cases hx), World.ownsRow_nil _ _ _ _, OwnH.nil _ _, by decide, rfl, (fun j r h hr => by cases hr), DW, b2.trans (bW.mono b2.size), b2.size⟩⟩
 clear KN0 b2 DW bW
 go_wp2
 rw [← hW]
 replace hW := hide hW
 obtain ⟨g3, hg⟩ : ∃ g, g = w2.heap.size := ⟨_, rfl⟩
 rw [← hg] at HI ⊢
 clear hg sW
 go_loopw [6, 7, 8] (fun v6 v7 p wr => ∃ (k : Nat) (rv hv : Value), rv = v6 ∧ hv = v7 ∧ k ≤ len0 ∧ k ≤ 80 ∧ p = .int .i64 k ∧ Hid (∃ t pv want rs hs, KI w1 wr g3 t pv want rs rv hs hv k)) (fun _ _ p _ => len0 - (intOf p).toNat)
 case atStart => exact ⟨0, _, _, rfl, rfl, Nat.zero_le _, Nat.zero_le _, rfl, HI⟩
 case round =>
  obtain ⟨k, rv, hv, rfl, rfl, hk, hk4, rfl, hI⟩ := hrel
  clear HI
  obtain ⟨wo, hwo⟩ : ∃ x, x = wr := ⟨_, rfl⟩
  subst hwo
  obtain ⟨t, pv, want, rs0, hs0, hB0⟩ := hI.out
  obtain ⟨pa, pc, hpv⟩ := hB0.own.shape
  obtain ⟨pn, hpn⟩ : ∃ n, n = t.pages.length := ⟨_, rfl⟩
  rw [← hpn] at hpv
  subst hpv
  replace hpn := hide hpn
  obtain ⟨ra, rc, hrv⟩ := (OwnJ.rd hB0.ro).slice
  obtain ⟨RL, hRL⟩ : ∃ n, n = rs0.length := ⟨_, rfl⟩
  rw [← hRL] at hrv
  replace hRL := hide hRL
  subst hrv
  obtain ⟨root, hrn⟩ : ∃ z, z = t.root := ⟨_, rfl⟩
  obtain ⟨next, hnn⟩ : ∃ z, z = t.next := ⟨_, rfl⟩
  have hTB := hB0.tb
  rw [← hrn, ← hnn] at hTB
  replace hrn := hide hrn
  replace hnn := hide hnn
  obtain ⟨⟨A0, A1, A2⟩, AF⟩ := cells3p hTB
  replace hB0 := hide hB0
  have BZ := hide (B1.out.trans (hB0.out.bel.mono B1.out.size))
  clear hI hTB
  by_cases hlt : k < len0 ∧ k < 80
  ·obtain ⟨hlt, hlt4⟩ := hlt
   have hq : (k : Int) < (len0 : Int) := by omega
   have hq4 : (k : Int) < 80 := by omega
   obtain ⟨rm, hrm⟩ : ∃ rm : Nat, (k : Int).tmod (E : Int) = (rm : Int) := ⟨((k : Int).tmod (E : Int)).toNat, by have := Int.tmod_nonneg (E : Int) (show (0 : Int) ≤ k by omega); omega⟩
   go_upto_region 10 with fail
   go_cut [54] from 36 to 108 (fun s wx => ∃ bb : Bool, s = .bool bb ∧ Hid (bb = true → RL < 16) ∧ wo = wx)
   case first =>
    by_cases hm0 : rm = 0
    ·have hme : ((rm : Int) == 0) = true := by simp [hm0]
     replace hm0 := hide hm0
     by_cases hl16 : RL < 16
     ·have hlq : (RL : Int) < 16 := by omega
      replace hl16 := hide hl16
      go_wp2_with fail
      go_meet
      case rel => exact ⟨_, rfl, hide (fun _ => hl16.out), rfl⟩
     ·have hlq : ¬ (RL : Int) < 16 := by omega
      go_wp2_with fail
      go_meet
      case rel => exact ⟨false, rfl, hide (fun h => by cases h), rfl⟩
    ·have hme : ((rm : Int) == 0) = false := by simpa using hm0
     replace hm0 := hide hm0
     go_wp2_with fail
     go_meet
     case rel => exact ⟨false, rfl, hide (fun h => by cases h), rfl⟩
   case rest =>
   obtain ⟨bb, rfl, hbb, rfl⟩ := hcut
   go_upto_if 54 with fail
   go_cut [6, 7] from 36 to 108 (fun v6 v7 wx => ∃ rv' hv' : Value, rv' = v6 ∧ hv' = v7 ∧ Hid (∃ rs hs, KI w1 wx g3 t (.slice pa pn pc) want rs rv' hs hv' k))
   case first =>
    cases bb with
    | false =>
     go_wp2_with fail
     go_meet
     case rel => exact ⟨_, _, rfl, rfl, ⟨_, _, hB0.out⟩⟩
    | true =>
     have hl16' : Hid (rs0.length < 16) := by show _ < _; rw [← hRL.out]; exact hbb.out rfl
     obtain ⟨rs, hrs⟩ : ∃ x, x = rs0 := ⟨_, rfl⟩
     subst hrs
     obtain ⟨hs, hhs⟩ : ∃ x, x = hs0 := ⟨_, rfl⟩
     subst hhs
     have KS := pscan10_any wo t (.slice pa pn pc) [] [] hB0.out.own.rd hB0.out.rwf
     rw [tscan_is hB0.out.prs, pscan_all] at KS
     dsimp only [tv] at KS
     rw [← hrn.out, ← hnn.out] at KS
     replace KS := hide KS
     go_wp2_with fail
     refine KS.out.mono ?_
     rintro e w3 ⟨v3, rfl, o3, b3⟩
     clear KS A0 A1 A2 AF
     have KN := hide (pnum11_any w3 0)
     have hB3 := hide (hB0.out.to b3)
     have hTB := hB3.out.tb
     rw [← hrn.out, ← hnn.out] at hTB
     obtain ⟨⟨A0, A1, A2⟩, AF⟩ := cells3p hTB
     obtain ⟨va3, vc3, hv3⟩ := (OwnP.rd o3).slice
     obtain ⟨n3, hn3⟩ : ∃ n, n = want.length := ⟨_, rfl⟩
     rw [← hn3] at hv3
     subst hv3
     replace hn3 := hide hn3
     have O3 := hide o3
     clear o3 b3 hTB
     dsimp only
     go_wp2_with fail
     refine KN.out.mono ?_
     rintro e w4 ⟨rfl, rfl⟩
     clear KN
     obtain ⟨X1, hX1, D1, bX1, sX1⟩ := boxedN w3 #[.int .i64 root] 3
     have C1 := cellN D1 (i := 0) rfl
     have OJ := hide (rows_to hB3.out.ro bX1)
     have hl1 : Hid ((rs.length + 1) * 8 ≤ 140737488355328) := by show _ ≤ _; have := hl16'.out; omega
     have hl2 : Hid ((hs.length + 1) * 24 ≤ 140737488355328) := by show _ ≤ _; rw [hB0.out.l2]; have := hl16'.out; omega
     have hBX : Hid (w1.heap.size ≤ X1.heap.size) := Nat.le_trans hB3.out.bel.size bX1.size
     have BX1 := hide bX1
     replace C1 := hide C1
     rw [hX1] at C1 OJ hBX
     clear D1 bX1
     have FLAG : True := trivial
     go_wp2_with (at_builtin; first | (clear FLAG; refine wpList_appJ9 rfl _ _ rfl w1.heap.size _ rs root w3.heap.size rfl rfl OJ.out C1.out hl1.out hBX.out ?_; intro v4 w4 o4 b4 k4; rw [← hX1] at b4 k4; replace hX1 := hide hX1; obtain ⟨X2, hX2, D2, bX2, sX2⟩ := boxedN w4 #[.slice va3 n3 vc3] 30; have C2 := cellN D2 (i := 0) rfl; have kk4 : ∀ e, e ≠ 3 → KeepT e w3 X2 := fun e he => ((KeepT.below BX1.out).trans (k4 e he)).trans (KeepT.below bX2); have OH := hide (hB3.out.ha.keep (kk4 _ (by decide)) (kk4 _ (by decide))); have OP := hide (rows_base (rows_keepT O3.out (kk4 _ (by decide))) (fun _ _ => Nat.zero_le _) : OwnP 0 X2 (.slice va3 n3 vc3) want); have O4 := hide (rows_to o4 bX2); have hB4 : w1.heap.size ≤ w4.heap.size := Nat.le_trans (Nat.le_trans hB3.out.bel.size BX1.out.size) b4.size; have hBX2 : Hid (w1.heap.size ≤ X2.heap.size) := Nat.le_trans hB4 bX2.size; have KK4 := hide kk4; have b04 : Below w1.heap.size w1 X2 := (hB3.out.bel.trans (BX1.out.mono hB3.out.bel.size)).trans (b4.trans (bX2.mono hB4)); have B04 := hide b04; replace C2 := hide C2; rw [hX2] at C2 OH OP O4 hBX2; clear D2 bX2 o4 b4 k4 kk4 b04; have FLAG2 : True := trivial) | (clear FLAG2; refine wpList_appH rfl _ _ rfl w1.heap.size _ hs want (.slice va3 n3 vc3) w4.heap.size rfl rfl OH.out OP.out rfl C2.out hl2.out hBX2.out ?_; intro v5 w5 o5 b5 k5; rw [← hX2] at b5 k5; replace hX2 := hide hX2; have hN5 := hide (hB3.out.note hl16'.out (fun e he1 he2 => (KK4.out e he1).trans (k5 e he2)) (B04.out.trans b5) (rows_keepT (by have h9 := O4.out; rw [← hX2.out] at h9; rw [hrn.out] at h9; exact h9) (k5 _ (by decide))) o5); clear o5 b5 k5 OH OP O4 C2 OJ C1))
     go_meet
     case rel => exact ⟨_, _, rfl, rfl, ⟨_, _, hN5.out⟩⟩
   case rest =>
   obtain ⟨rv', hv', rfl, rfl, hN5⟩ := hcut
   obtain ⟨rs, hs, hB⟩ := hN5.out
   obtain ⟨w5, hw5⟩ : ∃ x, x = wc := ⟨_, rfl⟩
   subst hw5
   replace hB := hide hB
   clear A0 A1 A2 AF hN5 hbb hB0 BZ
   have hTB := hB.out.tb
   rw [← hrn.out, ← hnn.out] at hTB
   obtain ⟨⟨A0, A1, A2⟩, AF⟩ := cells3p hTB
   clear hTB
   obtain ⟨y, hy⟩ : ∃ y, ls[k]? = some y := ⟨_, List.getElem?_eq_getElem (by rw [← hM.out]; exact hlt)⟩
   have hfy := HF.out y (List.mem_of_getElem? hy)
   obtain ⟨wh, key, val⟩ := y
   have hkl : Hid (key.length ≤ 9223372036854775807) := hfy.2.1
   have hvl : Hid (val.length ≤ 9223372036854775807) := hfy.2.2
   obtain ⟨Y, hY, DY, bY, sY⟩ := boxedN w5 #[.int .i64 root, .int .i64 next, .slice pa pn pc] 26
   have hYb := hB.out.bel.trans (bY.mono hB.out.bel.size)
   obtain ⟨sb, so, rfl, s0, s1, s2⟩ := (HR.out.to0 (B1.out.trans (hYb.mono B1.out.size))).spAt hy
   dsimp only at s0 s1 s2
   obtain ⟨sb', so', he', s0', s1', s2'⟩ := (HR.out.to0 (B1.out.trans (hB.out.bel.mono B1.out.size))).spAt hy
   simp only [Option.some.injEq, Addr.mk.injEq, and_true] at he'
   obtain ⟨rfl, rfl⟩ := he'
   dsimp only at s1' s2'
   have HS : Hid (∀ w9, Below w5.heap.size w5 w9 → w9.cell? ⟨g3, 0, none⟩ = some (.int .i64 root) ∧ w9.cell? ⟨g3, 1, none⟩ = some (.int .i64 next) ∧ w9.cell? ⟨g3, 2, none⟩ = some (.slice pa pn pc) ∧ w9.cell? ⟨sb, so + k * 3 + 1, none⟩ = some (st key) ∧ w9.cell? ⟨sb, so + k * 3 + 2, none⟩ = some (st val)) := fun w9 b9 =>
    ⟨(b9.cell (cell_lt A0)).trans A0, (b9.cell (cell_lt A1)).trans A1, (b9.cell (cell_lt A2)).trans A2, (b9.cell (cell_lt s1')).trans s1', (b9.cell (cell_lt s2')).trans s2'⟩
   have BY := hide bY
   have HDY := hide DY
   have s0z := hide s0
   rw [hY] at s0
   have lg9 : Hid (w5.heap.size ≤ w5.heap.size) := Nat.le_refl _
   replace hy := hide hy
   replace hfy := hide hfy
   clear s1 s2 s0' s1' s2' DY bY sY hYb
   by_cases h0 : wh = 0
   ·subst h0
    go_upto_region 17 with fail
    have KU : Hid (∀ w9, Below w5.heap.size w5 w9 → Calls Try.prog 10 #[.agg #[.int .i64 root, .int .i64 next, .slice pa pn pc], st key, st val] w9 fun e w6 => ∃ u ua un9 uc err, e = .returned (.tuple #[.agg #[.int .i64 u.root, .int .i64 u.next, .slice ua un9 uc], .int .i64 err]) ∧ CB1 w9.heap.size w6 t u (.slice ua un9 uc) err ∧ Below w9.heap.size w9 w6) := fun w9 b9 => by
     have h9 := pput_any w9 t (.slice pa pn pc) key val (hB.out.to b9).own.rd hB.out.big hB.out.rwf hkl.out
     dsimp only [tv] at h9
     rw [← hrn.out, ← hnn.out] at h9
     exact Calls.mono h9 fun e w6 h => by obtain ⟨u, a9, n9, c9, er, q1, q2, q3⟩ := h.to; exact ⟨u, a9, n9, c9, er, q1, PutB.cb1 q2, q3⟩
    rw [← hY]
    replace hY := hide hY
    go_cut [12] from 36 to 108 (fun ee wx => ∃ (u : Tr) (ua : Option Addr) (un9 uc : Nat) (err : Int), ee = .int .i64 err ∧ Hid (Below w5.heap.size w5 wx ∧ wx.heap[w5.heap.size]? = some (.cells #[.int .i64 u.root, .int .i64 u.next, .slice ua un9 uc] 26 (0, 0)) ∧ CB1 w5.heap.size wx t u (.slice ua un9 uc) err))
    case first =>
     have b0 : Below w5.heap.size w5 Y.drew := BY.out.trans ((below_drewN' Y 1 _ : Below Y.heap.size Y Y.drew).mono BY.out.size)
     have h9 : Y.drew.heap[w5.heap.size]? = some (.cells #[.int .i64 root, .int .i64 next, .slice pa pn pc] 26 (0, 0)) := ((below_drewN' Y 1 _ : Below Y.heap.size Y Y.drew).block _ (lt_of_block HDY.out)).trans HDY.out
     have lg9 := lg9.out
     refine wp_region_fan (fun w9 => w9.cell? ⟨g3, 0, none⟩ = some (.int .i64 root) ∧ w9.cell? ⟨g3, 1, none⟩ = some (.int .i64 next) ∧ w9.cell? ⟨g3, 2, none⟩ = some (.slice pa pn pc) ∧ w9.cell? ⟨sb, so + k * 3 + 1, none⟩ = some (st key) ∧ w9.cell? ⟨sb, so + k * 3 + 2, none⟩ = some (st val)) 16 mixed (by simp) ?_
     generalize Y.drew = c0 at *
     clear A0 A1 A2 AF s0
     refine fan_take (i := 0) (v := ?_) rfl (by kernel_rfl) (fun _ _ _ _ h => h) (by kernel_rfl) (HS.out _ b0) ?_ ?_
     rotate_left
     ·rintro w9 ⟨t0, t1, t2, t3, t4⟩
      go_simp
      try with_reducible rfl
     try simp only [Act.put, List.setIfInBounds_toArray, List.set_cons_zero, List.set_cons_succ]
     refine fan_take (i := 1) (v := ?_) rfl (by kernel_rfl) (fun _ _ _ _ h => h) (by kernel_rfl) (HS.out _ b0) ?_ ?_
     rotate_left
     ·rintro w9 ⟨t0, t1, t2, t3, t4⟩
      go_simp
      try with_reducible rfl
     try simp only [Act.put, List.setIfInBounds_toArray, List.set_cons_zero, List.set_cons_succ]
     refine fan_take (i := 2) (v := ?_) rfl (by kernel_rfl) (fun _ _ _ _ h => h) (by kernel_rfl) (HS.out _ b0) ?_ ?_
     rotate_left
     ·rintro w9 ⟨t0, t1, t2, t3, t4⟩
      go_simp
      try with_reducible rfl
     try simp only [Act.put, List.setIfInBounds_toArray, List.set_cons_zero, List.set_cons_succ]
     refine fan_take (i := 3) (v := ?_) rfl (by kernel_rfl) (fun _ _ _ _ h => h) (by kernel_rfl) (HS.out _ b0) ?_ ?_
     rotate_left
     ·rintro w9 ⟨t0, t1, t2, t3, t4⟩
      go_simp
      try with_reducible rfl
     try simp only [Act.put, List.setIfInBounds_toArray, List.set_cons_zero, List.set_cons_succ]
     refine fan_take (i := 4) (v := ?_) rfl (by kernel_rfl) (fun _ _ _ _ h => h) (by kernel_rfl) (HS.out _ b0) ?_ ?_
     rotate_left
     ·rintro w9 ⟨t0, t1, t2, t3, t4⟩
      go_simp
      try with_reducible rfl
     try simp only [Act.put, List.setIfInBounds_toArray, List.set_cons_zero, List.set_cons_succ]
     refine fan_take (i := 5) (v := ?_) rfl (by kernel_rfl) (fun _ _ _ _ h => h) (by kernel_rfl) (HS.out _ b0) ?_ ?_
     rotate_left
     ·rintro w9 ⟨t0, t1, t2, t3, t4⟩
      go_simp
      try with_reducible rfl
     try simp only [Act.put, List.setIfInBounds_toArray, List.set_cons_zero, List.set_cons_succ]
     refine fan_take (i := 6) (v := ?_) rfl (by kernel_rfl) (fun _ _ _ _ h => h) (by kernel_rfl) (HS.out _ b0) ?_ ?_
     rotate_left
     ·rintro w9 ⟨t0, t1, t2, t3, t4⟩
      go_simp
      try with_reducible rfl
     try simp only [Act.put, List.setIfInBounds_toArray, List.set_cons_zero, List.set_cons_succ]
     refine fan_take (i := 7) (v := ?_) rfl (by kernel_rfl) (fun _ _ _ _ h => h) (by kernel_rfl) (HS.out _ b0) ?_ ?_
     rotate_left
     ·rintro w9 ⟨t0, t1, t2, t3, t4⟩
      go_simp
      try with_reducible rfl
     try simp only [Act.put, List.setIfInBounds_toArray, List.set_cons_zero, List.set_cons_succ]
     refine fan_take (i := 8) (v := ?_) rfl (by kernel_rfl) (fun _ _ _ _ h => h) (by kernel_rfl) (HS.out _ b0) ?_ ?_
     rotate_left
     ·rintro w9 ⟨t0, t1, t2, t3, t4⟩
      go_simp
      try with_reducible rfl
     try simp only [Act.put, List.setIfInBounds_toArray, List.set_cons_zero, List.set_cons_succ]
     refine fan_take (i := 9) (v := ?_) rfl (by kernel_rfl) (fun _ _ _ _ h => h) (by kernel_rfl) (HS.out _ b0) ?_ ?_
     rotate_left
     ·rintro w9 ⟨t0, t1, t2, t3, t4⟩
      go_simp
      try with_reducible rfl
     try simp only [Act.put, List.setIfInBounds_toArray, List.set_cons_zero, List.set_cons_succ]
     refine fan_take (i := 10) (v := ?_) rfl (by kernel_rfl) (fun _ _ _ _ h => h) (by kernel_rfl) (HS.out _ b0) ?_ ?_
     rotate_left
     ·rintro w9 ⟨t0, t1, t2, t3, t4⟩
      go_simp
      try with_reducible rfl
     try simp only [Act.put, List.setIfInBounds_toArray, List.set_cons_zero, List.set_cons_succ]
     refine fan_one 11 (by kernel_rfl) ?_
     refine fan_step rfl (by kernel_rfl) fun K hK => ?_
     refine wp_call_of 10 _ _ (by rfl) #[.agg #[.int .i64 root, .int .i64 next, .slice pa pn pc], st key, st val] (by simp [Act.eval]) (Try.call10 _ _) (KU.out _ b0) ?_
     rintro e c2 ⟨u, ua, un9, uc, err, rfl, pB, bF⟩
     have b2 := b0.trans (bF.mono b0.size)
     replace pB := CB1.base (B := w5.heap.size) pB b0.size
     replace h9 := (bF.block _ (lt_of_block h9)).trans h9
     clear bF
     refine ⟨_, rfl, hK _ _ (HS.out _ b2) ?_⟩
     clear hK K
     try simp only [Act.put, List.setIfInBounds_toArray, List.set_cons_zero, List.set_cons_succ]
     refine fan_take (i := 12) (v := ?_) rfl (by kernel_rfl) (fun _ _ _ _ h => h) (by kernel_rfl) (HS.out _ b2) ?_ ?_
     rotate_left
     ·rintro w9 ⟨t0, t1, t2, t3, t4⟩
      go_simp
      try with_reducible rfl
     try simp only [Act.put, List.setIfInBounds_toArray, List.set_cons_zero, List.set_cons_succ]
     refine fan_take (i := 13) (v := ?_) rfl (by kernel_rfl) (fun _ _ _ _ h => h) (by kernel_rfl) (HS.out _ b2) ?_ ?_
     rotate_left
     ·rintro w9 ⟨t0, t1, t2, t3, t4⟩
      go_simp
      try with_reducible rfl
     try simp only [Act.put, List.setIfInBounds_toArray, List.set_cons_zero, List.set_cons_succ]
     refine fan_take (i := 14) (v := ?_) rfl (by kernel_rfl) (fun _ _ _ _ h => h) (by kernel_rfl) (HS.out _ b2) ?_ ?_
     rotate_left
     ·rintro w9 ⟨t0, t1, t2, t3, t4⟩
      go_simp
      try with_reducible rfl
     try simp only [Act.put, List.setIfInBounds_toArray, List.set_cons_zero, List.set_cons_succ]
     refine fan_one 15 (by kernel_rfl) ?_
     have y9 := cells3p h9
     obtain ⟨⟨y0, y1, y2⟩, yF⟩ := y9
     refine fan_step rfl (by kernel_rfl) fun K hK => ?_
     go_simp
     obtain ⟨d1, hd⟩ : ∃ d, d = ((c2.setCell ⟨w5.heap.size, 0, none⟩ (.int .i64 u.root)).setCell ⟨w5.heap.size, 1, none⟩ (.int .i64 u.next)).setCell ⟨w5.heap.size, 2, none⟩ (.slice ua un9 uc) := ⟨_, rfl⟩
     rw [← hd]
     have e1 : Below w5.heap.size w5 d1 := by rw [hd]; exact below_set3t b2 lg9 _ _ _
     have i9 : d1.heap[w5.heap.size]? = some (.cells #[(.int .i64 u.root), (.int .i64 u.next), (.slice ua un9 uc)] 26 (0, 0)) := by rw [hd]; exact heap_set3t h9 _ _ _
     have kd := fun e (he : e ≠ 26) => s3_keep9 h9 (.int .i64 u.root) (.int .i64 u.next) (.slice ua un9 uc) he
     rw [← hd] at kd
     have pD := CB1.keep pB kd
     refine hK _ _ (HS.out _ e1) ?_
     clear hK K y0 y1 y2 yF hd kd
     try simp only [Act.put, List.setIfInBounds_toArray, List.set_cons_zero, List.set_cons_succ]
     refine fan_done (by kernel_rfl) ?_
     show wpList _ _ _ _ _ _
     have FIN := hide (And.intro e1 (And.intro i9 pD))
     clear e1 i9 pD pB h9 b2 b0
     go_wp2_with fail
     go_meet
     case rel => exact ⟨u, _, _, _, err, rfl, FIN⟩
    case rest =>
     obtain ⟨u, ua, un9, uc, err, rfl, hC⟩ := hcut
     have hO := hide (hB.out.to hC.out.1)
     have KN := hide (pnum11_any wc err)
     clear A0 A1 A2 AF s0
     go_wp2_with fail
     refine KN.out.mono ?_
     rintro e w7 ⟨rfl, rfl⟩
     clear KN
     by_cases herr : err = 0
     ·subst herr
      have hOK : OwnPg w5.heap.size wc (.slice ua un9 uc) u.pages ∧ ∃ ps, Chg t u ps := by
       rcases hC.out.2.2 with q | ⟨_, q⟩
       ·exact absurd rfl q
       ·exact q
      obtain ⟨q3, ps, q5⟩ := hOK
      have hTB := hO.out.tb
      rw [← hrn.out, ← hnn.out] at hTB
      obtain ⟨⟨A0, A1, A2⟩, AF⟩ := cells3p hTB
      obtain ⟨⟨U0, U1, U2⟩, UF⟩ := cells3p hC.out.2.1
      have FIN := hide (hO.out.put q5 (OwnPg.base q3 hB.out.bel.size))
      clear hTB q3 q5
      go_wp2
      go_roundw
      case rel => exact ⟨k + 1, _, _, rfl, rfl, by omega, by omega, by go_num, ⟨u, _, _, _, _, FIN.out⟩⟩
      case measure => simp [intOf]; omega
     ·have hne : (err == 0) = false := by simpa using herr
      replace herr := hide herr
      have FIN := hide (hO.out.more (Nat.le_succ k))
      go_wp2
      go_roundw
      case rel => exact ⟨k + 1, _, _, rfl, rfl, by omega, by omega, by go_num, ⟨t, _, _, _, _, FIN.out⟩⟩
      case measure => simp [intOf]; omega
   ·have hq0 : (wh == 0) = false := by simpa using h0
    go_upto_region 18 with fail
    have KU : Hid (∀ w9, Below w5.heap.size w5 w9 → Calls Try.prog 11 #[.agg #[.int .i64 root, .int .i64 next, .slice pa pn pc], st key] w9 fun e w6 => ∃ u ua un9 uc was err, e = .returned (.tuple #[.agg #[.int .i64 u.root, .int .i64 u.next, .slice ua un9 uc], .bool was, .int .i64 err]) ∧ CB1 w9.heap.size w6 t u (.slice ua un9 uc) err ∧ Below w9.heap.size w9 w6) := fun w9 b9 => by
     have h9 := pdel_any w9 t (.slice pa pn pc) key (hB.out.to b9).own.rd hB.out.big hB.out.rwf hkl.out
     dsimp only [tv] at h9
     rw [← hrn.out, ← hnn.out] at h9
     exact Calls.mono h9 fun e w6 h => by obtain ⟨u, a9, n9, c9, ws, er, q1, q2, q3⟩ := h.to; exact ⟨u, a9, n9, c9, ws, er, q1, DelB.cb1 q2, q3⟩
    rw [← hY]
    replace hY := hide hY
    go_cut [12] from 36 to 108 (fun ee wx => ∃ (u : Tr) (ua : Option Addr) (un9 uc : Nat) (err : Int), ee = .int .i64 err ∧ Hid (Below w5.heap.size w5 wx ∧ wx.heap[w5.heap.size]? = some (.cells #[.int .i64 u.root, .int .i64 u.next, .slice ua un9 uc] 26 (0, 0)) ∧ CB1 w5.heap.size wx t u (.slice ua un9 uc) err))
    case first =>
     have b0 : Below w5.heap.size w5 Y.drew := BY.out.trans ((below_drewN' Y 1 _ : Below Y.heap.size Y Y.drew).mono BY.out.size)
     have h9 : Y.drew.heap[w5.heap.size]? = some (.cells #[.int .i64 root, .int .i64 next, .slice pa pn pc] 26 (0, 0)) := ((below_drewN' Y 1 _ : Below Y.heap.size Y Y.drew).block _ (lt_of_block HDY.out)).trans HDY.out
     have lg9 := lg9.out
     refine wp_region_fan (fun w9 => w9.cell? ⟨g3, 0, none⟩ = some (.int .i64 root) ∧ w9.cell? ⟨g3, 1, none⟩ = some (.int .i64 next) ∧ w9.cell? ⟨g3, 2, none⟩ = some (.slice pa pn pc) ∧ w9.cell? ⟨sb, so + k * 3 + 1, none⟩ = some (st key) ∧ w9.cell? ⟨sb, so + k * 3 + 2, none⟩ = some (st val)) 12 mixed (by simp) ?_
     generalize Y.drew = c0 at *
     clear A0 A1 A2 AF s0
     refine fan_take (i := 0) (v := ?_) rfl (by kernel_rfl) (fun _ _ _ _ h => h) (by kernel_rfl) (HS.out _ b0) ?_ ?_
     rotate_left
     ·rintro w9 ⟨t0, t1, t2, t3, t4⟩
      go_simp
      try with_reducible rfl
     try simp only [Act.put, List.setIfInBounds_toArray, List.set_cons_zero, List.set_cons_succ]
     refine fan_take (i := 1) (v := ?_) rfl (by kernel_rfl) (fun _ _ _ _ h => h) (by kernel_rfl) (HS.out _ b0) ?_ ?_
     rotate_left
     ·rintro w9 ⟨t0, t1, t2, t3, t4⟩
      go_simp
      try with_reducible rfl
     try simp only [Act.put, List.setIfInBounds_toArray, List.set_cons_zero, List.set_cons_succ]
     refine fan_take (i := 2) (v := ?_) rfl (by kernel_rfl) (fun _ _ _ _ h => h) (by kernel_rfl) (HS.out _ b0) ?_ ?_
     rotate_left
     ·rintro w9 ⟨t0, t1, t2, t3, t4⟩
      go_simp
      try with_reducible rfl
     try simp only [Act.put, List.setIfInBounds_toArray, List.set_cons_zero, List.set_cons_succ]
     refine fan_take (i := 3) (v := ?_) rfl (by kernel_rfl) (fun _ _ _ _ h => h) (by kernel_rfl) (HS.out _ b0) ?_ ?_
     rotate_left
     ·rintro w9 ⟨t0, t1, t2, t3, t4⟩
      go_simp
      try with_reducible rfl
     try simp only [Act.put, List.setIfInBounds_toArray, List.set_cons_zero, List.set_cons_succ]
     refine fan_take (i := 4) (v := ?_) rfl (by kernel_rfl) (fun _ _ _ _ h => h) (by kernel_rfl) (HS.out _ b0) ?_ ?_
     rotate_left
     ·rintro w9 ⟨t0, t1, t2, t3, t4⟩
      go_simp
      try with_reducible rfl
     try simp only [Act.put, List.setIfInBounds_toArray, List.set_cons_zero, List.set_cons_succ]
     refine fan_take (i := 5) (v := ?_) rfl (by kernel_rfl) (fun _ _ _ _ h => h) (by kernel_rfl) (HS.out _ b0) ?_ ?_
     rotate_left
     ·rintro w9 ⟨t0, t1, t2, t3, t4⟩
      go_simp
      try with_reducible rfl
     try simp only [Act.put, List.setIfInBounds_toArray, List.set_cons_zero, List.set_cons_succ]
     refine fan_one 6 (by kernel_rfl) ?_
     refine fan_step rfl (by kernel_rfl) fun K hK => ?_
     refine wp_call_of 11 _ _ (by rfl) #[.agg #[.int .i64 root, .int .i64 next, .slice pa pn pc], st key] (by simp [Act.eval]) (Try.call11 _ _) (KU.out _ b0) ?_
     rintro e c2 ⟨u, ua, un9, uc, was, err, rfl, pB, bF⟩
     have b2 := b0.trans (bF.mono b0.size)
     replace pB := CB1.base (B := w5.heap.size) pB b0.size
     replace h9 := (bF.block _ (lt_of_block h9)).trans h9
     clear bF
     refine ⟨_, rfl, hK _ _ (HS.out _ b2) ?_⟩
     clear hK K
     try simp only [Act.put, List.setIfInBounds_toArray, List.set_cons_zero, List.set_cons_succ]
     refine fan_take (i := 7) (v := ?_) rfl (by kernel_rfl) (fun _ _ _ _ h => h) (by kernel_rfl) (HS.out _ b2) ?_ ?_
     rotate_left
     ·rintro w9 ⟨t0, t1, t2, t3, t4⟩
      go_simp
      try with_reducible rfl
     try simp only [Act.put, List.setIfInBounds_toArray, List.set_cons_zero, List.set_cons_succ]
     refine fan_take (i := 8) (v := ?_) rfl (by kernel_rfl) (fun _ _ _ _ h => h) (by kernel_rfl) (HS.out _ b2) ?_ ?_
     rotate_left
     ·rintro w9 ⟨t0, t1, t2, t3, t4⟩
      go_simp
      try with_reducible rfl
     try simp only [Act.put, List.setIfInBounds_toArray, List.set_cons_zero, List.set_cons_succ]
     refine fan_take (i := 9) (v := ?_) rfl (by kernel_rfl) (fun _ _ _ _ h => h) (by kernel_rfl) (HS.out _ b2) ?_ ?_
     rotate_left
     ·rintro w9 ⟨t0, t1, t2, t3, t4⟩
      go_simp
      try with_reducible rfl
     try simp only [Act.put, List.setIfInBounds_toArray, List.set_cons_zero, List.set_cons_succ]
     refine fan_take (i := 10) (v := ?_) rfl (by kernel_rfl) (fun _ _ _ _ h => h) (by kernel_rfl) (HS.out _ b2) ?_ ?_
     rotate_left
     ·rintro w9 ⟨t0, t1, t2, t3, t4⟩
      go_simp
      try with_reducible rfl
     try simp only [Act.put, List.setIfInBounds_toArray, List.set_cons_zero, List.set_cons_succ]
     refine fan_one 11 (by kernel_rfl) ?_
     have y9 := cells3p h9
     obtain ⟨⟨y0, y1, y2⟩, yF⟩ := y9
     refine fan_step rfl (by kernel_rfl) fun K hK => ?_
     go_simp
     obtain ⟨d1, hd⟩ : ∃ d, d = ((c2.setCell ⟨w5.heap.size, 0, none⟩ (.int .i64 u.root)).setCell ⟨w5.heap.size, 1, none⟩ (.int .i64 u.next)).setCell ⟨w5.heap.size, 2, none⟩ (.slice ua un9 uc) := ⟨_, rfl⟩
     rw [← hd]
     have e1 : Below w5.heap.size w5 d1 := by rw [hd]; exact below_set3t b2 lg9 _ _ _
     have i9 : d1.heap[w5.heap.size]? = some (.cells #[(.int .i64 u.root), (.int .i64 u.next), (.slice ua un9 uc)] 26 (0, 0)) := by rw [hd]; exact heap_set3t h9 _ _ _
     have kd := fun e (he : e ≠ 26) => s3_keep9 h9 (.int .i64 u.root) (.int .i64 u.next) (.slice ua un9 uc) he
     rw [← hd] at kd
     have pD := CB1.keep pB kd
     refine hK _ _ (HS.out _ e1) ?_
     clear hK K y0 y1 y2 yF hd kd
     try simp only [Act.put, List.setIfInBounds_toArray, List.set_cons_zero, List.set_cons_succ]
     refine fan_done (by kernel_rfl) ?_
     show wpList _ _ _ _ _ _
     have FIN := hide (And.intro e1 (And.intro i9 pD))
     clear e1 i9 pD pB h9 b2 b0
     go_wp2_with fail
     go_meet
     case rel => exact ⟨u, _, _, _, err, rfl, FIN⟩
    case rest =>
     obtain ⟨u, ua, un9, uc, err, rfl, hC⟩ := hcut
     have hO := hide (hB.out.to hC.out.1)
     have KN := hide (pnum11_any wc err)
     clear A0 A1 A2 AF s0
     go_wp2_with fail
     refine KN.out.mono ?_
     rintro e w7 ⟨rfl, rfl⟩
     clear KN
     by_cases herr : err = 0
     ·subst herr
      have hOK : OwnPg w5.heap.size wc (.slice ua un9 uc) u.pages ∧ ∃ ps, Chg t u ps := by
       rcases hC.out.2.2 with q | ⟨_, q⟩
       ·exact absurd rfl q
       ·exact q
      obtain ⟨q3, ps, q5⟩ := hOK
      have hTB := hO.out.tb
      rw [← hrn.out, ← hnn.out] at hTB
      obtain ⟨⟨A0, A1, A2⟩, AF⟩ := cells3p hTB
      obtain ⟨⟨U0, U1, U2⟩, UF⟩ := cells3p hC.out.2.1
      have FIN := hide (hO.out.put q5 (OwnPg.base q3 hB.out.bel.size))
      clear hTB q3 q5
      go_wp2
      go_roundw
      case rel => exact ⟨k + 1, _, _, rfl, rfl, by omega, by omega, by go_num, ⟨u, _, _, _, _, FIN.out⟩⟩
      case measure => simp [intOf]; omega
     ·have hne : (err == 0) = false := by simpa using herr
      replace herr := hide herr
      have FIN := hide (hO.out.more (Nat.le_succ k))
      go_wp2
      go_roundw
      case rel => exact ⟨k + 1, _, _, rfl, rfl, by omega, by omega, by go_num, ⟨t, _, _, _, _, FIN.out⟩⟩
      case measure => simp [intOf]; omega
  ·have hz : ¬ k < len0 ∨ (k < len0 ∧ ¬ k < 80) := by omega
   obtain ⟨ha9, hc9, hhv⟩ := hB0.out.ha.shape
   rw [hB0.out.l2, ← hRL.out] at hhv
   subst hhv
   obtain ⟨rs, hrs⟩ : ∃ x, x = rs0 := ⟨_, rfl⟩
   subst hrs
   obtain ⟨hs, hhs⟩ : ∃ x, x = hs0 := ⟨_, rfl⟩
   subst hhs
   go_upto_region 8 with fail
   go_cut [43] from 36 to 108 (fun s wx => s = .bool false ∧ wo = wx)
   case first =>
    rcases hz with hz | ⟨hz, hz4⟩
    ·have hq : ¬ (k : Int) < (len0 : Int) := by omega
     go_wp2_with fail
     go_meet
     case rel => exact ⟨rfl, rfl⟩
    ·have hq : (k : Int) < (len0 : Int) := by omega
     have hq4 : ¬ (k : Int) < 80 := by omega
     go_wp2_with fail
     go_meet
     case rel => exact ⟨rfl, rfl⟩
   case rest =>
    obtain ⟨rfl, rfl⟩ := hcut
    replace hz := hide hz
    have hpb : Hid (pn ≤ 65536) := by
     have hT := (tprs_num hB0.out.prs).1
     have h1 := tups_len hT.2.2.1 hT.1
     have h2 := hT.2.1
     show _ ≤ _
     rw [hpn.out]
     omega
    have hR16 : RL ≤ 16 := by rw [hRL.out]; exact hB0.out.l1
    have KS := pscan10_any wo t (.slice pa pn pc) [] [] hB0.out.own.rd hB0.out.rwf
    rw [tscan_is hB0.out.prs, pscan_all] at KS
    dsimp only [tv] at KS
    rw [← hrn.out, ← hnn.out] at KS
    replace KS := hide KS
    go_wp2_with fail
    refine KS.out.mono ?_
    rintro e w3 ⟨v3, rfl, o3, b3⟩
    clear KS A0 A1 A2 AF
    have hB3 := hide (hB0.out.to b3)
    have hTB := hB3.out.tb
    rw [← hrn.out, ← hnn.out] at hTB
    obtain ⟨⟨A0, A1, A2⟩, AF⟩ := cells3p hTB
    obtain ⟨va3, vc3, hv3⟩ := (OwnP.rd o3).slice
    obtain ⟨n3, hn3⟩ : ∃ n, n = want.length := ⟨_, rfl⟩
    rw [← hn3] at hv3
    subst hv3
    replace hn3 := hide hn3
    have O3 := hide o3
    have B3 := hide (BZ.out.trans (b3.mono BZ.out.size))
    have KW := vsweep_any w3 t (.slice pa pn pc) (.slice ra RL rc) rs hB3.out.own.rd hB0.out.big hB0.out.rwf (OwnJ.rd hB3.out.ro) hB0.out.rsw (by rw [← hRL.out]; omega)
    dsimp only [tv] at KW
    rw [← hrn.out, ← hnn.out] at KW
    replace KW := hide KW
    clear o3 b3 hTB
    dsimp only
    go_wp2_with fail
    refine KW.out.mono ?_
    rintro e w4 h4
    clear KW A0 A1 A2 AF
    rcases h4 with ⟨_, A, pv4, hA, rfl, o4, b4⟩ | ⟨h6, _⟩
    rotate_left
    ·exact absurd hB0.out.lv.2 h6
    obtain ⟨sa, sc, hp4⟩ := o4.shape
    obtain ⟨KL, hKL⟩ : ∃ n, n = (keepP A t.pages).length := ⟨_, rfl⟩
    rw [← hKL] at hp4
    subst hp4
    have hKle : KL ≤ pn := by rw [hKL, hpn.out]; exact keep_le _ _
    rw [← hKL, ← hpn.out]
    dsimp only [tv]
    rw [← hrn.out, ← hnn.out]
    obtain ⟨V, hV, DV, bV, sV⟩ := boxedN w4 #[.int .i64 root, .int .i64 next, .slice sa KL sc] 26
    have b3V := b4.trans (bV.mono b4.size)
    have hS : KI w1 V w4.heap.size (swT t A) (.slice sa KL sc) want rs (.slice ra RL rc) hs (.slice ha9 RL hc9) k := hB3.out.swept b3V hA (OwnX.base (o4.to9 bV) hB3.out.bel.size) (by rw [← hrn.out, ← hnn.out]; exact DV) (Nat.le_trans hB3.out.bel.size b4.size)
    have HT := hide (hB3.out.to b3V)
    have OV := hide (rows_to (rows_to O3.out b4) bV)
    have B4 := hide (B3.out.trans (b3V.mono B3.out.size))
    obtain ⟨⟨A0, A1, A2⟩, AF⟩ := cells3p DV
    have KW := vsweep_any V (swT t A) (.slice sa KL sc) (.slice ra RL rc) rs hS.own.rd hS.big hS.rwf (OwnJ.rd hS.ro) hS.rsw (by rw [← hRL.out]; omega)
    dsimp only [tv] at KW
    rw [← hrn.out, ← hnn.out] at KW
    replace KW := hide KW
    replace hS := hide hS
    replace hA := hide hA
    replace hKL := hide hKL
    obtain ⟨gs, hgs⟩ : ∃ g, g = w4.heap.size := ⟨_, rfl⟩
    rw [hV] at A0 A1 A2 AF KW
    clear o4 b4 DV bV sV b3V
    go_wp2_with fail
    refine KW.out.mono ?_
    rintro e w5 h5
    rw [← hV] at h5
    replace hV := hide hV
    rw [← hgs] at hS ⊢
    clear KW A0 A1 A2 AF hgs
    rcases h5 with ⟨_, A', pv5, hA', rfl, o5, b5⟩ | ⟨h6, _⟩
    rotate_left
    ·exact absurd hS.out.lv.2 h6
    have hag := keep_again hB0.out.lv.1 hA.out hA'
    obtain ⟨ta, tc, hp5⟩ := o5.shape
    have hK2 : (keepP A' (swT t A).pages).length = KL := by show (keepP A' (keepP A t.pages)).length = _; rw [hag, hKL.out]
    rw [hK2] at hp5
    subst hp5
    have hm0 : ((swT t A).pages.length : Int) - ((keepP A' (swT t A).pages).length : Int) = 0 := by
     rw [hK2]
     show ((keepP A t.pages).length : Int) - (KL : Int) = 0
     rw [← hKL.out]
     omega
    rw [hm0]
    dsimp only [tv]
    rw [← hrn.out, ← hnn.out]
    obtain ⟨X, hX, DX, bX, sX⟩ := boxedN w5 #[.int .i64 root, .int .i64 next, .slice ta KL tc] 26
    have bVX := b5.trans (bX.mono b5.size)
    have hB := hide (hS.out.to bVX)
    have HX := hide (HT.out.to bVX)
    have OX := hide (rows_to OV.out bVX)
    have BX := hide (B4.out.trans (bVX.mono B4.out.size))
    have KN := hide (fun w => pnum11_any w 0)
    have hTB := hB.out.tb
    rw [← hrn.out, ← hnn.out] at hTB
    obtain ⟨⟨A0, A1, A2⟩, AF⟩ := cells3p hTB
    have hTC := HX.out.tb
    rw [← hrn.out, ← hnn.out] at hTC
    obtain ⟨⟨C0, C1, C2⟩, CF⟩ := cells3p hTC
    have hpb' := hpb.out
    have hnn1 : ¬ (pn : Int) - (KL : Int) < 0 := by omega
    have hnn2 : (pn : Int) - ((pn : Int) - (KL : Int)) = (KL : Int) := by omega
    rw [hX] at A0 A1 A2 AF C0 C1 C2 CF
    clear o5 b5 DX bX sX bVX hTB hTC hA' hag hK2 hm0
    go_wp2_with fail
    refine (KN.out _).mono ?_
    rintro e w6 ⟨rfl, rfl⟩
    go_wp2_with fail
    refine (KN.out _).mono ?_
    rintro e w6 ⟨rfl, rfl⟩
    go_wp2_with fail
    refine (KN.out _).mono ?_
    rintro e w6 ⟨rfl, rfl⟩
    have KS := pscan10_any X (swT t A) (.slice sa KL sc) [] [] hB.out.own.rd hB.out.rwf
    rw [tscan_is hB.out.prs, pscan_all] at KS
    dsimp only [tv] at KS
    rw [← hrn.out, ← hnn.out] at KS
    replace KS := hide KS
    rw [hX] at KS
    go_wp2_with fail
    refine KS.out.mono ?_
    rintro e w6 ⟨v6, rfl, o6, b6⟩
    rw [← hX] at b6
    replace hX := hide hX
    clear KS A0 A1 A2 AF C0 C1 C2 CF
    have KE := hide (samep_any w6 _ _ _ _ (OwnP.rd o6) (OwnP.rd (rows_to OX.out b6)))
    rw [decide_eq_true rfl] at KE
    obtain ⟨va6, vc6, hv6⟩ := (OwnP.rd o6).slice
    rw [← hn3.out] at hv6
    subst hv6
    have hB6 := hide (hB.out.to b6)
    have B6 := hide (BX.out.trans (b6.mono BX.out.size))
    clear o6 b6
    dsimp only
    go_wp2_with fail
    refine (KN.out _).mono ?_
    rintro e w7 ⟨rfl, rfl⟩
    go_wp2_with fail
    refine KE.out.mono ?_
    rintro e w7 ⟨rfl, b7⟩
    have hB7 := hide (hB6.out.to b7)
    have BZ7 := hide (B6.out.trans (b7.mono B6.out.size))
    clear KE KN b7 hB6 B6 hB BX OX HX BZ B3 B4 OV HT hS hB3 O3
    obtain ⟨w9x, hw9x⟩ : ∃ x, x = w7 := ⟨_, rfl⟩
    subst hw9x
    obtain ⟨hB, hhB⟩ : ∃ x : Hid (KI w1 w9x gs (swT t A) (.slice sa KL sc) want rs (.slice ra RL rc) hs (.slice ha9 RL hc9) k), x = hB7 := ⟨_, rfl⟩
    clear hhB
    have BZ := BZ7
    obtain ⟨pn0, hpn0⟩ : ∃ n, n = pn := ⟨_, rfl⟩
    obtain ⟨t9, ht9⟩ : ∃ x, x = swT t A := ⟨_, rfl⟩
    rw [← ht9] at hB
    have hrn9 : Hid (root = t9.root) := by show _ = _; rw [ht9]; exact hrn.out
    have hnn9 : Hid (next = t9.next) := by show _ = _; rw [ht9]; exact hnn.out
    have hpn9 : Hid (KL = t9.pages.length) := by show _ = _; rw [ht9]; exact hKL.out
    replace ht9 := hide ht9
    go_wp2
    go_loopw [23] (fun p wr => ∃ q : Nat, q ≤ RL ∧ p = .int .i64 q ∧ Hid (Below w9x.heap.size w9x wr)) (fun p _ => RL - (intOf p).toNat)
    case atStart => exact ⟨0, Nat.zero_le _, rfl, Below.refl _ _⟩
    case round =>
     obtain ⟨q, hqk, rfl, hJ⟩ := hrel
     have hBr := hide (hB.out.to hJ.out)
     have BZr := hide (BZ.out.trans (hJ.out.mono BZ.out.size))
     by_cases hlq : q < RL
     ·have hqq : (q : Int) < (RL : Int) := by omega
      obtain ⟨r, hr⟩ : ∃ y, rs[q]? = some y := ⟨_, List.getElem?_eq_getElem (by rw [← hRL.out]; exact hlq)⟩
      obtain ⟨hh, hhh⟩ : ∃ y, hs[q]? = some y := ⟨_, List.getElem?_eq_getElem (by rw [hB.out.l2, ← hRL.out]; exact hlq)⟩
      have hold := hide (hB.out.old q r hh hr hhh)
      obtain ⟨rb, ro9, hra, cr⟩ := (OwnJ.rd hBr.out.ro).intAt hr
      subst hra
      obtain ⟨hb9, sv, hha, ch, _⟩ := hBr.out.ha.at hhh
      subst hha
      have hTB := hBr.out.tb
      rw [← hrn9.out, ← hnn9.out] at hTB
      obtain ⟨⟨A0, A1, A2⟩, AF⟩ := cells3p hTB
      have HS : Hid (∀ w9, Below wr.heap.size wr w9 → w9.cell? ⟨gs, 0, none⟩ = some (.int .i64 root) ∧ w9.cell? ⟨gs, 1, none⟩ = some (.int .i64 next) ∧ w9.cell? ⟨gs, 2, none⟩ = some (.slice sa KL sc) ∧ w9.cell? ⟨rb, ro9 + q, none⟩ = some (.int .i64 r)) := fun w9 b9 =>
       ⟨(b9.cell (cell_lt A0)).trans A0, (b9.cell (cell_lt A1)).trans A1, (b9.cell (cell_lt A2)).trans A2, (b9.cell (cell_lt cr)).trans cr⟩
      have KT : Hid (∀ w9, Below wr.heap.size wr w9 → Calls Try.prog 14 #[.agg #[.int .i64 root, .int .i64 next, .slice sa KL sc], .int .i64 r] w9 fun e w6 => ∃ ua uc, e = .returned (.tuple #[.agg #[.int .i64 r, .int .i64 next, .slice ua KL uc], .int .i64 0]) ∧ OwnPg w9.heap.size w6 (.slice ua KL uc) t9.pages ∧ Below w9.heap.size w9 w6) := fun w9 b9 => by
       have h9 := pat_any w9 t9 (.slice sa KL sc) r (hBr.out.to b9).own.rd hB.out.big hB.out.rwf (tprs_num hold.out).1.rwf
       dsimp only [tv] at h9
       rw [← hrn9.out, ← hnn9.out] at h9
       refine Calls.mono h9 ?_
       rintro e w6 (⟨_, pv6, rfl, o6, b6⟩ | ⟨q0, _⟩)
       ·obtain ⟨a6, c6, h6⟩ := o6.shape
        rw [← hpn9.out] at h6
        subst h6
        exact ⟨a6, c6, by rw [hnn9.out], o6, b6⟩
       ·exact absurd (tatE_old hB.out.prs hold.out) q0
      have HR2 := hide (And.intro hr hhh)
      clear hr hhh hTB
      go_upto_region 32 with fail
      go_cut [24, 25] from 170 to 204 (fun pp ee wx => ∃ (g7 : Nat) (ua : Option Addr) (uc : Nat), pp = .pointer (some ⟨g7, 0, none⟩) ∧ ee = .int .i64 0 ∧ Hid (Below wr.heap.size wr wx ∧ wx.heap[g7]? = some (.cells #[.int .i64 r, .int .i64 next, .slice ua KL uc] 26 (0, 0)) ∧ OwnPg wr.heap.size wx (.slice ua KL uc) t9.pages ∧ wr.heap.size ≤ g7))
      case first =>
       have b0 : Below wr.heap.size wr wr.drew := (Below.refl _ _).drew
       refine wp_region_fan (fun w9 => w9.cell? ⟨gs, 0, none⟩ = some (.int .i64 root) ∧ w9.cell? ⟨gs, 1, none⟩ = some (.int .i64 next) ∧ w9.cell? ⟨gs, 2, none⟩ = some (.slice sa KL sc) ∧ w9.cell? ⟨rb, ro9 + q, none⟩ = some (.int .i64 r)) 11 mixed (by simp) ?_
       generalize wr.drew = c0 at *
       clear A0 A1 A2 AF cr ch
       refine fan_take (i := 0) (v := ?_) rfl (by kernel_rfl) (fun _ _ _ _ h => h) (by kernel_rfl) (HS.out _ b0) ?_ ?_
       rotate_left
       ·rintro w9 ⟨t0, t1, t2, t3⟩
        go_simp
        try with_reducible rfl
       try simp only [Act.put, List.setIfInBounds_toArray, List.set_cons_zero, List.set_cons_succ]
       refine fan_take (i := 1) (v := ?_) rfl (by kernel_rfl) (fun _ _ _ _ h => h) (by kernel_rfl) (HS.out _ b0) ?_ ?_
       rotate_left
       ·rintro w9 ⟨t0, t1, t2, t3⟩
        go_simp
        try with_reducible rfl
       try simp only [Act.put, List.setIfInBounds_toArray, List.set_cons_zero, List.set_cons_succ]
       refine fan_take (i := 2) (v := ?_) rfl (by kernel_rfl) (fun _ _ _ _ h => h) (by kernel_rfl) (HS.out _ b0) ?_ ?_
       rotate_left
       ·rintro w9 ⟨t0, t1, t2, t3⟩
        go_simp
        try with_reducible rfl
       try simp only [Act.put, List.setIfInBounds_toArray, List.set_cons_zero, List.set_cons_succ]
       refine fan_take (i := 3) (v := ?_) rfl (by kernel_rfl) (fun _ _ _ _ h => h) (by kernel_rfl) (HS.out _ b0) ?_ ?_
       rotate_left
       ·rintro w9 ⟨t0, t1, t2, t3⟩
        go_simp
        try with_reducible rfl
       try simp only [Act.put, List.setIfInBounds_toArray, List.set_cons_zero, List.set_cons_succ]
       refine fan_take (i := 4) (v := ?_) rfl (by kernel_rfl) (fun _ _ _ _ h => h) (by kernel_rfl) (HS.out _ b0) ?_ ?_
       rotate_left
       ·rintro w9 ⟨t0, t1, t2, t3⟩
        go_simp
        try with_reducible rfl
       try simp only [Act.put, List.setIfInBounds_toArray, List.set_cons_zero, List.set_cons_succ]
       refine fan_two 5 9 (by kernel_rfl) ?_ ?_
       ·
        refine fan_step rfl (by kernel_rfl) fun K hK => ?_
        refine wp_call_of 14 _ _ (by rfl) #[.agg #[.int .i64 root, .int .i64 next, .slice sa KL sc], .int .i64 r] (by simp [Act.eval]) (Try.call14 _ _) (KT.out _ b0) ?_
        rintro e c2 ⟨ua, uc, rfl, pB, bF⟩
        have b2 := b0.trans (bF.mono b0.size)
        replace pB := OwnPg.base pB b0.size
        clear bF
        refine ⟨_, rfl, hK _ _ (HS.out _ b2) ?_⟩
        clear hK K
        try simp only [Act.put, List.setIfInBounds_toArray, List.set_cons_zero, List.set_cons_succ]
        refine fan_take (i := 6) (v := ?_) rfl (by kernel_rfl) (fun _ _ _ _ h => h) (by kernel_rfl) (HS.out _ b2) ?_ ?_
        rotate_left
        ·rintro w9 ⟨t0, t1, t2, t3⟩
         go_simp
         try with_reducible rfl
        try simp only [Act.put, List.setIfInBounds_toArray, List.set_cons_zero, List.set_cons_succ]
        refine fan_take (i := 7) (v := ?_) rfl (by kernel_rfl) (fun _ _ _ _ h => h) (by kernel_rfl) (HS.out _ b2) ?_ ?_
        rotate_left
        ·rintro w9 ⟨t0, t1, t2, t3⟩
         go_simp
         try with_reducible rfl
        try simp only [Act.put, List.setIfInBounds_toArray, List.set_cons_zero, List.set_cons_succ]
        refine fan_take (i := 8) (v := ?_) rfl (by kernel_rfl) (fun _ _ _ _ h => h) (by kernel_rfl) (HS.out _ b2) ?_ ?_
        rotate_left
        ·rintro w9 ⟨t0, t1, t2, t3⟩
         go_simp
         try with_reducible rfl
        try simp only [Act.put, List.setIfInBounds_toArray, List.set_cons_zero, List.set_cons_succ]
        refine fan_one 9 (by kernel_rfl) ?_
        refine fan_step rfl (by kernel_rfl) fun K hK => ?_
        go_simp
        obtain ⟨c3, hc, h7, bc, sc⟩ := boxedN c2 #[.int .i64 0, .int .i64 0, .slice none 0 0] 26
        rw [← hc]
        have b3 := b2.trans (bc.mono b2.size)
        obtain ⟨g7, hg⟩ : ∃ g, g = c2.heap.size := ⟨_, rfl⟩
        rw [← hg] at h7
        rw [← hg]
        have lg7 : wr.heap.size ≤ g7 := by have := b2.size; omega
        replace pB := pB.to9 bc
        refine hK _ _ (HS.out _ b3) ?_
        clear hK K hc bc sc hg
        try simp only [Act.put, List.setIfInBounds_toArray, List.set_cons_zero, List.set_cons_succ]
        refine fan_one 10 (by kernel_rfl) ?_
        obtain ⟨⟨y0, y1, y2⟩, yF⟩ := cells3p h7
        refine fan_step rfl (by kernel_rfl) fun K hK => ?_
        go_simp
        obtain ⟨d1, hd⟩ : ∃ d, d = ((c3.setCell ⟨g7, 0, none⟩ (.int .i64 r)).setCell ⟨g7, 1, none⟩ (.int .i64 next)).setCell ⟨g7, 2, none⟩ (.slice ua KL uc) := ⟨_, rfl⟩
        rw [← hd]
        have e1 : Below wr.heap.size wr d1 := by rw [hd]; exact below_set3t b3 lg7 _ _ _
        have i7 : d1.heap[g7]? = some (.cells #[(.int .i64 r), (.int .i64 next), (.slice ua KL uc)] 26 (0, 0)) := by rw [hd]; exact heap_set3t h7 _ _ _
        have kd := fun e (he : e ≠ 26) => s3_keep9 h7 (.int .i64 r) (.int .i64 next) (.slice ua KL uc) he
        rw [← hd] at kd
        have pD := OwnX.keepT pB (kd _ (by decide)) (kd _ (by decide))
        refine hK _ _ (HS.out _ e1) ?_
        clear hK K y0 y1 y2 yF hd kd
        try simp only [Act.put, List.setIfInBounds_toArray, List.set_cons_zero, List.set_cons_succ]
        refine fan_done (by kernel_rfl) ?_
        show wpList _ _ _ _ _ _
        have FIN := hide (And.intro e1 (And.intro i7 (And.intro pD lg7)))
        clear e1 i7 pD pB lg7 h7
        go_wp2_with fail
        go_meet
        exact ⟨g7, _, _, rfl, rfl, FIN⟩
       ·
        refine fan_step rfl (by kernel_rfl) fun K hK => ?_
        go_simp
        obtain ⟨c2, hc, h7, bc, sc⟩ := boxedN c0 #[.int .i64 0, .int .i64 0, .slice none 0 0] 26
        rw [← hc]
        have b2 := b0.trans (bc.mono b0.size)
        obtain ⟨g7, hg⟩ : ∃ g, g = c0.heap.size := ⟨_, rfl⟩
        rw [← hg] at h7
        rw [← hg]
        have lg7 : wr.heap.size ≤ g7 := by have := b0.size; omega
        refine hK _ _ (HS.out _ b2) ?_
        clear hK K hc bc sc hg
        try simp only [Act.put, List.setIfInBounds_toArray, List.set_cons_zero, List.set_cons_succ]
        refine fan_one 5 (by kernel_rfl) ?_
        refine fan_step rfl (by kernel_rfl) fun K hK => ?_
        refine wp_call_of 14 _ _ (by rfl) #[.agg #[.int .i64 root, .int .i64 next, .slice sa KL sc], .int .i64 r] (by simp [Act.eval]) (Try.call14 _ _) (KT.out _ b2) ?_
        rintro e c3 ⟨ua, uc, rfl, pB, bF⟩
        have b3 := b2.trans (bF.mono b2.size)
        replace pB := OwnPg.base pB b2.size
        replace h7 := (bF.block _ (lt_of_block h7)).trans h7
        clear bF
        refine ⟨_, rfl, hK _ _ (HS.out _ b3) ?_⟩
        clear hK K
        try simp only [Act.put, List.setIfInBounds_toArray, List.set_cons_zero, List.set_cons_succ]
        refine fan_take (i := 6) (v := ?_) rfl (by kernel_rfl) (fun _ _ _ _ h => h) (by kernel_rfl) (HS.out _ b3) ?_ ?_
        rotate_left
        ·rintro w9 ⟨t0, t1, t2, t3⟩
         go_simp
         try with_reducible rfl
        try simp only [Act.put, List.setIfInBounds_toArray, List.set_cons_zero, List.set_cons_succ]
        refine fan_take (i := 7) (v := ?_) rfl (by kernel_rfl) (fun _ _ _ _ h => h) (by kernel_rfl) (HS.out _ b3) ?_ ?_
        rotate_left
        ·rintro w9 ⟨t0, t1, t2, t3⟩
         go_simp
         try with_reducible rfl
        try simp only [Act.put, List.setIfInBounds_toArray, List.set_cons_zero, List.set_cons_succ]
        refine fan_take (i := 8) (v := ?_) rfl (by kernel_rfl) (fun _ _ _ _ h => h) (by kernel_rfl) (HS.out _ b3) ?_ ?_
        rotate_left
        ·rintro w9 ⟨t0, t1, t2, t3⟩
         go_simp
         try with_reducible rfl
        try simp only [Act.put, List.setIfInBounds_toArray, List.set_cons_zero, List.set_cons_succ]
        refine fan_one 10 (by kernel_rfl) ?_
        obtain ⟨⟨y0, y1, y2⟩, yF⟩ := cells3p h7
        refine fan_step rfl (by kernel_rfl) fun K hK => ?_
        go_simp
        obtain ⟨d1, hd⟩ : ∃ d, d = ((c3.setCell ⟨g7, 0, none⟩ (.int .i64 r)).setCell ⟨g7, 1, none⟩ (.int .i64 next)).setCell ⟨g7, 2, none⟩ (.slice ua KL uc) := ⟨_, rfl⟩
        rw [← hd]
        have e1 : Below wr.heap.size wr d1 := by rw [hd]; exact below_set3t b3 lg7 _ _ _
        have i7 : d1.heap[g7]? = some (.cells #[(.int .i64 r), (.int .i64 next), (.slice ua KL uc)] 26 (0, 0)) := by rw [hd]; exact heap_set3t h7 _ _ _
        have kd := fun e (he : e ≠ 26) => s3_keep9 h7 (.int .i64 r) (.int .i64 next) (.slice ua KL uc) he
        rw [← hd] at kd
        have pD := OwnX.keepT pB (kd _ (by decide)) (kd _ (by decide))
        refine hK _ _ (HS.out _ e1) ?_
        clear hK K y0 y1 y2 yF hd kd
        try simp only [Act.put, List.setIfInBounds_toArray, List.set_cons_zero, List.set_cons_succ]
        refine fan_done (by kernel_rfl) ?_
        show wpList _ _ _ _ _ _
        have FIN := hide (And.intro e1 (And.intro i7 (And.intro pD lg7)))
        clear e1 i7 pD pB lg7 h7
        go_wp2_with fail
        go_meet
        exact ⟨g7, _, _, rfl, rfl, FIN⟩
      case rest =>
       obtain ⟨g7, ua, uc, rfl, rfl, hC⟩ := hcut
       have KS := pscan10_any wc ⟨r, t9.next, t9.pages⟩ (.slice ua KL uc) [] [] hC.out.2.2.1.rd (tprs_num hold.out).1.rwf
       rw [tscan_is hold.out, pscan_all] at KS
       dsimp only [tv] at KS
       rw [← hnn9.out] at KS
       replace KS := hide KS
       clear A0 A1 A2 AF cr ch
       obtain ⟨⟨U0, U1, U2⟩, UF⟩ := cells3p hC.out.2.1
       go_wp2_with fail
       refine KS.out.mono ?_
       rintro e w6 ⟨v6, rfl, o6, b6⟩
       have bC6 := hC.out.1.trans (b6.mono hC.out.1.size)
       have hB6 := hBr.out.to bC6
       obtain ⟨hb8, sv8, hha, ch, oh⟩ := hB6.ha.at HR2.out.2
       simp only [Option.some.injEq, Addr.mk.injEq, and_true] at hha
       subst hha
       have KN := hide (pnum11_any w6 0)
       have KE := hide (samep_any w6 _ _ _ _ (OwnP.rd o6) (OwnP.rd oh))
       rw [decide_eq_true rfl] at KE
       obtain ⟨va6, vc6, hv6⟩ := (OwnP.rd o6).slice
       obtain ⟨n6, hn6⟩ : ∃ n, n = hh.length := ⟨_, rfl⟩
       rw [← hn6] at hv6
       subst hv6
       replace hn6 := hide hn6
       have B6 := hide (hJ.out.trans (bC6.mono hJ.out.size))
       clear o6 b6 bC6 hB6 oh KS U0 U1 U2 UF
       dsimp only
       go_wp2_with fail
       refine KN.out.mono ?_
       rintro e w7 ⟨rfl, rfl⟩
       go_wp2_with fail
       refine KN.out.mono ?_
       rintro e w7 ⟨rfl, rfl⟩
       go_wp2_with fail
       refine KE.out.mono ?_
       rintro e w7 ⟨rfl, b7⟩
       have FIN := hide (B6.out.trans (b7.mono B6.out.size))
       clear KN KE b7 ch
       go_wp2
       go_roundw
       case rel => exact ⟨q + 1, by omega, by go_num, FIN⟩
       case measure => simp [intOf]; omega
     ·have hqq : ¬ (q : Int) < (RL : Int) := by omega
      go_wp2
      go_ret
      exact ⟨rfl, BZr.out⟩
set_option maxRecDepth 100000 in
theorem lifted (os : Os) (started : os.Started) (H : Type) (enc : TypeId × Value → H) :
  ReturnsInHanded {} Try.checked os 3 .any (Rows.reclaimKeepsSpec.pre6 enc Try.prog Try.f3 Rows.reclaimKeepsRow.domain false) (Rows.reclaimKeepsSpec.post enc Try.prog Try.f3 false true false false) := by
 refine returnsInHanded_of_change_sized (C := Try.checked) own started (by kernel_rfl) Try.func3
  (ChangeSpec.witness6 (enc := enc) (C := Try.checked) false ⟨#[], #[.slice none 0 0, .int .i64 0], []⟩ 8 (by kernel_rfl) (by kernel_rfl) (by kernel_rfl) (by kernel_rfl)) ?_
 intro W base args ds gs before hval0 hW hcnd hsz0 _
 have hsz : (DataW.weightsEach Try.prog (Try.f3.params.toList ++ Rows.reclaimKeepsSpec.plain.varTypes Try.prog) (ds ++ gs)).all (· ≤ reachBytes) = true := hsz0
 have hval : ∀ (j : Nat) t v, Try.f3.params[j]? = some t → args[j]? = some v → Value.okWide Try.prog W .any base t v := hval0
 have hW' := hW
 obtain ⟨p, q, hA0, hV, rfl, hfz, hnd⟩ := hW
 have hA : DataW.TrodAll enc Try.prog W 0 (fun _ => true) true Try.f3.params.toList args.toList ds p := hA0
 rw [Try.params3] at hA hval hsz
 obtain ⟨v0, vs0, d0, ds0, p0, q0, hargs, rfl, rfl, h0, r0⟩ := trodAll_cons hA
 obtain ⟨v1, vs1, d1, ds1, p1, q1, rfl, rfl, rfl, h1, r1⟩ := trodAll_cons r0
 obtain ⟨rfl, rfl, rfl⟩ := trodAll_nil r1
 obtain rfl : args = #[v0, v1] := by cases args; simp_all
 obtain ⟨rfl, rfl⟩ := trodVars_none hV
 obtain ⟨a0, len0, cap0, rfl⟩ := okWide_slice Try.underlying22 (hval 0 22 v0 rfl rfl)
 have lt0 : ∀ x ∈ p0, x.block < W.heap.size := by obtain ⟨m, hm⟩ := h0; exact DataW.trod_lt m _ _ _ hm
 have hh0 := h0
 obtain ⟨fu0, hf0⟩ := hh0
 obtain ⟨x0, g0, f0, b0⟩ := open_steps10.opened hf0
 obtain ⟨a1, rfl, rfl, rfl, w1⟩ := open_int Try.underlying3 (hval 1 3 v1 rfl rfl) h1
 have m0 := f0 (reach_of hsz (j := 0) rfl rfl)
 clear hA0 hval0 hsz0 hsz
 refine (walk W a0 len0 cap0 x0 g0 m0 a1 w1).mono fun e W' ⟨he, bel⟩ => ?_
 subst he
 exact ⟨_, rfl, _, _, _, [], _, [], hW', trodAll_mk1 (shut_bool Try.underlying4 _), (trodAll_cons_mk (Below.trod laidOut (by kernel_rfl) (of_decide_eq_true (by kernel_rfl)) h0 bel lt0) (trodAll_cons_mk (shut_int Try.underlying3 w1) trodAll_mk0)), rfl, bel.frame _, fun h => by cases h⟩
theorem over : Rows.reclaimKeepsRow.holds Try.pinned (OpenSpec.ofChange Rows.reclaimKeepsSpec) :=
 OpenClaim.holds_of_wide 3 Try.f3 rfl rfl rfl rfl rfl rfl rfl ⟨rfl, rfl, rfl, rfl, rfl⟩ rfl rfl rfl rfl rfl (by kernel_rfl) Try.func3 (by kernel_rfl)
  (of_decide_eq_true (by kernel_rfl)) (by unfold Func.isWrapper; first | (rw [if_pos (by decide +kernel)]; kernel_rfl) | (rw [if_neg (by decide +kernel)]; exact ⟨rfl, rfl⟩))
  (fun os started H enc _ => lifted os started H enc)
end Go.Proofs.Ytmmjdacjcipgjaa.reclaimKeeps
namespace Go.Proofs.Ytmmjdacjcipgjaa
theorem reclaimKeeps_holds : Rows.ReclaimKeepsSaid := reclaimKeeps.over
end Go.Proofs.Ytmmjdacjcipgjaa
