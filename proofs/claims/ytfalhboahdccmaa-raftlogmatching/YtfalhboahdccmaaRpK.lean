/-
  The program's Accept of logs. (Written by gen15k.py.) (Written by gen15q.py.)
-/
import Derived.Deep.CutRange
import Derived.Test.YtfalhboahdccmaaRpG
import Derived.Test.YtfalhboahdccmaaRpH
import Derived.Test.YtfalhboahdccmaaRlP
namespace Go.Proofs.Ytfalhboahdccmaa
open Go.RowKit
set_option linter.unusedVariables false
set_option linter.unusedSimpArgs false
set_option maxRecDepth 100000 in
set_option maxHeartbeats 8000000 in
theorem pacc15_any (w : World) (l : Lg) (v : Value) (prev pt : Int) (es : List Wrt) (esv : Value) (h : RdC w v l.es) (hfit : l.es.length * 32 ≤ 140737488351232) (hp : I64 prev) (ht : I64 pt) (he : RdC w esv es) (hel : es.length * 32 ≤ 140737488351232) : Calls Try.prog 29 #[lv l v, .int .i64 prev, .int .i64 pt, esv] w fun e w' =>
    ∃ v', e = .returned (.tuple #[lv (lacceptP l prev pt es).1 v', .int .i64 (lacceptP l prev pt es).2.1, .int .i64 (lacceptP l prev pt es).2.2]) ∧ Own SEntB w.heap.size w' [v'] (lacceptP l prev pt es).1.es ∧ Below w.heap.size w w' := by
  obtain ⟨W, hW, D, Z, bW, sW⟩ := boxesP w l.base l.bt v
  have HR : Hid (∀ U, Below W.heap.size W U → RdC U v l.es) := fun U b => (h.to0 bW).to0 b
  have KC := hide (pcheck15_any W l v (HR.out W (Below.refl _ _)) hfit)
  have KH : Hid (∀ U, Below W.heap.size W U → LOk l → ∀ i, Calls Try.prog 34 #[lv l v, .int .i64 i] U fun e w' => e = .returned (.bool (decide (l.base ≤ i ∧ i ≤ lend l))) ∧ Below U.heap.size U w') := fun U b ok i => phas15_any U l v i (HR.out U b) ok.lb
  have KT : Hid (∀ U, Below W.heap.size W U → LOk l → ∀ i, (l.base ≤ i ∧ i ≤ lend l) → Calls Try.prog 31 #[lv l v, .int .i64 i] U fun e w' => e = .returned (.int .i64 (lterm l i)) ∧ Below U.heap.size U w') := fun U b ok i hi => ptermof15_any U l v i (HR.out U b) ok.lb hi
  have KY : Hid (∀ U, Below W.heap.size W U → LOk l → Calls Try.prog 39 #[lv l v] U fun e w' => ∃ v', e = .returned (lv l v') ∧ Own SEntB U.heap.size w' [v'] l.es ∧ Below U.heap.size U w') := fun U b ok =>
    pcopy15_any U l v (HR.out U b) hfit (fun x hx => by have := ok.len x hx; omega)
  have KJ : Hid (LOk l → ∀ U, Below W.heap.size W U → ∀ k xs xv, k ≤ l.es.length → RdC U xv xs → Calls Try.prog 35 #[lv l v, .int .i64 k, xv] U fun e w' =>
      ∃ v', e = .returned (.tuple #[lv (ljoin (ltk l k) xs).1 v', .int .i64 (ljoin (ltk l k) xs).2]) ∧ Own SEntB U.heap.size w' [v'] (ljoin (ltk l k) xs).1.es ∧ Below U.heap.size U w') := fun ok U b k xs xv hk hx => pjoined15_any U l v k xs xv (HR.out U b) ok hk hx
  have KL : Hid (∀ U, Below W.heap.size W U → ∀ k A c xs xv a cp, v = .slice a l.es.length cp → k ≤ l.es.length → (if cp = k then a else Option.map (fun x => x.add (k * 2)) a) = A → c = cp - k → RdC U xv xs → Calls Try.prog 44 #[.slice A (l.es.length - k) c, xv] U fun e w' => e = .returned (.int .i64 (lalike (l.es.drop k) xs)) ∧ Below U.heap.size U w') := fun U b k A c xs xv a cp hv hk hA hc hx => by
    subst hv
    obtain ⟨A', hA', hr⟩ := rdS_cut15 (HR.out U b) hk (Nat.le_refl _)
    rw [List.take_of_length_le (Nat.le_refl _)] at hr
    obtain rfl : A' = A := hA'.symm.trans hA
    subst hc
    exact palike15_any U _ _ _ _ hr hx
  obtain ⟨a, cp, rfl⟩ := h.slice
  obtain ⟨⟨D0, D1, D2⟩, _⟩ := cells3l D
  have HS : Hid (∀ U, Below W.heap.size W U → (U.cell? ⟨w.heap.size, 0, none⟩ = some (.int .i64 l.base) ∧ U.cell? ⟨w.heap.size, 1, none⟩ = some (.int .i64 l.bt) ∧ U.cell? ⟨w.heap.size, 2, none⟩ = some (.slice a l.es.length cp))) := fun U b =>
    ⟨(b.cell (cell_lt D0)).trans D0, (b.cell (cell_lt D1)).trans D1, (b.cell (cell_lt D2)).trans D2⟩
  have HE : Hid (∀ U, Below W.heap.size W U → Below w.heap.size w U) := fun U b => bW.trans (b.mono bW.size)
  have HZ : Hid (∀ U, Below W.heap.size W U → U.heap[w.heap.size + 1]? = some (.cells #[.int .i64 0, .int .i64 0, .slice none 0 0] 28 (0, 0))) := fun U b => (b.block _ (lt_of_block Z)).trans Z
  have HF : Hid (∀ U x y z, Below W.heap.size W U → ((((U.setCell ⟨w.heap.size + 1, 0, none⟩ x).setCell ⟨w.heap.size + 1, 1, none⟩ y).setCell ⟨w.heap.size + 1, 2, none⟩ z).heap[w.heap.size + 1]? = some (.cells #[x, y, z] 28 (0, 0)) ∧
      Below w.heap.size w (((U.setCell ⟨w.heap.size + 1, 0, none⟩ x).setCell ⟨w.heap.size + 1, 1, none⟩ y).setCell ⟨w.heap.size + 1, 2, none⟩ z))) := fun U x y z b =>
    ⟨heap_set3l (HZ.out U b) x y z, below_set3l (bW.trans (b.mono bW.size)) (by omega) x y z⟩
  have SW : Hid (W.heap.size = w.heap.size + 1 + 1) := sW
  obtain ⟨RR, hRR⟩ : ∃ R, R = lacceptP l prev pt es := ⟨_, rfl⟩
  rw [← hRR]
  have RN : Hid (¬ LOk l → RR = (lnil, 0, 9)) := fun k => hRR.trans (if_neg k)
  have R0 : Hid (LOk l → (prev < 0 ∨ 1099511627776 < prev) → RR = (lnil, 0, 4)) := fun k q => hRR.trans ((if_pos k).trans (if_pos q))
  have R1 : Hid (LOk l → ¬ (prev < 0 ∨ 1099511627776 < prev) → prev + es.length < l.base → RR = (l, prev + es.length, 0)) := fun k q r => hRR.trans ((if_pos k).trans ((if_neg q).trans ((if_pos (by omega)).trans (if_pos (by omega)))))
  have R2 : Hid (LOk l → ¬ (prev < 0 ∨ 1099511627776 < prev) → ¬ prev + es.length < l.base → prev < l.base → RR = lacgP l l.base l.bt (es.drop (l.base - prev).toNat)) := fun k q r s => hRR.trans ((if_pos k).trans ((if_neg q).trans ((if_pos s).trans (if_neg (by omega)))))
  have R3 : Hid (LOk l → ¬ (prev < 0 ∨ 1099511627776 < prev) → ¬ prev < l.base → RR = lacgP l prev pt es) := fun k q s => hRR.trans ((if_pos k).trans ((if_neg q).trans (if_neg s)))
  clear hRR
  have BD : Hid (LOk l → (0 ≤ l.base ∧ l.base ≤ 1099511627776) ∧ (0 ≤ l.bt ∧ l.bt ≤ 1099511627776) ∧ l.es.length ≤ 4096 ∧ l.base + l.es.length ≤ 1099511627776) := fun ok => ok.bd
  have LE : Hid (lend l = l.base + l.es.length) := rfl
  replace KL : Hid (∀ U, Below W.heap.size W U → ∀ k A c xs xv, k ≤ l.es.length → (if cp = k then a else Option.map (fun x => x.add (k * 2)) a) = A → c = cp - k → RdC U xv xs → Calls Try.prog 44 #[.slice A (l.es.length - k) c, xv] U fun e w' => e = .returned (.int .i64 (lalike (l.es.drop k) xs)) ∧ Below U.heap.size U w') := fun U b k A c xs xv hk hA hc hx => KL.out U b k A c xs xv a cp rfl hk hA hc hx
  have HC : Hid (l.es.length ≤ cp) := by
    obtain ⟨_, _, q0, q1, _⟩ := h
    simp only [Value.slice.injEq] at q0
    show _ ≤ _
    omega
  have HX : Hid (∀ U, Below W.heap.size W U → RdC U esv es) := fun U b => (he.to0 bW).to0 b
  obtain ⟨ea, ec, rfl⟩ := he.slice
  have HXC : Hid (es.length ≤ ec ∧ ec ≤ 9223372036854775807) := by
    obtain ⟨_, _, q0, q1, q2, _⟩ := he
    simp only [Value.slice.injEq] at q0
    rw [show maxLen = 9223372036854775807 from rfl] at q2
    show _ ∧ _
    omega
  clear h he bW D sW D0 D1 D2 Z HR
  dsimp only [lv] at KC KH KT KY KJ KL ⊢
  obtain ⟨D0, D1, D2⟩ := HS.out W (Below.refl _ _)
  rw [hW] at D0 D1 D2 KC
  go_enter Try.func29, Try.ntmps29
  go_wp2_with fail
  refine KC.out.mono ?_
  rintro e w1 ⟨rfl, b1⟩
  rw [← hW] at b1
  have B1 := hide b1
  obtain ⟨E0, E1, E2⟩ := HS.out w1 b1
  clear b1 KC hW D0 D1 D2
  by_cases ok : LOk l
  case neg =>
    have hc := hide (lcheck_no ok)
    have hr := hide (RN.out ok)
    rw [hc.out]
    clear KH KT KY KJ KL
    obtain ⟨⟨Q0, Q1, Q2⟩, Rf⟩ := cells3l (HZ.out _ B1.out)
    have Rf0 := Rf 0
    have Rf1 := Rf 1
    have Rf2 := Rf 2
    clear Rf
    go_wp2
    refine retNTT rfl rfl (w.heap.size + 1) rfl _ _ (0, 0) (HF.out _ _ _ _ B1.out).1 _ Try.underlying28 rfl info_lgP (.int .i64 0) rfl (.int .i64 9) rfl ?_
    rw [hr.out]
    exact ⟨.slice none 0 0, rfl, Own.nil _ _ _ _, (HF.out _ _ _ _ B1.out).2⟩
  have hc := hide (lcheck_ok ok)
  rw [hc.out]
  obtain ⟨k1, k2, k3, k4⟩ := BD.out ok
  have hle : Hid (lend l = l.base + l.es.length) := LE.out
  replace R0 := hide (R0.out ok)
  replace R1 := hide (R1.out ok)
  replace R2 := hide (R2.out ok)
  replace R3 := hide (R3.out ok)
  replace KJ := hide (KJ.out ok)
  replace KT : Hid (∀ U, Below W.heap.size W U → ∀ i, (l.base ≤ i ∧ i ≤ lend l) → Calls Try.prog 31 #[.agg #[.int .i64 l.base, .int .i64 l.bt, .slice a l.es.length cp], .int .i64 i] U fun e w' => e = .returned (.int .i64 (lterm l i)) ∧ Below U.heap.size U w') := fun U b => KT.out U b ok
  replace KH : Hid (∀ U, Below W.heap.size W U → ∀ i, Calls Try.prog 34 #[.agg #[.int .i64 l.base, .int .i64 l.bt, .slice a l.es.length cp], .int .i64 i] U fun e w' => e = .returned (.bool (decide (l.base ≤ i ∧ i ≤ lend l))) ∧ Below U.heap.size U w') := fun U b => KH.out U b ok
  replace KY : Hid (∀ U, Below W.heap.size W U → Calls Try.prog 39 #[.agg #[.int .i64 l.base, .int .i64 l.bt, .slice a l.es.length cp]] U fun e w' => ∃ v', e = .returned (.agg #[.int .i64 l.base, .int .i64 l.bt, v']) ∧ Own SEntB U.heap.size w' [v'] l.es ∧ Below U.heap.size U w') := fun U b => KY.out U b ok
  have kb : Hid (I64 l.bt) := ⟨by omega, by omega⟩
  clear RN hc BD LE ok k2
  obtain ⟨TT, hTT⟩ : ∃ T, T = lterm l := ⟨_, rfl⟩
  obtain ⟨E, hE⟩ : ∃ E, E = lend l := ⟨_, rfl⟩
  rw [← hE] at KH KT hle
  rw [← hTT] at KT
  have HG : Hid (∀ p t (xs : List Wrt), lacgP l p t xs = if E < p then (lnil, 0, 152) else if TT p ≠ t then (lnil, 0, 151) else laccs l p xs) := fun p t xs => by rw [hE, hTT]; rfl
  have HA : Hid (∀ p (k : Nat) (xs : List Wrt), p - l.base = k → laccs l p xs = if lalike (l.es.drop k) xs = xs.length then (l, p + xs.length, 0) else
      if (ljoin (ltk l (k + lalike (l.es.drop k) xs)) (xs.drop (lalike (l.es.drop k) xs))).2 = 0 then ((ljoin (ltk l (k + lalike (l.es.drop k) xs)) (xs.drop (lalike (l.es.drop k) xs))).1, p + xs.length, 0)
      else (l, 0, (ljoin (ltk l (k + lalike (l.es.drop k) xs)) (xs.drop (lalike (l.es.drop k) xs))).2)) := fun p k xs hk => by
    unfold laccs
    rw [show (p - l.base).toNat = k by omega]
  clear hTT hE
  replace hp := hide hp
  replace ht := hide ht
  obtain ⟨base, bt, les⟩ := l
  dsimp only at kb HS R0 R1 R2 R3 KH KT KY KJ KL HG HA E0 E1 E2 k1 k3 k4 hle HC
  generalize hn : les.length = n at *
  replace hn := hide hn
  generalize hm : es.length = m at *
  replace hm := hide hm
  by_cases q1 : prev < 0
  · have hr := hide (R0.out (.inl q1))
    clear KH KT KY KJ KL
    obtain ⟨⟨Q0, Q1, Q2⟩, Rf⟩ := cells3l (HZ.out _ B1.out)
    have Rf0 := Rf 0
    have Rf1 := Rf 1
    have Rf2 := Rf 2
    clear Rf
    go_wp2
    refine retNTT rfl rfl (w.heap.size + 1) rfl _ _ (0, 0) (HF.out _ _ _ _ B1.out).1 _ Try.underlying28 rfl info_lgP (.int .i64 0) rfl (.int .i64 4) rfl ?_
    rw [hr.out]
    exact ⟨.slice none 0 0, rfl, Own.nil _ _ _ _, (HF.out _ _ _ _ B1.out).2⟩
  by_cases q2 : 1099511627776 < prev
  · have hr := hide (R0.out (.inr q2))
    clear KH KT KY KJ KL
    obtain ⟨⟨Q0, Q1, Q2⟩, Rf⟩ := cells3l (HZ.out _ B1.out)
    have Rf0 := Rf 0
    have Rf1 := Rf 1
    have Rf2 := Rf 2
    clear Rf
    go_wp2
    refine retNTT rfl rfl (w.heap.size + 1) rfl _ _ (0, 0) (HF.out _ _ _ _ B1.out).1 _ Try.underlying28 rfl info_lgP (.int .i64 0) rfl (.int .i64 4) rfl ?_
    rw [hr.out]
    exact ⟨.slice none 0 0, rfl, Own.nil _ _ _ _, (HF.out _ _ _ _ B1.out).2⟩
  have q1f : decide (prev < 0) = false := decide_eq_false q1
  have hNP : Hid (¬ (prev < 0 ∨ 1099511627776 < prev)) := by show ¬ _; omega
  by_cases q3 : prev + (m : Int) < base
  · have hr := hide (R1.out hNP.out q3)
    clear KH KT KJ KL
    go_wp2_with fail
    refine (KY.out w1 B1.out).mono ?_
    rintro e w2 ⟨v', rfl, o2, b2⟩
    have B2' := B1.out.trans (b2.mono B1.out.size)
    have hs := B1.out.size
    have O2 := hide ((own_set3l o2 (g := w.heap.size + 1) (by have := SW.out; omega) (.int .i64 base) (.int .i64 bt) v').mono (show w.heap.size ≤ w1.heap.size by have := SW.out; omega))
    obtain ⟨va, vc, rfl⟩ := o2.rdS.slice
    rw [hn.out] at O2
    have HF2 := hide (HF.out w2 (.int .i64 base) (.int .i64 bt) (.slice va n vc) B2')
    obtain ⟨⟨Q0, Q1, Q2⟩, Rf⟩ := cells3l (HZ.out _ B2')
    have Rf0 := Rf 0
    have Rf1 := Rf 1
    have Rf2 := Rf 2
    rw [hn.out] at *
    clear Rf o2 b2 B2' hs
    go_wp2
    refine retNTT rfl rfl (w.heap.size + 1) rfl _ _ (0, 0) HF2.out.1 _ Try.underlying28 rfl info_lgP (.int .i64 (prev + (m : Int))) rfl (.int .i64 0) rfl ?_
    rw [hr.out]
    exact ⟨_, rfl, O2.out, HF2.out.2⟩
  clear R0 R1
  go_upto_if 43 with fail
  go_cut [1, 2, 3] from 43 to 53 (fun p q e wx => ∃ (P T : Int) (A : Option Addr) (C : Nat) (xs : List Wrt), p = .int .i64 P ∧ q = .int .i64 T ∧ e = .slice A xs.length C ∧ Hid (Below W.heap.size W wx) ∧
    Hid (RR = lacgP ⟨base, bt, les⟩ P T xs ∧ base ≤ P ∧ P ≤ 1099511627776 ∧ I64 T ∧ P + xs.length = prev + m ∧ xs.length ≤ C ∧ C ≤ 9223372036854775807 ∧ ∀ U, Below W.heap.size W U → RdC U (.slice A xs.length C) xs))
  case first =>
    by_cases q4 : prev < base
    · have hr := hide (R2.out hNP.out q3 q4)
      obtain ⟨k, hk⟩ : ∃ k : Nat, base - prev = k := ⟨(base - prev).toNat, by omega⟩
      rw [show (base - prev).toNat = k by omega] at hr
      have hkm : k ≤ m := by omega
      have hk1 : (0 : Int) ≤ (k : Int) := by omega
      have hk2 : (k : Int) ≤ (m : Int) := by omega
      have hxc := HXC.out
      have hk3 : (m : Int) ≤ (ec : Int) := by omega
      have hwk : IntKind.i64.wrap (k : Int) = (k : Int) := IntWalk.i64_in _ (by omega)
      have hln : Hid ((es.drop k).length = m - k) := by show _ = _; rw [List.length_drop, hm.out]
      have hrd : Hid (∀ A c, (if ec = k then ea else Option.map (fun x => x.add (k * 2)) ea) = A → c = ec - k → ∀ U, Below W.heap.size W U → RdC U (.slice A (m - k) c) (es.drop k)) := fun A c hA hc U b => by
        obtain ⟨A', hA', hr'⟩ := rdS_cut15 (HX.out U b) hkm (Nat.le_refl _)
        obtain rfl : A' = A := hA'.symm.trans hA
        subst hc
        rw [List.take_of_length_le (by rw [hm.out]; omega)] at hr'
        exact hr'
      by_cases hck : ec = k
      · subst hck
        have hrd2 := hide (hrd.out ea 0 (if_pos rfl) (by omega))
        rw [show m - ec = 0 by omega] at hrd2 hln
        go_upto_region 10 with fail
        go_quiet (fail)
        go_wp2_with fail
        go_meet
        exact ⟨base, bt, ea, 0, es.drop ec, rfl, rfl, by rw [hln.out], hide (B1.out.trans (below_drewN' w1 nq _)), hide ⟨hr.out, Int.le_refl _, by omega, kb.out, by rw [hln.out]; omega, by rw [hln.out]; omega, by omega, fun U b => by rw [hln.out]; exact hrd2.out U b⟩⟩
      · have hrd2 := hide (hrd.out _ _ (if_neg hck) rfl)
        go_upto_region 10 with fail
        go_quiet (fail)
        go_wp2_with fail
        go_meet
        exact ⟨base, bt, Option.map (fun x => x.add (k * 2)) ea, ec - k, es.drop k, rfl, rfl, by rw [hln.out], hide (B1.out.trans (below_drewN' w1 nq _)), hide ⟨hr.out, Int.le_refl _, by omega, kb.out, by rw [hln.out]; omega, by rw [hln.out]; omega, by omega, fun U b => by rw [hln.out]; exact hrd2.out U b⟩⟩
    · have hr := hide (R3.out hNP.out (by omega))
      go_wp2_with fail
      go_meet
      exact ⟨prev, pt, ea, ec, es, rfl, rfl, by rw [hm.out], B1, hide ⟨hr.out, by omega, by omega, ht.out, by rw [hm.out], by rw [hm.out]; exact HXC.out.1, HXC.out.2, fun U b => by rw [hm.out]; exact HX.out U b⟩⟩
  case rest =>
  obtain ⟨P, T, A, C, xs, rfl, rfl, rfl, hW, hG⟩ := hcut
  clear R2 R3 hNP HX HXC E0 E1 E2
  obtain ⟨gR, g1, g2, g3, g4, g5, g6, g7⟩ := hG.out
  have HX : Hid (∀ U, Below W.heap.size W U → RdC U (.slice A xs.length C) xs) := g7
  have gRR := hide gR
  clear hG g7 gR
  generalize hM : xs.length = M at *
  replace hM := hide hM
  obtain ⟨E0, E1, E2⟩ := HS.out wc hW.out
  go_wp2_with fail
  refine (KH.out wc hW.out P).mono ?_
  rintro e w2 ⟨rfl, b2⟩
  have B2 := hide (hW.out.trans (b2.mono hW.out.size))
  clear b2 E0 E1 E2 KH
  obtain ⟨E0, E1, E2⟩ := HS.out w2 B2.out
  by_cases q5 : P ≤ E
  case neg =>
    have hr : Hid (RR = (lnil, 0, 152)) := by
      show _ = _
      rw [gRR.out, HG.out, if_pos (by omega)]
    have hd : Hid (decide (base ≤ P ∧ P ≤ E) = false) := decide_eq_false (by omega)
    rw [hd.out]
    clear KT KY KJ KL
    obtain ⟨⟨Q0, Q1, Q2⟩, Rf⟩ := cells3l (HZ.out _ B2.out)
    have Rf0 := Rf 0
    have Rf1 := Rf 1
    have Rf2 := Rf 2
    clear Rf
    go_wp2
    refine retNTT rfl rfl (w.heap.size + 1) rfl _ _ (0, 0) (HF.out _ _ _ _ B2.out).1 _ Try.underlying28 rfl info_lgP (.int .i64 0) rfl (.int .i64 152) rfl ?_
    rw [hr.out]
    exact ⟨.slice none 0 0, rfl, Own.nil _ _ _ _, (HF.out _ _ _ _ B2.out).2⟩
  have hd : Hid (decide (base ≤ P ∧ P ≤ E) = true) := decide_eq_true ⟨g1, q5⟩
  rw [hd.out]
  clear hd
  have KT2 := hide (KT.out w2 B2.out P ⟨g1, q5⟩)
  have HGP := hide ((HG.out P T xs).trans (if_neg (by omega)))
  clear KT HG
  generalize TT P = TP at *
  go_wp2_with fail
  refine KT2.out.mono ?_
  rintro e w3 ⟨rfl, b3⟩
  have B3 := hide (B2.out.trans (b3.mono B2.out.size))
  clear b3 E0 E1 E2 KT2
  obtain ⟨E0, E1, E2⟩ := HS.out w3 B3.out
  by_cases q6 : TP = T
  case neg =>
    have hr : Hid (RR = (lnil, 0, 151)) := by
      show _ = _
      rw [gRR.out, HGP.out, if_pos q6]
    have q6' : (TP != T) = true := by simpa using q6
    clear KY KJ KL
    replace q6 := hide q6
    obtain ⟨⟨Q0, Q1, Q2⟩, Rf⟩ := cells3l (HZ.out _ B3.out)
    have Rf0 := Rf 0
    have Rf1 := Rf 1
    have Rf2 := Rf 2
    clear Rf
    go_wp2
    refine retNTT rfl rfl (w.heap.size + 1) rfl _ _ (0, 0) (HF.out _ _ _ _ B3.out).1 _ Try.underlying28 rfl info_lgP (.int .i64 0) rfl (.int .i64 151) rfl ?_
    rw [hr.out]
    exact ⟨.slice none 0 0, rfl, Own.nil _ _ _ _, (HF.out _ _ _ _ B3.out).2⟩
  have q6' : (TP != T) = false := by simpa using q6
  have hr0 : Hid (RR = laccs ⟨base, bt, les⟩ P xs) := by
    show _ = _
    rw [gRR.out, HGP.out, if_neg (fun z => z q6)]
  clear HGP gRR
  replace q6 := hide q6
  obtain ⟨k, hk⟩ : ∃ k : Nat, P - base = k := ⟨(P - base).toNat, by omega⟩
  rw [HA.out P k xs hk] at hr0
  have hEn : Hid (E = base + n) := hle.out
  have hkn : k ≤ n := by have := hEn.out; omega
  have hc3 := HC.out
  have hk1 : (0 : Int) ≤ (k : Int) := by omega
  have hk2 : (k : Int) ≤ (n : Int) := by omega
  have hk3 : (n : Int) ≤ (cp : Int) := by omega
  have hwk : IntKind.i64.wrap (k : Int) = (k : Int) := IntWalk.i64_in _ (by omega)
  have KL2 : Hid (∀ A' c', (if cp = k then a else Option.map (fun x => x.add (k * 2)) a) = A' → c' = cp - k → Calls Try.prog 44 #[.slice A' (n - k) c', .slice A M C] w3 fun e w' => e = .returned (.int .i64 (lalike (les.drop k) xs)) ∧ Below w3.heap.size w3 w') := fun A' c' h1 h2 => KL.out w3 B3.out k A' c' xs _ hkn h1 h2 (HX.out w3 B3.out)
  have hal := lalike_le (les.drop k) xs
  rw [List.length_drop, hn.out, hM.out] at hal
  clear HA KL hle HC
  generalize lalike (les.drop k) xs = d at *
  go_upto_region 15 with fail
  go_cut [13] from 65 to 73 (fun t wx => t = .int .i64 (d : Int) ∧ Hid (Below W.heap.size W wx))
  case first =>
    by_cases hck : cp = k
    · subst hck
      have K3 := hide (KL2.out a 0 (if_pos rfl) (by omega))
      rw [show n - cp = 0 by omega] at K3
      clear KL2
      go_wp2_with fail
      refine K3.out.mono ?_
      rintro e w4 ⟨rfl, b4⟩
      have B4 := hide (B3.out.trans (b4.mono B3.out.size))
      clear b4
      go_wp2_with fail
      go_meet
      exact ⟨rfl, B4⟩
    · have K3 := hide (KL2.out _ _ (if_neg hck) rfl)
      clear KL2
      go_wp2_with fail
      refine K3.out.mono ?_
      rintro e w4 ⟨rfl, b4⟩
      have B4 := hide (B3.out.trans (b4.mono B3.out.size))
      clear b4
      go_wp2_with fail
      go_meet
      exact ⟨rfl, B4⟩
  case rest =>
  obtain ⟨rfl, hW4⟩ := hcut
  clear KL2 E0 E1 E2
  obtain ⟨E0, E1, E2⟩ := HS.out _ hW4.out
  by_cases q7 : d = M
  · have hr : Hid (RR = (⟨base, bt, les⟩, prev + (m : Int), 0)) := by
      show _ = _
      rw [hr0.out, if_pos (by rw [hM.out]; exact q7), hM.out, g4]
    have q7' : ((d : Int) == (M : Int)) = true := by simp [q7]
    clear hr0 KJ
    replace q7 := hide q7
    go_wp2_with fail
    refine (KY.out wc hW4.out).mono ?_
    rintro e w5 ⟨v', rfl, o2, b2⟩
    have B2' := hW4.out.trans (b2.mono hW4.out.size)
    have hs := hW4.out.size
    have O2 := hide ((own_set3l o2 (g := w.heap.size + 1) (by have := SW.out; omega) (.int .i64 base) (.int .i64 bt) v').mono (show w.heap.size ≤ wc.heap.size by have := SW.out; omega))
    obtain ⟨va, vc, rfl⟩ := o2.rdS.slice
    rw [hn.out] at O2
    have HF2 := hide (HF.out w5 (.int .i64 base) (.int .i64 bt) (.slice va n vc) B2')
    obtain ⟨⟨Q0, Q1, Q2⟩, Rf⟩ := cells3l (HZ.out _ B2')
    have Rf0 := Rf 0
    have Rf1 := Rf 1
    have Rf2 := Rf 2
    rw [hn.out] at *
    clear Rf o2 b2 B2' hs
    go_wp2
    refine retNTT rfl rfl (w.heap.size + 1) rfl _ _ (0, 0) HF2.out.1 _ Try.underlying28 rfl info_lgP (.int .i64 (prev + (m : Int))) rfl (.int .i64 0) rfl ?_
    rw [hr.out]
    exact ⟨_, rfl, O2.out, HF2.out.2⟩
  have hdM : d ≤ M := hal.2
  have hdn : k + d ≤ n := by omega
  obtain ⟨RJ, hRJ⟩ : ∃ R, R = ljoin (ltk ⟨base, bt, les⟩ (k + d)) (xs.drop d) := ⟨_, rfl⟩
  have hr1 : Hid (RR = if RJ.2 = 0 then (RJ.1, prev + (m : Int), 0) else (⟨base, bt, les⟩, 0, RJ.2)) := by
    show _ = _
    rw [hr0.out, if_neg (by rw [hM.out]; exact q7), hRJ, hM.out, g4]
  have q7' : ((d : Int) == (M : Int)) = false := by simp; omega
  have KJ2 : Hid (∀ U, Below W.heap.size W U → ∀ A', (if C = d then A else Option.map (fun x => x.add (d * 2)) A) = A' → Calls Try.prog 35 #[.agg #[.int .i64 base, .int .i64 bt, .slice a n cp], .int .i64 ((k : Int) + (d : Int)), .slice A' (M - d) (C - d)] U fun e w' =>
      ∃ v', e = .returned (.tuple #[.agg #[.int .i64 RJ.1.base, .int .i64 RJ.1.bt, v'], .int .i64 RJ.2]) ∧ Own SEntB U.heap.size w' [v'] RJ.1.es ∧ Below U.heap.size U w') := fun U b A' hA => by
    obtain ⟨A2, hA2, hr'⟩ := rdS_cut15 (HX.out U b) hdM (Nat.le_refl _)
    obtain rfl : A2 = A' := hA2.symm.trans hA
    rw [List.take_of_length_le (by rw [hM.out]; omega)] at hr'
    have := KJ.out U b (k + d) (xs.drop d) _ hdn hr'
    rw [← hRJ, Int.natCast_add] at this
    exact this
  replace q7 := hide q7
  clear hr0 KJ hRJ HX
  obtain ⟨rl, re⟩ := RJ
  dsimp only at hr1 KJ2
  have hd1 : (0 : Int) ≤ (d : Int) := by omega
  have hd2 : (d : Int) ≤ (M : Int) := by omega
  have hd3 : (M : Int) ≤ (C : Int) := by omega
  have hd4 : (k : Int) + (d : Int) ≤ (n : Int) := by omega
  have hwd : IntKind.i64.wrap (d : Int) = (d : Int) := IntWalk.i64_in _ (by omega)
  have hwkd : IntKind.i64.wrap ((k : Int) + (d : Int)) = (k : Int) + (d : Int) := IntWalk.i64_in _ (by omega)
  go_upto_region 18 with fail
  have b0 := hW4.out.drew
  clear E0 E1 E2
  go_cut [14, 15] from 81 to 94 (fun p e wx => ∃ (gU : Nat) (ua : Option Addr) (uc : Nat), p = .pointer (some ⟨gU, 0, none⟩) ∧ e = .int .i64 re ∧ Hid (Below W.heap.size W wx) ∧
    Hid (wx.heap[gU]? = some (.cells #[.int .i64 rl.base, .int .i64 rl.bt, .slice ua rl.es.length uc] 28 (0, 0)) ∧ Own SEntB W.heap.size wx [.slice ua rl.es.length uc] rl.es))
  case first =>
    refine wp_region_fan (fun w9 => w9.cell? ⟨w.heap.size, 0, none⟩ = some (.int .i64 base) ∧ w9.cell? ⟨w.heap.size, 1, none⟩ = some (.int .i64 bt) ∧ w9.cell? ⟨w.heap.size, 2, none⟩ = some (.slice a n cp)) 16 mixed (by simp) ?_
    generalize wc.drew = c0 at *
    refine fan_take (i := 0) (v := ?_) rfl (by kernel_rfl) (fun _ _ _ _ h => h) (by kernel_rfl) (HS.out _ b0) ?_ ?_
    rotate_left
    · rintro w9 ⟨q0, q1, q2⟩
      go_simp
      try with_reducible rfl
    try simp only [List.getElem_toArray, List.getElem_cons_succ, List.getElem_cons_zero, List.getElem?_toArray, List.getElem?_cons_succ, List.getElem?_cons_zero, Act.put, List.setIfInBounds_toArray, List.set_cons_zero, List.set_cons_succ]
    refine fan_take (i := 1) (v := ?_) rfl (by kernel_rfl) (fun _ _ _ _ h => h) (by kernel_rfl) (HS.out _ b0) ?_ ?_
    rotate_left
    · rintro w9 ⟨q0, q1, q2⟩
      go_simp
      try with_reducible rfl
    try simp only [List.getElem_toArray, List.getElem_cons_succ, List.getElem_cons_zero, List.getElem?_toArray, List.getElem?_cons_succ, List.getElem?_cons_zero, Act.put, List.setIfInBounds_toArray, List.set_cons_zero, List.set_cons_succ]
    refine fan_take (i := 2) (v := ?_) rfl (by kernel_rfl) (fun _ _ _ _ h => h) (by kernel_rfl) (HS.out _ b0) ?_ ?_
    rotate_left
    · rintro w9 ⟨q0, q1, q2⟩
      go_simp
      try with_reducible rfl
    try simp only [List.getElem_toArray, List.getElem_cons_succ, List.getElem_cons_zero, List.getElem?_toArray, List.getElem?_cons_succ, List.getElem?_cons_zero, Act.put, List.setIfInBounds_toArray, List.set_cons_zero, List.set_cons_succ]
    refine fan_take (i := 3) (v := ?_) rfl (by kernel_rfl) (fun _ _ _ _ h => h) (by kernel_rfl) (HS.out _ b0) ?_ ?_
    rotate_left
    · rintro w9 ⟨q0, q1, q2⟩
      go_simp
      try with_reducible rfl
    try simp only [List.getElem_toArray, List.getElem_cons_succ, List.getElem_cons_zero, List.getElem?_toArray, List.getElem?_cons_succ, List.getElem?_cons_zero, Act.put, List.setIfInBounds_toArray, List.set_cons_zero, List.set_cons_succ]
    refine fan_take (i := 4) (v := ?_) rfl (by kernel_rfl) (fun _ _ _ _ h => h) (by kernel_rfl) (HS.out _ b0) ?_ ?_
    rotate_left
    · rintro w9 ⟨q0, q1, q2⟩
      go_simp
      try with_reducible rfl
    try simp only [List.getElem_toArray, List.getElem_cons_succ, List.getElem_cons_zero, List.getElem?_toArray, List.getElem?_cons_succ, List.getElem?_cons_zero, Act.put, List.setIfInBounds_toArray, List.set_cons_zero, List.set_cons_succ]
    refine fan_take (i := 5) (v := ?_) rfl (by kernel_rfl) (fun _ _ _ _ h => h) (by kernel_rfl) (HS.out _ b0) ?_ ?_
    rotate_left
    · rintro w9 ⟨q0, q1, q2⟩
      go_simp
      try with_reducible rfl
    try simp only [List.getElem_toArray, List.getElem_cons_succ, List.getElem_cons_zero, List.getElem?_toArray, List.getElem?_cons_succ, List.getElem?_cons_zero, Act.put, List.setIfInBounds_toArray, List.set_cons_zero, List.set_cons_succ]
    refine fan_take (i := 6) (v := ?_) rfl (by kernel_rfl) (fun _ _ _ _ h => h) (by kernel_rfl) (HS.out _ b0) ?_ ?_
    rotate_left
    · rintro w9 ⟨q0, q1, q2⟩
      go_simp
      try with_reducible rfl
    try simp only [List.getElem_toArray, List.getElem_cons_succ, List.getElem_cons_zero, List.getElem?_toArray, List.getElem?_cons_succ, List.getElem?_cons_zero, Act.put, List.setIfInBounds_toArray, List.set_cons_zero, List.set_cons_succ]
    refine fan_take (i := 7) (v := ?_) rfl (by kernel_rfl) (fun _ _ _ _ h => h) (by kernel_rfl) (HS.out _ b0) ?_ ?_
    rotate_left
    · rintro w9 ⟨q0, q1, q2⟩
      go_simp
      try with_reducible rfl
    try simp only [List.getElem_toArray, List.getElem_cons_succ, List.getElem_cons_zero, List.getElem?_toArray, List.getElem?_cons_succ, List.getElem?_cons_zero, Act.put, List.setIfInBounds_toArray, List.set_cons_zero, List.set_cons_succ]
    refine fan_take (i := 8) (v := ?_) rfl (by kernel_rfl) (fun _ _ _ _ h => h) (by kernel_rfl) (HS.out _ b0) ?_ ?_
    rotate_left
    · rintro w9 ⟨q0, q1, q2⟩
      go_simp
      try with_reducible rfl
    try simp only [List.getElem_toArray, List.getElem_cons_succ, List.getElem_cons_zero, List.getElem?_toArray, List.getElem?_cons_succ, List.getElem?_cons_zero, Act.put, List.setIfInBounds_toArray, List.set_cons_zero, List.set_cons_succ]
    refine fan_take (i := 9) (v := ?_) rfl (by kernel_rfl) (fun _ _ _ _ h => h) (by kernel_rfl) (HS.out _ b0) ?_ ?_
    rotate_left
    · rintro w9 ⟨q0, q1, q2⟩
      go_simp
      try with_reducible rfl
    try simp only [List.getElem_toArray, List.getElem_cons_succ, List.getElem_cons_zero, List.getElem?_toArray, List.getElem?_cons_succ, List.getElem?_cons_zero, Act.put, List.setIfInBounds_toArray, List.set_cons_zero, List.set_cons_succ]
    refine fan_two 10 14 (by kernel_rfl) ?_ ?_
    · refine fan_step rfl (by kernel_rfl) fun K hK => ?_
      refine wp_call_of 35 _ _ (by rfl) #[.agg #[.int .i64 base, .int .i64 bt, .slice a n cp], .int .i64 ((k : Int) + (d : Int)), .slice (if C = d then A else Option.map (fun x => x.add (d * 2)) A) (M - d) (C - d)] (by simp [Act.eval]) (Try.call35 _ _) (KJ2.out c0 b0 _ rfl) ?_
      rintro e c1 ⟨v8, rfl, o8, bb⟩
      have b1 := b0.trans (bb.mono b0.size)
      obtain ⟨ua, uc, rfl⟩ := o8.rdS.slice
      have zB := b0.size
      have zC := bb.size
      refine ⟨_, rfl, hK _ _ (HS.out _ b1) ?_⟩
      clear hK K
      try simp only [List.getElem_toArray, List.getElem_cons_succ, List.getElem_cons_zero, List.getElem?_toArray, List.getElem?_cons_succ, List.getElem?_cons_zero, Act.put, List.setIfInBounds_toArray, List.set_cons_zero, List.set_cons_succ]
      refine fan_take (i := 11) (v := ?_) rfl (by kernel_rfl) (fun _ _ _ _ h => h) (by kernel_rfl) (HS.out _ b1) ?_ ?_
      rotate_left
      · rintro w9 ⟨q0, q1, q2⟩
        go_simp
        try with_reducible rfl
      try simp only [List.getElem_toArray, List.getElem_cons_succ, List.getElem_cons_zero, List.getElem?_toArray, List.getElem?_cons_succ, List.getElem?_cons_zero, Act.put, List.setIfInBounds_toArray, List.set_cons_zero, List.set_cons_succ]
      refine fan_take (i := 12) (v := ?_) rfl (by kernel_rfl) (fun _ _ _ _ h => h) (by kernel_rfl) (HS.out _ b1) ?_ ?_
      rotate_left
      · rintro w9 ⟨q0, q1, q2⟩
        go_simp
        try with_reducible rfl
      try simp only [List.getElem_toArray, List.getElem_cons_succ, List.getElem_cons_zero, List.getElem?_toArray, List.getElem?_cons_succ, List.getElem?_cons_zero, Act.put, List.setIfInBounds_toArray, List.set_cons_zero, List.set_cons_succ]
      refine fan_take (i := 13) (v := ?_) rfl (by kernel_rfl) (fun _ _ _ _ h => h) (by kernel_rfl) (HS.out _ b1) ?_ ?_
      rotate_left
      · rintro w9 ⟨q0, q1, q2⟩
        go_simp
        try with_reducible rfl
      try simp only [List.getElem_toArray, List.getElem_cons_succ, List.getElem_cons_zero, List.getElem?_toArray, List.getElem?_cons_succ, List.getElem?_cons_zero, Act.put, List.setIfInBounds_toArray, List.set_cons_zero, List.set_cons_succ]
      refine fan_one 14 (by kernel_rfl) ?_
      refine fan_step rfl (by kernel_rfl) fun K hK => ?_
      go_simp
      obtain ⟨c2, hc2, DT, bT, sT⟩ := boxedN c1 #[.int .i64 0, .int .i64 0, .slice none 0 0] 28
      rw [← hc2]
      have b2 := b1.trans (bT.mono b1.size)
      obtain ⟨gU, hgU⟩ : ∃ g, g = c1.heap.size := ⟨_, rfl⟩
      rw [← hgU] at DT ⊢
      have zU : W.heap.size ≤ gU := by have := b1.size; omega
      have zV : gU < c2.heap.size ∧ c1.heap.size ≤ gU := by omega
      replace hgU := hide hgU
      clear sT
      refine hK _ _ (HS.out _ b2) ?_
      clear hK K hc2
      try simp only [List.getElem_toArray, List.getElem_cons_succ, List.getElem_cons_zero, List.getElem?_toArray, List.getElem?_cons_succ, List.getElem?_cons_zero, Act.put, List.setIfInBounds_toArray, List.set_cons_zero, List.set_cons_succ]
      refine fan_one 15 (by kernel_rfl) ?_
      refine fan_step rfl (by kernel_rfl) fun K hK => ?_
      obtain ⟨⟨y0, y1, y2⟩, yf⟩ := cells3l DT
      have yf0 := yf 0
      have yf1 := yf 1
      have yf2 := yf 2
      go_simp
      obtain ⟨c3, hc3⟩ : ∃ c, c = ((c2.setCell ⟨gU, 0, none⟩ (.int .i64 rl.base)).setCell ⟨gU, 1, none⟩ (.int .i64 rl.bt)).setCell ⟨gU, 2, none⟩ (.slice ua rl.es.length uc) := ⟨_, rfl⟩
      have b3 : Below W.heap.size W c3 := by rw [hc3]; exact below_set3l b2 zU _ _ _
      have DU : c3.heap[gU]? = some (.cells #[.int .i64 rl.base, .int .i64 rl.bt, .slice ua rl.es.length uc] 28 (0, 0)) := by rw [hc3]; exact heap_set3l DT _ _ _
      have RU : Own SEntB W.heap.size c3 [.slice ua rl.es.length uc] rl.es := by
        obtain ⟨F, w1, w2, w3⟩ := o8
        refine ⟨F, SEntB.own_to w1 fun z hz => ?_, w2, fun z hz => by have := w3 z hz; omega⟩
        have h2 := SEntB.own_lt w1 z hz
        have h3 : z ≠ gU := by omega
        rw [hc3, Below.heap_setCell _ _ _ _ h3, Below.heap_setCell _ _ _ _ h3, Below.heap_setCell _ _ _ _ h3]
        exact bT.block z h2
      rw [← hc3]
      have DU2 := hide DU
      have RU2 := hide RU
      refine hK _ _ (HS.out _ b3) ?_
      clear hK K hc3 y0 y1 y2 yf yf0 yf1 yf2 DU RU o8 bb DT bT
      try simp only [List.getElem_toArray, List.getElem_cons_succ, List.getElem_cons_zero, List.getElem?_toArray, List.getElem?_cons_succ, List.getElem?_cons_zero, Act.put, List.setIfInBounds_toArray, List.set_cons_zero, List.set_cons_succ]
      refine fan_done (by kernel_rfl) ?_
      show wpList _ _ _ _ _ _
      generalize (if C = d then A else Option.map (fun x => x.add (d * 2)) A) = A9
      have HV2 := hide b3
      clear b0 b1 b2 b3 zB zC zU zV
      go_wp2_with fail
      go_meet
      exact ⟨gU, ua, uc, rfl, rfl, HV2, hide ⟨DU2.out, RU2.out⟩⟩
    · refine fan_step rfl (by kernel_rfl) fun K hK => ?_
      go_simp
      obtain ⟨c1, hc1, DT, bT, sT⟩ := boxedN c0 #[.int .i64 0, .int .i64 0, .slice none 0 0] 28
      rw [← hc1]
      have b1 := b0.trans (bT.mono b0.size)
      obtain ⟨gU, hgU⟩ : ∃ g, g = c0.heap.size := ⟨_, rfl⟩
      rw [← hgU] at DT ⊢
      have zU : W.heap.size ≤ gU := by have := b0.size; omega
      have zV : gU < c1.heap.size ∧ c0.heap.size ≤ gU := by omega
      replace hgU := hide hgU
      clear sT
      refine hK _ _ (HS.out _ b1) ?_
      clear hK K hc1
      try simp only [List.getElem_toArray, List.getElem_cons_succ, List.getElem_cons_zero, List.getElem?_toArray, List.getElem?_cons_succ, List.getElem?_cons_zero, Act.put, List.setIfInBounds_toArray, List.set_cons_zero, List.set_cons_succ]
      refine fan_one 10 (by kernel_rfl) ?_
      refine fan_step rfl (by kernel_rfl) fun K hK => ?_
      refine wp_call_of 35 _ _ (by rfl) #[.agg #[.int .i64 base, .int .i64 bt, .slice a n cp], .int .i64 ((k : Int) + (d : Int)), .slice (if C = d then A else Option.map (fun x => x.add (d * 2)) A) (M - d) (C - d)] (by simp [Act.eval]) (Try.call35 _ _) (KJ2.out c1 b1 _ rfl) ?_
      rintro e c2 ⟨v8, rfl, o8, bb⟩
      have b2 := b1.trans (bb.mono b1.size)
      obtain ⟨ua, uc, rfl⟩ := o8.rdS.slice
      have zB := b1.size
      have zC := bb.size
      refine ⟨_, rfl, hK _ _ (HS.out _ b2) ?_⟩
      clear hK K
      try simp only [List.getElem_toArray, List.getElem_cons_succ, List.getElem_cons_zero, List.getElem?_toArray, List.getElem?_cons_succ, List.getElem?_cons_zero, Act.put, List.setIfInBounds_toArray, List.set_cons_zero, List.set_cons_succ]
      refine fan_take (i := 11) (v := ?_) rfl (by kernel_rfl) (fun _ _ _ _ h => h) (by kernel_rfl) (HS.out _ b2) ?_ ?_
      rotate_left
      · rintro w9 ⟨q0, q1, q2⟩
        go_simp
        try with_reducible rfl
      try simp only [List.getElem_toArray, List.getElem_cons_succ, List.getElem_cons_zero, List.getElem?_toArray, List.getElem?_cons_succ, List.getElem?_cons_zero, Act.put, List.setIfInBounds_toArray, List.set_cons_zero, List.set_cons_succ]
      refine fan_take (i := 12) (v := ?_) rfl (by kernel_rfl) (fun _ _ _ _ h => h) (by kernel_rfl) (HS.out _ b2) ?_ ?_
      rotate_left
      · rintro w9 ⟨q0, q1, q2⟩
        go_simp
        try with_reducible rfl
      try simp only [List.getElem_toArray, List.getElem_cons_succ, List.getElem_cons_zero, List.getElem?_toArray, List.getElem?_cons_succ, List.getElem?_cons_zero, Act.put, List.setIfInBounds_toArray, List.set_cons_zero, List.set_cons_succ]
      refine fan_take (i := 13) (v := ?_) rfl (by kernel_rfl) (fun _ _ _ _ h => h) (by kernel_rfl) (HS.out _ b2) ?_ ?_
      rotate_left
      · rintro w9 ⟨q0, q1, q2⟩
        go_simp
        try with_reducible rfl
      try simp only [List.getElem_toArray, List.getElem_cons_succ, List.getElem_cons_zero, List.getElem?_toArray, List.getElem?_cons_succ, List.getElem?_cons_zero, Act.put, List.setIfInBounds_toArray, List.set_cons_zero, List.set_cons_succ]
      refine fan_one 15 (by kernel_rfl) ?_
      refine fan_step rfl (by kernel_rfl) fun K hK => ?_
      replace DT := (bb.block gU (by omega)).trans DT
      obtain ⟨⟨y0, y1, y2⟩, yf⟩ := cells3l DT
      have yf0 := yf 0
      have yf1 := yf 1
      have yf2 := yf 2
      go_simp
      obtain ⟨c3, hc3⟩ : ∃ c, c = ((c2.setCell ⟨gU, 0, none⟩ (.int .i64 rl.base)).setCell ⟨gU, 1, none⟩ (.int .i64 rl.bt)).setCell ⟨gU, 2, none⟩ (.slice ua rl.es.length uc) := ⟨_, rfl⟩
      have b3 : Below W.heap.size W c3 := by rw [hc3]; exact below_set3l b2 zU _ _ _
      have DU : c3.heap[gU]? = some (.cells #[.int .i64 rl.base, .int .i64 rl.bt, .slice ua rl.es.length uc] 28 (0, 0)) := by rw [hc3]; exact heap_set3l DT _ _ _
      have RU : Own SEntB W.heap.size c3 [.slice ua rl.es.length uc] rl.es := by
        rw [hc3]
        exact (own_set3l o8 (g := gU) (by omega) _ _ _).mono (by omega)
      rw [← hc3]
      have DU2 := hide DU
      have RU2 := hide RU
      refine hK _ _ (HS.out _ b3) ?_
      clear hK K hc3 y0 y1 y2 yf yf0 yf1 yf2 DU RU o8 bb DT bT
      try simp only [List.getElem_toArray, List.getElem_cons_succ, List.getElem_cons_zero, List.getElem?_toArray, List.getElem?_cons_succ, List.getElem?_cons_zero, Act.put, List.setIfInBounds_toArray, List.set_cons_zero, List.set_cons_succ]
      refine fan_done (by kernel_rfl) ?_
      show wpList _ _ _ _ _ _
      generalize (if C = d then A else Option.map (fun x => x.add (d * 2)) A) = A9
      have HV2 := hide b3
      clear b0 b1 b2 b3 zB zC zU zV
      go_wp2_with fail
      go_meet
      exact ⟨gU, ua, uc, rfl, rfl, HV2, hide ⟨DU2.out, RU2.out⟩⟩
  case rest =>
  obtain ⟨gU, ua, uc, rfl, rfl, hW5, hU⟩ := hcut
  clear KJ2 b0
  obtain ⟨E0, E1, E2⟩ := HS.out _ hW5.out
  by_cases q8 : re = 0
  case neg =>
    have hr := hide (hr1.out.trans (if_neg q8))
    have q8' : (re != 0) = true := by simpa using q8
    clear hr1 hU
    replace q8 := hide q8
    go_wp2_with fail
    refine (KY.out wc hW5.out).mono ?_
    rintro e w7 ⟨v', rfl, o2, b2⟩
    have B2' := hW5.out.trans (b2.mono hW5.out.size)
    have hs := hW5.out.size
    have O2 := hide ((own_set3l o2 (g := w.heap.size + 1) (by have := SW.out; omega) (.int .i64 base) (.int .i64 bt) v').mono (show w.heap.size ≤ wc.heap.size by have := SW.out; omega))
    obtain ⟨va, vc, rfl⟩ := o2.rdS.slice
    rw [hn.out] at O2
    have HF2 := hide (HF.out w7 (.int .i64 base) (.int .i64 bt) (.slice va n vc) B2')
    obtain ⟨⟨Q0, Q1, Q2⟩, Rf⟩ := cells3l (HZ.out _ B2')
    have Rf0 := Rf 0
    have Rf1 := Rf 1
    have Rf2 := Rf 2
    rw [hn.out] at *
    clear Rf o2 b2 B2' hs
    go_wp2
    refine retNTT rfl rfl (w.heap.size + 1) rfl _ _ (0, 0) HF2.out.1 _ Try.underlying28 rfl info_lgP (.int .i64 0) rfl (.int .i64 re) rfl ?_
    rw [hr.out]
    exact ⟨_, rfl, O2.out, HF2.out.2⟩
  have hr := hide (hr1.out.trans (if_pos q8))
  subst q8
  clear KY hr1
  obtain ⟨⟨u0, u1, u2⟩, _⟩ := cells3l hU.out.1
  have hs := hW5.out.size
  have O2 := hide ((own_set3l hU.out.2 (g := w.heap.size + 1) (by have := SW.out; omega) (.int .i64 rl.base) (.int .i64 rl.bt) (.slice ua rl.es.length uc)).mono (show w.heap.size ≤ W.heap.size by have := SW.out; omega))
  have HF2 := hide (HF.out _ (.int .i64 rl.base) (.int .i64 rl.bt) (.slice ua rl.es.length uc) hW5.out)
  obtain ⟨⟨Q0, Q1, Q2⟩, Rf⟩ := cells3l (HZ.out _ hW5.out)
  have Rf0 := Rf 0
  have Rf1 := Rf 1
  have Rf2 := Rf 2
  clear Rf hU E0 E1 E2
  generalize rl.es.length = rn at *
  go_wp2
  refine retNTT rfl rfl (w.heap.size + 1) rfl _ _ (0, 0) HF2.out.1 _ Try.underlying28 rfl info_lgP (.int .i64 (prev + (m : Int))) rfl (.int .i64 0) rfl ?_
  rw [hr.out]
  exact ⟨_, rfl, O2.out, HF2.out.2⟩
end Go.Proofs.Ytfalhboahdccmaa
