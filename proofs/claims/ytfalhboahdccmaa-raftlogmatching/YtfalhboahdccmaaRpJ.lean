/-
  The program's From of logs. (gen15s2.py) (Written by gen15q.py.)
-/
import Derived.Test.YtfalhboahdccmaaRpH
import Derived.Test.YtfalhboahdccmaaRlF
namespace Go.Proofs.Ytfalhboahdccmaa
open Go.RowKit
set_option linter.unusedVariables false
set_option linter.unusedSimpArgs false
set_option maxRecDepth 100000 in
set_option maxHeartbeats 8000000 in
theorem pfrom15_any (w : World) (l : Lg) (v : Value) (i m : Int) (h : RdC w v l.es) (hfit : l.es.length * 32 ≤ 140737488351232) : Calls Try.prog 15 #[lv l v, .int .i64 i, .int .i64 m] w fun e w' =>
    ∃ v', e = .returned (.tuple #[v', .int .i64 (lfrom l i m).2]) ∧ Own SEntB w.heap.size w' [v'] (lfrom l i m).1 ∧ Below w.heap.size w w' := by
  obtain ⟨W, hW, D, bW, sW⟩ := boxedN w #[.int .i64 l.base, .int .i64 l.bt, v] 28
  have HR : Hid (∀ U, Below W.heap.size W U → RdC U v l.es) := fun U b => (h.to0 bW).to0 b
  have KC := hide (pcheck15_any W l v (HR.out W (Below.refl _ _)) hfit)
  have KE : Hid (∀ U, Below W.heap.size W U → LOk l → Calls Try.prog 30 #[lv l v] U fun e w' => e = .returned (.int .i64 (lend l)) ∧ Below U.heap.size U w') := fun U b ok => plast15_any U l v (HR.out U b) ok.lb
  have HO : Hid (LOk l → ∀ U k q A c a cp, v = .slice a l.es.length cp → Below W.heap.size W U → k + q ≤ l.es.length → (if cp = k then a else Option.map (fun x => x.add (k * 2)) a) = A → c = cp - k → Calls Try.prog 38 #[.slice A q c] U fun e w' => ∃ v', e = .returned v' ∧ Own SEntB U.heap.size w' [v'] ((l.es.drop k).take q) ∧ Below U.heap.size U w') := fun ok U k q A c a cp hv b hk hA hc => by
    subst hv
    obtain ⟨A', hA', hr⟩ := rdS_cut15 (HR.out U b) (show k ≤ k + q by omega) hk
    obtain rfl : A' = A := hA'.symm.trans hA
    subst hc
    have e1 : k + q - k = q := by omega
    rw [e1] at hr
    have e2 : (l.es.take (k + q)).drop k = (l.es.drop k).take q := by rw [List.drop_take, e1]
    rw [e2] at hr
    refine pcopies15_any U _ _ hr ?_ fun x hx => ?_
    · have : ((l.es.drop k).take q).length ≤ l.es.length := by simp; omega
      omega
    · have := ok.len x (List.mem_of_mem_drop (List.mem_of_mem_take hx))
      omega
  obtain ⟨a, cp, rfl⟩ := h.slice
  obtain ⟨⟨D0, D1, D2⟩, _⟩ := cells3l D
  have HS : Hid (∀ U, Below W.heap.size W U → (U.cell? ⟨w.heap.size, 0, none⟩ = some (.int .i64 l.base) ∧ U.cell? ⟨w.heap.size, 1, none⟩ = some (.int .i64 l.bt) ∧ U.cell? ⟨w.heap.size, 2, none⟩ = some (.slice a l.es.length cp))) := fun U b =>
    ⟨(b.cell (cell_lt D0)).trans D0, (b.cell (cell_lt D1)).trans D1, (b.cell (cell_lt D2)).trans D2⟩
  have HE : Hid (∀ U, Below W.heap.size W U → Below w.heap.size w U) := fun U b => bW.trans (b.mono bW.size)
  obtain ⟨RR, hRR⟩ : ∃ R, R = lfrom l i m := ⟨_, rfl⟩
  rw [← hRR]
  have RN : Hid (¬ LOk l → RR = ([], 9)) := fun k => hRR.trans (if_neg k)
  have RO : Hid (LOk l → (i ≤ l.base ∨ lend l + 1 < i) → RR = ([], 71)) := fun k q => hRR.trans ((if_pos k).trans (if_pos q))
  have RM : Hid (LOk l → ¬ (i ≤ l.base ∨ lend l + 1 < i) → m < 0 → RR = ([], 4)) := fun k q r => hRR.trans ((if_pos k).trans ((if_neg q).trans (if_pos r)))
  have RY : Hid (LOk l → ¬ (i ≤ l.base ∨ lend l + 1 < i) → ¬ m < 0 → RR = ((l.es.drop (i - l.base - 1).toNat).take m.toNat, 0)) := fun k q r => hRR.trans ((if_pos k).trans ((if_neg q).trans (if_neg r)))
  clear hRR
  have BD : Hid (LOk l → (0 ≤ l.base ∧ l.base ≤ 1099511627776) ∧ (0 ≤ l.bt ∧ l.bt ≤ 1099511627776) ∧ l.es.length ≤ 4096 ∧ l.base + l.es.length ≤ 1099511627776) := fun ok => ok.bd
  have LE : Hid (lend l = l.base + l.es.length) := rfl
  replace HO : Hid (LOk l → ∀ U k q A c, Below W.heap.size W U → k + q ≤ l.es.length → (if cp = k then a else Option.map (fun x => x.add (k * 2)) a) = A → c = cp - k → Calls Try.prog 38 #[.slice A q c] U fun e w' => ∃ v', e = .returned v' ∧ Own SEntB U.heap.size w' [v'] ((l.es.drop k).take q) ∧ Below U.heap.size U w') := fun ok U k q A c b hk hA hc => HO.out ok U k q A c a cp rfl b hk hA hc
  have HC : Hid (l.es.length ≤ cp) := by
    obtain ⟨_, _, q0, q1, _⟩ := h
    simp only [Value.slice.injEq] at q0
    show _ ≤ _
    omega
  have HW : Hid (w.heap.size ≤ W.heap.size) := bW.size
  clear h bW D sW D0 D1 D2 HR
  dsimp only [lv] at KC KE ⊢
  obtain ⟨D0, D1, D2⟩ := HS.out W (Below.refl _ _)
  rw [hW] at D0 D1 D2 KC
  go_enter Try.func15, Try.ntmps15
  go_wp2_with fail
  refine KC.out.mono ?_
  rintro e w1 ⟨rfl, b1⟩
  rw [← hW] at b1
  have B1 := hide b1
  obtain ⟨E0, E1, E2⟩ := HS.out w1 b1
  clear b1 KC hW D0 D1 D2
  by_cases ok : LOk l
  case neg =>
    have hc := hide (lcheck_no ok)
    have hr := hide (RN.out ok)
    rw [hc.out]
    clear KE HO
    go_wp2
    go_ret2
    rw [hr.out]
    exact ⟨_, rfl, Own.nil _ _ _ _, HE.out _ B1.out⟩
  have hc := hide (lcheck_ok ok)
  rw [hc.out]
  obtain ⟨k1, k2, k3, k4⟩ := BD.out ok
  have hle : Hid (lend l = l.base + l.es.length) := LE.out
  replace RO := hide (RO.out ok)
  replace RM := hide (RM.out ok)
  replace RY := hide (RY.out ok)
  replace HO := hide (HO.out ok)
  replace KE : Hid (∀ U, Below W.heap.size W U → Calls Try.prog 30 #[.agg #[.int .i64 l.base, .int .i64 l.bt, .slice a l.es.length cp]] U fun e w' => e = .returned (.int .i64 (lend l)) ∧ Below U.heap.size U w') := fun U b => KE.out U b ok
  clear RN hc BD LE ok k2
  generalize lend l = E at *
  obtain ⟨base, bt, es⟩ := l
  dsimp only at KE HS E0 E1 E2 RO RM RY HO k1 k3 k4 hle HC
  generalize hn : es.length = n at *
  replace hn := hide hn
  by_cases g1 : i ≤ base
  · have hr := hide (RO.out (.inl g1))
    go_wp2
    go_ret2
    rw [hr.out]
    exact ⟨_, rfl, Own.nil _ _ _ _, HE.out _ B1.out⟩
  have g1f : decide (i ≤ base) = false := decide_eq_false g1
  have hEb : 0 ≤ E ∧ E ≤ 1099511627776 := by rw [hle.out]; omega
  go_wp2_with fail
  refine (KE.out _ B1.out).mono ?_
  rintro e w2 ⟨rfl, b2⟩
  have B2 := hide (B1.out.trans (b2.mono B1.out.size))
  clear b2 E0 E1 E2
  obtain ⟨E0, E1, E2⟩ := HS.out w2 B2.out
  by_cases g2 : E + 1 < i
  · have hr := hide (RO.out (.inr g2))
    go_wp2
    go_ret2
    rw [hr.out]
    exact ⟨_, rfl, Own.nil _ _ _ _, HE.out _ B2.out⟩
  by_cases g3 : m < 0
  · have hr := hide (RM.out (by omega) g3)
    go_wp2
    go_ret2
    rw [hr.out]
    exact ⟨_, rfl, Own.nil _ _ _ _, HE.out _ B2.out⟩
  have hr := hide (RY.out (by omega) (by omega))
  have hE := hle.out
  obtain ⟨k, rfl⟩ : ∃ k : Nat, i = base + 1 + k := ⟨(i - base - 1).toNat, by omega⟩
  have ek : base + 1 + (k : Int) - base - 1 = k := by omega
  have ek2 : base + 1 + (k : Int) - 1 - base = k := by omega
  have hkn : k ≤ n := by omega
  have hcap : n ≤ cp := HC.out
  clear hle RO RM RY
  by_cases hm : m ≤ (n : Int) - k
  · obtain ⟨q, rfl⟩ : ∃ q : Nat, m = q := ⟨m.toNat, by omega⟩
    have hqn : k + q ≤ n := by omega
    rw [ek, Int.toNat_natCast, Int.toNat_natCast] at hr
    by_cases hck : cp = k
    · subst hck
      have hq0 : q = 0 := by omega
      subst hq0
      have KO2 := hide (HO.out w2 cp 0 a 0 B2.out hqn (if_pos rfl) (by omega))
      clear HO hE KE
      go_wp2_with fail
      refine KO2.out.mono ?_
      rintro e w3 ⟨v8, rfl, o8, b8⟩
      have OO := hide (o8.mono (Nat.le_trans HW.out B2.out.size))
      have BB := hide (HE.out _ (B2.out.trans (b8.mono B2.out.size)))
      clear o8 b8
      go_wp2
      go_ret2
      rw [hr.out]
      exact ⟨_, rfl, OO.out, BB.out⟩
    · have KO2 := hide (HO.out w2 k q _ _ B2.out hqn (if_neg hck) rfl)
      clear HO hE KE
      go_wp2_with fail
      refine KO2.out.mono ?_
      rintro e w3 ⟨v8, rfl, o8, b8⟩
      have OO := hide (o8.mono (Nat.le_trans HW.out B2.out.size))
      have BB := hide (HE.out _ (B2.out.trans (b8.mono B2.out.size)))
      clear o8 b8
      go_wp2
      go_ret2
      rw [hr.out]
      exact ⟨_, rfl, OO.out, BB.out⟩
  · have hqn : k + (n - k) ≤ n := by omega
    rw [ek, Int.toNat_natCast, show (es.drop k).take m.toNat = (es.drop k).take (n - k) by rw [List.take_of_length_le (by rw [List.length_drop, hn.out]; omega), List.take_of_length_le (by rw [List.length_drop, hn.out]; omega)]] at hr
    by_cases hck : cp = k
    · subst hck
      rw [show n - cp = 0 by omega] at hr
      have KO2 := hide (HO.out w2 cp 0 a 0 B2.out (by omega) (if_pos rfl) (by omega))
      clear HO hE KE
      go_wp2_with fail
      refine KO2.out.mono ?_
      rintro e w3 ⟨v8, rfl, o8, b8⟩
      have OO := hide (o8.mono (Nat.le_trans HW.out B2.out.size))
      have BB := hide (HE.out _ (B2.out.trans (b8.mono B2.out.size)))
      clear o8 b8
      go_wp2
      go_ret2
      rw [hr.out]
      exact ⟨_, rfl, OO.out, BB.out⟩
    · have KO2 := hide (HO.out w2 k (n - k) _ _ B2.out hqn (if_neg hck) rfl)
      clear HO hE KE
      go_wp2_with fail
      refine KO2.out.mono ?_
      rintro e w3 ⟨v8, rfl, o8, b8⟩
      have OO := hide (o8.mono (Nat.le_trans HW.out B2.out.size))
      have BB := hide (HE.out _ (B2.out.trans (b8.mono B2.out.size)))
      clear o8 b8
      go_wp2
      go_ret2
      rw [hr.out]
      exact ⟨_, rfl, OO.out, BB.out⟩
end Go.Proofs.Ytfalhboahdccmaa
