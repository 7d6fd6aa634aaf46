/-
  The program's Last and Term of logs. (Written by gen15q.py.)
-/
import Derived.Test.YtfalhboahdccmaaRpE
import Derived.Test.YtfalhboahdccmaaRlD
namespace Go.Proofs.Ytfalhboahdccmaa
open Go.RowKit
set_option linter.unusedVariables false
set_option linter.unusedSimpArgs false
set_option maxRecDepth 100000 in
set_option maxHeartbeats 8000000 in
theorem plastP15_any (w : World) (l : Lg) (v : Value) (h : RdC w v l.es) (hfit : l.es.length * 32 ≤ 140737488351232) : Calls Try.prog 9 #[lv l v] w fun e w' =>
    e = .returned (.tuple #[.int .i64 (llast l).1, .int .i64 (llast l).2.1, .int .i64 (llast l).2.2]) ∧ Below w.heap.size w w' := by
  obtain ⟨W, hW, D, bW, sW⟩ := boxedN w #[.int .i64 l.base, .int .i64 l.bt, v] 28
  have HR : Hid (∀ U, Below W.heap.size W U → RdC U v l.es) := fun U b => (h.to0 bW).to0 b
  have KC := hide (pcheck15_any W l v (HR.out W (Below.refl _ _)) hfit)
  have KE : Hid (∀ U, Below W.heap.size W U → LOk l → Calls Try.prog 30 #[lv l v] U fun e w' => e = .returned (.int .i64 (lend l)) ∧ Below U.heap.size U w') := fun U b ok => plast15_any U l v (HR.out U b) ok.lb
  have KT : Hid (∀ U, Below W.heap.size W U → LOk l → ∀ i, (l.base ≤ i ∧ i ≤ lend l) → Calls Try.prog 31 #[lv l v, .int .i64 i] U fun e w' => e = .returned (.int .i64 (lterm l i)) ∧ Below U.heap.size U w') := fun U b ok i hi => ptermof15_any U l v i (HR.out U b) ok.lb hi
  obtain ⟨a, cp, rfl⟩ := h.slice
  obtain ⟨⟨D0, D1, D2⟩, _⟩ := cells3l D
  have HS : Hid (∀ U, Below W.heap.size W U → (U.cell? ⟨w.heap.size, 0, none⟩ = some (.int .i64 l.base) ∧ U.cell? ⟨w.heap.size, 1, none⟩ = some (.int .i64 l.bt) ∧ U.cell? ⟨w.heap.size, 2, none⟩ = some (.slice a l.es.length cp))) := fun U b =>
    ⟨(b.cell (cell_lt D0)).trans D0, (b.cell (cell_lt D1)).trans D1, (b.cell (cell_lt D2)).trans D2⟩
  have HE : Hid (∀ U, Below W.heap.size W U → Below w.heap.size w U) := fun U b => bW.trans (b.mono bW.size)
  obtain ⟨RR, hRR⟩ : ∃ R, R = llast l := ⟨_, rfl⟩
  rw [← hRR]
  have RN : Hid (¬ LOk l → RR = (0, 0, 9)) := fun k => hRR.trans (if_neg k)
  have RY : Hid (LOk l → RR = (lend l, lterm l (lend l), 0)) := fun k => hRR.trans (if_pos k)
  clear hRR
  have BD : Hid (LOk l → (0 ≤ l.base ∧ l.base ≤ 1099511627776) ∧ (0 ≤ l.bt ∧ l.bt ≤ 1099511627776) ∧ l.es.length ≤ 4096 ∧ l.base + l.es.length ≤ 1099511627776) := fun ok => ok.bd
  have LE : Hid (lend l = l.base + l.es.length) := rfl
  clear h bW D sW D0 D1 D2
  dsimp only [lv] at KC KE KT ⊢
  obtain ⟨D0, D1, D2⟩ := HS.out W (Below.refl _ _)
  rw [hW] at D0 D1 D2 KC
  go_enter Try.func9, Try.ntmps9
  go_wp2_with fail
  refine KC.out.mono ?_
  rintro e w1 ⟨rfl, b1⟩
  rw [← hW] at b1
  have B1 := hide b1
  obtain ⟨E0, E1, E2⟩ := HS.out w1 b1
  clear b1 KC hW D0 D1 D2
  by_cases ok : LOk l
  case neg =>
    have hc := hide (lcheck_no ok)
    have hr := hide (RN.out ok)
    rw [hc.out]
    clear KE KT
    go_wp2
    go_ret3
    exact ⟨by rw [hr.out]; rfl, HE.out _ B1.out⟩
  case pos =>
    have hc := hide (lcheck_ok ok)
    have hr := hide (RY.out ok)
    rw [hc.out]
    have hle : Hid (l.base ≤ lend l ∧ lend l ≤ lend l) := by show _ ∧ _; rw [LE.out]; omega
    replace KE : Hid (∀ U, Below W.heap.size W U → Calls Try.prog 30 #[.agg #[.int .i64 l.base, .int .i64 l.bt, .slice a l.es.length cp]] U fun e w' => e = .returned (.int .i64 (lend l)) ∧ Below U.heap.size U w') := fun U b => KE.out U b ok
    replace KT : Hid (∀ U, Below W.heap.size W U → ∀ i, (l.base ≤ i ∧ i ≤ lend l) → Calls Try.prog 31 #[.agg #[.int .i64 l.base, .int .i64 l.bt, .slice a l.es.length cp], .int .i64 i] U fun e w' => e = .returned (.int .i64 (lterm l i)) ∧ Below U.heap.size U w') := fun U b => KT.out U b ok
    clear RN RY hc BD LE ok HR
    generalize lterm l = T at *
    generalize lend l = E at *
    obtain ⟨base, bt, es⟩ := l
    dsimp only at KE KT HS hle E0 E1 E2
    generalize es.length = n at *
    go_wp2_with fail
    refine (KE.out w1 B1.out).mono ?_
    rintro e w2 ⟨rfl, b2⟩
    have B2 := hide (B1.out.trans (b2.mono B1.out.size))
    clear b2 E0 E1 E2
    obtain ⟨E0, E1, E2⟩ := HS.out w2 B2.out
    go_wp2_with fail
    refine (KT.out w2 B2.out E hle.out).mono ?_
    rintro e w3 ⟨rfl, b3⟩
    have B3 := hide (B2.out.trans (b3.mono B2.out.size))
    clear b3 E0 E1 E2
    obtain ⟨E0, E1, E2⟩ := HS.out w3 B3.out
    go_wp2
    go_ret3
    exact ⟨by rw [hr.out]; rfl, HE.out _ B3.out⟩
set_option maxRecDepth 100000 in
set_option maxHeartbeats 8000000 in
theorem ptold15_any (w : World) (l : Lg) (v : Value) (i : Int) (h : RdC w v l.es) (hfit : l.es.length * 32 ≤ 140737488351232) : Calls Try.prog 11 #[lv l v, .int .i64 i] w fun e w' =>
    e = .returned (.tuple #[.int .i64 (ltold l i).1, .int .i64 (ltold l i).2]) ∧ Below w.heap.size w w' := by
  obtain ⟨W, hW, D, bW, sW⟩ := boxedN w #[.int .i64 l.base, .int .i64 l.bt, v] 28
  have HR : Hid (∀ U, Below W.heap.size W U → RdC U v l.es) := fun U b => (h.to0 bW).to0 b
  have KC := hide (pcheck15_any W l v (HR.out W (Below.refl _ _)) hfit)
  have KH : Hid (∀ U, Below W.heap.size W U → LOk l → ∀ i, Calls Try.prog 34 #[lv l v, .int .i64 i] U fun e w' => e = .returned (.bool (decide (l.base ≤ i ∧ i ≤ lend l))) ∧ Below U.heap.size U w') := fun U b ok i => phas15_any U l v i (HR.out U b) ok.lb
  have KT : Hid (∀ U, Below W.heap.size W U → LOk l → ∀ i, (l.base ≤ i ∧ i ≤ lend l) → Calls Try.prog 31 #[lv l v, .int .i64 i] U fun e w' => e = .returned (.int .i64 (lterm l i)) ∧ Below U.heap.size U w') := fun U b ok i hi => ptermof15_any U l v i (HR.out U b) ok.lb hi
  obtain ⟨a, cp, rfl⟩ := h.slice
  obtain ⟨⟨D0, D1, D2⟩, _⟩ := cells3l D
  have HS : Hid (∀ U, Below W.heap.size W U → (U.cell? ⟨w.heap.size, 0, none⟩ = some (.int .i64 l.base) ∧ U.cell? ⟨w.heap.size, 1, none⟩ = some (.int .i64 l.bt) ∧ U.cell? ⟨w.heap.size, 2, none⟩ = some (.slice a l.es.length cp))) := fun U b =>
    ⟨(b.cell (cell_lt D0)).trans D0, (b.cell (cell_lt D1)).trans D1, (b.cell (cell_lt D2)).trans D2⟩
  have HE : Hid (∀ U, Below W.heap.size W U → Below w.heap.size w U) := fun U b => bW.trans (b.mono bW.size)
  obtain ⟨RR, hRR⟩ : ∃ R, R = ltold l i := ⟨_, rfl⟩
  rw [← hRR]
  have RN : Hid (¬ LOk l → RR = (0, 9)) := fun k => hRR.trans (if_neg k)
  have RO : Hid (LOk l → (i < l.base ∨ lend l < i) → RR = (0, 71)) := fun k q => hRR.trans ((if_pos k).trans (if_pos q))
  have RY : Hid (LOk l → ¬ (i < l.base ∨ lend l < i) → RR = (lterm l i, 0)) := fun k q => hRR.trans ((if_pos k).trans (if_neg q))
  clear hRR
  have BD : Hid (LOk l → (0 ≤ l.base ∧ l.base ≤ 1099511627776) ∧ (0 ≤ l.bt ∧ l.bt ≤ 1099511627776) ∧ l.es.length ≤ 4096 ∧ l.base + l.es.length ≤ 1099511627776) := fun ok => ok.bd
  have LE : Hid (lend l = l.base + l.es.length) := rfl
  clear h bW D sW D0 D1 D2
  dsimp only [lv] at KC KH KT ⊢
  obtain ⟨D0, D1, D2⟩ := HS.out W (Below.refl _ _)
  rw [hW] at D0 D1 D2 KC
  go_enter Try.func11, Try.ntmps11
  go_wp2_with fail
  refine KC.out.mono ?_
  rintro e w1 ⟨rfl, b1⟩
  rw [← hW] at b1
  have B1 := hide b1
  obtain ⟨E0, E1, E2⟩ := HS.out w1 b1
  clear b1 KC hW D0 D1 D2
  by_cases ok : LOk l
  case neg =>
    have hc := hide (lcheck_no ok)
    have hr := hide (RN.out ok)
    rw [hc.out]
    clear KH KT
    go_wp2
    go_ret2
    exact ⟨by rw [hr.out]; rfl, HE.out _ B1.out⟩
  case pos =>
    have hc := hide (lcheck_ok ok)
    rw [hc.out]
    replace RO := hide (RO.out ok)
    replace RY := hide (RY.out ok)
    replace KT : Hid (∀ U, Below W.heap.size W U → ∀ i, (l.base ≤ i ∧ i ≤ lend l) → Calls Try.prog 31 #[.agg #[.int .i64 l.base, .int .i64 l.bt, .slice a l.es.length cp], .int .i64 i] U fun e w' => e = .returned (.int .i64 (lterm l i)) ∧ Below U.heap.size U w') := fun U b => KT.out U b ok
    replace KH : Hid (∀ U, Below W.heap.size W U → ∀ i, Calls Try.prog 34 #[.agg #[.int .i64 l.base, .int .i64 l.bt, .slice a l.es.length cp], .int .i64 i] U fun e w' => e = .returned (.bool (decide (l.base ≤ i ∧ i ≤ lend l))) ∧ Below U.heap.size U w') := fun U b => KH.out U b ok
    clear RN hc BD LE ok HR
    generalize lterm l = TT at *
    generalize lend l = E at *
    obtain ⟨base, bt, es⟩ := l
    dsimp only at KH KT HS RO RY E0 E1 E2
    generalize es.length = n at *
    go_wp2_with fail
    refine (KH.out w1 B1.out i).mono ?_
    rintro e w2 ⟨rfl, b2⟩
    have B2 := hide (B1.out.trans (b2.mono B1.out.size))
    clear b2 E0 E1 E2
    obtain ⟨E0, E1, E2⟩ := HS.out w2 B2.out
    by_cases g : base ≤ i ∧ i ≤ E
    case neg =>
      have hr := hide (RO.out (by omega))
      have hd : Hid (decide (base ≤ i ∧ i ≤ E) = false) := decide_eq_false g
      rw [hd.out]
      clear KT
      go_wp2
      go_ret2
      exact ⟨by rw [hr.out]; rfl, HE.out _ B2.out⟩
    have hr := hide (RY.out (by omega))
    have hd : Hid (decide (base ≤ i ∧ i ≤ E) = true) := decide_eq_true g
    have KT2 := hide (KT.out w2 B2.out i g)
    rw [hd.out]
    clear hd KT g
    go_wp2_with fail
    refine (KT2.out).mono ?_
    rintro e w3 ⟨rfl, b3⟩
    have B3 := hide (B2.out.trans (b3.mono B2.out.size))
    clear b3 E0 E1 E2
    obtain ⟨E0, E1, E2⟩ := HS.out w3 B3.out
    go_wp2
    go_ret2
    exact ⟨by rw [hr.out]; rfl, HE.out _ B3.out⟩
end Go.Proofs.Ytfalhboahdccmaa
