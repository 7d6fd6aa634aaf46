/-
  The page's Append of logs. (Written by gen15e.py.)
-/
import Derived.Deep.QuietTactic
import Derived.BigQuiet
import Derived.Test.YtfalhboahdccmaaRlD
namespace Go.Proofs.Ytfalhboahdccmaa
open Go.RowKit
set_option linter.unusedVariables false
set_option linter.unusedSimpArgs false

/-- an entry as a value -/
abbrev ev (e : Wrt) (d : Value) : Value := .agg #[.int .i64 e.1, d]
theorem lapp_no {l : Lg} {e : Wrt} (h : ¬ LOk l) : lapp l e = (lnil, 9) := if_neg h
theorem lapp_t {l : Lg} {e : Wrt} (h : LOk l) (h2 : e.1 < 1 ∨ e.1 < lterm l (lend l) ∨ 1099511627776 < e.1) : lapp l e = (lnil, 151) := (if_pos h).trans (if_pos h2)
theorem lapp_l {l : Lg} {e : Wrt} (h : LOk l) (h2 : ¬ (e.1 < 1 ∨ e.1 < lterm l (lend l) ∨ 1099511627776 < e.1)) (h3 : 4096 < e.2.length) : lapp l e = (lnil, 5) := (if_pos h).trans ((if_neg h2).trans (if_pos h3))
theorem lapp_f {l : Lg} {e : Wrt} (h : LOk l) (h2 : ¬ (e.1 < 1 ∨ e.1 < lterm l (lend l) ∨ 1099511627776 < e.1)) (h3 : ¬ 4096 < e.2.length) (h4 : 4096 ≤ l.es.length ∨ 1099511627776 ≤ lend l) : lapp l e = (lnil, 51) :=
  (if_pos h).trans ((if_neg h2).trans ((if_neg h3).trans (if_pos h4)))
theorem lapp_y {l : Lg} {e : Wrt} (h : LOk l) (h2 : ¬ (e.1 < 1 ∨ e.1 < lterm l (lend l) ∨ 1099511627776 < e.1)) (h3 : ¬ 4096 < e.2.length) (h4 : ¬ (4096 ≤ l.es.length ∨ 1099511627776 ≤ lend l)) : lapp l e = (⟨l.base, l.bt, l.es ++ [e]⟩, 0) :=
  (if_pos h).trans ((if_neg h2).trans ((if_neg h3).trans (if_neg h4)))
set_option maxRecDepth 100000 in
set_option maxHeartbeats 8000000 in
theorem rapp15_any (w : World) (l : Lg) (v : Value) (y : Wrt) (dv : Value) (h : RdC w v l.es) (hd : Rd w dv y.2) : Calls Try.prog 14 #[lv l v, ev y dv] w fun e w' =>
    ∃ v', e = .returned (.tuple #[lv (lapp l y).1 v', .int .i64 (lapp l y).2]) ∧ Own SEntB w.heap.size w' [v'] (lapp l y).1.es ∧ Below w.heap.size w w' := by
  obtain ⟨j0, ji, jz0, jz1, jz2⟩ := info_parts infoEn
  obtain ⟨t, x⟩ := y
  dsimp only at hd
  dsimp only [ev]
  obtain ⟨W0, hW0, D, bW0, sW0⟩ := boxedN w #[.int .i64 l.base, .int .i64 l.bt, v] 24
  obtain ⟨W1, hW1, DE, bW1, sW1⟩ := boxedN W0 #[.int .i64 t, dv] 27
  obtain ⟨W, hW, DZ, bW2, sW2⟩ := boxedN W1 #[.int .i64 0, .int .i64 0, .slice none 0 0] 24
  have bWa := bW0.trans (bW1.mono bW0.size)
  have bW := bWa.trans (bW2.mono bWa.size)
  replace D := ((bW2.mono (show w.heap.size + 1 ≤ W1.heap.size by omega)).block w.heap.size (by omega)).trans ((bW1.block w.heap.size (lt_of_block D)).trans D)
  rw [sW0] at DE
  replace DE := (bW2.block _ (by omega)).trans DE
  have sW : W.heap.size = w.heap.size + 3 := by omega
  rw [sW1, sW0] at DZ
  have HR : Hid (∀ U, Below W.heap.size W U → RdC U v l.es) := fun U b => (h.to0 bW).to0 b
  have HX : Hid (∀ U, Below W.heap.size W U → Rd U dv x) := fun U b => (hd.to bW).to b
  have KC := hide (rcheck15_any W l v (HR.out W (Below.refl _ _)))
  have KE : Hid (∀ U, Below W.heap.size W U → LOk l → Calls Try.prog 32 #[lv l v] U fun e w' => e = .returned (.int .i64 (lend l)) ∧ Below U.heap.size U w') := fun U b ok => rend15_any U l v (HR.out U b) ok
  have KT : Hid (∀ U, Below W.heap.size W U → LOk l → ∀ i, (l.base ≤ i ∧ i ≤ lend l) → Calls Try.prog 33 #[lv l v, .int .i64 i] U fun e w' => e = .returned (.int .i64 (lterm l i)) ∧ Below U.heap.size U w') := fun U b ok i hi => rterm15_any U l v i (HR.out U b) ok hi
  have KO : Hid (∀ U, Below W.heap.size W U → LOk l → Calls Try.prog 36 #[v] U fun e w' => ∃ v', e = .returned v' ∧ Own SEntB U.heap.size w' [v'] l.es ∧ Below U.heap.size U w') := fun U b ok =>
    rown15_any U v l.es (HR.out U b) (by have := ok.bd.2.2.1; omega) (fun x hx => by have := ok.len x hx; omega)
  have KX : Hid (∀ U, Below W.heap.size W U → ¬ 4096 < x.length → Calls Try.prog 37 #[dv] U fun e w' => ∃ v', e = .returned v' ∧ OwnB U.heap.size w' v' x ∧ Below U.heap.size U w') := fun U b q => rcopied_any U dv x (HX.out U b) (by omega)
  obtain ⟨a, cp, rfl⟩ := h.slice
  obtain ⟨da, dc, rfl⟩ := hd.slice
  obtain ⟨⟨D0, D1, D2⟩, Df⟩ := cells3l D
  obtain ⟨⟨E0, E1⟩, _⟩ := cells2l DE
  have HS : Hid (∀ U, Below W.heap.size W U → ((U.cell? ⟨w.heap.size, 0, none⟩ = some (.int .i64 l.base) ∧ U.cell? ⟨w.heap.size, 1, none⟩ = some (.int .i64 l.bt) ∧ U.cell? ⟨w.heap.size, 2, none⟩ = some (.slice a l.es.length cp)) ∧
      (U.cell? ⟨w.heap.size + 1, 0, none⟩ = some (.int .i64 t) ∧ U.cell? ⟨w.heap.size + 1, 1, none⟩ = some (.slice da x.length dc)))) := fun U b =>
    ⟨⟨(b.cell (cell_lt D0)).trans D0, (b.cell (cell_lt D1)).trans D1, (b.cell (cell_lt D2)).trans D2⟩, (b.cell (cell_lt E0)).trans E0, (b.cell (cell_lt E1)).trans E1⟩
  have HD : Hid (∀ U, Below W.heap.size W U → U.heap[w.heap.size]? = some (.cells #[.int .i64 l.base, .int .i64 l.bt, .slice a l.es.length cp] 24 (0, 0))) := fun U b => (b.block _ (lt_of_block D)).trans D
  have HZ : Hid (∀ U, Below W.heap.size W U → U.heap[w.heap.size + 1 + 1]? = some (.cells #[.int .i64 0, .int .i64 0, .slice none 0 0] 24 (0, 0))) := fun U b => (b.block _ (lt_of_block DZ)).trans DZ
  have HE : Hid (∀ U, Below W.heap.size W U → Below w.heap.size w U) := fun U b => bW.trans (b.mono bW.size)
  have HF : Hid (∀ U x y z, Below W.heap.size W U → ((((U.setCell ⟨w.heap.size + 1 + 1, 0, none⟩ x).setCell ⟨w.heap.size + 1 + 1, 1, none⟩ y).setCell ⟨w.heap.size + 1 + 1, 2, none⟩ z).heap[w.heap.size + 1 + 1]? = some (.cells #[x, y, z] 24 (0, 0)) ∧
      Below w.heap.size w (((U.setCell ⟨w.heap.size + 1 + 1, 0, none⟩ x).setCell ⟨w.heap.size + 1 + 1, 1, none⟩ y).setCell ⟨w.heap.size + 1 + 1, 2, none⟩ z))) := fun U x y z b =>
    ⟨heap_set3l (HZ.out U b) x y z, below_set3l (bW.trans (b.mono bW.size)) (by omega) x y z⟩
  obtain ⟨RR, hRR⟩ : ∃ R, R = lapp l (t, x) := ⟨_, rfl⟩
  rw [← hRR]
  have RN : Hid (¬ LOk l → RR = (lnil, 9)) := fun k => hRR.trans (lapp_no k)
  have RT : Hid (LOk l → (t < 1 ∨ t < lterm l (lend l) ∨ 1099511627776 < t) → RR = (lnil, 151)) := fun k q => hRR.trans (lapp_t k q)
  have RL : Hid (LOk l → ¬ (t < 1 ∨ t < lterm l (lend l) ∨ 1099511627776 < t) → 4096 < x.length → RR = (lnil, 5)) := fun k q r => hRR.trans (lapp_l k q r)
  have RF : Hid (LOk l → ¬ (t < 1 ∨ t < lterm l (lend l) ∨ 1099511627776 < t) → ¬ 4096 < x.length → (4096 ≤ l.es.length ∨ 1099511627776 ≤ lend l) → RR = (lnil, 51)) := fun k q r s => hRR.trans (lapp_f k q r s)
  have RY : Hid (LOk l → ¬ (t < 1 ∨ t < lterm l (lend l) ∨ 1099511627776 < t) → ¬ 4096 < x.length → ¬ (4096 ≤ l.es.length ∨ 1099511627776 ≤ lend l) → RR = (⟨l.base, l.bt, l.es ++ [(t, x)]⟩, 0)) := fun k q r s => hRR.trans (lapp_y k q r s)
  have BD : Hid (LOk l → (0 ≤ l.base ∧ l.base ≤ 1099511627776) ∧ (0 ≤ l.bt ∧ l.bt ≤ 1099511627776) ∧ l.es.length ≤ 4096 ∧ l.base + l.es.length ≤ 1099511627776) := fun ok => ok.bd
  have LE : Hid (lend l = l.base + l.es.length) := rfl
  have lbx : x.length ≤ 9223372036854775807 := by
    obtain ⟨_, _, _, q1, q2, _⟩ := hd
    exact Nat.le_trans q1 q2
  have hWW : Hid (W = ((w.alloc (.cells #[.int .i64 l.base, .int .i64 l.bt, .slice a l.es.length cp] 24)).alloc (.cells #[.int .i64 t, .slice da x.length dc] 27)).alloc (.cells #[.int .i64 0, .int .i64 0, .slice none 0 0] 24)) := by
    rw [hW1, hW0] at hW; exact hW
  clear hRR h hd bW D D0 D1 D2 E0 E1 DE bW0 bW1 bW2 bWa sW0 DZ sW1 sW2 hW hW0 hW1 Df HR HX
  dsimp only [lv] at KC KE KT KO KX ⊢
  have DZ0 := HZ.out W (Below.refl _ _)
  obtain ⟨⟨D0, D1, D2⟩, E0, E1⟩ := HS.out W (Below.refl _ _)
  rw [hWW.out] at D0 D1 D2 E0 E1 KC
  go_enter Try.func14, Try.ntmps14
  go_wp2_with fail
  refine KC.out.mono ?_
  rintro e w1 ⟨rfl, b1⟩
  rw [← hWW.out] at b1
  have B1 := hide b1
  clear b1 KC hWW D0 D1 D2 E0 E1 DZ0
  obtain ⟨⟨D0, D1, D2⟩, E0, E1⟩ := HS.out w1 B1.out
  by_cases ok : LOk l
  case neg =>
    have hc := hide (lcheck_no ok)
    have hr := hide (RN.out ok)
    rw [hc.out]
    clear KE KT KO KX
    obtain ⟨⟨Q0, Q1, Q2⟩, Rf⟩ := cells3l (HZ.out _ B1.out)
    have Rf0 := Rf 0
    have Rf1 := Rf 1
    have Rf2 := Rf 2
    clear Rf
    go_wp2
    refine retNT rfl rfl (w.heap.size + 1 + 1) rfl _ _ (0, 0) (HF.out _ _ _ _ B1.out).1 _ Try.underlying24 rfl info_lg15 (.int .i64 9) rfl ?_
    rw [hr.out]
    exact ⟨.slice none 0 0, rfl, Own.nil _ _ _ _, (HF.out _ _ _ _ B1.out).2⟩
  case pos =>
    have hc := hide (lcheck_ok ok)
    rw [hc.out]
    obtain ⟨k1, k2, k3, k4⟩ := BD.out ok
    have hle : Hid (lend l = l.base + l.es.length) := LE.out
    replace RT := hide (RT.out ok)
    replace RL := hide (RL.out ok)
    replace RF := hide (RF.out ok)
    replace RY := hide (RY.out ok)
    replace KO : Hid (∀ U, Below W.heap.size W U → Calls Try.prog 36 #[.slice a l.es.length cp] U fun e w' => ∃ v', e = .returned v' ∧ Own SEntB U.heap.size w' [v'] l.es ∧ Below U.heap.size U w') := fun U b => KO.out U b ok
    replace KE : Hid (∀ U, Below W.heap.size W U → Calls Try.prog 32 #[.agg #[.int .i64 l.base, .int .i64 l.bt, .slice a l.es.length cp]] U fun e w' => e = .returned (.int .i64 (lend l)) ∧ Below U.heap.size U w') := fun U b => KE.out U b ok
    replace KT : Hid (∀ U, Below W.heap.size W U → ∀ i, (l.base ≤ i ∧ i ≤ lend l) → Calls Try.prog 33 #[.agg #[.int .i64 l.base, .int .i64 l.bt, .slice a l.es.length cp], .int .i64 i] U fun e w' => e = .returned (.int .i64 (lterm l i)) ∧ Below U.heap.size U w') := fun U b => KT.out U b ok
    clear RN hc BD LE ok k2
    generalize lterm l = TT at *
    generalize lend l = E at *
    obtain ⟨base, bt, es⟩ := l
    dsimp only at KE KT HS HD D0 D1 D2 RT RL RF RY KO k1 k3 k4 hle
    generalize hn : es.length = n at *
    replace hn := hide hn
    have hle2 : Hid (base ≤ E ∧ E ≤ E) := by show _ ∧ _; rw [hle.out]; omega
    by_cases g1 : t < 1
    · have hr := hide (RT.out (.inl g1))
      have hg1 : decide (t < 1) = true := decide_eq_true g1
      go_upto_region 3 with fail
      go_quiet (fail)
      obtain ⟨⟨Q0, Q1, Q2⟩, Rf⟩ := cells3l (HZ.out _ (B1.out.trans (below_drewN' w1 nq _)))
      have Rf0 := Rf 0
      have Rf1 := Rf 1
      have Rf2 := Rf 2
      clear Rf
      go_wp2
      refine retNT rfl rfl (w.heap.size + 1 + 1) rfl _ _ (0, 0) (HF.out _ _ _ _ (B1.out.trans (below_drewN' w1 nq _))).1 _ Try.underlying24 rfl info_lg15 (.int .i64 151) rfl ?_
      rw [hr.out]
      exact ⟨.slice none 0 0, rfl, Own.nil _ _ _ _, (HF.out _ _ _ _ (B1.out.trans (below_drewN' w1 nq _))).2⟩
    have hg1 : decide (t < 1) = false := decide_eq_false g1
    go_upto_region 3 with fail
    have b0 := B1.out.drew
    clear D0 D1 D2 E0 E1
    refine wp_region_fan (fun w9 => (w9.cell? ⟨w.heap.size, 0, none⟩ = some (.int .i64 base) ∧ w9.cell? ⟨w.heap.size, 1, none⟩ = some (.int .i64 bt) ∧ w9.cell? ⟨w.heap.size, 2, none⟩ = some (.slice a n cp)) ∧ (w9.cell? ⟨w.heap.size + 1, 0, none⟩ = some (.int .i64 t) ∧ w9.cell? ⟨w.heap.size + 1, 1, none⟩ = some (.slice da x.length dc))) 10 mixed (by simp) ?_
    generalize w1.drew = c0 at *
    refine fan_take (i := 0) (v := ?_) rfl (by kernel_rfl) (fun _ _ _ _ h => h) (by kernel_rfl) (HS.out _ b0) ?_ ?_
    rotate_left
    · rintro w9 ⟨⟨q0, q1, q2⟩, p0, p1⟩
      go_simp
      try with_reducible rfl
    try simp only [List.getElem_toArray, List.getElem_cons_succ, List.getElem_cons_zero, List.getElem?_toArray, List.getElem?_cons_succ, List.getElem?_cons_zero, Act.put, List.setIfInBounds_toArray, List.set_cons_zero, List.set_cons_succ]
    refine fan_take (i := 1) (v := ?_) rfl (by kernel_rfl) (fun _ _ _ _ h => h) (by kernel_rfl) (HS.out _ b0) ?_ ?_
    rotate_left
    · rintro w9 ⟨⟨q0, q1, q2⟩, p0, p1⟩
      go_simp
      try with_reducible rfl
    try simp only [List.getElem_toArray, List.getElem_cons_succ, List.getElem_cons_zero, List.getElem?_toArray, List.getElem?_cons_succ, List.getElem?_cons_zero, Act.put, List.setIfInBounds_toArray, List.set_cons_zero, List.set_cons_succ]
    refine fan_take (i := 2) (v := ?_) rfl (by kernel_rfl) (fun _ _ _ _ h => h) (by kernel_rfl) (HS.out _ b0) ?_ ?_
    rotate_left
    · rintro w9 ⟨⟨q0, q1, q2⟩, p0, p1⟩
      go_simp
      try with_reducible rfl
    try simp only [List.getElem_toArray, List.getElem_cons_succ, List.getElem_cons_zero, List.getElem?_toArray, List.getElem?_cons_succ, List.getElem?_cons_zero, Act.put, List.setIfInBounds_toArray, List.set_cons_zero, List.set_cons_succ]
    refine fan_take (i := 3) (v := ?_) rfl (by kernel_rfl) (fun _ _ _ _ h => h) (by kernel_rfl) (HS.out _ b0) ?_ ?_
    rotate_left
    · rintro w9 ⟨⟨q0, q1, q2⟩, p0, p1⟩
      go_simp
      try with_reducible rfl
    try simp only [List.getElem_toArray, List.getElem_cons_succ, List.getElem_cons_zero, List.getElem?_toArray, List.getElem?_cons_succ, List.getElem?_cons_zero, Act.put, List.setIfInBounds_toArray, List.set_cons_zero, List.set_cons_succ]
    refine fan_take (i := 4) (v := ?_) rfl (by kernel_rfl) (fun _ _ _ _ h => h) (by kernel_rfl) (HS.out _ b0) ?_ ?_
    rotate_left
    · rintro w9 ⟨⟨q0, q1, q2⟩, p0, p1⟩
      go_simp
      try with_reducible rfl
    try simp only [List.getElem_toArray, List.getElem_cons_succ, List.getElem_cons_zero, List.getElem?_toArray, List.getElem?_cons_succ, List.getElem?_cons_zero, Act.put, List.setIfInBounds_toArray, List.set_cons_zero, List.set_cons_succ]
    refine fan_take (i := 5) (v := ?_) rfl (by kernel_rfl) (fun _ _ _ _ h => h) (by kernel_rfl) (HS.out _ b0) ?_ ?_
    rotate_left
    · rintro w9 ⟨⟨q0, q1, q2⟩, p0, p1⟩
      go_simp
      try with_reducible rfl
    try simp only [List.getElem_toArray, List.getElem_cons_succ, List.getElem_cons_zero, List.getElem?_toArray, List.getElem?_cons_succ, List.getElem?_cons_zero, Act.put, List.setIfInBounds_toArray, List.set_cons_zero, List.set_cons_succ]
    refine fan_take (i := 6) (v := ?_) rfl (by kernel_rfl) (fun _ _ _ _ h => h) (by kernel_rfl) (HS.out _ b0) ?_ ?_
    rotate_left
    · rintro w9 ⟨⟨q0, q1, q2⟩, p0, p1⟩
      go_simp
      try with_reducible rfl
    try simp only [List.getElem_toArray, List.getElem_cons_succ, List.getElem_cons_zero, List.getElem?_toArray, List.getElem?_cons_succ, List.getElem?_cons_zero, Act.put, List.setIfInBounds_toArray, List.set_cons_zero, List.set_cons_succ]
    refine fan_take (i := 7) (v := ?_) rfl (by kernel_rfl) (fun _ _ _ _ h => h) (by kernel_rfl) (HS.out _ b0) ?_ ?_
    rotate_left
    · rintro w9 ⟨⟨q0, q1, q2⟩, p0, p1⟩
      go_simp
      try with_reducible rfl
    try simp only [List.getElem_toArray, List.getElem_cons_succ, List.getElem_cons_zero, List.getElem?_toArray, List.getElem?_cons_succ, List.getElem?_cons_zero, Act.put, List.setIfInBounds_toArray, List.set_cons_zero, List.set_cons_succ]
    refine fan_one 8 (by kernel_rfl) ?_
    refine fan_step rfl (by kernel_rfl) fun K hK => ?_
    refine wp_call_of 32 _ _ (by rfl) #[.agg #[.int .i64 base, .int .i64 bt, .slice a n cp]] (by simp [Act.eval]) (Try.call32 _ _) (KE.out c0 b0) ?_
    rintro e c1 ⟨rfl, bb⟩
    have b1 := b0.trans (bb.mono b0.size)
    refine ⟨_, rfl, hK _ _ (HS.out _ b1) ?_⟩
    clear hK K bb
    try simp only [List.getElem_toArray, List.getElem_cons_succ, List.getElem_cons_zero, List.getElem?_toArray, List.getElem?_cons_succ, List.getElem?_cons_zero, Act.put, List.setIfInBounds_toArray, List.set_cons_zero, List.set_cons_succ]
    refine fan_one 9 (by kernel_rfl) ?_
    refine fan_step rfl (by kernel_rfl) fun K hK => ?_
    refine wp_call_of 33 _ _ (by rfl) #[.agg #[.int .i64 base, .int .i64 bt, .slice a n cp], .int .i64 E] (by simp [Act.eval]) (Try.call33 _ _) (KT.out c1 b1 E hle2.out) ?_
    rintro e c2 ⟨rfl, bb⟩
    have b2 := b1.trans (bb.mono b1.size)
    refine ⟨_, rfl, hK _ _ (HS.out _ b2) ?_⟩
    clear hK K bb
    try simp only [List.getElem_toArray, List.getElem_cons_succ, List.getElem_cons_zero, List.getElem?_toArray, List.getElem?_cons_succ, List.getElem?_cons_zero, Act.put, List.setIfInBounds_toArray, List.set_cons_zero, List.set_cons_succ]
    refine fan_done (by kernel_rfl) ?_
    show wpList _ _ _ _ _ _
    have B2 := hide b2
    clear b0 b1 b2
    have hle3 := hle2
    obtain ⟨⟨D0, D1, D2⟩, E0, E1⟩ := HS.out c2 B2.out
    by_cases g2 : t < TT E
    · have hr := hide (RT.out (.inr (.inl g2)))
      have hg2 : decide (t < TT E) = true := decide_eq_true g2
      obtain ⟨⟨Q0, Q1, Q2⟩, Rf⟩ := cells3l (HZ.out _ B2.out)
      have Rf0 := Rf 0
      have Rf1 := Rf 1
      have Rf2 := Rf 2
      clear Rf
      go_wp2
      refine retNT rfl rfl (w.heap.size + 1 + 1) rfl _ _ (0, 0) (HF.out _ _ _ _ B2.out).1 _ Try.underlying24 rfl info_lg15 (.int .i64 151) rfl ?_
      rw [hr.out]
      exact ⟨.slice none 0 0, rfl, Own.nil _ _ _ _, (HF.out _ _ _ _ B2.out).2⟩
    by_cases g3 : (1099511627776 : Int) < t
    · have hr := hide (RT.out (.inr (.inr g3)))
      have hg2 : decide (t < TT E) = false := decide_eq_false g2
      obtain ⟨⟨Q0, Q1, Q2⟩, Rf⟩ := cells3l (HZ.out _ B2.out)
      have Rf0 := Rf 0
      have Rf1 := Rf 1
      have Rf2 := Rf 2
      clear Rf
      go_wp2
      refine retNT rfl rfl (w.heap.size + 1 + 1) rfl _ _ (0, 0) (HF.out _ _ _ _ B2.out).1 _ Try.underlying24 rfl info_lg15 (.int .i64 151) rfl ?_
      rw [hr.out]
      exact ⟨.slice none 0 0, rfl, Own.nil _ _ _ _, (HF.out _ _ _ _ B2.out).2⟩
    have hg2 : decide (t < TT E) = false := decide_eq_false g2
    have RLt := hide (RL.out (by omega))
    have RFt := hide (RF.out (by omega))
    have RYt := hide (RY.out (by omega))
    clear RT RL RF RY
    by_cases g4 : (4096 : Int) < (x.length : Int)
    · have hr := hide (RLt.out (by omega))
      obtain ⟨⟨Q0, Q1, Q2⟩, Rf⟩ := cells3l (HZ.out _ B2.out)
      have Rf0 := Rf 0
      have Rf1 := Rf 1
      have Rf2 := Rf 2
      clear Rf
      go_wp2
      refine retNT rfl rfl (w.heap.size + 1 + 1) rfl _ _ (0, 0) (HF.out _ _ _ _ B2.out).1 _ Try.underlying24 rfl info_lg15 (.int .i64 5) rfl ?_
      rw [hr.out]
      exact ⟨.slice none 0 0, rfl, Own.nil _ _ _ _, (HF.out _ _ _ _ B2.out).2⟩
    replace RFt := hide (RFt.out (by omega))
    replace RYt := hide (RYt.out (by omega))
    replace KX : Hid (∀ U, Below W.heap.size W U → Calls Try.prog 37 #[.slice da x.length dc] U fun e w' => ∃ v', e = .returned v' ∧ OwnB U.heap.size w' v' x ∧ Below U.heap.size U w') := fun U b => KX.out U b (by omega)
    by_cases g5 : (4096 : Int) ≤ (n : Int)
    · have hr := hide (RFt.out (.inl (by omega)))
      have hg5 : decide ((4096 : Int) ≤ (n : Int)) = true := decide_eq_true g5
      obtain ⟨⟨Q0, Q1, Q2⟩, Rf⟩ := cells3l (HZ.out _ B2.out)
      have Rf0 := Rf 0
      have Rf1 := Rf 1
      have Rf2 := Rf 2
      clear Rf
      go_wp2
      refine retNT rfl rfl (w.heap.size + 1 + 1) rfl _ _ (0, 0) (HF.out _ _ _ _ B2.out).1 _ Try.underlying24 rfl info_lg15 (.int .i64 51) rfl ?_
      rw [hr.out]
      exact ⟨.slice none 0 0, rfl, Own.nil _ _ _ _, (HF.out _ _ _ _ B2.out).2⟩
    have hg5 : decide ((4096 : Int) ≤ (n : Int)) = false := decide_eq_false g5
    go_wp2_with fail
    refine (KE.out _ B2.out).mono ?_
    rintro e w3 ⟨rfl, b3⟩
    have B3 := hide (B2.out.trans (b3.mono B2.out.size))
    clear b3 D0 D1 D2 E0 E1
    obtain ⟨⟨D0, D1, D2⟩, E0, E1⟩ := HS.out w3 B3.out
    by_cases g6 : (1099511627776 : Int) ≤ E
    · have hr := hide (RFt.out (.inr g6))
      obtain ⟨⟨Q0, Q1, Q2⟩, Rf⟩ := cells3l (HZ.out _ B3.out)
      have Rf0 := Rf 0
      have Rf1 := Rf 1
      have Rf2 := Rf 2
      clear Rf
      go_wp2
      refine retNT rfl rfl (w.heap.size + 1 + 1) rfl _ _ (0, 0) (HF.out _ _ _ _ B3.out).1 _ Try.underlying24 rfl info_lg15 (.int .i64 51) rfl ?_
      rw [hr.out]
      exact ⟨.slice none 0 0, rfl, Own.nil _ _ _ _, (HF.out _ _ _ _ B3.out).2⟩
    have hr := hide (RYt.out (by omega))
    clear RLt RFt RYt
    go_upto_region 9 with fail
    have b0 := B3.out.drew
    clear D0 D1 D2 E0 E1
    refine wp_region_fan (fun w9 => (w9.cell? ⟨w.heap.size, 0, none⟩ = some (.int .i64 base) ∧ w9.cell? ⟨w.heap.size, 1, none⟩ = some (.int .i64 bt) ∧ w9.cell? ⟨w.heap.size, 2, none⟩ = some (.slice a n cp)) ∧ (w9.cell? ⟨w.heap.size + 1, 0, none⟩ = some (.int .i64 t) ∧ w9.cell? ⟨w.heap.size + 1, 1, none⟩ = some (.slice da x.length dc))) 8 mixed (by simp) ?_
    generalize w3.drew = c0 at *
    refine fan_take (i := 0) (v := ?_) rfl (by kernel_rfl) (fun _ _ _ _ h => h) (by kernel_rfl) (HS.out _ b0) ?_ ?_
    rotate_left
    · rintro w9 ⟨⟨q0, q1, q2⟩, p0, p1⟩
      go_simp
      try with_reducible rfl
    try simp only [List.getElem_toArray, List.getElem_cons_succ, List.getElem_cons_zero, List.getElem?_toArray, List.getElem?_cons_succ, List.getElem?_cons_zero, Act.put, List.setIfInBounds_toArray, List.set_cons_zero, List.set_cons_succ]
    refine fan_take (i := 1) (v := ?_) rfl (by kernel_rfl) (fun _ _ _ _ h => h) (by kernel_rfl) (HS.out _ b0) ?_ ?_
    rotate_left
    · rintro w9 ⟨⟨q0, q1, q2⟩, p0, p1⟩
      go_simp
      try with_reducible rfl
    try simp only [List.getElem_toArray, List.getElem_cons_succ, List.getElem_cons_zero, List.getElem?_toArray, List.getElem?_cons_succ, List.getElem?_cons_zero, Act.put, List.setIfInBounds_toArray, List.set_cons_zero, List.set_cons_succ]
    refine fan_take (i := 3) (v := ?_) rfl (by kernel_rfl) (fun _ _ _ _ h => h) (by kernel_rfl) (HS.out _ b0) ?_ ?_
    rotate_left
    · rintro w9 ⟨⟨q0, q1, q2⟩, p0, p1⟩
      go_simp
      try with_reducible rfl
    try simp only [List.getElem_toArray, List.getElem_cons_succ, List.getElem_cons_zero, List.getElem?_toArray, List.getElem?_cons_succ, List.getElem?_cons_zero, Act.put, List.setIfInBounds_toArray, List.set_cons_zero, List.set_cons_succ]
    refine fan_take (i := 4) (v := ?_) rfl (by kernel_rfl) (fun _ _ _ _ h => h) (by kernel_rfl) (HS.out _ b0) ?_ ?_
    rotate_left
    · rintro w9 ⟨⟨q0, q1, q2⟩, p0, p1⟩
      go_simp
      try with_reducible rfl
    try simp only [List.getElem_toArray, List.getElem_cons_succ, List.getElem_cons_zero, List.getElem?_toArray, List.getElem?_cons_succ, List.getElem?_cons_zero, Act.put, List.setIfInBounds_toArray, List.set_cons_zero, List.set_cons_succ]
    refine fan_take (i := 5) (v := ?_) rfl (by kernel_rfl) (fun _ _ _ _ h => h) (by kernel_rfl) (HS.out _ b0) ?_ ?_
    rotate_left
    · rintro w9 ⟨⟨q0, q1, q2⟩, p0, p1⟩
      go_simp
      try with_reducible rfl
    try simp only [List.getElem_toArray, List.getElem_cons_succ, List.getElem_cons_zero, List.getElem?_toArray, List.getElem?_cons_succ, List.getElem?_cons_zero, Act.put, List.setIfInBounds_toArray, List.set_cons_zero, List.set_cons_succ]
    refine fan_take (i := 6) (v := ?_) rfl (by kernel_rfl) (fun _ _ _ _ h => h) (by kernel_rfl) (HS.out _ b0) ?_ ?_
    rotate_left
    · rintro w9 ⟨⟨q0, q1, q2⟩, p0, p1⟩
      go_simp
      try with_reducible rfl
    try simp only [List.getElem_toArray, List.getElem_cons_succ, List.getElem_cons_zero, List.getElem?_toArray, List.getElem?_cons_succ, List.getElem?_cons_zero, Act.put, List.setIfInBounds_toArray, List.set_cons_zero, List.set_cons_succ]
    refine fan_one 2 (by kernel_rfl) ?_
    refine fan_step rfl (by kernel_rfl) fun K hK => ?_
    refine wp_call_of 36 _ _ (by rfl) #[.slice a n cp] (by simp [Act.eval]) (Try.call36 _ _) (KO.out c0 b0) ?_
    rintro e c1 ⟨v8, rfl, o8, bb⟩
    have b1 := b0.trans (bb.mono b0.size)
    obtain ⟨cc, ll, lc, rfl, ROW, FIN⟩ := lit15 (o8.mono b0.size) hn.out b1.size
    replace ROW := hide ROW
    replace FIN := hide FIN
    clear o8
    refine ⟨_, rfl, hK _ _ (HS.out _ b1) ?_⟩
    clear hK K bb
    try simp only [List.getElem_toArray, List.getElem_cons_succ, List.getElem_cons_zero, List.getElem?_toArray, List.getElem?_cons_succ, List.getElem?_cons_zero, Act.put, List.setIfInBounds_toArray, List.set_cons_zero, List.set_cons_succ]
    refine fan_one 7 (by kernel_rfl) ?_
    refine fan_step rfl (by kernel_rfl) fun K hK => ?_
    refine wp_call_of 37 _ _ (by rfl) #[.slice da x.length dc] (by simp [Act.eval]) (Try.call37 _ _) (KX.out c1 b1) ?_
    rintro e c2 ⟨v9, rfl, o9, bb⟩
    have b2 := b1.trans (bb.mono b1.size)
    obtain ⟨xa, xc, rfl⟩ := o9.rd.slice
    have O9 := hide o9
    have BB := hide bb
    clear o9
    refine ⟨_, rfl, hK _ _ (HS.out _ b2) ?_⟩
    clear hK K bb
    try simp only [List.getElem_toArray, List.getElem_cons_succ, List.getElem_cons_zero, List.getElem?_toArray, List.getElem?_cons_succ, List.getElem?_cons_zero, Act.put, List.setIfInBounds_toArray, List.set_cons_zero, List.set_cons_succ]
    refine fan_done (by kernel_rfl) ?_
    show wpList _ _ _ _ _ _
    have h63 : n + 1 ≤ maxLen := by rw [show maxLen = 9223372036854775807 from rfl]; omega
    have hby : (n + 1) * 32 ≤ 140737488355328 := by omega
    have FIN2 : Hid (∀ w5 g cap, (c2.alloc (.cells #[.int .i64 t, .slice xa x.length xc] 27)).grownBy w5 (Value.slice ll n lc).ownBlock → w5.ownsRow 0 27 2 (.slice (some ⟨g, 0, none⟩) (n + 1) cap) (n + 1) (cc ++ [.int .i64 t, .slice xa x.length xc]) → ((Value.slice ll n lc).ownBlock = some g ∨ g = c2.heap.size + 1) →
        (Own SEntB W.heap.size w5 [.slice (some ⟨g, 0, none⟩) (n + 1) cap] (es ++ [(t, x)]) ∧ Below W.heap.size W w5)) := fun w5 g cap q1 q2 q3 => by
      obtain ⟨o5, b5⟩ := FIN.out c2 t _ x w5 g cap BB.out O9.out q1 q2 q3
      exact ⟨o5, b1.trans b5⟩
    have ROW2 := hide (ROW.out c2 BB.out)
    clear b0 b1 b2 FIN ROW O9 BB
    go_wp2_with (at_builtin; refine wpList_append_lies _ rfl _ _ 22 rfl 0 27 j0 _ 2 32 Try.underlying22 ji jz0 jz1 jz2 rfl (by decide) (.slice ll n lc) n cc rfl (ROW2.out _) ⟨c2.heap.size, 0, none⟩ 1 1 [.int .i64 t, .slice xa x.length xc] rfl rfl (World.news_of_block (heap_alloc_last c2 _)) (by simp [Value.oneCell']) (by decide) h63 hby (Nat.zero_le _) (c2.heap.size + 1) (by simp) ?_; intro g cap w5 ho5 hg5 hat5 hlt5; have HF2 := hide (FIN2.out w5 g cap hg5 ho5 hat5); clear ho5 hg5 hat5 FIN2 ROW2; have hB := HF2.out.2; have DX := hide (heap_set1l (HD.out w5 hB) (Value.slice (some ⟨g, 0, none⟩) (n + 1) cap)); obtain ⟨⟨G0, G1, G2⟩, _⟩ := cells3l DX.out; obtain ⟨⟨H0, H1, H2⟩, Hf⟩ := cells3l (HD.out w5 hB); have Hf2 := Hf 2; have ZX := hide ((Below.heap_setCell w5 ⟨w.heap.size, 2, none⟩ (Value.slice (some ⟨g, 0, none⟩) (n + 1) cap) (w.heap.size + 1 + 1) (show w.heap.size + 1 + 1 ≠ w.heap.size by omega)).trans (HZ.out w5 hB)); obtain ⟨⟨Q0, Q1, Q2⟩, Rf⟩ := cells3l ZX.out; have Rf0 := Rf 0; have Rf1 := Rf 1; have Rf2 := Rf 2; clear Rf Hf hB)
    refine retNT rfl rfl (w.heap.size + 1 + 1) rfl _ _ (0, 0) (heap_set3l ZX.out _ _ _) _ Try.underlying24 rfl info_lg15 (.int .i64 0) rfl ?_
    rw [hr.out]
    exact ⟨_, rfl, (own_set3l (HF2.out.1.set (a := ⟨w.heap.size, 2, none⟩) (show w.heap.size < W.heap.size by omega) _) (g := w.heap.size + 1 + 1) (show w.heap.size + 1 + 1 < W.heap.size by omega) _ _ _).mono (show w.heap.size ≤ W.heap.size by omega),
      below_set3l ((HE.out _ HF2.out.2).setCell (p := ⟨w.heap.size, 2, none⟩) (Nat.le_refl _) _) (show w.heap.size ≤ w.heap.size + 1 + 1 by omega) _ _ _⟩
end Go.Proofs.Ytfalhboahdccmaa
