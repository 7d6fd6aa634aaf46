/-
  The page's Last, Term, Compact and From of logs. (Written by gen15.py.)
-/
import Derived.Test.YtfalhboahdccmaaRlC
namespace Go.Proofs.Ytfalhboahdccmaa
open Go.RowKit
set_option linter.unusedVariables false
set_option linter.unusedSimpArgs false

theorem ret_iii {a b c x y z : Int} (h1 : a = x) (h2 : b = y) (h3 : c = z) : Ending.returned (.tuple #[.int .i64 a, .int .i64 b, .int .i64 c]) = .returned (.tuple #[.int .i64 x, .int .i64 y, .int .i64 z]) := by rw [h1, h2, h3]
theorem ret_ii {a b x y : Int} (h1 : a = x) (h2 : b = y) : Ending.returned (.tuple #[.int .i64 a, .int .i64 b]) = .returned (.tuple #[.int .i64 x, .int .i64 y]) := by rw [h1, h2]

set_option maxRecDepth 100000 in
set_option maxHeartbeats 8000000 in
theorem rlast15_any (w : World) (l : Lg) (v : Value) (h : RdC w v l.es) : Calls Try.prog 10 #[lv l v] w fun e w' => e = .returned (.tuple #[.int .i64 (llast l).1, .int .i64 (llast l).2.1, .int .i64 (llast l).2.2]) ∧ Below w.heap.size w w' := by
  obtain ⟨W, hW, D, bW, sW⟩ := boxedN w #[.int .i64 l.base, .int .i64 l.bt, v] 24
  have HR : Hid (∀ U, Below W.heap.size W U → RdC U v l.es) := fun U b => (h.to0 bW).to0 b
  have KC := hide (rcheck15_any W l v (HR.out W (Below.refl _ _)))
  have KE : Hid (∀ U, Below W.heap.size W U → LOk l → Calls Try.prog 32 #[lv l v] U fun e w' => e = .returned (.int .i64 (lend l)) ∧ Below U.heap.size U w') := fun U b ok => rend15_any U l v (HR.out U b) ok
  have KT : Hid (∀ U, Below W.heap.size W U → LOk l → ∀ i, (l.base ≤ i ∧ i ≤ lend l) → Calls Try.prog 33 #[lv l v, .int .i64 i] U fun e w' => e = .returned (.int .i64 (lterm l i)) ∧ Below U.heap.size U w') := fun U b ok i hi => rterm15_any U l v i (HR.out U b) ok hi
  obtain ⟨a, cp, rfl⟩ := h.slice
  obtain ⟨⟨D0, D1, D2⟩, _⟩ := cells3l D
  have HS : Hid (∀ U, Below W.heap.size W U → (U.cell? ⟨w.heap.size, 0, none⟩ = some (.int .i64 l.base) ∧ U.cell? ⟨w.heap.size, 1, none⟩ = some (.int .i64 l.bt) ∧ U.cell? ⟨w.heap.size, 2, none⟩ = some (.slice a l.es.length cp))) := fun U b =>
    ⟨(b.cell (cell_lt D0)).trans D0, (b.cell (cell_lt D1)).trans D1, (b.cell (cell_lt D2)).trans D2⟩
  have HE : Hid (∀ U, Below W.heap.size W U → Below w.heap.size w U) := fun U b => bW.trans (b.mono bW.size)
  obtain ⟨RR, hRR⟩ : ∃ R, R = llast l := ⟨_, rfl⟩
  rw [← hRR]
  have RN : Hid (¬ LOk l → RR = (0, 0, 9)) := fun k => hRR.trans (if_neg k)
  have RY : Hid (LOk l → RR = (lend l, lterm l (lend l), 0)) := fun k => hRR.trans (if_pos k)
  clear hRR
  have BD : Hid (LOk l → (0 ≤ l.base ∧ l.base ≤ 1099511627776) ∧ (0 ≤ l.bt ∧ l.bt ≤ 1099511627776) ∧ l.es.length ≤ 4096 ∧ l.base + l.es.length ≤ 1099511627776) := fun ok => ok.bd
  have LE : Hid (lend l = l.base + l.es.length) := rfl
  clear h bW D sW D0 D1 D2
  dsimp only [lv] at KC KE KT ⊢
  obtain ⟨D0, D1, D2⟩ := HS.out W (Below.refl _ _)
  rw [hW] at D0 D1 D2 KC
  go_enter Try.func10, Try.ntmps10
  go_wp2_with fail
  refine KC.out.mono ?_
  rintro e w1 ⟨rfl, b1⟩
  rw [← hW] at b1
  have B1 := hide b1
  obtain ⟨E0, E1, E2⟩ := HS.out w1 b1
  clear b1 KC hW D0 D1 D2
  by_cases ok : LOk l
  case neg =>
    have hc := hide (lcheck_no ok)
    have hr := hide (RN.out ok)
    rw [hc.out]
    clear KE KT
    go_wp2
    go_ret3
    exact ⟨by rw [hr.out]; rfl, HE.out _ B1.out⟩
  case pos =>
    have hc := hide (lcheck_ok ok)
    have hr := hide (RY.out ok)
    rw [hc.out]
    have hle : Hid (l.base ≤ lend l ∧ lend l ≤ lend l) := by show _ ∧ _; rw [LE.out]; omega
    replace KE : Hid (∀ U, Below W.heap.size W U → Calls Try.prog 32 #[.agg #[.int .i64 l.base, .int .i64 l.bt, .slice a l.es.length cp]] U fun e w' => e = .returned (.int .i64 (lend l)) ∧ Below U.heap.size U w') := fun U b => KE.out U b ok
    replace KT : Hid (∀ U, Below W.heap.size W U → ∀ i, (l.base ≤ i ∧ i ≤ lend l) → Calls Try.prog 33 #[.agg #[.int .i64 l.base, .int .i64 l.bt, .slice a l.es.length cp], .int .i64 i] U fun e w' => e = .returned (.int .i64 (lterm l i)) ∧ Below U.heap.size U w') := fun U b => KT.out U b ok
    clear RN RY hc BD LE ok HR
    generalize lterm l = T at *
    generalize lend l = E at *
    obtain ⟨base, bt, es⟩ := l
    dsimp only at KE KT HS hle E0 E1 E2
    generalize es.length = n at *
    go_upto_region 3 with fail
    have b0 := B1.out.drew
    clear E0 E1 E2
    refine wp_region_fan (fun w9 => w9.cell? ⟨w.heap.size, 0, none⟩ = some (.int .i64 base) ∧ w9.cell? ⟨w.heap.size, 1, none⟩ = some (.int .i64 bt) ∧ w9.cell? ⟨w.heap.size, 2, none⟩ = some (.slice a n cp)) 6 mixed (by simp) ?_
    generalize w1.drew = c0 at *
    refine fan_take (i := 0) (v := ?_) rfl (by kernel_rfl) (fun _ _ _ _ h => h) (by kernel_rfl) (HS.out _ b0) ?_ ?_
    rotate_left
    · rintro w9 ⟨q0, q1, q2⟩
      go_simp
      try with_reducible rfl
    try simp only [List.getElem_toArray, List.getElem_cons_succ, List.getElem_cons_zero, List.getElem?_toArray, List.getElem?_cons_succ, List.getElem?_cons_zero, Act.put, List.setIfInBounds_toArray, List.set_cons_zero, List.set_cons_succ]
    refine fan_take (i := 2) (v := ?_) rfl (by kernel_rfl) (fun _ _ _ _ h => h) (by kernel_rfl) (HS.out _ b0) ?_ ?_
    rotate_left
    · rintro w9 ⟨q0, q1, q2⟩
      go_simp
      try with_reducible rfl
    try simp only [List.getElem_toArray, List.getElem_cons_succ, List.getElem_cons_zero, List.getElem?_toArray, List.getElem?_cons_succ, List.getElem?_cons_zero, Act.put, List.setIfInBounds_toArray, List.set_cons_zero, List.set_cons_succ]
    refine fan_take (i := 3) (v := ?_) rfl (by kernel_rfl) (fun _ _ _ _ h => h) (by kernel_rfl) (HS.out _ b0) ?_ ?_
    rotate_left
    · rintro w9 ⟨q0, q1, q2⟩
      go_simp
      try with_reducible rfl
    try simp only [List.getElem_toArray, List.getElem_cons_succ, List.getElem_cons_zero, List.getElem?_toArray, List.getElem?_cons_succ, List.getElem?_cons_zero, Act.put, List.setIfInBounds_toArray, List.set_cons_zero, List.set_cons_succ]
    refine fan_one 1 (by kernel_rfl) ?_
    refine fan_step rfl (by kernel_rfl) fun K hK => ?_
    refine wp_call_of 32 _ _ (by rfl) #[.agg #[.int .i64 base, .int .i64 bt, .slice a n cp]] (by simp [Act.eval]) (Try.call32 _ _) (KE.out c0 b0) ?_
    rintro e c1 ⟨rfl, bb⟩
    have b1 := b0.trans (bb.mono b0.size)
    refine ⟨_, rfl, hK _ _ (HS.out _ b1) ?_⟩
    clear hK K bb
    try simp only [List.getElem_toArray, List.getElem_cons_succ, List.getElem_cons_zero, List.getElem?_toArray, List.getElem?_cons_succ, List.getElem?_cons_zero, Act.put, List.setIfInBounds_toArray, List.set_cons_zero, List.set_cons_succ]
    refine fan_one 4 (by kernel_rfl) ?_
    refine fan_step rfl (by kernel_rfl) fun K hK => ?_
    refine wp_call_of 32 _ _ (by rfl) #[.agg #[.int .i64 base, .int .i64 bt, .slice a n cp]] (by simp [Act.eval]) (Try.call32 _ _) (KE.out c1 b1) ?_
    rintro e c2 ⟨rfl, bb⟩
    have b2 := b1.trans (bb.mono b1.size)
    refine ⟨_, rfl, hK _ _ (HS.out _ b2) ?_⟩
    clear hK K bb
    try simp only [List.getElem_toArray, List.getElem_cons_succ, List.getElem_cons_zero, List.getElem?_toArray, List.getElem?_cons_succ, List.getElem?_cons_zero, Act.put, List.setIfInBounds_toArray, List.set_cons_zero, List.set_cons_succ]
    refine fan_one 5 (by kernel_rfl) ?_
    refine fan_step rfl (by kernel_rfl) fun K hK => ?_
    refine wp_call_of 33 _ _ (by rfl) #[.agg #[.int .i64 base, .int .i64 bt, .slice a n cp], .int .i64 E] (by simp [Act.eval]) (Try.call33 _ _) (KT.out c2 b2 E hle.out) ?_
    rintro e c3 ⟨rfl, bb⟩
    have b3 := b2.trans (bb.mono b2.size)
    refine ⟨_, rfl, hK _ _ (HS.out _ b3) ?_⟩
    clear hK K bb
    try simp only [List.getElem_toArray, List.getElem_cons_succ, List.getElem_cons_zero, List.getElem?_toArray, List.getElem?_cons_succ, List.getElem?_cons_zero, Act.put, List.setIfInBounds_toArray, List.set_cons_zero, List.set_cons_succ]
    refine fan_done (by kernel_rfl) ?_
    show wpList _ _ _ _ _ _
    go_wp2
    go_ret3
    exact ⟨by rw [hr.out]; rfl, HE.out _ b3⟩

set_option maxRecDepth 100000 in
set_option maxHeartbeats 8000000 in
theorem rtold15_any (w : World) (l : Lg) (v : Value) (i : Int) (h : RdC w v l.es) : Calls Try.prog 12 #[lv l v, .int .i64 i] w fun e w' => e = .returned (.tuple #[.int .i64 (ltold l i).1, .int .i64 (ltold l i).2]) ∧ Below w.heap.size w w' := by
  obtain ⟨W, hW, D, bW, sW⟩ := boxedN w #[.int .i64 l.base, .int .i64 l.bt, v] 24
  have HR : Hid (∀ U, Below W.heap.size W U → RdC U v l.es) := fun U b => (h.to0 bW).to0 b
  have KC := hide (rcheck15_any W l v (HR.out W (Below.refl _ _)))
  have KE : Hid (∀ U, Below W.heap.size W U → LOk l → Calls Try.prog 32 #[lv l v] U fun e w' => e = .returned (.int .i64 (lend l)) ∧ Below U.heap.size U w') := fun U b ok => rend15_any U l v (HR.out U b) ok
  have KT : Hid (∀ U, Below W.heap.size W U → LOk l → ∀ i, (l.base ≤ i ∧ i ≤ lend l) → Calls Try.prog 33 #[lv l v, .int .i64 i] U fun e w' => e = .returned (.int .i64 (lterm l i)) ∧ Below U.heap.size U w') := fun U b ok i hi => rterm15_any U l v i (HR.out U b) ok hi
  obtain ⟨a, cp, rfl⟩ := h.slice
  obtain ⟨⟨D0, D1, D2⟩, _⟩ := cells3l D
  have HS : Hid (∀ U, Below W.heap.size W U → (U.cell? ⟨w.heap.size, 0, none⟩ = some (.int .i64 l.base) ∧ U.cell? ⟨w.heap.size, 1, none⟩ = some (.int .i64 l.bt) ∧ U.cell? ⟨w.heap.size, 2, none⟩ = some (.slice a l.es.length cp))) := fun U b =>
    ⟨(b.cell (cell_lt D0)).trans D0, (b.cell (cell_lt D1)).trans D1, (b.cell (cell_lt D2)).trans D2⟩
  have HE : Hid (∀ U, Below W.heap.size W U → Below w.heap.size w U) := fun U b => bW.trans (b.mono bW.size)
  obtain ⟨RR, hRR⟩ : ∃ R, R = ltold l i := ⟨_, rfl⟩
  rw [← hRR]
  have RN : Hid (¬ LOk l → RR = (0, 9)) := fun k => hRR.trans (if_neg k)
  have RO : Hid (LOk l → (i < l.base ∨ lend l < i) → RR = (0, 71)) := fun k q => hRR.trans ((if_pos k).trans (if_pos q))
  have RY : Hid (LOk l → ¬ (i < l.base ∨ lend l < i) → RR = (lterm l i, 0)) := fun k q => hRR.trans ((if_pos k).trans (if_neg q))
  clear hRR
  have BD : Hid (LOk l → (0 ≤ l.base ∧ l.base ≤ 1099511627776) ∧ (0 ≤ l.bt ∧ l.bt ≤ 1099511627776) ∧ l.es.length ≤ 4096 ∧ l.base + l.es.length ≤ 1099511627776) := fun ok => ok.bd
  have LE : Hid (lend l = l.base + l.es.length) := rfl
  clear h bW D sW D0 D1 D2
  dsimp only [lv] at KC KE KT ⊢
  obtain ⟨D0, D1, D2⟩ := HS.out W (Below.refl _ _)
  rw [hW] at D0 D1 D2 KC
  go_enter Try.func12, Try.ntmps12
  go_wp2_with fail
  refine KC.out.mono ?_
  rintro e w1 ⟨rfl, b1⟩
  rw [← hW] at b1
  have B1 := hide b1
  obtain ⟨E0, E1, E2⟩ := HS.out w1 b1
  clear b1 KC hW D0 D1 D2
  by_cases ok : LOk l
  case neg =>
    have hc := hide (lcheck_no ok)
    have hr := hide (RN.out ok)
    rw [hc.out]
    clear KE KT
    go_wp2
    go_ret2
    exact ⟨by rw [hr.out]; rfl, HE.out _ B1.out⟩
  case pos =>
    have hc := hide (lcheck_ok ok)
    rw [hc.out]
    replace RO : Hid ((i < l.base ∨ lend l < i) → RR = (0, 71)) := RO.out ok
    replace RY : Hid (¬ (i < l.base ∨ lend l < i) → RR = (lterm l i, 0)) := RY.out ok
    replace KE : Hid (∀ U, Below W.heap.size W U → Calls Try.prog 32 #[.agg #[.int .i64 l.base, .int .i64 l.bt, .slice a l.es.length cp]] U fun e w' => e = .returned (.int .i64 (lend l)) ∧ Below U.heap.size U w') := fun U b => KE.out U b ok
    replace KT : Hid (∀ U, Below W.heap.size W U → ∀ i, (l.base ≤ i ∧ i ≤ lend l) → Calls Try.prog 33 #[.agg #[.int .i64 l.base, .int .i64 l.bt, .slice a l.es.length cp], .int .i64 i] U fun e w' => e = .returned (.int .i64 (lterm l i)) ∧ Below U.heap.size U w') := fun U b => KT.out U b ok
    clear RN hc BD LE ok HR
    generalize lterm l = TT at *
    generalize lend l = E at *
    obtain ⟨base, bt, es⟩ := l
    dsimp only at KE KT HS E0 E1 E2 RO RY
    generalize es.length = n at *
    by_cases g1 : i < base
    · have hr := hide (RO.out (.inl g1))
      go_wp2
      go_ret2
      exact ⟨by rw [hr.out]; rfl, HE.out _ B1.out⟩
    go_wp2_with fail
    refine (KE.out _ B1.out).mono ?_
    rintro e w2 ⟨rfl, b2⟩
    have B2 := hide (B1.out.trans (b2.mono B1.out.size))
    clear b2 E0 E1 E2
    obtain ⟨E0, E1, E2⟩ := HS.out w2 B2.out
    by_cases g2 : E < i
    · have hr := hide (RO.out (.inr g2))
      go_wp2
      go_ret2
      exact ⟨by rw [hr.out]; rfl, HE.out _ B2.out⟩
    have hr := hide (RY.out (by omega))
    have KT2 := hide (KT.out w2 B2.out i ⟨by omega, by omega⟩)
    go_wp2_with fail
    refine KT2.out.mono ?_
    rintro e w3 ⟨rfl, b3⟩
    have B3 := hide (B2.out.trans (b3.mono B2.out.size))
    clear b3 E0 E1 E2
    go_wp2
    go_ret2
    exact ⟨by rw [hr.out]; rfl, HE.out _ B3.out⟩
theorem info_lg15 : (Try.prog.info? 24).map (·.size) = some 3 := by kernel_rfl

set_option maxRecDepth 100000 in
set_option maxHeartbeats 8000000 in
theorem rcomp15_any (w : World) (l : Lg) (v : Value) (i : Int) (h : RdC w v l.es) : Calls Try.prog 18 #[lv l v, .int .i64 i] w fun e w' =>
    ∃ v', e = .returned (.tuple #[lv (lcomp l i).1 v', .int .i64 (lcomp l i).2]) ∧ Own SEntB w.heap.size w' [v'] (lcomp l i).1.es ∧ Below w.heap.size w w' := by
  obtain ⟨W0, hW0, D, bW0, sW0⟩ := boxedN w #[.int .i64 l.base, .int .i64 l.bt, v] 24
  obtain ⟨W, hW, DZ, bW1, sW1⟩ := boxedN W0 #[.int .i64 0, .int .i64 0, .slice none 0 0] 24
  have bW := bW0.trans (bW1.mono bW0.size)
  replace D := (bW1.block w.heap.size (lt_of_block D)).trans D
  have sW : W.heap.size = w.heap.size + 2 := by omega
  rw [sW0] at DZ
  have HR : Hid (∀ U, Below W.heap.size W U → RdC U v l.es) := fun U b => (h.to0 bW).to0 b
  have KC := hide (rcheck15_any W l v (HR.out W (Below.refl _ _)))
  have KE : Hid (∀ U, Below W.heap.size W U → LOk l → Calls Try.prog 32 #[lv l v] U fun e w' => e = .returned (.int .i64 (lend l)) ∧ Below U.heap.size U w') := fun U b ok => rend15_any U l v (HR.out U b) ok
  have KT : Hid (∀ U, Below W.heap.size W U → LOk l → ∀ i, (l.base ≤ i ∧ i ≤ lend l) → Calls Try.prog 33 #[lv l v, .int .i64 i] U fun e w' => e = .returned (.int .i64 (lterm l i)) ∧ Below U.heap.size U w') := fun U b ok i hi => rterm15_any U l v i (HR.out U b) ok hi
  obtain ⟨a, cp, rfl⟩ := h.slice
  obtain ⟨⟨D0, D1, D2⟩, _⟩ := cells3l D
  have HS : Hid (∀ U, Below W.heap.size W U → (U.cell? ⟨w.heap.size, 0, none⟩ = some (.int .i64 l.base) ∧ U.cell? ⟨w.heap.size, 1, none⟩ = some (.int .i64 l.bt) ∧ U.cell? ⟨w.heap.size, 2, none⟩ = some (.slice a l.es.length cp))) := fun U b =>
    ⟨(b.cell (cell_lt D0)).trans D0, (b.cell (cell_lt D1)).trans D1, (b.cell (cell_lt D2)).trans D2⟩
  have HZ : Hid (∀ U, Below W.heap.size W U → U.heap[w.heap.size + 1]? = some (.cells #[.int .i64 0, .int .i64 0, .slice none 0 0] 24 (0, 0))) := fun U b => (b.block _ (lt_of_block DZ)).trans DZ
  have HF : Hid (∀ U x y z, Below W.heap.size W U → ((((U.setCell ⟨w.heap.size + 1, 0, none⟩ x).setCell ⟨w.heap.size + 1, 1, none⟩ y).setCell ⟨w.heap.size + 1, 2, none⟩ z).heap[w.heap.size + 1]? = some (.cells #[x, y, z] 24 (0, 0)) ∧
      Below w.heap.size w (((U.setCell ⟨w.heap.size + 1, 0, none⟩ x).setCell ⟨w.heap.size + 1, 1, none⟩ y).setCell ⟨w.heap.size + 1, 2, none⟩ z))) := fun U x y z b =>
    ⟨heap_set3l (HZ.out U b) x y z, below_set3l (bW.trans (b.mono bW.size)) (by omega) x y z⟩
  obtain ⟨RR, hRR⟩ : ∃ R, R = lcomp l i := ⟨_, rfl⟩
  rw [← hRR]
  have RN : Hid (¬ LOk l → RR = (lnil, 9)) := fun k => hRR.trans (if_neg k)
  have RO : Hid (LOk l → (i < l.base ∨ lend l < i) → RR = (lnil, 71)) := fun k q => hRR.trans ((if_pos k).trans (if_pos q))
  have RY : Hid (LOk l → ¬ (i < l.base ∨ lend l < i) → RR = (⟨i, lterm l i, l.es.drop (i - l.base).toNat⟩, 0)) := fun k q => hRR.trans ((if_pos k).trans (if_neg q))
  have HO : Hid (LOk l → ∀ U k A c, Below W.heap.size W U → k ≤ l.es.length → (if cp = k then a else Option.map (fun x => x.add (k * 2)) a) = A → c = cp - k → Calls Try.prog 36 #[.slice A (l.es.length - k) c] U fun e w' => ∃ v', e = .returned v' ∧ Own SEntB U.heap.size w' [v'] (l.es.drop k) ∧ Below U.heap.size U w') := fun ok U k A c b hk hA hc => by
    obtain ⟨A', hA', hr⟩ := rdS_cut15 (HR.out U b) hk (Nat.le_refl _)
    obtain rfl : A' = A := hA'.symm.trans hA
    subst hc
    rw [List.take_of_length_le (Nat.le_refl _)] at hr
    refine rown15_any U _ _ hr ?_ fun x hx => ?_
    · have := ok.bd.2.2.1
      rw [List.length_drop]; omega
    · have := ok.len x (List.mem_of_mem_drop hx)
      omega
  clear hRR
  have BD : Hid (LOk l → (0 ≤ l.base ∧ l.base ≤ 1099511627776) ∧ (0 ≤ l.bt ∧ l.bt ≤ 1099511627776) ∧ l.es.length ≤ 4096 ∧ l.base + l.es.length ≤ 1099511627776) := fun ok => ok.bd
  have LE : Hid (lend l = l.base + l.es.length) := rfl
  have hWW : Hid (W = (w.alloc (.cells #[.int .i64 l.base, .int .i64 l.bt, .slice a l.es.length cp] 24)).alloc (.cells #[.int .i64 0, .int .i64 0, .slice none 0 0] 24)) := by rw [hW0] at hW; exact hW
  have DZ0 := HZ.out W (Below.refl _ _)
  clear h bW D D0 D1 D2 bW0 bW1 sW0 DZ sW1 hW hW0
  dsimp only [lv] at KC KE KT ⊢
  obtain ⟨D0, D1, D2⟩ := HS.out W (Below.refl _ _)
  rw [hWW.out] at D0 D1 D2 KC
  go_enter Try.func18, Try.ntmps18
  go_wp2_with fail
  refine KC.out.mono ?_
  rintro e w1 ⟨rfl, b1⟩
  rw [← hWW.out] at b1
  have B1 := hide b1
  obtain ⟨E0, E1, E2⟩ := HS.out w1 b1
  clear b1 KC hWW D0 D1 D2
  by_cases ok : LOk l
  case neg =>
    have hc := hide (lcheck_no ok)
    have hr := hide (RN.out ok)
    rw [hc.out]
    clear KE KT HO
    obtain ⟨⟨Q0, Q1, Q2⟩, Rf⟩ := cells3l (HZ.out _ B1.out)
    have Rf0 := Rf 0
    have Rf1 := Rf 1
    have Rf2 := Rf 2
    clear Rf
    go_wp2
    refine retNT rfl rfl (w.heap.size + 1) rfl _ _ (0, 0) (HF.out _ _ _ _ B1.out).1 _ Try.underlying24 rfl info_lg15 (.int .i64 9) rfl ?_
    rw [hr.out]
    exact ⟨.slice none 0 0, rfl, Own.nil _ _ _ _, (HF.out _ _ _ _ B1.out).2⟩
  case pos =>
    have hc := hide (lcheck_ok ok)
    rw [hc.out]
    obtain ⟨k1, k2, k3, k4⟩ := BD.out ok
    have hle : Hid (lend l = l.base + l.es.length) := LE.out
    replace RO : Hid ((i < l.base ∨ lend l < i) → RR = (lnil, 71)) := RO.out ok
    replace RY : Hid (¬ (i < l.base ∨ lend l < i) → RR = (⟨i, lterm l i, l.es.drop (i - l.base).toNat⟩, 0)) := RY.out ok
    replace HO := hide (HO.out ok)
    replace KE : Hid (∀ U, Below W.heap.size W U → Calls Try.prog 32 #[.agg #[.int .i64 l.base, .int .i64 l.bt, .slice a l.es.length cp]] U fun e w' => e = .returned (.int .i64 (lend l)) ∧ Below U.heap.size U w') := fun U b => KE.out U b ok
    replace KT : Hid (∀ U, Below W.heap.size W U → ∀ i, (l.base ≤ i ∧ i ≤ lend l) → Calls Try.prog 33 #[.agg #[.int .i64 l.base, .int .i64 l.bt, .slice a l.es.length cp], .int .i64 i] U fun e w' => e = .returned (.int .i64 (lterm l i)) ∧ Below U.heap.size U w') := fun U b => KT.out U b ok
    clear RN hc BD LE ok HR k2
    generalize lterm l = TT at *
    generalize lend l = E at *
    obtain ⟨base, bt, es⟩ := l
    dsimp only at KE KT HS E0 E1 E2 RO RY HO k1 k3 k4 hle
    generalize hn : es.length = n at *
    replace hn := hide hn
    by_cases g1 : i < base
    · have hr := hide (RO.out (.inl g1))
      obtain ⟨⟨Q0, Q1, Q2⟩, Rf⟩ := cells3l (HZ.out _ B1.out)
      have Rf0 := Rf 0
      have Rf1 := Rf 1
      have Rf2 := Rf 2
      clear Rf
      go_wp2
      refine retNT rfl rfl (w.heap.size + 1) rfl _ _ (0, 0) (HF.out _ _ _ _ B1.out).1 _ Try.underlying24 rfl info_lg15 (.int .i64 71) rfl ?_
      rw [hr.out]
      exact ⟨.slice none 0 0, rfl, Own.nil _ _ _ _, (HF.out _ _ _ _ B1.out).2⟩
    go_wp2_with fail
    refine (KE.out _ B1.out).mono ?_
    rintro e w2 ⟨rfl, b2⟩
    have B2 := hide (B1.out.trans (b2.mono B1.out.size))
    clear b2 E0 E1 E2
    obtain ⟨E0, E1, E2⟩ := HS.out w2 B2.out
    by_cases g2 : E < i
    · have hr := hide (RO.out (.inr g2))
      obtain ⟨⟨Q0, Q1, Q2⟩, Rf⟩ := cells3l (HZ.out _ B2.out)
      have Rf0 := Rf 0
      have Rf1 := Rf 1
      have Rf2 := Rf 2
      clear Rf
      go_wp2
      refine retNT rfl rfl (w.heap.size + 1) rfl _ _ (0, 0) (HF.out _ _ _ _ B2.out).1 _ Try.underlying24 rfl info_lg15 (.int .i64 71) rfl ?_
      rw [hr.out]
      exact ⟨.slice none 0 0, rfl, Own.nil _ _ _ _, (HF.out _ _ _ _ B2.out).2⟩
    have hr := hide (RY.out (by omega))
    have hE := hle.out
    have hle2 : Hid (base ≤ i ∧ i ≤ E) := ⟨by omega, by omega⟩
    obtain ⟨k, hk⟩ : ∃ k : Nat, i - base = k := ⟨(i - base).toNat, by omega⟩
    have hkn : k ≤ n := by omega
    rw [show (i - base).toNat = k by omega] at hr
    have hwk : IntKind.i64.wrap (k : Int) = (k : Int) := IntWalk.i64_in _ (by omega)
    have hk1 : (0 : Int) ≤ (k : Int) := by omega
    have hk2 : (k : Int) ≤ (n : Int) := by omega
    go_upto_region 5 with fail
    have b0 := B2.out.drew
    clear E0 E1 E2
    clear hle
    refine wp_region_fan (fun w9 => (w9.cell? ⟨w.heap.size, 0, none⟩ = some (.int .i64 base) ∧ w9.cell? ⟨w.heap.size, 1, none⟩ = some (.int .i64 bt) ∧ w9.cell? ⟨w.heap.size, 2, none⟩ = some (.slice a n cp))) 12 mixed (by simp) ?_
    generalize w2.drew = c0 at *
    refine fan_take (i := 0) (v := ?_) rfl (by kernel_rfl) (fun _ _ _ _ h => h) (by kernel_rfl) (HS.out _ b0) ?_ ?_
    rotate_left
    · rintro w9 ⟨q0, q1, q2⟩
      go_simp
      try with_reducible rfl
    try simp only [List.getElem_toArray, List.getElem_cons_succ, List.getElem_cons_zero, List.getElem?_toArray, List.getElem?_cons_succ, List.getElem?_cons_zero, Act.put, List.setIfInBounds_toArray, List.set_cons_zero, List.set_cons_succ]
    refine fan_take (i := 1) (v := ?_) rfl (by kernel_rfl) (fun _ _ _ _ h => h) (by kernel_rfl) (HS.out _ b0) ?_ ?_
    rotate_left
    · rintro w9 ⟨q0, q1, q2⟩
      go_simp
      try with_reducible rfl
    try simp only [List.getElem_toArray, List.getElem_cons_succ, List.getElem_cons_zero, List.getElem?_toArray, List.getElem?_cons_succ, List.getElem?_cons_zero, Act.put, List.setIfInBounds_toArray, List.set_cons_zero, List.set_cons_succ]
    refine fan_take (i := 2) (v := ?_) rfl (by kernel_rfl) (fun _ _ _ _ h => h) (by kernel_rfl) (HS.out _ b0) ?_ ?_
    rotate_left
    · rintro w9 ⟨q0, q1, q2⟩
      go_simp
      try with_reducible rfl
    try simp only [List.getElem_toArray, List.getElem_cons_succ, List.getElem_cons_zero, List.getElem?_toArray, List.getElem?_cons_succ, List.getElem?_cons_zero, Act.put, List.setIfInBounds_toArray, List.set_cons_zero, List.set_cons_succ]
    refine fan_take (i := 4) (v := ?_) rfl (by kernel_rfl) (fun _ _ _ _ h => h) (by kernel_rfl) (HS.out _ b0) ?_ ?_
    rotate_left
    · rintro w9 ⟨q0, q1, q2⟩
      go_simp
      try with_reducible rfl
    try simp only [List.getElem_toArray, List.getElem_cons_succ, List.getElem_cons_zero, List.getElem?_toArray, List.getElem?_cons_succ, List.getElem?_cons_zero, Act.put, List.setIfInBounds_toArray, List.set_cons_zero, List.set_cons_succ]
    refine fan_take (i := 5) (v := ?_) rfl (by kernel_rfl) (fun _ _ _ _ h => h) (by kernel_rfl) (HS.out _ b0) ?_ ?_
    rotate_left
    · rintro w9 ⟨q0, q1, q2⟩
      go_simp
      try with_reducible rfl
    try simp only [List.getElem_toArray, List.getElem_cons_succ, List.getElem_cons_zero, List.getElem?_toArray, List.getElem?_cons_succ, List.getElem?_cons_zero, Act.put, List.setIfInBounds_toArray, List.set_cons_zero, List.set_cons_succ]
    refine fan_take (i := 6) (v := ?_) rfl (by kernel_rfl) (fun _ _ _ _ h => h) (by kernel_rfl) (HS.out _ b0) ?_ ?_
    rotate_left
    · rintro w9 ⟨q0, q1, q2⟩
      go_simp
      try with_reducible rfl
    try simp only [List.getElem_toArray, List.getElem_cons_succ, List.getElem_cons_zero, List.getElem?_toArray, List.getElem?_cons_succ, List.getElem?_cons_zero, Act.put, List.setIfInBounds_toArray, List.set_cons_zero, List.set_cons_succ]
    refine fan_take (i := 7) (v := ?_) rfl (by kernel_rfl) (fun _ _ _ _ h => h) (by kernel_rfl) (HS.out _ b0) ?_ ?_
    rotate_left
    · rintro w9 ⟨q0, q1, q2⟩
      go_simp
      try with_reducible rfl
    try simp only [List.getElem_toArray, List.getElem_cons_succ, List.getElem_cons_zero, List.getElem?_toArray, List.getElem?_cons_succ, List.getElem?_cons_zero, Act.put, List.setIfInBounds_toArray, List.set_cons_zero, List.set_cons_succ]
    refine fan_take (i := 8) (v := ?_) rfl (by kernel_rfl) (fun _ _ _ _ h => h) (by kernel_rfl) (HS.out _ b0) ?_ ?_
    rotate_left
    · rintro w9 ⟨q0, q1, q2⟩
      go_simp
      try with_reducible rfl
    try simp only [List.getElem_toArray, List.getElem_cons_succ, List.getElem_cons_zero, List.getElem?_toArray, List.getElem?_cons_succ, List.getElem?_cons_zero, Act.put, List.setIfInBounds_toArray, List.set_cons_zero, List.set_cons_succ]
    refine fan_take (i := 9) (v := ?_) rfl (by kernel_rfl) (fun _ _ _ _ h => h) (by kernel_rfl) (HS.out _ b0) ?_ ?_
    rotate_left
    · rintro w9 ⟨q0, q1, q2⟩
      go_simp
      try with_reducible rfl
    try simp only [List.getElem_toArray, List.getElem_cons_succ, List.getElem_cons_zero, List.getElem?_toArray, List.getElem?_cons_succ, List.getElem?_cons_zero, Act.put, List.setIfInBounds_toArray, List.set_cons_zero, List.set_cons_succ]
    refine fan_take (i := 10) (v := ?_) rfl (by kernel_rfl) (fun _ _ _ _ h => h) (by kernel_rfl) (HS.out _ b0) ?_ ?_
    rotate_left
    · rintro w9 ⟨q0, q1, q2⟩
      go_simp
      try with_reducible rfl
    try simp only [List.getElem_toArray, List.getElem_cons_succ, List.getElem_cons_zero, List.getElem?_toArray, List.getElem?_cons_succ, List.getElem?_cons_zero, Act.put, List.setIfInBounds_toArray, List.set_cons_zero, List.set_cons_succ]
    refine fan_one 3 (by kernel_rfl) ?_
    refine fan_step rfl (by kernel_rfl) fun K hK => ?_
    refine wp_call_of 33 _ _ (by rfl) #[.agg #[.int .i64 base, .int .i64 bt, .slice a n cp], .int .i64 i] (by simp [Act.eval]) (Try.call33 _ _) (KT.out c0 b0 i hle2.out) ?_
    rintro e c1 ⟨rfl, bb⟩
    have b1 := b0.trans (bb.mono b0.size)
    refine ⟨_, rfl, hK _ _ (HS.out _ b1) ?_⟩
    clear hK K bb
    try simp only [List.getElem_toArray, List.getElem_cons_succ, List.getElem_cons_zero, List.getElem?_toArray, List.getElem?_cons_succ, List.getElem?_cons_zero, Act.put, List.setIfInBounds_toArray, List.set_cons_zero, List.set_cons_succ]
    refine fan_one 11 (by kernel_rfl) ?_
    refine fan_step rfl (by kernel_rfl) fun K hK => ?_
    refine wp_call_of 36 _ _ (by rfl) #[.slice (if cp = k then a else Option.map (fun x => x.add (k * 2)) a) (n - k) (cp - k)] (by simp [Act.eval]) (Try.call36 _ _) (HO.out c1 k _ _ b1 hkn rfl rfl) ?_
    rintro e c2 ⟨v8, rfl, o8, bb⟩
    have b2 := b1.trans (bb.mono b1.size)
    refine ⟨_, rfl, hK _ _ (HS.out _ b2) ?_⟩
    clear hK K bb
    try simp only [List.getElem_toArray, List.getElem_cons_succ, List.getElem_cons_zero, List.getElem?_toArray, List.getElem?_cons_succ, List.getElem?_cons_zero, Act.put, List.setIfInBounds_toArray, List.set_cons_zero, List.set_cons_succ]
    refine fan_done (by kernel_rfl) ?_
    show wpList _ _ _ _ _ _
    obtain ⟨⟨Q0, Q1, Q2⟩, Rf⟩ := cells3l (HZ.out _ b2)
    have Rf0 := Rf 0
    have Rf1 := Rf 1
    have Rf2 := Rf 2
    clear Rf
    have OO := hide (own_set3l (o8.mono (show w.heap.size + 2 ≤ c1.heap.size from by have := b1.size; omega)) (g := w.heap.size + 1) (by omega) (.int .i64 i) (.int .i64 (TT i)) v8)
    obtain ⟨va, vc, rfl⟩ := o8.rdS.slice
    generalize (List.drop k es).length = VL at *
    clear o8
    go_wp2
    all_goals
      refine retNT rfl rfl (w.heap.size + 1) rfl _ _ (0, 0) (HF.out _ _ _ _ b2).1 _ Try.underlying24 rfl info_lg15 (.int .i64 0) rfl ?_
      rw [hr.out]
      exact ⟨_, rfl, OO.out.mono (by omega), (HF.out _ _ _ _ b2).2⟩
end Go.Proofs.Ytfalhboahdccmaa
