/-
  The program's Check of logs. (Written by gen15p.py.)
-/
import Derived.Test.YtfalhboahdccmaaRpB
import Derived.Test.YtfalhboahdccmaaRpD
namespace Go.Proofs.Ytfalhboahdccmaa
open Go.RowKit
set_option linter.unusedVariables false
set_option linter.unusedSimpArgs false

set_option maxRecDepth 100000 in
set_option maxHeartbeats 8000000 in
theorem pcheck15_any (w : World) (l : Lg) (v : Value) (h : RdC w v l.es) (hfit : l.es.length * 32 ≤ 140737488351232) : Calls Try.prog 22 #[lv l v] w fun e w' => e = .returned (.int .i64 (lcheck l)) ∧ Below w.heap.size w w' := by
  obtain ⟨W, hW, D, bW, sW⟩ := boxedN w #[.int .i64 l.base, .int .i64 l.bt, v] 28
  have HR : Hid (∀ U, Below W.heap.size W U → RdC U v l.es) := fun U b => (h.to0 bW).to0 b
  have KB := hide (pbm15_any W l v (HR.out _ (Below.refl _ _)))
  obtain ⟨a, cp, rfl⟩ := h.slice
  obtain ⟨⟨D0, D1, D2⟩, _⟩ := cells3l D
  have HL : Hid (∀ U, Below W.heap.size W U → (U.cell? ⟨w.heap.size, 0, none⟩ = some (.int .i64 l.base) ∧ U.cell? ⟨w.heap.size, 1, none⟩ = some (.int .i64 l.bt) ∧ U.cell? ⟨w.heap.size, 2, none⟩ = some (.slice a l.es.length cp))) := fun U b =>
    ⟨(b.cell (cell_lt D0)).trans D0, (b.cell (cell_lt D1)).trans D1, (b.cell (cell_lt D2)).trans D2⟩
  have HW0 : Hid (∀ U, Below W.heap.size W U → Below w.heap.size w U) := fun U b => bW.trans (b.mono bW.size)
  have BN : Hid (¬ lbm l → lcheck l = 9) := lbm_no
  have PZ : Hid (lbm l → LPre l 0 ∧ LB l) := fun q => ⟨lpre_zero q, (lbm_bd q).1, by omega⟩
  have PS : Hid (∀ k y, l.es[k]? = some y → lref (ltk l k) y = 0 → LPre l k → LPre l (k + 1)) := fun k y hy h1 h2 => (lpre_step hy).2 ⟨h2, h1⟩
  have PN : Hid (∀ k y, l.es[k]? = some y → lref (ltk l k) y ≠ 0 → lcheck l = 9) := fun k y hy h1 => lpre_no hy h1
  have PE : Hid (LPre l l.es.length → lcheck l = 0) := fun q => lcheck_ok (lpre_all.1 q)
  have KU0 : Hid (LB l → ∀ U, Below W.heap.size W U → ∀ k, k ≤ l.es.length → Calls Try.prog 43 #[lv l (.slice a l.es.length cp), .int .i64 k] U fun e w' => e = .returned (lv (ltk l k) (.slice a k k)) ∧ Below U.heap.size U w') := fun _ U b k hk => pcut15_any U l a cp k (HR.out U b) hk
  have KF0 : Hid (LB l → ∀ U, Below W.heap.size W U → ∀ k y dv, k ≤ l.es.length → Rd U dv y.2 → Calls Try.prog 42 #[lv (ltk l k) (.slice a k k), ev y dv] U fun e w' => e = .returned (.int .i64 (lref (ltk l k) y)) ∧ Below U.heap.size U w') := fun lb U b k y dv hk hd => pref15_any U (ltk l k) _ y dv (rd_cut15 (HR.out U b) hk) (lb.tk k) hd
  clear h bW D D0 D1 D2 sW
  dsimp only [lv, ltk, ev] at KB KU0 ⊢
  obtain ⟨D0, D1, D2⟩ := HL.out W (Below.refl _ _)
  rw [hW] at D0 D1 D2 KB
  go_enter Try.func22, Try.ntmps22
  go_wp2_with fail
  refine KB.out.mono ?_
  rintro e w1 ⟨rfl, b1⟩
  rw [← hW] at b1
  have B1 := hide b1
  clear b1 KB hW D0 D1 D2
  by_cases ok : lbm l
  case neg =>
    have hE := hide (BN.out ok)
    have hd : Hid (decide (lbm l) = false) := decide_eq_false ok
    rw [hd.out]
    go_wp2
    go_ret
    exact ⟨ret_int hE.out.symm, HW0.out _ B1.out⟩
  have hd : Hid (decide (lbm l) = true) := decide_eq_true ok
  rw [hd.out]
  obtain ⟨PZ1, lb⟩ := PZ.out ok
  replace PZ := hide PZ1
  replace KU0 := hide (KU0.out lb)
  replace KF0 := hide (KF0.out lb)
  obtain ⟨D0, D1, D2⟩ := HL.out _ B1.out
  clear hd ok lb BN PZ1
  obtain ⟨base, bt, es⟩ := l
  generalize hn : es.length = n at *
  replace hn := hide hn
  dsimp only at HL KU0 KF0 PS PN PE HR hfit D0 D1 D2 hn
  generalize hLC : lcheck ⟨base, bt, es⟩ = LC at *
  replace hLC := hide hLC
  go_wp2
  go_loopw [11] (fun i wr => ∃ k : Nat, k ≤ n ∧ i = .int .i64 k ∧ Hid (LPre ⟨base, bt, es⟩ k ∧ Below W.heap.size W wr)) (fun i _ => n - (intOf i).toNat)
  case atStart => exact ⟨0, Nat.zero_le _, rfl, hide ⟨PZ.out, B1.out⟩⟩
  case round =>
    obtain ⟨k, hk, rfl, hI⟩ := hrel
    clear D0 D1 D2
    by_cases hlt : k < n
    · have hq : (k : Int) < (n : Int) := by omega
      obtain ⟨y, hy⟩ := some_el15 es (k := k) (by rw [hn.out]; exact hlt)
      obtain ⟨bl, ol, u, rfl, x0, x1, hr⟩ := (HR.out _ hI.out.2).wrt hy
      obtain ⟨au, cu, rfl⟩ := hr.slice
      obtain ⟨X, hX, X0, bX, sX⟩ := boxedN wr #[.int .i64 y.1, .slice au y.2.length cu] 27
      have BX := hI.out.2.trans (bX.mono hI.out.2.size)
      have HX : Hid (∀ U, Below X.heap.size X U → Below W.heap.size W U) := fun U b => BX.trans (b.mono BX.size)
      have KU : Hid (∀ U, Below X.heap.size X U → Calls Try.prog 43 #[.agg #[.int .i64 base, .int .i64 bt, .slice (some ⟨bl, ol, none⟩) n cp], .int .i64 (k : Int)] U fun e w' => e = .returned (.agg #[.int .i64 base, .int .i64 bt, .slice (some ⟨bl, ol, none⟩) k k]) ∧ Below U.heap.size U w') := fun U b => KU0.out U (HX.out U b) k hk
      have KF : Hid (∀ U, Below X.heap.size X U → Calls Try.prog 42 #[.agg #[.int .i64 base, .int .i64 bt, .slice (some ⟨bl, ol, none⟩) k k], .agg #[.int .i64 y.1, .slice au y.2.length cu]] U fun e w' => e = .returned (.int .i64 (lref (ltk ⟨base, bt, es⟩ k) y)) ∧ Below U.heap.size U w') := fun U b =>
        KF0.out U (HX.out U b) k y _ hk (hr.to ((bX.trans (b.mono bX.size))))
      have NO : Hid (lref (ltk ⟨base, bt, es⟩ k) y ≠ 0 → LC = 9) := fun q => PN.out k y hy q
      have YES : Hid (lref (ltk ⟨base, bt, es⟩ k) y = 0 → LPre ⟨base, bt, es⟩ (k + 1)) := fun q => PS.out k y hy q hI.out.1
      obtain ⟨⟨p0, p1⟩, _⟩ := cells2l X0
      obtain ⟨D0, D1, D2⟩ := HL.out _ hI.out.2
      have HS : Hid (∀ U, Below X.heap.size X U → ((U.cell? ⟨w.heap.size, 0, none⟩ = some (.int .i64 base) ∧ U.cell? ⟨w.heap.size, 1, none⟩ = some (.int .i64 bt) ∧ U.cell? ⟨w.heap.size, 2, none⟩ = some (.slice (some ⟨bl, ol, none⟩) n cp)) ∧
          (U.cell? ⟨wr.heap.size, 0, none⟩ = some (.int .i64 y.1) ∧ U.cell? ⟨wr.heap.size, 1, none⟩ = some (.slice au y.2.length cu)))) := fun U b =>
        ⟨HL.out U (HX.out U b), (b.cell (cell_lt p0)).trans p0, (b.cell (cell_lt p1)).trans p1⟩
      have HW : Hid (∀ U, Below X.heap.size X U → Below w.heap.size w U) := fun U b => HW0.out U (HX.out U b)
      clear hr hy bX sX X0 BX KU0 KF0 PS PN PE HW0 hI
      generalize lref (ltk ⟨base, bt, es⟩ k) y = F at *
      generalize y.1 = t at *
      generalize y.2.length = m at *
      rw [hX] at p0 p1
      go_upto_region 6 with fail
      rw [← hX]
      replace hX := hide hX
      clear p0 p1 x0 x1 D0 D1 D2
      have b0 := (Below.refl X.heap.size X).drew
      refine wp_region_fan (fun w9 => (w9.cell? ⟨w.heap.size, 0, none⟩ = some (.int .i64 base) ∧ w9.cell? ⟨w.heap.size, 1, none⟩ = some (.int .i64 bt) ∧ w9.cell? ⟨w.heap.size, 2, none⟩ = some (.slice (some ⟨bl, ol, none⟩) n cp)) ∧ (w9.cell? ⟨wr.heap.size, 0, none⟩ = some (.int .i64 t) ∧ w9.cell? ⟨wr.heap.size, 1, none⟩ = some (.slice au m cu))) 5 mixed (by simp) ?_
      generalize X.drew = c0 at *
      refine fan_take (i := 0) (v := ?_) rfl (by kernel_rfl) (fun _ _ _ _ h => h) (by kernel_rfl) (HS.out _ b0) ?_ ?_
      rotate_left
      · rintro w9 ⟨⟨q0, q1, q2⟩, p0, p1⟩
        go_simp
        try with_reducible rfl
      try simp only [List.getElem_toArray, List.getElem_cons_succ, List.getElem_cons_zero, List.getElem?_toArray, List.getElem?_cons_succ, List.getElem?_cons_zero, Act.put, List.setIfInBounds_toArray, List.set_cons_zero, List.set_cons_succ]
      refine fan_take (i := 1) (v := ?_) rfl (by kernel_rfl) (fun _ _ _ _ h => h) (by kernel_rfl) (HS.out _ b0) ?_ ?_
      rotate_left
      · rintro w9 ⟨⟨q0, q1, q2⟩, p0, p1⟩
        go_simp
        try with_reducible rfl
      try simp only [List.getElem_toArray, List.getElem_cons_succ, List.getElem_cons_zero, List.getElem?_toArray, List.getElem?_cons_succ, List.getElem?_cons_zero, Act.put, List.setIfInBounds_toArray, List.set_cons_zero, List.set_cons_succ]
      refine fan_take (i := 3) (v := ?_) rfl (by kernel_rfl) (fun _ _ _ _ h => h) (by kernel_rfl) (HS.out _ b0) ?_ ?_
      rotate_left
      · rintro w9 ⟨⟨q0, q1, q2⟩, p0, p1⟩
        go_simp
        try with_reducible rfl
      try simp only [List.getElem_toArray, List.getElem_cons_succ, List.getElem_cons_zero, List.getElem?_toArray, List.getElem?_cons_succ, List.getElem?_cons_zero, Act.put, List.setIfInBounds_toArray, List.set_cons_zero, List.set_cons_succ]
      refine fan_one 2 (by kernel_rfl) ?_
      refine fan_step rfl (by kernel_rfl) fun K hK => ?_
      refine wp_call_of 43 _ _ (by rfl) #[.agg #[.int .i64 base, .int .i64 bt, .slice (some ⟨bl, ol, none⟩) n cp], .int .i64 (k : Int)] (by simp [Act.eval]) (Try.call43 _ _) (KU.out c0 b0) ?_
      rintro e c1 ⟨rfl, bb⟩
      have b1 := b0.trans (bb.mono b0.size)
      refine ⟨_, rfl, hK _ _ (HS.out _ b1) ?_⟩
      clear hK K bb
      try simp only [List.getElem_toArray, List.getElem_cons_succ, List.getElem_cons_zero, List.getElem?_toArray, List.getElem?_cons_succ, List.getElem?_cons_zero, Act.put, List.setIfInBounds_toArray, List.set_cons_zero, List.set_cons_succ]
      refine fan_one 4 (by kernel_rfl) ?_
      refine fan_step rfl (by kernel_rfl) fun K hK => ?_
      refine wp_call_of 42 _ _ (by rfl) #[.agg #[.int .i64 base, .int .i64 bt, .slice (some ⟨bl, ol, none⟩) k k], .agg #[.int .i64 t, .slice au m cu]] (by simp [Act.eval]) (Try.call42 _ _) (KF.out c1 b1) ?_
      rintro e c2 ⟨rfl, bb⟩
      have b2 := b1.trans (bb.mono b1.size)
      refine ⟨_, rfl, hK _ _ (HS.out _ b2) ?_⟩
      clear hK K bb
      try simp only [List.getElem_toArray, List.getElem_cons_succ, List.getElem_cons_zero, List.getElem?_toArray, List.getElem?_cons_succ, List.getElem?_cons_zero, Act.put, List.setIfInBounds_toArray, List.set_cons_zero, List.set_cons_succ]
      refine fan_done (by kernel_rfl) ?_
      show wpList _ _ _ _ _ _
      have B2 := hide b2
      clear b0 b1 b2
      by_cases g : F = 0
      case neg =>
        have hE := hide (NO.out g)
        have g' : (F != 0) = true := by simpa using g
        replace g := hide g
        go_wp2
        go_ret
        exact ⟨ret_int (hLC.out.trans hE.out).symm, HW.out _ B2.out⟩
      have hN := hide (YES.out g)
      subst g
      go_wp2
      go_roundw
      case rel => exact ⟨k + 1, by omega, by go_num, hide ⟨hN.out, HX.out _ B2.out⟩⟩
      case measure => simp [intOf]; omega
    · have hq : ¬ (k : Int) < (n : Int) := by omega
      obtain rfl : k = n := by omega
      have hE := hide (PE.out hI.out.1)
      go_wp2
      go_ret
      exact ⟨ret_int (hLC.out.trans hE.out).symm, HW0.out _ hI.out.2⟩
end Go.Proofs.Ytfalhboahdccmaa
