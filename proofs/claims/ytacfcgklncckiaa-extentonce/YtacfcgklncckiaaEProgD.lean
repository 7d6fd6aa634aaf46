/-
  The program's Free of extents.
-/
import Derived.Test.YtacfcgklncckiaaEProgC
namespace Go.Proofs.Ytacfcgklncckiaa
open Go.RowKit
set_option linter.unusedVariables false

theorem efree_no {m : EMap} {x : Ext} (h : easked m x ≠ 0) : efree m x = ((0, []), easked m x) := by unfold efree; rw [if_pos h]
theorem efree_hit {m : EMap} {x : Ext} (h : easked m x = 0) (hi : eIdx (fun a b => decide (a < x.1 + x.2) && decide (x.1 < b)) m.2 < m.2.length) : efree m x = ((0, []), 52) := by
  obtain ⟨hok, h1, h2, h3⟩ := easked_ok h
  obtain ⟨y, hy, hp, hym⟩ := eIdx_lt hi
  simp at hp
  unfold efree
  rw [if_neg (fun k => k h), eLay_none h1 m.2 [] false x (Int.le_refl _) (Int.le_refl _) (fun z hz => (eRow_mem hok.2.2 z hz).1) ⟨y, hym, hp.1, hp.2⟩]
theorem efree_good {m : EMap} {x : Ext} (h : easked m x = 0) (hi : ¬ eIdx (fun a b => decide (a < x.1 + x.2) && decide (x.1 < b)) m.2 < m.2.length) :
    efree m x = ((m.1, m.2.take (eIdx (fun _ y => decide (x.1 ≤ y)) m.2) ++ eSpans [eJoin (x.1, x.1 + x.2) ((m.2.take (eIdx (fun z _ => decide (x.1 + x.2 < z)) m.2)).drop (eIdx (fun _ y => decide (x.1 ≤ y)) m.2))] ++ m.2.drop (eIdx (fun z _ => decide (x.1 + x.2 < z)) m.2)), 0) := by
  obtain ⟨hok, h1, h2, h3⟩ := easked_ok h
  have hno := eIdx_eq hi
  unfold efree
  rw [if_neg (fun k => k h), eLay_with m.2 [] x _ hok.2.2 h1 (fun y hy => by have := hno y hy; simp at this; omega), eSpans_one, List.nil_append]

set_option maxRecDepth 100000 in
set_option maxHeartbeats 2000000 in
theorem pfree_any (w : World) (fv : Value) (m : EMap) (x : Ext) (h : RdE w fv m.2) (hin : eIn m.2) (hx : x.1 ≤ 9223372036854775807) :
    Calls Try.prog 14 #[.agg #[.int .i64 m.1, fv], .agg #[.int .i64 x.1, .int .i64 x.2]] w fun e w' => ∃ fv', e = .returned (.tuple #[.agg #[.int .i64 (efree m x).1.1, fv'], .int .i64 (efree m x).2]) ∧ OwnE w.heap.size w' fv' (efree m x).1.2 ∧ Below w.heap.size w w' := by
  obtain ⟨a, c, rfl⟩ := h.slice
  obtain ⟨U, hU, U0, bU, sU⟩ := boxed2b w (.int .i64 m.1) (.slice a m.2.length c) 27
  obtain ⟨V, hV, V0, bV, sV⟩ := boxed2b U (.int .i64 x.1) (.int .i64 x.2) 26
  obtain ⟨W, hW, W0, bW, sW⟩ := boxed2b V (.int .i64 0) (.slice none 0 0) 27
  have cV := bU.trans (bV.mono bU.size)
  have cW := cV.trans (bW.mono cV.size)
  rw [sU] at V0
  rw [sV, sU] at W0
  replace U0 := (bW.block w.heap.size (by omega)).trans ((bV.block w.heap.size (by omega)).trans U0)
  replace V0 := (bW.block (w.heap.size + 1) (by omega)).trans V0
  have hsz : W.heap.size = w.heap.size + 3 := by omega
  have K0 := hide (pasked_any W _ m x (h.to0 cW) hin hx)
  have HH := hide h
  have hB : Hid (∀ w2, Below W.heap.size W w2 → w2.heap[w.heap.size]? = some (.cells #[.int .i64 m.1, .slice a m.2.length c] 27 (0, 0)) ∧ w2.heap[w.heap.size + 1]? = some (.cells #[.int .i64 x.1, .int .i64 x.2] 26 (0, 0)) ∧ w2.heap[w.heap.size + 1 + 1]? = some (.cells #[.int .i64 0, .slice none 0 0] 27 (0, 0))) := fun w2 b2 =>
    ⟨(b2.block _ (by omega)).trans U0, (b2.block _ (by omega)).trans V0, (b2.block _ (by omega)).trans W0⟩
  have HC := hide cW
  obtain ⟨A0, A1, _, _⟩ := cells2 U0
  obtain ⟨D0, D1, _, _⟩ := cells2 V0
  rw [hW, hV, hU] at A0 A1 D0 D1
  clear U0 V0 W0 bU bV bW cV cW h
  have hNo := hide (efree_no (m := m) (x := x))
  have hHit := hide (efree_hit (m := m) (x := x))
  have hGood := hide (efree_good (m := m) (x := x))
  obtain ⟨x1, x2⟩ := x
  dsimp only at *
  go_enter Try.func14, Try.ntmps14
  go_wp2_with fail
  rw [← hU, ← hV, ← hW]
  replace hU := hide hU
  replace hV := hide hV
  replace hW := hide hW
  clear A0 A1 D0 D1
  refine K0.out.mono ?_
  rintro e w1 ⟨rfl, b1⟩
  obtain ⟨M1, X1, R1⟩ := hB.out w1 b1
  have c1 := HC.out.trans (b1.mono HC.out.size)
  replace b1 := hide b1
  clear K0
  by_cases hok : easked m (x1, x2) = 0
  · obtain ⟨hok2, hx1, hx2, hx3⟩ := easked_ok hok
    dsimp only at hx1 hx2 hx3
    have hm1 := hok2.2.1
    have hsec := eSec_of hok2
    have hlen := eOk_len hok2
    have HOK := hide (And.intro hok hok2)
    rw [hok]
    obtain ⟨D0, D1, _, _⟩ := cells2 X1
    have KS := hide (spanOf_any w1 x1 x2 (by omega))
    have hle := eIdx_le (fun a b => decide (a < x1 + x2) && decide (x1 < b)) m.2
    clear M1 X1 R1 hok hok2
    go_wp2_with fail
    refine KS.out.mono ?_
    rintro e w2 ⟨rfl, b2⟩
    replace b2 := hide (b1.out.trans (b2.mono b1.out.size))
    obtain ⟨p, q, hsp⟩ := sp_is x1 (x1 + x2)
    obtain ⟨Y, hY, Y0, bY, sY⟩ := boxed1 w2 (sp x1 (x1 + x2)) 61
    have c2 := HC.out.trans ((b2.out.trans (bY.mono b2.out.size)).mono HC.out.size)
    have K1 := hide (first_any 38 w2.heap.size (sp x1 (x1 + x2)) _ (fits_free _ x1 (x1 + x2) (by unfold spIn; omega)) (fun _ _ => Try.call38 _ _) Y _ m.2 (HH.out.to0 c2) (cell_of_one Y0) hsec)
    have b3 := hide (b2.out.trans (bY.mono b2.out.size))
    have A1 := (cells2 (hB.out Y b3.out).1).2.1
    have YY := hide Y0
    rw [hY] at A1
    rw [hsp]
    rw [hsp] at hY A1
    replace hsp := hide hsp
    have hst := fun p' q' => store_new w2 p q p' q' 61
    have hno := fun p' q' => cell_of_one (heap_alloc_last w2 (.cells #[.complex .f64 p' q'] 61))
    clear KS D0 D1 Y0 bY c1 c2
    generalize hI : eIdx (fun a b => decide (a < x1 + x2) && decide (x1 < b)) m.2 = I at *
    replace hI := hide hI
    go_wp2_with fail
    rw [← hY]
    replace hY := hide hY
    clear hst A1
    refine K1.out.mono ?_
    rintro e w3 ⟨rfl, b4⟩
    have B3 := hide (b3.out.trans (b4.mono b3.out.size))
    have Y3 := hide ((b4.block w2.heap.size (by omega)).trans YY.out)
    obtain ⟨M1, X1, R1⟩ := hB.out w3 B3.out
    obtain ⟨A0, A1, _, _⟩ := cells2 M1
    clear K1 b4 b3 M1 X1
    by_cases hlt : I < m.2.length
    · have hR := hide (hHit.out HOK.out.1 hlt)
      have hbe : (I : Int) < (m.2.length : Int) := by omega
      obtain ⟨z0, z1, z2, z3⟩ := cells2 R1
      have RR := hide R1
      have hlI := hide hlt
      clear hlt R1 hNo hHit hGood
      go_wp2
      refine ret_cellT rfl rfl (w.heap.size + 1 + 1) rfl _ _ _ _ (heap_set2 RR.out _ _) _ Try.underlying27 rfl infoM _ rfl ?_
      rw [hR.out]
      exact ⟨_, rfl, ownE_nil _ _, below_set2 (HC.out.trans (B3.out.mono HC.out.size)) (show w.heap.size ≤ w.heap.size + 1 + 1 by omega) _ _⟩
    · have hR := hide (hGood.out HOK.out.1 hlt)
      have hbe : ¬ (I : Int) < (m.2.length : Int) := by omega
      have c3 := HC.out.trans (B3.out.mono HC.out.size)
      have KW := hide (pwith_any w3 _ m x1 (x1 + x2) (HH.out.to0 c3) hlen hsec (by unfold spIn; omega) (by omega))
      have C3 := hide c3
      have y3 := cell_of_one Y3.out
      rw [hsp.out] at y3 KW
      have hlI := hide hlt
      clear hlt c3 hNo hHit hGood
      go_wp2_with fail
      refine KW.out.mono ?_
      rintro e w4 ⟨v4, rfl, o4, b4⟩
      have B4 := hide (B3.out.trans (b4.mono B3.out.size))
      obtain ⟨_, _, R4⟩ := hB.out w4 B4.out
      obtain ⟨z0, z1, z2, z3⟩ := cells2 R4
      obtain ⟨a3, n3, c3, hv3⟩ := ownE_slice o4
      subst hv3
      have q1 : w.heap.size + 1 + 1 < w3.heap.size := by have := B3.out.size; omega
      have O := hide (And.intro o4 (And.intro R4 (C3.out.trans (b4.mono C3.out.size))))
      clear o4 b4 R4 R1
      go_wp2
      refine ret_cellT rfl rfl (w.heap.size + 1 + 1) rfl _ _ _ _ (heap_set2 O.out.2.1 _ _) _ Try.underlying27 rfl infoM _ rfl ?_
      rw [hR.out]
      refine ⟨_, rfl, ?_, below_set2 O.out.2.2 (show w.heap.size ≤ w.heap.size + 1 + 1 by omega) _ _⟩
      have o := ownsRow_setCell_below (ownsRow_setCell_below O.out.1 (a := ⟨w.heap.size + 1 + 1, 0, none⟩) q1 (.int .i64 m.1)) (a := ⟨w.heap.size + 1 + 1, 1, none⟩) q1 (.slice a3 n3 c3)
      exact rows_base o (fun g hg => by have := (World.ownsRow.lt o g hg).1; omega)
  · have hR := hide (hNo.out hok)
    obtain ⟨z0, z1, z2, z3⟩ := cells2 R1
    have RR := hide R1
    have hbe : (easked m (x1, x2) != 0) = true := by simpa using hok
    generalize easked m (x1, x2) = E at *
    replace hok := hide hok
    clear M1 X1 R1 hNo hHit hGood
    go_wp2
    refine ret_cellT rfl rfl (w.heap.size + 1 + 1) rfl _ _ _ _ (heap_set2 RR.out _ _) _ Try.underlying27 rfl infoM _ rfl ?_
    rw [hR.out]
    exact ⟨_, rfl, ownE_nil _ _, below_set2 c1 (show w.heap.size ≤ w.heap.size + 1 + 1 by omega) _ _⟩

end Go.Proofs.Ytacfcgklncckiaa
