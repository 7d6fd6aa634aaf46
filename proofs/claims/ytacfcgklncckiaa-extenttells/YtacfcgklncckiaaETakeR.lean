/-
  The page's Take of extents.
-/
import Derived.Test.YtacfcgklncckiaaEAllocR
namespace Go.Proofs.Ytacfcgklncckiaa
open Go.RowKit
set_option linter.unusedVariables false

set_option linter.unusedSimpArgs false in
set_option maxRecDepth 100000 in
set_option maxHeartbeats 2000000 in
theorem rtake_any (w : World) (fv : Value) (m : EMap) (x : Ext) (h : RdE w fv m.2) (hin : eIn m.2) (hx : x.1 ≤ 9223372036854775807) :
    Calls Try.prog 13 #[.agg #[.int .i64 m.1, fv], .agg #[.int .i64 x.1, .int .i64 x.2]] w fun e w' => ∃ fv', e = .returned (.tuple #[.agg #[.int .i64 (etake m x).1.1, fv'], .int .i64 (etake m x).2]) ∧ OwnE w.heap.size w' fv' (etake m x).1.2 ∧ Below w.heap.size w w' := by
  have lb := h.bd
  obtain ⟨a, c, rfl⟩ := h.slice
  obtain ⟨U, hU, U0, bU, sU⟩ := boxed2b w (.int .i64 m.1) (.slice a m.2.length c) 24
  obtain ⟨V, hV, V0, bV, sV⟩ := boxed2b U (.int .i64 x.1) (.int .i64 x.2) 26
  obtain ⟨W, hW, W0, bW, sW⟩ := boxed2b V (.int .i64 0) (.slice none 0 0) 24
  have cV := bU.trans (bV.mono bU.size)
  have cW := cV.trans (bW.mono cV.size)
  rw [sU] at V0
  rw [sV, sU] at W0
  replace U0 := (bW.block w.heap.size (by omega)).trans ((bV.block w.heap.size (by omega)).trans U0)
  replace V0 := (bW.block (w.heap.size + 1) (by omega)).trans V0
  have hsz : W.heap.size = w.heap.size + 3 := by omega
  have K0 := hide (asked_any W _ m x (h.to0 cW) hin hx)
  have HH := hide h
  have hB : Hid (∀ w2, Below W.heap.size W w2 → w2.heap[w.heap.size]? = some (.cells #[.int .i64 m.1, .slice a m.2.length c] 24 (0, 0)) ∧ w2.heap[w.heap.size + 1]? = some (.cells #[.int .i64 x.1, .int .i64 x.2] 26 (0, 0)) ∧ w2.heap[w.heap.size + 1 + 1]? = some (.cells #[.int .i64 0, .slice none 0 0] 24 (0, 0))) := fun w2 b2 =>
    ⟨(b2.block _ (by omega)).trans U0, (b2.block _ (by omega)).trans V0, (b2.block _ (by omega)).trans W0⟩
  have HC := hide cW
  obtain ⟨A0, A1, _, _⟩ := cells2 U0
  obtain ⟨D0, D1, _, _⟩ := cells2 V0
  rw [hW, hV, hU] at A0 A1 D0 D1
  clear U0 V0 W0 bU bV bW cV cW h
  have hNo := hide (etake_no (m := m) (x := x))
  have hNone := hide (etake_none (m := m) (x := x))
  have hSome := hide (fun y => etake_some (m := m) (x := x) (y := y))
  obtain ⟨x1, x2⟩ := x
  dsimp only at *
  go_enter Try.func13, Try.ntmps13
  go_wp2_with fail
  rw [← hU, ← hV, ← hW]
  replace hU := hide hU
  replace hV := hide hV
  replace hW := hide hW
  clear A0 A1 D0 D1
  refine K0.out.mono ?_
  rintro e w1 ⟨rfl, b1⟩
  obtain ⟨M1, X1, R1⟩ := hB.out w1 b1
  have c1 := HC.out.trans (b1.mono HC.out.size)
  replace b1 := hide b1
  clear K0
  by_cases hok : easked m (x1, x2) = 0
  · obtain ⟨hok2, hx1, hx2, hx3⟩ := easked_ok hok
    dsimp only at hx1 hx2 hx3
    have hm1 := hok2.2.1
    have hsec := eSec_of hok2
    have hlen := eOk_len2 hok2
    have HOK := hide (And.intro hok hok2)
    rw [hok]
    have C1 := hide c1
    clear M1 X1 R1 hok hok2 c1
    go_wp2
    go_loopw [7] (fun i wr => ∃ k : Nat, k ≤ m.2.length ∧ i = .int .i64 k ∧ Hid (Below w1.heap.size w1 wr ∧ ∀ y ∈ m.2.take k, (fun a b => decide (a ≤ x1) && decide (x1 + x2 ≤ b)) y.1 (y.1 + y.2) = false)) (fun i _ => m.2.length - (intOf i).toNat)
    case atStart => exact ⟨0, Nat.zero_le _, rfl, hide ⟨Below.refl _ _, fun y hy => by simp at hy⟩⟩
    case round =>
      obtain ⟨k, hk, rfl, hH⟩ := hrel
      have bwr := hide (b1.out.trans (hH.out.1.mono b1.out.size))
      obtain ⟨M1, X1, R1⟩ := hB.out wr bwr.out
      obtain ⟨m0, m1, _, _⟩ := cells2 M1
      by_cases hlt : k < m.2.length
      · have hqi : (k : Int) < (m.2.length : Int) := by omega
        obtain ⟨y, hy, hym⟩ := ext_at m.2 hlt
        have cwr := hide (C1.out.trans (hH.out.1.mono C1.out.size))
        obtain ⟨bb, off, rfl, hc1, hc2⟩ := (HH.out.to0 cwr.out).ext hy
        have hyr := hsec y hym
        obtain ⟨y1, y2⟩ := y
        dsimp only at hc1 hc2 hyr
        obtain ⟨g1, g2, g3⟩ := hyr
        obtain ⟨Y, hY, Y0, bY, sY⟩ := boxed2b wr (.int .i64 y1) (.int .i64 y2) 26
        have bYw := hide (bwr.out.trans (bY.mono bwr.out.size))
        have bY1 := hide (hH.out.1.trans (bY.mono hH.out.1.size))
        obtain ⟨M2, X2, R2⟩ := hB.out Y bYw.out
        obtain ⟨d0, d1, _, _⟩ := cells2 X2
        obtain ⟨e0, e1, _, _⟩ := cells2 Y0
        rw [hY] at d0 d1 e0 e1
        replace hy := hide hy
        have HP := hide hH.out.2
        clear hym hH M1 X1 R1 M2 X2 Y0
        by_cases c1 : y1 ≤ x1
        · by_cases c2 : x1 + x2 ≤ y1 + y2
          · have hI := eIdx_hit (p := fun a b => decide (a ≤ x1) && decide (x1 + x2 ≤ b)) hy.out (by simp; omega) HP.out
            have hR := hSome.out (y1, y2) HOK.out.1 (by rw [hI]; exact hlt) (by rw [hI]; exact hy.out)
            rw [hI, eCutOut (x := (x1, x2)) HOK.out.2.2.2 hy.out c1 c2 hx1] at hR
            replace hR := hide hR
            have cY := C1.out.trans ((bY1.out.drew).mono C1.out.size)
            have KW := hide (without_any Y.drew _ m.2 (x1, x2) m.1 (HH.out.to0 cY) hm1 HOK.out.2.2.2 hx2 hx1 hx3 hlen)
            dsimp only at KW
            have BW : Hid (∀ w3, Below Y.drew.heap.size Y.drew w3 → Below W.heap.size W w3) := fun w3 b3 => bYw.out.drew.trans (b3.mono (by have := bYw.out.size; exact this))
            have ALL : Hid (∀ w3, Below W.heap.size W w3 → w3.cell? ⟨w.heap.size, 0, none⟩ = some (.int .i64 m.1) ∧ w3.cell? ⟨w.heap.size, 1, none⟩ = some (.slice (some ⟨bb, off, none⟩) m.2.length c) ∧ w3.cell? ⟨w.heap.size + 1, 0, none⟩ = some (.int .i64 x1) ∧ w3.cell? ⟨w.heap.size + 1, 1, none⟩ = some (.int .i64 x2) ∧
                w3.cell? ⟨w.heap.size + 1 + 1, 0, none⟩ = some (.int .i64 0) ∧ w3.cell? ⟨w.heap.size + 1 + 1, 1, none⟩ = some (.slice none 0 0) ∧ w3.frozen? ⟨w.heap.size + 1 + 1, 0, none⟩ = false ∧ w3.frozen? ⟨w.heap.size + 1 + 1, 1, none⟩ = false) := fun w3 b3 => by
              obtain ⟨q1, q2, q3⟩ := hB.out w3 b3
              obtain ⟨a0, a1, _, _⟩ := cells2 q1
              obtain ⟨d0, d1, _, _⟩ := cells2 q2
              obtain ⟨x0, x1, x2, x3⟩ := cells2 q3
              exact ⟨a0, a1, d0, d1, x0, x1, x2, x3⟩
            have hrs : w.heap.size + 1 + 1 < Y.drew.heap.size := by have := bYw.out.size; show _ < Y.heap.size; omega
            have cYd := hide cY
            clear hI cY R2
            go_wp2
            rw [← hY]
            replace hY := hide hY
            clear d0 d1 e0 e1 m0 m1 hc1 hc2
            obtain ⟨a0, a1, d0, d1, _⟩ := ALL.out Y bYw.out
            clear bY
            go_region_law (refine step_call (by rfl) 32 _ _ (by rfl) #[.slice (some ⟨bb, off, none⟩) m.2.length c, .agg #[.int .i64 x1, .int .i64 x2]] ?_ (Try.call32 _ _) KW.out ?_; (focus (simp [Act.eval, Act.put]; done)); rintro e w4 ⟨v4, rfl, o4, b4⟩; obtain ⟨F0, F1, G0, G1, z0, z1, z2, z3⟩ := ALL.out w4 (BW.out w4 b4); obtain ⟨a3, n3, c3, hv3⟩ := ownE_slice o4; subst hv3; replace o4 := hide o4; replace b4 := hide b4; refine ⟨_, rfl, ?_⟩)
            all_goals
              go_wp2
              obtain ⟨_, _, R4⟩ := hB.out w4 (BW.out w4 b4.out)
              refine ret_cellT rfl rfl (w.heap.size + 1 + 1) rfl _ _ _ _ (heap_set2 R4 _ _) _ Try.underlying24 rfl infoR _ rfl ?_
              rw [hR.out]
              refine ⟨_, rfl, ?_, below_set2 (cYd.out.trans (b4.out.mono cYd.out.size)) (show w.heap.size ≤ w.heap.size + 1 + 1 by omega) _ _⟩
              have o := ownsRow_setCell_below (ownsRow_setCell_below o4.out (a := ⟨w.heap.size + 1 + 1, 0, none⟩) hrs (.int .i64 m.1)) (a := ⟨w.heap.size + 1 + 1, 1, none⟩) hrs (.slice a3 n3 c3)
              exact rows_base o (fun g hg => by have := (World.ownsRow.lt o g hg).1; omega)
          · have c2' : y1 + y2 < x1 + x2 := by omega
            go_wp2
            rw [← hY]
            go_roundw
            case rel =>
              refine ⟨k + 1, by omega, by go_num, hide ⟨bY1.out, fun z hz => ?_⟩⟩
              rw [List.take_add_one, hy.out] at hz
              rcases List.mem_append.1 hz with hz | hz
              · exact HP.out z hz
              · simp at hz; subst hz; simp; omega
            case measure => simp [intOf]; omega
        · have c1' : x1 < y1 := by omega
          go_wp2
          rw [← hY]
          go_roundw
          case rel =>
            refine ⟨k + 1, by omega, by go_num, hide ⟨bY1.out, fun z hz => ?_⟩⟩
            rw [List.take_add_one, hy.out] at hz
            rcases List.mem_append.1 hz with hz | hz
            · exact HP.out z hz
            · simp at hz; subst hz; simp; omega
          case measure => simp [intOf]; omega
      · have hqi : ¬ (k : Int) < (m.2.length : Int) := by omega
        have hall := hH.out.2
        rw [List.take_of_length_le (by omega)] at hall
        have hR := hide (hNone.out HOK.out.1 (by rw [eIdx_none hall]; omega))
        obtain ⟨z0, z1, z2, z3⟩ := cells2 R1
        have RR := hide R1
        have CW := hide (C1.out.trans (hH.out.1.mono C1.out.size))
        clear hall hH M1 X1 R1
        go_wp2
        refine ret_cellT rfl rfl (w.heap.size + 1 + 1) rfl _ _ _ _ (heap_set2 RR.out _ _) _ Try.underlying24 rfl infoR _ rfl ?_
        rw [hR.out]
        exact ⟨_, rfl, ownE_nil _ _, below_set2 CW.out (show w.heap.size ≤ w.heap.size + 1 + 1 by omega) _ _⟩
  · have hR := hide (hNo.out hok)
    obtain ⟨z0, z1, z2, z3⟩ := cells2 R1
    have RR := hide R1
    have hbe : (easked m (x1, x2) != 0) = true := by simpa using hok
    generalize easked m (x1, x2) = E at *
    replace hok := hide hok
    clear M1 X1 R1 hNo hNone hSome
    go_wp2
    refine ret_cellT rfl rfl (w.heap.size + 1 + 1) rfl _ _ _ _ (heap_set2 RR.out _ _) _ Try.underlying24 rfl infoR _ rfl ?_
    rw [hR.out]
    exact ⟨_, rfl, ownE_nil _ _, below_set2 c1 (show w.heap.size ≤ w.heap.size + 1 + 1 by omega) _ _⟩

end Go.Proofs.Ytacfcgklncckiaa
