/-
  The page's Alloc and Take of extents.
-/
import Derived.Test.YtacfcgklncckiaaELaw
namespace Go.Proofs.Ytacfcgklncckiaa
open Go.RowKit
set_option linter.unusedVariables false

theorem eRow_len2 {n : Int} : ∀ {l : List Ext} {e : Int}, eRow n e l → 2 * (l.length : Int) ≤ max 0 (n - e)
  | [], e, _ => by simp; omega
  | x :: r, e, ⟨⟨h1, h2, h3, h4⟩, h5⟩ => by
    have := eRow_len2 h5
    rw [List.length_cons]
    push_cast
    omega
theorem eOk_len2 {m : EMap} (h : EOk m) : m.2.length ≤ 1048576 := by
  have := eRow_len2 h.2.2
  have := h.2.1
  have := h.1
  omega
theorem infoR : (Try.prog.info? 24).map (·.size) = some 2 := by kernel_rfl

set_option linter.unusedSimpArgs false in
set_option maxRecDepth 100000 in
set_option maxHeartbeats 2000000 in
theorem ralloc_any (w : World) (fv : Value) (m : EMap) (s : Int) (h : RdE w fv m.2) (hin : eIn m.2) :
    Calls Try.prog 11 #[.agg #[.int .i64 m.1, fv], .int .i64 s] w fun e w' => ∃ fv', e = .returned (.tuple #[.agg #[.int .i64 (ealloc m s).1.1, fv'], .agg #[.int .i64 (ealloc m s).2.1.1, .int .i64 (ealloc m s).2.1.2], .int .i64 (ealloc m s).2.2]) ∧ OwnE w.heap.size w' fv' (ealloc m s).1.2 ∧ Below w.heap.size w w' := by
  have lb := h.bd
  obtain ⟨a, c, rfl⟩ := h.slice
  obtain ⟨U, hU, U0, bU, sU⟩ := boxed2b w (.int .i64 m.1) (.slice a m.2.length c) 24
  obtain ⟨X, hX, X0, bX, sX⟩ := boxed2b U (.int .i64 0) (.slice none 0 0) 24
  obtain ⟨W, hW, W0, bW, sW⟩ := boxed2b X (.int .i64 0) (.int .i64 0) 26
  have cX := bU.trans (bX.mono bU.size)
  have cW := cX.trans (bW.mono cX.size)
  rw [sU] at X0
  rw [sX, sU] at W0
  replace U0 := (bW.block w.heap.size (by omega)).trans ((bX.block w.heap.size (by omega)).trans U0)
  replace X0 := (bW.block (w.heap.size + 1) (by omega)).trans X0
  have hsz : W.heap.size = w.heap.size + 3 := by omega
  have K0 := hide (recheck_any W _ m (h.to0 cW) hin)
  have HH := hide h
  have hB : Hid (∀ w2, Below W.heap.size W w2 → w2.heap[w.heap.size]? = some (.cells #[.int .i64 m.1, .slice a m.2.length c] 24 (0, 0)) ∧ w2.heap[w.heap.size + 1]? = some (.cells #[.int .i64 0, .slice none 0 0] 24 (0, 0)) ∧ w2.heap[w.heap.size + 1 + 1]? = some (.cells #[.int .i64 0, .int .i64 0] 26 (0, 0))) := fun w2 b2 =>
    ⟨(b2.block _ (by omega)).trans U0, (b2.block _ (by omega)).trans X0, (b2.block _ (by omega)).trans W0⟩
  have HC := hide cW
  obtain ⟨A0, A1, _, _⟩ := cells2 U0
  rw [hW, hX, hU] at A0 A1
  clear U0 X0 W0 bU bX bW cX cW h
  go_enter Try.func11, Try.ntmps11
  go_wp2_with fail
  rw [← hU, ← hX, ← hW]
  replace hU := hide hU
  replace hX := hide hX
  replace hW := hide hW
  clear A0 A1
  refine K0.out.mono ?_
  rintro e w1 ⟨rfl, b1⟩
  replace b1 := hide b1
  obtain ⟨M1, R1, T1⟩ := hB.out w1 b1.out
  obtain ⟨r0, r1, r2, r3⟩ := cells2 R1
  obtain ⟨t0, t1, t2, t3⟩ := cells2 T1
  obtain ⟨m0, m1, _, _⟩ := cells2 M1
  clear K0
  have hne : w.heap.size + 1 ≠ w.heap.size + 1 + 1 := by omega
  have C1 := hide (HC.out.trans (b1.out.mono HC.out.size))
  have RT := hide (And.intro R1 T1)
  clear R1 T1
  by_cases hok : EOk m
  · rw [echeck_ok hok]
    by_cases hs : s < 1
    · have hR := hide (ealloc_range hok hs)
      clear M1 hok
      go_wp2
      refine ret_cell2T rfl rfl (w.heap.size + 1) rfl (w.heap.size + 1 + 1) rfl _ _ _ _ (set4 hne RT.out.1 RT.out.2 _ _ _ _).1 _ _ _ _ (set4 hne RT.out.1 RT.out.2 _ _ _ _).2 _ Try.underlying24 rfl infoR _ Try.underlying26 rfl infoX _ rfl ?_
      rw [hR.out]
      exact ⟨_, rfl, ownE_nil _ _, below_set4 C1.out (show w.heap.size ≤ w.heap.size + 1 by omega) (show w.heap.size ≤ w.heap.size + 1 + 1 by omega) _ _ _ _⟩
    · have hs' : 1 ≤ s := by omega
      have hsec := eSec_of hok
      have hlen := eOk_len2 hok
      have HOK := hide hok
      have hm1 := hok.2.1
      have hm0 := hok.1
      have HM := hide M1
      clear M1 r0 r1 r2 r3 t0 t1 t2 t3 hok
      go_wp2
      clear m0 m1
      go_loopw [7] (fun i wr => ∃ k : Nat, k ≤ m.2.length ∧ i = .int .i64 k ∧ wr = w1 ∧ Hid (∀ y ∈ m.2.take k, (fun x y => decide (s ≤ y - x)) y.1 (y.1 + y.2) = false)) (fun i _ => m.2.length - (intOf i).toNat)
      case atStart => exact ⟨0, Nat.zero_le _, rfl, rfl, hide (fun y hy => by simp at hy)⟩
      case round =>
        obtain ⟨k, hk, rfl, rfl, hH⟩ := hrel
        obtain ⟨m0, m1, _, _⟩ := cells2 HM.out
        by_cases hlt : k < m.2.length
        · have hqi : (k : Int) < (m.2.length : Int) := by omega
          obtain ⟨y, hy, hym⟩ := ext_at m.2 hlt
          obtain ⟨bb, off, rfl, hc1, hc2⟩ := (HH.out.to0 C1.out).ext hy
          by_cases hsx : s ≤ y.2
          · have hI := eIdx_hit (p := fun x y => decide (s ≤ y - x)) hy (by simp; omega) hH.out
            have hR := (ealloc_some HOK.out hs' (by rw [hI]; exact hlt) (by rw [hI]; exact hy)).2
            rw [hI, eCutOut (x := (y.1, s)) HOK.out.2.2 hy (Int.le_refl _) (by dsimp only; omega) hs'] at hR
            replace hR := hide hR
            have hyr := hsec y hym
            have hyn := (eRow_mem HOK.out.2.2 y hym)
            obtain ⟨y1, y2⟩ := y
            dsimp only at hc1 hc2 hsx hyr hyn
            clear hI hy hym hH
            obtain ⟨Y, hY, Y0, bY, sY⟩ := boxed2b wr (.int .i64 y1) (.int .i64 s) 26
            have c1d := C1.out.trans ((bY.drew.mono C1.out.size))
            have KW := hide (without_any Y.drew _ m.2 (y1, s) m.1 (HH.out.to0 c1d) hm1 HOK.out.2.2 (by dsimp only; omega) hs' (by dsimp only; omega) hlen)
            dsimp only at KW
            have ALL : Hid (∀ w3, Below Y.heap.size Y w3 → w3.cell? ⟨w.heap.size, 0, none⟩ = some (.int .i64 m.1) ∧ w3.cell? ⟨w.heap.size, 1, none⟩ = some (.slice (some ⟨bb, off, none⟩) m.2.length c) ∧ w3.cell? ⟨wr.heap.size, 0, none⟩ = some (.int .i64 y1) ∧ w3.cell? ⟨wr.heap.size, 1, none⟩ = some (.int .i64 s) ∧
                w3.cell? ⟨w.heap.size + 1, 0, none⟩ = some (.int .i64 0) ∧ w3.cell? ⟨w.heap.size + 1, 1, none⟩ = some (.slice none 0 0) ∧ w3.frozen? ⟨w.heap.size + 1, 0, none⟩ = false ∧ w3.frozen? ⟨w.heap.size + 1, 1, none⟩ = false ∧ w3.cell? ⟨w.heap.size + 1 + 1, 0, none⟩ = some (.int .i64 0) ∧ w3.cell? ⟨w.heap.size + 1 + 1, 1, none⟩ = some (.int .i64 0) ∧ w3.frozen? ⟨w.heap.size + 1 + 1, 0, none⟩ = false ∧ w3.frozen? ⟨w.heap.size + 1 + 1, 1, none⟩ = false) := fun w3 b3 => by
              have bw : Below wr.heap.size wr w3 := bY.trans (b3.mono bY.size)
              obtain ⟨a0, a1, _, _⟩ := cells2 ((bw.block _ (lt_of_block HM.out)).trans HM.out)
              obtain ⟨d0, d1, _, _⟩ := cells2 ((b3.block _ (lt_of_block Y0)).trans Y0)
              obtain ⟨x0, x1, x2, x3⟩ := cells2 ((bw.block _ (lt_of_block RT.out.1)).trans RT.out.1)
              obtain ⟨z0, z1, z2, z3⟩ := cells2 ((bw.block _ (lt_of_block RT.out.2)).trans RT.out.2)
              exact ⟨a0, a1, d0, d1, x0, x1, x2, x3, z0, z1, z2, z3⟩
            have hrs : w.heap.size + 1 + 1 < wr.heap.size := lt_of_block RT.out.2
            have BW : Hid (∀ w3, Below Y.drew.heap.size Y.drew w3 → Below wr.heap.size wr w3) := fun w3 b3 => bY.drew.trans (b3.mono (by have := bY.size; exact this))
            clear hsec c1d
            go_wp2
            rw [← hY]
            replace hY := hide hY
            obtain ⟨a0, a1, d0, d1, _⟩ := ALL.out Y (Below.refl _ _)
            clear m0 m1 hc1 hc2 bY
            go_region_law (refine step_call (by rfl) 32 _ _ (by rfl) #[.slice (some ⟨bb, off, none⟩) m.2.length c, .agg #[.int .i64 y1, .int .i64 s]] ?_ (Try.call32 _ _) KW.out ?_; (focus (simp [Act.eval, Act.put]; done)); rintro e w4 ⟨v4, rfl, o4, b4⟩; obtain ⟨F0, F1, G0, G1, x0, x1, x2, x3, z0, z1, z2, z3⟩ := ALL.out w4 ((Below.refl _ _).drew.trans b4); obtain ⟨a3, n3, c3, hv3⟩ := ownE_slice o4; subst hv3; replace o4 := hide o4; replace b4 := hide b4; refine ⟨_, rfl, ?_⟩)
            all_goals
              go_wp2
              have B4 := BW.out w4 b4.out
              have R4 := (B4.block _ (lt_of_block RT.out.1)).trans RT.out.1
              have T4 := (B4.block _ (lt_of_block RT.out.2)).trans RT.out.2
              refine ret_cell2T rfl rfl (w.heap.size + 1) rfl (w.heap.size + 1 + 1) rfl _ _ _ _ (set4 hne R4 T4 _ _ _ _).1 _ _ _ _ (set4 hne R4 T4 _ _ _ _).2 _ Try.underlying24 rfl infoR _ Try.underlying26 rfl infoX _ rfl ?_
              rw [hR.out]
              refine ⟨_, rfl, ?_, below_set4 (C1.out.trans (B4.mono C1.out.size)) (show w.heap.size ≤ w.heap.size + 1 by omega) (show w.heap.size ≤ w.heap.size + 1 + 1 by omega) _ _ _ _⟩
              have q0 : Y.drew.heap.size = wr.heap.size + 1 := sY
              have q1 : w.heap.size + 1 < Y.drew.heap.size := by omega
              have q2 : w.heap.size + 1 + 1 < Y.drew.heap.size := by omega
              have o := ownsRow_setCell_below (ownsRow_setCell_below (ownsRow_setCell_below (ownsRow_setCell_below o4.out (a := ⟨w.heap.size + 1, 0, none⟩) q1 (.int .i64 m.1)) (a := ⟨w.heap.size + 1, 1, none⟩) q1 (.slice a3 n3 c3)) (a := ⟨w.heap.size + 1 + 1, 0, none⟩) q2 (.int .i64 y1)) (a := ⟨w.heap.size + 1 + 1, 1, none⟩) q2 (.int .i64 s)
              exact rows_base o (fun g hg => by have := (World.ownsRow.lt o g hg).1; omega)
          · have hsx' : y.2 < s := by omega
            replace hy := hide hy
            go_wp2
            go_roundw
            case rel =>
              refine ⟨k + 1, by omega, by go_num, trivial, hide (fun z hz => ?_)⟩
              rw [List.take_add_one, hy.out] at hz
              rcases List.mem_append.1 hz with hz | hz
              · exact hH.out z hz
              · simp at hz; subst hz; simp; omega
            case measure => simp [intOf]; omega
        · have hqi : ¬ (k : Int) < (m.2.length : Int) := by omega
          have hall := hH.out
          rw [List.take_of_length_le (by omega)] at hall
          have hR := hide (ealloc_none HOK.out hs' (by rw [eIdx_none hall]; omega))
          obtain ⟨r0, r1, r2, r3⟩ := cells2 RT.out.1
          obtain ⟨t0, t1, t2, t3⟩ := cells2 RT.out.2
          clear hall hH
          go_wp2
          refine ret_cell2T rfl rfl (w.heap.size + 1) rfl (w.heap.size + 1 + 1) rfl _ _ _ _ (set4 hne RT.out.1 RT.out.2 _ _ _ _).1 _ _ _ _ (set4 hne RT.out.1 RT.out.2 _ _ _ _).2 _ Try.underlying24 rfl infoR _ Try.underlying26 rfl infoX _ rfl ?_
          rw [hR.out]
          exact ⟨_, rfl, ownE_nil _ _, below_set4 C1.out (show w.heap.size ≤ w.heap.size + 1 by omega) (show w.heap.size ≤ w.heap.size + 1 + 1 by omega) _ _ _ _⟩
  · rw [echeck_no hok]
    have hR := hide (ealloc_state (s := s) hok)
    clear M1
    go_wp2
    refine ret_cell2T rfl rfl (w.heap.size + 1) rfl (w.heap.size + 1 + 1) rfl _ _ _ _ (set4 hne RT.out.1 RT.out.2 _ _ _ _).1 _ _ _ _ (set4 hne RT.out.1 RT.out.2 _ _ _ _).2 _ Try.underlying24 rfl infoR _ Try.underlying26 rfl infoX _ rfl ?_
    rw [hR.out]
    exact ⟨_, rfl, ownE_nil _ _, below_set4 C1.out (show w.heap.size ≤ w.heap.size + 1 by omega) (show w.heap.size ≤ w.heap.size + 1 + 1 by omega) _ _ _ _⟩

end Go.Proofs.Ytacfcgklncckiaa
