/-
  The page's Recover of logs: the answer is told by its readings.
-/
import Derived.Deep.CutRange
import Derived.Test.YtlnoancjegifnaaWRow
namespace Go.Proofs.Ytlnoancjegifnaa
open Go.RowKit
set_option linter.unusedVariables false

theorem wrecover_nil {segs : List Wrt} (h : segs.length = 0) : wrecover segs = (wzero, [], 0) := if_pos h
theorem wrecover_81 {segs : List Wrt} (h : ¬ segs.length = 0) (h2 : 4096 < segs.length ∨ ¬ widx (segs.getD 0 (0, [])).1) : wrecover segs = (wzero, [], 81) := by unfold wrecover; rw [if_neg h, if_pos h2]
theorem wrecover_stop {segs : List Wrt} (h : ¬ segs.length = 0) (h2 : ¬ (4096 < segs.length ∨ ¬ widx (segs.getD 0 (0, [])).1)) {k : Nat} {a : Wans} (hk : k ≤ segs.length) (h3 : wrs segs k = .inr a) : wrecover segs = a := by
  unfold wrecover; rw [if_neg h, if_neg h2, wrs_stop h3 _ hk]
theorem wrecover_end {segs : List Wrt} (h : ¬ segs.length = 0) (h2 : ¬ (4096 < segs.length ∨ ¬ widx (segs.getD 0 (0, [])).1)) {st : Wst} (h3 : wrs segs segs.length = .inl st) : wrecover segs = ((st.1.1, st.1.2, []), st.2, 0) := by
  unfold wrecover; rw [if_neg h, if_neg h2, h3]
theorem wrone_21 {m i : Nat} {ss : List Wrt} {nx : Int} {rs : List (List UInt8)} {s : Wrt} (h : s.1 ≠ nx) : wrone m i ((ss, nx), rs) s = .inr ((ss, nx, []), rs, 21) := if_pos h
theorem wrone_81 {m i : Nat} {ss : List Wrt} {nx : Int} {rs : List (List UInt8)} {s : Wrt} (h : ¬ s.1 ≠ nx) (h2 : 1099511627776 < nx + ((wrecs s.2).length : Nat)) : wrone m i ((ss, nx), rs) s = .inr (wzero, [], 81) := by unfold wrone; rw [if_neg h, if_pos h2]
theorem wrone_torn {m i : Nat} {ss : List Wrt} {nx : Int} {rs : List (List UInt8)} {s : Wrt} (h : ¬ s.1 ≠ nx) (h2 : ¬ 1099511627776 < nx + ((wrecs s.2).length : Nat)) (h3 : wn s.2 ≠ s.2.length ∧ i < m - 1) {t : Wst} (ht : wgone i ((ss, nx), rs) s (wrecs s.2) (wn s.2) = t) : wrone m i ((ss, nx), rs) s = .inr ((t.1.1, t.1.2, []), t.2, 21) := by unfold wrone; rw [if_neg h, if_neg h2, if_pos h3, ht]
theorem wrone_on {m i : Nat} {ss : List Wrt} {nx : Int} {rs : List (List UInt8)} {s : Wrt} (h : ¬ s.1 ≠ nx) (h2 : ¬ 1099511627776 < nx + ((wrecs s.2).length : Nat)) (h3 : ¬ (wn s.2 ≠ s.2.length ∧ i < m - 1)) {t : Wst} (ht : wgone i ((ss, nx), rs) s (wrecs s.2) (wn s.2) = t) : wrone m i ((ss, nx), rs) s = .inl t := by unfold wrone; rw [if_neg h, if_neg h2, if_neg h3, ht]
theorem wgone_push {i n : Nat} {ss : List Wrt} {nx : Int} {rs r : List (List UInt8)} {s : Wrt} (h : 0 < n ∨ i = 0) : wgone i ((ss, nx), rs) s r n = ((ss ++ [(s.1, s.2.take n)], nx + (r.length : Nat)), rs ++ r) := by unfold wgone; rw [if_pos h]
theorem wgone_keep {i n : Nat} {ss : List Wrt} {nx : Int} {rs r : List (List UInt8)} {s : Wrt} (h : ¬ (0 < n ∨ i = 0)) : wgone i ((ss, nx), rs) s r n = ((ss, nx + (r.length : Nat)), rs ++ r) := by unfold wgone; rw [if_neg h]
abbrev TSR : Nat := 57
abbrev TLR : Nat := 25

set_option maxRecDepth 100000 in
set_option maxHeartbeats 8000000 in
theorem rwrecover_any (w : World) (sv : Value) (segs : List Wrt) (h1 : RdC w sv segs) (hm : ∀ s ∈ segs, s.2.length ≤ 16777216) :
    Calls Try.prog 27 #[sv] w fun e w' => ∃ sv' wv' rv, e = .returned (.tuple #[.agg #[sv', .int .i64 (wrecover segs).1.2.1, wv'], rv, .int .i64 (wrecover segs).2.2]) ∧ (RdC w' sv' (wrecover segs).1.1 ∧ RdSec w' wv' (wrecover segs).1.2.2 ∧ RdSec w' rv (wrecover segs).2.1) ∧ Below w.heap.size w w' := by
  obtain ⟨j0, ji, jz0, jz1, jz2⟩ := info_parts infoSR
  have lb1 := h1.bd
  obtain ⟨a1, c1, rfl⟩ := h1.slice
  obtain ⟨V, hV, V0, bV, sV⟩ := boxedN w #[.slice none 0 0, .int .i64 0, .slice none 0 0] 25
  obtain ⟨⟨z0, z1, z2⟩, zf⟩ := cells3 V0
  have y0 := zf 0
  have y1 := zf 1
  have y2 := zf 2
  clear zf
  have ZERO : Hid (∀ x y z, Below w.heap.size w (S3 w.heap.size V x y z)) := fun x y z => below_set3 bV (Nat.le_refl _) x y z
  go_enter Try.func27, Try.ntmps27
  by_cases h0 : segs.length = 0
  · have hE := hide (wrecover_nil h0)
    have : segs = [] := List.eq_nil_of_length_eq_zero h0
    subst this
    rw [hV] at z0 z1 z2 y0 y1 y2
    go_wp2
    rw [← hV]
    refine retNTT rfl rfl w.heap.size rfl _ _ (0, 0) V0 _ Try.underlying25 rfl info_lgR _ rfl _ rfl ?_
    rw [hE.out]
    exact ⟨_, _, _, rfl, ⟨RdS.nil _ _, RdS.nil _ _, RdS.nil _ _⟩, bV⟩
  · have hi0 : ¬ (segs.length : Int) = 0 := by omega
    by_cases q1 : 4096 < segs.length
    · have hq1 : (4096 : Int) < (segs.length : Int) := by omega
      have hE := hide (wrecover_81 h0 (.inl q1))
      rw [hV] at z0 z1 z2 y0 y1 y2
      go_wp2
      rw [← hV]
      refine retNTT rfl rfl w.heap.size rfl _ _ (0, 0) V0 _ Try.underlying25 rfl info_lgR _ rfl _ rfl ?_
      rw [hE.out]
      exact ⟨_, _, _, rfl, ⟨RdS.nil _ _, RdS.nil _ _, RdS.nil _ _⟩, bV⟩
    · have hq1 : ¬ (4096 : Int) < (segs.length : Int) := by omega
      have hsl : segs.length ≤ 4096 := by omega
      obtain ⟨f, hf, hfm⟩ := some_at segs (k := 0) (by omega)
      have hf0 := getD_some (d := (0, [])) hf
      have H1 := hide h1
      obtain ⟨b0, o0, u0, e0, hc0, _, _⟩ := (h1.to0 bV).wrt hf
      subst e0
      obtain ⟨fz, fx⟩ := f
      dsimp only at hc0
      rw [Nat.zero_mul, Nat.add_zero] at hc0
      have KI := hide (rindex_any V fz)
      rw [hV] at hc0 z0 z1 z2 y0 y1 y2
      have hpos : (0 : Int) < (segs.length : Int) := by omega
      have h81 := hide (fun h => wrecover_81 h0 (.inr h))
      have hstop := hide (fun h k a h2 h3 => @wrecover_stop segs h0 h k a h2 h3)
      have hend := hide (fun h st h3 => @wrecover_end segs h0 h st h3)
      have q1' := hide q1
      rw [hf0] at h81 hstop hend
      clear h1 q1
      go_wp2_with fail
      rw [← hV]
      rw [← hV] at hc0 z0 z1 z2 y0 y1 y2
      replace hV := hide hV
      refine KI.out.mono ?_
      rintro e w' ⟨rfl, rfl⟩
      clear KI
      by_cases p1 : widx fz
      · rw [decide_eq_true p1]
        have hbad : ¬ (4096 < segs.length ∨ ¬ widx fz) := fun h => h.elim q1'.out (fun h => h p1)
        have hstop := hide (fun k a h2 h3 => hstop.out hbad k a h2 h3)
        have hend := hide (fun st h3 => hend.out hbad st h3)
        have hp1 := hide p1
        clear h81 hbad p1
        obtain ⟨X, hX, X0, bX, sX⟩ := boxedN V #[.slice none 0 0, .int .i64 fz, .slice none 0 0] 25
        have sV' : V.heap.size = w.heap.size + 1 := sV
        have st0 : Hid (RInv TSR TLR w X (.slice none 0 0) (.slice none 0 0) (([], fz), [])) :=
          ⟨by rw [← sV']; exact X0, (bX.block _ (by omega)).trans V0, OwnW.nil _ _ _, OwnV.nil _ _ _, bV.trans (bX.mono bV.size)⟩
        have hw0 : Hid (wrs segs 0 = .inl (([], fz), [])) := by show Sum.inl _ = _; rw [hf0]
        have hsl' := hsl
        clear bX X0 bV V0 ZERO sX z0 z1 z2 y0 y1 y2
        go_wp2
        rw [← hX]
        replace hX := hide hX
        clear hc0 sV sV'
        go_loopw [6, 7] (fun o i wr => ∃ (k : Nat) (c : Value) (st : Wst), k ≤ segs.length ∧ i = .int .i64 k ∧ Hid (wrs segs k = .inl st) ∧ Hid (RInv TSR TLR w wr o c st ∧ st.1.1.length ≤ k ∧ st.2.length ≤ k * 2097152 ∧ widx st.1.2)) (fun _ i _ => segs.length - (intOf i).toNat)
        case atStart => exact ⟨0, _, _, Nat.zero_le _, rfl, hw0, st0.out, Nat.le_refl _, Nat.zero_le _, hp1.out⟩
        case round =>
          obtain ⟨k, c, ⟨⟨ss, nx⟩, rs⟩, hk, rfl, hW, hI⟩ := hrel
          clear st0 hw0
          obtain ⟨RI, hssl, hrsl, hnx⟩ := hI.out
          dsimp only at hssl hrsl hnx
          have hn0 := hnx.1
          have hn1 := hnx.2
          obtain ⟨ca, cc0, hcs⟩ := RI.segs.rd.slice
          obtain ⟨oa, oc, hou⟩ := RI.recs.rd.slice
          dsimp only at hcs hou
          obtain ⟨M, hM⟩ : ∃ M, M = ss.length := ⟨_, rfl⟩
          obtain ⟨N, hN⟩ : ∃ N, N = rs.length := ⟨_, rfl⟩
          rw [← hM] at hcs hssl
          rw [← hN] at hou hrsl
          subst hcs hou
          replace hM := hide hM
          replace hN := hide hN
          by_cases hlt : k < segs.length
          · have hq : (k : Int) < (segs.length : Int) := by omega
            obtain ⟨y, hy, hym⟩ := some_at segs hlt
            obtain ⟨b1, o1, u, e1, hc0, hc1, hru⟩ := (H1.out.to0 RI.bel).wrt hy
            simp only [Option.some.injEq, Addr.mk.injEq, and_true] at e1
            obtain ⟨⟨rfl, rfl⟩, _⟩ := e1
            have hyl := hm y hym
            have hnext := hide (wrs_next hW.out hy)
            obtain ⟨yz, yx⟩ := y
            dsimp only at hc0 hc1 hru hyl hnext
            obtain ⟨ua, uc, rfl⟩ := hru.slice
            have hcap : yx.length ≤ uc := by obtain ⟨_, _, e, l1, _⟩ := hru; simp only [Value.slice.injEq] at e; omega
            obtain ⟨Y, hY, Y0, bY, sY⟩ := boxedN wr #[.int .i64 yz, .slice ua yx.length uc] 57
            have RY := hide (RI.to bY)
            obtain ⟨e8, e9, _, _⟩ := row2_cells Y0
            obtain ⟨⟨T0, T1, T2⟩, _⟩ := cells3 RY.out.box
            obtain ⟨⟨z0, z1, z2⟩, zf⟩ := cells3 RY.out.ans
            have y0 := zf 0
            have y1 := zf 1
            have y2 := zf 2
            have KW := hide (rwhole_any Y _ yx (hru.to bY) hyl)
            have hru8 := hide (hru.to bY)
            have hwl := wn_le yx
            have hwl1 := hwl.1
            have hwr := hwl.2.1
            dsimp only at T0 T1 T2
            obtain ⟨L, hL⟩ : ∃ L, L = yx.length := ⟨_, rfl⟩
            rw [← hL] at hc1 hY e9 KW hru8 hyl hwl1 hwr hcap Y0
            obtain ⟨NW, hNW⟩ : ∃ NW, NW = wn yx := ⟨_, rfl⟩
            rw [← hNW] at KW hwl1
            obtain ⟨NR, hNR⟩ : ∃ NR, NR = (wrecs yx).length := ⟨_, rfl⟩
            rw [← hNR] at hwr
            replace hL := hide hL
            replace hNW := hide hNW
            replace hNR := hide hNR
            have hrow8 : Hid (∀ kk, (Value.slice ca M cc0).ownBlock = some kk → kk < wr.heap.size) := by
              obtain ⟨_, _, row0, _⟩ := RI.segs
              exact rows_lt row0
            have hslt : w.heap.size + 1 < wr.heap.size := lt_of_block RI.box
            have Y0' := hide Y0
            clear hru RI hI bY hwl Y0 hy hym zf
            by_cases hz : yz = nx
            · subst hz
              rw [hY] at e8 e9 T0 T1 T2 z0 z1 z2 y0 y1 y2
              go_wp2_with fail
              rw [← hY]
              rw [← hY] at e8 e9 T0 T1 T2 z0 z1 z2 y0 y1 y2
              replace hY := hide hY
              refine KW.out.mono ?_
              rintro e w5 ⟨rv, rfl, o5, b5⟩
              clear KW hc0 hc1
              have R5 := hide (RY.out.to b5)
              obtain ⟨ra, rc, hrv⟩ := o5.rd.slice
              rw [← hNR.out] at hrv
              subst hrv
              have O5 := hide (o5.mono (B' := 0) (C' := 0) (Nat.zero_le _) (Nat.zero_le _))
              have e8 := (b5.cell (p := ⟨wr.heap.size, 0, none⟩) (cell_lt e8)).trans e8
              have e9 := (b5.cell (p := ⟨wr.heap.size, 1, none⟩) (cell_lt e9)).trans e9
              have hru5 := hide (hru8.out.to b5)
              have B8 := hide ((b5.block _ (lt_of_block Y0'.out)).trans Y0'.out)
              obtain ⟨⟨T0, T1, T2⟩, tf⟩ := cells3 R5.out.box
              obtain ⟨⟨z0, z1, z2⟩, zf⟩ := cells3 R5.out.ans
              have y0 := zf 0
              have y1 := zf 1
              have y2 := zf 2
              dsimp only at T0 T1 T2
              clear RY o5 b5 hru8 Y0' zf
              have hnn : ¬ yz ≠ yz := fun h => h rfl
              by_cases hov : 1099511627776 < yz + (NR : Int)
              · have hE := hide (hstop.out (k + 1) _ (by omega) (hnext.out.trans (wrone_81 hnn (by rw [← hNR.out]; exact hov))))
                have ZB := hide (R5.out.ret (by decide) (by decide) (by decide))
                have ZA := hide R5.out.ans
                clear T0 T2 tf hnn
                go_wp2
                refine retNTT rfl rfl w.heap.size rfl _ _ (0, 0) (heap_set3 (u := w5) ZA.out _ _ _) _ Try.underlying25 rfl info_lgR _ rfl _ rfl ?_
                rw [hE.out]
                exact ⟨_, _, _, rfl, ⟨RdS.nil _ _, RdS.nil _ _, RdS.nil _ _⟩, (ZB.out _ _ _).2.2⟩
              · have hov2 := hide (show yz + (((wrecs yx).length : Nat) : Int) ≤ 1099511627776 by rw [← hNR.out]; omega)
                clear hnn
                go_upto_region 16 with fail
                obtain ⟨bb, hbb⟩ : ∃ b : Bool, b = decide (0 < NW ∨ k = 0) := ⟨_, rfl⟩
                replace hbb := hide hbb
                go_cut [67] from 32 to 101 (fun s wx => s = .bool bb ∧ w5 = wx)
                case first =>
                  by_cases hp0 : 0 < NW
                  · have j0 : (0 : Int) < (NW : Int) := by omega
                    have hb : Hid (bb = true) := hbb.out.trans (decide_eq_true (.inl hp0))
                    go_wp2_with fail
                    go_meet
                    exact ⟨by rw [hb.out], rfl⟩
                  · obtain rfl : NW = 0 := by omega
                    by_cases hp1 : k = 0
                    · have hb : Hid (bb = true) := hbb.out.trans (decide_eq_true (.inr hp1))
                      obtain rfl : k = 0 := hp1
                      replace hp0 := hide hp0
                      go_wp2_with fail
                      go_meet
                      exact ⟨by rw [hb.out], rfl⟩
                    · have hb : Hid (bb = false) := hbb.out.trans (decide_eq_false (fun h => h.elim hp0 hp1))
                      have j1 : ((k : Int) == 0) = false := by simp [hp1]
                      replace hp1 := hide hp1
                      replace hp0 := hide hp0
                      go_wp2_with fail
                      go_meet
                      exact ⟨by rw [hb.out], rfl⟩
                case rest =>
                obtain ⟨rfl, rfl⟩ := hcut
                go_upto_if 67 with fail
                go_cut [] from 32 to 101 (fun wx => ∃ (SS : List Wrt) (cU : Value), Hid (wgone k ((ss, yz), rs) (yz, yx) (wrecs yx) (wn yx) = ((SS, yz + (NR : Int)), rs ++ wrecs yx)) ∧ SS.length ≤ k + 1 ∧ Hid (RInv TSR TLR w wx (.slice oa N oc) cU ((SS, yz), rs) ∧ OwnV 0 0 wx (.slice ra NR rc) (wrecs yx) ∧ wx.heap[wr.heap.size]? = some (.cells #[.int .i64 yz, .slice ua L uc] 57 (0, 0))))
                case first =>
                  by_cases hp : 0 < NW ∨ k = 0
                  · have hb := hbb.out.trans (decide_eq_true hp)
                    clear hbb
                    subst hb
                    have hgone : Hid (wgone k ((ss, yz), rs) (yz, yx) (wrecs yx) (wn yx) = ((ss ++ [(yz, yx.take NW)], yz + (NR : Int)), rs ++ wrecs yx)) := by
                      show _ = _
                      rw [wgone_push (by rw [← hNW.out]; exact hp), ← hNW.out, ← hNR.out]
                    obtain ⟨TK, hTK⟩ : ∃ TK, TK = yx.take NW := ⟨_, rfl⟩
                    rw [← hTK] at hgone
                    have hTKl : TK.length ≤ 140737488355328 := by rw [hTK]; simp; omega
                    have KS := hide (rcopied_any w5.drew _ TK (by rw [hTK]; exact (rd_pre hru5.out hwl1).to (Below.refl _ _).drew) hTKl)
                    have hnc : (NW : Int) ≤ (uc : Int) := by omega
                    replace hTK := hide hTK
                    replace hp := hide hp
                    replace hTKl := hide hTKl
                    have h63 : M + 1 ≤ maxLen := by rw [show maxLen = 9223372036854775807 from rfl]; omega
                    have hby : (M + 1) * 32 ≤ 140737488355328 := by omega
                    go_wp2_with fail
                    refine wp_region_mid (fun w' => w'.cell? ⟨w.heap.size + 1, 0, none⟩ = some (.slice ca M cc0) ∧ w'.cell? ⟨wr.heap.size, 0, none⟩ = some (.int .i64 yz) ∧ w'.cell? ⟨wr.heap.size, 1, none⟩ = some (.slice ua L uc)) 8 11 mixed (by kernel_rfl) (fun _ _ _ _ h => h) ⟨T0, e8, e9⟩ ?_
                    dsimp only [List.take, List.drop]
                    iterate 8
                      refine take_one (v := ?_) (by rfl) ?_ ?_
                      rotate_left
                      · rintro w' ⟨s1, s2, s3⟩
                        go_simp
                        try with_reducible rfl
                      try simp only [Act.put, List.setIfInBounds_toArray, List.set_cons_zero, List.set_cons_succ]
                    refine mid_one fun K hK => ?_
                    refine step_call (by rfl) 37 _ _ (by rfl) #[.slice ua NW uc] (by simp [Act.eval]) (Try.call37 _ _) KS.out ?_
                    rintro e w2 ⟨v2, rfl, o2, b2⟩
                    obtain ⟨av, cv2, hv2⟩ := o2.rd.slice
                    subst hv2
                    have x0 := (b2.cell (p := ⟨w.heap.size + 1, 0, none⟩) (cell_lt T0)).trans T0
                    have x1 := (b2.cell (p := ⟨wr.heap.size, 0, none⟩) (cell_lt e8)).trans e8
                    have x2 := (b2.cell (p := ⟨wr.heap.size, 1, none⟩) (cell_lt e9)).trans e9
                    refine ⟨_, rfl, hK _ _ ⟨x0, x1, x2⟩ ?_⟩
                    clear hK K
                    try simp only [Act.put, List.setIfInBounds_toArray, List.set_cons_zero, List.set_cons_succ]
                    refine mid_one fun K hK => ?_
                    rw [if_pos (by rfl)]
                    go_simp
                    refine hK _ _ ⟨x0, x1, x2⟩ ?_
                    clear hK K
                    refine mid_one fun K hK => ?_
                    rw [if_pos (by rfl)]
                    go_simp
                    refine hK _ _ ⟨cell_alloc x0 _, cell_alloc x1 _, cell_alloc x2 _⟩ ?_
                    clear hK K
                    show wpList _ _ _ _ _ _
                    have bu : Below w5.heap.size w5 (w2.alloc (.cells #[.int .i64 yz, .slice av TK.length cv2] 57)) := ((Below.refl _ _).drew.trans b2).alloc b2.size _
                    obtain ⟨cc, row, fin⟩ := RInv.push (R5.out.to bu) (by decide) (by decide) (by decide) (by decide) (by decide)
                    rw [← hM.out] at row fin
                    have OB : OwnB 0 (w2.alloc (.cells #[.int .i64 yz, .slice av TK.length cv2] 57)) (.slice av TK.length cv2) TK := (o2.mono (Nat.zero_le _)).below (Nat.le_refl _) ((Below.refl _ _).alloc (Nat.le_refl _) _)
                    have FIN : Hid (∀ (g cap : Nat) (w6 : World), (w2.alloc (.cells #[.int .i64 yz, .slice av TK.length cv2] 57)).grownBy w6 (Value.slice ca M cc0).ownBlock → w6.ownsRow 0 57 2 (.slice (some ⟨g, 0, none⟩) (M + 1) cap) (M + 1) (cc ++ [.int .i64 yz, .slice av TK.length cv2]) → ((Value.slice ca M cc0).ownBlock = some g ∨ g = w2.heap.size + 1) →
                        (w6.cell? ⟨w.heap.size + 1, 0, none⟩ = some (.slice ca M cc0) ∧ w6.frozen? ⟨w.heap.size + 1, 0, none⟩ = false) ∧ Hid (RInv TSR TLR w (w6.setCell ⟨w.heap.size + 1, 0, none⟩ (.slice (some ⟨g, 0, none⟩) (M + 1) cap)) (.slice oa N oc) (.slice (some ⟨g, 0, none⟩) (M + 1) cap) ((ss ++ [(yz, TK)], yz), rs) ∧
                          OwnV 0 0 (w6.setCell ⟨w.heap.size + 1, 0, none⟩ (.slice (some ⟨g, 0, none⟩) (M + 1) cap)) (.slice ra NR rc) (wrecs yx) ∧ (w6.setCell ⟨w.heap.size + 1, 0, none⟩ (.slice (some ⟨g, 0, none⟩) (M + 1) cap)).heap[wr.heap.size]? = some (.cells #[.int .i64 yz, .slice ua L uc] 57 (0, 0)))) := fun g cap w6 k3 k4 k5 => by
                      obtain ⟨q0, q1, q2⟩ := fin w6 yz TK _ g cap OB k3 k4 (k5.imp id fun e => by rw [e]; simp)
                      have q2' : ∀ e, e ≠ TSR → e ≠ TLR → KeepT e w5 (w6.setCell ⟨w.heap.size + 1, 0, none⟩ (.slice (some ⟨g, 0, none⟩) (M + 1) cap)) := fun e h1 h2 => (KeepT.below bu).trans (q2 e h1 h2)
                      refine ⟨q0, q1, O5.out.keepT (q2' _ (by decide) (by decide)) (q2' _ (by decide) (by decide)), ?_⟩
                      rw [Below.heap_setCell _ _ _ _ (show wr.heap.size ≠ w.heap.size + 1 by omega)]
                      have hu8 := (bu.block _ (lt_of_block B8.out)).trans B8.out
                      exact (k3.block _ (lt_of_block hu8) (fun e => absurd (hrow8.out _ e.symm) (Nat.lt_irrefl _))).trans hu8
                    replace row := hide row
                    clear fin OB bu o2 b2 KS
                    go_wp2_with (at_builtin; refine wpList_append_lies _ rfl _ _ 22 rfl 0 57 j0 _ 2 32 Try.underlying22 ji jz0 jz1 jz2 rfl (by decide) (.slice ca M cc0) M cc rfl row.out ⟨w2.heap.size, 0, none⟩ 1 1 [.int .i64 yz, .slice av TK.length cv2] rfl rfl (World.news_of_block (heap_alloc_last w2 _)) (by simp [Value.oneCell']) (by decide) h63 hby (Nat.zero_le _) (w2.heap.size + 1) (by simp) ?_; intro gR capR w6 ho6 hg6 hat6 hlt6; obtain ⟨⟨y5, y6⟩, HF⟩ := FIN.out gR capR w6 hg6 ho6 hat6; clear ho6 hg6 hat6)
                    go_meet
                    exact ⟨_, _, hgone, by rw [List.length_append, ← hM.out]; simp; omega, HF⟩
                  · have hb := hbb.out.trans (decide_eq_false hp)
                    clear hbb
                    subst hb
                    have hgone : Hid (wgone k ((ss, yz), rs) (yz, yx) (wrecs yx) (wn yx) = ((ss, yz + (NR : Int)), rs ++ wrecs yx)) := by
                      show _ = _
                      rw [wgone_keep (by rw [← hNW.out]; exact hp), ← hNR.out]
                    replace hp := hide hp
                    have HF : Hid (RInv TSR TLR w w5 (.slice oa N oc) (.slice ca M cc0) ((ss, yz), rs) ∧ OwnV 0 0 w5 (.slice ra NR rc) (wrecs yx) ∧ w5.heap[wr.heap.size]? = some (.cells #[.int .i64 yz, .slice ua L uc] 57 (0, 0))) := ⟨R5.out, O5.out, B8.out⟩
                    go_wp2_with fail
                    go_meet
                    exact ⟨_, _, hgone, by rw [← hM.out]; omega, HF⟩
                case rest =>
                clear hbb

                obtain ⟨SS, cU, hgone, hSl, HF⟩ := hcut
                obtain ⟨da, dc, hcU⟩ := HF.out.1.segs.rd.slice
                dsimp only at hcU
                obtain ⟨M2, hM2⟩ : ∃ M2, M2 = SS.length := ⟨_, rfl⟩
                rw [← hM2] at hcU
                subst hcU
                replace hM2 := hide hM2
                obtain ⟨U, hU⟩ : ∃ U, U = wc := ⟨_, rfl⟩
                rw [← hU] at HF ⊢
                clear hrow8 O5 R5 B8 hru5 T0 T1 T2 tf e8 e9 z0 z1 z2 y0 y1 y2
                have O1 := hide HF.out.1.recs
                have O2 := hide HF.out.2.1
                have hBU := HF.out.1.bel.size
                have hln : (rs.length + (wrecs yx).length) * 24 ≤ 140737488355328 := by rw [← hN.out, ← hNR.out]; omega
                have hw8 : Hid (widx (yz + (NR : Int))) := ⟨by show 0 ≤ yz + (NR : Int); omega, by show yz + (NR : Int) ≤ 1099511627776; omega⟩
                have hrl : Hid ((rs ++ wrecs yx).length ≤ (k + 1) * 2097152) := by show _ ≤ _; rw [List.length_append, ← hN.out, ← hNR.out]; omega
                replace hSl := hide hSl
                have STEP : Hid (∀ (v7 : Value) (w7 : World), OwnV w.heap.size 0 w7 v7 (rs ++ wrecs yx) → Below w.heap.size U w7 → (∀ e, e ≠ 54 → KeepT e U w7) → (w7.cell? ⟨w.heap.size + 1, 1, none⟩ = some (.int .i64 yz) ∧ w7.frozen? ⟨w.heap.size + 1, 1, none⟩ = false) ∧ ∃ w8, w8 = w7.setCell ⟨w.heap.size + 1, 1, none⟩ (.int .i64 (yz + (NR : Int))) ∧ Hid (RInv TSR TLR w w8 v7 (.slice da M2 dc) ((SS, yz + (NR : Int)), rs ++ wrecs yx)) ∧ w8.cell? ⟨wr.heap.size, 1, none⟩ = some (.slice ua L uc)) := fun v7 w7 o7 b7 k7 => by
                  have R7 := HF.out.1.all (by decide) (by decide) o7 b7 k7
                  obtain ⟨⟨_, t1, _⟩, tf7⟩ := cells3 R7.box
                  refine ⟨⟨t1, tf7 1⟩, _, rfl, R7.num (by decide) (by decide) (by decide) _, ?_⟩
                  have q8 := k7 57 (by decide) _ _ _ HF.out.2.2
                  have q9 : (w7.setCell ⟨w.heap.size + 1, 1, none⟩ (.int .i64 (yz + (NR : Int)))).heap[wr.heap.size]? = _ := (Below.heap_setCell _ _ _ _ (show wr.heap.size ≠ w.heap.size + 1 by omega)).trans q8
                  exact (row2_cells q9).2.1
                clear HF
                have hon := hide (fun h3 => hnext.out.trans (wrone_on (fun h => h rfl) (Int.not_lt.2 hov2.out) h3 hgone.out))
                have htorn := hide (fun h3 => hnext.out.trans (wrone_torn (fun h => h rfl) (Int.not_lt.2 hov2.out) h3 hgone.out))
                clear hnext hgone
                go_upto_region 20 with (at_builtin; refine wpList_append_lists2 rfl _ _ rfl w.heap.size 0 0 _ _ _ _ rfl rfl O1.out O2.out hln hBU ?_; intro v7 w7 o7 b7 k7; obtain ⟨va, vc, hv7⟩ := o7.rd.slice; obtain ⟨⟨t71, t7f⟩, w8, hw8e, R8, e81⟩ := STEP.out v7 w7 o7 b7 k7; clear o7 b7 k7; subst hw8e; obtain ⟨N7, hN7⟩ : ∃ N7, N7 = (rs ++ wrecs yx).length := ⟨_, rfl⟩; rw [← hN7] at hv7; replace hN7 := hide hN7; subst hv7)
                obtain ⟨⟨t80, t81, t82⟩, _⟩ := cells3 R8.out.box
                obtain ⟨⟨z80, z81, z82⟩, zf8⟩ := cells3 R8.out.ans
                have y80 := zf8 0
                have y81 := zf8 1
                have y82 := zf8 2
                dsimp only at t80 t81 t82
                obtain ⟨U8, hU8⟩ : ∃ U8, U8 = w7.setCell ⟨w.heap.size + 1, 1, none⟩ (.int .i64 (yz + (NR : Int))) := ⟨_, rfl⟩
                rw [← hU8] at R8 e81 t80 t81 t82 z80 z81 z82 y80 y81 y82 ⊢
                clear zf8 t71 t7f STEP O1 O2
                replace hU8 := hide hU8
                by_cases hnl : NW = L
                · have hq3 : (NW : Int) = (L : Int) := by omega
                  have hW2 := hide (hon.out (fun h => h.1 (by rw [← hNW.out, ← hL.out]; exact hnl)))
                  replace hnl := hide hnl
                  clear t80 t81 t82 z80 z81 z82 y80 y81 y82
                  go_wp2_with fail
                  go_roundw
                  case rel => exact ⟨_, _, _, .int .i64 ((k + 1 : Nat) : Int), ⟨k + 1, by omega, rfl, _, _, _, _, hW2, R8.out, hSl.out, hrl.out, hw8.out⟩, rfl, rfl, rfl, rfl⟩
                  case measure => simp [intOf]; omega
                · have hq3 : ¬ (NW : Int) = (L : Int) := by omega
                  by_cases hlast : k < segs.length - 1
                  · have hq4 : (k : Int) < (segs.length : Int) - 1 := by omega
                    have hE := hide (hstop.out (k + 1) _ (by omega) (htorn.out ⟨by rw [← hNW.out, ← hL.out]; exact hnl, hlast⟩))
                    replace hnl := hide hnl
                    replace hlast := hide hlast
                    go_wp2_with fail
                    refine retNTT rfl rfl w.heap.size rfl _ _ (0, 0) (heap_set3 (u := U8) R8.out.ans _ _ _) _ Try.underlying25 rfl info_lgR _ rfl _ rfl ?_
                    have hFN := R8.out.ret (by decide) (by decide) (by decide)
                    rw [hE.out]
                    exact ⟨_, _, _, rfl, ⟨(hFN _ _ _).1, RdS.nil _ _, (hFN _ _ _).2.1⟩, (hFN _ _ _).2.2⟩
                  · have hq4 : ¬ (k : Int) < (segs.length : Int) - 1 := by omega
                    have hW2 := hide (hon.out (fun h => hlast h.2))
                    replace hnl := hide hnl
                    replace hlast := hide hlast
                    clear t80 t81 t82 z80 z81 z82 y80 y81 y82
                    go_wp2_with fail
                    go_roundw
                    case rel => exact ⟨_, _, _, .int .i64 ((k + 1 : Nat) : Int), ⟨k + 1, by omega, rfl, _, _, _, _, hW2, R8.out, hSl.out, hrl.out, hw8.out⟩, rfl, rfl, rfl, rfl⟩
                    case measure => simp [intOf]; omega
            · have hE := hide (hstop.out (k + 1) _ (by omega) (hnext.out.trans (wrone_21 hz)))
              have hFN := hide (RY.out.ret (by decide) (by decide) (by decide))
              have ZA := hide RY.out.ans
              clear KW RY hru8
              rw [hY] at e8 e9 T0 T1 T2 z0 z1 z2 y0 y1 y2
              go_wp2
              rw [← hY]
              refine retNTT rfl rfl w.heap.size rfl _ _ (0, 0) (heap_set3 (u := Y) ZA.out _ _ _) _ Try.underlying25 rfl info_lgR _ rfl _ rfl ?_
              rw [hE.out]
              exact ⟨_, _, _, rfl, ⟨(hFN.out _ _ _).1, RdS.nil _ _, (hFN.out _ _ _).2.1⟩, (hFN.out _ _ _).2.2⟩
          · have hq : ¬ (k : Int) < (segs.length : Int) := by omega
            obtain rfl : k = segs.length := by omega
            have hE := hide (hend.out _ hW.out)
            have hFN := hide (RI.ret (by decide) (by decide) (by decide))
            have ZA := hide RI.ans
            obtain ⟨⟨T0, T1, T2⟩, _⟩ := cells3 RI.box
            obtain ⟨⟨z0, z1, z2⟩, zf⟩ := cells3 RI.ans
            have y0 := zf 0
            have y1 := zf 1
            have y2 := zf 2
            dsimp only at T0 T1 T2
            clear hI RI zf
            go_wp2
            refine retNTT rfl rfl w.heap.size rfl _ _ (0, 0) (heap_set3 (u := wr) ZA.out _ _ _) _ Try.underlying25 rfl info_lgR _ rfl _ rfl ?_
            rw [hE.out]
            exact ⟨_, _, _, rfl, ⟨(hFN.out _ _ _).1, RdS.nil _ _, (hFN.out _ _ _).2.1⟩, (hFN.out _ _ _).2.2⟩
      · rw [decide_eq_false p1]
        have hE := hide (h81.out p1)
        replace p1 := hide p1
        clear hc0
        go_wp2
        refine retNTT rfl rfl w.heap.size rfl _ _ (0, 0) (heap_set3 (u := V) V0 _ _ _) _ Try.underlying25 rfl info_lgR _ rfl _ rfl ?_
        rw [hE.out]
        exact ⟨_, _, _, rfl, ⟨RdS.nil _ _, RdS.nil _ _, RdS.nil _ _⟩, ZERO.out _ _ _⟩

end Go.Proofs.Ytlnoancjegifnaa
