/-
  The page's Check of logs.
-/
import Derived.Test.YtlnoancjegifnaaWWholeR
namespace Go.Proofs.Ytlnoancjegifnaa
open Go.RowKit
set_option linter.unusedVariables false

theorem cells3 {w : World} {g : Nat} {a b c : Value} {t : TypeId} (h : w.heap[g]? = some (.cells #[a, b, c] t (0, 0))) :
    (w.cell? ⟨g, 0, none⟩ = some a ∧ w.cell? ⟨g, 1, none⟩ = some b ∧ w.cell? ⟨g, 2, none⟩ = some c) ∧ ∀ i, w.frozen? ⟨g, i, none⟩ = false := by
  refine ⟨⟨?_, ?_, ?_⟩, fun i => ?_⟩
  · rw [cell_of_row _ _ 0 _ _ (0, 0) h]; rfl
  · rw [cell_of_row _ _ 1 _ _ (0, 0) h]; rfl
  · rw [cell_of_row _ _ 2 _ _ (0, 0) h]; rfl
  · simp [World.frozen?, h]
theorem not_wok_segs {l : Wlg} (h : 4096 < l.1.length) : ¬ WOk l := fun k => by have := k.1.1; omega
theorem not_wok_idx {l : Wlg} (h : ¬ widx l.2.1) : ¬ WOk l := fun k => h k.1.2.1
theorem not_wok_wait {l : Wlg} (h : 4096 < l.2.2.length) : ¬ WOk l := fun k => by have := k.1.2.2; omega
theorem not_wok_rec {l : Wlg} {r : List UInt8} {k : Nat} (hr : l.2.2[k]? = some r) (h : 4096 < r.length) : ¬ WOk l := fun q => by have := q.2.1 r (List.mem_of_getElem? hr); omega
theorem not_wok_seg {l : Wlg} {s : Wrt} {k : Nat} (hs : l.1[k]? = some s) (h : ¬ wsegOk l.1 l.2.1 k s) : ¬ WOk l := fun q => h (q.2.2.1 k s hs)
theorem wst_next {segs : List Wrt} {next : Int} {k : Nat} {s : Wrt} (hs : segs[k]? = some s) : wst segs next (k + 1) = s.1 + ((wrecs s.2).length : Nat) := by
  simp only [wst, getD_some hs]

set_option maxRecDepth 100000 in
set_option maxHeartbeats 4000000 in
theorem rwcheck_any (w : World) (sv wv : Value) (l : Wlg) (h1 : RdC w sv l.1) (h2 : RdSec w wv l.2.2) (hm : ∀ s ∈ l.1, s.2.length ≤ 16777216) :
    Calls Try.prog 23 #[.agg #[sv, .int .i64 l.2.1, wv]] w fun e w' => e = .returned (.int .i64 (wcheck l)) ∧ Below w.heap.size w w' := by
  have lb1 := h1.bd
  have lb2 := h2.bd
  obtain ⟨a1, c1, rfl⟩ := h1.slice
  obtain ⟨a2, c2, rfl⟩ := h2.slice
  obtain ⟨X, hX, X0, bX, sX⟩ := boxedN w #[.slice a1 l.1.length c1, .int .i64 l.2.1, .slice a2 l.2.2.length c2] 25
  obtain ⟨⟨A0, A1, A2⟩, _⟩ := cells3 X0
  have G1 := hide (h1.to0 bX)
  have G2 := hide (h2.to0 bX)
  have HX := hide X0
  rw [hX] at A0 A1 A2
  have KI := hide (rindex_any X l.2.1)
  have BX := hide bX
  clear h1 h2 X0 bX
  obtain ⟨segs, next, wait⟩ := l
  dsimp only at *
  go_enter Try.func23, Try.ntmps23
  by_cases q1 : 4096 < segs.length
  · have hq1 : (4096 : Int) < (segs.length : Int) := by omega
    have hE := hide (wcheck_no (l := (segs, next, wait)) (not_wok_segs q1))
    go_wp2
    go_ret
    exact ⟨ret_int hE.out.symm, by rw [← hX]; exact BX.out⟩
  · have hq1 : ¬ (4096 : Int) < (segs.length : Int) := by omega
    go_wp2_with fail
    rw [← hX]
    rw [← hX] at A0 A1 A2
    replace hX := hide hX
    refine KI.out.mono ?_
    rintro e w' ⟨rfl, rfl⟩
    clear KI
    by_cases q2 : widx next
    · rw [decide_eq_true q2]
      by_cases q3 : 4096 < wait.length
      · have hq3 : (4096 : Int) < (wait.length : Int) := by omega
        have hE := hide (wcheck_no (l := (segs, next, wait)) (not_wok_wait q3))
        go_wp2
        go_ret
        exact ⟨ret_int hE.out.symm, BX.out⟩
      · have hq3 : ¬ (4096 : Int) < (wait.length : Int) := by omega
        replace q2 := hide q2
        go_wp2
        go_loopw [3] (fun i wr => ∃ K : Nat, K ≤ wait.length ∧ i = .int .i64 K ∧ X = wr ∧ Hid (∀ j r, j < K → wait[j]? = some r → r.length ≤ 4096)) (fun i _ => wait.length - (intOf i).toNat)
        case atStart => exact ⟨0, Nat.zero_le _, rfl, rfl, hide (fun j r hj => by omega)⟩
        case round =>
          obtain ⟨K, hK, rfl, rfl, hI⟩ := hrel
          by_cases hlt : K < wait.length
          · have hq : (K : Int) < (wait.length : Int) := by omega
            obtain ⟨r, hr, _⟩ := some_at wait hlt
            obtain ⟨b1, o1, u, rfl, hc, hru⟩ := G2.out.oct hr
            obtain ⟨ua, uc, rfl⟩ := hru.slice
            by_cases hl : 4096 < r.length
            · have hql : (4096 : Int) < (r.length : Int) := by omega
              have hE := hide (wcheck_no (l := (segs, next, wait)) (not_wok_rec (k := K) hr hl))
              clear hru hr
              go_wp2
              go_ret
              exact ⟨ret_int hE.out.symm, BX.out⟩
            · have hql : ¬ (4096 : Int) < (r.length : Int) := by omega
              have hI' : Hid (∀ j r, j < K + 1 → wait[j]? = some r → r.length ≤ 4096) := fun j r' hj hr' => by
                by_cases e : j = K
                · subst e; rw [hr] at hr'; cases hr'; omega
                · exact hI.out j r' (by omega) hr'
              clear hru hr
              go_wp2
              go_roundw
              case rel => exact ⟨K + 1, by omega, by go_num, trivial, hI'⟩
              case measure => simp [intOf]; omega
          · have hq : ¬ (K : Int) < (wait.length : Int) := by omega
            obtain rfl : K = wait.length := by omega
            have hW : Hid (wwaitOk wait) := fun r hr => by
              obtain ⟨j, hj, e⟩ := List.mem_iff_getElem.1 hr
              exact hI.out j r hj (by rw [List.getElem?_eq_getElem hj, e])
            clear hI
            go_wp2
            clear A0 A1 A2
            go_loopw [4, 5] (fun n i wr => ∃ K : Nat, K ≤ segs.length ∧ i = .int .i64 K ∧ n = .int .i64 (wst segs next K) ∧ Hid (Below X.heap.size X wr ∧ ∀ j s, j < K → segs[j]? = some s → wsegOk segs next j s)) (fun _ i _ => segs.length - (intOf i).toNat)
            case atStart => exact ⟨0, Nat.zero_le _, rfl, rfl, hide ⟨Below.refl _ _, fun j s hj => by omega⟩⟩
            case round =>
              obtain ⟨K, hK, rfl, rfl, hI⟩ := hrel
              obtain ⟨⟨A0, A1, A2⟩, _⟩ := cells3 ((hI.out.1.block _ (lt_of_block HX.out)).trans HX.out)
              obtain ⟨N, hN⟩ : ∃ N, N = wst segs next K := ⟨_, rfl⟩
              rw [← hN]
              have hN' := hide hN
              by_cases hlt : K < segs.length
              · have hq : (K : Int) < (segs.length : Int) := by omega
                obtain ⟨y, hy, hym⟩ := some_at segs hlt
                obtain ⟨b1, o1, u, rfl, hc0, hc1, hru⟩ := (G1.out.to0 hI.out.1).wrt hy
                have hyl := hm y hym
                have hnok := hide (fun h => wcheck_no (not_wok_seg (l := (segs, next, wait)) (k := K) hy h))
                have hst := hide (wst_next (next := next) hy)
                obtain ⟨yz, yx⟩ := y
                dsimp only at hc0 hc1 hru hyl hst
                obtain ⟨ua, uc, rfl⟩ := hru.slice
                obtain ⟨Y, hY, Y0, bY, sY⟩ := boxedN wr #[.int .i64 yz, .slice ua yx.length uc] 57
                obtain ⟨y0, y1, _, _⟩ := row2_cells Y0
                have KI := hide (rindex_any Y yz)
                have KW := hide (rwhole_any Y _ yx (hru.to bY) hyl)
                have cY := hide (hI.out.1.trans (bY.mono hI.out.1.size))
                have Y0' := hide Y0
                rw [hY] at y0 y1
                have hwl := wn_le yx
                have hwl2 := hide hwl.1
                have hwr := hwl.2.1
                clear hru bY Y0 hwl hN
                go_wp2_with fail
                rw [← hY]
                rw [← hY] at y0 y1
                replace hY := hide hY
                refine KI.out.mono ?_
                rintro e w' ⟨rfl, rfl⟩
                clear KI
                by_cases p1 : widx yz
                · rw [decide_eq_true p1]
                  have hp2 : Hid (0 < K → yz ≠ N → wcheck (segs, next, wait) = 9) := fun hk hn => hnok.out (fun h => hn (by rw [hN'.out]; exact h.1.2 hk))
                  by_cases p2 : 0 < K ∧ yz ≠ N
                  · have hE := hide (hp2.out p2.1 p2.2)
                    have hkq : (0 : Int) < (K : Int) := by omega
                    have hne : (yz != N) = true := by simpa using p2.2
                    replace p1 := hide p1
                    replace p2 := hide p2
                    go_wp2
                    go_ret
                    exact ⟨ret_int hE.out.symm, BX.out.trans (cY.out.mono BX.out.size)⟩
                  · have hcond : Hid (widx yz ∧ (0 < K → yz = wst segs next K)) := ⟨p1, fun hk => by
                      rw [← hN'.out]
                      exact Decidable.byContradiction fun h => p2 ⟨hk, h⟩⟩
                    have hb1 := p1.1
                    have hb2 := p1.2
                    replace p1 := hide p1
                    by_cases hk0 : 0 < K
                    · have hkq : (0 : Int) < (K : Int) := by omega
                      obtain rfl : N = yz := by rw [hN'.out]; exact (hcond.out.2 hk0).symm
                      clear p2
                      go_wp2_with fail
                      refine KW.out.mono ?_
                      rintro e w5 ⟨rv, rfl, o5, b5⟩
                      clear KW
                      obtain ⟨ra, rc, hrv⟩ := o5.rd.slice
                      subst hrv
                      replace y0 := (b5.cell (cell_lt y0)).trans y0
                      replace y1 := (b5.cell (cell_lt y1)).trans y1
                      have c5 := hide (cY.out.trans (b5.mono cY.out.size))
                      obtain ⟨RL, hRL⟩ : ∃ RL, RL = (wrecs yx).length := ⟨_, rfl⟩
                      obtain ⟨WN, hWN⟩ : ∃ WN, WN = wn yx := ⟨_, rfl⟩
                      rw [← hRL] at hwr hst ⊢
                      rw [← hWN]
                      replace hRL := hide hRL
                      clear o5 b5
                      by_cases p3 : WN = yx.length
                      · have hok : Hid (∀ j s, j < K + 1 → segs[j]? = some s → wsegOk segs next j s) := fun j s hj hs => by
                          by_cases e : j = K
                          · subst e; rw [hy] at hs; cases hs; exact ⟨hcond.out, by rw [← hWN]; exact p3⟩
                          · exact hI.out.2 j s (by omega) hs
                        clear hWN
                        subst p3
                        go_wp2
                        go_roundw
                        case rel => exact ⟨K + 1, by omega, by go_num, by rw [hst.out], hide ⟨c5.out, hok.out⟩⟩
                        case measure => simp [intOf]; omega
                      · have hE := hide (hnok.out (fun h => p3 (by rw [hWN]; exact h.2)))
                        have hne : ((WN : Int) != (yx.length : Int)) = true := by simp only [bne_iff_ne]; omega
                        clear hWN
                        replace p3 := hide p3
                        go_wp2
                        go_ret
                        exact ⟨ret_int hE.out.symm, BX.out.trans (c5.out.mono BX.out.size)⟩
                    · have hkq : ¬ (0 : Int) < (K : Int) := by omega
                      clear p2
                      go_wp2_with fail
                      refine KW.out.mono ?_
                      rintro e w5 ⟨rv, rfl, o5, b5⟩
                      clear KW
                      obtain ⟨ra, rc, hrv⟩ := o5.rd.slice
                      subst hrv
                      replace y0 := (b5.cell (cell_lt y0)).trans y0
                      replace y1 := (b5.cell (cell_lt y1)).trans y1
                      have c5 := hide (cY.out.trans (b5.mono cY.out.size))
                      obtain ⟨RL, hRL⟩ : ∃ RL, RL = (wrecs yx).length := ⟨_, rfl⟩
                      obtain ⟨WN, hWN⟩ : ∃ WN, WN = wn yx := ⟨_, rfl⟩
                      rw [← hRL] at hwr hst ⊢
                      rw [← hWN]
                      replace hRL := hide hRL
                      clear o5 b5
                      by_cases p3 : WN = yx.length
                      · have hok : Hid (∀ j s, j < K + 1 → segs[j]? = some s → wsegOk segs next j s) := fun j s hj hs => by
                          by_cases e : j = K
                          · subst e; rw [hy] at hs; cases hs; exact ⟨hcond.out, by rw [← hWN]; exact p3⟩
                          · exact hI.out.2 j s (by omega) hs
                        clear hWN
                        subst p3
                        go_wp2
                        go_roundw
                        case rel => exact ⟨K + 1, by omega, by go_num, by rw [hst.out], hide ⟨c5.out, hok.out⟩⟩
                        case measure => simp [intOf]; omega
                      · have hE := hide (hnok.out (fun h => p3 (by rw [hWN]; exact h.2)))
                        have hne : ((WN : Int) != (yx.length : Int)) = true := by simp only [bne_iff_ne]; omega
                        clear hWN
                        replace p3 := hide p3
                        go_wp2
                        go_ret
                        exact ⟨ret_int hE.out.symm, BX.out.trans (c5.out.mono BX.out.size)⟩
                · rw [decide_eq_false p1]
                  have hE := hide (hnok.out (fun h => p1 h.1.1))
                  replace p1 := hide p1
                  go_wp2
                  go_ret
                  exact ⟨ret_int hE.out.symm, BX.out.trans (cY.out.mono BX.out.size)⟩
              · have hq : ¬ (K : Int) < (segs.length : Int) := by omega
                obtain rfl : K = segs.length := by omega
                have hall : Hid (∀ k s, segs[k]? = some s → wsegOk segs next k s) := fun k s hs => hI.out.2 k s (List.getElem?_eq_some_iff.1 hs).1 hs
                have cF := hide (BX.out.trans (hI.out.1.mono BX.out.size))
                by_cases hf : N = next
                · have hE := hide (wcheck_ok (l := (segs, next, wait)) ⟨⟨by show segs.length ≤ 4096; omega, q2.out, by show wait.length ≤ 4096; omega⟩, hW.out, hall.out, by rw [hN] at hf; exact hf⟩)
                  clear hN
                  subst hf
                  go_wp2
                  go_ret
                  exact ⟨ret_int hE.out.symm, cF.out⟩
                · have hE := hide (wcheck_no (l := (segs, next, wait)) (fun h => hf (by rw [hN]; exact h.2.2.2)))
                  have hne : (N != next) = true := by simpa using hf
                  clear hN
                  replace hf := hide hf
                  go_wp2
                  go_ret
                  exact ⟨ret_int hE.out.symm, cF.out⟩
    · rw [decide_eq_false q2]
      have hE := hide (wcheck_no (l := (segs, next, wait)) (not_wok_idx q2))
      replace q2 := hide q2
      go_wp2
      go_ret
      exact ⟨ret_int hE.out.symm, BX.out⟩

end Go.Proofs.Ytlnoancjegifnaa
