/-
  One extent appended to a list of the call's own; the page's without.
-/
import Derived.Test.YtacfcgklncckiaaESame
import Derived.Lib.AppendZeros
namespace Go.Proofs.Ytacfcgklncckiaa
open Go.RowKit
set_option linter.unusedVariables false

/-- a list of extents that the call has made, from block B on -/
def OwnE (B : Nat) (w : World) (v : Value) (l : List Ext) : Prop := w.ownsRow B 26 2 v l.length (ecells l)
theorem ecells_app (a b : List Ext) : ecells (a ++ b) = ecells a ++ ecells b := by unfold ecells; rw [List.flatMap_append]
theorem run_append_ext (w : World) {B : Nat} {v : Value} {l : List Ext} (h : OwnE B w v l) (a b : Int) (hl : l.length ≤ 4000000) (hB : B ≤ w.heap.size) :
    ∃ v' w', (Builtin.append_ #[22, 22] 22 #[v, .slice (some ⟨w.heap.size, 0, none⟩) 1 1]).run Try.prog (w.alloc (.cells #[.int .i64 a, .int .i64 b] 26)) = .ok v' w' ∧ OwnE B w' v' (l ++ [(a, b)]) ∧ Below B w w' ∧ w.heap.size ≤ w'.heap.size ∧ ∀ (p i : Nat) (u : Value), w.cell? ⟨p, i, none⟩ = some u → some p ≠ v.ownBlock → w'.cell? ⟨p, i, none⟩ = some u := by
  obtain ⟨i0, hi, hz0, hz1, hz2⟩ := info_parts infoE
  have hc : ∀ j u, [Value.int .i64 a, .int .i64 b][j]? = some u → (w.alloc (.cells #[.int .i64 a, .int .i64 b] 26)).cell? ((⟨w.heap.size, 0, none⟩ : Addr).add j) = some u := by
    intro j u hj
    have ea : (⟨w.heap.size, 0, none⟩ : Addr).add j = ⟨w.heap.size, j, none⟩ := by
      by_cases h0 : j = 0
      · subst h0; simp [Addr.add]
      · simp [Addr.add, h0]
    rw [ea, cell_of_row _ _ j _ _ (0, 0) (heap_alloc_last w _)]
    simpa using hj
  obtain ⟨v', w', hr, ho, hg, _⟩ := run_append_own (P := Try.prog) (w.alloc (.cells #[.int .i64 a, .int .i64 b] 26)) B 22 22 26 i0 (.agg #[.int .i64 0, .int .i64 0]) 2 16 Try.underlying22 hi hz0 hz1 hz2 rfl (by decide) v l.length (ecells l) (World.ownsRow.alloc h _) ⟨w.heap.size, 0, none⟩ 1 1 [.int .i64 a, .int .i64 b] rfl hc (ecells_one [(a, b)]) (by unfold maxLen; omega) (by omega) (by simp; omega)
  have bb : Below B w (w.alloc (.cells #[.int .i64 a, .int .i64 b] 26)) := (Below.refl _ _).alloc hB _
  refine ⟨v', w', hr, ?_, bb.grown hg (by simp; omega) (fun k hk => (World.ownsRow.lt h k hk).1), by have := hg.size; simp at this; omega, fun p i u hp hne => hg.cell (a := ⟨p, i, none⟩) ((World.cell?_of_block (a := ⟨p, i, none⟩) (Below.heap_alloc w _ p (cell_lt hp))).trans hp) hne⟩
  unfold OwnE
  rw [ecells_app, List.length_append]
  exact ho
theorem eCut_len (x y : Ext) : (eCut x y).length ≤ 2 := by
  unfold eCut
  split
  · simp
  · split <;> split <;> simp
theorem eWithout_len (x : Ext) : ∀ l : List Ext, (eWithout l x).length ≤ 2 * l.length
  | [] => by simp [eWithout]
  | y :: r => by
    have := eWithout_len x r
    have := eCut_len x y
    unfold eWithout at *
    rw [List.flatMap_cons, List.length_append, List.length_cons]
    omega
theorem eWithout_take {l : List Ext} {k : Nat} {y x : Ext} (h : l[k]? = some y) : eWithout (l.take (k + 1)) x = eWithout (l.take k) x ++ eCut x y := by
  unfold eWithout
  rw [List.take_add_one, h, List.flatMap_append]
  simp

set_option maxRecDepth 100000 in
set_option maxHeartbeats 2000000 in
theorem without_any (w : World) (v : Value) (l : List Ext) (x : Ext) (n : Int) (h : RdE w v l) (hn : n ≤ 1048576) (hr : eRow n (-1) l) (hx0 : 0 ≤ x.1) (hx1 : 1 ≤ x.2) (hx2 : x.1 + x.2 ≤ n) (hlen : l.length ≤ 1048576) :
    Calls Try.prog 32 #[v, .agg #[.int .i64 x.1, .int .i64 x.2]] w fun e w' => ∃ v', e = .returned v' ∧ OwnE w.heap.size w' v' (eWithout l x) ∧ Below w.heap.size w w' := by
  obtain ⟨a, c, rfl⟩ := h.slice
  obtain ⟨W, hW, D0, D1, bW, sW⟩ := boxed2 w (.int .i64 x.1) (.int .i64 x.2) 26
  have HH := hide (h.to0 bW)
  have HB := hide bW
  have HD := hide (And.intro D0 D1)
  have HR := hide hr
  obtain ⟨x1, x2⟩ := x
  dsimp only at hx0 hx1 hx2 hW HD
  clear h bW hr
  rw [hW] at D0 D1
  dsimp only at D0 D1
  go_enter Try.func32, Try.ntmps32
  go_wp2
  rw [← hW]
  replace hW := hide hW
  clear D0 D1
  go_loopw [5, 6] (fun o i wr => ∃ k : Nat, k ≤ l.length ∧ i = .int .i64 k ∧ Hid (OwnE W.heap.size wr o (eWithout (l.take k) (x1, x2)) ∧ Below W.heap.size W wr)) (fun _ i _ => l.length - (intOf i).toNat)
  case atStart => exact ⟨0, Nat.zero_le _, rfl, hide ⟨World.ownsRow_nil _ _ _ _, Below.refl _ _⟩⟩
  case round =>
    obtain ⟨k, hk, rfl, hH⟩ := hrel
    obtain ⟨ho, hb⟩ := hH.out
    by_cases hlt : k < l.length
    · have hq : (k : Int) < (l.length : Int) := by omega
      obtain ⟨y, hy, hym⟩ := ext_at l hlt
      obtain ⟨y1, y2⟩ := y
      have hyr := eRow_mem HR.out _ hym
      dsimp only at hyr
      obtain ⟨g1, g2, g3, g4⟩ := hyr
      have hT := eWithout_take (x := (x1, x2)) hy
      have hLL : (eWithout (l.take k) (x1, x2)).length ≤ 2100000 := by have := eWithout_len (x1, x2) (l.take k); simp at this; omega
      obtain ⟨b, off, rfl, hc1, hc2⟩ := (HH.out.to0 hb).ext hy
      dsimp only at hc1 hc2
      obtain ⟨U, hU, X0, X1, bU, sU⟩ := boxed2 wr (.int .i64 y1) (.int .i64 y2) 26
      have D0 := (hb.cell (cell_lt HD.out.1)).trans HD.out.1
      have D1 := (hb.cell (cell_lt HD.out.2)).trans HD.out.2
      replace D0 := (bU.cell (cell_lt D0)).trans D0
      replace D1 := (bU.cell (cell_lt D1)).trans D1
      have oU : OwnE W.heap.size U u5 (eWithout (l.take k) (x1, x2)) := by rw [hU]; exact World.ownsRow.alloc ho _
      have cU := hb.trans (bU.mono hb.size)
      have hBU : W.heap.size ≤ U.heap.size := cU.size
      replace hT := hide hT
      have hWw : w.heap.size < W.heap.size := by omega
      by_cases cA : x1 < y1
      · have hC : Hid (eCut (x1, x2) (y1, y2) = [(y1, y2)]) := by show _ = _; unfold eCut; rw [if_pos (.inl cA)]
        obtain ⟨v6, w6, hr6, o6, b6, s6, k6⟩ := run_append_ext U oU (y1) (y2) (by omega) hBU
        have O6 := hide (And.intro o6 (cU.trans b6))
        rw [sU, hU] at hr6
        rw [hU] at X0 X1 D0 D1
        clear o6 b6 k6 ho hb hH oU cU
        go_wp2_with (at_builtin; refine Lib.wpList_append_run _ rfl _ _ _ _ rfl _ _ rfl rfl _ _ hr6 ?_)
        go_roundw
        case rel => exact ⟨k + 1, by omega, by go_num, hide ⟨by rw [hT.out, hC.out]; exact O6.out.1, O6.out.2⟩⟩
        case measure => simp [intOf]; omega
      by_cases cB : y1 + y2 ≤ x1
      · have hC : Hid (eCut (x1, x2) (y1, y2) = [(y1, y2)]) := by show _ = _; unfold eCut; rw [if_pos (.inr cB)]
        obtain ⟨v6, w6, hr6, o6, b6, s6, k6⟩ := run_append_ext U oU (y1) (y2) (by omega) hBU
        have O6 := hide (And.intro o6 (cU.trans b6))
        rw [sU, hU] at hr6
        rw [hU] at X0 X1 D0 D1
        clear o6 b6 k6 ho hb hH oU cU
        go_wp2_with (at_builtin; refine Lib.wpList_append_run _ rfl _ _ _ _ rfl _ _ rfl rfl _ _ hr6 ?_)
        go_roundw
        case rel => exact ⟨k + 1, by omega, by go_num, hide ⟨by rw [hT.out, hC.out]; exact O6.out.1, O6.out.2⟩⟩
        case measure => simp [intOf]; omega
      have cA' : y1 ≤ x1 := by omega
      have cB' : x1 < y1 + y2 := by omega
      by_cases cC : y1 < x1
      · by_cases cD : 0 < y1 + y2 - x1 - x2
        · have hC : Hid (eCut (x1, x2) (y1, y2) = [(y1, x1 - y1)] ++ [(x1 + x2, y1 + y2 - x1 - x2)]) := by show _ = _; unfold eCut; dsimp only; rw [if_neg (by omega), if_pos cC, if_pos cD]
          obtain ⟨v6, w6, hr6, o6, b6, s6, k6⟩ := run_append_ext U oU y1 (x1 - y1) (by omega) hBU
          have D0' := k6 _ _ _ D0 (fun e => by have := (World.ownsRow.lt ho _ e.symm).1; omega)
          have D1' := k6 _ _ _ D1 (fun e => by have := (World.ownsRow.lt ho _ e.symm).1; omega)
          have X0' := k6 _ _ _ X0 (fun e => by have := (World.ownsRow.lt ho _ e.symm).2; omega)
          have X1' := k6 _ _ _ X1 (fun e => by have := (World.ownsRow.lt ho _ e.symm).2; omega)
          rw [sU, hU] at hr6
          rw [hU] at X0 X1 D0 D1
          
          obtain ⟨v7, w7, hr7, o7, b7, s7, k7⟩ := run_append_ext w6 o6 (x1 + x2) (y1 + y2 - x1 - x2) (by simp; omega) (by omega)
          rw [List.append_assoc] at o7
          have O6 := hide (And.intro o7 ((cU.trans b6).trans b7))
          clear o6 b6 k6 o7 b7 k7 ho hb hH oU cU
          go_wp2_with (at_builtin; first | refine Lib.wpList_append_run _ rfl _ _ _ _ rfl _ _ rfl rfl _ _ hr6 ?_ | refine Lib.wpList_append_run _ rfl _ _ _ _ rfl _ _ rfl rfl _ _ hr7 ?_)
          go_roundw
          case rel => exact ⟨k + 1, by omega, by go_num, hide ⟨by rw [hT.out, hC.out]; exact O6.out.1, O6.out.2⟩⟩
          case measure => simp [intOf]; omega
        · have hC : Hid (eCut (x1, x2) (y1, y2) = [(y1, x1 - y1)]) := by show _ = _; unfold eCut; dsimp only; rw [if_neg (by omega), if_pos cC, if_neg cD]; rfl
          obtain ⟨v6, w6, hr6, o6, b6, s6, k6⟩ := run_append_ext U oU y1 (x1 - y1) (by omega) hBU
          have D0' := k6 _ _ _ D0 (fun e => by have := (World.ownsRow.lt ho _ e.symm).1; omega)
          have D1' := k6 _ _ _ D1 (fun e => by have := (World.ownsRow.lt ho _ e.symm).1; omega)
          have X0' := k6 _ _ _ X0 (fun e => by have := (World.ownsRow.lt ho _ e.symm).2; omega)
          have X1' := k6 _ _ _ X1 (fun e => by have := (World.ownsRow.lt ho _ e.symm).2; omega)
          rw [sU, hU] at hr6
          rw [hU] at X0 X1 D0 D1
          
          have O6 := hide (And.intro o6 (cU.trans b6))
          clear o6 b6 k6 ho hb hH oU cU
          go_wp2_with (at_builtin; refine Lib.wpList_append_run _ rfl _ _ _ _ rfl _ _ rfl rfl _ _ hr6 ?_)
          go_roundw
          case rel => exact ⟨k + 1, by omega, by go_num, hide ⟨by rw [hT.out, hC.out]; exact O6.out.1, O6.out.2⟩⟩
          case measure => simp [intOf]; omega
      have cC' : ¬ y1 < x1 := cC
      by_cases cD : 0 < y1 + y2 - x1 - x2
      · have hC : Hid (eCut (x1, x2) (y1, y2) = [(x1 + x2, y1 + y2 - x1 - x2)]) := by show _ = _; unfold eCut; dsimp only; rw [if_neg (by omega), if_neg cC, if_pos cD]; rfl
        obtain ⟨v6, w6, hr6, o6, b6, s6, k6⟩ := run_append_ext U oU (x1 + x2) (y1 + y2 - x1 - x2) (by omega) hBU
        have O6 := hide (And.intro o6 (cU.trans b6))
        rw [sU, hU] at hr6
        rw [hU] at X0 X1 D0 D1
        clear o6 b6 k6 ho hb hH oU cU
        go_wp2_with (at_builtin; refine Lib.wpList_append_run _ rfl _ _ _ _ rfl _ _ rfl rfl _ _ hr6 ?_)
        go_roundw
        case rel => exact ⟨k + 1, by omega, by go_num, hide ⟨by rw [hT.out, hC.out]; exact O6.out.1, O6.out.2⟩⟩
        case measure => simp [intOf]; omega
      · have hC : Hid (eCut (x1, x2) (y1, y2) = []) := by show _ = _; unfold eCut; dsimp only; rw [if_neg (by omega), if_neg cC, if_neg cD]; rfl
        have O6 := hide (And.intro oU cU)
        rw [hU] at X0 X1 D0 D1
        clear ho hb hH oU cU
        go_wp2
        rw [← hU]
        go_roundw
        case rel => exact ⟨k + 1, by omega, by go_num, hide ⟨by rw [hT.out, hC.out, List.append_nil]; exact O6.out.1, O6.out.2⟩⟩
        case measure => simp [intOf]; omega
    · have hq : ¬ (k : Int) < (l.length : Int) := by omega
      rw [List.take_of_length_le (by omega)] at ho
      have O6 := hide (And.intro ho (HB.out.trans (hb.mono HB.out.size)))
      clear ho hb hH
      go_wp2
      go_ret
      refine ⟨_, rfl, rows_base O6.out.1 (fun g hg => ?_), O6.out.2⟩
      have := (World.ownsRow.lt O6.out.1 g hg).1
      omega

end Go.Proofs.Ytacfcgklncckiaa
