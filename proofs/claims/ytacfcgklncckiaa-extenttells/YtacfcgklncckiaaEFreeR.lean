/-
  The page's Free of extents.
-/
import Derived.Test.YtacfcgklncckiaaETakeR
namespace Go.Proofs.Ytacfcgklncckiaa
open Go.RowKit
set_option linter.unusedVariables false

/-- in the loop: the map's box, the extent's, the answer's; what is laid already -/
def FInv (w : World) (n : Int) (fv : Value) (x : Ext) (o : Value) (out : List Ext) (wr : World) : Prop :=
  Below w.heap.size w wr ∧ w.heap.size + 3 ≤ wr.heap.size ∧ wr.heap[w.heap.size]? = some (.cells #[.int .i64 n, fv] 24 (0, 0)) ∧ wr.heap[w.heap.size + 1]? = some (.cells #[.int .i64 x.1, .int .i64 x.2] 26 (0, 0)) ∧ wr.heap[w.heap.size + 1 + 1]? = some (.cells #[.int .i64 0, .slice none 0 0] 24 (0, 0)) ∧ OwnE (w.heap.size + 3) wr o out
theorem FInv.to {w : World} {n : Int} {fv : Value} {x : Ext} {o : Value} {out : List Ext} {wr w' : World} (h : FInv w n fv x o out wr) (hb : Below wr.heap.size wr w') : FInv w n fv x o out w' :=
  ⟨h.1.trans (hb.mono h.1.size), by have := h.2.1; have := hb.size; omega, (hb.block _ (lt_of_block h.2.2.1)).trans h.2.2.1, (hb.block _ (lt_of_block h.2.2.2.1)).trans h.2.2.2.1, (hb.block _ (lt_of_block h.2.2.2.2.1)).trans h.2.2.2.2.1, OwnE.to h.2.2.2.2.2 hb⟩
theorem FInv.app {w : World} {n : Int} {fv : Value} {x : Ext} {o o' : Value} {out out' : List Ext} {wr w' : World} (h : FInv w n fv x o out wr) (hb : Below (w.heap.size + 3) wr w') (hs : wr.heap.size ≤ w'.heap.size) (ho : OwnE (w.heap.size + 3) w' o' out') : FInv w n fv x o' out' w' :=
  ⟨h.1.trans (hb.mono (by omega)), by have := h.2.1; omega, (hb.block _ (by omega)).trans h.2.2.1, (hb.block _ (by omega)).trans h.2.2.2.1, (hb.block _ (by omega)).trans h.2.2.2.2.1, ho⟩
theorem FInv.x1 {w : World} {n : Int} {fv : Value} {x : Ext} {o : Value} {out : List Ext} {wr : World} (h : FInv w n fv x o out wr) (b : Int) : FInv w n fv (x.1, b) o out (wr.setCell ⟨w.heap.size + 1, 1, none⟩ (.int .i64 b)) := by
  refine ⟨h.1.setCell (p := ⟨w.heap.size + 1, 1, none⟩) (show w.heap.size ≤ w.heap.size + 1 by omega) _, by have := h.2.1; simpa using this, (Below.heap_setCell _ _ _ _ (show w.heap.size ≠ w.heap.size + 1 by omega)).trans h.2.2.1, ?_, (Below.heap_setCell _ _ _ _ (show w.heap.size + 1 + 1 ≠ w.heap.size + 1 by omega)).trans h.2.2.2.2.1, ownsRow_setCell_below h.2.2.2.2.2 (a := ⟨w.heap.size + 1, 1, none⟩) (show w.heap.size + 1 < w.heap.size + 3 by omega) _⟩
  simp [World.setCell, Array.getElem?_modify, h.2.2.2.1]
theorem FInv.x0 {w : World} {n : Int} {fv : Value} {x : Ext} {o : Value} {out : List Ext} {wr : World} (h : FInv w n fv x o out wr) (a : Int) : FInv w n fv (a, x.2) o out (wr.setCell ⟨w.heap.size + 1, 0, none⟩ (.int .i64 a)) := by
  refine ⟨h.1.setCell (p := ⟨w.heap.size + 1, 0, none⟩) (show w.heap.size ≤ w.heap.size + 1 by omega) _, by have := h.2.1; simpa using this, (Below.heap_setCell _ _ _ _ (show w.heap.size ≠ w.heap.size + 1 by omega)).trans h.2.2.1, ?_, (Below.heap_setCell _ _ _ _ (show w.heap.size + 1 + 1 ≠ w.heap.size + 1 by omega)).trans h.2.2.2.2.1, ownsRow_setCell_below h.2.2.2.2.2 (a := ⟨w.heap.size + 1, 0, none⟩) (show w.heap.size + 1 < w.heap.size + 3 by omega) _⟩
  simp [World.setCell, Array.getElem?_modify, h.2.2.2.1]
def eDone (n : Int) : Option (List Ext) → EMap × Int
  | some l => ((n, l), 0)
  | none => ((0, []), 52)
theorem efree_eq {m : EMap} {x : Ext} (h : easked m x = 0) : efree m x = eDone m.1 (eLay m.2 [] false x) := by
  unfold efree eDone
  rw [if_neg (fun k => k h)]
  cases eLay m.2 [] false x <;> rfl
theorem drop_at {l : List Ext} {k : Nat} {y : Ext} (h : l[k]? = some y) : l.drop k = y :: l.drop (k + 1) := by
  obtain ⟨hk, e⟩ := List.getElem?_eq_some_iff.1 h
  rw [List.drop_eq_getElem_cons hk, e]

set_option maxRecDepth 100000 in
set_option maxHeartbeats 4000000 in
theorem rfree_any (w : World) (fv : Value) (m : EMap) (x : Ext) (h : RdE w fv m.2) (hin : eIn m.2) (hx : x.1 ≤ 9223372036854775807) :
    Calls Try.prog 15 #[.agg #[.int .i64 m.1, fv], .agg #[.int .i64 x.1, .int .i64 x.2]] w fun e w' => ∃ fv', e = .returned (.tuple #[.agg #[.int .i64 (efree m x).1.1, fv'], .int .i64 (efree m x).2]) ∧ OwnE w.heap.size w' fv' (efree m x).1.2 ∧ Below w.heap.size w w' := by
  have lb := h.bd
  obtain ⟨a, c, rfl⟩ := h.slice
  obtain ⟨U, hU, U0, bU, sU⟩ := boxed2b w (.int .i64 m.1) (.slice a m.2.length c) 24
  obtain ⟨V, hV, V0, bV, sV⟩ := boxed2b U (.int .i64 x.1) (.int .i64 x.2) 26
  obtain ⟨W, hW, W0, bW, sW⟩ := boxed2b V (.int .i64 0) (.slice none 0 0) 24
  have cV := bU.trans (bV.mono bU.size)
  have cW := cV.trans (bW.mono cV.size)
  rw [sU] at V0
  rw [sV, sU] at W0
  replace U0 := (bW.block w.heap.size (by omega)).trans ((bV.block w.heap.size (by omega)).trans U0)
  replace V0 := (bW.block (w.heap.size + 1) (by omega)).trans V0
  have hsz : W.heap.size = w.heap.size + 3 := by omega
  have K0 := hide (asked_any W _ m x (h.to0 cW) hin hx)
  have HH := hide h
  have hB : Hid (∀ w2, Below W.heap.size W w2 → FInv w m.1 (.slice a m.2.length c) x (.slice none 0 0) [] w2) := fun w2 b2 =>
    ⟨cW.trans (b2.mono cW.size), by have := b2.size; omega, (b2.block _ (by omega)).trans U0, (b2.block _ (by omega)).trans V0, (b2.block _ (by omega)).trans W0, ownE_nil _ _⟩
  obtain ⟨A0, A1, _, _⟩ := cells2 U0
  obtain ⟨D0, D1, _, _⟩ := cells2 V0
  rw [hW, hV, hU] at A0 A1 D0 D1
  clear U0 V0 W0 bU bV bW cV cW h
  have hNo := hide (efree_no (m := m) (x := x))
  have hEq := hide (efree_eq (m := m) (x := x))
  obtain ⟨x1, x2⟩ := x
  dsimp only at *
  go_enter Try.func15, Try.ntmps15
  go_wp2_with fail
  rw [← hU, ← hV, ← hW]
  replace hU := hide hU
  replace hV := hide hV
  replace hW := hide hW
  clear A0 A1 D0 D1
  refine K0.out.mono ?_
  rintro e w1 ⟨rfl, b1⟩
  have F1 := hide (hB.out w1 b1)
  clear K0 b1
  by_cases hok : easked m (x1, x2) = 0
  · obtain ⟨hok2, hx1, hx2, hx3⟩ := easked_ok hok
    dsimp only at hx1 hx2 hx3
    have hm1 := hok2.2.1
    have hlen := eOk_len2 hok2
    have HOK := hide hok2
    have HE := hEq.out hok
    obtain ⟨E0, hE0⟩ : ∃ E0, E0 = eLay m.2 [] false (x1, x2) := ⟨_, rfl⟩
    rw [← hE0] at HE
    replace HE := hide HE
    replace hE0 := hide hE0
    rw [hok]
    clear hok hok2 hEq hNo
    go_wp2
    go_loopw [7, 8, 9] (fun o b i wr => ∃ (k : Nat) (out : List Ext) (laid : Bool) (p q : Int), k ≤ m.2.length ∧ i = .int .i64 k ∧ b = .bool laid ∧ (0 ≤ p ∧ 1 ≤ q ∧ p + q ≤ m.1) ∧ out.length ≤ 2 * k + 1 ∧ Hid (FInv w m.1 (.slice a m.2.length c) (p, q) o out wr ∧ E0 = eLay (m.2.drop k) out laid (p, q))) (fun _ _ i _ => m.2.length - (intOf i).toNat)
    case atStart => exact ⟨0, [], false, x1, x2, Nat.zero_le _, rfl, rfl, ⟨hx2, hx1, hx3⟩, by simp, hide ⟨F1.out, by rw [hE0.out]; simp⟩⟩
    case round =>
      obtain ⟨k, out, laid, p, q, hk, rfl, rfl, ⟨hp0, hq0, hpq⟩, hlo, hH⟩ := hrel
      obtain ⟨hF, hL⟩ := hH.out
      obtain ⟨m0, m1, _, _⟩ := cells2 hF.2.2.1
      have hpb : p ≤ 1048576 := by omega
      have hqb : q ≤ 1048576 := by omega
      by_cases hlt : k < m.2.length
      · have hqi : (k : Int) < (m.2.length : Int) := by omega
        obtain ⟨y, hy, hym⟩ := ext_at m.2 hlt
        obtain ⟨bb, off, rfl, hc1, hc2⟩ := (HH.out.to0 hF.1).ext hy
        have hyr := eRow_mem HOK.out.2.2 y hym
        rw [drop_at hy] at hL
        obtain ⟨y1, y2⟩ := y
        dsimp only at hc1 hc2 hyr
        obtain ⟨g1, g2, _, g3⟩ := hyr
        unfold eLay at hL
        dsimp only at hL
        obtain ⟨Y, hY, Y0, bY, sY⟩ := boxed2b wr (.int .i64 y1) (.int .i64 y2) 26
        have FY := hF.to bY
        have HF0 := hide hF
        obtain ⟨x00, x01, x02, x03⟩ := cells2 hF.2.2.2.1
        obtain ⟨d0, d1, d2, d3⟩ := cells2 FY.2.2.2.1
        obtain ⟨e0, e1, _, _⟩ := cells2 Y0
        have olt : ∀ b, u7.ownBlock = some b → b < wr.heap.size := fun b hb => (World.ownsRow.lt hF.2.2.2.2.2 b hb).2
        have hyb : y1 ≤ 1048576 := by omega
        have hyb2 : y2 ≤ 1048576 := by omega
        have hlr := hF.2.1
        clear hy hym hH hF
        by_cases cA : y1 < p + q ∧ p < y1 + y2
        · rw [if_pos cA] at hL
          obtain ⟨cA1, cA2⟩ := cA
          have hR := HE.out
          rw [hL] at hR
          replace hR := hide hR
          obtain ⟨z0, z1, z2, z3⟩ := cells2 FY.2.2.2.2.1
          have FF := hide FY
          rw [hY] at d0 d1 e0 e1 z0 z1 z2 z3
          clear hL FY Y0 bY olt d2 d3
          go_wp2
          rw [← hY]
          refine ret_cellT rfl rfl (w.heap.size + 1 + 1) rfl _ _ _ _ (heap_set2 FF.out.2.2.2.2.1 _ _) _ Try.underlying24 rfl infoR _ rfl ?_
          rw [hR.out]
          exact ⟨_, rfl, ownE_nil _ _, below_set2 FF.out.1 (show w.heap.size ≤ w.heap.size + 1 + 1 by omega) _ _⟩
        rw [if_neg cA] at hL
        have cA' : p + q ≤ y1 ∨ y1 + y2 ≤ p := by omega
        by_cases cB : y1 + y2 < p
        · rw [if_pos cB] at hL
          obtain ⟨v6, w6, hr6, o6, b6, s6, k6⟩ := run_append_ext Y FY.2.2.2.2.2 y1 y2 (by omega) (by omega)
          have N6 := hide (And.intro (FY.app b6 s6 o6) hL)
          have cA1 : y1 < p + q := by omega
          have cA2 : ¬ p < y1 + y2 := by omega
          have cAd : decide (p < y1 + y2) = false := decide_eq_false cA2
          rw [sY, hY] at hr6
          rw [hY] at d0 d1 e0 e1
          clear cA' cA hL FY Y0 bY olt o6 b6 s6 k6 d2 d3
          go_wp2_with (at_builtin; refine Lib.wpList_append_run _ rfl _ _ _ _ rfl _ _ rfl rfl _ _ hr6 ?_)
          go_roundw
          case rel => exact ⟨k + 1, out ++ [(y1, y2)], laid, p, q, by omega, by go_num, rfl, ⟨hp0, hq0, hpq⟩, by simp; omega, N6⟩
          case measure => simp [intOf]; omega
        rw [if_neg cB] at hL
        by_cases cC : y1 + y2 = p
        · rw [if_pos cC] at hL
          have hset := ((HF0.out.x0 y1).x1 (y2 + q)).to ((Below.refl _ _).alloc (Nat.le_refl _) (.cells #[.int .i64 y1, .int .i64 y2] 26))
          have N6 := hide (And.intro hset hL)
          have cA1 : y1 < p + q := by omega
          have cA2 : ¬ p < y1 + y2 := by omega
          have cBn : ¬ y1 + y2 < p := cB
          have cCb : (y1 + y2 == p) = true := by simpa using cC
          rw [hY] at d0 d1 d2 d3 e0 e1
          have hb2 : y2 + q ≤ 1048576 := by omega
          have hb3 : y1 + (y2 + q) ≤ m.1 := by omega
          replace cC := hide cC
          clear cA' cA hL FY Y0 bY olt hset
          have hlr2 : w.heap.size + 1 < wr.heap.size := by omega
          go_wp2
          go_roundw
          case rel => exact ⟨k + 1, out, laid, y1, y2 + q, by omega, by go_num, rfl, ⟨g2, by omega, hb3⟩, by omega, N6⟩
          case measure => simp [intOf]; omega
        rw [if_neg cC] at hL
        have cA1 : ¬ y1 < p + q := by omega
        have cBn : ¬ y1 + y2 < p := cB
        have cCb : (y1 + y2 == p) = false := by simpa using cC
        by_cases cD : y1 = p + q
        · rw [if_pos cD] at hL
          have hset := (HF0.out.x1 (q + y2)).to ((Below.refl _ _).alloc (Nat.le_refl _) (.cells #[.int .i64 y1, .int .i64 y2] 26))
          have N6 := hide (And.intro hset hL)
          have cDb : (y1 == p + q) = true := by simpa using cD
          rw [hY] at d0 d1 d2 d3 e0 e1
          have hb2 : q + y2 ≤ 1048576 := by omega
          have hb3 : p + (q + y2) ≤ m.1 := by omega
          replace cD := hide cD
          replace cC := hide cC
          clear cA' cA hL FY Y0 bY olt hset
          have hlr2 : w.heap.size + 1 < wr.heap.size := by omega
          go_wp2
          go_roundw
          case rel => exact ⟨k + 1, out, laid, p, q + y2, by omega, by go_num, rfl, ⟨hp0, by omega, hb3⟩, by omega, N6⟩
          case measure => simp [intOf]; omega
        rw [if_neg cD] at hL
        have cDb : (y1 == p + q) = false := by simpa using cD
        cases laid with
        | true =>
          simp only [if_true] at hL
          obtain ⟨v6, w6, hr6, o6, b6, s6, k6⟩ := run_append_ext Y FY.2.2.2.2.2 y1 y2 (by omega) (by omega)
          have N6 := hide (And.intro (FY.app b6 s6 o6) hL)
          rw [sY, hY] at hr6
          rw [hY] at d0 d1 e0 e1
          replace cC := hide cC
          replace cD := hide cD
          clear cA' cA hL FY Y0 bY olt o6 b6 s6 k6 d2 d3
          go_wp2_with (at_builtin; refine Lib.wpList_append_run _ rfl _ _ _ _ rfl _ _ rfl rfl _ _ hr6 ?_)
          go_roundw
          case rel => exact ⟨k + 1, out ++ [(y1, y2)], true, p, q, by omega, by go_num, rfl, ⟨hp0, hq0, hpq⟩, by simp; omega, N6⟩
          case measure => simp [intOf]; omega
        | false =>
          simp only [Bool.false_eq_true, if_false] at hL
          obtain ⟨v6, w6, hr6, o6, b6, s6, k6⟩ := run_append_ext Y FY.2.2.2.2.2 p q (by omega) (by omega)
          have F6 := FY.app b6 s6 o6
          have e0' := k6 _ _ _ e0 (fun e => by have := olt _ e.symm; omega)
          have e1' := k6 _ _ _ e1 (fun e => by have := olt _ e.symm; omega)
          obtain ⟨v7, w7, hr7, o7, b7, s7, k7⟩ := run_append_ext w6 o6 y1 y2 (by simp; omega) (by have := F6.2.1; omega)
          have N6 := hide (And.intro (F6.app b7 s7 o7) hL)
          rw [sY, hY] at hr6
          rw [hY] at d0 d1 e0 e1
          replace cC := hide cC
          replace cD := hide cD
          clear cA' cA hL FY F6 Y0 bY olt o6 b6 s6 k6 o7 b7 s7 k7 d2 d3
          go_wp2_with (at_builtin; first | refine Lib.wpList_append_run _ rfl _ _ _ _ rfl _ _ rfl rfl _ _ hr6 ?_ | refine Lib.wpList_append_run _ rfl _ _ _ _ rfl _ _ rfl rfl _ _ hr7 ?_)
          go_roundw
          case rel => exact ⟨k + 1, out ++ [(p, q)] ++ [(y1, y2)], true, p, q, by omega, by go_num, rfl, ⟨hp0, hq0, hpq⟩, by simp; omega, N6⟩
          case measure => simp [intOf]; omega
      · have hqi : ¬ (k : Int) < (m.2.length : Int) := by omega
        rw [List.drop_eq_nil_of_le (by omega)] at hL
        unfold eLay at hL
        cases laid with
        | true =>
          simp only [if_true] at hL
          have hR := HE.out
          rw [hL] at hR
          replace hR := hide hR
          obtain ⟨z0, z1, z2, z3⟩ := cells2 hF.2.2.2.2.1
          obtain ⟨av, nv, cv, hv⟩ := ownE_slice hF.2.2.2.2.2
          have FF := hide hF
          subst hv
          clear hL hF hH
          go_wp2
          refine ret_cellT rfl rfl (w.heap.size + 1 + 1) rfl _ _ _ _ (heap_set2 FF.out.2.2.2.2.1 _ _) _ Try.underlying24 rfl infoR _ rfl ?_
          rw [hR.out]
          refine ⟨_, rfl, ?_, below_set2 FF.out.1 (show w.heap.size ≤ w.heap.size + 1 + 1 by omega) _ _⟩
          have q1 : w.heap.size + 1 + 1 < w.heap.size + 3 := by omega
          have o := ownsRow_setCell_below (ownsRow_setCell_below FF.out.2.2.2.2.2 (a := ⟨w.heap.size + 1 + 1, 0, none⟩) q1 (.int .i64 m.1)) (a := ⟨w.heap.size + 1 + 1, 1, none⟩) q1 (.slice av nv cv)
          exact rows_base o (fun g hg => by have := (World.ownsRow.lt o g hg).1; omega)
        | false =>
          simp only [Bool.false_eq_true, if_false] at hL
          have hR := HE.out
          rw [hL] at hR
          replace hR := hide hR
          obtain ⟨d0, d1, _, _⟩ := cells2 hF.2.2.2.1
          obtain ⟨v6, w6, hr6, o6, b6, s6, k6⟩ := run_append_ext wr hF.2.2.2.2.2 p q (by omega) hF.2.1
          have F6 := hF.app b6 s6 o6
          obtain ⟨z0, z1, z2, z3⟩ := cells2 F6.2.2.2.2.1
          obtain ⟨n0, n1, _, _⟩ := cells2 F6.2.2.1
          obtain ⟨av, nv, cv, hv⟩ := ownE_slice o6
          have FF := hide F6
          subst hv
          clear hL hF hH F6 o6 b6 s6 k6
          go_wp2_with (at_builtin; refine Lib.wpList_append_run _ rfl _ _ _ _ rfl _ _ rfl rfl _ _ hr6 ?_)
          refine ret_cellT rfl rfl (w.heap.size + 1 + 1) rfl _ _ _ _ (heap_set2 FF.out.2.2.2.2.1 _ _) _ Try.underlying24 rfl infoR _ rfl ?_
          rw [hR.out]
          refine ⟨_, rfl, ?_, below_set2 FF.out.1 (show w.heap.size ≤ w.heap.size + 1 + 1 by omega) _ _⟩
          have q1 : w.heap.size + 1 + 1 < w.heap.size + 3 := by omega
          have o := ownsRow_setCell_below (ownsRow_setCell_below FF.out.2.2.2.2.2 (a := ⟨w.heap.size + 1 + 1, 0, none⟩) q1 (.int .i64 m.1)) (a := ⟨w.heap.size + 1 + 1, 1, none⟩) q1 (.slice av nv cv)
          exact rows_base o (fun g hg => by have := (World.ownsRow.lt o g hg).1; omega)
  · have hR := hide (hNo.out hok)
    obtain ⟨z0, z1, z2, z3⟩ := cells2 F1.out.2.2.2.2.1
    have hbe : (easked m (x1, x2) != 0) = true := by simpa using hok
    generalize easked m (x1, x2) = E at *
    replace hok := hide hok
    clear hNo hEq
    go_wp2
    refine ret_cellT rfl rfl (w.heap.size + 1 + 1) rfl _ _ _ _ (heap_set2 F1.out.2.2.2.2.1 _ _) _ Try.underlying24 rfl infoR _ rfl ?_
    rw [hR.out]
    exact ⟨_, rfl, ownE_nil _ _, below_set2 F1.out.1 (show w.heap.size ≤ w.heap.size + 1 + 1 by omega) _ _⟩

end Go.Proofs.Ytacfcgklncckiaa
