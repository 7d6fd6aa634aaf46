/-
  The program's New and Room of extents.
-/
import Derived.Test.YtacfcgklncckiaaEPMath
import Derived.Test.YtacfcgklncckiaaENewR
namespace Go.Proofs.Ytacfcgklncckiaa
open Go.RowKit
set_option linter.unusedVariables false

set_option maxRecDepth 100000 in
set_option maxHeartbeats 1000000 in
theorem pnew_any (w : World) (n : Int) :
    Calls Try.prog 18 #[.int .i64 n] w fun e w' => ∃ fv, e = .returned (.tuple #[.agg #[.int .i64 (enew n).1.1, fv], .int .i64 (enew n).2]) ∧ OwnE w.heap.size w' fv (enew n).1.2 ∧ Below w.heap.size w w' := by
  obtain ⟨W, hW, W0, bW, sW⟩ := boxed2b w (.int .i64 0) (.slice none 0 0) 27
  obtain ⟨z0, z1, z2, z3⟩ := cells2 W0
  have hbad : Hid ((n < 0 ∨ 1048576 < n) → enew n = ((0, []), 4)) := fun h => by show _ = _; unfold enew; rw [if_pos h]
  have ZB := hide (heap_set2 W0 (.int .i64 0) (.slice none 0 0))
  have BB := hide (below_set2 bW (Nat.le_refl _) (.int .i64 0) (.slice none 0 0))
  by_cases hA : n < 0
  · rw [hW] at z0 z1 z2 z3 W0
    go_enter Try.func18, Try.ntmps18
    go_wp2
    refine ret_cellT rfl rfl (w.heap.size) rfl _ _ _ _ W0 _ Try.underlying27 rfl infoM _ rfl ?_
    rw [hbad.out (.inl hA)]
    exact ⟨_, rfl, ownE_nil _ _, by rw [← hW]; exact bW⟩
  by_cases hB : 1048576 < n
  · rw [hW] at z0 z1 z2 z3 W0
    go_enter Try.func18, Try.ntmps18
    go_wp2
    refine ret_cellT rfl rfl (w.heap.size) rfl _ _ _ _ W0 _ Try.underlying27 rfl infoM _ rfl ?_
    rw [hbad.out (.inr hB)]
    exact ⟨_, rfl, ownE_nil _ _, by rw [← hW]; exact bW⟩
  have hA' : 0 ≤ n := by omega
  have hB' : n ≤ 1048576 := by omega
  have hgood : Hid (enew n = ((n, [].take 0 ++ eSpans [(0, n)] ++ [].drop 0), 0)) := by
    show _ = _
    unfold enew
    rw [if_neg (by omega), eSpans_one]
    unfold eSpan
    dsimp only
    by_cases h0 : n = 0
    · subst h0; rfl
    · rw [if_neg h0, if_pos (by omega), show n - 0 = n by omega]
      rfl
  have KS := hide (spanFrom_any W 0 n)
  obtain ⟨X, hX⟩ : ∃ X, X = W.alloc (.cells #[sp 0 n] 61) := ⟨_, rfl⟩
  have bX : Below W.heap.size W X := by rw [hX]; exact (Below.refl _ _).alloc (Nat.le_refl _) _
  have rX : RdSp X (.slice (some ⟨W.heap.size, 0, none⟩) 1 1) [(0, n)] := by rw [hX]; exact rdSp_one W (0, n)
  have cX := bW.trans (bX.mono bW.size)
  have KR := hide (replaced_any X (.slice none 0 0) _ (n, []) 0 0 [(0, n)] (RdS.nil _ _) rX (by intro s hs; simp at hs; subst hs; unfold spIn; dsimp only; omega) (Nat.le_refl _) (Nat.le_refl _) (by simp) (by simp))
  have LAST : Hid (∀ w2, Below X.heap.size X w2 → w2.heap[w.heap.size]? = some (.cells #[.int .i64 0, .slice none 0 0] 27 (0, 0)) ∧ Below w.heap.size w w2) := fun w2 b2 => ⟨(b2.block _ (by have := bX.size; omega)).trans ((bX.block _ (by omega)).trans W0), cX.trans (b2.mono cX.size)⟩
  have hxs : w.heap.size < X.heap.size := by have := bX.size; omega
  obtain ⟨pn, qn, hn⟩ := sp_is 0 n
  rw [hn] at KS hX
  rw [sW] at KR
  clear z0 z1 z2 z3 rX hbad ZB BB
  go_enter Try.func18, Try.ntmps18
  go_wp2_with fail
  rw [← hW]
  refine KS.out.mono ?_
  rintro e w' ⟨rfl, rfl⟩
  replace hW := hide hW
  go_wp2_with fail
  rw [← hX]
  replace hX := hide hX
  first | refine KR.out.mono ?_ | (rw [sW]; refine KR.out.mono ?_)
  rintro e w2 ⟨v2, rfl, o2, b2⟩
  obtain ⟨Z3, B2⟩ := LAST.out w2 b2
  obtain ⟨z0, z1, z2, z3⟩ := cells2 Z3
  obtain ⟨a3, n3, c3, hv3⟩ := ownE_slice o2
  subst hv3
  have O := hide (And.intro o2 (And.intro Z3 B2))
  clear o2 b2 Z3 B2 LAST KR
  go_wp2
  refine ret_cellT rfl rfl (w.heap.size) rfl _ _ _ _ (heap_set2 O.out.2.1 _ _) _ Try.underlying27 rfl infoM _ rfl ?_
  rw [hgood.out]
  refine ⟨_, rfl, ?_, below_set2 O.out.2.2 (Nat.le_refl _) _ _⟩
  have o := ownsRow_setCell_below (ownsRow_setCell_below O.out.1 (a := ⟨w.heap.size, 0, none⟩) hxs (.int .i64 n)) (a := ⟨w.heap.size, 1, none⟩) hxs (.slice a3 n3 c3)
  exact rows_base o (fun g hg => by have := (World.ownsRow.lt o g hg).1; omega)

set_option maxRecDepth 100000 in
set_option maxHeartbeats 1000000 in
theorem proom_any (w : World) (fv : Value) (m : EMap) (h : RdE w fv m.2) (hin : eIn m.2) :
    Calls Try.prog 16 #[.agg #[.int .i64 m.1, fv]] w fun e w' => e = .returned (.tuple #[.int .i64 (eroom m).1, .int .i64 (eroom m).2.1, .int .i64 (eroom m).2.2]) ∧ Below w.heap.size w w' := by
  have lb := h.bd
  obtain ⟨a, c, rfl⟩ := h.slice
  obtain ⟨U, hU, A0, A1, bU, sU⟩ := boxed2 w (.int .i64 m.1) (.slice a m.2.length c) 27
  have KK := hide (pcheck_any U _ m (h.to0 bU) hin)
  have HC := hide (And.intro A0 A1)
  rw [hU] at A0 A1
  go_enter Try.func16, Try.ntmps16
  go_wp2_with fail
  rw [← hU]
  replace hU := hide hU
  clear A0 A1
  refine KK.out.mono ?_
  rintro e w1 ⟨rfl, b1⟩
  have A1 := (b1.cell (cell_lt HC.out.2)).trans HC.out.2
  have cc := hide (bU.trans (b1.mono bU.size))
  have HH := hide (h.to0 cc.out)
  clear KK b1 bU HC h
  by_cases hok : EOk m
  · rw [echeck_ok hok]
    have hm0 := hok.1
    have hm1 := hok.2.1
    have HO := hide hok
    have hr : Hid (eroom m = (eTotal m.2, eLargest m.2, 0)) := by show _ = _; unfold eroom; rw [if_neg (fun h => h hok)]
    clear hok
    go_wp2
    clear A1
    go_loopw [6, 7, 18] (fun s t i wr => ∃ k : Nat, k ≤ m.2.length ∧ i = .int .i64 k ∧ s = .int .i64 (eTotal (m.2.take k)) ∧ t = .int .i64 (eLargest (m.2.take k)) ∧ Hid (Below w1.heap.size w1 wr)) (fun _ _ i _ => m.2.length - (intOf i).toNat)
    case atStart => exact ⟨0, Nat.zero_le _, rfl, rfl, rfl, hide (Below.refl _ _)⟩
    case round =>
      obtain ⟨k, hk, rfl, rfl, rfl, hH⟩ := hrel
      by_cases hlt : k < m.2.length
      · have hq : (k : Int) < (m.2.length : Int) := by omega
        obtain ⟨x, hx, hxm⟩ := ext_at m.2 hlt
        obtain ⟨t1, t2⟩ := eSum_take hx
        have y0 := eTotal_le (by omega) (eRow_take HO.out.2.2 k)
        have y1 := eTotal_le (by omega) (eRow_take HO.out.2.2 (k + 1))
        rw [t1] at y1
        obtain ⟨b, off, rfl, hc1, hc2⟩ := (HH.out.to0 hH.out).ext hx
        obtain ⟨V, hV, X0, X1, bV, sV⟩ := boxed2 wr (.int .i64 x.1) (.int .i64 x.2) 26
        have bb := hide (hH.out.trans (bV.mono hH.out.size))
        rw [hV] at X0 X1
        have T := hide (And.intro t1 t2)
        clear t1 t2 hx hxm bV hH
        generalize hE : eTotal (m.2.take k) = E at *
        generalize hG : eLargest (m.2.take k) = G at *
        replace hE := hide hE
        replace hG := hide hG
        obtain ⟨x1, x2⟩ := x
        dsimp only at *
        have zb : E + x2 ≤ 1048576 := by omega
        have za : 0 ≤ E := y0.1
        have zc : 0 ≤ E + x2 := y1.1
        clear y0 y1
        go_wp2
        all_goals
          rw [← hV]
          go_roundw
          case rel => exact ⟨k + 1, by omega, by go_num, by rw [T.out.1], by rw [T.out.2]; congr 1; omega, bb⟩
          case measure => simp [intOf]; omega
      · have hq : ¬ (k : Int) < (m.2.length : Int) := by omega
        rw [List.take_of_length_le (show m.2.length ≤ k by omega)]
        go_wp2
        refine bodyPost_ret (v := .tuple #[.int .i64 (eTotal m.2), .int .i64 (eLargest m.2), .int .i64 0]) (by simp [results, Try.results16, go_sem]) rfl ?_
        rw [hr.out]
        exact ⟨rfl, cc.out.trans (hH.out.mono cc.out.size)⟩
  · rw [echeck_no hok]
    have hr : Hid (eroom m = (0, 0, 9)) := by show _ = _; unfold eroom; rw [if_pos hok]
    go_wp2
    refine bodyPost_ret (v := .tuple #[.int .i64 0, .int .i64 0, .int .i64 9]) (by simp [results, Try.results16, go_sem]) rfl ?_
    rw [hr.out]
    exact ⟨rfl, cc.out⟩

end Go.Proofs.Ytacfcgklncckiaa
