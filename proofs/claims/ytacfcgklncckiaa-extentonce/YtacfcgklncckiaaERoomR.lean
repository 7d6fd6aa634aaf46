/-
  The page's asked and Room of extents.
-/
import Derived.Test.YtacfcgklncckiaaECheckR
import Derived.Test.YtacfcgklncckiaaEMore
namespace Go.Proofs.Ytacfcgklncckiaa
open Go.RowKit
set_option linter.unusedVariables false

set_option maxRecDepth 100000 in
set_option maxHeartbeats 1000000 in
theorem asked_any (w : World) (fv : Value) (m : EMap) (x : Ext) (h : RdE w fv m.2) (hin : eIn m.2) (hx : x.1 ≤ 9223372036854775807) :
    Calls Try.prog 37 #[.agg #[.int .i64 m.1, fv], .agg #[.int .i64 x.1, .int .i64 x.2]] w fun e w' => e = .returned (.int .i64 (easked m x)) ∧ Below w.heap.size w w' := by
  obtain ⟨a, c, rfl⟩ := h.slice
  obtain ⟨U, hU, A0, A1, bU, sU⟩ := boxed2 w (.int .i64 m.1) (.slice a m.2.length c) 24
  obtain ⟨W, hW, X0, X1, bW, sW⟩ := boxed2 U (.int .i64 x.1) (.int .i64 x.2) 26
  have cW := bU.trans (bW.mono bU.size)
  replace A0 := (bW.cell (cell_lt A0)).trans A0
  replace A1 := (bW.cell (cell_lt A1)).trans A1
  rw [sU] at X0 X1
  have KK := hide (recheck_any W _ m (h.to0 cW) hin)
  have HC := hide (And.intro A0 (And.intro A1 (And.intro X0 X1)))
  rw [hW, hU] at A0 A1 X0 X1
  clear h bU bW
  go_enter Try.func37, Try.ntmps37
  go_wp2_with fail
  rw [← hU, ← hW]
  replace hU := hide hU
  replace hW := hide hW
  clear A0 A1 X0 X1
  refine KK.out.mono ?_
  rintro e w1 ⟨rfl, b1⟩
  have A0 := (b1.cell (cell_lt HC.out.1)).trans HC.out.1
  have X0 := (b1.cell (cell_lt HC.out.2.2.1)).trans HC.out.2.2.1
  have X1 := (b1.cell (cell_lt HC.out.2.2.2)).trans HC.out.2.2.2
  have cc := hide (cW.trans (b1.mono cW.size))
  clear KK b1 cW
  by_cases hok : EOk m
  · rw [echeck_ok hok]
    have hm0 := hok.1
    have hm1 := hok.2.1
    have bad : Hid ((x.2 < 1 ∨ x.1 < 0 ∨ m.1 ≤ x.1 ∨ m.1 - x.1 < x.2) → easked m x = 4) := fun hb => by show _ = _; unfold easked; rw [if_neg (fun h => h hok), if_pos hb]
    have good : Hid (¬ (x.2 < 1 ∨ x.1 < 0 ∨ m.1 ≤ x.1 ∨ m.1 - x.1 < x.2) → easked m x = 0) := fun hb => by show _ = _; unfold easked; rw [if_neg (fun h => h hok), if_neg hb]
    clear hok
    obtain ⟨x1, x2⟩ := x
    dsimp only at *
    by_cases c1 : x2 < 1
    · go_wp2
      go_ret
      exact ⟨ret_int (bad.out (by omega)).symm, cc.out⟩
    by_cases c2 : x1 < 0
    · go_wp2
      go_ret
      exact ⟨ret_int (bad.out (by omega)).symm, cc.out⟩
    by_cases c3 : m.1 ≤ x1
    · go_wp2
      go_ret
      exact ⟨ret_int (bad.out (by omega)).symm, cc.out⟩
    by_cases c4 : m.1 - x1 < x2
    · go_wp2
      go_ret
      exact ⟨ret_int (bad.out (by omega)).symm, cc.out⟩
    have c1' : 1 ≤ x2 := by omega
    have c2' : 0 ≤ x1 := by omega
    have c3' : x1 < m.1 := by omega
    have c4' : x2 ≤ m.1 - x1 := by omega
    go_wp2
    go_ret
    exact ⟨ret_int (good.out (by omega)).symm, cc.out⟩
  · rw [echeck_no hok]
    have hr : Hid (easked m x = 9) := by show _ = _; unfold easked; rw [if_pos hok]
    go_wp2
    go_ret
    exact ⟨ret_int hr.out.symm, cc.out⟩

theorem eSum_take {l : List Ext} {k : Nat} {x : Ext} (h : l[k]? = some x) : eTotal (l.take (k + 1)) = eTotal (l.take k) + x.2 ∧ eLargest (l.take (k + 1)) = max (eLargest (l.take k)) x.2 := by
  have : l.take (k + 1) = l.take k ++ [x] := by rw [List.take_add_one, h]; rfl
  rw [this, eTotal_app, eTotal_cons, eTotal_nil, Int.add_zero]
  refine ⟨rfl, ?_⟩
  unfold eLargest
  rw [List.foldl_append]
  rfl

set_option maxRecDepth 100000 in
set_option maxHeartbeats 1000000 in
theorem room_any (w : World) (fv : Value) (m : EMap) (h : RdE w fv m.2) (hin : eIn m.2) :
    Calls Try.prog 17 #[.agg #[.int .i64 m.1, fv]] w fun e w' => e = .returned (.tuple #[.int .i64 (eroom m).1, .int .i64 (eroom m).2.1, .int .i64 (eroom m).2.2]) ∧ Below w.heap.size w w' := by
  have lb := h.bd
  obtain ⟨a, c, rfl⟩ := h.slice
  obtain ⟨U, hU, A0, A1, bU, sU⟩ := boxed2 w (.int .i64 m.1) (.slice a m.2.length c) 24
  have KK := hide (recheck_any U _ m (h.to0 bU) hin)
  have HC := hide (And.intro A0 A1)
  rw [hU] at A0 A1
  go_enter Try.func17, Try.ntmps17
  go_wp2_with fail
  rw [← hU]
  replace hU := hide hU
  clear A0 A1
  refine KK.out.mono ?_
  rintro e w1 ⟨rfl, b1⟩
  have A1 := (b1.cell (cell_lt HC.out.2)).trans HC.out.2
  have cc := hide (bU.trans (b1.mono bU.size))
  have HH := hide (h.to0 cc.out)
  have HA := hide A1
  clear KK b1 bU HC h A1
  by_cases hok : EOk m
  · rw [echeck_ok hok]
    have hm0 := hok.1
    have hm1 := hok.2.1
    have HO := hide hok
    have hr : Hid (eroom m = (eTotal m.2, eLargest m.2, 0)) := by show _ = _; unfold eroom; rw [if_neg (fun h => h hok)]
    clear hok
    go_wp2
    go_loopw [5, 6, 7] (fun s t i wr => ∃ k : Nat, k ≤ m.2.length ∧ i = .int .i64 k ∧ s = .int .i64 (eTotal (m.2.take k)) ∧ t = .int .i64 (eLargest (m.2.take k)) ∧ wr = w1) (fun _ _ i _ => m.2.length - (intOf i).toNat)
    case atStart => exact ⟨0, Nat.zero_le _, rfl, rfl, rfl, rfl⟩
    case round =>
      obtain ⟨k, hk, rfl, rfl, rfl, rfl⟩ := hrel
      have A1 := HA.out
      by_cases hlt : k < m.2.length
      · have hq : (k : Int) < (m.2.length : Int) := by omega
        obtain ⟨x, hx, hxm⟩ := ext_at m.2 hlt
        obtain ⟨t1, t2⟩ := eSum_take hx
        have z0 := eTotal_le (by omega) (eRow_take HO.out.2.2 k)
        have z1 := eTotal_le (by omega) (eRow_take HO.out.2.2 (k + 1))
        rw [t1] at z1
        obtain ⟨b, off, rfl, hc1, hc2⟩ := HH.out.ext hx
        have T := hide (And.intro t1 t2)
        clear t1 t2 hx hxm
        generalize hE : eTotal (m.2.take k) = E at *
        generalize hG : eLargest (m.2.take k) = G at *
        replace hE := hide hE
        replace hG := hide hG
        obtain ⟨x1, x2⟩ := x
        dsimp only at *
        have zb : E + x2 ≤ 1048576 := by omega
        have za : 0 ≤ E := z0.1
        have zc : 0 ≤ E + x2 := z1.1
        clear z0 z1
        go_wp2
        all_goals
          go_roundw
          case rel => exact ⟨k + 1, by omega, by go_num, by rw [T.out.1], by rw [T.out.2]; congr 1; omega, trivial⟩
          case measure => simp [intOf]; omega
      · have hq : ¬ (k : Int) < (m.2.length : Int) := by omega
        rw [List.take_of_length_le (show m.2.length ≤ k by omega)]
        go_wp2
        refine bodyPost_ret (v := .tuple #[.int .i64 (eTotal m.2), .int .i64 (eLargest m.2), .int .i64 0]) (by simp [results, Try.results17, go_sem]) rfl ?_
        rw [hr.out]
        exact ⟨rfl, cc.out⟩
  · rw [echeck_no hok]
    have hr : Hid (eroom m = (0, 0, 9)) := by show _ = _; unfold eroom; rw [if_pos hok]
    go_wp2
    refine bodyPost_ret (v := .tuple #[.int .i64 0, .int .i64 0, .int .i64 9]) (by simp [results, Try.results17, go_sem]) rfl ?_
    rw [hr.out]
    exact ⟨rfl, cc.out⟩

end Go.Proofs.Ytacfcgklncckiaa
