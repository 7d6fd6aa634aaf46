/-
  The program's lies, Check and checkExtent of extents.
-/
import Derived.Test.YtacfcgklncckiaaESpan
import Derived.Test.YtacfcgklncckiaaERoomR
namespace Go.Proofs.Ytacfcgklncckiaa
open Go.RowKit
set_option linter.unusedVariables false

def elies (x : Ext) (n : Int) : Bool := decide (1 ≤ x.2 ∧ 0 ≤ x.1 ∧ x.2 ≤ n - x.1)
set_option maxRecDepth 100000 in
set_option maxHeartbeats 400000 in
theorem lies_any (w : World) (x : Ext) (n : Int) (hx : x.1 ≤ 9223372036854775807) (h0 : 0 ≤ n) (h1 : n ≤ 1048576) :
    Calls Try.prog 42 #[.agg #[.int .i64 x.1, .int .i64 x.2], .int .i64 n] w fun e w' => e = .returned (.bool (elies x n)) ∧ Below w.heap.size w w' := by
  obtain ⟨W, hW, D0, D1, bW, sW⟩ := boxed2 w (.int .i64 x.1) (.int .i64 x.2) 26
  have hr : Hid (elies x n = decide (1 ≤ x.2 ∧ 0 ≤ x.1 ∧ x.2 ≤ n - x.1)) := rfl
  rw [hW] at D0 D1
  obtain ⟨x1, x2⟩ := x
  dsimp only at *
  by_cases c1 : 1 ≤ x2
  · by_cases c2 : 0 ≤ x1
    · by_cases c3 : x2 ≤ n - x1
      · have hq : Hid (elies (x1, x2) n = true) := by show _ = _; rw [hr.out]; simp; omega
        go_enter Try.func42, Try.ntmps42
        go_wp2
        go_ret
        exact ⟨ret_bool hq.out.symm, by rw [← hW]; exact bW⟩
      · have hq : Hid (elies (x1, x2) n = false) := by show _ = _; rw [hr.out]; simp; omega
        have c3' : n - x1 < x2 := by omega
        go_enter Try.func42, Try.ntmps42
        go_wp2
        go_ret
        exact ⟨ret_bool hq.out.symm, by rw [← hW]; exact bW⟩
    · have hq : Hid (elies (x1, x2) n = false) := by show _ = _; rw [hr.out]; simp; omega
      have c2' : x1 < 0 := by omega
      go_enter Try.func42, Try.ntmps42
      go_wp2
      go_ret
      exact ⟨ret_bool hq.out.symm, by rw [← hW]; exact bW⟩
  · have hq : Hid (elies (x1, x2) n = false) := by show _ = _; rw [hr.out]; simp; omega
    have c1' : x2 < 1 := by omega
    go_enter Try.func42, Try.ntmps42
    go_wp2
    go_ret
    exact ⟨ret_bool hq.out.symm, by rw [← hW]; exact bW⟩

set_option maxRecDepth 100000 in
set_option maxHeartbeats 1000000 in
theorem pcheck_any (w : World) (fv : Value) (m : EMap) (h : RdE w fv m.2) (hin : eIn m.2) :
    Calls Try.prog 22 #[.agg #[.int .i64 m.1, fv]] w fun e w' => e = .returned (.int .i64 (echeck m)) ∧ Below w.heap.size w w' := by
  have lb := h.bd
  obtain ⟨a, c, rfl⟩ := h.slice
  obtain ⟨W, hW, D0, D1, bW, sW⟩ := boxed2 w (.int .i64 m.1) (.slice a m.2.length c) 27
  replace h := h.to0 bW
  by_cases hA : m.1 < 0
  · have hr : Hid (echeck m = 9) := by apply echeck_no; unfold EOk; omega
    rw [hW] at D0 D1
    go_enter Try.func22, Try.ntmps22
    go_wp2
    go_ret
    exact ⟨ret_int hr.out.symm, by rw [← hW]; exact bW⟩
  by_cases hB : 1048576 < m.1
  · have hr : Hid (echeck m = 9) := by apply echeck_no; unfold EOk; omega
    rw [hW] at D0 D1
    go_enter Try.func22, Try.ntmps22
    go_wp2
    go_ret
    exact ⟨ret_int hr.out.symm, by rw [← hW]; exact bW⟩
  have hA' : 0 ≤ m.1 := by omega
  have hB' : m.1 ≤ 1048576 := by omega
  have HH := hide h
  have HB := hide bW
  have HD := hide (And.intro D0 D1)
  clear h bW
  rw [hW] at D0 D1
  go_enter Try.func22, Try.ntmps22
  go_wp2
  rw [← hW]
  replace hW := hide hW
  clear D0 D1
  go_loopw [3, 17] (fun a b wr => ∃ k : Nat, k ≤ m.2.length ∧ b = .int .i64 k ∧ a = .int .i64 (eEnd (-1) (m.2.take k) + 1) ∧ Hid (eRow m.1 (-1) (m.2.take k) ∧ Below W.heap.size W wr)) (fun _ b _ => m.2.length - (intOf b).toNat)
  case atStart => exact ⟨0, Nat.zero_le _, rfl, rfl, hide ⟨trivial, Below.refl _ _⟩⟩
  case round =>
    obtain ⟨k, hk, rfl, rfl, hH⟩ := hrel
    obtain ⟨hrow, hb⟩ := hH.out
    have D0 := (hb.cell (cell_lt HD.out.1)).trans HD.out.1
    by_cases hlt : k < m.2.length
    · have hq : (k : Int) < (m.2.length : Int) := by omega
      obtain ⟨x, hx, hxm⟩ := ext_at m.2 hlt
      have hx1 := hin x hxm
      obtain ⟨t1, t2⟩ := eTake (n := m.1) (e := -1) hx
      obtain ⟨b, off, rfl, hc1, hc2⟩ := (HH.out.to0 hb).ext hx
      obtain ⟨U, hU, X0, X1, bU, sU⟩ := boxed2 wr (.int .i64 x.1) (.int .i64 x.2) 26
      have D0' := (bU.cell (cell_lt D0)).trans D0
      have cU := hide (hb.trans (bU.mono hb.size))
      have T := hide (And.intro t1 (And.intro t2 hrow))
      have bad : Hid (¬ (1 ≤ x.2 ∧ 0 ≤ x.1 ∧ eEnd (-1) (m.2.take k) < x.1 ∧ x.2 ≤ m.1 - x.1) → echeck m = 9) := fun hn => echeck_no fun hok => hn (T.out.1.1 (eRow_take hok.2.2 (k + 1))).2
      have KK := hide (lies_any U x m.1 hx1 hA' hB')
      have HX := hide (And.intro X0 X1)
      rw [hU] at X0 X1 D0'
      obtain ⟨x1, x2⟩ := x
      dsimp only at *
      clear hrow hb t1 t2 bU hx hxm hH D0
      generalize hE : eEnd (-1) (m.2.take k) = E at *
      replace hE := hide hE
      go_wp2_with fail
      rw [← hU]
      clear X0 X1 D0'
      refine KK.out.mono ?_
      rintro e w1 ⟨rfl, b1⟩
      have X0 := (b1.cell (cell_lt HX.out.1)).trans HX.out.1
      have X1 := (b1.cell (cell_lt HX.out.2)).trans HX.out.2
      have cV := hide (cU.out.trans (b1.mono cU.out.size))
      clear b1 KK
      replace hU := hide hU
      by_cases c1 : 1 ≤ x2 ∧ 0 ≤ x1 ∧ x2 ≤ m.1 - x1
      · rw [show elies (x1, x2) m.1 = true from decide_eq_true c1]
        obtain ⟨c1, c2, c4⟩ := c1
        by_cases c3 : x1 < E + 1
        · go_wp2
          go_ret
          exact ⟨ret_int (bad.out (by omega)).symm, HB.out.trans (cV.out.mono HB.out.size)⟩
        have c3' : E + 1 ≤ x1 := by omega
        go_wp2
        go_roundw
        case rel => exact ⟨k + 1, by omega, by go_num, by rw [T.out.2.1], hide ⟨T.out.1.2 ⟨T.out.2.2, by omega, by omega, by omega, by omega⟩, cV.out⟩⟩
        case measure => simp [intOf]; omega
      · rw [show elies (x1, x2) m.1 = false from decide_eq_false c1]
        go_wp2
        go_ret
        exact ⟨ret_int (bad.out (by omega)).symm, HB.out.trans (cV.out.mono HB.out.size)⟩
    · have hq : ¬ (k : Int) < (m.2.length : Int) := by omega
      have hr : Hid (echeck m = 0) := echeck_ok ⟨hA', hB', by rw [List.take_of_length_le (by omega)] at hrow; exact hrow⟩
      have cU := hide (HB.out.trans (hb.mono HB.out.size))
      clear hrow hb hH
      generalize eEnd (-1) (m.2.take k) = E at *
      go_wp2
      go_ret
      exact ⟨ret_int hr.out.symm, cU.out⟩

set_option maxRecDepth 100000 in
set_option maxHeartbeats 1000000 in
theorem pasked_any (w : World) (fv : Value) (m : EMap) (x : Ext) (h : RdE w fv m.2) (hin : eIn m.2) (hx : x.1 ≤ 9223372036854775807) :
    Calls Try.prog 33 #[.agg #[.int .i64 m.1, fv], .agg #[.int .i64 x.1, .int .i64 x.2]] w fun e w' => e = .returned (.int .i64 (easked m x)) ∧ Below w.heap.size w w' := by
  obtain ⟨a, c, rfl⟩ := h.slice
  obtain ⟨U, hU, A0, A1, bU, sU⟩ := boxed2 w (.int .i64 m.1) (.slice a m.2.length c) 27
  obtain ⟨W, hW, X0, X1, bW, sW⟩ := boxed2 U (.int .i64 x.1) (.int .i64 x.2) 26
  have cW := bU.trans (bW.mono bU.size)
  replace A0 := (bW.cell (cell_lt A0)).trans A0
  replace A1 := (bW.cell (cell_lt A1)).trans A1
  rw [sU] at X0 X1
  have KK := hide (pcheck_any W _ m (h.to0 cW) hin)
  have HC := hide (And.intro A0 (And.intro A1 (And.intro X0 X1)))
  rw [hW, hU] at A0 A1 X0 X1
  clear h bU bW
  go_enter Try.func33, Try.ntmps33
  go_wp2_with fail
  rw [← hU, ← hW]
  replace hU := hide hU
  replace hW := hide hW
  clear A0 A1 X0 X1
  refine KK.out.mono ?_
  rintro e w1 ⟨rfl, b1⟩
  have A0 := (b1.cell (cell_lt HC.out.1)).trans HC.out.1
  have X0 := (b1.cell (cell_lt HC.out.2.2.1)).trans HC.out.2.2.1
  have X1 := (b1.cell (cell_lt HC.out.2.2.2)).trans HC.out.2.2.2
  have cc := hide (cW.trans (b1.mono cW.size))
  clear KK b1 cW
  by_cases hok : EOk m
  · rw [echeck_ok hok]
    have hm0 := hok.1
    have hm1 := hok.2.1
    have K2 := hide (lies_any w1 x m.1 hx hm0 hm1)
    have bad : Hid ((x.2 < 1 ∨ x.1 < 0 ∨ m.1 ≤ x.1 ∨ m.1 - x.1 < x.2) → easked m x = 4) := fun hb => by show _ = _; unfold easked; rw [if_neg (fun h => h hok), if_pos hb]
    have good : Hid (¬ (x.2 < 1 ∨ x.1 < 0 ∨ m.1 ≤ x.1 ∨ m.1 - x.1 < x.2) → easked m x = 0) := fun hb => by show _ = _; unfold easked; rw [if_neg (fun h => h hok), if_neg hb]
    clear hok
    obtain ⟨x1, x2⟩ := x
    dsimp only at *
    go_wp2_with fail
    refine K2.out.mono ?_
    rintro e w2 ⟨rfl, b2⟩
    have cd := hide (cc.out.trans (b2.mono cc.out.size))
    clear K2 b2
    by_cases c1 : 1 ≤ x2 ∧ 0 ≤ x1 ∧ x2 ≤ m.1 - x1
    · rw [show elies (x1, x2) m.1 = true from decide_eq_true c1]
      have hr := hide (good.out (by omega))
      clear c1
      go_wp2
      go_ret
      exact ⟨ret_int hr.out.symm, cd.out⟩
    · rw [show elies (x1, x2) m.1 = false from decide_eq_false c1]
      have hr := hide (bad.out (by omega))
      clear c1
      go_wp2
      go_ret
      exact ⟨ret_int hr.out.symm, cd.out⟩
  · rw [echeck_no hok]
    have hr : Hid (easked m x = 9) := by show _ = _; unfold easked; rw [if_pos hok]
    go_wp2
    go_ret
    exact ⟨ret_int hr.out.symm, cc.out⟩

end Go.Proofs.Ytacfcgklncckiaa
