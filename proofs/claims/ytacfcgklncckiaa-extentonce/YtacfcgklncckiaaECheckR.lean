/-
  How maps of extents lie in memory; the page's Check of them.
-/
import Derived.Test.YtacfcgklncckiaaShp
import Derived.Test.YtacfcgklncckiaaEMath
namespace Go.Proofs.Ytacfcgklncckiaa
open Go.RowKit
set_option linter.unusedVariables false

abbrev SExt : Shp Ext := (Shp.int .i64).pair (Shp.int .i64)
abbrev RdE (w : World) (v : Value) (l : List Ext) : Prop := RdS SExt w v l
/-- the numbers are ints -/
def eIn (l : List Ext) : Prop := ∀ x ∈ l, x.1 ≤ 9223372036854775807
theorem RdS.ext {w : World} {a : Option Addr} {n cap : Nat} {l : List Ext} (h : RdE w (.slice a n cap) l) {i : Nat} {x : Ext} (hx : l[i]? = some x) :
    ∃ b off, a = some ⟨b, off, none⟩ ∧ w.cell? ⟨b, off + i * 2, none⟩ = some (.int .i64 x.1) ∧ w.cell? ⟨b, off + i * 2 + 1, none⟩ = some (.int .i64 x.2) := by
  obtain ⟨b, off, u, v, e, hc, hc2, e1, e2⟩ := RdS.at2 rfl rfl h hx
  have f1 : [u] = [Value.int .i64 x.1] := e1
  have f2 : [v] = [Value.int .i64 x.2] := e2
  simp only [List.cons.injEq, and_true] at f1 f2
  subst f1 f2
  exact ⟨b, off, e, hc, hc2⟩
theorem ext_at (xs : List Ext) {k : Nat} (h : k < xs.length) : ∃ x, xs[k]? = some x ∧ x ∈ xs := ⟨xs[k], List.getElem?_eq_getElem h, List.getElem_mem h⟩
theorem eTake {n e : Int} {l : List Ext} {k : Nat} {x : Ext} (hx : l[k]? = some x) :
    (eRow n e (l.take (k + 1)) ↔ eRow n e (l.take k) ∧ (1 ≤ x.2 ∧ 0 ≤ x.1 ∧ eEnd e (l.take k) < x.1 ∧ x.2 ≤ n - x.1)) ∧ eEnd e (l.take (k + 1)) = x.1 + x.2 := by
  have : l.take (k + 1) = l.take k ++ [x] := by rw [List.take_add_one, hx]; rfl
  rw [this, eEnd_app, eRow_app]
  exact ⟨⟨fun ⟨a, b, _⟩ => ⟨a, b⟩, fun ⟨a, b⟩ => ⟨a, b, trivial⟩⟩, rfl⟩
theorem eRow_take {n e : Int} {l : List Ext} (h : eRow n e l) (k : Nat) : eRow n e (l.take k) := by
  rw [← List.take_append_drop k l] at h
  exact (eRow_app.1 h).1
theorem echeck_ok {m : EMap} (h : EOk m) : echeck m = 0 := if_pos h
theorem echeck_no {m : EMap} (h : ¬ EOk m) : echeck m = 9 := if_neg h

set_option maxRecDepth 100000 in
set_option maxHeartbeats 1000000 in
theorem recheck_any (w : World) (fv : Value) (m : EMap) (h : RdE w fv m.2) (hin : eIn m.2) :
    Calls Try.prog 23 #[.agg #[.int .i64 m.1, fv]] w fun e w' => e = .returned (.int .i64 (echeck m)) ∧ Below w.heap.size w w' := by
  have lb := h.bd
  obtain ⟨a, c, rfl⟩ := h.slice
  obtain ⟨W, hW, D0, D1, bW, sW⟩ := boxed2 w (.int .i64 m.1) (.slice a m.2.length c) 24
  replace h := h.to0 bW
  by_cases hA : m.1 < 0
  · have hr : Hid (echeck m = 9) := by apply echeck_no; unfold EOk; omega
    go_enter Try.func23, Try.ntmps23
    go_wp2
    go_ret
    exact ⟨ret_int hr.out.symm, by rw [← hW]; exact bW⟩
  by_cases hB : 1048576 < m.1
  · have hr : Hid (echeck m = 9) := by apply echeck_no; unfold EOk; omega
    go_enter Try.func23, Try.ntmps23
    go_wp2
    go_ret
    exact ⟨ret_int hr.out.symm, by rw [← hW]; exact bW⟩
  have hA' : 0 ≤ m.1 := by omega
  have hB' : m.1 ≤ 1048576 := by omega
  have HH := hide h
  have HB := hide bW
  have HD := hide (And.intro D0 D1)
  clear h bW
  rw [hW] at D0 D1
  go_enter Try.func23, Try.ntmps23
  go_wp2
  rw [← hW]
  replace hW := hide hW
  clear D0 D1
  go_loopw [3, 4] (fun a b wr => ∃ k : Nat, k ≤ m.2.length ∧ b = .int .i64 k ∧ a = .int .i64 (eEnd (-1) (m.2.take k)) ∧ Hid (eRow m.1 (-1) (m.2.take k) ∧ Below W.heap.size W wr)) (fun _ b _ => m.2.length - (intOf b).toNat)
  case atStart => exact ⟨0, Nat.zero_le _, rfl, rfl, hide ⟨trivial, Below.refl _ _⟩⟩
  case round =>
    obtain ⟨k, hk, rfl, rfl, hH⟩ := hrel
    obtain ⟨hrow, hb⟩ := hH.out
    have D0 := (hb.cell (cell_lt HD.out.1)).trans HD.out.1
    have D1 := (hb.cell (cell_lt HD.out.2)).trans HD.out.2
    by_cases hlt : k < m.2.length
    · have hq : (k : Int) < (m.2.length : Int) := by omega
      obtain ⟨x, hx, hxm⟩ := ext_at m.2 hlt
      have hx1 := hin x hxm
      obtain ⟨t1, t2⟩ := eTake (n := m.1) (e := -1) hx
      obtain ⟨b, off, rfl, hc1, hc2⟩ := (HH.out.to0 hb).ext hx
      obtain ⟨U, hU, X0, X1, bU, sU⟩ := boxed2 wr (.int .i64 x.1) (.int .i64 x.2) 26
      have D0' := (bU.cell (cell_lt D0)).trans D0
      have cU := hide (hb.trans (bU.mono hb.size))
      have T := hide (And.intro t1 (And.intro t2 hrow))
      have bad : Hid (¬ (1 ≤ x.2 ∧ 0 ≤ x.1 ∧ eEnd (-1) (m.2.take k) < x.1 ∧ x.2 ≤ m.1 - x.1) → echeck m = 9) := fun hn => echeck_no fun hok => hn (T.out.1.1 (eRow_take hok.2.2 (k + 1))).2
      rw [hU] at X0 X1 D0'
      obtain ⟨x1, x2⟩ := x
      dsimp only at *
      clear hrow hb t1 t2 bU hx hxm hH
      generalize hE : eEnd (-1) (m.2.take k) = E at *
      replace hE := hide hE
      by_cases c1 : x2 < 1
      · go_wp2
        go_ret
        exact ⟨ret_int (bad.out (by omega)).symm, by rw [← hU]; exact HB.out.trans (cU.out.mono HB.out.size)⟩
      by_cases c2 : x1 < 0
      · go_wp2
        go_ret
        exact ⟨ret_int (bad.out (by omega)).symm, by rw [← hU]; exact HB.out.trans (cU.out.mono HB.out.size)⟩
      by_cases c3 : x1 ≤ E
      · go_wp2
        go_ret
        exact ⟨ret_int (bad.out (by omega)).symm, by rw [← hU]; exact HB.out.trans (cU.out.mono HB.out.size)⟩
      by_cases c4 : m.1 - x1 < x2
      · go_wp2
        go_ret
        exact ⟨ret_int (bad.out (by omega)).symm, by rw [← hU]; exact HB.out.trans (cU.out.mono HB.out.size)⟩
      have c1' : 1 ≤ x2 := by omega
      have c2' : 0 ≤ x1 := by omega
      have c3' : E < x1 := by omega
      have c4' : x2 ≤ m.1 - x1 := by omega
      go_wp2
      rw [← hU]
      go_roundw
      case rel => exact ⟨k + 1, by omega, by go_num, by rw [T.out.2.1], hide ⟨T.out.1.2 ⟨T.out.2.2, by omega, by omega, by omega, by omega⟩, cU.out⟩⟩
      case measure => simp [intOf]; omega
    · have hq : ¬ (k : Int) < (m.2.length : Int) := by omega
      have hr : Hid (echeck m = 0) := echeck_ok ⟨hA', hB', by rw [List.take_of_length_le (by omega)] at hrow; exact hrow⟩
      have cU := hide (HB.out.trans (hb.mono HB.out.size))
      clear hrow hb hH
      generalize eEnd (-1) (m.2.take k) = E at *
      go_wp2
      go_ret
      exact ⟨ret_int hr.out.symm, cU.out⟩

end Go.Proofs.Ytacfcgklncckiaa
