/-
  The program's small calls of logs: whether a snapshot may end so, the last number, which terms are known.
-/
import Derived.Deep.CutRange
import Derived.Test.YtfalhboahdccmaaRpM
import Derived.Test.YtfalhboahdccmaaRlC
namespace Go.Proofs.Ytfalhboahdccmaa
open Go.RowKit
set_option linter.unusedVariables false
set_option linter.unusedSimpArgs false

theorem ret_bool15 {a b : Bool} (h : a = b) : Ending.returned (.bool a) = Ending.returned (.bool b) := by rw [h]
set_option maxRecDepth 100000 in
set_option maxHeartbeats 4000000 in
theorem pbm15_any (w : World) (l : Lg) (v : Value) (h : RdC w v l.es) : Calls Try.prog 41 #[lv l v] w fun e w' => e = .returned (.bool (decide (lbm l))) ∧ Below w.heap.size w w' := by
  obtain ⟨a, cp, rfl⟩ := h.slice
  clear h
  obtain ⟨base, bt, es⟩ := l
  obtain ⟨B, hB⟩ : ∃ B, B = decide (lbm ⟨base, bt, es⟩) := ⟨_, rfl⟩
  have hY : Hid (base = 0 → B = decide (bt = 0)) := fun q => by rw [hB]; unfold lbm; simp only [if_pos q]
  have hN : Hid (base ≠ 0 → B = decide (0 < base ∧ base ≤ 1099511627776 ∧ 0 ≤ bt ∧ bt ≤ 1099511627776)) := fun q => by rw [hB]; unfold lbm; simp only [if_neg q]
  dsimp only [lv]
  rw [← hB]
  clear hB
  generalize es.length = n at *
  obtain ⟨W, hW, D, bW, sW⟩ := boxedN w #[.int .i64 base, .int .i64 bt, .slice a n cp] 28
  obtain ⟨⟨D0, D1, D2⟩, _⟩ := cells3l D
  have HB := hide bW
  rw [hW] at D0 D1 D2
  clear bW D sW
  by_cases g0 : base = 0
  · have hR := hide (hY.out g0)
    subst g0
    by_cases g1 : bt = 0
    · subst g1
      go_enter Try.func41, Try.ntmps41
      go_wp2
      go_ret
      exact ⟨ret_bool15 (hR.out.trans (by simp)).symm, by rw [← hW]; exact HB.out⟩
    · have g1' : (bt == 0) = false := by simpa using g1
      have hE := hide (hR.out.trans (decide_eq_false g1))
      replace g1 := hide g1
      go_enter Try.func41, Try.ntmps41
      go_wp2
      go_ret
      exact ⟨ret_bool15 hE.out.symm, by rw [← hW]; exact HB.out⟩
  · have hR := hide (hN.out g0)
    have g0' : (base == 0) = false := by simpa using g0
    replace g0 := hide g0
    by_cases g1 : 0 < base
    case neg =>
      have hE := hide (hR.out.trans (decide_eq_false fun q => g1 q.1))
      go_enter Try.func41, Try.ntmps41
      go_wp2
      go_ret
      exact ⟨ret_bool15 hE.out.symm, by rw [← hW]; exact HB.out⟩
    by_cases g2 : base ≤ 1099511627776
    case neg =>
      have hE := hide (hR.out.trans (decide_eq_false fun q => g2 q.2.1))
      go_enter Try.func41, Try.ntmps41
      go_wp2
      go_ret
      exact ⟨ret_bool15 hE.out.symm, by rw [← hW]; exact HB.out⟩
    by_cases g3 : 0 ≤ bt
    case neg =>
      have hE := hide (hR.out.trans (decide_eq_false fun q => g3 q.2.2.1))
      go_enter Try.func41, Try.ntmps41
      go_wp2
      go_ret
      exact ⟨ret_bool15 hE.out.symm, by rw [← hW]; exact HB.out⟩
    have hE : Hid (B = decide (bt ≤ 1099511627776)) := hR.out.trans (decide_eq_decide.2 ⟨fun q => q.2.2.2, fun q => ⟨g1, g2, g3, q⟩⟩)
    go_enter Try.func41, Try.ntmps41
    go_wp2
    go_ret
    exact ⟨ret_bool15 hE.out.symm, by rw [← hW]; exact HB.out⟩
/-- numbers of a log whose sum is one -/
structure LB (l : Lg) : Prop where
  b : 0 ≤ l.base ∧ l.base ≤ 1099511627776
  n : l.es.length ≤ 140737488351232
theorem LB.tk {l : Lg} (h : LB l) (k : Nat) : LB (ltk l k) := ⟨h.b, by have := h.n; unfold ltk; dsimp only; rw [List.length_take]; omega⟩
theorem LOk.lb {l : Lg} (h : LOk l) : LB l := by
  have := h.bd
  exact ⟨this.1, by omega⟩
set_option maxRecDepth 100000 in
theorem plast15_any (w : World) (l : Lg) (v : Value) (h : RdC w v l.es) (lb : LB l) : Calls Try.prog 30 #[lv l v] w fun e w' => e = .returned (.int .i64 (lend l)) ∧ Below w.heap.size w w' := by
  obtain ⟨a, cp, rfl⟩ := h.slice
  obtain ⟨k1, k2⟩ := lb
  obtain ⟨base, bt, es⟩ := l
  dsimp only at h k1 k2
  have hR : Hid (lend ⟨base, bt, es⟩ = base + (es.length : Int)) := rfl
  dsimp only [lv]
  obtain ⟨R, hRR⟩ : ∃ R, R = lend ⟨base, bt, es⟩ := ⟨_, rfl⟩
  rw [← hRR] at hR ⊢
  clear hRR
  generalize es.length = n at *
  obtain ⟨W, hW, D, bW, sW⟩ := boxedN w #[.int .i64 base, .int .i64 bt, .slice a n cp] 28
  obtain ⟨⟨D0, D1, D2⟩, _⟩ := cells3l D
  have HB := hide bW
  rw [hW] at D0 D1 D2
  clear bW D sW
  go_enter Try.func30, Try.ntmps30
  go_wp2
  go_ret
  exact ⟨ret_int hR.out.symm, by rw [← hW]; exact HB.out⟩
set_option maxRecDepth 100000 in
set_option maxHeartbeats 2000000 in
theorem ptermof15_any (w : World) (l : Lg) (v : Value) (i : Int) (h : RdC w v l.es) (lb : LB l) (hi : l.base ≤ i ∧ i ≤ lend l) : Calls Try.prog 31 #[lv l v, .int .i64 i] w fun e w' => e = .returned (.int .i64 (lterm l i)) ∧ Below w.heap.size w w' := by
  have hR : Hid (i = l.base → lterm l i = l.bt) := lterm_base
  by_cases q : i = l.base
  · have hE := hide (hR.out q)
    obtain ⟨a, cp, rfl⟩ := h.slice
    clear hR lb hi
    obtain ⟨base, bt, es⟩ := l
    dsimp only at h q hE
    dsimp only [lv]
    obtain ⟨R, hRR⟩ : ∃ R, R = lterm ⟨base, bt, es⟩ i := ⟨_, rfl⟩
    rw [← hRR] at hE ⊢
    clear hRR
    generalize es.length = n at *
    obtain ⟨W, hW, D, bW, sW⟩ := boxedN w #[.int .i64 base, .int .i64 bt, .slice a n cp] 28
    obtain ⟨⟨D0, D1, D2⟩, _⟩ := cells3l D
    have HB := hide bW
    rw [hW] at D0 D1 D2
    clear bW D sW h
    subst q
    go_enter Try.func31, Try.ntmps31
    go_wp2
    go_ret
    exact ⟨ret_int hE.out.symm, by rw [← hW]; exact HB.out⟩
  · have hlt : (i - l.base - 1).toNat < l.es.length := by have := hi.1; have := hi.2; unfold lend at this; omega
    obtain ⟨y, hy⟩ := some_el15 l.es hlt
    have hE := hide (lterm_at q rfl hy)
    obtain ⟨k1, k3⟩ := lb
    have hi2 : l.base ≤ i ∧ i ≤ l.base + l.es.length := hi
    obtain ⟨W, hW, D, bW, sW⟩ := boxedN w #[.int .i64 l.base, .int .i64 l.bt, v] 28
    have h1 := h.to0 bW
    obtain ⟨a, cp, rfl⟩ := h.slice
    obtain ⟨b, off, u, rfl, c1, c2, hr⟩ := h1.wrt hy
    obtain ⟨au, cu, rfl⟩ := hr.slice
    obtain ⟨⟨D0, D1, D2⟩, _⟩ := cells3l D
    clear hR hi hr h h1 hy D sW
    obtain ⟨base, bt, es⟩ := l
    dsimp only at q hE hlt k1 k3 hi2 c1 c2 D0 D1 D2 hW
    dsimp only [lv]
    obtain ⟨R, hRR⟩ : ∃ R, R = lterm ⟨base, bt, es⟩ i := ⟨_, rfl⟩
    rw [← hRR] at hE ⊢
    clear hRR
    have q' : (i == base) = false := by simpa using q
    obtain ⟨k, rfl⟩ : ∃ k : Nat, i = base + 1 + k := ⟨(i - base - 1).toNat, by omega⟩
    have ek : base + 1 + (k : Int) - base - 1 = k := by omega
    have ek2 : base + 1 + (k : Int) - 1 - base = k := by omega
    rw [ek] at c1 c2 hlt
    rw [show ((k : Int)).toNat = k by omega] at c1 c2 hlt
    generalize es.length = n at *
    generalize y.1 = t at *
    generalize y.2.length = m at *
    have HB := hide bW
    rw [hW] at D0 D1 D2 c1 c2
    replace q := hide q
    go_enter Try.func31, Try.ntmps31
    go_wp2
    go_ret
    exact ⟨ret_int hE.out.symm, by rw [← hW]; exact HB.out⟩
set_option maxRecDepth 100000 in
set_option maxHeartbeats 2000000 in
theorem phas15_any (w : World) (l : Lg) (v : Value) (i : Int) (h : RdC w v l.es) (lb : LB l) : Calls Try.prog 34 #[lv l v, .int .i64 i] w fun e w' => e = .returned (.bool (decide (l.base ≤ i ∧ i ≤ lend l))) ∧ Below w.heap.size w w' := by
  obtain ⟨W, hW, D, bW, sW⟩ := boxedN w #[.int .i64 l.base, .int .i64 l.bt, v] 28
  have KE := hide (plast15_any W l v (h.to0 bW) lb)
  obtain ⟨a, cp, rfl⟩ := h.slice
  clear h lb
  obtain ⟨⟨D0, D1, D2⟩, _⟩ := cells3l D
  generalize lend l = E at *
  obtain ⟨base, bt, es⟩ := l
  dsimp only at KE D0 D1 D2 hW
  dsimp only [lv] at KE ⊢
  obtain ⟨R, hR⟩ : ∃ R, R = decide (base ≤ i ∧ i ≤ E) := ⟨_, rfl⟩
  rw [← hR]
  replace hR := hide hR
  generalize es.length = n at *
  have HB := hide bW
  rw [hW] at D0 D1 D2 KE
  clear bW D sW
  by_cases g : base ≤ i
  case neg =>
    have hE : Hid (R = false) := hR.out.trans (decide_eq_false fun q => g q.1)
    clear KE
    go_enter Try.func34, Try.ntmps34
    go_wp2
    go_ret
    exact ⟨ret_bool15 hE.out.symm, by rw [← hW]; exact HB.out⟩
  have hE : Hid (R = decide (i ≤ E)) := hR.out.trans (decide_eq_decide.2 ⟨fun q => q.2, fun q => ⟨g, q⟩⟩)
  go_enter Try.func34, Try.ntmps34
  go_wp2_with fail
  refine KE.out.mono ?_
  rintro e w1 ⟨rfl, b1⟩
  rw [← hW] at b1
  have BB := hide (HB.out.trans (b1.mono HB.out.size))
  clear b1 KE
  go_wp2
  go_ret
  exact ⟨ret_bool15 hE.out.symm, BB.out⟩
end Go.Proofs.Ytfalhboahdccmaa
