/-
  The page's Check of logs.
-/
import Derived.Deep.CutRange
import Derived.Test.YtfalhboahdccmaaRlMath
import Derived.Test.YtfalhboahdccmaaRlA
namespace Go.Proofs.Ytfalhboahdccmaa
open Go.RowKit
set_option linter.unusedVariables false
set_option linter.unusedSimpArgs false

theorem head_no {l : Lg} (h : l.base < 0 ∨ 1099511627776 < l.base ∨ l.bt < 0 ∨ 1099511627776 < l.bt ∨ (l.base = 0 ∧ l.bt ≠ 0) ∨ 4096 < (l.es.length : Int) ∨ 1099511627776 - l.base < (l.es.length : Int)) : lcheck l = 9 := by
  refine lcheck_no fun k => ?_
  obtain ⟨⟨a1, a2, a3, a4, a5, a6, a7⟩, -⟩ := k
  rcases h with h | h | h | h | h | h | h
  · omega
  · omega
  · omega
  · omega
  · exact h.2 (a5 h.1)
  · omega
  · omega
theorem some_el15 {α : Type} (xs : List α) {k : Nat} (h : k < xs.length) : ∃ y, xs[k]? = some y := ⟨_, List.getElem?_eq_getElem h⟩
set_option maxRecDepth 100000 in
set_option maxHeartbeats 8000000 in
theorem rcheck15_any (w : World) (l : Lg) (v : Value) (h : RdC w v l.es) : Calls Try.prog 23 #[lv l v] w fun e w' => e = .returned (.int .i64 (lcheck l)) ∧ Below w.heap.size w w' := by
  have lb := h.bd
  obtain ⟨a, cp, rfl⟩ := h.slice
  obtain ⟨base, bt, es⟩ := l
  obtain ⟨C, hC⟩ : ∃ C : Lg, C = ⟨base, bt, es⟩ := ⟨_, rfl⟩
  dsimp only at h lb
  obtain ⟨n, hn⟩ : ∃ n, n = es.length := ⟨_, rfl⟩
  dsimp only [lv]
  rw [← hC, ← hn]
  rw [← hn] at h lb
  obtain ⟨W, hW, D, bW, sW⟩ := boxedN w #[.int .i64 base, .int .i64 bt, .slice a n cp] 24
  have HH := hide (h.to0 bW)
  have BW := hide bW
  obtain ⟨⟨D0, D1, D2⟩, _⟩ := cells3l D
  have NO : Hid ((base < 0 ∨ 1099511627776 < base ∨ bt < 0 ∨ 1099511627776 < bt ∨ (base = 0 ∧ bt ≠ 0) ∨ 4096 < (n : Int) ∨ 1099511627776 - base < (n : Int)) → lcheck C = 9) := fun k => by rw [hC]; exact head_no (l := ⟨base, bt, es⟩) (by rw [hn] at k; exact k)
  have YES : Hid (0 ≤ base → base ≤ 1099511627776 → 0 ≤ bt → bt ≤ 1099511627776 → (base = 0 → bt = 0) → n ≤ 4096 → base + n ≤ 1099511627776 → (lcheck C = if lup (max 1 bt) es then 0 else 9)) := fun k1 k2 k3 k4 k5 k6 k7 => by
    have hh : lhead C := by rw [hC]; exact ⟨k1, k2, k3, k4, k5, by dsimp only; omega, by dsimp only; omega⟩
    by_cases q : lup (max 1 bt) es
    · rw [if_pos q]; exact lcheck_ok ⟨hh, by rw [hC]; exact q⟩
    · rw [if_neg q]; exact lcheck_no fun k => q (by have := k.2; rw [hC] at this; exact this)
  replace hn := hide hn
  clear hC h bW D sW
  rw [hW] at D0 D1 D2
  go_enter Try.func23, Try.ntmps23
  go_upto_region 1 with fail
  rw [← hW]
  rw [← hW] at D0 D1 D2
  replace hW := hide hW
  obtain ⟨bn, hbn⟩ : ∃ b, b = decide (base < 0 ∨ 1099511627776 < base ∨ bt < 0 ∨ 1099511627776 < bt ∨ (base = 0 ∧ bt ≠ 0) ∨ 4096 < (n : Int) ∨ 1099511627776 - base < (n : Int)) := ⟨_, rfl⟩
  go_cut [48] from 6 to 48 (fun b wx => b = .bool bn ∧ W = wx)
  case first =>
    by_cases g1 : base < 0
    · have hd : Hid (bn = true) := by show _ = _; rw [hbn]; exact decide_eq_true (.inl g1)
      go_wp2_with fail
      go_meet
      exact ⟨by rw [hd.out], rfl⟩
    by_cases g2 : (1099511627776 : Int) < base
    · have hd : Hid (bn = true) := by show _ = _; rw [hbn]; exact decide_eq_true (.inr (.inl g2))
      go_wp2_with fail
      go_meet
      exact ⟨by rw [hd.out], rfl⟩
    by_cases g3 : bt < 0
    · have hd : Hid (bn = true) := by show _ = _; rw [hbn]; exact decide_eq_true (.inr (.inr (.inl g3)))
      go_wp2_with fail
      go_meet
      exact ⟨by rw [hd.out], rfl⟩
    by_cases g4 : (1099511627776 : Int) < bt
    · have hd : Hid (bn = true) := by show _ = _; rw [hbn]; exact decide_eq_true (.inr (.inr (.inr (.inl g4))))
      go_wp2_with fail
      go_meet
      exact ⟨by rw [hd.out], rfl⟩
    have g7q : (decide (1099511627776 - base < (n : Int)) = true) ∨ (decide (1099511627776 - base < (n : Int)) = false) := by cases decide (1099511627776 - base < (n : Int)) <;> simp
    have tail6 : Hid ((base = 0 → bt = 0) → (4096 : Int) < (n : Int) → bn = true) := fun _ k => by rw [hbn]; exact decide_eq_true (.inr (.inr (.inr (.inr (.inr (.inl k))))))
    have tail7 : Hid (1099511627776 - base < (n : Int) → bn = true) := fun k => by rw [hbn]; exact decide_eq_true (.inr (.inr (.inr (.inr (.inr (.inr k))))))
    have tail8 : Hid ((base = 0 → bt = 0) → ¬ (4096 : Int) < (n : Int) → ¬ 1099511627776 - base < (n : Int) → bn = false) := fun k k2 k3 => by
      rw [hbn]; refine decide_eq_false ?_
      rintro (q | q | q | q | q | q | q)
      · exact g1 q
      · exact g2 q
      · exact g3 q
      · exact g4 q
      · exact q.2 (k q.1)
      · exact k2 q
      · exact k3 q
    by_cases g0 : base = 0
    · by_cases gz : bt = 0
      · subst g0 gz
        by_cases g6 : (4096 : Int) < (n : Int)
        · have hd := hide (tail6.out (fun _ => rfl) g6)
          go_wp2_with fail
          go_meet
          exact ⟨by rw [hd.out], rfl⟩
        by_cases g7 : (1099511627776 : Int) - 0 < (n : Int)
        · omega
        have hd := hide (tail8.out (fun _ => rfl) g6 g7)
        go_wp2_with fail
        go_meet
        exact ⟨by rw [hd.out, decide_eq_false (by omega)], rfl⟩
      · have hd : Hid (bn = true) := by show _ = _; rw [hbn]; exact decide_eq_true (.inr (.inr (.inr (.inr (.inl ⟨g0, gz⟩)))))
        subst g0
        have gz' : (bt != 0) = true := by simpa using gz
        replace gz := hide gz
        go_wp2_with fail
        go_meet
        exact ⟨by rw [hd.out], rfl⟩
    · have g0' : (base == 0) = false := by simpa using g0
      have ng : Hid (base = 0 → bt = 0) := fun k => absurd k g0
      replace g0 := hide g0
      by_cases g6 : (4096 : Int) < (n : Int)
      · have hd := hide (tail6.out ng.out g6)
        go_wp2_with fail
        go_meet
        exact ⟨by rw [hd.out], rfl⟩
      by_cases g7 : (1099511627776 : Int) - base < (n : Int)
      · have hd := hide (tail7.out g7)
        go_wp2_with fail
        go_meet
        exact ⟨by rw [hd.out], rfl⟩
      have hd := hide (tail8.out ng.out g6 g7)
      go_wp2_with fail
      go_meet
      exact ⟨by rw [hd.out], rfl⟩
  case rest =>
  obtain ⟨rfl, rfl⟩ := hcut
  replace hbn := hide hbn
  cases bn with
  | true =>
    have hE := hide (NO.out (of_decide_eq_true hbn.out.symm))
    go_wp2
    go_ret
    exact ⟨ret_int hE.out.symm, BW.out⟩
  | false =>
    have hf := of_decide_eq_false hbn.out.symm
    have hE := hide (YES.out (by omega) (by omega) (by omega) (by omega) (fun k => by by_cases q : bt = 0; exact q; exact absurd (.inr (.inr (.inr (.inr (.inl ⟨k, q⟩))))) hf) (by omega) (by omega))
    have hb1 : 0 ≤ bt ∧ bt ≤ 1099511627776 := by omega
    have hb2 : n ≤ 4096 := by omega
    clear hf
    go_upto_region 3 with fail
    go_cut [3] from 49 to 51 (fun b wx => b = .int .i64 (max 1 bt) ∧ W = wx)
    case first =>
      have hm : Hid (max 1 bt = if bt ≤ 1 then 1 else bt) := by show _ = _; split <;> omega
      by_cases q : bt ≤ 1
      · have hm2 := hide (hm.out.trans (if_pos q))
        go_wp2_with fail
        all_goals first | omega | (go_meet; exact ⟨by rw [hm2.out], rfl⟩)
      · have hm2 := hide (hm.out.trans (if_neg q))
        go_wp2_with fail
        all_goals first | omega | (go_meet; exact ⟨by rw [hm2.out], rfl⟩)
    case rest =>
    obtain ⟨rfl, rfl⟩ := hcut
    go_wp2
    go_loopw [3, 4] (fun p i wr => ∃ k : Nat, k ≤ n ∧ i = .int .i64 k ∧ p = .int .i64 (lastT (max 1 bt) es k) ∧ Hid (lup (max 1 bt) (es.take k)) ∧ Below W.heap.size W wr) (fun _ i _ => n - (intOf i).toNat)
    case atStart => exact ⟨0, Nat.zero_le _, rfl, by rw [lastT_zero], hide trivial, Below.refl _ _⟩
    case round =>
      obtain ⟨k, hkn, rfl, rfl, hI, hb⟩ := hrel
      have E2 := (hb.cell (cell_lt D2)).trans D2
      have E1 := (hb.cell (cell_lt D1)).trans D1
      have E0 := (hb.cell (cell_lt D0)).trans D0
      have HB := hide hb
      have HA : Hid (∀ o, Below w.heap.size w (wr.alloc o)) := fun o => BW.out.trans ((hb.alloc hb.size o).mono BW.out.size)
      by_cases hlt : k < n
      · have hq : (k : Int) < (n : Int) := by omega
        obtain ⟨y, hy⟩ := some_el15 es (k := k) (by rw [← hn.out]; exact hlt)
        obtain ⟨b, off, u, rfl, c1, c2, hr⟩ := (HH.out.to0 hb).wrt hy
        obtain ⟨au, cu, rfl⟩ := hr.slice
        have hst : Hid (lastT (max 1 bt) es k ≤ y.1 ∧ y.1 ≤ 1099511627776 ∧ y.2.length ≤ 4096 → lup (max 1 bt) (es.take (k + 1))) := fun q => (lup_snoc hy).2 ⟨hI.out, q⟩
        have hno : Hid (¬ (lastT (max 1 bt) es k ≤ y.1 ∧ y.1 ≤ 1099511627776 ∧ y.2.length ≤ 4096) → lcheck C = 9) := fun q => by
          rw [hE.out, if_neg]
          intro q2
          exact q ((lup_snoc hy).1 (lup_take q2 (k + 1))).2
        have hls := hide (lastT_snoc (max 1 bt) hy)
        clear hr hb hy
        generalize lastT (max 1 bt) es k = p at *
        generalize y.1 = t at *
        generalize y.2.length = m at *
        by_cases g1 : t < p
        · have hR := hide (hno.out (fun q => by have := q.1; omega))
          go_wp2
          go_ret
          exact ⟨ret_int hR.out.symm, HA.out _⟩
        by_cases g2 : (1099511627776 : Int) < t
        · have hR := hide (hno.out (fun q => by have := q.2.1; omega))
          go_wp2
          go_ret
          exact ⟨ret_int hR.out.symm, HA.out _⟩
        by_cases g3 : (4096 : Int) < (m : Int)
        · have hR := hide (hno.out (fun q => by have := q.2.2; omega))
          go_wp2
          go_ret
          exact ⟨ret_int hR.out.symm, HA.out _⟩
        have hN := hide (hst.out ⟨by omega, by omega, by omega⟩)
        go_wp2
        go_roundw
        case rel => exact ⟨k + 1, by omega, by go_num, by rw [hls.out], hN, HB.out.alloc HB.out.size _⟩
        case measure => simp [intOf]; omega
      · have hq : ¬ (k : Int) < (n : Int) := by omega
        have hR : Hid (lcheck C = 0) := by
          show _ = _
          rw [hE.out, if_pos]
          have := hI.out
          rw [List.take_of_length_le (by rw [← hn.out]; omega)] at this
          exact this
        have HF := hide (BW.out.trans (hb.mono BW.out.size))
        go_wp2
        go_ret
        exact ⟨ret_int hR.out.symm, HF.out⟩
end Go.Proofs.Ytfalhboahdccmaa
