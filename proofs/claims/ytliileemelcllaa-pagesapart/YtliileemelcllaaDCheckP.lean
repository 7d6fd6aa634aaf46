/-
  The contracts of the program's has, Check and checkSector of disks.
-/
import Derived.Test.YtliileemelcllaaDMath
namespace Go.Proofs.Ytliileemelcllaa
open Go.RowKit
set_option linter.unusedVariables false

set_option maxRecDepth 100000 in
set_option maxHeartbeats 400000 in
theorem dhas_any (w : World) (sv cv : Value) (d : Dsk) (k : Int) (h1 : RdSec w sv d.1) (h2 : RdC w cv d.2) :
    Calls Try.prog 65 #[.agg #[sv, cv], .int .i64 k] w fun e w' => e = .returned (.bool (decide (dhas d k))) ∧ Below w.heap.size w w' := by
  obtain ⟨a1, c1, rfl⟩ := h1.slice
  obtain ⟨a2, c2, rfl⟩ := h2.slice
  obtain ⟨W, hW, D0, D1, bW, sW⟩ := boxed2 w (.slice a1 d.1.length c1) (.slice a2 d.2.length c2) 43
  by_cases hk : 0 ≤ k
  · by_cases hl : k < d.1.length
    · have hr : Hid (decide (dhas d k) = true) := by show _ = _; simp [dhas, hk, hl]
      go_enter Try.func65, Try.ntmps65
      go_wp2
      go_ret
      exact ⟨ret_bool hr.out.symm, by rw [← hW]; exact bW⟩
    · have hr : Hid (decide (dhas d k) = false) := by show _ = _; simp [dhas, hk, hl]
      go_enter Try.func65, Try.ntmps65
      go_wp2
      go_ret
      exact ⟨ret_bool hr.out.symm, by rw [← hW]; exact bW⟩
  · have hr : Hid (decide (dhas d k) = false) := by show _ = _; simp [dhas, hk]
    go_enter Try.func65, Try.ntmps65
    go_wp2
    go_ret
    exact ⟨ret_bool hr.out.symm, by rw [← hW]; exact bW⟩

set_option maxRecDepth 100000 in
set_option maxHeartbeats 1000000 in
theorem dcheck_any (w : World) (sv cv : Value) (d : Dsk) (h1 : RdSec w sv d.1) (h2 : RdC w cv d.2) :
    Calls Try.prog 50 #[.agg #[sv, cv]] w fun e w' => e = .returned (.int .i64 (dcheck d)) ∧ Below w.heap.size w w' := by
  obtain ⟨a1, c1, rfl⟩ := h1.slice
  obtain ⟨a2, c2, rfl⟩ := h2.slice
  have l1 := h1.bd
  have l2 := h2.bd
  obtain ⟨W, hW, D0, D1, bW, sW⟩ := boxed2 w (.slice a1 d.1.length c1) (.slice a2 d.2.length c2) 43
  replace h1 := h1.to0 bW
  replace h2 := h2.to0 bW
  by_cases hA : (d.1.length : Int) < 1
  · have hr : Hid (dcheck d = 9) := by apply dcheck_no; unfold DOk; omega
    go_enter Try.func50, Try.ntmps50
    go_wp2
    go_ret
    exact ⟨ret_int hr.out.symm, by rw [← hW]; exact bW⟩
  by_cases hB : (1024 : Int) < (d.1.length : Int)
  · have hr : Hid (dcheck d = 9) := by apply dcheck_no; unfold DOk; omega
    go_enter Try.func50, Try.ntmps50
    go_wp2
    go_ret
    exact ⟨ret_int hr.out.symm, by rw [← hW]; exact bW⟩
  by_cases hC : (4096 : Int) < (d.2.length : Int)
  · have hr : Hid (dcheck d = 9) := by apply dcheck_no; unfold DOk; omega
    go_enter Try.func50, Try.ntmps50
    go_wp2
    go_ret
    exact ⟨ret_int hr.out.symm, by rw [← hW]; exact bW⟩
  go_enter Try.func50, Try.ntmps50
  go_wp2
  rw [← hW]
  replace hW := hide hW
  go_loopw [26] (fun i wr => ∃ k : Nat, k ≤ d.1.length ∧ i = .int .i64 k ∧ (∀ i x, i < k → d.1[i]? = some x → x.length = 64) ∧ Below W.heap.size W wr) (fun i _ => d.1.length - (intOf i).toNat)
  case atStart => exact ⟨0, Nat.zero_le _, rfl, fun i x h => absurd h (Nat.not_lt_zero _), Below.refl _ _⟩
  case round =>
    obtain ⟨k, hk, rfl, hs, hb⟩ := hrel
    have HS := hide hs
    have E0 := (hb.cell (cell_lt D0)).trans D0
    have E1 := (hb.cell (cell_lt D1)).trans D1
    have q1 := h1.to0 hb
    have q2 := h2.to0 hb
    have bb := bW.trans (hb.mono bW.size)
    clear hs D0 D1
    by_cases hlt : k < d.1.length
    · have hq : (k : Int) < (d.1.length : Int) := by omega
      obtain ⟨x, hx, hm⟩ := some_at d.1 hlt
      obtain ⟨b1, o1, u, rfl, hc, hr⟩ := q1.oct hx
      obtain ⟨au, cu, rfl⟩ := hr.slice
      have HB := hide hb
      have HX := hide (And.intro hx hm)
      clear hb hx hm
      by_cases he : x.length = 64
      · have hne : ((x.length : Int) != 64) = false := by simp; omega
        replace he := hide he
        go_wp2
        go_roundw
        case rel => exact ⟨k + 1, by omega, by go_num, fun i z hi hz => by
          by_cases h : i = k
          · subst h; rw [HX.out.1] at hz; cases hz; exact he.out
          · exact HS.out i z (by omega) hz, HB.out⟩
        case measure => simp [intOf]; omega
      · have hne : ((x.length : Int) != 64) = true := by simp; omega
        have hd : Hid (dcheck d = 9) := by apply dcheck_no; intro h; exact he (h.2.2.2.1 x HX.out.2)
        clear he
        go_wp2
        go_ret
        exact ⟨ret_int hd.out.symm, bb⟩
    · have ek : ∀ x ∈ d.1, x.length = 64 := by
        intro x hx
        obtain ⟨i, hi, e⟩ := List.getElem_of_mem hx
        exact HS.out i x (by omega) (by rw [List.getElem?_eq_getElem hi, e])
      have EK := hide ek
      have HB := hide bb
      clear ek HS hb h1 h2 bb bW
      generalize wr = W2 at *
      go_wp2
      go_loopw [37] (fun i wr => ∃ k : Nat, k ≤ d.2.length ∧ i = .int .i64 k ∧ (∀ i y, i < k → d.2[i]? = some y → (0 ≤ y.1 ∧ y.1 < d.1.length) ∧ y.2.length = 64) ∧ Below W2.heap.size W2 wr) (fun i _ => d.2.length - (intOf i).toNat)
      case atStart => exact ⟨0, Nat.zero_le _, rfl, fun i x h => absurd h (Nat.not_lt_zero _), Below.refl _ _⟩
      case round =>
        obtain ⟨j, hj, rfl, hs, hb⟩ := hrel
        have HS := hide hs
        have G0 := (hb.cell (cell_lt E0)).trans E0
        have G1 := (hb.cell (cell_lt E1)).trans E1
        have p2 := q2.to0 hb
        have HBB := hide (HB.out.trans (hb.mono HB.out.size))
        have hq1 := q1
        have hq2 := q2
        clear hs E0 E1 q1 q2 HB
        by_cases hlt2 : j < d.2.length
        · have hq : (j : Int) < (d.2.length : Int) := by omega
          obtain ⟨y, hy, hm⟩ := some_at d.2 hlt2
          obtain ⟨b1, o1, u, rfl, hc1, hc2, hr⟩ := p2.wrt hy
          obtain ⟨au, cu, rfl⟩ := hr.slice
          have HY := hide (And.intro hy hm)
          obtain ⟨V, hV, V0, V1, bV, _⟩ := boxed2 wr (.int .i64 y.1) (.slice au y.2.length cu) 79
          have HB2 := hide (hb.trans (bV.mono hb.size))
          have HB3 := hide (HBB.out.trans (bV.mono HBB.out.size))
          have I0 := (bV.cell (cell_lt G0)).trans G0
          have I1 := (bV.cell (cell_lt G1)).trans G1
          clear hb hy hm p2 bV hr HBB
          obtain ⟨z, hz⟩ : ∃ z, z = y.1 := ⟨_, rfl⟩
          obtain ⟨L, hL⟩ : ∃ L, L = y.2.length := ⟨_, rfl⟩
          rw [← hz] at hc1 hV V0
          rw [← hL] at hc2 hV V1
          replace hz := hide hz
          replace hL := hide hL
          have p1 := (hq1.to0 HB2.out)
          rw [hV] at I0 I1
          have hh := dhas_any V _ _ d z p1 (hq2.to0 HB2.out)
          have HH := hide hh
          clear hh p1
          by_cases e2 : dhas d z
          · rw [decide_eq_true e2] at HH
            by_cases e3 : L = 64
            · have hne : ((L : Int) != 64) = false := by simp; omega
              have HE := hide (And.intro e2 e3)
              clear e3 e2
              go_wp2_with fail
              rw [← hV]
              replace hV := hide hV
              refine HH.out.mono ?_
              rintro e w5 ⟨rfl, b5⟩
              have B5 := hide (HB2.out.trans (b5.mono HB2.out.size))
              replace V1 := (b5.cell (cell_lt V1)).trans V1
              clear b5
              go_wp2
              go_roundw
              case rel => exact ⟨j + 1, by omega, by go_num, fun i q hi hqq => by
                by_cases h : i = j
                · subst h; rw [HY.out.1] at hqq; cases hqq; rw [← hz.out, ← hL.out]; exact HE.out
                · exact HS.out i q (by omega) hqq, B5.out⟩
              case measure => simp [intOf]; omega
            · have hne : ((L : Int) != 64) = true := by simp; omega
              have hd : Hid (dcheck d = 9) := by apply dcheck_no; intro h; exact e3 (by rw [hL.out]; exact (h.2.2.2.2 y HY.out.2).2)
              clear e3
              go_wp2_with fail
              rw [← hV]
              replace hV := hide hV
              refine HH.out.mono ?_
              rintro e w5 ⟨rfl, b5⟩
              have B5 := hide (HB3.out.trans (b5.mono HB3.out.size))
              replace V1 := (b5.cell (cell_lt V1)).trans V1
              clear b5
              go_wp2
              go_ret
              exact ⟨ret_int hd.out.symm, B5.out⟩
          · have hd : Hid (dcheck d = 9) := by apply dcheck_no; intro h; have := (h.2.2.2.2 y HY.out.2).1; rw [← hz.out] at this; exact e2 this
            rw [decide_eq_false e2] at HH
            go_wp2_with fail
            rw [← hV]
            replace hV := hide hV
            refine HH.out.mono ?_
            rintro e w5 ⟨rfl, b5⟩
            have B5 := hide (HB3.out.trans (b5.mono HB3.out.size))
            clear b5
            go_wp2
            go_ret
            exact ⟨ret_int hd.out.symm, B5.out⟩
        · have hd : Hid (dcheck d = 0) := by
            apply dcheck_ok
            refine ⟨by omega, by omega, by omega, EK.out, fun y hy => ?_⟩
            obtain ⟨i, hi, e⟩ := List.getElem_of_mem hy
            exact HS.out i y (by omega) (by rw [List.getElem?_eq_getElem hi, e])
          go_wp2
          go_ret
          exact ⟨ret_int hd.out.symm, HBB.out⟩

set_option maxRecDepth 100000 in
theorem dsector_any (w : World) (sv cv : Value) (d : Dsk) (k : Int) (h1 : RdSec w sv d.1) (h2 : RdC w cv d.2) :
    Calls Try.prog 56 #[.agg #[sv, cv], .int .i64 k] w fun e w' => e = .returned (.int .i64 (dsect d k)) ∧ Below w.heap.size w w' := by
  obtain ⟨a1, c1, rfl⟩ := h1.slice
  obtain ⟨a2, c2, rfl⟩ := h2.slice
  obtain ⟨W, hW, D0, D1, bW, sW⟩ := boxed2 w (.slice a1 d.1.length c1) (.slice a2 d.2.length c2) 43
  replace h1 := h1.to0 bW
  replace h2 := h2.to0 bW
  go_enter Try.func56, Try.ntmps56
  go_wp2_with fail
  rw [← hW]
  replace hW := hide hW
  refine (dcheck_any _ _ _ d h1 h2).mono ?_
  rintro e w1 ⟨rfl, b1⟩
  have B1 := hide (bW.trans (b1.mono bW.size))
  by_cases hok : DOk d
  · rw [dcheck_ok hok]
    replace D0 := (b1.cell (cell_lt D0)).trans D0
    replace D1 := (b1.cell (cell_lt D1)).trans D1
    replace h1 := h1.to0 b1
    replace h2 := h2.to0 b1
    clear b1 bW
    go_wp2_with fail
    refine (dhas_any _ _ _ d k h1 h2).mono ?_
    rintro e w2 ⟨rfl, b2⟩
    have B2 := hide (B1.out.trans (b2.mono B1.out.size))
    clear b2 h1 h2 B1
    by_cases hh : dhas d k
    · have hr : Hid (dsect d k = 0) := by show _ = _; unfold dsect; rw [if_pos hok, if_pos hh]
      rw [decide_eq_true hh]
      go_wp2
      go_ret
      exact ⟨ret_int hr.out.symm, B2.out⟩
    · have hr : Hid (dsect d k = 41) := by show _ = _; unfold dsect; rw [if_pos hok, if_neg hh]
      rw [decide_eq_false hh]
      go_wp2
      go_ret
      exact ⟨ret_int hr.out.symm, B2.out⟩
  · have hr : Hid (dsect d k = 9) := by show _ = _; unfold dsect; rw [if_neg hok]
    rw [dcheck_no hok]
    clear b1 bW h1 h2
    go_wp2
    go_ret
    exact ⟨ret_int hr.out.symm, B1.out⟩

end Go.Proofs.Ytliileemelcllaa
