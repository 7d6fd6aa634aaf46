/-
  The page's Get and Rot of disks.
-/
import Derived.Test.YtliileemelcllaaDPutR
import Derived.Laws.BitsAllLaws
namespace Go.Proofs.Ytliileemelcllaa
open Go.RowKit
set_option linter.unusedVariables false

theorem lastOf_snoc (z : Int) (x : List UInt8) (ws : List Wrt) (y : Wrt) : lastOf z x (ws ++ [y]) = if y.1 = z then y.2 else lastOf z x ws := by
  unfold lastOf; rw [List.foldl_append]; rfl
theorem lastOf_take {z : Int} {x : List UInt8} {ws : List Wrt} {k : Nat} {y : Wrt} (h : ws[k]? = some y) : lastOf z x (ws.take (k + 1)) = if y.1 = z then y.2 else lastOf z x (ws.take k) := by
  rw [← snoc_take ws h, lastOf_snoc]
theorem lastOf_64 {z : Int} {x : List UInt8} {ws : List Wrt} (hx : x.length = 64) (h : ∀ y ∈ ws, y.2.length = 64) : (lastOf z x ws).length = 64 := by
  induction ws generalizing x with
  | nil => exact hx
  | cons y r ih =>
    show (lastOf z (if y.1 = z then y.2 else x) r).length = 64
    refine ih ?_ (fun q hq => h q (List.mem_cons_of_mem _ hq))
    split
    · exact h y (by simp)
    · exact hx
theorem dhas_nat {d : Dsk} {z : Int} (h : dhas d z) : ∃ (k : Nat) (x : List UInt8), z = (k : Int) ∧ k < d.1.length ∧ d.1[k]? = some x := by
  obtain ⟨h1, h2⟩ := h
  refine ⟨z.toNat, d.1[z.toNat]'(by omega), by omega, by omega, List.getElem?_eq_getElem _⟩

set_option maxRecDepth 100000 in
set_option maxHeartbeats 2000000 in
theorem rget_any (w : World) (sv cv : Value) (d : Dsk) (z : Int) (h1 : RdSec w sv d.1) (h2 : RdC w cv d.2) :
    Calls Try.prog 47 #[.agg #[sv, cv], .int .i64 z] w fun e w' => ∃ v', e = .returned (.tuple #[v', .int .i64 (dget d z).2]) ∧ OwnB w.heap.size w' v' (dget d z).1 ∧ Below w.heap.size w w' := by
  obtain ⟨a1, c1, rfl⟩ := h1.slice
  obtain ⟨a2, c2, rfl⟩ := h2.slice
  have lb := h2.bd
  obtain ⟨W, hW, A0, A1, bW, sW⟩ := boxed2 w (.slice a1 d.1.length c1) (.slice a2 d.2.length c2) 40
  replace h1 := h1.to0 bW
  replace h2 := h2.to0 bW
  go_enter Try.func47, Try.ntmps47
  go_wp2_with fail
  rw [← hW]
  replace hW := hide hW
  refine (rcheck_any _ _ _ d h1 h2).mono ?_
  rintro e w1 ⟨rfl, b1⟩
  have c1w := bW.trans (b1.mono bW.size)
  by_cases hok : DOk d
  · rw [dcheck_ok hok]
    replace A0 := (b1.cell (cell_lt A0)).trans A0
    replace A1 := (b1.cell (cell_lt A1)).trans A1
    replace h1 := h1.to0 b1
    replace h2 := h2.to0 b1
    go_wp2_with fail
    refine (rhas_any _ _ _ d z h1 h2).mono ?_
    rintro e w2 ⟨rfl, b2⟩
    have c2w := c1w.trans (b2.mono c1w.size)
    replace A0 := (b2.cell (cell_lt A0)).trans A0
    replace A1 := (b2.cell (cell_lt A1)).trans A1
    replace h1 := h1.to0 b2
    replace h2 := h2.to0 b2
    clear b1 b2 c1w bW
    by_cases hh : dhas d z
    · rw [decide_eq_true hh]
      have hs0 : dsect d z = 0 := dsect_zero.2 ⟨hok, hh⟩
      obtain ⟨kz, x, rfl, hkl, hkx⟩ := dhas_nat hh
      have hR : Hid (dget d kz = (lastOf kz x d.2, 0)) := by
        show _ = _; unfold dget; rw [if_neg (by simp [hs0])]
        rw [show ((kz : Int)).toNat = kz from by omega, getD_some hkx]
      have hq : (kz : Int) < (d.1.length : Int) := by omega
      obtain ⟨b1, o1, u, rfl, hc, hr⟩ := h1.oct hkx
      have hl64 : ∀ k, (lastOf kz x (d.2.take k)).length = 64 := fun k => lastOf_64 (hok.2.2.2.1 x (List.mem_of_getElem? hkx)) (fun y hy => (hok.2.2.2.2 y (List.mem_of_mem_take hy)).2)
      have HL := hide hl64
      have HR := hide hr
      obtain ⟨au, cu, rfl⟩ := hr.slice
      clear hs0 hl64 hr h1 hok hh hkx
      generalize x.length = L at *
      go_wp2
      go_loopw [6, 7] (fun b i wr => ∃ k : Nat, k ≤ d.2.length ∧ i = .int .i64 k ∧ Rd wr b (lastOf kz x (d.2.take k)) ∧ Below w2.heap.size w2 wr) (fun _ i _ => d.2.length - (intOf i).toNat)
      case atStart => exact ⟨0, Nat.zero_le _, rfl, HR.out, Below.refl _ _⟩
      case round =>
        obtain ⟨k, hk, rfl, hr, hb⟩ := hrel
        clear HR
        replace A1 := (hb.cell (cell_lt A1)).trans A1
        by_cases hlt : k < d.2.length
        · have hqk : (k : Int) < (d.2.length : Int) := by omega
          obtain ⟨y, hy, _⟩ := some_at d.2 hlt
          obtain ⟨b2, o2, u2, rfl, hc1, hc2, hr2⟩ := (h2.to0 hb).wrt hy
          have hlt' := lastOf_take (z := kz) (x := x) hy
          obtain ⟨yz, yx⟩ := y
          dsimp only at hc1 hc2 hr2 hlt'
          obtain ⟨a2', c2', rfl⟩ := hr2.slice
          obtain ⟨a6, c6, rfl⟩ := hr.slice
          by_cases he : yz = kz
          · rw [if_pos he] at hlt'
            have hbe : (yz == (kz : Int)) = true := by simp [he]
            have HRR := hide hr2
            have HB := hide hb
            have HLT := hide hlt'
            clear hr hr2 hb he hy hlt'
            go_wp2
            go_roundw
            case rel => exact ⟨k + 1, by omega, by go_num, by rw [HLT.out]; exact HRR.out, HB.out⟩
            case measure => simp [intOf]; omega
          · rw [if_neg he] at hlt'
            have hbe : (yz == (kz : Int)) = false := by simpa using he
            have HRR := hide hr
            have HB := hide hb
            have HLT := hide hlt'
            clear hr hr2 hb he hy hlt'
            go_wp2
            go_roundw
            case rel => exact ⟨k + 1, by omega, by go_num, by rw [HLT.out]; exact HRR.out, HB.out⟩
            case measure => simp [intOf]; omega
        · obtain rfl : k = d.2.length := by omega
          have hl := HL.out d.2.length
          rw [List.take_of_length_le (Nat.le_refl _)] at hr hl
          have cc := c2w.trans (hb.mono c2w.size)
          go_wp2_with fail
          refine (rcopied_any _ _ _ hr (by omega)).mono ?_
          rintro e w5 ⟨v5, rfl, o5, b5⟩
          have O5 := hide (o5.mono cc.size)
          have C5 := hide (cc.trans (b5.mono cc.size))
          clear o5 b5 cc hr hb
          go_wp2
          go_ret2
          rw [hR.out]
          exact ⟨_, rfl, O5.out, C5.out⟩
    · rw [decide_eq_false hh]
      have hs0 : dsect d z = 41 := by unfold dsect; rw [if_pos hok, if_neg hh]
      have hR : Hid (dget d z = ([], 41)) := by show _ = _; unfold dget; rw [if_pos (by simp [hs0]), hs0]
      clear hs0
      go_wp2
      go_ret2
      rw [hR.out]
      exact ⟨_, rfl, World.ownsRow_nil _ _ _ _, c2w⟩
  · rw [dcheck_no hok]
    have hs0 : dsect d z = 9 := by unfold dsect; rw [if_neg hok]
    have hR : Hid (dget d z = ([], 9)) := by show _ = _; unfold dget; rw [if_pos (by simp [hs0]), hs0]
    clear hs0
    go_wp2
    go_ret2
    rw [hR.out]
    exact ⟨_, rfl, World.ownsRow_nil _ _ _ _, c1w⟩

end Go.Proofs.Ytliileemelcllaa
