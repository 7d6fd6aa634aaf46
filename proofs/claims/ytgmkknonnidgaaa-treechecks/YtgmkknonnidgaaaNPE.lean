/-
  The program's reader: octets taken from the front, numbers, texts.
-/
import Derived.Test.YtgmkknonnidgaaaNPD
import Derived.Test.YtgmkknonnidgaaaGet
import Derived.Test.YtgmkknonnidgaaaNRr
namespace Go.Proofs.Ytgmkknonnidgaaa
open Go.RowKit
set_option linter.unusedVariables false
set_option linter.unusedSimpArgs false

/-- the reader at g over octets that lay there in w0 -/
structure RdrAt (w0 : World) (g : Nat) (w : World) (a : Option Addr) (c : Nat) (r : Rr) : Prop where
  box : w.heap[g]? = some (.cells #[.slice a r.rest.length c, .bool r.short] 170 (0, 0))
  rd : Rd w0 (.slice a r.rest.length c) r.rest
  bel : Below w0.heap.size w0 w
  hg : w0.heap.size ≤ g
theorem RdrAt.kp {w0 : World} {g : Nat} {w : World} {a : Option Addr} {c : Nat} {r : Rr} (h : RdrAt w0 g w a c r) {U : World} (k : Below w.heap.size w U) : RdrAt w0 g U a c r :=
  ⟨(k.block _ (lt_of_block h.box)).trans h.box, h.rd, h.bel.trans (k.mono h.bel.size), h.hg⟩
def RdrX (w0 : World) (g : Nat) (w : World) (r : Rr) : Prop := ∃ a c, RdrAt w0 g w a c r
theorem RdrX.to {w0 : World} {g : Nat} {w : World} {r : Rr} (h : RdrX w0 g w r) {U : World} (k : Below w.heap.size w U) : RdrX w0 g U r := by
  obtain ⟨a, c, h⟩ := h
  exact ⟨a, c, h.kp k⟩
theorem RdrX.bel {w0 : World} {g : Nat} {w : World} {r : Rr} (h : RdrX w0 g w r) : Below w0.heap.size w0 w := by obtain ⟨_, _, h⟩ := h; exact h.bel
theorem RdrX.lt {w0 : World} {g : Nat} {w : World} {r : Rr} (h : RdrX w0 g w r) : g < w.heap.size := by obtain ⟨_, _, h⟩ := h; exact lt_of_block h.box

set_option maxRecDepth 100000 in
set_option maxHeartbeats 1000000 in
theorem ptake_any (w0 : World) (g : Nat) (w : World) (r : Rr) (s : Nat) (h : RdrX w0 g w r) (hs : s ≤ 1000000000000) :
    Calls Try.prog 110 #[.pointer (some ⟨g, 0, none⟩), .int .i64 (s : Int)] w fun e w' => ∃ a1 c1, e = .returned (.slice a1 (rtk s r).length c1) ∧ Rd w0 (.slice a1 (rtk s r).length c1) (rtk s r) ∧ RdrX w0 g w' (rst s r) ∧ KpG g w w' := by
  obtain ⟨a, c, h⟩ := h
  obtain ⟨⟨A0, A1⟩, af⟩ := cells2r h.box
  have f0 := af 0
  have f1 := af 1
  have lb : r.rest.length ≤ 9223372036854775807 := by obtain ⟨_, _, e, _, m1, _⟩ := h.rd; simp only [Value.slice.injEq] at e; unfold maxLen at m1; omega
  have hcap : r.rest.length ≤ c := by obtain ⟨_, _, e, l1, _⟩ := h.rd; simp only [Value.slice.injEq] at e; omega
  have HH := hide h
  obtain ⟨L, hL⟩ : ∃ L, L = r.rest.length := ⟨_, rfl⟩
  rw [← hL] at A0 lb hcap
  replace hL := hide hL
  clear af h
  by_cases hlt : L < s
  · have hq : (L : Int) < (s : Int) := by omega
    have e1 : Hid (rtk s r = []) := by show _ = _; unfold rtk; rw [← hL.out, if_pos hlt]
    have e2 : Hid (rst s r = ⟨r.rest, true⟩) := by show _ = _; unfold rst; rw [← hL.out, if_pos hlt]
    go_enter Try.func110, Try.ntmps110
    go_wp2
    go_ret
    refine ⟨none, 0, by rw [e1.out]; rfl, by rw [e1.out]; exact rd_nil0 _, ?_, (KpG.refl g w).set 1 _⟩
    rw [e2.out]
    exact ⟨a, c, (heap_set2r HH.out.box _).2, HH.out.rd, HH.out.bel.setCell (p := ⟨g, 1, none⟩) HH.out.hg _, HH.out.hg⟩
  · have hq : ¬ (L : Int) < (s : Int) := by omega
    have hq2 : (s : Int) ≤ (L : Int) := by omega
    have hq3 : (s : Int) ≤ (c : Int) := by omega
    have e1 : Hid (rtk s r = r.rest.take s) := by show _ = _; unfold rtk; rw [← hL.out, if_neg hlt]
    have e2 : Hid (rst s r = ⟨r.rest.drop s, r.short⟩) := by show _ = _; unfold rst; rw [← hL.out, if_neg hlt]
    have R0 := HH.out.rd
    rw [← hL.out] at R0
    obtain ⟨A, hA, R1⟩ := rd_cut R0 (q := s) (to := L) (by omega) (Nat.le_refl _)
    have R2 := hide (rd_take9 R0 (n := s) (by omega))
    rw [List.take_of_length_le (by rw [hL.out]; omega)] at R1
    replace R1 := hide R1
    clear R0
    go_enter Try.func110, Try.ntmps110
    go_wp2
    go_ret
    have l1 : (r.rest.take s).length = s := by rw [List.length_take, ← hL.out]; omega
    have l2 : (r.rest.drop s).length = L - s := by rw [List.length_drop, ← hL.out]
    refine ⟨a, c, by rw [e1.out, l1]; rfl, by rw [e1.out, l1]; exact R2.out, ?_, (KpG.refl g w).set 0 _⟩
    rw [e2.out]
    refine ⟨A, c - s, ?_, ?_, HH.out.bel.setCell (p := ⟨g, 0, none⟩) HH.out.hg _, HH.out.hg⟩
    · show _ = some (Obj.cells #[.slice A (r.rest.drop s).length (c - s), .bool r.short] _ _)
      rw [l2]; exact (heap_set2r HH.out.box _).1
    · show Rd w0 (.slice A (r.rest.drop s).length (c - s)) (r.rest.drop s)
      rw [l2]; exact R1.out

set_option maxRecDepth 100000 in
set_option maxHeartbeats 1000000 in
theorem pnumber_any (w0 : World) (g : Nat) (w : World) (r : Rr) (s : Nat) (h : RdrX w0 g w r) (h1 : 1 ≤ s) (hs : s ≤ 7) :
    Calls Try.prog 101 #[.pointer (some ⟨g, 0, none⟩), .int .i64 (s : Int)] w fun e w' => e = .returned (.int .i64 (rnum s r : Nat)) ∧ RdrX w0 g w' (rst s r) ∧ KpG g w w' := by
  have KT := hide (ptake_any w0 g w r s h (by omega))
  have hn := rnum_lt s r
  have hn2 : 2 ^ (8 * s) ≤ 2 ^ 56 := Nat.pow_le_pow_right (by decide) (by omega)
  have hn3 : rnum s r < 9223372036854775808 := by
    have e56 : (2 : Nat) ^ 56 = 72057594037927936 := by decide
    omega
  clear hn hn2 h
  go_enter Try.func101, Try.ntmps101
  go_wp2_with fail
  refine KT.out.mono ?_
  rintro e w1 ⟨a1, c1, rfl, d1, r1, k1⟩
  clear KT
  have D1 := d1.to r1.bel
  have KG : Hid (Calls Try.prog 109 #[.slice a1 (rtk s r).length c1] w1 fun e w' => ∃ z : Int, e = .returned (.tuple #[.int .u64 (rnum s r : Nat), .int .i64 z]) ∧ Below w1.heap.size w1 w') := by
    have le := rtk_le s r
    by_cases h0 : (rtk s r).length < 1
    · refine (get_no w1 _ _ D1 (.inl h0)).mono ?_
      rintro e w' ⟨rfl, b⟩
      refine ⟨3, ?_, b⟩
      have : rnum s r = 0 := by
        unfold rnum
        rw [List.eq_nil_of_length_eq_zero (l := rtk s r) (by omega)]
        rfl
      rw [this]; rfl
    · refine (get_yes w1 _ _ D1 (by omega) (by omega)).mono ?_
      rintro e w' ⟨rfl, b⟩
      exact ⟨0, rfl, b⟩
  generalize (rtk s r).length = TL at *
  generalize hV : rnum s r = V at *
  replace hV := hide hV
  have hv : IntKind.i64.wrap (V : Int) = (V : Int) := IntWalk.i64_in _ (by omega)
  have R1 := hide (And.intro r1 k1)
  clear d1 D1 r1 k1
  go_wp2_with fail
  refine KG.out.mono ?_
  rintro e w2 ⟨z, rfl, b2⟩
  clear KG
  replace b2 := hide b2
  go_wp2
  go_ret
  exact ⟨ret_int (by rw [hV.out]), R1.out.1.to b2.out, R1.out.2.trans (KpG.of b2.out)⟩

set_option maxRecDepth 100000 in
set_option maxHeartbeats 1000000 in
theorem ptxt_any (w0 : World) (g : Nat) (w : World) (r : Rr) (h : RdrX w0 g w r) :
    Calls Try.prog 102 #[.pointer (some ⟨g, 0, none⟩)] w fun e w' => e = .returned (st (rtx r)) ∧ RdrX w0 g w' (rts r) ∧ KpG g w w' := by
  have KN := hide (pnumber_any w0 g w r 1 h (by decide) (by decide))
  have hn := rnum_lt 1 r
  have e1 : Hid (rtx r = rtk (rnum 1 r) (rst 1 r)) := rfl
  have e2 : Hid (rts r = rst (rnum 1 r) (rst 1 r)) := rfl
  clear h
  go_enter Try.func102, Try.ntmps102
  go_wp2_with fail
  refine KN.out.mono ?_
  rintro e w1 ⟨rfl, r1, k1⟩
  clear KN
  have KT := hide (ptake_any w0 g w1 (rst 1 r) (rnum 1 r) r1 (by omega))
  rw [← e1.out, ← e2.out] at KT
  generalize rnum 1 r = V at *
  have K1 := hide k1
  clear r1 k1
  go_wp2_with fail
  refine KT.out.mono ?_
  rintro e w2 ⟨a2, c2, rfl, d2, r2, k2⟩
  clear KT
  have hcv := conv_any (d2.to r2.bel)
  have R2 := hide (And.intro r2 (K1.out.trans k2))
  clear d2 r2 k2
  generalize hX : rtx r = X at *
  replace hX := hide hX
  go_wp2
  go_ret
  exact ⟨by rw [hX.out]; rfl, R2.out.1, R2.out.2⟩

end Go.Proofs.Ytgmkknonnidgaaa
