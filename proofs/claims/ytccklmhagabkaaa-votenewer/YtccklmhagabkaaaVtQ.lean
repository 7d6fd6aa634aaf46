/-
  The program's within, turned, Check, Newer, Turn and Decide of votes.
-/
import Derived.Deep.CutRange
import Derived.Test.YtccklmhagabkaaaVtP
namespace Go.Proofs.Ytccklmhagabkaaa
open Go.RowKit
set_option linter.unusedVariables false
set_option linter.unusedSimpArgs false

/-- a number with its bounds -/
abbrev Bw := Int × Int × Int
def bwin (y : Bw) : Prop := y.2.1 ≤ y.1 ∧ y.1 ≤ y.2.2
instance (y : Bw) : Decidable (bwin y) := by unfold bwin; infer_instance
def RdW16 (w : World) (v : Value) (bs : List Bw) : Prop := ∃ g off cap, v = .slice (some ⟨g, off, none⟩) bs.length cap ∧ bs.length ≤ 1000 ∧
  ∀ (i : Nat) (y : Bw), bs[i]? = some y → w.cell? ⟨g, off + i * 3, none⟩ = some (.int .i64 y.1) ∧ w.cell? ⟨g, off + i * 3 + 1, none⟩ = some (.int .i64 y.2.1) ∧ w.cell? ⟨g, off + i * 3 + 2, none⟩ = some (.int .i64 y.2.2)
set_option maxRecDepth 100000 in
set_option maxHeartbeats 4000000 in
theorem pwithin_any (w : World) (v : Value) (bs : List Bw) (h : RdW16 w v bs) : Calls Try.prog 17 #[v] w fun e w' => e = .returned (.bool (decide (∀ y ∈ bs, bwin y))) ∧ Below w.heap.size w w' := by
  obtain ⟨g, off, cap, rfl, hn, H⟩ := h
  obtain ⟨R, hR⟩ : ∃ R, R = decide (∀ y ∈ bs, bwin y) := ⟨_, rfl⟩
  rw [← hR]
  replace hR := hide hR
  replace H := hide H
  go_enter Try.func17, Try.ntmps17
  go_wp2
  go_loopw [7] (fun i wr => ∃ k : Nat, k ≤ bs.length ∧ i = .int .i64 k ∧ Hid (∀ y ∈ bs.take k, bwin y) ∧ Hid (Below w.heap.size w wr)) (fun i _ => bs.length - (intOf i).toNat)
  case atStart => exact ⟨0, Nat.zero_le _, rfl, hide (by simp), hide (Below.refl _ _)⟩
  case round =>
    obtain ⟨k, hk, rfl, ht, hb⟩ := hrel
    by_cases hlt : k < bs.length
    · have hq : (k : Int) < (bs.length : Int) := by omega
      obtain ⟨y, hy⟩ : ∃ y, bs[k]? = some y := ⟨bs[k], List.getElem?_eq_getElem hlt⟩
      obtain ⟨c0, c1, c2⟩ := H.out k y hy
      replace c0 := (hb.out.cell (cell_lt c0)).trans c0
      replace c1 := (hb.out.cell (cell_lt c1)).trans c1
      replace c2 := (hb.out.cell (cell_lt c2)).trans c2
      obtain ⟨U, hU, D, bU, sU⟩ := boxedN wr #[.int .i64 y.1, .int .i64 y.2.1, .int .i64 y.2.2] 48
      obtain ⟨⟨X0, X1, X2⟩, XF⟩ := cells3v D
      clear XF
      have cU := hide (hb.out.trans (bU.mono hb.out.size))
      rw [hU] at X0 X1 X2 cU
      clear hU bU sU D hb U
      have HY := hide hy
      have HM := hide (List.mem_of_getElem? hy)
      clear hy
      obtain ⟨n, lo, hi⟩ := y
      dsimp only at c0 c1 c2 X0 X1 X2 cU
      by_cases g1 : n < lo
      · have eq : Hid (R = false) := by show _ = _; rw [hR.out]; exact decide_eq_false fun h => by have := (h _ HM.out).1; dsimp only at this; omega
        go_wp2
        go_ret
        exact ⟨ret_bool eq.out.symm, cU.out⟩
      by_cases g2 : hi < n
      · have eq : Hid (R = false) := by show _ = _; rw [hR.out]; exact decide_eq_false fun h => by have := (h _ HM.out).2; dsimp only at this; omega
        go_wp2
        go_ret
        exact ⟨ret_bool eq.out.symm, cU.out⟩
      have en : Hid (∀ z ∈ bs.take (k + 1), bwin z) := by
        intro z hz
        rw [List.take_add_one, HY.out] at hz
        rcases List.mem_append.mp hz with q | q
        · exact ht.out z q
        · simp only [Option.toList_some, List.mem_singleton] at q
          subst q
          exact ⟨by dsimp only; omega, by dsimp only; omega⟩
      go_wp2
      go_roundw
      case rel => exact ⟨k + 1, by omega, by go_num, en, cU⟩
      case measure => simp [intOf]; omega
    · have hq : ¬ (k : Int) < (bs.length : Int) := by omega
      have eq : Hid (R = true) := by show _ = _; rw [hR.out]; refine decide_eq_true ?_; have := ht.out; rw [List.take_of_length_le (by omega)] at this; exact this
      go_wp2
      go_ret
      exact ⟨ret_bool eq.out.symm, hb.out⟩
set_option maxRecDepth 100000 in
theorem pnewer16_any (w : World) (l lt o ot : Int) : Calls Try.prog 14 #[.int .i64 l, .int .i64 lt, .int .i64 o, .int .i64 ot] w fun e w' => e = .returned (.bool (vnewer l lt o ot)) ∧ w = w' := by
  go_enter Try.func14, Try.ntmps14
  by_cases g2 : lt = ot
  · have hE : Hid (vnewer l lt o ot = decide (o ≤ l)) := by
      show _ = _
      unfold vnewer
      rw [decide_eq_decide]
      constructor
      · rintro (q | q)
        · omega
        · exact q.2
      · exact fun q => .inr ⟨g2, q⟩
    have g2' : (lt != ot) = false := by simpa using g2
    replace g2 := hide g2
    go_wp2
    go_ret
    exact ⟨ret_bool hE.out.symm, rfl⟩
  · have hE : Hid (vnewer l lt o ot = decide (ot < lt)) := by
      show _ = _
      unfold vnewer
      rw [decide_eq_decide]
      constructor
      · rintro (q | q)
        · exact q
        · exact absurd q.1 g2
      · exact fun q => .inl q
    have g2' : (lt != ot) = true := by simpa using g2
    replace g2 := hide g2
    go_wp2
    go_ret
    exact ⟨ret_bool hE.out.symm, rfl⟩
theorem box3v (w : World) (x y z : Value) : (w.alloc (.cells #[x, y, z] 26)).heap[w.heap.size]? = some (.cells #[x, y, z] 26 (0, 0)) ∧ Below w.heap.size w (w.alloc (.cells #[x, y, z] 26)) := by
  obtain ⟨W, hW, D, bW, sW⟩ := boxedN w #[x, y, z] 26
  rw [hW] at D bW
  exact ⟨D, bW⟩
theorem info_vs16p : (Try.prog.info? 26).map (·.size) = some 3 := by kernel_rfl
set_option maxRecDepth 100000 in
set_option maxHeartbeats 4000000 in
theorem pturned16_any (w : World) (s : Vs) (t : Int) : Calls Try.prog 18 #[sv16 s, .int .i64 t] w fun e w' => e = .returned (.tuple #[sv16 (vto s t), .bool (decide (s.term < t))]) ∧ Below w.heap.size w w' := by
  obtain ⟨W0, hW0, D, bW0, sW0⟩ := boxedN w #[.int .i64 s.term, .bool s.has, .int .i64 s.who] 26
  obtain ⟨W, hW, DZ, bW1, sW1⟩ := boxedN W0 #[.int .i64 0, .bool false, .int .i64 0] 26
  rw [sW0] at DZ
  have bW := bW0.trans (bW1.mono bW0.size)
  replace D := (bW1.block _ (lt_of_block D)).trans D
  have FZ := hide (fun x y z => (box3v W0 x y z).1)
  have FB := hide (fun x y z => bW0.trans ((box3v W0 x y z).2.mono bW0.size))
  rw [sW0] at FZ
  obtain ⟨⟨D0, D1, D2⟩, _⟩ := cells3v D
  obtain ⟨⟨Z0, Z1, Z2⟩, Zf⟩ := cells3v DZ
  have Zf0 := Zf 0
  have Zf1 := Zf 1
  have Zf2 := Zf 2
  clear Zf bW D bW0 bW1 sW0 DZ sW1
  subst hW
  subst hW0
  have V1 : Hid (s.term < t → vto s t = ⟨t, false, 0⟩) := fun q => if_pos q
  have V0 : Hid (¬ s.term < t → vto s t = s) := fun q => if_neg q
  generalize vto s t = V at *
  obtain ⟨term, has, who⟩ := s
  dsimp only [sv16] at *
  go_enter Try.func18, Try.ntmps18
  by_cases g3 : term < t
  · have hr := hide (V1.out g3)
    have hd : Hid (decide (term < t) = true) := decide_eq_true g3
    rw [hd.out]
    go_wp2
    refine retNT rfl rfl (w.heap.size + 1) rfl _ _ (0, 0) (FZ.out _ _ _) _ Try.underlying26 rfl info_vs16p (.bool true) rfl ?_
    rw [hr.out]
    exact ⟨rfl, FB.out _ _ _⟩
  · have hr := hide (V0.out g3)
    have hd : Hid (decide (term < t) = false) := decide_eq_false g3
    rw [hd.out]
    go_wp2
    refine retNT rfl rfl (w.heap.size + 1) rfl _ _ (0, 0) (FZ.out _ _ _) _ Try.underlying26 rfl info_vs16p (.bool false) rfl ?_
    rw [hr.out]
    exact ⟨rfl, FB.out _ _ _⟩
theorem bounds1 (w : World) (a : Bw) (t : TypeId) : RdW16 (w.alloc (.cells #[.int .i64 a.1, .int .i64 a.2.1, .int .i64 a.2.2] t)) (.slice (some ⟨w.heap.size, 0, none⟩) 1 1) [a] := by
  obtain ⟨W, hW, D, bW, sW⟩ := boxedN w #[.int .i64 a.1, .int .i64 a.2.1, .int .i64 a.2.2] t
  rw [← hW]
  refine ⟨w.heap.size, 0, 1, rfl, by simp, fun i y hy => ?_⟩
  rcases i with _ | i
  · simp only [List.getElem?_cons_zero, Option.some.injEq] at hy
    subst hy
    refine ⟨?_, ?_, ?_⟩
    · rw [cell_of_row _ _ (0 + 0 * 3) _ _ (0, 0) D]; rfl
    · rw [cell_of_row _ _ (0 + 0 * 3 + 1) _ _ (0, 0) D]; rfl
    · rw [cell_of_row _ _ (0 + 0 * 3 + 2) _ _ (0, 0) D]; rfl
  · simp at hy
theorem bounds2 (w : World) (a b : Bw) (t : TypeId) : RdW16 (w.alloc (.cells #[.int .i64 a.1, .int .i64 a.2.1, .int .i64 a.2.2, .int .i64 b.1, .int .i64 b.2.1, .int .i64 b.2.2] t)) (.slice (some ⟨w.heap.size, 0, none⟩) 2 2) [a, b] := by
  obtain ⟨W, hW, D, bW, sW⟩ := boxedN w #[.int .i64 a.1, .int .i64 a.2.1, .int .i64 a.2.2, .int .i64 b.1, .int .i64 b.2.1, .int .i64 b.2.2] t
  rw [← hW]
  refine ⟨w.heap.size, 0, 2, rfl, by simp, fun i y hy => ?_⟩
  rcases i with _ | _ | i
  · simp only [List.getElem?_cons_zero, Option.some.injEq] at hy
    subst hy
    refine ⟨?_, ?_, ?_⟩
    · rw [cell_of_row _ _ (0 + 0 * 3) _ _ (0, 0) D]; rfl
    · rw [cell_of_row _ _ (0 + 0 * 3 + 1) _ _ (0, 0) D]; rfl
    · rw [cell_of_row _ _ (0 + 0 * 3 + 2) _ _ (0, 0) D]; rfl
  · simp only [List.getElem?_cons_zero, List.getElem?_cons_succ, Option.some.injEq] at hy
    subst hy
    refine ⟨?_, ?_, ?_⟩
    · rw [cell_of_row _ _ (0 + (0 + 1) * 3) _ _ (0, 0) D]; rfl
    · rw [cell_of_row _ _ (0 + (0 + 1) * 3 + 1) _ _ (0, 0) D]; rfl
    · rw [cell_of_row _ _ (0 + (0 + 1) * 3 + 2) _ _ (0, 0) D]; rfl
  · simp at hy
set_option maxRecDepth 100000 in
set_option maxHeartbeats 4000000 in
theorem pcheck16_any (w : World) (s : Vs) : Calls Try.prog 12 #[sv16 s] w fun e w' => e = .returned (.int .i64 (vcheck s)) ∧ Below w.heap.size w w' := by
  obtain ⟨W, hW, D, bW, sW⟩ := boxedN w #[.int .i64 s.term, .bool s.has, .int .i64 s.who] 26
  obtain ⟨⟨D0, D1, D2⟩, DF⟩ := cells3v D
  clear DF
  obtain ⟨U, hU⟩ : ∃ U, U = W.alloc (.cells #[.int .i64 s.term, .int .i64 0, .int .i64 1099511627776, .int .i64 s.who, .int .i64 0, .int .i64 8] 48) := ⟨_, rfl⟩
  have bU : Below w.heap.size w U := by rw [hU]; exact bW.trans (((Below.refl W.heap.size W).alloc (Nat.le_refl _) _).mono bW.size)
  have KK := pwithin_any U _ _ (by rw [hU]; exact bounds2 W (s.term, 0, 1099511627776) (s.who, 0, 8) 48)
  rw [sW] at KK
  obtain ⟨bn, hbn⟩ : ∃ b, b = decide (∀ y ∈ [((s.term, 0, 1099511627776) : Bw), (s.who, 0, 8)], bwin y) := ⟨_, rfl⟩
  rw [← hbn] at KK
  have hb1 : Hid (bn = true ↔ (0 ≤ s.term ∧ s.term ≤ 1099511627776 ∧ 0 ≤ s.who ∧ s.who < 9)) := by
    show _ ↔ _
    rw [hbn, decide_eq_true_iff]
    simp only [List.mem_cons, List.not_mem_nil, or_false, forall_eq_or_imp, forall_eq, bwin]
    omega
  replace KK := hide KK
  have HE := hide bU
  have HU := hide (fun X (b : Below U.heap.size U X) => bU.trans (b.mono bU.size))
  have HC := hide (fun X (b : Below U.heap.size U X) => And.intro ((b.cell (by have := lt_of_block D; rw [hU]; simp; omega)).trans ((show U.cell? ⟨w.heap.size, 1, none⟩ = W.cell? ⟨w.heap.size, 1, none⟩ from by rw [hU]; exact ((Below.refl W.heap.size W).alloc (Nat.le_refl _) _).cell (lt_of_block D)).trans D1)) ((b.cell (by have := lt_of_block D; rw [hU]; simp; omega)).trans ((show U.cell? ⟨w.heap.size, 2, none⟩ = W.cell? ⟨w.heap.size, 2, none⟩ from by rw [hU]; exact ((Below.refl W.heap.size W).alloc (Nat.le_refl _) _).cell (lt_of_block D)).trans D2)))
  have Y : Hid (bn = true → ¬ (s.has = false ∧ s.who ≠ 0) → vcheck s = 0) := fun q n => vcheck_ok (by
    obtain ⟨a1, a2, a3, a4⟩ := hb1.out.1 q
    exact ⟨a1, a2, a3, a4, fun z => Classical.byContradiction fun y => n ⟨z, y⟩⟩)
  have Z : Hid (bn = false → vcheck s = 9) := fun q => vcheck_no fun k => by
    have := hb1.out.2 ⟨k.1, k.2.1, k.2.2.1, k.2.2.2.1⟩
    rw [q] at this
    exact absurd this (by decide)
  have Z2 : Hid (s.has = false → s.who ≠ 0 → vcheck s = 9) := fun q r => vcheck_no fun k => r (k.2.2.2.2 q)
  have hUU : Hid (U = (w.alloc (.cells #[.int .i64 s.term, .bool s.has, .int .i64 s.who] 26)).alloc (.cells #[.int .i64 s.term, .int .i64 0, .int .i64 1099511627776, .int .i64 s.who, .int .i64 0, .int .i64 8] 48)) := by rw [hW] at hU; exact hU
  rw [hW] at D0 D1 D2
  clear hbn hU bU bW sW D hW hb1
  generalize vcheck s = R at *
  obtain ⟨term, has, who⟩ := s
  dsimp only [sv16] at *
  rw [hUU.out] at KK
  go_enter Try.func12, Try.ntmps12
  go_wp2_with fail
  refine KK.out.mono ?_
  rintro e w1 ⟨rfl, b1⟩
  rw [← hUU.out] at b1
  clear KK hUU D0 D1 D2
  have hE := hide (HU.out w1 b1)
  obtain ⟨D1, D2⟩ := HC.out w1 b1
  clear HC HU b1
  cases bn with
  | false =>
    have hr := hide (Z.out rfl)
    go_wp2
    go_ret
    exact ⟨ret_int hr.out.symm, hE.out⟩
  | true =>
    cases has with
    | true =>
      have hr := hide (Y.out rfl (by rintro ⟨q, _⟩; cases q))
      go_wp2
      go_ret
      exact ⟨ret_int hr.out.symm, hE.out⟩
    | false =>
      by_cases g5 : who = 0
      · subst g5
        have hr := hide (Y.out rfl (by rintro ⟨_, q⟩; exact q rfl))
        go_wp2
        go_ret
        exact ⟨ret_int hr.out.symm, hE.out⟩
      · have hr := hide (Z2.out rfl g5)
        have g5' : (who != 0) = true := by simpa using g5
        replace g5 := hide g5
        go_wp2
        go_ret
        exact ⟨ret_int hr.out.symm, hE.out⟩
end Go.Proofs.Ytccklmhagabkaaa
