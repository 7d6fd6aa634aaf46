/-
  The program's own small functions of frames: number, told, measure; and Seal.
-/
import Derived.Test.YtlnoancjegifnaaFRefO
import Derived.Test.YtlnoancjegifnaaGet
namespace Go.Proofs.Ytlnoancjegifnaa
open Go.RowKit
set_option linter.unusedVariables false

set_option maxRecDepth 100000 in
theorem fnumber_any (w : World) (n s : Nat) (h1 : 1 ≤ s) (h8 : s ≤ 8) (hn : n < 2 ^ (8 * s)) (hn64 : n < 18446744073709551616) :
    Calls Try.prog 56 #[.int .u64 (n : Int), .int .i64 (s : Int)] w fun e w' => ∃ v, e = .returned v ∧ OwnB w.heap.size w' v (oc n s) ∧ Below w.heap.size w w' := by
  go_enter Try.func56, Try.ntmps56
  go_wp2_with fail
  refine (put_yes n s _ h1 h8 hn hn64).mono ?_
  rintro e w1 ⟨v, rfl, o1, b1⟩
  go_wp2
  go_ret
  exact ⟨_, rfl, o1, b1⟩

set_option maxRecDepth 100000 in
theorem ftold_any (w : World) (v : Value) (xs : List UInt8) (hv : Rd w v xs) (h1 : 1 ≤ xs.length) (h8 : xs.length ≤ 8) :
    Calls Try.prog 60 #[v] w fun e w' => e = .returned (.int .u64 (numOf xs : Nat)) ∧ Below w.heap.size w w' := by
  go_enter Try.func60, Try.ntmps60
  go_wp2_with fail
  refine (get_yes _ _ _ hv h1 h8).mono ?_
  rintro e w1 ⟨rfl, b1⟩
  go_wp2
  go_ret
  exact ⟨rfl, b1⟩

/-- what measure answers: how many octets, the error -/
def fmeas (b : List UInt8) : Nat × Nat :=
  if b.length < 8 then (0, 8)
  else if b.getD 0 0 ≠ 167 then (0, 22)
  else if 4096 < ftold b then (0, 5)
  else if b.length < ftold b + 8 then (0, 8)
  else (ftold b + 8, 0)
theorem fmeas_no {b : List UInt8} (h : (fmeas b).2 ≠ 0) : (fmeas b).1 = 0 ∧ fopen b = ((fmeas b).2, (0, []), 0) := by
  unfold fmeas at *
  unfold fopen
  by_cases h1 : b.length < 8
  · simp [h1]
  rw [if_neg h1] at *
  by_cases h2 : b.getD 0 0 ≠ 167
  · rw [if_pos h2] at *; rw [if_neg h1, if_pos h2]; exact ⟨rfl, rfl⟩
  rw [if_neg h2] at *
  by_cases h3 : 4096 < ftold b
  · rw [if_pos h3] at *; rw [if_neg h1, if_neg h2, if_pos h3]; exact ⟨rfl, rfl⟩
  rw [if_neg h3] at *
  by_cases h4 : b.length < ftold b + 8
  · rw [if_pos h4] at *; rw [if_neg h1, if_neg h2, if_neg h3, if_pos h4]; exact ⟨rfl, rfl⟩
  rw [if_neg h4] at h
  exact absurd rfl h
theorem fmeas_yes {b : List UInt8} (h : (fmeas b).2 = 0) : (fmeas b).1 = ftold b + 8 ∧ 8 ≤ b.length ∧ ftold b ≤ 4096 ∧ ftold b + 8 ≤ b.length ∧
    fopen b = if numOf ((b.drop (ftold b + 4)).take 4) ≠ sum (b.take (ftold b + 4)) then (21, (0, []), 0) else (0, (b.getD 1 0, (b.drop 4).take (ftold b)), ftold b + 8) := by
  unfold fmeas at *
  unfold fopen
  by_cases h1 : b.length < 8
  · simp [h1] at h
  rw [if_neg h1] at *
  by_cases h2 : b.getD 0 0 ≠ 167
  · rw [if_pos h2] at h; simp at h
  rw [if_neg h2] at *
  by_cases h3 : 4096 < ftold b
  · simp [h3] at h
  rw [if_neg h3] at *
  by_cases h4 : b.length < ftold b + 8
  · simp [h4] at h
  rw [if_neg h4] at *
  rw [if_neg h1, if_neg h2, if_neg h3, if_neg h4]
  exact ⟨rfl, by omega, by omega, by omega, rfl⟩

set_option maxRecDepth 100000 in
set_option maxHeartbeats 1000000 in
theorem fmeasure_any (w : World) (v : Value) (b : List UInt8) (hrd : Rd w v b) (hm : b.length ≤ 1000000000000000) :
    Calls Try.prog 59 #[v] w fun e w' => e = .returned (.tuple #[.int .i64 ((fmeas b).1 : Nat), .int .i64 ((fmeas b).2 : Nat)]) ∧ Below w.heap.size w w' := by
  obtain ⟨ao, cap, rfl⟩ := hrd.slice
  by_cases h1 : b.length < 8
  · have hq : (b.length : Int) < 8 := by omega
    have hF : Hid (fmeas b = (0, 8)) := by show _ = _; unfold fmeas; rw [if_pos h1]
    go_enter Try.func59, Try.ntmps59
    go_wp2
    go_ret2
    rw [hF.out]
    exact ⟨rfl, Below.refl _ _⟩
  have hq : ¬ (b.length : Int) < 8 := by omega
  have hrd0 := hrd
  obtain ⟨a1, c1, e1, l1, m1, n1, r1⟩ := hrd
  cases e1
  rcases r1 with r1 | ⟨b1, o1, rfl, hc1⟩
  · rw [r1] at h1; simp at h1
  have t0 := hc1 0 (by omega)
  simp only [Nat.add_zero] at t0
  have q0 : (0 : Int) < (b.length : Int) := by omega
  clear hc1
  by_cases h2 : b.getD 0 0 ≠ 167
  · have hF : Hid (fmeas b = (0, 22)) := by show _ = _; unfold fmeas; rw [if_neg h1, if_pos h2]
    have hd : (bt b 0 != 167) = true := by
      simp only [bne_iff_ne]
      intro e; apply h2; unfold bt at e
      exact UInt8.toNat_inj.1 (show (b.getD 0 0).toNat = 167 by omega)
    go_enter Try.func59, Try.ntmps59
    go_wp2
    go_ret2
    rw [hF.out]
    exact ⟨rfl, Below.refl _ _⟩
  have hd : (bt b 0 != 167) = false := by
    have : b.getD 0 0 = 167 := Decidable.not_not.1 h2
    unfold bt; rw [this]; rfl
  have rT : Rd w (.slice (some ⟨b1, o1 + 2, none⟩) 2 (cap - 2)) ((b.drop 2).take 2) := by
    have := (rd_sub hrd0 (q := 2) (to := 4) (by omega) (by omega)).1
    rw [List.drop_take] at this
    simpa [Addr.add] using this
  have hT : Calls Try.prog 60 #[.slice (some ⟨b1, o1 + 2, none⟩) 2 (cap - 2)] w fun e w' => e = .returned (.int .u64 (ftold b : Nat)) ∧ Below w.heap.size w w' :=
    ftold_any w _ _ rT (by simp; omega) (by simp; omega)
  have hlt := (told_int b (by omega)).2
  have x1 : (4 : Int) ≤ (cap : Int) := by omega
  have x2 : ¬ cap = 2 := by omega
  have HT := hide hT
  clear hT rT hrd0
  by_cases h3 : 4096 < ftold b
  · have hF : Hid (fmeas b = (0, 5)) := by show _ = _; unfold fmeas; rw [if_neg h1, if_neg h2, if_pos h3]
    have hd3 : (4096 : Int) < (ftold b : Int) := by omega
    go_enter Try.func59, Try.ntmps59
    go_wp2_with fail
    refine HT.out.mono ?_
    rintro e w1 ⟨rfl, b1⟩
    go_wp2
    go_ret2
    rw [hF.out]
    exact ⟨rfl, b1⟩
  have hd3 : ¬ (4096 : Int) < (ftold b : Int) := by omega
  have hw : IntKind.i64.wrap (ftold b : Int) = (ftold b : Int) := by rw [IntKind.wrap_i64]; omega
  by_cases h4 : b.length < ftold b + 8
  · have hF : Hid (fmeas b = (0, 8)) := by show _ = _; unfold fmeas; rw [if_neg h1, if_neg h2, if_neg h3, if_pos h4]
    have hd4 : (b.length : Int) < 8 + (ftold b : Int) := by omega
    go_enter Try.func59, Try.ntmps59
    go_wp2_with fail
    refine HT.out.mono ?_
    rintro e w1 ⟨rfl, b1⟩
    go_wp2
    go_ret2
    rw [hF.out]
    exact ⟨rfl, b1⟩
  have hd4 : ¬ (b.length : Int) < 8 + (ftold b : Int) := by omega
  have hF : Hid (fmeas b = (ftold b + 8, 0)) := by show _ = _; unfold fmeas; rw [if_neg h1, if_neg h2, if_neg h3, if_neg h4]
  go_enter Try.func59, Try.ntmps59
  go_wp2_with fail
  refine HT.out.mono ?_
  rintro e w1 ⟨rfl, b1⟩
  go_wp2
  go_ret2
  rw [hF.out]
  refine ⟨?_, b1⟩
  simp [Int.add_comm]

theorem make_cap {n : Nat} (hn : n ≤ 281474976710656) (u : World) : (Instr.makeSlice 54 (.int .i64 0) (.int .i64 (n : Int))).run Try.prog u =
      .ok (.slice (some ⟨u.heap.size, 0, none⟩) 0 n) (u.alloc (.cells (madeCells #[.int .u8 0] n) 5)) := by
  obtain ⟨i0, hi, hz0, hz1, hz2⟩ := info_parts info8
  have h := run_make (P := Try.prog) u 54 5 i0 (.int .u8 0) Try.underlying54 hi hz0 .i64 .i64 0 (n : Int) (by omega) (by omega) (by rw [hz2]; omega) (by omega)
  simpa [hz1, Value.cells] using h
theorem own_cap (w : World) (n : Nat) (h : n ≤ maxLen) : OwnB w.heap.size (w.alloc (.cells (madeCells #[.int .u8 0] n) 5)) (.slice (some ⟨w.heap.size, 0, none⟩) 0 n) [] :=
  ⟨rfl, .inr ⟨w.heap.size, n, _, rfl, Nat.le_refl _, heap_alloc_last w _, Nat.zero_le _, h, by simp [madeCells], by simp⟩⟩

set_option maxRecDepth 100000 in
set_option maxHeartbeats 1000000 in
theorem fseal_any (w : World) (k : UInt8) (v : Value) (d : List UInt8) (hrd : Rd w v d) (hm : d.length ≤ 140737488351232) :
    Calls Try.prog 51 #[.agg #[.int .u8 (k.toNat : Int), v]] w fun e w' => ∃ v', e = .returned (.tuple #[v', .int .i64 (fsealE d)]) ∧ OwnB w.heap.size w' v' (fsealO k d) ∧ Below w.heap.size w w' := by
  obtain ⟨w1, hw1, c0, c1, b1, s1⟩ := boxed2 w (.int .u8 (k.toNat : Int)) v 89
  obtain ⟨ao, cap, rfl⟩ := hrd.slice
  by_cases hl : 4096 < d.length
  · have hq : (4096 : Int) < (d.length : Int) := by omega
    have he : Hid (fsealE d = 5) := by show _ = _; simp [fsealE, hl]
    have ho : Hid (fsealO k d = []) := by show _ = _; simp [fsealO, hl]
    go_enter Try.func51, Try.ntmps51
    go_wp2
    go_ret2
    exact ⟨_, by rw [he.out]; rfl, by rw [ho.out]; exact World.ownsRow_nil _ _ _ _, by rw [← hw1]; exact b1⟩
  have hq : ¬ (4096 : Int) < (d.length : Int) := by omega
  have he : Hid (fsealE d = 0) := by show _ = _; simp [fsealE, hl]
  have ho : Hid (fsealO k d = fseal k d) := by show _ = _; simp [fsealO, hl]
  have hmk : ∀ u : World, (Instr.makeSlice 54 (.int .i64 0) (.int .i64 (8 + (d.length : Int)))).run Try.prog u = .ok (.slice (some ⟨u.heap.size, 0, none⟩) 0 (8 + d.length)) (u.alloc (.cells (madeCells #[.int .u8 0] (8 + d.length)) 5)) := fun u => by
    have := make_cap (n := 8 + d.length) (by omega) u
    simpa using this
  have hwl : IntKind.u64.wrap (d.length : Int) = (d.length : Int) := by rw [IntKind.wrap_u64]; omega
  have oo := own_cap w1 (8 + d.length) (by rw [show maxLen = 9223372036854775807 from rfl]; omega)
  obtain ⟨w2, hw2⟩ : ∃ w2, w2 = w1.alloc (.cells (madeCells #[.int .u8 0] (8 + d.length)) 5) := ⟨_, rfl⟩
  rw [← hw2, s1] at oo
  have b2 : Below w.heap.size w w2 := by rw [hw2]; exact b1.alloc (by omega) _
  have b12 : Below w1.heap.size w1 w2 := by rw [hw2]; exact (Below.refl _ _).alloc (Nat.le_refl _) _
  have s2 : w2.heap.size = w.heap.size + 2 := by rw [hw2]; simp [s1]
  have d0 : w2.cell? ⟨w.heap.size, 0, none⟩ = some (.int .u8 (k.toNat : Int)) := (b12.cell (cell_lt c0)).trans c0
  have d1 : w2.cell? ⟨w.heap.size, 1, none⟩ = some (.slice ao d.length cap) := (b12.cell (cell_lt c1)).trans c1
  have b23 : Below w2.heap.size w2 (w2.alloc (.cells #[.int .u8 167, .int .u8 (k.toNat : Int)] 5)) := (Below.refl _ _).alloc (Nat.le_refl _) _
  have oo3 := oo.below (Nat.le_refl _) b23
  have rl := rd_lit w2 [167, k] #[.int .u8 167, .int .u8 (k.toNat : Int)] (w.heap.size + 1 + 1) 2 rfl (by omega) rfl (by simp)
  have b3 : Below w.heap.size w (w2.alloc (.cells #[.int .u8 167, .int .u8 (k.toNat : Int)] 5)) := b2.trans (b23.mono (by omega))
  have hsz3 : w.heap.size + 1 ≤ (w2.alloc (.cells #[.int .u8 167, .int .u8 (k.toNat : Int)] 5)).heap.size := by simp; omega
  have e1 := (b23.cell (cell_lt d1)).trans d1
  have hlen1 : ([] : List UInt8).length + ([167, k] : List UInt8).length ≤ 140737488355328 := by simp
  have HB := hide (And.intro b3 hrd)
  have HL := hide hm
  clear b1 b2 b12 b23 b3 oo d0 d1 c0 hrd hm
  have OO := hide oo3
  have RL := hide rl
  have E1 := hide e1
  clear oo3 rl e1
  go_enter Try.func51, Try.ntmps51
  go_wp2_with (at_builtin; rw [← hw1, ← hw2]; refine wpList_append_octs rfl _ _ rfl (w.heap.size + 1) _ _ [] [167, k] rfl rfl OO.out RL.out hlen1 hsz3 ?_; intro v3 w3 o3 b3 _; have b4 := HB.out.1.trans (b3.mono (by omega)); have f1 := (b3.cell (p := ⟨w.heap.size, 1, none⟩) (by show w.heap.size < _; omega)).trans E1.out; replace hw1 := hide hw1; replace hw2 := hide hw2; have B4 := hide b4; have O3 := hide o3; have hs3 : w.heap.size + 1 ≤ w3.heap.size := Nat.le_trans hsz3 b3.size; clear OO RL E1 hsz3 b3 b4 o3)
  have hO : ∀ u, Calls Try.prog 56 #[.int .u64 (d.length : Int), .int .i64 2] u fun e w' => ∃ v, e = .returned v ∧ OwnB u.heap.size w' v (oc d.length 2) ∧ Below u.heap.size u w' := fun u => fnumber_any u d.length 2 (by decide) (by decide) (by omega) (by omega)
  refine (hO _).mono ?_
  rintro e w4 ⟨v4, rfl, o4, b4⟩
  have o3 := O3.out.below (Nat.le_refl _) b4
  have c4 := B4.out.trans (b4.mono B4.out.size)
  have f4 := (b4.cell (p := ⟨w.heap.size, 1, none⟩) (by show w.heap.size < _; omega)).trans f1
  have r4 := o4.rd
  have hs4 : w.heap.size + 1 ≤ w4.heap.size := Nat.le_trans hs3 b4.size
  clear hO O3 B4 b4 f1 o4 hs3 hmk
  have C4 := hide c4
  have O4 := hide o3
  have R4 := hide r4
  have hlen2 : ([] ++ [167, k] : List UInt8).length + (oc d.length 2).length ≤ 140737488355328 := by rw [oc_length]; simp
  clear c4 o3 r4
  have HR := hide HB.out.2
  have hlen3 : ([] ++ [167, k] ++ oc d.length 2 : List UInt8).length + d.length ≤ 140737488355328 := by rw [List.length_append, oc_length]; simp; omega
  go_wp2_with (first
    | (at_builtin; refine wpList_append_octs rfl _ _ rfl (w.heap.size + 1) _ _ ([] ++ [167, k]) (oc d.length 2) rfl rfl O4.out R4.out hlen2 hs4 ?_; intro v5 w5 o5 b5 _; have c5 := hide (C4.out.trans (b5.mono (by omega))); have f5 := (b5.cell (p := ⟨w.heap.size, 1, none⟩) (by show w.heap.size < _; omega)).trans f4; have O5 := hide o5; have hs5 : w.heap.size + 1 ≤ w5.heap.size := Nat.le_trans hs4 b5.size; clear O4 R4 C4 f4 b5 o5 hs4)
    | (at_builtin; refine wpList_append_octs rfl _ _ rfl (w.heap.size + 1) _ _ ([] ++ [167, k] ++ oc d.length 2) d rfl rfl O5.out (HR.out.to c5.out) hlen3 hs5 ?_; intro v6 w6 o6 b6 _; have C6 := hide (c5.out.trans (b6.mono (by omega))); have O6 : Hid (OwnB (w.heap.size + 1) w6 v6 (fhead k d)) := hide o6; have hs6 : w.heap.size + 1 ≤ w6.heap.size := Nat.le_trans hs5 b6.size; clear O5 c5 f5 b6 o6 hs5))
  have hfl : (fhead k d).length ≤ 4100 := by rw [fhead_len]; omega
  have hS := sum_lt (fhead k d)
  refine (sum_any _ _ (fhead k d) O6.out.rd (by omega)).mono ?_
  rintro e w7 ⟨rfl, b7⟩
  have hws : IntKind.u64.wrap ((sum (fhead k d) : Nat) : Int) = ((sum (fhead k d) : Nat) : Int) := by unfold M32 at hS; rw [IntKind.wrap_u64]; omega
  have C7 := hide (C6.out.trans (b7.mono C6.out.size))
  have O7 := hide (O6.out.below (Nat.le_refl _) b7)
  have hs7 : w.heap.size + 1 ≤ w7.heap.size := Nat.le_trans hs6 b7.size
  clear C6 O6 b7 hs6
  go_wp2_with fail
  refine (fnumber_any _ (sum (fhead k d)) 4 (by decide) (by decide) (by unfold M32 at hS; omega) (by unfold M32 at hS; omega)).mono ?_
  rintro e w8 ⟨v8, rfl, o8, b8⟩
  have C8 := hide (C7.out.trans (b8.mono C7.out.size))
  have O8 := hide (O7.out.below (Nat.le_refl _) b8)
  have R8 := hide o8.rd
  have hs8 : w.heap.size + 1 ≤ w8.heap.size := Nat.le_trans hs7 b8.size
  have hlen4 : (fhead k d).length + (oc (sum (fhead k d)) 4).length ≤ 140737488355328 := by rw [oc_length]; omega
  clear C7 O7 b8 o8 hs7 hws
  go_wp2_with (at_builtin; refine wpList_append_octs rfl _ _ rfl (w.heap.size + 1) _ _ (fhead k d) (oc (sum (fhead k d)) 4) rfl rfl O8.out R8.out hlen4 hs8 ?_; intro v9 w9 o9 b9 _)
  go_ret2
  refine ⟨_, by rw [he.out]; rfl, ?_, C8.out.trans (b9.mono (by omega))⟩
  rw [ho.out]
  exact OwnB.mono o9 (by omega)

end Go.Proofs.Ytlnoancjegifnaa
