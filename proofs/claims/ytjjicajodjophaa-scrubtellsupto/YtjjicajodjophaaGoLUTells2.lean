/- Several texts in one: FProgA FProgO UMtB Fr ShpIn Same DSame DOf. -/
import Derived.Test.YtjjicajodjophaaGoLUTells1
import Derived.Test.YtjjicajodjophaaGoLUTells0
import Derived.Test.YtjjicajodjophaaRows
import Derived.ProofKit
import Derived.OpenShut
import Derived.ShutString
import Derived.ChangeOld
import Derived.Below
import Derived.SizedLaws
import Derived.JoinedCond
import Derived.Deep.Slices
import Derived.ChangeSame
import Derived.WideShapes
import Derived.ChangeArms
import Derived.Test.YtjjicajodjophaaProg
set_option linter.unusedVariables false
set_option linter.unusedSimpArgs false
namespace Go.Proofs.Ytjjicajodjophaa
open Go.RowKit
set_option maxRecDepth 100000 in
theorem ftold_any (w : World) (v : Value) (xs : List UInt8) (hv : Rd w v xs) (h1 : 1 ≤ xs.length) (h8 : xs.length ≤ 8) :
  Calls Try.prog 110 #[v] w fun e w' => e = .returned (.int .u64 (numOf xs : Nat)) ∧ Below w.heap.size w w' := by
 go_enter Try.func110, Try.ntmps110
 go_wp2_with fail
 refine (get_yes _ _ _ hv h1 h8).mono ?_
 rintro e w1 ⟨rfl, b1⟩
 go_wp2
 go_ret
 exact ⟨rfl, b1⟩
def fmeas (b : List UInt8) : Nat × Nat :=
 if b.length < 8 then (0, 8)
 else if b.getD 0 0 ≠ 167 then (0, 22)
 else if 4096 < ftold b then (0, 5)
 else if b.length < ftold b + 8 then (0, 8)
 else (ftold b + 8, 0)
theorem fmeas_no {b : List UInt8} (h : (fmeas b).2 ≠ 0) : (fmeas b).1 = 0 ∧ fopen b = ((fmeas b).2, (0, []), 0) := by
 unfold fmeas at *
 unfold fopen
 by_cases h1 : b.length < 8
 ·simp [h1]
 rw [if_neg h1] at *
 by_cases h2 : b.getD 0 0 ≠ 167
 ·rw [if_pos h2] at *; rw [if_neg h1, if_pos h2]; exact ⟨rfl, rfl⟩
 rw [if_neg h2] at *
 by_cases h3 : 4096 < ftold b
 ·rw [if_pos h3] at *; rw [if_neg h1, if_neg h2, if_pos h3]; exact ⟨rfl, rfl⟩
 rw [if_neg h3] at *
 by_cases h4 : b.length < ftold b + 8
 ·rw [if_pos h4] at *; rw [if_neg h1, if_neg h2, if_neg h3, if_pos h4]; exact ⟨rfl, rfl⟩
 rw [if_neg h4] at h
 exact absurd rfl h
theorem fmeas_yes {b : List UInt8} (h : (fmeas b).2 = 0) : (fmeas b).1 = ftold b + 8 ∧ 8 ≤ b.length ∧ ftold b ≤ 4096 ∧ ftold b + 8 ≤ b.length ∧
  fopen b = if numOf ((b.drop (ftold b + 4)).take 4) ≠ sum (b.take (ftold b + 4)) then (21, (0, []), 0) else (0, (b.getD 1 0, (b.drop 4).take (ftold b)), ftold b + 8) := by
 unfold fmeas at *
 unfold fopen
 by_cases h1 : b.length < 8
 ·simp [h1] at h
 rw [if_neg h1] at *
 by_cases h2 : b.getD 0 0 ≠ 167
 ·rw [if_pos h2] at h; simp at h
 rw [if_neg h2] at *
 by_cases h3 : 4096 < ftold b
 ·simp [h3] at h
 rw [if_neg h3] at *
 by_cases h4 : b.length < ftold b + 8
 ·simp [h4] at h
 rw [if_neg h4] at *
 rw [if_neg h1, if_neg h2, if_neg h3, if_neg h4]
 exact ⟨rfl, by omega, by omega, by omega, rfl⟩
set_option maxRecDepth 100000 in
set_option maxHeartbeats 1000000 in
theorem fmeasure_any (w : World) (v : Value) (b : List UInt8) (hrd : Rd w v b) (hm : b.length ≤ 1000000000000000) :
  Calls Try.prog 109 #[v] w fun e w' => e = .returned (.tuple #[.int .i64 ((fmeas b).1 : Nat), .int .i64 ((fmeas b).2 : Nat)]) ∧ Below w.heap.size w w' := by
 obtain ⟨ao, cap, rfl⟩ := hrd.slice
 by_cases h1 : b.length < 8
 ·have hq : (b.length : Int) < 8 := by omega
  have hF : Hid (fmeas b = (0, 8)) := by show _ = _; unfold fmeas; rw [if_pos h1]
  go_enter Try.func109, Try.ntmps109
  go_wp2
  go_ret2
  rw [hF.out]
  exact ⟨rfl, Below.refl _ _⟩
 have hq : ¬ (b.length : Int) < 8 := by omega
 have hrd0 := hrd
 obtain ⟨a1, c1, e1, l1, m1, n1, r1⟩ := hrd
 cases e1
 rcases r1 with r1 | ⟨b1, o1, rfl, hc1⟩
 ·rw [r1] at h1; simp at h1
 have t0 := hc1 0 (by omega)
 simp only [Nat.add_zero] at t0
 have q0 : (0 : Int) < (b.length : Int) := by omega
 clear hc1
 by_cases h2 : b.getD 0 0 ≠ 167
 ·have hF : Hid (fmeas b = (0, 22)) := by show _ = _; unfold fmeas; rw [if_neg h1, if_pos h2]
  have hd : (bt b 0 != 167) = true := by
   simp only [bne_iff_ne]
   intro e; apply h2; unfold bt at e
   exact UInt8.toNat_inj.1 (show (b.getD 0 0).toNat = 167 by omega)
  go_enter Try.func109, Try.ntmps109
  go_wp2
  go_ret2
  rw [hF.out]
  exact ⟨rfl, Below.refl _ _⟩
 have hd : (bt b 0 != 167) = false := by
  have : b.getD 0 0 = 167 := Decidable.not_not.1 h2
  unfold bt; rw [this]; rfl
 have rT : Rd w (.slice (some ⟨b1, o1 + 2, none⟩) 2 (cap - 2)) ((b.drop 2).take 2) := by
  have := (rd_sub hrd0 (q := 2) (to := 4) (by omega) (by omega)).1
  rw [List.drop_take] at this
  simpa [Addr.add] using this
 have hT : Calls Try.prog 110 #[.slice (some ⟨b1, o1 + 2, none⟩) 2 (cap - 2)] w fun e w' => e = .returned (.int .u64 (ftold b : Nat)) ∧ Below w.heap.size w w' :=
  ftold_any w _ _ rT (by simp; omega) (by simp; omega)
 have hlt := (told_int b (by omega)).2
 have x1 : (4 : Int) ≤ (cap : Int) := by omega
 have x2 : ¬ cap = 2 := by omega
 have HT := hide hT
 clear hT rT hrd0
 by_cases h3 : 4096 < ftold b
 ·have hF : Hid (fmeas b = (0, 5)) := by show _ = _; unfold fmeas; rw [if_neg h1, if_neg h2, if_pos h3]
  have hd3 : (4096 : Int) < (ftold b : Int) := by omega
  go_enter Try.func109, Try.ntmps109
  go_wp2_with fail
  refine HT.out.mono ?_
  rintro e w1 ⟨rfl, b1⟩
  go_wp2
  go_ret2
  rw [hF.out]
  exact ⟨rfl, b1⟩
 have hd3 : ¬ (4096 : Int) < (ftold b : Int) := by omega
 have hw : IntKind.i64.wrap (ftold b : Int) = (ftold b : Int) := by rw [IntKind.wrap_i64]; omega
 by_cases h4 : b.length < ftold b + 8
 ·have hF : Hid (fmeas b = (0, 8)) := by show _ = _; unfold fmeas; rw [if_neg h1, if_neg h2, if_neg h3, if_pos h4]
  have hd4 : (b.length : Int) < 8 + (ftold b : Int) := by omega
  go_enter Try.func109, Try.ntmps109
  go_wp2_with fail
  refine HT.out.mono ?_
  rintro e w1 ⟨rfl, b1⟩
  go_wp2
  go_ret2
  rw [hF.out]
  exact ⟨rfl, b1⟩
 have hd4 : ¬ (b.length : Int) < 8 + (ftold b : Int) := by omega
 have hF : Hid (fmeas b = (ftold b + 8, 0)) := by show _ = _; unfold fmeas; rw [if_neg h1, if_neg h2, if_neg h3, if_neg h4]
 go_enter Try.func109, Try.ntmps109
 go_wp2_with fail
 refine HT.out.mono ?_
 rintro e w1 ⟨rfl, b1⟩
 go_wp2
 go_ret2
 rw [hF.out]
 refine ⟨?_, b1⟩
 simp [Int.add_comm]
end Go.Proofs.Ytjjicajodjophaa

namespace Go.Proofs.Ytjjicajodjophaa
open Go.RowKit
theorem frame_info_p : (Try.prog.info? 157).map (·.size) = some 2 := by kernel_rfl
set_option maxRecDepth 100000 in
set_option maxHeartbeats 1000000 in
theorem fopen_any (w : World) (v : Value) (b : List UInt8) (hrd : Rd w v b) (hm : b.length ≤ 140737488351232) :
  Calls Try.prog 101 #[v] w fun e w' => ∃ sv, e = .returned (.tuple #[.agg #[.int .u8 ((fopen b).2.1.1.toNat : Int), sv], .int .i64 ((fopen b).2.2 : Nat), .int .i64 ((fopen b).1 : Nat)]) ∧ OwnB w.heap.size w' sv (fopen b).2.1.2 ∧ Below w.heap.size w w' := by
 obtain ⟨ao, cap, rfl⟩ := hrd.slice
 have hz := heap_alloc_last w (.cells #[.int .u8 0, .slice none 0 0] 157)
 have hb1 : Below w.heap.size w (w.alloc (.cells #[.int .u8 0, .slice none 0 0] 157)) := (Below.refl _ _).alloc (Nat.le_refl _) _
 obtain ⟨W, hW⟩ : ∃ W, W = w.alloc (.cells #[.int .u8 0, .slice none 0 0] 157) := ⟨_, rfl⟩
 have hsW : W.heap.size = w.heap.size + 1 := by rw [hW]; simp
 rw [← hW] at hb1 hz
 have hM := fmeasure_any W _ b (hrd.to hb1) (by omega)
 by_cases h0 : (fmeas b).2 ≠ 0
 ·obtain ⟨e1, e2⟩ := fmeas_no h0
  have hd : (((fmeas b).2 : Int) != 0) = true := by simp only [bne_iff_ne]; omega
  have hF := hide e2
  rw [e1] at hM
  clear e1 e2
  generalize (fmeas b).2 = er at *
  go_enter Try.func101, Try.ntmps101
  go_wp2_with fail
  rw [← hW]
  replace hW := hide hW
  refine hM.mono ?_
  rintro e w1 ⟨rfl, b1⟩
  have hz1 := (b1.block w.heap.size (by omega)).trans hz
  have cz0 : w1.cell? ⟨w.heap.size, 0, none⟩ = some (.int .u8 0) := by rw [cell_of_row _ _ 0 _ _ (0, 0) hz1]; rfl
  have cz1 : w1.cell? ⟨w.heap.size, 1, none⟩ = some (.slice none 0 0) := by rw [cell_of_row _ _ 1 _ _ (0, 0) hz1]; rfl
  have fz0 : w1.frozen? ⟨w.heap.size, 0, none⟩ = false := frozen_of_row w1 w.heap.size 0 _ _ hz1
  have fz1 : w1.frozen? ⟨w.heap.size, 1, none⟩ = false := frozen_of_row w1 w.heap.size 1 _ _ hz1
  have c1 := hb1.trans (b1.mono (by omega))
  clear hM hz hb1 b1
  go_wp2
  refine ret_frame rfl rfl w.heap.size rfl _ _ _ _ (heap_set2 (u := w1) hz1 _ _) _ Try.underlying157 rfl frame_info_p _ _ rfl rfl ?_
  rw [hF.out]
  exact ⟨_, rfl, World.ownsRow_nil _ _ _ _, below_set2 c1 (Nat.le_refl _) _ _⟩
 obtain ⟨e1, l8, l4, lb, e2⟩ := fmeas_yes (Decidable.not_not.1 h0)
 have e3 := Decidable.not_not.1 h0
 rw [e1, e3] at hM
 clear e1 e3 h0
 obtain ⟨n, hne⟩ : ∃ n, ftold b = n := ⟨_, rfl⟩
 rw [hne] at l4 lb e2 hM
 have hF0 := hide e2
 clear e2 hne
 have hR := hrd.to hb1
 obtain ⟨a1, c1, ea, l1, m1, n1, r1⟩ := hR
 cases ea
 rcases r1 with r1 | ⟨b1, o1, rfl, hc1⟩
 ·rw [r1] at l8; simp at l8
 have t1 := hc1 1 (by omega)
 clear hc1 m1 n1
 go_enter Try.func101, Try.ntmps101
 go_wp2_with fail
 rw [← hW]
 replace hW := hide hW
 refine hM.mono ?_
 rintro e w1 ⟨rfl, bM⟩
 have hz1 := (bM.block w.heap.size (by omega)).trans hz
 have c1 := hb1.trans (bM.mono (by omega))
 have R1 := hrd.to c1
 have rN : Rd w1 (.slice (some ⟨b1, o1 + (n + 4), none⟩) 4 (cap - (n + 4))) ((b.drop (n + 4)).take 4) := by
  have := (rd_sub R1 (q := n + 4) (to := n + 8) (by omega) (by omega)).1
  rw [List.drop_take, show n + 8 - (n + 4) = 4 from by omega] at this
  simpa [Addr.add] using this
 have rS : Rd w1 (.slice (some ⟨b1, o1, none⟩) (n + 4) cap) (b.take (n + 4)) := by
  have := (rd_sub R1 (q := 0) (to := n + 4) (by omega) (by omega)).1
  simpa [Addr.add] using this
 have rC : Rd w1 (.slice (some ⟨b1, o1 + 4, none⟩) n (cap - 4)) ((b.drop 4).take n) := by
  have := (rd_sub R1 (q := 4) (to := n + 4) (by omega) (by omega)).1
  rw [List.drop_take, show n + 4 - 4 = n from by omega] at this
  simpa [Addr.add] using this
 replace t1 := (bM.cell (p := ⟨b1, o1 + 1, none⟩) (cell_lt t1)).trans t1
 have hs1 : w.heap.size + 1 ≤ w1.heap.size := by have := bM.size; omega
 clear hM hz hb1 bM hrd R1
 go_wp2
 rw [show (n : Int) + 8 - 4 = (n : Int) + 4 from by omega]
 have x1 : (n : Int) + 4 ≤ (n : Int) + 8 := by omega
 have x2 : (n : Int) + 8 ≤ (cap : Int) := by omega
 have x3 : (n : Int) + 4 ≤ (cap : Int) := by omega
 have x4 : ¬ cap = n + 4 := by omega
 have y1 : (4 : Int) ≤ (cap : Int) := by omega
 have y2 : (0 : Int) ≤ (n : Int) + 4 := by omega
 have y3 : ((n : Int) + 4).toNat = n + 4 := by omega
 have y4 : ((n : Int) + 8).toNat = n + 8 := by omega
 have y5 : (0 : Int) ≤ (n : Int) + 8 := by omega
 obtain ⟨z1, z2, z3, z4⟩ := wr4 n (by omega)
 have kN : ∀ u, Rd u (.slice (some ⟨b1, o1 + (n + 4), none⟩) 4 (cap - (n + 4))) ((b.drop (n + 4)).take 4) → Calls Try.prog 110 #[.slice (some ⟨b1, o1 + (n + 4), none⟩) 4 (cap - (n + 4))] u fun e w' => e = .returned (.int .u64 (numOf ((b.drop (n + 4)).take 4) : Nat)) ∧ Below u.heap.size u w' :=
  fun u h => ftold_any u _ _ h (by simp; omega) (by simp; omega)
 have kS : ∀ u, Rd u (.slice (some ⟨b1, o1, none⟩) (n + 4) cap) (b.take (n + 4)) → Calls Try.prog 105 #[.slice (some ⟨b1, o1, none⟩) (n + 4) cap] u fun e w' => e = .returned (.int .u32 (sum (b.take (n + 4)) : Nat)) ∧ Below u.heap.size u w' :=
  fun u h => sum_any u _ _ h (by simp; omega)
 have hsl := sum_lt (b.take (n + 4))
 have hwr : IntKind.u64.wrap ((sum (b.take (n + 4)) : Nat) : Int) = ((sum (b.take (n + 4)) : Nat) : Int) := by unfold M32 at hsl; rw [IntKind.wrap_u64]; omega
 have KN := hide kN
 have KS := hide kS
 have RN := hide rN.drew
 have RS := hide rS.drew
 have RC := hide rC.drew
 have HZ := hide hz1
 have HC := hide c1
 have T1 := hide t1
 clear kN kS rN rS rC hz1 c1 t1
 go_region_law (first
  | (refine step_call (by rfl) 110 _ _ (by rfl) #[.slice (some ⟨b1, o1 + (n + 4), none⟩) 4 (cap - (n + 4))] (by simp [Act.eval, Act.put]) (Try.call110 _ _) (KN.out _ RN.out) ?_; rintro e w2 ⟨rfl, b2⟩; refine ⟨_, rfl, ?_⟩)
  | (refine step_call (by rfl) 105 _ _ (by rfl) #[.slice (some ⟨b1, o1, none⟩) (n + 4) cap] (by simp [Act.eval]) (Try.call105 _ _) (KS.out _ (RS.out.to b2)) ?_; rintro e w3 ⟨rfl, b3⟩; refine ⟨_, rfl, ?_⟩))
 have c3 : Below w.heap.size w w3 := by
  have h1 : Below w.heap.size w w1.drew := below_drew HC.out
  exact (h1.trans (b2.mono h1.size)).trans (b3.mono (Nat.le_trans h1.size b2.size))
 have bb : Below w1.heap.size w1 w3 := by
  have h1 : Below w1.heap.size w1 w1.drew := below_drew (Below.refl _ _)
  exact (h1.trans (b2.mono h1.size)).trans (b3.mono (Nat.le_trans h1.size b2.size))
 have hz3 := (bb.block w.heap.size (by omega)).trans HZ.out
 have rC := (RC.out.to b2).to b3
 have t3 := (bb.cell (p := ⟨b1, o1 + 1, none⟩) (cell_lt T1.out)).trans T1.out
 have hs3 : w.heap.size + 1 ≤ w3.heap.size := Nat.le_trans hs1 bb.size
 clear b2 b3 KN KS RN RS RC HZ HC T1 bb
 by_cases h5 : numOf ((b.drop (n + 4)).take 4) ≠ sum (b.take (n + 4))
 ·have hF := hF0.out
  rw [if_pos h5] at hF
  replace hF := hide hF
  have hd5 : (((numOf ((b.drop (n + 4)).take 4) : Nat) : Int) != ((sum (b.take (n + 4)) : Nat) : Int)) = true := by
   simp only [bne_iff_ne]; omega
  clear hF0 h5 t3 rC
  have cz0 : w3.cell? ⟨w.heap.size, 0, none⟩ = some (.int .u8 0) := by rw [cell_of_row _ _ 0 _ _ (0, 0) hz3]; rfl
  have cz1 : w3.cell? ⟨w.heap.size, 1, none⟩ = some (.slice none 0 0) := by rw [cell_of_row _ _ 1 _ _ (0, 0) hz3]; rfl
  have fz0 : w3.frozen? ⟨w.heap.size, 0, none⟩ = false := frozen_of_row w3 w.heap.size 0 _ _ hz3
  have fz1 : w3.frozen? ⟨w.heap.size, 1, none⟩ = false := frozen_of_row w3 w.heap.size 1 _ _ hz3
  generalize numOf ((b.drop (n + 4)).take 4) = N at *
  generalize sum (b.take (n + 4)) = S at *
  go_wp2
  refine ret_frame rfl rfl w.heap.size rfl _ _ _ _ (heap_set2 (u := w3) hz3 _ _) _ Try.underlying157 rfl frame_info_p _ _ rfl rfl ?_
  rw [hF.out]
  exact ⟨_, rfl, World.ownsRow_nil _ _ _ _, below_set2 c3 (Nat.le_refl _) _ _⟩
 have hF := hF0.out
 rw [if_neg h5] at hF
 replace hF := hide hF
 have hd5 : (((numOf ((b.drop (n + 4)).take 4) : Nat) : Int) != ((sum (b.take (n + 4)) : Nat) : Int)) = false := by
  rw [Decidable.not_not.1 h5]; simp
 have hmk : ∀ u : World, (Instr.makeSlice 62 (.int .i64 (n : Int)) (.int .i64 (n : Int))).run Try.prog u = .ok (.slice (some ⟨u.heap.size, 0, none⟩) n n) (u.alloc (.cells (madeCells #[.int .u8 0] n) 5)) := fun u => make_octs (n := n) (by omega) u
 have om := own_made w3 n (by rw [show maxLen = 9223372036854775807 from rfl]; omega)
 obtain ⟨w4, hw4⟩ : ∃ w4, w4 = w3.alloc (.cells (madeCells #[.int .u8 0] n) 5) := ⟨_, rfl⟩
 rw [← hw4] at om
 have b4 : Below w3.heap.size w3 w4 := by rw [hw4]; exact (Below.refl _ _).alloc (Nat.le_refl _) _
 have c4 := c3.trans (b4.mono c3.size)
 have rC4 := rC.to b4
 have hz4 := (b4.block w.heap.size (by omega)).trans hz3
 have t4 := (b4.cell (p := ⟨b1, o1 + 1, none⟩) (cell_lt t3)).trans t3
 have OM := hide om
 have RC := hide rC4
 have HZ := hide hz4
 have HC := hide c4
 have T4 := hide t4
 have KEEP : Hid (∀ w5, Below w3.heap.size w4 w5 → w5.cell? ⟨b1, o1 + 1, none⟩ = some (.int .u8 (bt b 1)) ∧ w5.cell? ⟨w.heap.size, 0, none⟩ = some (.int .u8 0) ∧ w5.cell? ⟨w.heap.size, 1, none⟩ = some (.slice none 0 0) ∧ w5.frozen? ⟨w.heap.size, 0, none⟩ = false ∧ w5.frozen? ⟨w.heap.size, 1, none⟩ = false ∧ Hid (w5.heap[w.heap.size]? = some (.cells #[.int .u8 0, .slice none 0 0] 157 (0, 0))) ∧ Hid (Below w.heap.size w w5)) := by
  intro w5 hb
  have hg5 := (hb.block w.heap.size (by omega)).trans hz4
  exact ⟨(hb.cell (p := ⟨b1, o1 + 1, none⟩) (cell_lt t3)).trans t4, by rw [cell_of_row _ _ 0 _ _ (0, 0) hg5]; rfl, by rw [cell_of_row _ _ 1 _ _ (0, 0) hg5]; rfl, frozen_of_row _ _ 0 _ _ hg5, frozen_of_row _ _ 1 _ _ hg5, hg5, c4.trans (hb.mono (by omega))⟩
 have hdl : ((b.drop 4).take n).length = n := by simp; omega
 have ho : over (List.replicate n 0) ((b.drop 4).take n) = (b.drop 4).take n := over_all (by rw [hdl]; simp)
 have HO := hide ho
 have HDL := hide hdl
 have q1 : (1 : Int) < (b.length : Int) := by omega
 have y6 : (4 : Int) ≤ (n : Int) + 4 := by omega
 have y7 : ¬ cap = 4 := by omega
 clear hF0 h5 t3 t4 rC rC4 hz3 hz4 c3 c4 b4 om ho hdl
 generalize numOf ((b.drop (n + 4)).take 4) = N at *
 generalize sum (b.take (n + 4)) = S at *
 obtain ⟨w5, hrun, o5, b5, _⟩ := run_copy_octs 3 OM.out RC.out
 rw [HO.out] at o5
 rw [HDL.out, hw4] at hrun
 have hmn : Nat.min n (List.replicate n (0 : UInt8)).length = n := by simp
 rw [hmn] at hrun
 obtain ⟨k1, k2, k3, k4, k5, K6, K7⟩ := KEEP.out w5 b5
 have hsz5 : w.heap.size < w3.heap.size := by omega
 have O6 := hide (own_set (own_set o5 (g := w.heap.size) hsz5 0 (.int .u8 (bt b 1))) (g := w.heap.size) hsz5 1 (.slice (some ⟨w3.heap.size, 0, none⟩) n n))
 replace hw4 := hide hw4
 clear OM RC HZ HC T4 KEEP b5 hmn o5
 go_wp2
 refine ret_frame rfl rfl w.heap.size rfl _ _ _ _ (heap_set2 K6.out _ _) _ Try.underlying157 rfl frame_info_p _ _ rfl rfl ?_
 rw [hF.out]
 exact ⟨_, rfl, O6.out.mono (by omega), below_set2 K7.out (Nat.le_refl _) _ _⟩
end Go.Proofs.Ytjjicajodjophaa

namespace Go.Proofs.Ytjjicajodjophaa
def lowA (A : Int) (ks : List Int) : Int := ks.foldl (fun m a => if A < a then min m a else m) 1048577
theorem lowA_snoc (A : Int) (ks : List Int) (a : Int) : lowA A (ks ++ [a]) = if A < a then min (lowA A ks) a else lowA A ks := by unfold lowA; rw [List.foldl_append]; rfl
theorem lowA_step (A : Int) (ks : List Int) (o : Option Int) : lowA A (ks ++ o.toList) = match o with | none => lowA A ks | some a => if A < a then min (lowA A ks) a else lowA A ks := by
 cases o with
 | none => simp
 | some a => exact lowA_snoc A ks a
theorem lowA_spec {A : Int} : ∀ {ks : List Int}, (∀ a ∈ ks, a ≤ 1048576) → (lowA A ks = 1048577 ∧ ∀ a ∈ ks, a ≤ A) ∨ (lowA A ks ∈ ks ∧ A < lowA A ks ∧ ∀ a ∈ ks, A < a → lowA A ks ≤ a) := by
 intro ks
 suffices h : ∀ n, ∀ ks : List Int, ks.length = n → (∀ a ∈ ks, a ≤ 1048576) → (lowA A ks = 1048577 ∧ ∀ a ∈ ks, a ≤ A) ∨ (lowA A ks ∈ ks ∧ A < lowA A ks ∧ ∀ a ∈ ks, A < a → lowA A ks ≤ a) from h _ ks rfl
 intro n
 induction n with
 | zero =>
  intro ks hl _
  obtain rfl := List.eq_nil_of_length_eq_zero hl
  exact .inl ⟨rfl, by simp⟩
 | succ n ih =>
  intro ks hl hk
  have hne : ks ≠ [] := by intro e; rw [e] at hl; simp at hl
  obtain ⟨r, a, rfl⟩ : ∃ r a, ks = r ++ [a] := ⟨ks.dropLast, ks.getLast hne, (List.dropLast_concat_getLast hne).symm⟩
  have hi := ih r (by simpa using hl) fun b hb => hk b (by simp [hb])
  have ha := hk a (by simp)
  rw [lowA_snoc]
  by_cases hc : A < a
  ·rw [if_pos hc]
   refine .inr ?_
   rcases hi with ⟨h1, h2⟩ | ⟨h1, h2, h3⟩
   ·have e : min (lowA A r) a = a := by omega
    rw [e]
    refine ⟨by simp, hc, fun b hb hb2 => ?_⟩
    rcases List.mem_append.1 hb with h | h
    ·have := h2 b h; omega
    ·simp at h; omega
   ·by_cases hm : lowA A r ≤ a
    ·have e : min (lowA A r) a = lowA A r := by omega
     rw [e]
     refine ⟨by simp [h1], h2, fun b hb hb2 => ?_⟩
     rcases List.mem_append.1 hb with h | h
     ·exact h3 b h hb2
     ·simp at h; omega
    ·have e : min (lowA A r) a = a := by omega
     rw [e]
     refine ⟨by simp, hc, fun b hb hb2 => ?_⟩
     rcases List.mem_append.1 hb with h | h
     ·have := h3 b h hb2; omega
     ·simp at h; omega
  ·rw [if_neg hc]
   rcases hi with ⟨h1, h2⟩ | ⟨h1, h2, h3⟩
   ·refine .inl ⟨h1, fun b hb => ?_⟩
    rcases List.mem_append.1 hb with h | h
    ·exact h2 b h
    ·simp at h; omega
   ·refine .inr ⟨by simp [h1], h2, fun b hb hb2 => ?_⟩
    rcases List.mem_append.1 hb with h | h
    ·exact h3 b h hb2
    ·simp at h; omega
theorem lowA_le {A : Int} {ks : List Int} (h : ∀ a ∈ ks, a ≤ 1048576) (h0 : ∀ a ∈ ks, 0 ≤ a) : lowA A ks ≤ 1048577 ∧ 0 ≤ lowA A ks := by
 rcases lowA_spec (A := A) h with ⟨h1, _⟩ | ⟨h1, _, _⟩
 ·omega
 ·have := h _ h1; have := h0 _ h1; omega
end Go.Proofs.Ytjjicajodjophaa

namespace Go.Proofs.Ytjjicajodjophaa
open Go.ChangeShapes Go.WideShapes Go.ChangeAt Go.RowKit
theorem own : ownKnob Try.prog.godebug = none := by kernel_rfl
theorem laidOut : laidOutB Try.prog = true := by kernel_rfl
theorem bytes8 : Try.prog.bytesOf 5 = 1 := by kernel_rfl
def octs (zs : List Int) : List UInt8 := zs.map fun z => UInt8.ofNat z.toNat
theorem bt_octs {zs : List Int} (hw : ∀ n ∈ zs, (Lit.int .u8 n).wf = true) {len i : Nat} (h : i < len) (hl : len ≤ zs.length) : bt (octs (zs.take len)) i = zs.getD i 0 := by
 have hi : i < zs.length := by omega
 have hb : 0 ≤ zs[i] ∧ zs[i] ≤ 255 := by
  have := hw zs[i] (List.getElem_mem hi)
  simpa [Lit.wf, IntKind.min, IntKind.max, IntKind.signed, IntKind.bits] using this
 have e : (octs (zs.take len)).getD i 0 = UInt8.ofNat zs[i].toNat := by
  simp [octs, h, hi]
 unfold bt
 rw [e, UInt8.toNat_ofNat_of_lt' (by show _ < 256; omega)]
 simp [hi]; omega
theorem open_octs {H : Type} {enc : TypeId × Value → H} {W : World} {a : Option Addr} {len cap : Nat} {d : DataW H} {p : List MemPlace}
  (h : DataW.Trod enc Try.prog W 0 (fun _ => true) true 62 (.slice a len cap) d p) :
  ∃ xs : List UInt8, xs.length = len ∧ Rd W (.slice a len cap) xs ∧ (len = 0 ∨ ∃ el sp, d = .slice el sp ∧ el.length = len) := by
 obtain ⟨fuel, hf⟩ := h
 rcases open_ints Try.underlying62 Try.underlying5 (by kernel_rfl) hf with ⟨hcs, _⟩ | ⟨x, l, c, zs, hcs, _, hl, hm, hz, hx, hcell, hwz⟩
 ·simp [Value.cells] at hcs
  obtain ⟨rfl, rfl, rfl⟩ := hcs
  exact ⟨[], rfl, ⟨none, 0, rfl, Nat.le_refl _, Nat.zero_le _, fun _ => rfl, .inl rfl⟩, .inl rfl⟩
 ·simp [Value.cells] at hcs
  obtain ⟨rfl, rfl, rfl⟩ := hcs
  simp only [if_true] at hz
  simp only [Prod.mk.injEq] at hx
  have el : (octs (zs.take len)).length = len := by simp [octs]; omega
  refine ⟨octs (zs.take len), el, ⟨some x, cap, by rw [el], by rw [el]; exact hl, hm, (fun h => by cases h), ?_⟩, .inr ⟨_, _, hx.1, by simp [lits]; omega⟩⟩
  by_cases h0 : len = 0
  ·left; exact List.eq_nil_of_length_eq_zero (by rw [el]; exact h0)
  ·right
   obtain ⟨b, off, spot⟩ := x
   have hc := hcell 0 (by omega)
   have hspot : spot = none := by simpa [Addr.add] using World.cell?_spot hc
   subst hspot
   refine ⟨b, off, rfl, fun i hi => ?_⟩
   rw [el] at hi
   have := hcell i (by omega)
   rw [bt_octs hwz hi (by omega), ← this]
   by_cases hi0 : i = 0
   ·subst hi0; simp [Addr.add]
   ·simp [Addr.add, hi0]
theorem bulk_pos {H : Type} (d : DataW H) : 1 ≤ Rows.uptoBulk d := by
 cases d with
 | lit l => cases l <;> simp [Rows.uptoBulk]
 | nil => simp [Rows.uptoBulk]
 | ptr d => simp [Rows.uptoBulk]
 | slice el sp => simp [Rows.uptoBulk]
 | agg ps => simp [Rows.uptoBulk]
 | iface t d => simp [Rows.uptoBulk]
 | map es => simp [Rows.uptoBulk]
 | held h => simp [Rows.uptoBulk]
theorem bulk_mem {H : Type} {d : DataW H} {l : List (DataW H)} (h : d ∈ l) : Rows.uptoBulk d ≤ Rows.uptoBulkAll l := by
 induction l with
 | nil => cases h
 | cons x r ih =>
  simp only [Rows.uptoBulkAll]
  rcases List.mem_cons.1 h with e | e
  ·subst e; omega
  ·have := ih e; omega
theorem bulk_len {H : Type} (l : List (DataW H)) : l.length ≤ Rows.uptoBulkAll l := by
 induction l with
 | nil => simp [Rows.uptoBulkAll]
 | cons x r ih => have := bulk_pos x; simp only [Rows.uptoBulkAll, List.length_cons]; omega
end Go.Proofs.Ytjjicajodjophaa

namespace Go.Proofs.Ytjjicajodjophaa
open Go.ChangeShapes Go.WideShapes Go.ChangeAt Go.RowKit
structure Opens {α : Type} (s : Shp α) (t : TypeId) (fits : α → Prop) (bulk : α → Nat) : Prop where
 cells : Try.prog.cellsOf t = s.n
 opened : ∀ {H : Type} {enc : TypeId × Value → H} {W : World} {fuel : Nat} {cs : List Value} {x : DataW H × List MemPlace}, DataW.trod enc Try.prog W 0 (fun _ => true) true fuel t cs = some x →
  ∃ a, s.rd W cs a ∧ ((∀ n ∈ x.1.weights Try.prog t, n ≤ reachBytes) → fits a) ∧ bulk a ≤ Rows.uptoBulk x.1
theorem opens_int {k : IntKind} {t : TypeId} (ht : Try.prog.underlying t = some (.int k)) (hc : Try.prog.cellsOf t = 1) : Opens (Shp.int k) t (fun _ => True) (fun _ => 1) := by
 refine ⟨hc, fun {H enc W fuel cs x} h => ?_⟩
 obtain ⟨z, hz, _, _⟩ := DataW.trod_int ht h
 exact ⟨z, hz, fun _ => trivial, bulk_pos _⟩
theorem opens_octs : Opens Shp.octs 62 (fun x => x.length ≤ 140737488351232) (fun x => x.length) := by
 refine ⟨by kernel_rfl, fun {H enc W fuel cs x} h => ?_⟩
 obtain ⟨d, p⟩ := x
 obtain ⟨a, len, cap, rfl⟩ : ∃ a len cap, cs = [.slice a len cap] := by
  rcases open_ints Try.underlying62 Try.underlying5 (by kernel_rfl) h with ⟨hcs, _⟩ | ⟨x, l, c, zs, hcs, _⟩
  ·exact ⟨_, _, _, hcs⟩
  ·exact ⟨_, _, _, hcs⟩
 obtain ⟨xs, e, r, s⟩ := open_octs (d := d) (p := p) ⟨fuel, h⟩
 refine ⟨xs, ⟨_, rfl, r⟩, fun hw => ?_, ?_⟩
 ·rcases s with s | ⟨el, sp, rfl, hel⟩
  ·omega
  ·have := hw ((el.length + sp.length) * Try.prog.bytesOf 5) (by simp [DataW.weights, Try.underlying62])
   rw [bytes8] at this
   simp only [reachBytes] at this
   omega
 ·rcases s with s | ⟨el, sp, rfl, hel⟩
  ·omega
  ·have := bulk_len el
   simp only [Rows.uptoBulk]
   omega
theorem choose_list {α : Type} {p : Nat → α → Prop} : ∀ n : Nat, (∀ i, i < n → ∃ x, p i x) → ∃ xs : List α, xs.length = n ∧ ∀ i x, xs[i]? = some x → p i x
 | 0, _ => ⟨[], rfl, fun i x h => by simp at h⟩
 | n + 1, h => by
  obtain ⟨xs, h1, h2⟩ := choose_list n fun i hi => h i (by omega)
  obtain ⟨x, hx⟩ := h n (by omega)
  refine ⟨xs ++ [x], by simp [h1], fun i y hy => ?_⟩
  by_cases e : i < n
  ·rw [List.getElem?_append_left (by omega)] at hy
   exact h2 i y hy
  ·rw [List.getElem?_append_right (by omega)] at hy
   have hi : i - xs.length = 0 := by
    have := (List.getElem?_eq_some_iff.1 hy).1
    simp at this; omega
   rw [hi] at hy
   simp at hy; subst hy
   obtain rfl : i = n := by omega
   exact hx
theorem weightsAll_mem {H : Type} {e : TypeId} {d : DataW H} {l : List (DataW H)} (hd : d ∈ l) {n : Nat} (hn : n ∈ d.weights Try.prog e) : n ∈ DataW.weightsAll Try.prog e l := by
 induction l with
 | nil => cases hd
 | cons x r ih =>
  simp only [DataW.weightsAll, List.mem_append]
  rcases List.mem_cons.1 hd with h | h
  ·subst h; exact .inl hn
  ·exact .inr (ih h)
theorem bulk_sum {H α : Type} (bulk : α → Nat) : ∀ (xs : List α) (D : Nat → DataW H), (∀ i x, xs[i]? = some x → bulk x ≤ Rows.uptoBulk (D i)) → (xs.map bulk).sum ≤ Rows.uptoBulkAll ((List.range xs.length).map D)
 | [], _, _ => by simp
 | x :: xs, D, h => by
  simp only [List.length_cons, List.range_succ_eq_map, List.map_cons, List.map_map, List.sum_cons, Rows.uptoBulkAll]
  have h0 := h 0 x rfl
  have := bulk_sum bulk xs (D ∘ Nat.succ) fun i y hy => h (i + 1) y (by simpa using hy)
  omega
theorem Opens.list {α : Type} {s : Shp α} {e t T bts : Nat} {fits : α → Prop} {bulk : α → Nat} (o : Opens s e fits bulk) (ht : Try.prog.underlying t = some (.slice e)) (hc : Try.prog.cellsOf t = 1) (hb : Try.prog.bytesOf e = bts) (hn : 0 < s.n) :
  Opens (Shp.list T s) t (fun xs => xs.length * bts ≤ 140737488351232 ∧ ∀ x ∈ xs, fits x) (fun xs => (xs.map bulk).sum) := by
 refine ⟨hc, fun {H enc W fuel cs x} h => ?_⟩
 rcases Deep.open_slice ht h with ⟨rfl, rfl⟩ | ⟨a, len, cap, m, n, D, Pl, rfl, _, hl, hm, hmm, rfl, hx⟩
 ·exact ⟨[], ⟨_, rfl, RdS.nil _ _⟩, fun _ => ⟨by simp, fun x hx => by cases hx⟩, by simp⟩
 simp only [if_true] at hmm
 subst hmm
 have each : ∀ i, i < len → ∃ x, (∃ c, s.rd W c x ∧ ∀ j u, c[j]? = some u → W.cell? ((a.add (i * s.n)).add j) = some u) ∧ ((∀ n ∈ (D i).weights Try.prog e, n ≤ reachBytes) → fits x) ∧ bulk x ≤ Rows.uptoBulk (D i) := by
  intro i hi
  obtain ⟨cs', h1, h2⟩ := hx i (by omega)
  obtain ⟨x, hr, hf, hbk⟩ := o.opened h2
  rw [o.cells] at h1
  obtain ⟨_, hlen, hcell⟩ := World.cells?_some h1
  refine ⟨x, ⟨cs', hr, fun j u hj => ?_⟩, hf, hbk⟩
  have hjl : j < cs'.length := (List.getElem?_eq_some_iff.1 hj).1
  have := hcell j (by omega)
  rw [this]; exact hj
 obtain ⟨xs, h1, h2⟩ := choose_list len each
 refine ⟨xs, ⟨_, rfl, some a, m, by rw [h1], by omega, hm, (fun h => by cases h), ?_⟩, fun hw => ⟨?_, fun x hx' => ?_⟩, ?_⟩
 ·by_cases h0 : len = 0
  ·left; exact List.eq_nil_of_length_eq_zero (by omega)
  ·right
   obtain ⟨b, off, spot⟩ := a
   obtain ⟨x0, hx0⟩ : ∃ x0, xs[0]? = some x0 := ⟨_, List.getElem?_eq_getElem (by omega)⟩
   obtain ⟨⟨c, hr, hc'⟩, _⟩ := h2 0 x0 hx0
   have hcl := s.rd_n hr
   obtain ⟨u0, hu0⟩ : ∃ u0, c[0]? = some u0 := ⟨_, List.getElem?_eq_getElem (by omega)⟩
   have hspot : spot = none := by
    have := World.cell?_spot (hc' 0 u0 hu0)
    simpa [Addr.add] using this
   subst hspot
   refine ⟨b, off, rfl, fun i x hxi => ?_⟩
   obtain ⟨⟨c, hr, hc'⟩, _⟩ := h2 i x hxi
   refine ⟨c, hr, fun j u hj => ?_⟩
   have := hc' j u hj
   have ea : ((⟨b, off, none⟩ : Addr).add (i * s.n)).add j = ⟨b, off + i * s.n + j, none⟩ := by
    rw [Deep.add_add]
    unfold Addr.add
    split <;> simp_all [Nat.add_assoc]
   rw [ea] at this
   exact this
 ·have := hw ((len + (m - len)) * bts) (by simp [DataW.weights, ht, hb])
  simp only [reachBytes] at this
  rw [h1]
  have h3 : len * bts ≤ (len + (m - len)) * bts := Nat.mul_le_mul_right _ (by omega)
  omega
 ·obtain ⟨i, hi, e⟩ := List.getElem_of_mem hx'
  have hxi : xs[i]? = some x := by rw [List.getElem?_eq_getElem hi, e]
  refine (h2 i x hxi).2.1 fun n hn => hw n ?_
  simp only [DataW.weights, ht, List.mem_cons, List.mem_append]
  right; left
  exact weightsAll_mem (d := D i) (List.mem_map.2 ⟨i, List.mem_range.2 (by omega), rfl⟩) hn
 ·have := bulk_sum bulk xs D fun i x hxi => (h2 i x hxi).2.2
  rw [h1] at this
  simp only [Rows.uptoBulk]
  omega
theorem Opens.pair {α β : Type} {s : Shp α} {r : Shp β} {t : TypeId} {f0 f1 : Field} {fa : α → Prop} {fb : β → Prop} {ba : α → Nat} {bb : β → Nat} (o : Opens s f0.type fa ba) (q : Opens r f1.type fb bb) (ht : Try.prog.underlying t = some (.struct #[f0, f1])) (hc : Try.prog.cellsOf t = s.n + r.n) (h0 : f0.offset = 0) (h1 : f1.offset = s.n) :
  Opens (s.pair r) t (fun z => fa z.1 ∧ fb z.2) (fun z => ba z.1 + bb z.2) := by
 refine ⟨hc, fun {H enc W fuel cs x} h => ?_⟩
 obtain ⟨xs, k, hk, hxy, hlen, hxl, hf⟩ := DataW.trod_struct ht h
 match xs, hxl with
 | [y0, y1], _ =>
  have g0 := hf 0 f0 rfl
  have g1 := hf 1 f1 rfl
  rw [h0, o.cells, List.drop_zero] at g0
  rw [h1, q.cells] at g1
  obtain ⟨a, ra, fa', ba'⟩ := o.opened (x := y0) (by simpa using g0)
  obtain ⟨b, rb, fb', bb'⟩ := q.opened (x := y1) (by simpa using g1)
  have hcs : cs = cs.take s.n ++ (cs.drop s.n).take r.n := by
   have : (cs.drop s.n).take r.n = cs.drop s.n := List.take_of_length_le (by rw [List.length_drop, hlen, hc]; omega)
   rw [this, List.take_append_drop]
  obtain ⟨d, p⟩ := x
  simp only [Prod.mk.injEq] at hxy
  obtain ⟨rfl, _⟩ := hxy
  refine ⟨(a, b), ⟨_, _, hcs, ra, rb⟩, fun hw => ⟨fa' fun n hn => hw n ?_, fb' fun n hn => hw n ?_⟩, ?_⟩
  ·simp only [DataW.weights, ht]
   exact DataW.weights_mem_each (j := 0) (t := f0.type) (d := y0.1) rfl rfl n hn
  ·simp only [DataW.weights, ht]
   exact DataW.weights_mem_each (j := 1) (t := f1.type) (d := y1.1) rfl rfl n hn
  ·simp only [List.map_cons, List.map_nil, Rows.uptoBulk, Rows.uptoBulkAll]
   omega
theorem small_of {H : Type} {ds : List (DataW H)} (hk : Rows.uptoSmall H ds = true) {d : DataW H} {n : Nat} (hd : d ∈ ds) (h : n ≤ Rows.uptoBulk d) : n ≤ 1048576 := by
 have h1 : Rows.uptoBulkAll ds ≤ 1048576 := of_decide_eq_true hk
 have h2 := bulk_mem hd
 omega
theorem Opens.three {α β γ : Type} {s : Shp α} {r : Shp β} {u : Shp γ} {t : TypeId} {f0 f1 f2 : Field} {fa : α → Prop} {fb : β → Prop} {fc : γ → Prop} {ba : α → Nat} {bb : β → Nat} {bc : γ → Nat} (o : Opens s f0.type fa ba) (q : Opens r f1.type fb bb) (p : Opens u f2.type fc bc)
  (ht : Try.prog.underlying t = some (.struct #[f0, f1, f2])) (hc : Try.prog.cellsOf t = s.n + (r.n + u.n)) (h0 : f0.offset = 0) (h1 : f1.offset = s.n) (h2 : f2.offset = s.n + r.n) :
  Opens (s.pair (r.pair u)) t (fun z => fa z.1 ∧ (fb z.2.1 ∧ fc z.2.2)) (fun z => ba z.1 + (bb z.2.1 + bc z.2.2)) := by
 refine ⟨hc, fun {H enc W fuel cs x} h => ?_⟩
 obtain ⟨xs, k, hk, hxy, hlen, hxl, hf⟩ := DataW.trod_struct ht h
 match xs, hxl with
 | [y0, y1, y2], _ =>
  have g0 := hf 0 f0 rfl
  have g1 := hf 1 f1 rfl
  have g2 := hf 2 f2 rfl
  rw [h0, o.cells, List.drop_zero] at g0
  rw [h1, q.cells] at g1
  rw [h2, p.cells] at g2
  obtain ⟨a, ra, fa', ba'⟩ := o.opened (x := y0) (by simpa using g0)
  obtain ⟨b, rb, fb', bb'⟩ := q.opened (x := y1) (by simpa using g1)
  obtain ⟨c, rc, fc', bc'⟩ := p.opened (x := y2) (by simpa using g2)
  have hcs : cs = cs.take s.n ++ ((cs.drop s.n).take r.n ++ (cs.drop (s.n + r.n)).take u.n) := by
   have e1 : (cs.drop (s.n + r.n)).take u.n = cs.drop (s.n + r.n) := List.take_of_length_le (by rw [List.length_drop, hlen, hc]; omega)
   rw [e1, ← List.drop_drop, List.take_append_drop, List.take_append_drop]
  obtain ⟨d, pl⟩ := x
  simp only [Prod.mk.injEq] at hxy
  obtain ⟨rfl, _⟩ := hxy
  refine ⟨(a, (b, c)), ⟨_, _, hcs, ra, ⟨_, _, rfl, rb, rc⟩⟩, fun hw => ⟨fa' fun n hn => hw n ?_, fb' fun n hn => hw n ?_, fc' fun n hn => hw n ?_⟩, ?_⟩
  ·simp only [DataW.weights, ht]
   exact DataW.weights_mem_each (j := 0) (t := f0.type) (d := y0.1) rfl rfl n hn
  ·simp only [DataW.weights, ht]
   exact DataW.weights_mem_each (j := 1) (t := f1.type) (d := y1.1) rfl rfl n hn
  ·simp only [DataW.weights, ht]
   exact DataW.weights_mem_each (j := 2) (t := f2.type) (d := y2.1) rfl rfl n hn
  ·simp only [List.map_cons, List.map_nil, Rows.uptoBulk, Rows.uptoBulkAll]
   omega
end Go.Proofs.Ytjjicajodjophaa

namespace Go.Proofs.Ytjjicajodjophaa
open Go.RowKit
set_option maxRecDepth 100000 in
set_option maxHeartbeats 400000 in
theorem same_any (w : World) (v1 v2 : Value) (xs ys : List UInt8) (h1 : Rd w v1 xs) (h2 : Rd w v2 ys) :
  Calls Try.prog 36 #[v1, v2] w fun e w' => e = .returned (.bool (sameB xs ys)) ∧ ∃ n, w' = w.drewN n := by
 obtain ⟨a1, c1, rfl, l1, m1, n1, r1⟩ := h1
 obtain ⟨a2, c2, rfl, l2, m2, n2, r2⟩ := h2
 unfold maxLen at m1 m2
 by_cases hl : xs.length = ys.length
 ·have hne : ((xs.length : Int) != (ys.length : Int)) = false := by simp; omega
  go_enter Try.func36, Try.ntmps36
  go_wp2
  go_loopw [5] (fun i wr => ∃ k n : Nat, k ≤ xs.length ∧ i = .int .i64 k ∧ sameTo xs ys k ∧ wr = w.drewN n) (fun i _ => xs.length - (intOf i).toNat)
  case atStart => exact ⟨0, 0, Nat.zero_le _, rfl, sameTo_zero _ _, rfl⟩
  case round =>
   obtain ⟨k, n, hk, rfl, hs, rfl⟩ := hrel
   by_cases hlt : k < xs.length
   ·rcases r1 with r1 | ⟨b1, o1, rfl, hc1⟩
    ·rw [r1] at hlt; simp at hlt
    rcases r2 with r2 | ⟨b2, o2, rfl, hc2⟩
    ·rw [hl, r2] at hlt; simp at hlt
    have g1 := hc1 k hlt
    have g2 := hc2 k (by omega)
    have HL : Hid (xs.length = ys.length) := hl
    have hq : (k : Int) < (xs.length : Int) := by omega
    have hq2 : (k : Int) < (ys.length : Int) := by omega
    clear hc1 hc2 hl
    by_cases he : bt xs k = bt ys k
    ·have hb : (bt xs k != bt ys k) = false := by simp [he]
     have HE : Hid (bt xs k = bt ys k) := he
     clear he
     go_wp2
     go_quiet (fail)
     go_wp2
     go_roundw
     case rel => exact ⟨k + 1, _, by omega, by go_num, sameTo_succ hs HE.out, rfl⟩
     case measure => simp [intOf]; omega
    ·have hb : (bt xs k != bt ys k) = true := by simp [he]
     go_wp2
     go_quiet (fail)
     go_wp2
     go_ret
     exact ⟨ret_bool (sameB_no HL.out hlt he).symm, _, World.drewN_drewN _ _ _⟩
   ·have HL : Hid (xs.length = ys.length) := hl
    clear hl
    go_wp2
    go_ret
    exact ⟨ret_bool (sameB_of HL.out (by rw [show xs.length = k from by omega]; exact hs)).symm, _, rfl⟩
 ·have hne : ((xs.length : Int) != (ys.length : Int)) = true := by simp; omega
  go_enter Try.func36, Try.ntmps36
  go_wp2
  go_ret
  exact ⟨ret_bool (sameB_len hl).symm, 0, rfl⟩
end Go.Proofs.Ytjjicajodjophaa

namespace Go.Proofs.Ytjjicajodjophaa
open Go.RowKit
set_option maxRecDepth 100000 in
set_option maxHeartbeats 400000 in
theorem dsameLists_any (w : World) (v1 v2 : Value) (ss : List (List UInt8)) (h1 : RdSec w v1 ss) (h2 : RdSec w v2 ss) :
  Calls Try.prog 41 #[v1, v2] w fun e w' => e = .returned (.bool true) ∧ ∃ n, w' = w.drewN n := by
 have lb := h1.bd
 obtain ⟨a1, c1, rfl⟩ := h1.slice
 obtain ⟨a2, c2, rfl⟩ := h2.slice
 go_enter Try.func41, Try.ntmps41
 go_wp2
 go_loopw [5] (fun i wr => ∃ k n : Nat, k ≤ ss.length ∧ i = .int .i64 k ∧ wr = w.drewN n) (fun i _ => ss.length - (intOf i).toNat)
 case atStart => exact ⟨0, 0, Nat.zero_le _, rfl, rfl⟩
 case round =>
  obtain ⟨k, n, hk, rfl, hwr⟩ := hrel
  have hb : Below w.heap.size w wr := by rw [hwr]; exact below_drewN' _ _ _
  have HW : Hid (wr = w.drewN n) := hwr
  clear hwr
  by_cases hlt : k < ss.length
  ·have hq : (k : Int) < (ss.length : Int) := by omega
   obtain ⟨x, hx, _⟩ := some_at ss hlt
   obtain ⟨b1, o1, u1, rfl, g1, q1⟩ := (h1.to0 hb).oct hx
   obtain ⟨b2, o2, u2, rfl, g2, q2⟩ := (h2.to0 hb).oct hx
   obtain ⟨aa, ca, rfl⟩ := q1.slice
   obtain ⟨ab, cb, rfl⟩ := q2.slice
   have KS := hide (fun n => same_any (wr.drewN n) _ _ _ _ (q1.drewN n) (q2.drewN n))
   rw [sameB_self] at KS
   clear q1 q2 hb hx
   generalize x.length = LX at *
   go_wp2
   go_quiet ((go_at_call 36; exact Calls.quiet_of (KS.out _)))
   go_wp2
   go_roundw
   case rel => exact ⟨k + 1, n + nq, by omega, by go_num, by rw [HW.out, World.drewN_drewN]⟩
   case measure => simp [intOf]; omega
  ·go_wp2
   go_ret
   exact ⟨rfl, _, HW.out⟩
set_option maxRecDepth 100000 in
set_option maxHeartbeats 2000000 in
theorem alike_any (w : World) (sv cv sv2 cv2 : Value) (d : Dsk) (h1 : RdSec w sv d.1) (h2 : RdC w cv d.2) (k1 : RdSec w sv2 d.1) (k2 : RdC w cv2 d.2) :
  Calls Try.prog 22 #[.agg #[sv, cv], .agg #[sv2, cv2]] w fun e w' => e = .returned (.int .i64 0) ∧ Below w.heap.size w w' := by
 have lb := h2.bd
 obtain ⟨a1, c1, rfl⟩ := h1.slice
 obtain ⟨a2, c2, rfl⟩ := h2.slice
 obtain ⟨a3, c3, rfl⟩ := k1.slice
 obtain ⟨a4, c4, rfl⟩ := k2.slice
 obtain ⟨W1, hW1, A0, A1, bW1, sW1⟩ := boxed2 w (.slice a1 d.1.length c1) (.slice a2 d.2.length c2) 31
 obtain ⟨W, hW, B0, B1, bW2, sW⟩ := boxed2 W1 (.slice a3 d.1.length c3) (.slice a4 d.2.length c4) 25
 rw [sW1] at B0 B1
 rw [hW1] at hW
 replace A0 := (bW2.cell (cell_lt A0)).trans A0
 replace A1 := (bW2.cell (cell_lt A1)).trans A1
 have bW := bW1.trans (bW2.mono bW1.size)
 replace h1 := h1.to0 bW
 replace h2 := h2.to0 bW
 replace k1 := k1.to0 bW
 replace k2 := k2.to0 bW
 replace hW1 := hide hW1
 clear bW1 bW2
 go_enter Try.func22, Try.ntmps22
 go_wp2_with fail
 rw [← hW]
 replace hW := hide hW
 refine (dsameLists_any _ _ _ d.1 h1 k1).mono ?_
 rintro e w1 ⟨rfl, n1, hw1⟩
 have b1 : Below W.heap.size W w1 := by rw [hw1]; exact below_drewN' _ _ _
 replace A1 := (b1.cell (cell_lt A1)).trans A1
 replace B1 := (b1.cell (cell_lt B1)).trans B1
 replace h2 := h2.to0 b1
 replace k2 := k2.to0 b1
 have cc := bW.trans (b1.mono bW.size)
 clear hw1 b1 bW A0 B0 h1 k1
 go_wp2
 go_loopw [5] (fun i wr => ∃ k : Nat, k ≤ d.2.length ∧ i = .int .i64 k ∧ Below w1.heap.size w1 wr) (fun i _ => d.2.length - (intOf i).toNat)
 case atStart => exact ⟨0, Nat.zero_le _, rfl, Below.refl _ _⟩
 case round =>
  obtain ⟨k, hk, rfl, hb⟩ := hrel
  replace A1 := (hb.cell (cell_lt A1)).trans A1
  replace B1 := (hb.cell (cell_lt B1)).trans B1
  by_cases hlt : k < d.2.length
  ·have hq : (k : Int) < (d.2.length : Int) := by omega
   obtain ⟨y, hy, _⟩ := some_at d.2 hlt
   obtain ⟨b1, o1, u1, rfl, g1, g2, q1⟩ := (h2.to0 hb).wrt hy
   obtain ⟨b2, o2, u2, rfl, g3, g4, q2⟩ := (k2.to0 hb).wrt hy
   obtain ⟨aa, ca, rfl⟩ := q1.slice
   obtain ⟨ab, cb, rfl⟩ := q2.slice
   have KS := hide (fun n => same_any (wr.drewN n) _ _ _ _ (q1.drewN n) (q2.drewN n))
   rw [sameB_self] at KS
   have HB := hide hb
   clear q1 q2 hb hy
   obtain ⟨z, x⟩ := y
   dsimp only at g1 g2 g3 g4 KS
   generalize x.length = LX at *
   have hne : (z != z) = false := by simp
   go_wp2
   go_quiet ((go_at_call 36; exact Calls.quiet_of (KS.out _)))
   have HB2 : Hid (Below w1.heap.size w1 (wr.drewN nq)) := HB.out.trans (below_drewN' _ _ _)
   go_wp2
   go_roundw
   case rel => exact ⟨k + 1, by omega, by go_num, HB2.out⟩
   case measure => simp [intOf]; omega
  ·go_wp2
   go_ret
   exact ⟨rfl, cc.trans (hb.mono cc.size)⟩
end Go.Proofs.Ytjjicajodjophaa

namespace Go.Proofs.Ytjjicajodjophaa
open Go.RowKit
set_option maxRecDepth 100000 in
set_option maxHeartbeats 2000000 in
theorem of_any (w : World) (sv cv : Value) (d : Dsk) (h1 : RdSec w sv d.1) (h2 : RdC w cv d.2) (hf : dfit d) :
  Calls Try.prog 9 #[.agg #[sv, cv]] w fun e w' => ∃ sv' cv', e = .returned (.agg #[sv', cv']) ∧ Own SStP w.heap.size w' [sv', cv'] d ∧ Below w.heap.size w w' := by
 obtain ⟨j0, ji, jz0, jz1, jz2⟩ := info_parts infoW
 obtain ⟨f1, f2, f3, f4⟩ := hf
 obtain ⟨a1, c1, rfl⟩ := h1.slice
 obtain ⟨a2, c2, rfl⟩ := h2.slice
 obtain ⟨W, hW⟩ : ∃ W, W = (w.alloc (.cells #[.slice a1 d.1.length c1, .slice a2 d.2.length c2] 25)).alloc (.cells #[.slice none 0 0, .slice none 0 0] 31) := ⟨_, rfl⟩
 have bW : Below w.heap.size w W := by rw [hW]; exact ((Below.refl _ _).alloc (Nat.le_refl _) _).alloc (by simp) _
 have sW : W.heap.size = w.heap.size + 1 + 1 := by rw [hW]; simp
 have hA : W.heap[w.heap.size]? = some (.cells #[.slice a1 d.1.length c1, .slice a2 d.2.length c2] 25 (0, 0)) := by
  rw [hW, Below.heap_alloc _ _ _ (by simp)]; exact heap_alloc_last w _
 have hZ : W.heap[w.heap.size + 1]? = some (.cells #[.slice none 0 0, .slice none 0 0] 31 (0, 0)) := by
  rw [hW]; have := heap_alloc_last (w.alloc (.cells #[.slice a1 d.1.length c1, .slice a2 d.2.length c2] 25)) (.cells #[.slice none 0 0, .slice none 0 0] 31); simpa using this
 have q1 := h1.to0 bW
 obtain ⟨A0, _, _, _⟩ := row2_cells hA
 have HA := hide hA
 have HZ := hide hZ
 have BW := hide bW
 clear hA hZ bW
 go_enter Try.func9, Try.ntmps9
 go_wp2_with fail
 rw [← hW]
 replace hW := hide hW
 refine (copyLists_any _ _ d.1 q1 f1 f2).mono ?_
 rintro e w1 ⟨v1, rfl, o1, b1⟩
 obtain ⟨al, cl, rfl⟩ := o1.rdS.slice
 obtain ⟨X, hX, X0, X1, bX, sX⟩ := boxed2 w1 (.slice al d.1.length cl) (.slice none 0 0) 31
 have hTX : X.heap[w1.heap.size]? = some (.cells #[.slice al d.1.length cl, .slice none 0 0] 31 (0, 0)) := by rw [hX]; exact heap_alloc_last w1 _
 obtain ⟨gb, hgbe⟩ : ∃ gb, gb = w1.heap.size := ⟨_, rfl⟩
 have hgb : w.heap.size + 1 + 1 ≤ gb := by have := b1.size; omega
 rw [← hgbe] at hTX
 obtain ⟨F1, p1, p2⟩ := o1.foot
 have hnF : gb ∉ F1 := fun hm => by have := p1.lt gb hm; omega
 have nilF : OwnF SCacheP [] X [.slice none 0 0] [] := ⟨⟨_, [], [], rfl, World.ownsRow_nil _ _ _ _, ⟨rfl, rfl⟩, by simp [Value.ownBlock]⟩, List.nodup_nil⟩
 have st1 : BoxSt SStP 31 gb (w.heap.size + 1 + 1) X (.slice al d.1.length cl) (.slice none 0 0) (d.1, []) :=
  ⟨hTX, F1 ++ [], OwnF.join (p1.to bX) nilF (fun b _ h => by cases h), fun b hb => by rw [List.append_nil] at hb; have := p2 b hb; omega, by rw [List.append_nil]; exact hnF⟩
 have ST1 := hide st1
 have HB : Hid (Below (w.heap.size + 1 + 1) W X) := (b1.mono (by omega)).trans (bX.mono (by omega))
 replace hgbe := hide hgbe
 clear st1 nilF p1 p2 hnF o1 b1 hTX X0 X1 bX
 go_wp2
 rw [← hX, ← hgbe.out]
 replace hX := hide hX
 go_loopw [4] (fun i wr => ∃ (k : Nat) (c : Value), k ≤ d.2.length ∧ i = .int .i64 k ∧ BoxSt SStP 31 gb (w.heap.size + 1 + 1) wr (.slice al d.1.length cl) c (d.1, d.2.take k) ∧ Below (w.heap.size + 1 + 1) W wr) (fun i _ => d.2.length - (intOf i).toNat)
 case atStart => exact ⟨0, _, Nat.zero_le _, rfl, ST1.out, HB.out⟩
 case round =>
  obtain ⟨k, c, hk, rfl, ⟨hT, F, hF, hFB, hgF⟩, hb⟩ := hrel
  clear ST1 HB
  have hA := (hb.block w.heap.size (by omega)).trans HA.out
  obtain ⟨A0, A1, _, _⟩ := row2_cells hA
  obtain ⟨T0, T1, _, _⟩ := row2_cells hT
  have hsz : gb < wr.heap.size := lt_of_block hT
  have cw := BW.out.trans (hb.mono (show w.heap.size ≤ w.heap.size + 1 + 1 by omega))
  by_cases hlt : k < d.2.length
  ·have hq : (k : Int) < (d.2.length : Int) := by omega
   obtain ⟨y, hyk, hym⟩ := some_at d.2 hlt
   obtain ⟨b1, o1, u, rfl, hc1, hc2, hr⟩ := (h2.to0 cw).wrt hyk
   obtain ⟨_, _, _, e', hcw, _, _⟩ := h2.wrt hyk
   cases e'
   obtain ⟨au, cu, rfl⟩ := hr.slice
   obtain ⟨cc, rowT, fin⟩ := OwnF.litSnd (c0 := [.slice al d.1.length cl]) hF rfl (n := k) (by simp; omega)
   have hsn := snoc_take d.2 hyk
   have hxl := f4 y hym
   obtain ⟨z, x⟩ := y
   dsimp only at hc1 hc2 hr hxl
   have FIN : Hid (∀ (w2 : World) (v2 : Value) (w5 : World) (g cap : Nat), Below wr.heap.size wr.drew w2 → OwnB wr.heap.size w2 v2 x → (w2.alloc (.cells #[.int .i64 z, v2] 110)).grownBy w5 c.ownBlock →
     w5.ownsRow 0 110 2 (.slice (some ⟨g, 0, none⟩) (k + 1) cap) (k + 1) (cc ++ [.int .i64 z, v2]) → (c.ownBlock = some g ∨ g = w2.heap.size + 1) →
     (w5.cell? ⟨gb, 1, none⟩ = some c ∧ w5.frozen? ⟨gb, 1, none⟩ = false ∧ Below (w.heap.size + 1 + 1) wr w5) ∧ Hid (BoxSt SStP 31 gb (w.heap.size + 1 + 1) (w5.setCell ⟨gb, 1, none⟩ (.slice (some ⟨g, 0, none⟩) (k + 1) cap)) (.slice al d.1.length cl) (.slice (some ⟨g, 0, none⟩) (k + 1) cap) (d.1, d.2.take (k + 1)) ∧ Below (w.heap.size + 1 + 1) W (w5.setCell ⟨gb, 1, none⟩ (.slice (some ⟨g, 0, none⟩) (k + 1) cap)))) := fun w2 v2 w5 g cap k1 k2 k3 k4 k5 => by
    obtain ⟨⟨F', q1, q2⟩, q3, q4⟩ := fin w2 [.int .i64 z, v2] (z, x) 110 _ w5 g cap ((Below.refl _ _).drew.trans k1) (own_wrt k2) rfl rfl rfl rfl k3 k4 k5
    rw [hsn] at q1
    have hT5 := (q4 _ hsz hgF).trans hT
    obtain ⟨_, t0, _, t2⟩ := row2_cells hT5
    have hgF' : gb ∉ F' := fun hm => (q2 _ hm).elim hgF (fun h => by omega)
    refine ⟨⟨t0, t2, q3 (w.heap.size + 1 + 1) hFB (by omega)⟩, ⟨set_row1 hT5 _, F', q1.set hgF' _, fun b hb' => (q2 b hb').elim (hFB b) (fun h => by omega), hgF'⟩, ?_⟩
    exact (hb.trans (q3 (w.heap.size + 1 + 1) hFB (by omega))).setCell (p := ⟨gb, 1, none⟩) hgb _
   have ROW : Hid (∀ u, Below wr.heap.size wr.drew u → ∀ o : Obj, (u.alloc o).ownsRow 0 110 2 c k cc) := fun u hu o => rowT _ (((Below.refl _ _).drew.trans hu).alloc hu.size o)
   have KS := hide (copy_any wr.drew _ x (hr.to (Below.refl _ _).drew) (by omega))
   have h63 : k + 1 ≤ maxLen := by rw [show maxLen = 9223372036854775807 from rfl]; omega
   have hby : (k + 1) * 32 ≤ 140737488355328 := by omega
   clear fin rowT hsn hF hFB hr hb hyk hym hT hA cw
   obtain ⟨ll, lc, hl⟩ : ∃ ll lc, c = .slice ll k lc := by
    rcases (ROW.out wr.drew (Below.refl _ _) (.cells #[] 0)).2 with ⟨rfl, rfl⟩ | ⟨g, cap, cur, rfl, _⟩
    ·exact ⟨_, _, rfl⟩
    ·exact ⟨_, _, rfl⟩
   subst hl
   have hbl : b1 < w.heap.size := cell_lt hcw
   generalize x.length = L at *
   go_wp2
   refine wp_region_mid (fun w' => w'.cell? ⟨w.heap.size, 1, none⟩ = some (.slice (some ⟨b1, o1, none⟩) d.2.length c2) ∧ w'.cell? ⟨b1, o1 + k * 2, none⟩ = some (.int .i64 z) ∧ w'.cell? ⟨b1, o1 + k * 2 + 1, none⟩ = some (.slice au L cu) ∧ w'.cell? ⟨gb, 1, none⟩ = some (.slice ll k lc)) 14 17 mixed (by kernel_rfl) (fun _ _ _ _ h => h) ⟨A1, hc1, hc2, T1⟩ ?_
   dsimp only [List.take, List.drop]
   iterate 14
    refine take_one (v := ?_) (by rfl) ?_ ?_
    rotate_left
    ·rintro w' ⟨s1, s2, s3, s4⟩
     go_simp
     try with_reducible rfl
    try simp only [Act.put, List.setIfInBounds_toArray, List.set_cons_zero, List.set_cons_succ]
   refine mid_one fun K hK => ?_
   refine step_call (by rfl) 46 _ _ (by rfl) #[.slice au L cu] (by simp [Act.eval]) (Try.call46 _ _) KS.out ?_
   rintro e w2 ⟨v2, rfl, o2, b2⟩
   obtain ⟨av, cv2, hv2⟩ := o2.rd.slice
   subst hv2
   have x0 := (b2.cell (p := ⟨w.heap.size, 1, none⟩) (cell_lt A1)).trans A1
   have x1 := (b2.cell (p := ⟨b1, o1 + k * 2, none⟩) (cell_lt hc1)).trans hc1
   have x2 := (b2.cell (p := ⟨b1, o1 + k * 2 + 1, none⟩) (cell_lt hc2)).trans hc2
   have x3 := (b2.cell (p := ⟨gb, 1, none⟩) (cell_lt T1)).trans T1
   refine ⟨_, rfl, hK _ _ ⟨x0, x1, x2, x3⟩ ?_⟩
   clear hK K
   try simp only [Act.put, List.setIfInBounds_toArray, List.set_cons_zero, List.set_cons_succ]
   refine mid_one fun K hK => ?_
   rw [if_pos (by rfl)]
   go_simp
   refine hK _ _ ⟨x0, x1, x2, x3⟩ ?_
   clear hK K
   refine mid_one fun K hK => ?_
   rw [if_pos (by rfl)]
   go_simp
   refine hK _ _ ⟨cell_alloc x0 _, cell_alloc x1 _, cell_alloc x2 _, cell_alloc x3 _⟩ ?_
   clear hK K
   show wpList _ _ _ _ _ _
   go_wp2_with (at_builtin; refine wpList_append_lies _ rfl _ _ 29 rfl 0 110 j0 _ 2 32 Try.underlying29 ji jz0 jz1 jz2 rfl (by decide) (.slice ll k lc) k cc rfl (ROW.out w2 b2 _) ⟨w2.heap.size, 0, none⟩ 1 1 [.int .i64 z, .slice av x.length cv2] rfl rfl (World.news_of_block (heap_alloc_last w2 _)) (by simp [Value.oneCell']) (by decide) h63 hby (Nat.zero_le _) (w2.heap.size + 1) (by simp) ?_; intro g cap w5 ho5 hg5 hat5 hlt5; obtain ⟨⟨y5, y6, _⟩, HF⟩ := FIN.out w2 _ w5 g cap b2 o2 hg5 ho5 hat5; clear ho5 hg5 hat5 FIN ROW KS o2 b2)
   go_roundw
   case rel => exact ⟨k + 1, _, by omega, by go_num, HF.out⟩
   case measure => simp [intOf]; omega
  ·obtain rfl : k = d.2.length := by omega
   rw [List.take_of_length_le (Nat.le_refl _)] at hF
   have Z2 := (hb.block (w.heap.size + 1) (by omega)).trans HZ.out
   obtain ⟨z0, z1, z2, z3⟩ := row2_cells Z2
   obtain ⟨p2, e2, r2⟩ : ∃ v, [c] = [v] ∧ RdS SWr wr v d.2 := by
    obtain ⟨F1, F2, _, o1, o2, _⟩ := OwnF.split (c := [.slice al d.1.length cl]) (d := [c]) hF rfl
    exact o2.rd
   simp at e2; subst e2
   obtain ⟨ac, cc', rfl⟩ := r2.slice
   have hgF2 : w.heap.size + 1 ∉ F := fun hm => by have := hFB _ hm; omega
   have OO := hide ((hF.set (a := ⟨w.heap.size + 1, 0, none⟩) hgF2 (.slice al d.1.length cl)).set (a := ⟨w.heap.size + 1, 1, none⟩) hgF2 (.slice ac d.2.length cc'))
   have ZZ := hide Z2
   have FB := hide hFB
   have CC := hide cw
   clear hF hFB hgF hT hA hb cw Z2 r2
   go_wp2
   refine ret_cell rfl rfl (w.heap.size + 1) rfl _ _ _ _ (heap_set2 ZZ.out _ _) _ Try.underlying31 rfl info_stP ?_
   exact ⟨_, _, rfl, OO.out.own fun b hb => by have := FB.out b hb; omega, below_set2 CC.out (show w.heap.size ≤ w.heap.size + 1 by omega) _ _⟩
end Go.Proofs.Ytjjicajodjophaa
