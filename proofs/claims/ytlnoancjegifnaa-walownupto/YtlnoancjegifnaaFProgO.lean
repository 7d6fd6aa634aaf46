/-
  The contract of the program's Open of frames.
-/
import Derived.Test.YtlnoancjegifnaaFProgA
import Derived.Test.YtlnoancjegifnaaCpy
namespace Go.Proofs.Ytlnoancjegifnaa
open Go.RowKit
set_option linter.unusedVariables false

theorem frame_info_p : (Try.prog.info? 89).map (·.size) = some 2 := by kernel_rfl

set_option maxRecDepth 100000 in
set_option maxHeartbeats 1000000 in
theorem fopen_any (w : World) (v : Value) (b : List UInt8) (hrd : Rd w v b) (hm : b.length ≤ 140737488351232) :
    Calls Try.prog 54 #[v] w fun e w' => ∃ sv, e = .returned (.tuple #[.agg #[.int .u8 ((fopen b).2.1.1.toNat : Int), sv], .int .i64 ((fopen b).2.2 : Nat), .int .i64 ((fopen b).1 : Nat)]) ∧ OwnB w.heap.size w' sv (fopen b).2.1.2 ∧ Below w.heap.size w w' := by
  obtain ⟨ao, cap, rfl⟩ := hrd.slice
  have hz := heap_alloc_last w (.cells #[.int .u8 0, .slice none 0 0] 89)
  have hb1 : Below w.heap.size w (w.alloc (.cells #[.int .u8 0, .slice none 0 0] 89)) := (Below.refl _ _).alloc (Nat.le_refl _) _
  obtain ⟨W, hW⟩ : ∃ W, W = w.alloc (.cells #[.int .u8 0, .slice none 0 0] 89) := ⟨_, rfl⟩
  have hsW : W.heap.size = w.heap.size + 1 := by rw [hW]; simp
  rw [← hW] at hb1 hz
  have hM := fmeasure_any W _ b (hrd.to hb1) (by omega)
  by_cases h0 : (fmeas b).2 ≠ 0
  · obtain ⟨e1, e2⟩ := fmeas_no h0
    have hd : (((fmeas b).2 : Int) != 0) = true := by simp only [bne_iff_ne]; omega
    have hF := hide e2
    rw [e1] at hM
    clear e1 e2
    generalize (fmeas b).2 = er at *
    go_enter Try.func54, Try.ntmps54
    go_wp2_with fail
    rw [← hW]
    replace hW := hide hW
    refine hM.mono ?_
    rintro e w1 ⟨rfl, b1⟩
    have hz1 := (b1.block w.heap.size (by omega)).trans hz
    have cz0 : w1.cell? ⟨w.heap.size, 0, none⟩ = some (.int .u8 0) := by rw [cell_of_row _ _ 0 _ _ (0, 0) hz1]; rfl
    have cz1 : w1.cell? ⟨w.heap.size, 1, none⟩ = some (.slice none 0 0) := by rw [cell_of_row _ _ 1 _ _ (0, 0) hz1]; rfl
    have fz0 : w1.frozen? ⟨w.heap.size, 0, none⟩ = false := frozen_of_row w1 w.heap.size 0 _ _ hz1
    have fz1 : w1.frozen? ⟨w.heap.size, 1, none⟩ = false := frozen_of_row w1 w.heap.size 1 _ _ hz1
    have c1 := hb1.trans (b1.mono (by omega))
    clear hM hz hb1 b1
    go_wp2
    refine ret_frame rfl rfl w.heap.size rfl _ _ _ _ (heap_set2 (u := w1) hz1 _ _) _ Try.underlying89 rfl frame_info_p _ _ rfl rfl ?_
    rw [hF.out]
    exact ⟨_, rfl, World.ownsRow_nil _ _ _ _, below_set2 c1 (Nat.le_refl _) _ _⟩
  obtain ⟨e1, l8, l4, lb, e2⟩ := fmeas_yes (Decidable.not_not.1 h0)
  have e3 := Decidable.not_not.1 h0
  rw [e1, e3] at hM
  clear e1 e3 h0
  obtain ⟨n, hne⟩ : ∃ n, ftold b = n := ⟨_, rfl⟩
  rw [hne] at l4 lb e2 hM
  have hF0 := hide e2
  clear e2 hne
  have hR := hrd.to hb1
  obtain ⟨a1, c1, ea, l1, m1, n1, r1⟩ := hR
  cases ea
  rcases r1 with r1 | ⟨b1, o1, rfl, hc1⟩
  · rw [r1] at l8; simp at l8
  have t1 := hc1 1 (by omega)
  clear hc1 m1 n1
  go_enter Try.func54, Try.ntmps54
  go_wp2_with fail
  rw [← hW]
  replace hW := hide hW
  refine hM.mono ?_
  rintro e w1 ⟨rfl, bM⟩
  have hz1 := (bM.block w.heap.size (by omega)).trans hz
  have c1 := hb1.trans (bM.mono (by omega))
  have R1 := hrd.to c1
  have rN : Rd w1 (.slice (some ⟨b1, o1 + (n + 4), none⟩) 4 (cap - (n + 4))) ((b.drop (n + 4)).take 4) := by
    have := (rd_sub R1 (q := n + 4) (to := n + 8) (by omega) (by omega)).1
    rw [List.drop_take, show n + 8 - (n + 4) = 4 from by omega] at this
    simpa [Addr.add] using this
  have rS : Rd w1 (.slice (some ⟨b1, o1, none⟩) (n + 4) cap) (b.take (n + 4)) := by
    have := (rd_sub R1 (q := 0) (to := n + 4) (by omega) (by omega)).1
    simpa [Addr.add] using this
  have rC : Rd w1 (.slice (some ⟨b1, o1 + 4, none⟩) n (cap - 4)) ((b.drop 4).take n) := by
    have := (rd_sub R1 (q := 4) (to := n + 4) (by omega) (by omega)).1
    rw [List.drop_take, show n + 4 - 4 = n from by omega] at this
    simpa [Addr.add] using this
  replace t1 := (bM.cell (p := ⟨b1, o1 + 1, none⟩) (cell_lt t1)).trans t1
  have hs1 : w.heap.size + 1 ≤ w1.heap.size := by have := bM.size; omega
  clear hM hz hb1 bM hrd R1
  go_wp2
  rw [show (n : Int) + 8 - 4 = (n : Int) + 4 from by omega]
  have x1 : (n : Int) + 4 ≤ (n : Int) + 8 := by omega
  have x2 : (n : Int) + 8 ≤ (cap : Int) := by omega
  have x3 : (n : Int) + 4 ≤ (cap : Int) := by omega
  have x4 : ¬ cap = n + 4 := by omega
  have y1 : (4 : Int) ≤ (cap : Int) := by omega
  have y2 : (0 : Int) ≤ (n : Int) + 4 := by omega
  have y3 : ((n : Int) + 4).toNat = n + 4 := by omega
  have y4 : ((n : Int) + 8).toNat = n + 8 := by omega
  have y5 : (0 : Int) ≤ (n : Int) + 8 := by omega
  obtain ⟨z1, z2, z3, z4⟩ := wr4 n (by omega)
  have kN : ∀ u, Rd u (.slice (some ⟨b1, o1 + (n + 4), none⟩) 4 (cap - (n + 4))) ((b.drop (n + 4)).take 4) → Calls Try.prog 60 #[.slice (some ⟨b1, o1 + (n + 4), none⟩) 4 (cap - (n + 4))] u fun e w' => e = .returned (.int .u64 (numOf ((b.drop (n + 4)).take 4) : Nat)) ∧ Below u.heap.size u w' :=
    fun u h => ftold_any u _ _ h (by simp; omega) (by simp; omega)
  have kS : ∀ u, Rd u (.slice (some ⟨b1, o1, none⟩) (n + 4) cap) (b.take (n + 4)) → Calls Try.prog 57 #[.slice (some ⟨b1, o1, none⟩) (n + 4) cap] u fun e w' => e = .returned (.int .u32 (sum (b.take (n + 4)) : Nat)) ∧ Below u.heap.size u w' :=
    fun u h => sum_any u _ _ h (by simp; omega)
  have hsl := sum_lt (b.take (n + 4))
  have hwr : IntKind.u64.wrap ((sum (b.take (n + 4)) : Nat) : Int) = ((sum (b.take (n + 4)) : Nat) : Int) := by unfold M32 at hsl; rw [IntKind.wrap_u64]; omega
  have KN := hide kN
  have KS := hide kS
  have RN := hide rN.drew
  have RS := hide rS.drew
  have RC := hide rC.drew
  have HZ := hide hz1
  have HC := hide c1
  have T1 := hide t1
  clear kN kS rN rS rC hz1 c1 t1
  go_region_law (first
    | (refine step_call (by rfl) 60 _ _ (by rfl) #[.slice (some ⟨b1, o1 + (n + 4), none⟩) 4 (cap - (n + 4))] (by simp [Act.eval, Act.put]) (Try.call60 _ _) (KN.out _ RN.out) ?_; rintro e w2 ⟨rfl, b2⟩; refine ⟨_, rfl, ?_⟩)
    | (refine step_call (by rfl) 57 _ _ (by rfl) #[.slice (some ⟨b1, o1, none⟩) (n + 4) cap] (by simp [Act.eval]) (Try.call57 _ _) (KS.out _ (RS.out.to b2)) ?_; rintro e w3 ⟨rfl, b3⟩; refine ⟨_, rfl, ?_⟩))
  have c3 : Below w.heap.size w w3 := by
    have h1 : Below w.heap.size w w1.drew := below_drew HC.out
    exact (h1.trans (b2.mono h1.size)).trans (b3.mono (Nat.le_trans h1.size b2.size))
  have bb : Below w1.heap.size w1 w3 := by
    have h1 : Below w1.heap.size w1 w1.drew := below_drew (Below.refl _ _)
    exact (h1.trans (b2.mono h1.size)).trans (b3.mono (Nat.le_trans h1.size b2.size))
  have hz3 := (bb.block w.heap.size (by omega)).trans HZ.out
  have rC := (RC.out.to b2).to b3
  have t3 := (bb.cell (p := ⟨b1, o1 + 1, none⟩) (cell_lt T1.out)).trans T1.out
  have hs3 : w.heap.size + 1 ≤ w3.heap.size := Nat.le_trans hs1 bb.size
  clear b2 b3 KN KS RN RS RC HZ HC T1 bb
  by_cases h5 : numOf ((b.drop (n + 4)).take 4) ≠ sum (b.take (n + 4))
  · have hF := hF0.out
    rw [if_pos h5] at hF
    replace hF := hide hF
    have hd5 : (((numOf ((b.drop (n + 4)).take 4) : Nat) : Int) != ((sum (b.take (n + 4)) : Nat) : Int)) = true := by
      simp only [bne_iff_ne]; omega
    clear hF0 h5 t3 rC
    have cz0 : w3.cell? ⟨w.heap.size, 0, none⟩ = some (.int .u8 0) := by rw [cell_of_row _ _ 0 _ _ (0, 0) hz3]; rfl
    have cz1 : w3.cell? ⟨w.heap.size, 1, none⟩ = some (.slice none 0 0) := by rw [cell_of_row _ _ 1 _ _ (0, 0) hz3]; rfl
    have fz0 : w3.frozen? ⟨w.heap.size, 0, none⟩ = false := frozen_of_row w3 w.heap.size 0 _ _ hz3
    have fz1 : w3.frozen? ⟨w.heap.size, 1, none⟩ = false := frozen_of_row w3 w.heap.size 1 _ _ hz3
    generalize numOf ((b.drop (n + 4)).take 4) = N at *
    generalize sum (b.take (n + 4)) = S at *
    go_wp2
    refine ret_frame rfl rfl w.heap.size rfl _ _ _ _ (heap_set2 (u := w3) hz3 _ _) _ Try.underlying89 rfl frame_info_p _ _ rfl rfl ?_
    rw [hF.out]
    exact ⟨_, rfl, World.ownsRow_nil _ _ _ _, below_set2 c3 (Nat.le_refl _) _ _⟩
  have hF := hF0.out
  rw [if_neg h5] at hF
  replace hF := hide hF
  have hd5 : (((numOf ((b.drop (n + 4)).take 4) : Nat) : Int) != ((sum (b.take (n + 4)) : Nat) : Int)) = false := by
    rw [Decidable.not_not.1 h5]; simp
  have hmk : ∀ u : World, (Instr.makeSlice 54 (.int .i64 (n : Int)) (.int .i64 (n : Int))).run Try.prog u = .ok (.slice (some ⟨u.heap.size, 0, none⟩) n n) (u.alloc (.cells (madeCells #[.int .u8 0] n) 5)) := fun u => make_octs (n := n) (by omega) u
  have om := own_made w3 n (by rw [show maxLen = 9223372036854775807 from rfl]; omega)
  obtain ⟨w4, hw4⟩ : ∃ w4, w4 = w3.alloc (.cells (madeCells #[.int .u8 0] n) 5) := ⟨_, rfl⟩
  rw [← hw4] at om
  have b4 : Below w3.heap.size w3 w4 := by rw [hw4]; exact (Below.refl _ _).alloc (Nat.le_refl _) _
  have c4 := c3.trans (b4.mono c3.size)
  have rC4 := rC.to b4
  have hz4 := (b4.block w.heap.size (by omega)).trans hz3
  have t4 := (b4.cell (p := ⟨b1, o1 + 1, none⟩) (cell_lt t3)).trans t3
  have OM := hide om
  have RC := hide rC4
  have HZ := hide hz4
  have HC := hide c4
  have T4 := hide t4
  have KEEP : Hid (∀ w5, Below w3.heap.size w4 w5 → w5.cell? ⟨b1, o1 + 1, none⟩ = some (.int .u8 (bt b 1)) ∧ w5.cell? ⟨w.heap.size, 0, none⟩ = some (.int .u8 0) ∧ w5.cell? ⟨w.heap.size, 1, none⟩ = some (.slice none 0 0) ∧ w5.frozen? ⟨w.heap.size, 0, none⟩ = false ∧ w5.frozen? ⟨w.heap.size, 1, none⟩ = false ∧ Hid (w5.heap[w.heap.size]? = some (.cells #[.int .u8 0, .slice none 0 0] 89 (0, 0))) ∧ Hid (Below w.heap.size w w5)) := by
    intro w5 hb
    have hg5 := (hb.block w.heap.size (by omega)).trans hz4
    exact ⟨(hb.cell (p := ⟨b1, o1 + 1, none⟩) (cell_lt t3)).trans t4, by rw [cell_of_row _ _ 0 _ _ (0, 0) hg5]; rfl, by rw [cell_of_row _ _ 1 _ _ (0, 0) hg5]; rfl, frozen_of_row _ _ 0 _ _ hg5, frozen_of_row _ _ 1 _ _ hg5, hg5, c4.trans (hb.mono (by omega))⟩
  have hdl : ((b.drop 4).take n).length = n := by simp; omega
  have ho : over (List.replicate n 0) ((b.drop 4).take n) = (b.drop 4).take n := over_all (by rw [hdl]; simp)
  have HO := hide ho
  have HDL := hide hdl
  have q1 : (1 : Int) < (b.length : Int) := by omega
  have y6 : (4 : Int) ≤ (n : Int) + 4 := by omega
  have y7 : ¬ cap = 4 := by omega
  clear hF0 h5 t3 t4 rC rC4 hz3 hz4 c3 c4 b4 om ho hdl
  generalize numOf ((b.drop (n + 4)).take 4) = N at *
  generalize sum (b.take (n + 4)) = S at *
  obtain ⟨w5, hrun, o5, b5, _⟩ := run_copy_octs 3 OM.out RC.out
  rw [HO.out] at o5
  rw [HDL.out, hw4] at hrun
  have hmn : Nat.min n (List.replicate n (0 : UInt8)).length = n := by simp
  rw [hmn] at hrun
  obtain ⟨k1, k2, k3, k4, k5, K6, K7⟩ := KEEP.out w5 b5
  have hsz5 : w.heap.size < w3.heap.size := by omega
  have O6 := hide (own_set (own_set o5 (g := w.heap.size) hsz5 0 (.int .u8 (bt b 1))) (g := w.heap.size) hsz5 1 (.slice (some ⟨w3.heap.size, 0, none⟩) n n))
  replace hw4 := hide hw4
  clear OM RC HZ HC T4 KEEP b5 hmn o5
  go_wp2
  refine ret_frame rfl rfl w.heap.size rfl _ _ _ _ (heap_set2 K6.out _ _) _ Try.underlying89 rfl frame_info_p _ _ rfl rfl ?_
  rw [hF.out]
  exact ⟨_, rfl, O6.out.mono (by omega), below_set2 K7.out (Nat.le_refl _) _ _⟩

end Go.Proofs.Ytlnoancjegifnaa
