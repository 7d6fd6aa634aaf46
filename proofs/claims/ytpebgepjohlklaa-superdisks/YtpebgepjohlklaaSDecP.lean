/-
  Decode of a superblock: the program's.
-/
import Derived.Test.YtpebgepjohlklaaSDecA
namespace Go.Proofs.Ytpebgepjohlklaa
open Go.RowKit
set_option linter.unusedVariables false

def snv (x : List UInt8) (K j : Nat) : Int := if j < K then (snum x j : Nat) else 0
def dcs (x : List UInt8) (K : Nat) : Array Value := #[.int .i64 (snv x K 0), .int .i64 (snv x K 1), .int .i64 (snv x K 2), .int .i64 (snv x K 3), .int .i64 (snv x K 4)]
theorem sdec_oct {x : List UInt8} (h : soct x ≠ 0) : sdec x = (bzero, soct x) := if_pos h
theorem sdec_4 {x : List UInt8} (h : soct x = 0) {i : Nat} (hi : i < 5) (hn : 1099511627776 < snum x i) : sdec x = (bzero, 4) := by
  unfold sdec; rw [if_neg (fun k => k h), if_pos (fun k => by have := k i hi; omega)]
theorem sdec_0 {x : List UInt8} (h : soct x = 0) (hf : sfit x) : sdec x = (sblk x, 0) := by
  unfold sdec; rw [if_neg (fun k => k h), if_neg (fun k => k hf)]
theorem wrap_i64_nat (n : Nat) (h : n ≤ 1099511627776) : IntKind.i64.wrap (n : Int) = (n : Int) := by rw [IntKind.wrap_i64]; omega
/-- in the loop: the answer's block still zeros, the numbers read so far -/
def DInv (w : World) (gR gD tR tD : Nat) (x : List UInt8) (K : Nat) (wr : World) : Prop :=
  Below w.heap.size w wr ∧ wr.heap[gR]? = some (.cells #[.int .i64 0, .int .i64 0, .int .i64 0, .int .i64 0, .int .i64 0] tR (0, 0)) ∧ wr.heap[gD]? = some (.cells (dcs x K) tD (0, 0)) ∧ ∀ i, i < K → snum x i ≤ 1099511627776
set_option maxRecDepth 100000 in
set_option maxHeartbeats 4000000 in
theorem pdecode_any (w : World) (v : Value) (x : List UInt8) (hx : Rd w v x) : Calls Try.prog 10 #[v] w fun e w' => e = .returned (.tuple #[.agg #[.int .i64 (sdec x).1.1, .int .i64 (sdec x).1.2.1, .int .i64 (sdec x).1.2.2.1, .int .i64 (sdec x).1.2.2.2.1, .int .i64 (sdec x).1.2.2.2.2], .int .i64 (sdec x).2]) ∧ Below w.heap.size w w' := by
  obtain ⟨a, c, hv⟩ := hx.slice
  obtain ⟨X, hX, X0, bX, sX⟩ := boxedN w #[.int .i64 0, .int .i64 0, .int .i64 0, .int .i64 0, .int .i64 0] 28
  have KO := hide (checkOctets_any X _ x (hx.to bX))
  rw [hv] at KO ⊢
  obtain ⟨E, hE⟩ : ∃ E, E = soct x := ⟨_, rfl⟩
  rw [← hE] at KO
  go_enter Try.func10, Try.ntmps10
  go_wp2_with fail
  rw [← hX]
  replace hX := hide hX
  refine KO.out.mono ?_
  rintro e w1 ⟨rfl, b1⟩
  clear KO
  have c1 := bX.trans (b1.mono bX.size)
  have X1 : w1.heap[w.heap.size]? = _ := (b1.block _ (by omega)).trans X0
  obtain ⟨⟨r0, r1, r2, r3, r4⟩, rf⟩ := cells5 X1
  have f0 := rf 0
  have f1 := rf 1
  have f2 := rf 2
  have f3 := rf 3
  have f4 := rf 4
  by_cases h0 : E = 0
  · have ho : soct x = 0 := by rw [← hE]; exact h0
    obtain ⟨bb, oo, cc, hv2, hc, hcm, hRR⟩ := rd64 hx (soct_zero ho).1
    rw [hv] at hv2
    simp only [Value.slice.injEq] at hv2
    obtain ⟨rfl, hl64, rfl⟩ := hv2
    subst h0
    obtain ⟨Y, hY, Y0, bY, sY⟩ := boxedN w1 #[.int .i64 0, .int .i64 0, .int .i64 0, .int .i64 0, .int .i64 0] 28
    have X2 := (bY.block _ (lt_of_block X1)).trans X1
    have c2 := c1.trans (bY.mono c1.size)
    obtain ⟨gD, hgD⟩ : ∃ g, g = w1.heap.size := ⟨_, rfl⟩
    have hgR : w.heap.size < gD := by rw [hgD]; exact lt_of_block X1
    rw [← hgD] at Y0
    replace c2 := hide c2
    replace X2 := hide X2
    replace Y0 := hide Y0
    replace ho := hide ho
    clear X0 bX b1 X1 c1 bY r0 r1 r2 r3 r4 f0 f1 f2 f3 f4 rf hE
    go_wp2_with fail
    rw [← hY, ← hgD]
    replace hY := hide hY
    replace hgD := hide hgD
    refine (numbersOf_any Y gD).mono ?_
    rintro e w2 ⟨rfl, b2⟩
    have I0 : Hid (DInv w w.heap.size gD 28 28 x 0 w2) := ⟨c2.out.trans (b2.mono c2.out.size), (b2.block _ (lt_of_block X2.out)).trans X2.out, (b2.block _ (lt_of_block Y0.out)).trans Y0.out, fun i hi => by omega⟩
    clear b2 c2 X2 Y0

    have ix0 := fun u => idx0 (.pointer (some ⟨gD, 0, none⟩)) (.pointer (some ⟨gD, 1, none⟩)) (.pointer (some ⟨gD, 2, none⟩)) (.pointer (some ⟨gD, 3, none⟩)) (.pointer (some ⟨gD, 4, none⟩)) u
    have ix1 := fun u => idx1 (.pointer (some ⟨gD, 0, none⟩)) (.pointer (some ⟨gD, 1, none⟩)) (.pointer (some ⟨gD, 2, none⟩)) (.pointer (some ⟨gD, 3, none⟩)) (.pointer (some ⟨gD, 4, none⟩)) u
    have ix2 := fun u => idx2 (.pointer (some ⟨gD, 0, none⟩)) (.pointer (some ⟨gD, 1, none⟩)) (.pointer (some ⟨gD, 2, none⟩)) (.pointer (some ⟨gD, 3, none⟩)) (.pointer (some ⟨gD, 4, none⟩)) u
    have ix3 := fun u => idx3 (.pointer (some ⟨gD, 0, none⟩)) (.pointer (some ⟨gD, 1, none⟩)) (.pointer (some ⟨gD, 2, none⟩)) (.pointer (some ⟨gD, 3, none⟩)) (.pointer (some ⟨gD, 4, none⟩)) u
    have ix4 := fun u => idx4 (.pointer (some ⟨gD, 0, none⟩)) (.pointer (some ⟨gD, 1, none⟩)) (.pointer (some ⟨gD, 2, none⟩)) (.pointer (some ⟨gD, 3, none⟩)) (.pointer (some ⟨gD, 4, none⟩)) u
    go_wp2
    go_loopw [18] (fun i wr => ∃ K : Nat, K ≤ 5 ∧ i = .int .i64 K ∧ Hid (DInv w w.heap.size gD 28 28 x K wr)) (fun i _ => 5 - (intOf i).toNat)
    case atStart => exact ⟨0, by omega, rfl, I0⟩
    case round =>
      obtain ⟨K, hK, rfl, hI⟩ := hrel
      clear I0
      have hcases : K = 0 ∨ K = 1 ∨ K = 2 ∨ K = 3 ∨ K = 4 ∨ K = 5 := by omega
      rcases hcases with rfl | rfl | rfl | rfl | rfl | rfl
      · have hq : (12 : Int) ≤ (c : Int) := by omega
        have hn : ¬ c = 4 := by omega
        have KG := hide (get_yes wr _ _ ((hRR 4 12 (by omega) (by omega)).to hI.out.1) (by rw [List.length_drop, List.length_take]; omega) (by rw [List.length_drop, List.length_take]; omega))
        obtain ⟨N, hN⟩ : ∃ N, N = numOf ((x.take 12).drop 4) := ⟨_, rfl⟩
        have hNs : snum x 0 = N := hN.symm
        rw [← hN] at KG
        replace hN := hide hN
        replace hNs := hide hNs
        go_wp2_with fail
        refine KG.out.mono ?_
        rintro e w5 ⟨rfl, b5⟩
        clear KG
        have c5 := hI.out.1.trans (b5.mono hI.out.1.size)
        have R5 := (b5.block _ (lt_of_block hI.out.2.1)).trans hI.out.2.1
        have D5 : w5.heap[gD]? = some (.cells #[.int .i64 0, .int .i64 0, .int .i64 0, .int .i64 0, .int .i64 0] 28 (0, 0)) := (b5.block _ (lt_of_block hI.out.2.2.1)).trans hI.out.2.2.1
        have hfit := hide hI.out.2.2.2
        clear hI b5
        by_cases hm : N ≤ 1099511627776
        · have hmI : ¬ (1099511627776 : Int) < (N : Int) := by omega
          have hwr := wrap_i64_nat N hm
          obtain ⟨⟨z0, z1, z2, z3, z4⟩, zf⟩ := cells5 D5
          have g0 := zf 0
          have FIN : Hid (DInv w w.heap.size gD 28 28 x (0 + 1) (w5.setCell ⟨gD, 0, none⟩ (.int .i64 (N : Int)))) := by
            refine ⟨c5.setCell (p := ⟨gD, 0, none⟩) (Nat.le_of_lt hgR) _, ?_, ?_, fun j hj => ?_⟩
            · rw [Below.heap_setCell _ _ _ _ (Nat.ne_of_lt hgR)]; exact R5
            · show (_ : Option Obj) = some (Obj.cells #[.int .i64 ((snum x 0 : Nat) : Int), .int .i64 0, .int .i64 0, .int .i64 0, .int .i64 0] 28 (0, 0))
              rw [hNs.out]
              simp [World.setCell, Array.getElem?_modify, D5]
            · by_cases hj' : j = 0
              · subst hj'; rw [hNs.out]; exact hm
              · exact hfit.out j (by omega)
          clear R5 D5 c5 zf
          go_wp2
          go_roundw
          case rel => exact ⟨0 + 1, by omega, by go_num, FIN⟩
          case measure => simp [intOf]
        · have hmI : (1099511627776 : Int) < (N : Int) := by omega
          have hS := hide (sdec_4 ho.out (i := 0) (by omega) (by rw [hNs.out]; omega))
          obtain ⟨⟨r0, r1, r2, r3, r4⟩, rf⟩ := cells5 R5
          have f0 := rf 0
          have f1 := rf 1
          have f2 := rf 2
          have f3 := rf 3
          have f4 := rf 4
          go_wp2
          refine retNT rfl rfl w.heap.size rfl _ _ (0, 0) (heap_set5 (u := w5) R5 _ _ _ _ _) _ Try.underlying28 rfl infoBk _ rfl ?_
          rw [hS.out]
          exact ⟨rfl, below_set5 c5 (Nat.le_refl _) _ _ _ _ _⟩
      · have hq : (20 : Int) ≤ (c : Int) := by omega
        have hn : ¬ c = 12 := by omega
        have KG := hide (get_yes wr _ _ ((hRR 12 20 (by omega) (by omega)).to hI.out.1) (by rw [List.length_drop, List.length_take]; omega) (by rw [List.length_drop, List.length_take]; omega))
        obtain ⟨N, hN⟩ : ∃ N, N = numOf ((x.take 20).drop 12) := ⟨_, rfl⟩
        have hNs : snum x 1 = N := hN.symm
        rw [← hN] at KG
        replace hN := hide hN
        replace hNs := hide hNs
        go_wp2_with fail
        refine KG.out.mono ?_
        rintro e w5 ⟨rfl, b5⟩
        clear KG
        have c5 := hI.out.1.trans (b5.mono hI.out.1.size)
        have R5 := (b5.block _ (lt_of_block hI.out.2.1)).trans hI.out.2.1
        have D5 : w5.heap[gD]? = some (.cells #[.int .i64 ((snum x 0 : Nat) : Int), .int .i64 0, .int .i64 0, .int .i64 0, .int .i64 0] 28 (0, 0)) := (b5.block _ (lt_of_block hI.out.2.2.1)).trans hI.out.2.2.1
        have hfit := hide hI.out.2.2.2
        clear hI b5
        by_cases hm : N ≤ 1099511627776
        · have hmI : ¬ (1099511627776 : Int) < (N : Int) := by omega
          have hwr := wrap_i64_nat N hm
          obtain ⟨⟨z0, z1, z2, z3, z4⟩, zf⟩ := cells5 D5
          have g0 := zf 1
          have FIN : Hid (DInv w w.heap.size gD 28 28 x (1 + 1) (w5.setCell ⟨gD, 1, none⟩ (.int .i64 (N : Int)))) := by
            refine ⟨c5.setCell (p := ⟨gD, 1, none⟩) (Nat.le_of_lt hgR) _, ?_, ?_, fun j hj => ?_⟩
            · rw [Below.heap_setCell _ _ _ _ (Nat.ne_of_lt hgR)]; exact R5
            · show (_ : Option Obj) = some (Obj.cells #[.int .i64 ((snum x 0 : Nat) : Int), .int .i64 ((snum x 1 : Nat) : Int), .int .i64 0, .int .i64 0, .int .i64 0] 28 (0, 0))
              rw [hNs.out]
              simp [World.setCell, Array.getElem?_modify, D5]
            · by_cases hj' : j = 1
              · subst hj'; rw [hNs.out]; exact hm
              · exact hfit.out j (by omega)
          clear R5 D5 c5 zf
          go_wp2
          go_roundw
          case rel => exact ⟨1 + 1, by omega, by go_num, FIN⟩
          case measure => simp [intOf]
        · have hmI : (1099511627776 : Int) < (N : Int) := by omega
          have hS := hide (sdec_4 ho.out (i := 1) (by omega) (by rw [hNs.out]; omega))
          obtain ⟨⟨r0, r1, r2, r3, r4⟩, rf⟩ := cells5 R5
          have f0 := rf 0
          have f1 := rf 1
          have f2 := rf 2
          have f3 := rf 3
          have f4 := rf 4
          go_wp2
          refine retNT rfl rfl w.heap.size rfl _ _ (0, 0) (heap_set5 (u := w5) R5 _ _ _ _ _) _ Try.underlying28 rfl infoBk _ rfl ?_
          rw [hS.out]
          exact ⟨rfl, below_set5 c5 (Nat.le_refl _) _ _ _ _ _⟩
      · have hq : (28 : Int) ≤ (c : Int) := by omega
        have hn : ¬ c = 20 := by omega
        have KG := hide (get_yes wr _ _ ((hRR 20 28 (by omega) (by omega)).to hI.out.1) (by rw [List.length_drop, List.length_take]; omega) (by rw [List.length_drop, List.length_take]; omega))
        obtain ⟨N, hN⟩ : ∃ N, N = numOf ((x.take 28).drop 20) := ⟨_, rfl⟩
        have hNs : snum x 2 = N := hN.symm
        rw [← hN] at KG
        replace hN := hide hN
        replace hNs := hide hNs
        go_wp2_with fail
        refine KG.out.mono ?_
        rintro e w5 ⟨rfl, b5⟩
        clear KG
        have c5 := hI.out.1.trans (b5.mono hI.out.1.size)
        have R5 := (b5.block _ (lt_of_block hI.out.2.1)).trans hI.out.2.1
        have D5 : w5.heap[gD]? = some (.cells #[.int .i64 ((snum x 0 : Nat) : Int), .int .i64 ((snum x 1 : Nat) : Int), .int .i64 0, .int .i64 0, .int .i64 0] 28 (0, 0)) := (b5.block _ (lt_of_block hI.out.2.2.1)).trans hI.out.2.2.1
        have hfit := hide hI.out.2.2.2
        clear hI b5
        by_cases hm : N ≤ 1099511627776
        · have hmI : ¬ (1099511627776 : Int) < (N : Int) := by omega
          have hwr := wrap_i64_nat N hm
          obtain ⟨⟨z0, z1, z2, z3, z4⟩, zf⟩ := cells5 D5
          have g0 := zf 2
          have FIN : Hid (DInv w w.heap.size gD 28 28 x (2 + 1) (w5.setCell ⟨gD, 2, none⟩ (.int .i64 (N : Int)))) := by
            refine ⟨c5.setCell (p := ⟨gD, 2, none⟩) (Nat.le_of_lt hgR) _, ?_, ?_, fun j hj => ?_⟩
            · rw [Below.heap_setCell _ _ _ _ (Nat.ne_of_lt hgR)]; exact R5
            · show (_ : Option Obj) = some (Obj.cells #[.int .i64 ((snum x 0 : Nat) : Int), .int .i64 ((snum x 1 : Nat) : Int), .int .i64 ((snum x 2 : Nat) : Int), .int .i64 0, .int .i64 0] 28 (0, 0))
              rw [hNs.out]
              simp [World.setCell, Array.getElem?_modify, D5]
            · by_cases hj' : j = 2
              · subst hj'; rw [hNs.out]; exact hm
              · exact hfit.out j (by omega)
          clear R5 D5 c5 zf
          go_wp2
          go_roundw
          case rel => exact ⟨2 + 1, by omega, by go_num, FIN⟩
          case measure => simp [intOf]
        · have hmI : (1099511627776 : Int) < (N : Int) := by omega
          have hS := hide (sdec_4 ho.out (i := 2) (by omega) (by rw [hNs.out]; omega))
          obtain ⟨⟨r0, r1, r2, r3, r4⟩, rf⟩ := cells5 R5
          have f0 := rf 0
          have f1 := rf 1
          have f2 := rf 2
          have f3 := rf 3
          have f4 := rf 4
          go_wp2
          refine retNT rfl rfl w.heap.size rfl _ _ (0, 0) (heap_set5 (u := w5) R5 _ _ _ _ _) _ Try.underlying28 rfl infoBk _ rfl ?_
          rw [hS.out]
          exact ⟨rfl, below_set5 c5 (Nat.le_refl _) _ _ _ _ _⟩
      · have hq : (36 : Int) ≤ (c : Int) := by omega
        have hn : ¬ c = 28 := by omega
        have KG := hide (get_yes wr _ _ ((hRR 28 36 (by omega) (by omega)).to hI.out.1) (by rw [List.length_drop, List.length_take]; omega) (by rw [List.length_drop, List.length_take]; omega))
        obtain ⟨N, hN⟩ : ∃ N, N = numOf ((x.take 36).drop 28) := ⟨_, rfl⟩
        have hNs : snum x 3 = N := hN.symm
        rw [← hN] at KG
        replace hN := hide hN
        replace hNs := hide hNs
        go_wp2_with fail
        refine KG.out.mono ?_
        rintro e w5 ⟨rfl, b5⟩
        clear KG
        have c5 := hI.out.1.trans (b5.mono hI.out.1.size)
        have R5 := (b5.block _ (lt_of_block hI.out.2.1)).trans hI.out.2.1
        have D5 : w5.heap[gD]? = some (.cells #[.int .i64 ((snum x 0 : Nat) : Int), .int .i64 ((snum x 1 : Nat) : Int), .int .i64 ((snum x 2 : Nat) : Int), .int .i64 0, .int .i64 0] 28 (0, 0)) := (b5.block _ (lt_of_block hI.out.2.2.1)).trans hI.out.2.2.1
        have hfit := hide hI.out.2.2.2
        clear hI b5
        by_cases hm : N ≤ 1099511627776
        · have hmI : ¬ (1099511627776 : Int) < (N : Int) := by omega
          have hwr := wrap_i64_nat N hm
          obtain ⟨⟨z0, z1, z2, z3, z4⟩, zf⟩ := cells5 D5
          have g0 := zf 3
          have FIN : Hid (DInv w w.heap.size gD 28 28 x (3 + 1) (w5.setCell ⟨gD, 3, none⟩ (.int .i64 (N : Int)))) := by
            refine ⟨c5.setCell (p := ⟨gD, 3, none⟩) (Nat.le_of_lt hgR) _, ?_, ?_, fun j hj => ?_⟩
            · rw [Below.heap_setCell _ _ _ _ (Nat.ne_of_lt hgR)]; exact R5
            · show (_ : Option Obj) = some (Obj.cells #[.int .i64 ((snum x 0 : Nat) : Int), .int .i64 ((snum x 1 : Nat) : Int), .int .i64 ((snum x 2 : Nat) : Int), .int .i64 ((snum x 3 : Nat) : Int), .int .i64 0] 28 (0, 0))
              rw [hNs.out]
              simp [World.setCell, Array.getElem?_modify, D5]
            · by_cases hj' : j = 3
              · subst hj'; rw [hNs.out]; exact hm
              · exact hfit.out j (by omega)
          clear R5 D5 c5 zf
          go_wp2
          go_roundw
          case rel => exact ⟨3 + 1, by omega, by go_num, FIN⟩
          case measure => simp [intOf]
        · have hmI : (1099511627776 : Int) < (N : Int) := by omega
          have hS := hide (sdec_4 ho.out (i := 3) (by omega) (by rw [hNs.out]; omega))
          obtain ⟨⟨r0, r1, r2, r3, r4⟩, rf⟩ := cells5 R5
          have f0 := rf 0
          have f1 := rf 1
          have f2 := rf 2
          have f3 := rf 3
          have f4 := rf 4
          go_wp2
          refine retNT rfl rfl w.heap.size rfl _ _ (0, 0) (heap_set5 (u := w5) R5 _ _ _ _ _) _ Try.underlying28 rfl infoBk _ rfl ?_
          rw [hS.out]
          exact ⟨rfl, below_set5 c5 (Nat.le_refl _) _ _ _ _ _⟩
      · have hq : (44 : Int) ≤ (c : Int) := by omega
        have hn : ¬ c = 36 := by omega
        have KG := hide (get_yes wr _ _ ((hRR 36 44 (by omega) (by omega)).to hI.out.1) (by rw [List.length_drop, List.length_take]; omega) (by rw [List.length_drop, List.length_take]; omega))
        obtain ⟨N, hN⟩ : ∃ N, N = numOf ((x.take 44).drop 36) := ⟨_, rfl⟩
        have hNs : snum x 4 = N := hN.symm
        rw [← hN] at KG
        replace hN := hide hN
        replace hNs := hide hNs
        go_wp2_with fail
        refine KG.out.mono ?_
        rintro e w5 ⟨rfl, b5⟩
        clear KG
        have c5 := hI.out.1.trans (b5.mono hI.out.1.size)
        have R5 := (b5.block _ (lt_of_block hI.out.2.1)).trans hI.out.2.1
        have D5 : w5.heap[gD]? = some (.cells #[.int .i64 ((snum x 0 : Nat) : Int), .int .i64 ((snum x 1 : Nat) : Int), .int .i64 ((snum x 2 : Nat) : Int), .int .i64 ((snum x 3 : Nat) : Int), .int .i64 0] 28 (0, 0)) := (b5.block _ (lt_of_block hI.out.2.2.1)).trans hI.out.2.2.1
        have hfit := hide hI.out.2.2.2
        clear hI b5
        by_cases hm : N ≤ 1099511627776
        · have hmI : ¬ (1099511627776 : Int) < (N : Int) := by omega
          have hwr := wrap_i64_nat N hm
          obtain ⟨⟨z0, z1, z2, z3, z4⟩, zf⟩ := cells5 D5
          have g0 := zf 4
          have FIN : Hid (DInv w w.heap.size gD 28 28 x (4 + 1) (w5.setCell ⟨gD, 4, none⟩ (.int .i64 (N : Int)))) := by
            refine ⟨c5.setCell (p := ⟨gD, 4, none⟩) (Nat.le_of_lt hgR) _, ?_, ?_, fun j hj => ?_⟩
            · rw [Below.heap_setCell _ _ _ _ (Nat.ne_of_lt hgR)]; exact R5
            · show (_ : Option Obj) = some (Obj.cells #[.int .i64 ((snum x 0 : Nat) : Int), .int .i64 ((snum x 1 : Nat) : Int), .int .i64 ((snum x 2 : Nat) : Int), .int .i64 ((snum x 3 : Nat) : Int), .int .i64 ((snum x 4 : Nat) : Int)] 28 (0, 0))
              rw [hNs.out]
              simp [World.setCell, Array.getElem?_modify, D5]
            · by_cases hj' : j = 4
              · subst hj'; rw [hNs.out]; exact hm
              · exact hfit.out j (by omega)
          clear R5 D5 c5 zf
          go_wp2
          go_roundw
          case rel => exact ⟨4 + 1, by omega, by go_num, FIN⟩
          case measure => simp [intOf]
        · have hmI : (1099511627776 : Int) < (N : Int) := by omega
          have hS := hide (sdec_4 ho.out (i := 4) (by omega) (by rw [hNs.out]; omega))
          obtain ⟨⟨r0, r1, r2, r3, r4⟩, rf⟩ := cells5 R5
          have f0 := rf 0
          have f1 := rf 1
          have f2 := rf 2
          have f3 := rf 3
          have f4 := rf 4
          go_wp2
          refine retNT rfl rfl w.heap.size rfl _ _ (0, 0) (heap_set5 (u := w5) R5 _ _ _ _ _) _ Try.underlying28 rfl infoBk _ rfl ?_
          rw [hS.out]
          exact ⟨rfl, below_set5 c5 (Nat.le_refl _) _ _ _ _ _⟩
      · have R5 := hI.out.2.1
        have D5 : wr.heap[gD]? = some (.cells #[.int .i64 ((snum x 0 : Nat) : Int), .int .i64 ((snum x 1 : Nat) : Int), .int .i64 ((snum x 2 : Nat) : Int), .int .i64 ((snum x 3 : Nat) : Int), .int .i64 ((snum x 4 : Nat) : Int)] 28 (0, 0)) := hI.out.2.2.1
        have c5 := hI.out.1
        have hS := hide (sdec_0 ho.out (fun i hi => hI.out.2.2.2 i hi))
        obtain ⟨⟨z0, z1, z2, z3, z4⟩, _⟩ := cells5 D5
        obtain ⟨⟨r0, r1, r2, r3, r4⟩, rf⟩ := cells5 R5
        have f0 := rf 0
        have f1 := rf 1
        have f2 := rf 2
        have f3 := rf 3
        have f4 := rf 4
        go_wp2
        refine retNT rfl rfl w.heap.size rfl _ _ (0, 0) (heap_set5 (u := wr) R5 _ _ _ _ _) _ Try.underlying28 rfl infoBk _ rfl ?_
        rw [hS.out]
        exact ⟨rfl, below_set5 c5 (Nat.le_refl _) _ _ _ _ _⟩
  · have hbe : (E != 0) = true := by simpa using h0
    have hS := hide (sdec_oct (x := x) (by rw [← hE]; exact h0))
    replace h0 := hide h0
    have hE' := hide hE
    clear hE
    go_wp2
    refine retNT rfl rfl w.heap.size rfl _ _ (0, 0) (heap_set5 (u := w1) X1 _ _ _ _ _) _ Try.underlying28 rfl infoBk _ rfl ?_
    rw [hS.out]
    exact ⟨by rw [← hE'.out]; rfl, below_set5 c1 (Nat.le_refl _) _ _ _ _ _⟩

end Go.Proofs.Ytpebgepjohlklaa
