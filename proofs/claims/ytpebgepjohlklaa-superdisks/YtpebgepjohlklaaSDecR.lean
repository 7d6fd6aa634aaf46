/-
  Decode of a superblock: the page's.
-/
import Derived.Deep.CutRange
import Derived.Test.YtpebgepjohlklaaSDecP
namespace Go.Proofs.Ytpebgepjohlklaa
open Go.RowKit
set_option linter.unusedVariables false

theorem snumTo_inj (xs ys : List UInt8) (k : Nat) (h : numTo xs k = numTo ys k) : ∀ i, i < k → xs.getD i 0 = ys.getD i 0 := by
  induction k with
  | zero => intro i hi; omega
  | succ k ih =>
    simp only [numTo] at h
    have h1 := (xs.getD k 0).toNat_lt
    have h2 := (ys.getD k 0).toNat_lt
    intro i hi
    by_cases e : i = k
    · subst e; exact UInt8.toNat_inj.1 (by omega)
    · exact ih (by omega) i (by omega)
theorem snumOf_inj {xs ys : List UInt8} (hl : xs.length = ys.length) (h : numOf xs = numOf ys) : xs = ys := by
  unfold numOf at h
  rw [hl] at h
  apply List.ext_getElem hl
  intro i h1 h2
  have := snumTo_inj xs ys ys.length h i h2
  simpa [h1, h2] using this
theorem num4_iff {xs : List UInt8} (hl : xs.length = 4) {n : Nat} (hn : n < M32) : numOf xs = n ↔ xs = oc n 4 := by
  unfold M32 at hn
  constructor
  · intro h
    exact snumOf_inj (by rw [hl, oc_length]) (by rw [numOf_oc _ _ (by omega)]; exact h)
  · intro h
    rw [h, numOf_oc _ _ (by omega)]
theorem tail_zero {x : List UInt8} (hl : x.length = 64) (h : ∀ j, 48 ≤ j → j < 64 → bt x j = 0) : x.drop 48 = List.replicate 16 0 := by
  apply List.ext_getElem
  · simp [hl]
  · intro i h1 h2
    have hi : i < 16 := by simpa using h2
    have := h (48 + i) (by omega) (by omega)
    unfold bt at this
    rw [List.getElem_drop, List.getElem_replicate]
    have e : x.getD (48 + i) 0 = x[48 + i]'(by omega) := by simp [List.getD_eq_getElem?_getD, show 48 + i < x.length by omega]
    rw [e] at this
    exact UInt8.toNat_inj.1 (by simpa using this)
theorem tail_not {x : List UInt8} (hl : x.length = 64) {k : Nat} (h1 : 48 ≤ k) (h2 : k < 64) (h : bt x k ≠ 0) : x.drop 48 ≠ List.replicate 16 0 := by
  intro e
  apply h
  have := congrArg (fun l => l.getD (k - 48) 0) e
  simp only [List.getD_eq_getElem?_getD, List.getElem?_drop, List.getElem?_replicate, show 48 + (k - 48) = k by omega, show k - 48 < 16 by omega] at this
  unfold bt
  rw [List.getD_eq_getElem?_getD, this]
  rfl
set_option maxRecDepth 100000 in
set_option maxHeartbeats 4000000 in
theorem rdecode_any (w : World) (v : Value) (x : List UInt8) (hx : Rd w v x) : Calls Try.prog 11 #[v] w fun e w' => e = .returned (.tuple #[.agg #[.int .i64 (sdec x).1.1, .int .i64 (sdec x).1.2.1, .int .i64 (sdec x).1.2.2.1, .int .i64 (sdec x).1.2.2.2.1, .int .i64 (sdec x).1.2.2.2.2], .int .i64 (sdec x).2]) ∧ Below w.heap.size w w' := by
  obtain ⟨X, hX, X0, bX, sX⟩ := boxedN w #[.int .i64 0, .int .i64 0, .int .i64 0, .int .i64 0, .int .i64 0] 23
  obtain ⟨⟨r0, r1, r2, r3, r4⟩, rf⟩ := cells5 X0
  have f0 := rf 0
  have f1 := rf 1
  have f2 := rf 2
  have f3 := rf 3
  have f4 := rf 4
  by_cases h1 : x.length = 64
  · have hxX := hx.to bX
    obtain ⟨b, o, c, hv, hc, hcm, hR⟩ := rd64 hxX h1
    have hCE : ∀ i, i < 64 → X.cell? ⟨b, o + i, none⟩ = some (.int .u8 (bt x i)) := by
      obtain ⟨a', c', e, l1, m1, n1, q1⟩ := hxX
      rw [hv] at e
      simp only [Value.slice.injEq] at e
      obtain ⟨rfl, _, rfl⟩ := e
      rcases q1 with q1 | ⟨b', o', e', hc'⟩
      · subst q1; simp at h1
      · simp only [Option.some.injEq, Addr.mk.injEq, and_true] at e'
        obtain ⟨rfl, rfl⟩ := e'
        intro i hi
        exact hc' i (by omega)
    rw [hv]
    have hRX := hide hR
    have k4 := conv_rd (show Rd X (.slice (some ⟨b, o, none⟩) 4 c) (x.take 4) by simpa using hR 0 4 (by omega) (by omega)) (by rw [List.length_take]; omega)
    have hq4 : (4 : Int) ≤ (c : Int) := by omega
    have hq44 : (44 : Int) ≤ (c : Int) := by omega
    have hq48 : (48 : Int) ≤ (c : Int) := by omega
    have hq64 : (64 : Int) ≤ (c : Int) := by omega
    have hn44 : ¬ c = 44 := by omega
    have hn48 : ¬ c = 48 := by omega
    replace hCE := hide hCE
    clear hR
    by_cases h2 : x.take 4 = smark
    · rw [h2] at k4
      have lS : ((x.take 48).drop 44).length = 4 := by rw [List.length_drop, List.length_take]; omega
      have KN : Hid (∀ u, Rd u (.slice (some ⟨b, o + 44, none⟩) 4 (c - 44)) ((x.take 48).drop 44) → Calls Try.prog 37 #[.slice (some ⟨b, o + 44, none⟩) 4 (c - 44)] u fun e w' => e = .returned (.int .u64 (numOf ((x.take 48).drop 44) : Nat)) ∧ w' = u) :=
        fun u h => (refNumber_any u _ _ h (by omega)).mono fun e w' h => ⟨h.1, h.2.symm⟩
      have KS : Hid (∀ u, Rd u (.slice (some ⟨b, o, none⟩) 44 c) (x.take 44) → Calls Try.prog 34 #[.slice (some ⟨b, o, none⟩) 44 c] u fun e w' => e = .returned (.int .u32 (sum (x.take 44) : Nat)) ∧ w' = u) :=
        fun u h => (psum_any u _ _ h (by rw [List.length_take]; omega)).mono fun e w' h => ⟨h.1, h.2.symm⟩
      have RN : Hid (Rd X (.slice (some ⟨b, o + 44, none⟩) 4 (c - 44)) ((x.take 48).drop 44)) := hRX.out 44 48 (by omega) (by omega)
      have RS : Hid (Rd X (.slice (some ⟨b, o, none⟩) 44 c) (x.take 44)) := by simpa using hide (hRX.out 0 44 (by omega) (by omega))
      have hwr := sum64 (x.take 44)
      have h3 := num4_iff lS (sum_lt (x.take 44))
      generalize hNe : numOf ((x.take 48).drop 44) = N at *
      generalize hSe : sum (x.take 44) = S at *
      replace h3 := hide h3
      replace hNe := hide hNe
      replace hSe := hide hSe
      have hx2 := hide h2
      have h1' := hide h1
      rw [hX] at r0 r1 r2 r3 r4
      clear h2 lS hx hxX h1 r0 r1 r2 r3 r4
      go_enter Try.func11, Try.ntmps11
      rw [hX] at k4
      go_wp2_with fail
      rw [← hX]
      rw [← hX] at k4
      replace hX := hide hX
      by_cases h4 : N = S
      · subst h4
        have hoc : Hid ((x.take 48).drop 44 = oc (sum (x.take 44)) 4) := by show _ = _; rw [hSe.out]; exact h3.out.1 rfl
        go_quiet (first | (go_at_call 37; exact Calls.quiet_of_same (KN.out _ (RN.out.drewN _))) | (go_at_call 34; exact Calls.quiet_of_same (KS.out _ (RS.out.drewN _))))
        clear k4 KN KS RN RS
        obtain ⟨w1, hw1⟩ : ∃ u, u = X.drewN nq := ⟨_, rfl⟩
        rw [← hw1]
        have b1 : Below X.heap.size X w1 := by rw [hw1]; exact below_drewN' X nq _
        have c1 := hide (bX.trans (b1.mono bX.size))
        have X1 : Hid (w1.heap[w.heap.size]? = _) := (b1.block _ (by omega)).trans X0
        have HC : Hid (∀ i, i < 64 → w1.cell? ⟨b, o + i, none⟩ = some (.int .u8 (bt x i))) := fun i hi => (b1.cell (cell_lt (hCE.out i hi))).trans (hCE.out i hi)
        have HR : Hid (∀ q te, q ≤ te → te ≤ 64 → Rd w1 (.slice (some ⟨b, o + q, none⟩) (te - q) (c - q)) ((x.take te).drop q)) := fun q te p1 p2 => (hRX.out q te p1 p2).to b1
        clear b1 hCE hRX X0 bX hw1 f0 f1 f2 f3 f4 rf
        go_wp2
        go_loopw [4] (fun i wr => ∃ k : Nat, 48 ≤ k ∧ k ≤ 64 ∧ i = .int .i64 k ∧ w1 = wr ∧ Hid (∀ j, 48 ≤ j → j < k → bt x j = 0)) (fun i _ => 64 - (intOf i).toNat)
        case atStart => exact ⟨48, by omega, by omega, rfl, rfl, hide (fun j p1 p2 => by omega)⟩
        case round =>
          obtain ⟨k, hk0, hk1, rfl, rfl, hZ⟩ := hrel
          by_cases hlt : k < 64
          · have hqk : (k : Int) < 64 := by omega
            have ck := HC.out k hlt
            obtain ⟨B, hB⟩ : ∃ B, B = bt x k := ⟨_, rfl⟩
            rw [← hB] at ck
            by_cases hb : B = 0
            · have hZ' : Hid (∀ j, 48 ≤ j → j < k + 1 → bt x j = 0) := fun j p1 p2 => by
                by_cases e : j = k
                · subst e; rw [← hB]; exact hb
                · exact hZ.out j p1 (by omega)
              subst hb
              replace hB := hide hB
              go_wp2
              go_roundw
              case rel => exact ⟨k + 1, by omega, by omega, by go_num, trivial, hZ'⟩
              case measure => simp [intOf]; omega
            · have hbe : (B != 0) = true := by simpa using hb
              have hS := hide (sdec_oct (x := x) (by rw [soct_23 h1'.out hx2.out hoc.out (tail_not h1'.out hk0 hlt (by rw [← hB]; exact hb))]; decide))
              rw [soct_23 h1'.out hx2.out hoc.out (tail_not h1'.out hk0 hlt (by rw [← hB]; exact hb))] at hS
              obtain ⟨⟨r0, r1, r2, r3, r4⟩, rf⟩ := cells5 X1.out
              have f0 := rf 0
              have f1 := rf 1
              have f2 := rf 2
              have f3 := rf 3
              have f4 := rf 4
              replace hb := hide hb
              replace hB := hide hB
              go_wp2
              refine retNT rfl rfl w.heap.size rfl _ _ (0, 0) (heap_set5 (u := w1) X1.out _ _ _ _ _) _ Try.underlying23 rfl infoBkR _ rfl ?_
              rw [hS.out]
              exact ⟨rfl, below_set5 c1.out (Nat.le_refl _) _ _ _ _ _⟩
          · have hqk : ¬ (k : Int) < 64 := by omega
            have ho := hide (soct_0 h1'.out hx2.out hoc.out (tail_zero h1'.out (fun j p1 p2 => hZ.out j p1 (by omega))))
            obtain ⟨Y, hY, Y0, bY, sY⟩ := boxedN w1 #[.int .i64 0, .int .i64 0, .int .i64 0, .int .i64 0, .int .i64 0] 83
            obtain ⟨gD, hgD⟩ : ∃ g, g = w1.heap.size := ⟨_, rfl⟩
            have hgR : w.heap.size < gD := by rw [hgD]; exact lt_of_block X1.out
            have I0 : Hid (DInv w w.heap.size gD 23 83 x 0 Y) := ⟨c1.out.trans (bY.mono c1.out.size), (bY.block _ (lt_of_block X1.out)).trans X1.out, by rw [hgD]; exact Y0, fun i hi => by omega⟩
            have HR2 := hide bY
            have hgD' : w1.heap.size ≤ gD := Nat.le_of_eq hgD.symm
            clear bY Y0 hZ HC
            go_wp2
            rw [← hY, ← hgD]
            replace hY := hide hY
            replace hgD := hide hgD
            go_loopw [6] (fun i wr => ∃ K : Nat, K ≤ 5 ∧ i = .int .i64 K ∧ Hid (DInv w w.heap.size gD 23 83 x K wr ∧ Below w1.heap.size w1 wr)) (fun i _ => 5 - (intOf i).toNat)
            case atStart => exact ⟨0, by omega, rfl, hide ⟨I0.out, HR2.out⟩⟩
            case round =>
              obtain ⟨K, hK, rfl, hI⟩ := hrel
              clear I0
              have hcases : K = 0 ∨ K = 1 ∨ K = 2 ∨ K = 3 ∨ K = 4 ∨ K = 5 := by omega
              rcases hcases with rfl | rfl | rfl | rfl | rfl | rfl
              · have hq : (12 : Int) ≤ (c : Int) := by omega
                have hn : ¬ c = 4 := by omega
                have KG := hide (refNumber_any wr _ _ ((HR.out 4 12 (by omega) (by omega)).to hI.out.2) (by rw [List.length_drop, List.length_take]; omega))
                obtain ⟨M, hM⟩ : ∃ M, M = numOf ((x.take 12).drop 4) := ⟨_, rfl⟩
                have hNs : snum x 0 = M := hM.symm
                rw [← hM] at KG
                replace hM := hide hM
                replace hNs := hide hNs
                go_wp2_with fail
                refine KG.out.mono ?_
                rintro e w' ⟨rfl, rfl⟩
                clear KG
                have c5 := hI.out.1.1
                have R5 := hI.out.1.2.1
                have D5 : wr.heap[gD]? = some (.cells #[.int .i64 0, .int .i64 0, .int .i64 0, .int .i64 0, .int .i64 0] 83 (0, 0)) := hI.out.1.2.2.1
                have hfit := hide hI.out.1.2.2.2
                by_cases hm : M ≤ 1099511627776
                · have hmI : ¬ (1099511627776 : Int) < (M : Int) := by omega
                  have hwr := wrap_i64_nat M hm
                  obtain ⟨⟨z0, z1, z2, z3, z4⟩, zf⟩ := cells5 D5
                  have g0 := zf 0
                  have FIN : Hid (DInv w w.heap.size gD 23 83 x (0 + 1) (wr.setCell ⟨gD, 0, none⟩ (.int .i64 (M : Int))) ∧ Below w1.heap.size w1 (wr.setCell ⟨gD, 0, none⟩ (.int .i64 (M : Int)))) := by
                    refine ⟨⟨c5.setCell (p := ⟨gD, 0, none⟩) (Nat.le_of_lt hgR) _, ?_, ?_, fun j hj => ?_⟩, hI.out.2.setCell (p := ⟨gD, 0, none⟩) hgD' _⟩
                    · rw [Below.heap_setCell _ _ _ _ (Nat.ne_of_lt hgR)]; exact R5
                    · show (_ : Option Obj) = some (Obj.cells #[.int .i64 ((snum x 0 : Nat) : Int), .int .i64 0, .int .i64 0, .int .i64 0, .int .i64 0] 83 (0, 0))
                      rw [hNs.out]
                      simp [World.setCell, Array.getElem?_modify, D5]
                    · by_cases hj' : j = 0
                      · subst hj'; rw [hNs.out]; exact hm
                      · exact hfit.out j (by omega)
                  clear R5 D5 c5 zf hI
                  go_wp2
                  go_roundw
                  case rel => exact ⟨0 + 1, by omega, by go_num, FIN⟩
                  case measure => simp [intOf]
                · have hmI : (1099511627776 : Int) < (M : Int) := by omega
                  have hS := hide (sdec_4 ho.out (i := 0) (by omega) (by rw [hNs.out]; omega))
                  obtain ⟨⟨r0, r1, r2, r3, r4⟩, rf⟩ := cells5 R5
                  have f0 := rf 0
                  have f1 := rf 1
                  have f2 := rf 2
                  have f3 := rf 3
                  have f4 := rf 4
                  clear hI
                  go_wp2
                  refine retNT rfl rfl w.heap.size rfl _ _ (0, 0) (heap_set5 (u := wr) R5 _ _ _ _ _) _ Try.underlying23 rfl infoBkR _ rfl ?_
                  rw [hS.out]
                  exact ⟨rfl, below_set5 c5 (Nat.le_refl _) _ _ _ _ _⟩
              · have hq : (20 : Int) ≤ (c : Int) := by omega
                have hn : ¬ c = 12 := by omega
                have KG := hide (refNumber_any wr _ _ ((HR.out 12 20 (by omega) (by omega)).to hI.out.2) (by rw [List.length_drop, List.length_take]; omega))
                obtain ⟨M, hM⟩ : ∃ M, M = numOf ((x.take 20).drop 12) := ⟨_, rfl⟩
                have hNs : snum x 1 = M := hM.symm
                rw [← hM] at KG
                replace hM := hide hM
                replace hNs := hide hNs
                go_wp2_with fail
                refine KG.out.mono ?_
                rintro e w' ⟨rfl, rfl⟩
                clear KG
                have c5 := hI.out.1.1
                have R5 := hI.out.1.2.1
                have D5 : wr.heap[gD]? = some (.cells #[.int .i64 ((snum x 0 : Nat) : Int), .int .i64 0, .int .i64 0, .int .i64 0, .int .i64 0] 83 (0, 0)) := hI.out.1.2.2.1
                have hfit := hide hI.out.1.2.2.2
                by_cases hm : M ≤ 1099511627776
                · have hmI : ¬ (1099511627776 : Int) < (M : Int) := by omega
                  have hwr := wrap_i64_nat M hm
                  obtain ⟨⟨z0, z1, z2, z3, z4⟩, zf⟩ := cells5 D5
                  have g0 := zf 1
                  have FIN : Hid (DInv w w.heap.size gD 23 83 x (1 + 1) (wr.setCell ⟨gD, 1, none⟩ (.int .i64 (M : Int))) ∧ Below w1.heap.size w1 (wr.setCell ⟨gD, 1, none⟩ (.int .i64 (M : Int)))) := by
                    refine ⟨⟨c5.setCell (p := ⟨gD, 1, none⟩) (Nat.le_of_lt hgR) _, ?_, ?_, fun j hj => ?_⟩, hI.out.2.setCell (p := ⟨gD, 1, none⟩) hgD' _⟩
                    · rw [Below.heap_setCell _ _ _ _ (Nat.ne_of_lt hgR)]; exact R5
                    · show (_ : Option Obj) = some (Obj.cells #[.int .i64 ((snum x 0 : Nat) : Int), .int .i64 ((snum x 1 : Nat) : Int), .int .i64 0, .int .i64 0, .int .i64 0] 83 (0, 0))
                      rw [hNs.out]
                      simp [World.setCell, Array.getElem?_modify, D5]
                    · by_cases hj' : j = 1
                      · subst hj'; rw [hNs.out]; exact hm
                      · exact hfit.out j (by omega)
                  clear R5 D5 c5 zf hI
                  go_wp2
                  go_roundw
                  case rel => exact ⟨1 + 1, by omega, by go_num, FIN⟩
                  case measure => simp [intOf]
                · have hmI : (1099511627776 : Int) < (M : Int) := by omega
                  have hS := hide (sdec_4 ho.out (i := 1) (by omega) (by rw [hNs.out]; omega))
                  obtain ⟨⟨r0, r1, r2, r3, r4⟩, rf⟩ := cells5 R5
                  have f0 := rf 0
                  have f1 := rf 1
                  have f2 := rf 2
                  have f3 := rf 3
                  have f4 := rf 4
                  clear hI
                  go_wp2
                  refine retNT rfl rfl w.heap.size rfl _ _ (0, 0) (heap_set5 (u := wr) R5 _ _ _ _ _) _ Try.underlying23 rfl infoBkR _ rfl ?_
                  rw [hS.out]
                  exact ⟨rfl, below_set5 c5 (Nat.le_refl _) _ _ _ _ _⟩
              · have hq : (28 : Int) ≤ (c : Int) := by omega
                have hn : ¬ c = 20 := by omega
                have KG := hide (refNumber_any wr _ _ ((HR.out 20 28 (by omega) (by omega)).to hI.out.2) (by rw [List.length_drop, List.length_take]; omega))
                obtain ⟨M, hM⟩ : ∃ M, M = numOf ((x.take 28).drop 20) := ⟨_, rfl⟩
                have hNs : snum x 2 = M := hM.symm
                rw [← hM] at KG
                replace hM := hide hM
                replace hNs := hide hNs
                go_wp2_with fail
                refine KG.out.mono ?_
                rintro e w' ⟨rfl, rfl⟩
                clear KG
                have c5 := hI.out.1.1
                have R5 := hI.out.1.2.1
                have D5 : wr.heap[gD]? = some (.cells #[.int .i64 ((snum x 0 : Nat) : Int), .int .i64 ((snum x 1 : Nat) : Int), .int .i64 0, .int .i64 0, .int .i64 0] 83 (0, 0)) := hI.out.1.2.2.1
                have hfit := hide hI.out.1.2.2.2
                by_cases hm : M ≤ 1099511627776
                · have hmI : ¬ (1099511627776 : Int) < (M : Int) := by omega
                  have hwr := wrap_i64_nat M hm
                  obtain ⟨⟨z0, z1, z2, z3, z4⟩, zf⟩ := cells5 D5
                  have g0 := zf 2
                  have FIN : Hid (DInv w w.heap.size gD 23 83 x (2 + 1) (wr.setCell ⟨gD, 2, none⟩ (.int .i64 (M : Int))) ∧ Below w1.heap.size w1 (wr.setCell ⟨gD, 2, none⟩ (.int .i64 (M : Int)))) := by
                    refine ⟨⟨c5.setCell (p := ⟨gD, 2, none⟩) (Nat.le_of_lt hgR) _, ?_, ?_, fun j hj => ?_⟩, hI.out.2.setCell (p := ⟨gD, 2, none⟩) hgD' _⟩
                    · rw [Below.heap_setCell _ _ _ _ (Nat.ne_of_lt hgR)]; exact R5
                    · show (_ : Option Obj) = some (Obj.cells #[.int .i64 ((snum x 0 : Nat) : Int), .int .i64 ((snum x 1 : Nat) : Int), .int .i64 ((snum x 2 : Nat) : Int), .int .i64 0, .int .i64 0] 83 (0, 0))
                      rw [hNs.out]
                      simp [World.setCell, Array.getElem?_modify, D5]
                    · by_cases hj' : j = 2
                      · subst hj'; rw [hNs.out]; exact hm
                      · exact hfit.out j (by omega)
                  clear R5 D5 c5 zf hI
                  go_wp2
                  go_roundw
                  case rel => exact ⟨2 + 1, by omega, by go_num, FIN⟩
                  case measure => simp [intOf]
                · have hmI : (1099511627776 : Int) < (M : Int) := by omega
                  have hS := hide (sdec_4 ho.out (i := 2) (by omega) (by rw [hNs.out]; omega))
                  obtain ⟨⟨r0, r1, r2, r3, r4⟩, rf⟩ := cells5 R5
                  have f0 := rf 0
                  have f1 := rf 1
                  have f2 := rf 2
                  have f3 := rf 3
                  have f4 := rf 4
                  clear hI
                  go_wp2
                  refine retNT rfl rfl w.heap.size rfl _ _ (0, 0) (heap_set5 (u := wr) R5 _ _ _ _ _) _ Try.underlying23 rfl infoBkR _ rfl ?_
                  rw [hS.out]
                  exact ⟨rfl, below_set5 c5 (Nat.le_refl _) _ _ _ _ _⟩
              · have hq : (36 : Int) ≤ (c : Int) := by omega
                have hn : ¬ c = 28 := by omega
                have KG := hide (refNumber_any wr _ _ ((HR.out 28 36 (by omega) (by omega)).to hI.out.2) (by rw [List.length_drop, List.length_take]; omega))
                obtain ⟨M, hM⟩ : ∃ M, M = numOf ((x.take 36).drop 28) := ⟨_, rfl⟩
                have hNs : snum x 3 = M := hM.symm
                rw [← hM] at KG
                replace hM := hide hM
                replace hNs := hide hNs
                go_wp2_with fail
                refine KG.out.mono ?_
                rintro e w' ⟨rfl, rfl⟩
                clear KG
                have c5 := hI.out.1.1
                have R5 := hI.out.1.2.1
                have D5 : wr.heap[gD]? = some (.cells #[.int .i64 ((snum x 0 : Nat) : Int), .int .i64 ((snum x 1 : Nat) : Int), .int .i64 ((snum x 2 : Nat) : Int), .int .i64 0, .int .i64 0] 83 (0, 0)) := hI.out.1.2.2.1
                have hfit := hide hI.out.1.2.2.2
                by_cases hm : M ≤ 1099511627776
                · have hmI : ¬ (1099511627776 : Int) < (M : Int) := by omega
                  have hwr := wrap_i64_nat M hm
                  obtain ⟨⟨z0, z1, z2, z3, z4⟩, zf⟩ := cells5 D5
                  have g0 := zf 3
                  have FIN : Hid (DInv w w.heap.size gD 23 83 x (3 + 1) (wr.setCell ⟨gD, 3, none⟩ (.int .i64 (M : Int))) ∧ Below w1.heap.size w1 (wr.setCell ⟨gD, 3, none⟩ (.int .i64 (M : Int)))) := by
                    refine ⟨⟨c5.setCell (p := ⟨gD, 3, none⟩) (Nat.le_of_lt hgR) _, ?_, ?_, fun j hj => ?_⟩, hI.out.2.setCell (p := ⟨gD, 3, none⟩) hgD' _⟩
                    · rw [Below.heap_setCell _ _ _ _ (Nat.ne_of_lt hgR)]; exact R5
                    · show (_ : Option Obj) = some (Obj.cells #[.int .i64 ((snum x 0 : Nat) : Int), .int .i64 ((snum x 1 : Nat) : Int), .int .i64 ((snum x 2 : Nat) : Int), .int .i64 ((snum x 3 : Nat) : Int), .int .i64 0] 83 (0, 0))
                      rw [hNs.out]
                      simp [World.setCell, Array.getElem?_modify, D5]
                    · by_cases hj' : j = 3
                      · subst hj'; rw [hNs.out]; exact hm
                      · exact hfit.out j (by omega)
                  clear R5 D5 c5 zf hI
                  go_wp2
                  go_roundw
                  case rel => exact ⟨3 + 1, by omega, by go_num, FIN⟩
                  case measure => simp [intOf]
                · have hmI : (1099511627776 : Int) < (M : Int) := by omega
                  have hS := hide (sdec_4 ho.out (i := 3) (by omega) (by rw [hNs.out]; omega))
                  obtain ⟨⟨r0, r1, r2, r3, r4⟩, rf⟩ := cells5 R5
                  have f0 := rf 0
                  have f1 := rf 1
                  have f2 := rf 2
                  have f3 := rf 3
                  have f4 := rf 4
                  clear hI
                  go_wp2
                  refine retNT rfl rfl w.heap.size rfl _ _ (0, 0) (heap_set5 (u := wr) R5 _ _ _ _ _) _ Try.underlying23 rfl infoBkR _ rfl ?_
                  rw [hS.out]
                  exact ⟨rfl, below_set5 c5 (Nat.le_refl _) _ _ _ _ _⟩
              · have hq : (44 : Int) ≤ (c : Int) := by omega
                have hn : ¬ c = 36 := by omega
                have KG := hide (refNumber_any wr _ _ ((HR.out 36 44 (by omega) (by omega)).to hI.out.2) (by rw [List.length_drop, List.length_take]; omega))
                obtain ⟨M, hM⟩ : ∃ M, M = numOf ((x.take 44).drop 36) := ⟨_, rfl⟩
                have hNs : snum x 4 = M := hM.symm
                rw [← hM] at KG
                replace hM := hide hM
                replace hNs := hide hNs
                go_wp2_with fail
                refine KG.out.mono ?_
                rintro e w' ⟨rfl, rfl⟩
                clear KG
                have c5 := hI.out.1.1
                have R5 := hI.out.1.2.1
                have D5 : wr.heap[gD]? = some (.cells #[.int .i64 ((snum x 0 : Nat) : Int), .int .i64 ((snum x 1 : Nat) : Int), .int .i64 ((snum x 2 : Nat) : Int), .int .i64 ((snum x 3 : Nat) : Int), .int .i64 0] 83 (0, 0)) := hI.out.1.2.2.1
                have hfit := hide hI.out.1.2.2.2
                by_cases hm : M ≤ 1099511627776
                · have hmI : ¬ (1099511627776 : Int) < (M : Int) := by omega
                  have hwr := wrap_i64_nat M hm
                  obtain ⟨⟨z0, z1, z2, z3, z4⟩, zf⟩ := cells5 D5
                  have g0 := zf 4
                  have FIN : Hid (DInv w w.heap.size gD 23 83 x (4 + 1) (wr.setCell ⟨gD, 4, none⟩ (.int .i64 (M : Int))) ∧ Below w1.heap.size w1 (wr.setCell ⟨gD, 4, none⟩ (.int .i64 (M : Int)))) := by
                    refine ⟨⟨c5.setCell (p := ⟨gD, 4, none⟩) (Nat.le_of_lt hgR) _, ?_, ?_, fun j hj => ?_⟩, hI.out.2.setCell (p := ⟨gD, 4, none⟩) hgD' _⟩
                    · rw [Below.heap_setCell _ _ _ _ (Nat.ne_of_lt hgR)]; exact R5
                    · show (_ : Option Obj) = some (Obj.cells #[.int .i64 ((snum x 0 : Nat) : Int), .int .i64 ((snum x 1 : Nat) : Int), .int .i64 ((snum x 2 : Nat) : Int), .int .i64 ((snum x 3 : Nat) : Int), .int .i64 ((snum x 4 : Nat) : Int)] 83 (0, 0))
                      rw [hNs.out]
                      simp [World.setCell, Array.getElem?_modify, D5]
                    · by_cases hj' : j = 4
                      · subst hj'; rw [hNs.out]; exact hm
                      · exact hfit.out j (by omega)
                  clear R5 D5 c5 zf hI
                  go_wp2
                  go_roundw
                  case rel => exact ⟨4 + 1, by omega, by go_num, FIN⟩
                  case measure => simp [intOf]
                · have hmI : (1099511627776 : Int) < (M : Int) := by omega
                  have hS := hide (sdec_4 ho.out (i := 4) (by omega) (by rw [hNs.out]; omega))
                  obtain ⟨⟨r0, r1, r2, r3, r4⟩, rf⟩ := cells5 R5
                  have f0 := rf 0
                  have f1 := rf 1
                  have f2 := rf 2
                  have f3 := rf 3
                  have f4 := rf 4
                  clear hI
                  go_wp2
                  refine retNT rfl rfl w.heap.size rfl _ _ (0, 0) (heap_set5 (u := wr) R5 _ _ _ _ _) _ Try.underlying23 rfl infoBkR _ rfl ?_
                  rw [hS.out]
                  exact ⟨rfl, below_set5 c5 (Nat.le_refl _) _ _ _ _ _⟩
              · have R5 := hI.out.1.2.1
                have D5 : wr.heap[gD]? = some (.cells #[.int .i64 ((snum x 0 : Nat) : Int), .int .i64 ((snum x 1 : Nat) : Int), .int .i64 ((snum x 2 : Nat) : Int), .int .i64 ((snum x 3 : Nat) : Int), .int .i64 ((snum x 4 : Nat) : Int)] 83 (0, 0)) := hI.out.1.2.2.1
                have c5 := hI.out.1.1
                have hS := hide (sdec_0 ho.out (fun i hi => hI.out.1.2.2.2 i hi))
                obtain ⟨⟨z0, z1, z2, z3, z4⟩, _⟩ := cells5 D5
                obtain ⟨⟨r0, r1, r2, r3, r4⟩, rf⟩ := cells5 R5
                have f0 := rf 0
                have f1 := rf 1
                have f2 := rf 2
                have f3 := rf 3
                have f4 := rf 4
                clear hI
                go_wp2
                refine retNT rfl rfl w.heap.size rfl _ _ (0, 0) (heap_set5 (u := wr) R5 _ _ _ _ _) _ Try.underlying23 rfl infoBkR _ rfl ?_
                rw [hS.out]
                exact ⟨rfl, below_set5 c5 (Nat.le_refl _) _ _ _ _ _⟩
      · have hno : Hid ((x.take 48).drop 44 ≠ oc (sum (x.take 44)) 4) := by show _ ≠ _; rw [hSe.out]; exact fun e => h4 (h3.out.2 e)
        have hS := hide (sdec_oct (x := x) (by rw [soct_21 h1'.out hx2.out hno.out]; decide))
        rw [soct_21 h1'.out hx2.out hno.out] at hS
        have hbe : (((N : Nat) : Int) != ((S : Nat) : Int)) = true := by simp only [bne_iff_ne]; omega
        replace h4 := hide h4
        go_quiet (first | (go_at_call 37; exact Calls.quiet_of_same (KN.out _ (RN.out.drewN _))) | (go_at_call 34; exact Calls.quiet_of_same (KS.out _ (RS.out.drewN _))))
        clear k4 KN KS RN RS
        obtain ⟨w1, hw1⟩ : ∃ u, u = X.drewN nq := ⟨_, rfl⟩
        rw [← hw1]
        have b1 : Below X.heap.size X w1 := by rw [hw1]; exact below_drewN' X nq _
        have c1 := hide (bX.trans (b1.mono bX.size))
        have X1 : w1.heap[w.heap.size]? = _ := (b1.block _ (by omega)).trans X0
        obtain ⟨⟨r0, r1, r2, r3, r4⟩, rf'⟩ := cells5 X1
        have g0 := rf' 0
        have g1 := rf' 1
        have g2 := rf' 2
        have g3 := rf' 3
        have g4 := rf' 4
        clear b1 X0 bX hw1 f0 f1 f2 f3 f4 rf
        go_wp2
        refine retNT rfl rfl w.heap.size rfl _ _ (0, 0) (heap_set5 (u := w1) X1 _ _ _ _ _) _ Try.underlying23 rfl infoBkR _ rfl ?_
        rw [hS.out]
        exact ⟨rfl, below_set5 c1.out (Nat.le_refl _) _ _ _ _ _⟩
    · have hS := hide (sdec_oct (x := x) (by rw [soct_22 h1 h2]; decide))
      rw [soct_22 h1 h2] at hS
      have hd4 : (x.take 4 == [116, 115, 98, 49]) = false := beq_eq_false_iff_ne.2 h2
      clear h2 hx hxX
      replace h1 := hide h1
      rw [hX] at k4
      go_enter Try.func11, Try.ntmps11
      go_upto_region 4 with fail
      rw [← hX]
      clear k4
      replace hX := hide hX
      go_wp2
      refine retNT rfl rfl w.heap.size rfl _ _ (0, 0) (heap_set5 (u := X) X0 _ _ _ _ _) _ Try.underlying23 rfl infoBkR _ rfl ?_
      rw [hS.out]
      exact ⟨rfl, below_set5 bX (Nat.le_refl _) _ _ _ _ _⟩
  · have hq : ((x.length : Int) != 64) = true := by
      simp only [bne_iff_ne]; omega
    have hS := hide (sdec_oct (x := x) (by rw [soct_3 h1]; decide))
    rw [soct_3 h1] at hS
    obtain ⟨a, c, rfl⟩ := hx.slice
    replace h1 := hide h1
    go_enter Try.func11, Try.ntmps11
    go_upto_region 2 with fail
    rw [← hX]
    replace hX := hide hX
    go_wp2
    refine retNT rfl rfl w.heap.size rfl _ _ (0, 0) (heap_set5 (u := X) X0 _ _ _ _ _) _ Try.underlying23 rfl infoBkR _ rfl ?_
    rw [hS.out]
    exact ⟨rfl, below_set5 bX (Nat.le_refl _) _ _ _ _ _⟩

end Go.Proofs.Ytpebgepjohlklaa
