/-
  Decode of a page: the page's (the document's own).
-/
import Derived.Deep.CutRange
import Derived.Test.YtliileemelcllaaPgEncR
import Derived.Test.YtliileemelcllaaRCop
namespace Go.Proofs.Ytliileemelcllaa
open Go.RowKit
set_option linter.unusedVariables false

theorem pgn_int (b : List UInt8) (h : 4 ≤ b.length) : bits .or .i64 (bt b 2 * 256) (bt b 3) = ((pgn b : Nat) : Int) ∧ pgn b < 65536 := by
  have e : pgn b = (b.getD 2 0).toNat * 256 + (b.getD 3 0).toNat := by
    unfold pgn numOf
    have hl : ((b.take 4).drop 2).length = 2 := by rw [List.length_drop, List.length_take]; omega
    rw [hl]
    simp only [numTo]
    have g : ∀ i, i < 2 → ((b.take 4).drop 2).getD i 0 = b.getD (2 + i) 0 := by
      intro i hi
      simp [List.getD_eq_getElem?_getD, List.getElem?_drop, show 2 + i < 4 by omega]
    rw [g 0 (by decide), g 1 (by decide)]
    show (0 * 256 + (b.getD 2 0).toNat) * 256 + (b.getD 3 0).toNat = _
    omega
  have h2 := (b.getD 2 0).toNat_lt
  have h3 := (b.getD 3 0).toNat_lt
  refine ⟨?_, by omega⟩
  unfold bt
  rw [e, show ((b.getD 2 0).toNat : Int) * 256 = (((b.getD 2 0).toNat * 256 : Nat) : Int) from by rw [Int.natCast_mul]; rfl]
  generalize (b.getD 2 0).toNat = p at *
  generalize (b.getD 3 0).toNat = q at *
  have key : (BitVec.ofInt 64 ((p * 256 : Nat) : Int) ||| BitVec.ofInt 64 (q : Int)).toNat = p * 256 + q := by
    rw [BitVec.toNat_or, BitVec.ofInt_natCast, BitVec.ofInt_natCast, BitVec.toNat_ofNat, BitVec.toNat_ofNat, Nat.mod_eq_of_lt (by omega), Nat.mod_eq_of_lt (by omega)]
    exact nat_join 8 (p * 256) q (by simp) (by omega)
  show IntKind.i64.wrap (((BitVec.ofInt 64 ((p * 256 : Nat) : Int) ||| BitVec.ofInt 64 (q : Int)).toNat : Nat) : Int) = _
  rw [key, IntKind.wrap_i64]
  omega
theorem pgdec_3 {b : List UInt8} (h : b.length ≠ 256) : pgdec b = (0, [], 3) := if_pos h
theorem pgdec_21 {b : List UInt8} (h : b.length = 256) (h2 : numOf (b.drop 252) ≠ sum (b.take 252)) : pgdec b = (0, [], 21) := by
  unfold pgdec; rw [if_neg (fun k => k h), if_pos h2]
theorem pgdec_22 {b : List UInt8} (h : b.length = 256) (h2 : numOf (b.drop 252) = sum (b.take 252)) (h3 : b.take 2 ≠ pgmark) : pgdec b = (0, [], 22) := by
  unfold pgdec; rw [if_neg (fun k => k h), if_neg (fun k => k h2), if_pos h3]
theorem pgdec_5 {b : List UInt8} (h : b.length = 256) (h2 : numOf (b.drop 252) = sum (b.take 252)) (h3 : b.take 2 = pgmark) (h4 : 244 < pgn b) : pgdec b = (0, [], 5) := by
  unfold pgdec; rw [if_neg (fun k => k h), if_neg (fun k => k h2), if_neg (fun k => k h3), if_pos h4]
theorem pgdec_4 {b : List UInt8} (h : b.length = 256) (h2 : numOf (b.drop 252) = sum (b.take 252)) (h3 : b.take 2 = pgmark) (h4 : ¬ 244 < pgn b) (h5 : 2147483647 < pgid b) : pgdec b = (0, [], 4) := by
  unfold pgdec; rw [if_neg (fun k => k h), if_neg (fun k => k h2), if_neg (fun k => k h3), if_neg h4, if_pos h5]
theorem pgdec_23 {b : List UInt8} (h : b.length = 256) (h2 : numOf (b.drop 252) = sum (b.take 252)) (h3 : b.take 2 = pgmark) (h4 : ¬ 244 < pgn b) (h5 : ¬ 2147483647 < pgid b) (h6 : (b.take 252).drop (8 + pgn b) ≠ List.replicate (244 - pgn b) 0) : pgdec b = (0, [], 23) := by
  unfold pgdec; rw [if_neg (fun k => k h), if_neg (fun k => k h2), if_neg (fun k => k h3), if_neg h4, if_neg h5, if_pos h6]
theorem pgdec_0 {b : List UInt8} (h : b.length = 256) (h2 : numOf (b.drop 252) = sum (b.take 252)) (h3 : b.take 2 = pgmark) (h4 : ¬ 244 < pgn b) (h5 : ¬ 2147483647 < pgid b) (h6 : (b.take 252).drop (8 + pgn b) = List.replicate (244 - pgn b) 0) : pgdec b = ((pgid b : Int), (b.take (8 + pgn b)).drop 8, 0) := by
  unfold pgdec; rw [if_neg (fun k => k h), if_neg (fun k => k h2), if_neg (fun k => k h3), if_neg h4, if_neg h5, if_neg (fun k => k h6)]
theorem ptail_zero {b : List UInt8} {n : Nat} (hl : b.length = 256) (hn : n ≤ 244) (h : ∀ j, 8 + n ≤ j → j < 252 → bt b j = 0) : (b.take 252).drop (8 + n) = List.replicate (244 - n) 0 := by
  apply List.ext_getElem
  · rw [List.length_drop, List.length_take, List.length_replicate]; omega
  · intro i h1 h2
    rw [List.length_replicate] at h2
    have := h (8 + n + i) (by omega) (by omega)
    unfold bt at this
    rw [List.getElem_drop, List.getElem_take, List.getElem_replicate]
    have e : b.getD (8 + n + i) 0 = b[8 + n + i]'(by omega) := by simp [List.getD_eq_getElem?_getD, show 8 + n + i < b.length by omega]
    rw [e] at this
    exact UInt8.toNat_inj.1 (by simpa using this)
theorem ptail_not {b : List UInt8} {n : Nat} (hl : b.length = 256) (hn : n ≤ 244) {k : Nat} (h1 : 8 + n ≤ k) (h2 : k < 252) (h : bt b k ≠ 0) : (b.take 252).drop (8 + n) ≠ List.replicate (244 - n) 0 := by
  intro e
  apply h
  have := congrArg (fun l => l.getD (k - (8 + n)) 0) e
  simp only [List.getD_eq_getElem?_getD, List.getElem?_drop, List.getElem?_take, List.getElem?_replicate, show 8 + n + (k - (8 + n)) = k by omega, show k - (8 + n) < 244 - n by omega, if_pos h2] at this
  unfold bt
  rw [List.getD_eq_getElem?_getD, this]
  rfl
set_option maxRecDepth 100000 in
set_option maxHeartbeats 4000000 in
theorem rpgdec_any (w : World) (v : Value) (x : List UInt8) (hx : Rd w v x) : Calls Try.prog 13 #[v] w fun e w' => ∃ v', e = .returned (.tuple #[.int .i64 (pgdec x).1, v', .int .i64 (pgdec x).2.2]) ∧ OwnB w.heap.size w' v' (pgdec x).2.1 ∧ Below w.heap.size w w' := by
  by_cases h1 : x.length = 256
  · obtain ⟨b, o, c, hv, hc, hcm, hR, hC⟩ := rdN hx h1 (by decide)
    rw [hv]
    have hRX := hide hR
    have hCE := hide hC
    have k2 := conv_rd (show Rd w (.slice (some ⟨b, o, none⟩) 2 c) (x.take 2) by simpa using hR 0 2 (by omega) (by omega)) (by rw [List.length_take]; omega)
    have hq2 : (2 : Int) ≤ (c : Int) := by omega
    have hq8 : (8 : Int) ≤ (c : Int) := by omega
    have hq252 : (252 : Int) ≤ (c : Int) := by omega
    have hq256 : (256 : Int) ≤ (c : Int) := by omega
    have hn252 : ¬ c = 252 := by omega
    have hn4 : ¬ c = 4 := by omega
    have hn8 : ¬ c = 8 := by omega
    have lS : (x.drop 252).length = 4 := by rw [List.length_drop]; omega
    have RN : Hid (Rd w (.slice (some ⟨b, o + 252, none⟩) 4 (c - 252)) (x.drop 252)) := by
      have := hR 252 256 (by omega) (by omega)
      rw [List.take_of_length_le (by omega)] at this
      exact this
    have RS : Hid (Rd w (.slice (some ⟨b, o, none⟩) 252 c) (x.take 252)) := by simpa using hide (hR 0 252 (by omega) (by omega))
    have KN : Hid (∀ u, Rd u (.slice (some ⟨b, o + 252, none⟩) 4 (c - 252)) (x.drop 252) → Calls Try.prog 38 #[.slice (some ⟨b, o + 252, none⟩) 4 (c - 252)] u fun e w' => e = .returned (.int .u64 (numOf (x.drop 252) : Nat)) ∧ w' = u) :=
      fun u h => (refNumber_any u _ _ h (by omega)).mono fun e w' h => ⟨h.1, h.2.symm⟩
    have KS : Hid (∀ u, Rd u (.slice (some ⟨b, o, none⟩) 252 c) (x.take 252) → Calls Try.prog 33 #[.slice (some ⟨b, o, none⟩) 252 c] u fun e w' => e = .returned (.int .u32 (sum (x.take 252) : Nat)) ∧ w' = u) :=
      fun u h => (psum_any u _ _ h (by rw [List.length_take]; omega)).mono fun e w' h => ⟨h.1, h.2.symm⟩
    have hwr := psum64 (x.take 252)
    have D21 := hide (fun h => @pgdec_21 x h1 h)
    have D22 := hide (fun h => @pgdec_22 x h1 h)
    have D5 := hide (fun h => @pgdec_5 x h1 h)
    have D4 := hide (fun h => @pgdec_4 x h1 h)
    have D23 := hide (fun h => @pgdec_23 x h1 h)
    have D0 := hide (fun h => @pgdec_0 x h1 h)
    obtain ⟨pn, pn2⟩ := pgn_int x (by omega)
    have KI := hide (fun u h => refNumber_any u (.slice (some ⟨b, o + 4, none⟩) 4 (c - 4)) ((x.take 8).drop 4) h (by rw [List.length_drop, List.length_take]; omega))
    have hI : numOf ((x.take 8).drop 4) = pgid x := rfl
    rw [hI] at KI
    generalize hNe : numOf (x.drop 252) = N at *
    generalize hSe : sum (x.take 252) = S at *
    replace hNe := hide hNe
    replace hSe := hide hSe
    have h1' := hide h1
    clear h1 lS hx hR hC hI
    go_enter Try.func13, Try.ntmps13
    go_wp2_with fail
    by_cases h2 : N = S
    · subst h2
      go_quiet (first | (go_at_call 38; exact Calls.quiet_of_same (KN.out _ (RN.out.drewN _))) | (go_at_call 33; exact Calls.quiet_of_same (KS.out _ (RS.out.drewN _))))
      obtain ⟨w1, hw1⟩ : ∃ u, u = w.drewN nq := ⟨_, rfl⟩
      rw [← hw1]
      have b1 : Below w.heap.size w w1 := by rw [hw1]; exact below_drewN' w nq _
      have k2' : (convert 22 9 (.slice (some ⟨b, o, none⟩) 2 c)).run Try.prog w1 = .ok (.string ⟨(x.take 2).toArray⟩) w1 :=
        conv_rd (by simpa using (hRX.out 0 2 (by omega) (by omega)).to b1) (by rw [List.length_take]; have := h1'.out; omega)
      replace hw1 := hide hw1
      clear k2 KN KS RN RS hwr
      by_cases h3 : x.take 2 = pgmark
      · have t2 := (b1.cell (cell_lt (hCE.out 2 (by decide)))).trans (hCE.out 2 (by decide))
        have t3 := (b1.cell (cell_lt (hCE.out 3 (by decide)))).trans (hCE.out 3 (by decide))
        rw [h3] at k2'
        replace h3 := hide h3
        have v2 := bt_bd x 2
        have v3 := bt_bd x 3
        obtain ⟨n, hn⟩ : ∃ n, n = pgn x := ⟨_, rfl⟩
        rw [← hn] at pn pn2 D5 D4 D23 D0
        replace hn := hide hn
        go_wp2_with fail
        go_quiet (fail)
        obtain ⟨w2, hw2⟩ : ∃ u, u = w1.drewN nq := ⟨_, rfl⟩
        rw [← hw2]
        have b2 : Below w.heap.size w w2 := b1.trans (by rw [hw2]; exact below_drewN' w1 nq _)
        replace hw2 := hide hw2
        clear k2' t2 t3 b1
        have KJ := hide (KI.out w2 ((hRX.out 4 8 (by omega) (by omega)).to b2))
        obtain ⟨I, hI⟩ : ∃ I, I = pgid x := ⟨_, rfl⟩
        rw [← hI] at KJ D4 D23 D0
        have hI64 : I < 4294967296 := by
          rw [hI]
          have := numTo_lt ((x.take 8).drop 4) ((x.take 8).drop 4).length
          have hl : ((x.take 8).drop 4).length = 4 := by rw [List.length_drop, List.length_take]; have := h1'.out; omega
          unfold pgid numOf
          rw [hl] at this ⊢
          omega
        replace hI := hide hI
        go_wp2_with fail
        refine KJ.out.mono ?_
        rintro e w' ⟨rfl, rfl⟩
        clear KJ KI
        by_cases h4 : 244 < n
        · have hq : (244 : Int) < (n : Int) := by omega
          have hD := hide (D5.out (by trivial) h3.out h4)
          replace h4 := hide h4
          go_wp2
          go_ret3
          rw [hD.out]
          exact ⟨_, rfl, World.ownsRow_nil _ _ _ _, b2⟩
        · have hq : ¬ (244 : Int) < (n : Int) := by omega
          by_cases h5 : 2147483647 < I
          · have hq5 : (2147483647 : Int) < (I : Int) := by omega
            have hD := hide (D4.out (by trivial) h3.out h4 h5)
            replace h4 := hide h4
            replace h5 := hide h5
            go_wp2
            go_ret3
            rw [hD.out]
            exact ⟨_, rfl, World.ownsRow_nil _ _ _ _, b2⟩
          · have hq5 : ¬ (2147483647 : Int) < (I : Int) := by omega
            have hn244 : n ≤ 244 := by omega
            have D23' := hide (D23.out (by trivial) h3.out h4 h5)
            have D0' := hide (D0.out (by trivial) h3.out h4 h5)
            have HC : Hid (∀ i, i < 256 → w2.cell? ⟨b, o + i, none⟩ = some (.int .u8 (bt x i))) := fun i hi => (b2.cell (cell_lt (hCE.out i hi))).trans (hCE.out i hi)
            have hwI : IntKind.i64.wrap (I : Int) = (I : Int) := by rw [IntKind.wrap_i64]; omega
            replace h4 := hide h4
            replace h5 := hide h5
            replace b2 := hide b2
            go_wp2
            go_loopw [7] (fun i wr => ∃ k : Nat, 8 + n ≤ k ∧ k ≤ 252 ∧ i = .int .i64 k ∧ w2 = wr ∧ Hid (∀ j, 8 + n ≤ j → j < k → bt x j = 0)) (fun i _ => 252 - (intOf i).toNat)
            case atStart => exact ⟨8 + n, by omega, by omega, by go_num, rfl, hide (fun j p1 p2 => by omega)⟩
            case round =>
              obtain ⟨k, hk0, hk1, rfl, rfl, hZ⟩ := hrel
              by_cases hlt : k < 252
              · have hqk : (k : Int) < 252 := by omega
                have hqk2 : (k : Int) < 256 := by omega
                have ck := HC.out k (by omega)
                obtain ⟨B, hB⟩ : ∃ B, B = bt x k := ⟨_, rfl⟩
                rw [← hB] at ck
                by_cases hb : B = 0
                · have hZ' : Hid (∀ j, 8 + n ≤ j → j < k + 1 → bt x j = 0) := fun j p1 p2 => by
                    by_cases e : j = k
                    · subst e; rw [← hB]; exact hb
                    · exact hZ.out j p1 (by omega)
                  subst hb
                  replace hB := hide hB
                  go_wp2
                  go_roundw
                  case rel => exact ⟨k + 1, by omega, by omega, by go_num, trivial, hZ'⟩
                  case measure => simp [intOf]; omega
                · have hbe : (B != 0) = true := by simpa using hb
                  have hD := hide (D23'.out (by rw [hn.out]; exact ptail_not h1'.out (by rw [← hn.out]; exact hn244) (by rw [← hn.out]; exact hk0) hlt (by rw [← hB]; exact hb)))
                  replace hb := hide hb
                  replace hB := hide hB
                  go_wp2
                  go_ret3
                  rw [hD.out]
                  exact ⟨_, rfl, World.ownsRow_nil _ _ _ _, b2.out⟩
              · have hqk : ¬ (k : Int) < 252 := by omega
                have hD := hide (D0'.out (by rw [hn.out]; exact ptail_zero h1'.out (by rw [← hn.out]; exact hn244) (fun j p1 p2 => hZ.out j (by rw [hn.out]; exact p1) (by omega))))
                have hq8n : (8 : Int) ≤ 8 + (n : Int) := by omega
                have hqn : 8 + (n : Int) ≤ (c : Int) := by omega
                have KC := hide (rcopied_any w2 (.slice (some ⟨b, o + 8, none⟩) n (c - 8)) ((x.take (8 + n)).drop 8) (by have := (hRX.out 8 (8 + n) (by omega) (by omega)).to b2.out; rwa [show 8 + n - 8 = n by omega] at this) (by rw [List.length_drop, List.length_take]; omega))
                go_wp2_with fail
                refine KC.out.mono ?_
                rintro e w3 ⟨v3, rfl, o3, b3⟩
                go_wp2
                go_ret3
                rw [hD.out]
                exact ⟨_, rfl, o3.mono b2.out.size, b2.out.trans (b3.mono b2.out.size)⟩
      · have hD := hide (D22.out (by trivial) h3)
        have hd2 : (x.take 2 == [112, 103]) = false := beq_eq_false_iff_ne.2 h3
        replace h3 := hide h3
        go_wp2
        go_ret3
        rw [hD.out]
        exact ⟨_, rfl, World.ownsRow_nil _ _ _ _, b1⟩
    · have hD := hide (D21.out h2)
      have hbe : (((N : Nat) : Int) != ((S : Nat) : Int)) = true := by simp only [bne_iff_ne]; omega
      replace h2 := hide h2
      go_quiet (first | (go_at_call 38; exact Calls.quiet_of_same (KN.out _ (RN.out.drewN _))) | (go_at_call 33; exact Calls.quiet_of_same (KS.out _ (RS.out.drewN _))))
      go_wp2
      go_ret3
      rw [hD.out]
      exact ⟨_, rfl, World.ownsRow_nil _ _ _ _, below_drewN' w _ _⟩
  · have hq : ((x.length : Int) != 256) = true := by simp only [bne_iff_ne]; omega
    have hD := hide (pgdec_3 h1)
    obtain ⟨a, c, rfl⟩ := hx.slice
    replace h1 := hide h1
    go_enter Try.func13, Try.ntmps13
    go_wp2
    go_ret3
    rw [hD.out]
    exact ⟨_, rfl, World.ownsRow_nil _ _ _ _, Below.refl _ _⟩

end Go.Proofs.Ytliileemelcllaa
