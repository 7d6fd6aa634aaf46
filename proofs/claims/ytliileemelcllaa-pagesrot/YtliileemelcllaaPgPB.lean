/-
  Pages, the program's: what a page's checksum and mark say (checkSeal), and Decode.
-/
import Derived.Deep.CutRange
import Derived.Test.YtliileemelcllaaPgPA
import Derived.Test.YtliileemelcllaaPgDecR
import Derived.Test.YtliileemelcllaaGet
import Derived.Test.YtliileemelcllaaRMid
import Derived.Test.YtliileemelcllaaTail
import Derived.Test.YtliileemelcllaaStep
namespace Go.Proofs.Ytliileemelcllaa
open Go.RowKit
set_option linter.unusedVariables false

noncomputable def pgseal (x : List UInt8) : Int := if x.length ≠ 256 then 3 else if numOf (x.drop 252) ≠ sum (x.take 252) then 21 else if x.take 2 ≠ pgmark then 22 else 0
theorem pgseal_3 {b : List UInt8} (h : b.length ≠ 256) : pgseal b = 3 := if_pos h
theorem pgseal_21 {b : List UInt8} (h : b.length = 256) (h2 : numOf (b.drop 252) ≠ sum (b.take 252)) : pgseal b = 21 := by
  unfold pgseal; rw [if_neg (fun k => k h), if_pos h2]
theorem pgseal_22 {b : List UInt8} (h : b.length = 256) (h2 : numOf (b.drop 252) = sum (b.take 252)) (h3 : b.take 2 ≠ pgmark) : pgseal b = 22 := by
  unfold pgseal; rw [if_neg (fun k => k h), if_neg (fun k => k h2), if_pos h3]
theorem pgseal_0 {b : List UInt8} (h : b.length = 256) (h2 : numOf (b.drop 252) = sum (b.take 252)) (h3 : b.take 2 = pgmark) : pgseal b = 0 := by
  unfold pgseal; rw [if_neg (fun k => k h), if_neg (fun k => k h2), if_neg (fun k => k h3)]
theorem pgseal_yes {b : List UInt8} (h : pgseal b = 0) : b.length = 256 ∧ numOf (b.drop 252) = sum (b.take 252) ∧ b.take 2 = pgmark := by
  by_cases h1 : b.length = 256
  · by_cases h2 : numOf (b.drop 252) = sum (b.take 252)
    · by_cases h3 : b.take 2 = pgmark
      · exact ⟨h1, h2, h3⟩
      · rw [pgseal_22 h1 h2 h3] at h; cases h
    · rw [pgseal_21 h1 h2] at h; cases h
  · rw [pgseal_3 h1] at h; cases h
theorem pgdec_seal {b : List UInt8} (h : pgseal b ≠ 0) : pgdec b = (0, [], pgseal b) := by
  by_cases h1 : b.length = 256
  · by_cases h2 : numOf (b.drop 252) = sum (b.take 252)
    · by_cases h3 : b.take 2 = pgmark
      · exact absurd (pgseal_0 h1 h2 h3) h
      · rw [pgseal_22 h1 h2 h3, pgdec_22 h1 h2 h3]
    · rw [pgseal_21 h1 h2, pgdec_21 h1 h2]
  · rw [pgseal_3 h1, pgdec_3 h1]
/-- four octets are a number's just if the number is theirs -/
theorem oc4_iff {y : List UInt8} {n : Nat} (hl : y.length = 4) (hn : n < 4294967296) : y = oc n 4 ↔ numOf y = n := by
  constructor
  · rintro rfl; exact numOf_oc _ _ (by omega)
  · intro h; exact pnumOf_inj (by rw [oc_length, hl]) (by rw [h, numOf_oc _ _ (by omega)])

set_option maxRecDepth 100000 in
set_option maxHeartbeats 4000000 in
theorem pgseal_any (w : World) (v : Value) (x : List UInt8) (hx : Rd w v x) : Calls Try.prog 34 #[v] w fun e w' => e = .returned (.int .i64 (pgseal x)) ∧ Below w.heap.size w w' := by
  by_cases h1 : x.length = 256
  · obtain ⟨b, o, c, rfl, hc, hcm, hR, hC⟩ := rdN hx h1 (by decide)
    have hS := sum_lt (x.take 252)
    unfold M32 at hS
    have r252 : Rd w (.slice (some ⟨b, o, none⟩) 252 c) (x.take 252) := by simpa using hR 0 252 (by omega) (by omega)
    have rS : Rd w (.slice (some ⟨b, o + 252, none⟩) 4 (c - 252)) (x.drop 252) := by
      have := hR 252 256 (by omega) (by omega)
      rwa [List.take_of_length_le (by omega)] at this
    have r2 : Rd w (.slice (some ⟨b, o, none⟩) 2 c) (x.take 2) := by simpa using hR 0 2 (by omega) (by omega)
    have lS : (x.drop 252).length = 4 := by rw [List.length_drop]; omega
    have l252 : (x.take 252).length = 252 := by rw [List.length_take]; omega
    have hq252 : (252 : Int) ≤ (c : Int) := by omega
    have hq256 : (256 : Int) ≤ (c : Int) := by omega
    have hq2 : (2 : Int) ≤ (c : Int) := by omega
    have hn252 : ¬ c = 252 := by omega
    have K1 := hide (fun u (h : Rd u (.slice (some ⟨b, o, none⟩) 252 c) (x.take 252)) => pgsumOf_any u _ _ h (by omega))
    have hS4 := oc4_iff lS hS
    have HR := hide (And.intro r252 (And.intro rS r2))
    have HL := hide lS
    have HI := hide hS4
    have h1' := hide h1
    clear r252 rS r2 lS l252 hS4 hS h1 hx hR hC hc hcm
    go_enter Try.func34, Try.ntmps34
    go_wp2_with fail
    refine wp_region_mid (fun _ => True) 4 5 mixed (by kernel_rfl) (fun _ _ _ _ h => h) trivial ?_
    dsimp only [List.take, List.drop]
    iterate 4
      refine take_one (v := ?_) (by rfl) ?_ ?_
      rotate_left
      · intro w' s1
        go_simp
        try with_reducible rfl
      try simp only [Act.put, List.setIfInBounds_toArray, List.set_cons_zero, List.set_cons_succ]
    refine mid_one fun K hK => ?_
    refine step_call (by rfl) 31 _ _ (by rfl) #[.slice (some ⟨b, o, none⟩) 252 c] (by simp [Act.eval]) (Try.call31 _ _) (K1.out w.drew (HR.out.1.drewN 1)) ?_
    rintro e w1 ⟨v1, rfl, o1, b1⟩
    refine ⟨_, rfl, hK _ _ trivial ?_⟩
    clear hK K
    try simp only [Act.put, List.setIfInBounds_toArray, List.set_cons_zero, List.set_cons_succ]
    show wpList _ _ _ _ _ _
    clear K1
    have c1 : Below w.heap.size w w1 := (Below.refl _ _).drew.trans b1
    have K2 := hide (bytesEq_any w1 _ _ _ _ (HR.out.2.1.to c1) o1.rd (by rw [HL.out]; decide) (by rw [oc_length]; decide))
    have k2 := conv_rd (HR.out.2.2.to c1) (by rw [List.length_take, h1'.out]; decide)
    obtain ⟨va, vc, rfl⟩ := o1.rd.slice
    rw [oc_length] at K2 ⊢
    clear o1 b1
    by_cases h2 : x.drop 252 = oc (sum (x.take 252)) 4
    · have h2' := hide (HI.out.1 h2)
      rw [sameB_eq h2] at K2
      clear h2
      go_wp2_with fail
      refine K2.out.mono ?_
      rintro e w' ⟨rfl, rfl⟩
      clear K2
      by_cases h3 : x.take 2 = pgmark
      · have hE := hide (pgseal_0 h1'.out h2'.out h3)
        rw [h3] at k2
        replace h3 := hide h3
        go_wp2
        go_ret
        exact ⟨ret_int hE.out.symm, c1⟩
      · have hE := hide (pgseal_22 h1'.out h2'.out h3)
        have hd2 : (x.take 2 == [112, 103]) = false := beq_eq_false_iff_ne.2 h3
        replace h3 := hide h3
        go_wp2
        go_ret
        exact ⟨ret_int hE.out.symm, c1⟩
    · have hE := hide (pgseal_21 h1'.out (fun k => h2 (HI.out.2 k)))
      rw [sameB_ne h2] at K2
      replace h2 := hide h2
      go_wp2_with fail
      refine K2.out.mono ?_
      rintro e w' ⟨rfl, rfl⟩
      go_wp2
      go_ret
      exact ⟨ret_int hE.out.symm, c1⟩
  · have hq : ((x.length : Int) != 256) = true := by simp only [bne_iff_ne]; omega
    have hE := hide (pgseal_3 h1)
    obtain ⟨a, c, rfl⟩ := hx.slice
    replace h1 := hide h1
    go_enter Try.func34, Try.ntmps34
    go_wp2
    go_ret
    exact ⟨ret_int hE.out.symm, Below.refl _ _⟩

set_option maxRecDepth 100000 in
set_option maxHeartbeats 4000000 in
theorem pgdecP_any (w : World) (v : Value) (x : List UInt8) (hx : Rd w v x) : Calls Try.prog 12 #[v] w fun e w' => ∃ v', e = .returned (.tuple #[.int .i64 (pgdec x).1, v', .int .i64 (pgdec x).2.2]) ∧ OwnB w.heap.size w' v' (pgdec x).2.1 ∧ Below w.heap.size w w' := by
  have KO := hide (pgseal_any w v x hx)
  by_cases h0 : pgseal x = 0
  · rw [h0] at KO
    obtain ⟨h1, h2, h3⟩ := pgseal_yes h0
    have D5 := hide (fun h => @pgdec_5 x h1 h2 h3 h)
    have D4 := hide (fun h => @pgdec_4 x h1 h2 h3 h)
    have D23 := hide (fun h => @pgdec_23 x h1 h2 h3 h)
    have D0 := hide (fun h => @pgdec_0 x h1 h2 h3 h)
    obtain ⟨b, o, c, rfl, hc, hcm, hR, hC⟩ := rdN hx h1 (by decide)
    have ll : ((x.take 4).drop 2).length = 2 := by rw [List.length_drop, List.length_take]; omega
    have li : ((x.take 8).drop 4).length = 4 := by rw [List.length_drop, List.length_take]; omega
    have KG := hide (fun u h => get_yes u (.slice (some ⟨b, o + 2, none⟩) 2 (c - 2)) ((x.take 4).drop 2) h (by omega) (by omega))
    have KI := hide (fun u h => get_yes u (.slice (some ⟨b, o + 4, none⟩) 4 (c - 4)) ((x.take 8).drop 4) h (by omega) (by omega))
    obtain ⟨pn, pn2⟩ := pgn_int x (by omega)
    have pi2 : pgid x < 4294967296 := by
      have := numTo_lt ((x.take 8).drop 4) ((x.take 8).drop 4).length
      unfold pgid numOf
      rw [li] at this ⊢
      omega
    rw [show numOf ((x.take 4).drop 2) = pgn x from rfl] at KG
    rw [show numOf ((x.take 8).drop 4) = pgid x from rfl] at KI
    obtain ⟨n, hn⟩ : ∃ n, n = pgn x := ⟨_, rfl⟩
    obtain ⟨I, hI⟩ : ∃ I, I = pgid x := ⟨_, rfl⟩
    rw [← hn] at KG pn2 D5 D4 D23 D0
    rw [← hI] at KI pi2 D4 D23 D0
    have hq4 : (4 : Int) ≤ (c : Int) := by omega
    have hq8 : (8 : Int) ≤ (c : Int) := by omega
    have hq252 : (252 : Int) ≤ (c : Int) := by omega
    have hn2 : ¬ c = 2 := by omega
    have hn4 : ¬ c = 4 := by omega
    have hn8 : ¬ c = 8 := by omega
    have hwn : IntKind.i64.wrap (n : Int) = (n : Int) := by rw [IntKind.wrap_i64]; omega
    have hwI : IntKind.i64.wrap (I : Int) = (I : Int) := by rw [IntKind.wrap_i64]; omega
    have HR := hide hR
    have h1' := hide h1
    have hc' := hide hc
    replace hn := hide hn
    replace hI := hide hI
    clear h0 h1 h2 h3 hx hR hC hc hcm ll li pn
    go_enter Try.func12, Try.ntmps12
    go_wp2_with fail
    refine KO.out.mono ?_
    rintro e w1 ⟨rfl, b1⟩
    clear KO
    go_wp2_with fail
    refine (KG.out w1 ((HR.out 2 4 (by omega) (by omega)).to b1)).mono ?_
    rintro e w2 ⟨rfl, b2⟩
    clear KG
    have c2 := b1.trans (b2.mono b1.size)
    go_wp2_with fail
    refine (KI.out w2 ((HR.out 4 8 (by omega) (by omega)).to c2)).mono ?_
    rintro e w3 ⟨rfl, b3⟩
    clear KI
    have c3 := c2.trans (b3.mono c2.size)
    clear b1 b2 b3 c2
    by_cases h4 : 244 < n
    · have hq : (244 : Int) < (n : Int) := by omega
      have hD := hide (D5.out h4)
      replace h4 := hide h4
      go_wp2
      go_ret3
      rw [hD.out]
      exact ⟨_, rfl, World.ownsRow_nil _ _ _ _, c3⟩
    · have hq : ¬ (244 : Int) < (n : Int) := by omega
      by_cases h5 : 2147483647 < I
      · have hq5 : (2147483647 : Int) < (I : Int) := by omega
        have hD := hide (D4.out h4 h5)
        replace h4 := hide h4
        replace h5 := hide h5
        go_wp2
        go_ret3
        rw [hD.out]
        exact ⟨_, rfl, World.ownsRow_nil _ _ _ _, c3⟩
      · have hq5 : ¬ (2147483647 : Int) < (I : Int) := by omega
        have hn244 : n ≤ 244 := by omega
        have D23' := hide (D23.out h4 h5)
        have D0' := hide (D0.out h4 h5)
        have hq8n : (8 : Int) ≤ 8 + (n : Int) := by omega
        have hqn : 8 + (n : Int) ≤ (c : Int) := by omega
        have hqn2 : 8 + (n : Int) ≤ 252 := by omega
        have hnn : ¬ c = 8 + n := by have := hc'.out; omega
        replace h4 := hide h4
        replace h5 := hide h5
        go_wp2_with fail
        go_quiet (fail)
        obtain ⟨w4, hw4⟩ : ∃ u, u = w3.drewN nq := ⟨_, rfl⟩
        rw [← hw4]
        have c4 : Below w.heap.size w w4 := c3.trans (by rw [hw4]; exact below_drewN' w3 nq _)
        obtain ⟨R, hRe⟩ : ∃ R, R = 252 - (8 + n) := ⟨_, rfl⟩
        obtain ⟨D, hDe⟩ : ∃ D, D = 8 + n - 8 := ⟨_, rfl⟩
        rw [← hRe, ← hDe]
        have rT : Rd w4 (.slice (some ⟨b, o + (8 + n), none⟩) R (c - (8 + n))) ((x.take 252).drop (8 + n)) := by
          rw [hRe]; exact (HR.out (8 + n) 252 (by omega) (by omega)).to c4
        have rD : Rd w4 (.slice (some ⟨b, o + 8, none⟩) D (c - 8)) ((x.take (8 + n)).drop 8) := by
          rw [hDe]; exact (HR.out 8 (8 + n) (by omega) (by omega)).to c4
        have lT : ((x.take 252).drop (8 + n)).length = R := by rw [List.length_drop, List.length_take, h1'.out, hRe]; omega
        have hRn : R = 244 - n := by omega
        have hmk := make_octs (n := R) (by omega) w4
        have oz := own_made w4 R (by rw [show maxLen = 9223372036854775807 from rfl]; omega)
        obtain ⟨w5, hw5⟩ : ∃ u, u = w4.alloc (.cells (madeCells #[.int .u8 0] R) 5) := ⟨_, rfl⟩
        rw [← hw5] at hmk oz
        have b5 : Below w4.heap.size w4 w5 := by rw [hw5]; exact (Below.refl _ _).alloc (Nat.le_refl _) _
        have K3 := hide (bytesEq_at w5 _ _ _ _ _ _ _ _ _ _ (rT.to b5) oz.rd lT (by simp))
        have c5 := c4.trans (b5.mono c4.size)
        have KC := hide (bclone_at w5 _ _ _ _ _ (rD.to b5) (by rw [List.length_drop, List.length_take, h1'.out]; omega))
        replace hw4 := hide hw4
        replace hw5 := hide hw5
        replace hDe := hide hDe
        replace hRe := hide hRe
        rw [← hRn] at D23' D0'
        replace hRn := hide hRn
        clear rT rD lT oz b5 c4 c3
        by_cases h6 : (x.take 252).drop (8 + n) = List.replicate R 0
        · have hD := hide (D0'.out h6)
          rw [sameB_eq h6] at K3
          replace h6 := hide h6
          go_wp2_with fail
          refine K3.out.mono ?_
          rintro e w' ⟨rfl, rfl⟩
          clear K3
          go_wp2_with fail
          refine KC.out.mono ?_
          rintro e w6 ⟨v6, rfl, o6, b6⟩
          go_wp2
          go_ret3
          rw [hD.out]
          exact ⟨_, rfl, o6.mono c5.size, c5.trans (b6.mono c5.size)⟩
        · have hD := hide (D23'.out h6)
          rw [sameB_ne h6] at K3
          replace h6 := hide h6
          go_wp2_with fail
          refine K3.out.mono ?_
          rintro e w' ⟨rfl, rfl⟩
          clear K3
          go_wp2
          go_ret3
          rw [hD.out]
          exact ⟨_, rfl, World.ownsRow_nil _ _ _ _, c5⟩
  · have hD := hide (pgdec_seal h0)
    have hbe : (pgseal x != 0) = true := by simpa using h0
    obtain ⟨a, c, rfl⟩ := hx.slice
    replace h0 := hide h0
    go_enter Try.func12, Try.ntmps12
    go_wp2_with fail
    refine KO.out.mono ?_
    rintro e w1 ⟨rfl, b1⟩
    go_wp2
    go_ret3
    rw [hD.out]
    exact ⟨_, rfl, World.ownsRow_nil _ _ _ _, b1⟩

end Go.Proofs.Ytliileemelcllaa
