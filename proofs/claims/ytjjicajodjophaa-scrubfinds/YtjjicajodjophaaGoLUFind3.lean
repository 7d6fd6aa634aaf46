/- Several texts in one: PgDecR PgPB PgDiskR PgPC WFlushR WTruR WRow WRecR WOf WPC WPB WPD WLg WPE WPH UPB UFMath URf URg WSame WSay WAlive WIn PgSay PgPD PgPE PgProg. -/
import Derived.Deep.CutRange
import Derived.Test.YtjjicajodjophaaGoLUFind1
import Derived.Test.YtjjicajodjophaaGoLUFind0
import Derived.Test.YtjjicajodjophaaGoLUFind2
import Derived.Laws.MakeOwn
import Derived.Laws.IdiomStrings
import Derived.RangeFuncBox
import Derived.RangeFuncBound
import Derived.RangeFuncLeaves
import Derived.Shelf.Abstract
import Derived.Shelf.RegionOpen
import Derived.OwnWalkIn
import Derived.TacticsInMore
import Derived.LoopNIn
import Derived.LoopIn
set_option linter.unusedVariables false
set_option linter.unusedSimpArgs false
namespace Go.Proofs.Ytjjicajodjophaa
open Go.RowKit
theorem pgn_int (b : List UInt8) (h : 4 ≤ b.length) : bits .or .i64 (bt b 2 * 256) (bt b 3) = ((pgn b : Nat) : Int) ∧ pgn b < 65536 := by
 have e : pgn b = (b.getD 2 0).toNat * 256 + (b.getD 3 0).toNat := by
  unfold pgn numOf
  have hl : ((b.take 4).drop 2).length = 2 := by rw [List.length_drop, List.length_take]; omega
  rw [hl]
  simp only [numTo]
  have g : ∀ i, i < 2 → ((b.take 4).drop 2).getD i 0 = b.getD (2 + i) 0 := by
   intro i hi
   simp [List.getD_eq_getElem?_getD, List.getElem?_drop, show 2 + i < 4 by omega]
  rw [g 0 (by decide), g 1 (by decide)]
  show (0 * 256 + (b.getD 2 0).toNat) * 256 + (b.getD 3 0).toNat = _
  omega
 have h2 := (b.getD 2 0).toNat_lt
 have h3 := (b.getD 3 0).toNat_lt
 refine ⟨?_, by omega⟩
 unfold bt
 rw [e, show ((b.getD 2 0).toNat : Int) * 256 = (((b.getD 2 0).toNat * 256 : Nat) : Int) from by rw [Int.natCast_mul]; rfl]
 generalize (b.getD 2 0).toNat = p at *
 generalize (b.getD 3 0).toNat = q at *
 have key : (BitVec.ofInt 64 ((p * 256 : Nat) : Int) ||| BitVec.ofInt 64 (q : Int)).toNat = p * 256 + q := by
  rw [BitVec.toNat_or, BitVec.ofInt_natCast, BitVec.ofInt_natCast, BitVec.toNat_ofNat, BitVec.toNat_ofNat, Nat.mod_eq_of_lt (by omega), Nat.mod_eq_of_lt (by omega)]
  exact nat_join 8 (p * 256) q (by simp) (by omega)
 show IntKind.i64.wrap (((BitVec.ofInt 64 ((p * 256 : Nat) : Int) ||| BitVec.ofInt 64 (q : Int)).toNat : Nat) : Int) = _
 rw [key, IntKind.wrap_i64]
 omega
theorem pgdec_3 {b : List UInt8} (h : b.length ≠ 256) : pgdec b = (0, [], 3) := if_pos h
theorem pgdec_21 {b : List UInt8} (h : b.length = 256) (h2 : numOf (b.drop 252) ≠ sum (b.take 252)) : pgdec b = (0, [], 21) := by
 unfold pgdec; rw [if_neg (fun k => k h), if_pos h2]
theorem pgdec_22 {b : List UInt8} (h : b.length = 256) (h2 : numOf (b.drop 252) = sum (b.take 252)) (h3 : b.take 2 ≠ pgmark) : pgdec b = (0, [], 22) := by
 unfold pgdec; rw [if_neg (fun k => k h), if_neg (fun k => k h2), if_pos h3]
theorem pgdec_5 {b : List UInt8} (h : b.length = 256) (h2 : numOf (b.drop 252) = sum (b.take 252)) (h3 : b.take 2 = pgmark) (h4 : 244 < pgn b) : pgdec b = (0, [], 5) := by
 unfold pgdec; rw [if_neg (fun k => k h), if_neg (fun k => k h2), if_neg (fun k => k h3), if_pos h4]
theorem pgdec_4 {b : List UInt8} (h : b.length = 256) (h2 : numOf (b.drop 252) = sum (b.take 252)) (h3 : b.take 2 = pgmark) (h4 : ¬ 244 < pgn b) (h5 : 2147483647 < pgid b) : pgdec b = (0, [], 4) := by
 unfold pgdec; rw [if_neg (fun k => k h), if_neg (fun k => k h2), if_neg (fun k => k h3), if_neg h4, if_pos h5]
theorem pgdec_23 {b : List UInt8} (h : b.length = 256) (h2 : numOf (b.drop 252) = sum (b.take 252)) (h3 : b.take 2 = pgmark) (h4 : ¬ 244 < pgn b) (h5 : ¬ 2147483647 < pgid b) (h6 : (b.take 252).drop (8 + pgn b) ≠ List.replicate (244 - pgn b) 0) : pgdec b = (0, [], 23) := by
 unfold pgdec; rw [if_neg (fun k => k h), if_neg (fun k => k h2), if_neg (fun k => k h3), if_neg h4, if_neg h5, if_pos h6]
theorem pgdec_0 {b : List UInt8} (h : b.length = 256) (h2 : numOf (b.drop 252) = sum (b.take 252)) (h3 : b.take 2 = pgmark) (h4 : ¬ 244 < pgn b) (h5 : ¬ 2147483647 < pgid b) (h6 : (b.take 252).drop (8 + pgn b) = List.replicate (244 - pgn b) 0) : pgdec b = ((pgid b : Int), (b.take (8 + pgn b)).drop 8, 0) := by
 unfold pgdec; rw [if_neg (fun k => k h), if_neg (fun k => k h2), if_neg (fun k => k h3), if_neg h4, if_neg h5, if_neg (fun k => k h6)]
end Go.Proofs.Ytjjicajodjophaa

namespace Go.Proofs.Ytjjicajodjophaa
open Go.RowKit
noncomputable def pgseal (x : List UInt8) : Int := if x.length ≠ 256 then 3 else if numOf (x.drop 252) ≠ sum (x.take 252) then 21 else if x.take 2 ≠ pgmark then 22 else 0
theorem pgseal_3 {b : List UInt8} (h : b.length ≠ 256) : pgseal b = 3 := if_pos h
theorem pgseal_21 {b : List UInt8} (h : b.length = 256) (h2 : numOf (b.drop 252) ≠ sum (b.take 252)) : pgseal b = 21 := by
 unfold pgseal; rw [if_neg (fun k => k h), if_pos h2]
theorem pgseal_22 {b : List UInt8} (h : b.length = 256) (h2 : numOf (b.drop 252) = sum (b.take 252)) (h3 : b.take 2 ≠ pgmark) : pgseal b = 22 := by
 unfold pgseal; rw [if_neg (fun k => k h), if_neg (fun k => k h2), if_pos h3]
theorem pgseal_0 {b : List UInt8} (h : b.length = 256) (h2 : numOf (b.drop 252) = sum (b.take 252)) (h3 : b.take 2 = pgmark) : pgseal b = 0 := by
 unfold pgseal; rw [if_neg (fun k => k h), if_neg (fun k => k h2), if_neg (fun k => k h3)]
theorem pgseal_yes {b : List UInt8} (h : pgseal b = 0) : b.length = 256 ∧ numOf (b.drop 252) = sum (b.take 252) ∧ b.take 2 = pgmark := by
 by_cases h1 : b.length = 256
 ·by_cases h2 : numOf (b.drop 252) = sum (b.take 252)
  ·by_cases h3 : b.take 2 = pgmark
   ·exact ⟨h1, h2, h3⟩
   ·rw [pgseal_22 h1 h2 h3] at h; cases h
  ·rw [pgseal_21 h1 h2] at h; cases h
 ·rw [pgseal_3 h1] at h; cases h
theorem pgdec_seal {b : List UInt8} (h : pgseal b ≠ 0) : pgdec b = (0, [], pgseal b) := by
 by_cases h1 : b.length = 256
 ·by_cases h2 : numOf (b.drop 252) = sum (b.take 252)
  ·by_cases h3 : b.take 2 = pgmark
   ·exact absurd (pgseal_0 h1 h2 h3) h
   ·rw [pgseal_22 h1 h2 h3, pgdec_22 h1 h2 h3]
  ·rw [pgseal_21 h1 h2, pgdec_21 h1 h2]
 ·rw [pgseal_3 h1, pgdec_3 h1]
theorem oc4_iff {y : List UInt8} {n : Nat} (hl : y.length = 4) (hn : n < 4294967296) : y = oc n 4 ↔ numOf y = n := by
 constructor
 ·rintro rfl; exact numOf_oc _ _ (by omega)
 ·intro h; exact pnumOf_inj (by rw [oc_length, hl]) (by rw [h, numOf_oc _ _ (by omega)])
set_option maxRecDepth 100000 in
set_option maxHeartbeats 4000000 in
theorem pgseal_any (w : World) (v : Value) (x : List UInt8) (hx : Rd w v x) : Calls Try.prog 97 #[v] w fun e w' => e = .returned (.int .i64 (pgseal x)) ∧ Below w.heap.size w w' := by
 by_cases h1 : x.length = 256
 ·obtain ⟨b, o, c, rfl, hc, hcm, hR, hC⟩ := rdN hx h1 (by decide)
  have hS := sum_lt (x.take 252)
  unfold M32 at hS
  have r252 : Rd w (.slice (some ⟨b, o, none⟩) 252 c) (x.take 252) := by simpa using hR 0 252 (by omega) (by omega)
  have rS : Rd w (.slice (some ⟨b, o + 252, none⟩) 4 (c - 252)) (x.drop 252) := by
   have := hR 252 256 (by omega) (by omega)
   rwa [List.take_of_length_le (by omega)] at this
  have r2 : Rd w (.slice (some ⟨b, o, none⟩) 2 c) (x.take 2) := by simpa using hR 0 2 (by omega) (by omega)
  have lS : (x.drop 252).length = 4 := by rw [List.length_drop]; omega
  have l252 : (x.take 252).length = 252 := by rw [List.length_take]; omega
  have hq252 : (252 : Int) ≤ (c : Int) := by omega
  have hq256 : (256 : Int) ≤ (c : Int) := by omega
  have hq2 : (2 : Int) ≤ (c : Int) := by omega
  have hn252 : ¬ c = 252 := by omega
  have K1 := hide (fun u (h : Rd u (.slice (some ⟨b, o, none⟩) 252 c) (x.take 252)) => pgsumOf_any u _ _ h (by omega))
  have hS4 := oc4_iff lS hS
  have HR := hide (And.intro r252 (And.intro rS r2))
  have HL := hide lS
  have HI := hide hS4
  have h1' := hide h1
  clear r252 rS r2 lS l252 hS4 hS h1 hx hR hC hc hcm
  go_enter Try.func97, Try.ntmps97
  go_wp2_with fail
  refine wp_region_mid (fun _ => True) 4 5 mixed (by kernel_rfl) (fun _ _ _ _ h => h) trivial ?_
  dsimp only [List.take, List.drop]
  iterate 4
   refine take_one (v := ?_) (by rfl) ?_ ?_
   rotate_left
   ·intro w' s1
    go_simp
    try with_reducible rfl
   try simp only [Act.put, List.setIfInBounds_toArray, List.set_cons_zero, List.set_cons_succ]
  refine mid_one fun K hK => ?_
  refine step_call (by rfl) 84 _ _ (by rfl) #[.slice (some ⟨b, o, none⟩) 252 c] (by simp [Act.eval]) (Try.call84 _ _) (K1.out w.drew (HR.out.1.drewN 1)) ?_
  rintro e w1 ⟨v1, rfl, o1, b1⟩
  refine ⟨_, rfl, hK _ _ trivial ?_⟩
  clear hK K
  try simp only [Act.put, List.setIfInBounds_toArray, List.set_cons_zero, List.set_cons_succ]
  show wpList _ _ _ _ _ _
  clear K1
  have c1 : Below w.heap.size w w1 := (Below.refl _ _).drew.trans b1
  have K2 := hide (bytesEq_any w1 _ _ _ _ (HR.out.2.1.to c1) o1.rd (by rw [HL.out]; decide) (by rw [oc_length]; decide))
  have k2 := conv_rd (HR.out.2.2.to c1) (by rw [List.length_take, h1'.out]; decide)
  obtain ⟨va, vc, rfl⟩ := o1.rd.slice
  rw [oc_length] at K2 ⊢
  clear o1 b1
  by_cases h2 : x.drop 252 = oc (sum (x.take 252)) 4
  ·have h2' := hide (HI.out.1 h2)
   rw [sameB_eq h2] at K2
   clear h2
   go_wp2_with fail
   refine K2.out.mono ?_
   rintro e w' ⟨rfl, rfl⟩
   clear K2
   by_cases h3 : x.take 2 = pgmark
   ·have hE := hide (pgseal_0 h1'.out h2'.out h3)
    rw [h3] at k2
    replace h3 := hide h3
    go_wp2
    go_ret
    exact ⟨ret_int hE.out.symm, c1⟩
   ·have hE := hide (pgseal_22 h1'.out h2'.out h3)
    have hd2 : (x.take 2 == [112, 103]) = false := beq_eq_false_iff_ne.2 h3
    replace h3 := hide h3
    go_wp2
    go_ret
    exact ⟨ret_int hE.out.symm, c1⟩
  ·have hE := hide (pgseal_21 h1'.out (fun k => h2 (HI.out.2 k)))
   rw [sameB_ne h2] at K2
   replace h2 := hide h2
   go_wp2_with fail
   refine K2.out.mono ?_
   rintro e w' ⟨rfl, rfl⟩
   go_wp2
   go_ret
   exact ⟨ret_int hE.out.symm, c1⟩
 ·have hq : ((x.length : Int) != 256) = true := by simp only [bne_iff_ne]; omega
  have hE := hide (pgseal_3 h1)
  obtain ⟨a, c, rfl⟩ := hx.slice
  replace h1 := hide h1
  go_enter Try.func97, Try.ntmps97
  go_wp2
  go_ret
  exact ⟨ret_int hE.out.symm, Below.refl _ _⟩
set_option maxRecDepth 100000 in
set_option maxHeartbeats 4000000 in
theorem pgdecP_any (w : World) (v : Value) (x : List UInt8) (hx : Rd w v x) : Calls Try.prog 71 #[v] w fun e w' => ∃ v', e = .returned (.tuple #[.int .i64 (pgdec x).1, v', .int .i64 (pgdec x).2.2]) ∧ OwnB w.heap.size w' v' (pgdec x).2.1 ∧ Below w.heap.size w w' := by
 have KO := hide (pgseal_any w v x hx)
 by_cases h0 : pgseal x = 0
 ·rw [h0] at KO
  obtain ⟨h1, h2, h3⟩ := pgseal_yes h0
  have D5 := hide (fun h => @pgdec_5 x h1 h2 h3 h)
  have D4 := hide (fun h => @pgdec_4 x h1 h2 h3 h)
  have D23 := hide (fun h => @pgdec_23 x h1 h2 h3 h)
  have D0 := hide (fun h => @pgdec_0 x h1 h2 h3 h)
  obtain ⟨b, o, c, rfl, hc, hcm, hR, hC⟩ := rdN hx h1 (by decide)
  have ll : ((x.take 4).drop 2).length = 2 := by rw [List.length_drop, List.length_take]; omega
  have li : ((x.take 8).drop 4).length = 4 := by rw [List.length_drop, List.length_take]; omega
  have KG := hide (fun u h => get_yes u (.slice (some ⟨b, o + 2, none⟩) 2 (c - 2)) ((x.take 4).drop 2) h (by omega) (by omega))
  have KI := hide (fun u h => get_yes u (.slice (some ⟨b, o + 4, none⟩) 4 (c - 4)) ((x.take 8).drop 4) h (by omega) (by omega))
  obtain ⟨pn, pn2⟩ := pgn_int x (by omega)
  have pi2 : pgid x < 4294967296 := by
   have := numTo_lt ((x.take 8).drop 4) ((x.take 8).drop 4).length
   unfold pgid numOf
   rw [li] at this ⊢
   omega
  rw [show numOf ((x.take 4).drop 2) = pgn x from rfl] at KG
  rw [show numOf ((x.take 8).drop 4) = pgid x from rfl] at KI
  obtain ⟨n, hn⟩ : ∃ n, n = pgn x := ⟨_, rfl⟩
  obtain ⟨I, hI⟩ : ∃ I, I = pgid x := ⟨_, rfl⟩
  rw [← hn] at KG pn2 D5 D4 D23 D0
  rw [← hI] at KI pi2 D4 D23 D0
  have hq4 : (4 : Int) ≤ (c : Int) := by omega
  have hq8 : (8 : Int) ≤ (c : Int) := by omega
  have hq252 : (252 : Int) ≤ (c : Int) := by omega
  have hn2 : ¬ c = 2 := by omega
  have hn4 : ¬ c = 4 := by omega
  have hn8 : ¬ c = 8 := by omega
  have hwn : IntKind.i64.wrap (n : Int) = (n : Int) := by rw [IntKind.wrap_i64]; omega
  have hwI : IntKind.i64.wrap (I : Int) = (I : Int) := by rw [IntKind.wrap_i64]; omega
  have HR := hide hR
  have h1' := hide h1
  have hc' := hide hc
  replace hn := hide hn
  replace hI := hide hI
  clear h0 h1 h2 h3 hx hR hC hc hcm ll li pn
  go_enter Try.func71, Try.ntmps71
  go_wp2_with fail
  refine KO.out.mono ?_
  rintro e w1 ⟨rfl, b1⟩
  clear KO
  go_wp2_with fail
  refine (KG.out w1 ((HR.out 2 4 (by omega) (by omega)).to b1)).mono ?_
  rintro e w2 ⟨rfl, b2⟩
  clear KG
  have c2 := b1.trans (b2.mono b1.size)
  go_wp2_with fail
  refine (KI.out w2 ((HR.out 4 8 (by omega) (by omega)).to c2)).mono ?_
  rintro e w3 ⟨rfl, b3⟩
  clear KI
  have c3 := c2.trans (b3.mono c2.size)
  clear b1 b2 b3 c2
  by_cases h4 : 244 < n
  ·have hq : (244 : Int) < (n : Int) := by omega
   have hD := hide (D5.out h4)
   replace h4 := hide h4
   go_wp2
   go_ret3
   rw [hD.out]
   exact ⟨_, rfl, World.ownsRow_nil _ _ _ _, c3⟩
  ·have hq : ¬ (244 : Int) < (n : Int) := by omega
   by_cases h5 : 2147483647 < I
   ·have hq5 : (2147483647 : Int) < (I : Int) := by omega
    have hD := hide (D4.out h4 h5)
    replace h4 := hide h4
    replace h5 := hide h5
    go_wp2
    go_ret3
    rw [hD.out]
    exact ⟨_, rfl, World.ownsRow_nil _ _ _ _, c3⟩
   ·have hq5 : ¬ (2147483647 : Int) < (I : Int) := by omega
    have hn244 : n ≤ 244 := by omega
    have D23' := hide (D23.out h4 h5)
    have D0' := hide (D0.out h4 h5)
    have hq8n : (8 : Int) ≤ 8 + (n : Int) := by omega
    have hqn : 8 + (n : Int) ≤ (c : Int) := by omega
    have hqn2 : 8 + (n : Int) ≤ 252 := by omega
    have hnn : ¬ c = 8 + n := by have := hc'.out; omega
    replace h4 := hide h4
    replace h5 := hide h5
    go_wp2_with fail
    go_quiet (fail)
    obtain ⟨w4, hw4⟩ : ∃ u, u = w3.drewN nq := ⟨_, rfl⟩
    rw [← hw4]
    have c4 : Below w.heap.size w w4 := c3.trans (by rw [hw4]; exact below_drewN' w3 nq _)
    obtain ⟨R, hRe⟩ : ∃ R, R = 252 - (8 + n) := ⟨_, rfl⟩
    obtain ⟨D, hDe⟩ : ∃ D, D = 8 + n - 8 := ⟨_, rfl⟩
    rw [← hRe, ← hDe]
    have rT : Rd w4 (.slice (some ⟨b, o + (8 + n), none⟩) R (c - (8 + n))) ((x.take 252).drop (8 + n)) := by
     rw [hRe]; exact (HR.out (8 + n) 252 (by omega) (by omega)).to c4
    have rD : Rd w4 (.slice (some ⟨b, o + 8, none⟩) D (c - 8)) ((x.take (8 + n)).drop 8) := by
     rw [hDe]; exact (HR.out 8 (8 + n) (by omega) (by omega)).to c4
    have lT : ((x.take 252).drop (8 + n)).length = R := by rw [List.length_drop, List.length_take, h1'.out, hRe]; omega
    have hRn : R = 244 - n := by omega
    have hmk := make_octs (n := R) (by omega) w4
    have oz := own_made w4 R (by rw [show maxLen = 9223372036854775807 from rfl]; omega)
    obtain ⟨w5, hw5⟩ : ∃ u, u = w4.alloc (.cells (madeCells #[.int .u8 0] R) 5) := ⟨_, rfl⟩
    rw [← hw5] at hmk oz
    have b5 : Below w4.heap.size w4 w5 := by rw [hw5]; exact (Below.refl _ _).alloc (Nat.le_refl _) _
    have K3 := hide (bytesEq_at w5 _ _ _ _ _ _ _ _ _ _ (rT.to b5) oz.rd lT (by simp))
    have c5 := c4.trans (b5.mono c4.size)
    have KC := hide (bclone_at w5 _ _ _ _ _ (rD.to b5) (by rw [List.length_drop, List.length_take, h1'.out]; omega))
    replace hw4 := hide hw4
    replace hw5 := hide hw5
    replace hDe := hide hDe
    replace hRe := hide hRe
    rw [← hRn] at D23' D0'
    replace hRn := hide hRn
    clear rT rD lT oz b5 c4 c3
    by_cases h6 : (x.take 252).drop (8 + n) = List.replicate R 0
    ·have hD := hide (D0'.out h6)
     rw [sameB_eq h6] at K3
     replace h6 := hide h6
     go_wp2_with fail
     refine K3.out.mono ?_
     rintro e w' ⟨rfl, rfl⟩
     clear K3
     go_wp2_with fail
     refine KC.out.mono ?_
     rintro e w6 ⟨v6, rfl, o6, b6⟩
     go_wp2
     go_ret3
     rw [hD.out]
     exact ⟨_, rfl, o6.mono c5.size, c5.trans (b6.mono c5.size)⟩
    ·have hD := hide (D23'.out h6)
     rw [sameB_ne h6] at K3
     replace h6 := hide h6
     go_wp2_with fail
     refine K3.out.mono ?_
     rintro e w' ⟨rfl, rfl⟩
     clear K3
     go_wp2
     go_ret3
     rw [hD.out]
     exact ⟨_, rfl, World.ownsRow_nil _ _ _ _, c5⟩
 ·have hD := hide (pgdec_seal h0)
  have hbe : (pgseal x != 0) = true := by simpa using h0
  obtain ⟨a, c, rfl⟩ := hx.slice
  replace h0 := hide h0
  go_enter Try.func71, Try.ntmps71
  go_wp2_with fail
  refine KO.out.mono ?_
  rintro e w1 ⟨rfl, b1⟩
  go_wp2
  go_ret3
  rw [hD.out]
  exact ⟨_, rfl, World.ownsRow_nil _ _ _ _, b1⟩
end Go.Proofs.Ytjjicajodjophaa

namespace Go.Proofs.Ytjjicajodjophaa
open Go.RowKit
theorem pgsect_9 {d : Dsk} {at' : Int} (h : ¬ DOk d) : pgsect d at' = 9 := if_pos h
theorem pgsect_41 {d : Dsk} {at' : Int} (h : DOk d) (h2 : at' < 0 ∨ (d.1.length : Int) - 4 < at') : pgsect d at' = 41 := by unfold pgsect; rw [if_neg (fun k => k h), if_pos h2]
theorem pgwrite_sect {d : Dsk} {at' id : Int} {x : List UInt8} (h : pgsect d at' ≠ 0) : pgwrite d at' id x = (([], []), pgsect d at') := if_pos h
theorem pgwrite_enc {d : Dsk} {at' id : Int} {x : List UInt8} (h : pgsect d at' = 0) (h2 : (pgenc id x).2 ≠ 0) : pgwrite d at' id x = (([], []), (pgenc id x).2) := by
 unfold pgwrite; rw [if_neg (fun k => k h), if_pos h2]
theorem pgwrite_full {d : Dsk} {at' id : Int} {x : List UInt8} (h : pgsect d at' = 0) (h2 : (pgenc id x).2 = 0) (h3 : 4092 < d.2.length) : pgwrite d at' id x = (([], []), 51) := by
 unfold pgwrite; rw [if_neg (fun k => k h), if_neg (fun k => k h2), if_pos h3]
theorem pgwrite_0 {d : Dsk} {at' id : Int} {x : List UInt8} (h : pgsect d at' = 0) (h2 : (pgenc id x).2 = 0) (h3 : ¬ 4092 < d.2.length) : pgwrite d at' id x = ((d.1, d.2 ++ pws at' (pgenc id x).1 4), 0) := by
 unfold pgwrite; rw [if_neg (fun k => k h), if_neg (fun k => k h2), if_neg h3]
theorem lastOf_len {k : Int} {x : List UInt8} {ws : List Wrt} (hx : x.length = 64) (hw : ∀ y ∈ ws, y.2.length = 64) : (lastOf k x ws).length = 64 := by
 unfold lastOf
 induction ws generalizing x with
 | nil => exact hx
 | cons y r ih =>
  rw [List.foldl_cons]
  exact ih (by split; exact hw y (List.mem_cons_self ..); exact hx) fun z hz => hw z (List.mem_cons_of_mem _ hz)
theorem dget_len {d : Dsk} {k : Int} (h : DOk d) (h0 : 0 ≤ k) (h1 : k < d.1.length) : (dget d k).1.length = 64 := by
 rw [dget_at h h0 h1]
 exact lastOf_len (h.2.2.2.1 _ (getD_mem (by omega))) fun y hy => (h.2.2.2.2 y hy).2
theorem pgot_len {d : Dsk} {at' : Int} (h : DOk d) (h0 : 0 ≤ at') (h1 : at' ≤ (d.1.length : Int) - 4) : ∀ K, K ≤ 4 → (pgot d at' K).length = 64 * K
 | 0, _ => rfl
 | K + 1, hK => by
  rw [pgot, List.length_append, pgot_len h h0 h1 K (by omega), dget_len h (by omega) (by omega)]; omega
theorem pgread_sect {d : Dsk} {at' id : Int} (h : pgsect d at' ≠ 0) : pgread d at' id = ([], pgsect d at') := if_pos h
theorem pgread_no {d : Dsk} {at' id : Int} (h : pgsect d at' = 0) (h2 : (pgdec (pgot d at' 4)).2.2 ≠ 0 ∨ (pgdec (pgot d at' 4)).1 ≠ id) : pgread d at' id = ([], 21) := by
 unfold pgread; rw [if_neg (fun k => k h), if_pos h2]
theorem pgread_0 {d : Dsk} {at' id : Int} (h : pgsect d at' = 0) (h2 : (pgdec (pgot d at' 4)).2.2 = 0) (h3 : (pgdec (pgot d at' 4)).1 = id) : pgread d at' id = ((pgdec (pgot d at' 4)).2.1, 0) := by
 unfold pgread; rw [if_neg (fun k => k h), if_neg]
 rintro (k | k)
 ·exact k h2
 ·exact k h3
end Go.Proofs.Ytjjicajodjophaa

namespace Go.Proofs.Ytjjicajodjophaa
open Go.RowKit
set_option maxRecDepth 100000 in
set_option maxHeartbeats 1000000 in
theorem ppgsect_any (w : World) (sv cv : Value) (d : Dsk) (at' : Int) (h1 : RdSec w sv d.1) (h2 : RdC w cv d.2) :
  Calls Try.prog 53 #[.agg #[sv, cv], .int .i64 at'] w fun e w' => e = .returned (.int .i64 (pgsect d at')) ∧ Below w.heap.size w w' := by
 have lb := h1.bd
 obtain ⟨a1, c1, rfl⟩ := h1.slice
 obtain ⟨a2, c2, rfl⟩ := h2.slice
 obtain ⟨X, hX, X0, bX, sX⟩ := boxedN w #[.slice a1 d.1.length c1, .slice a2 d.2.length c2] 31
 obtain ⟨A0, A1, _, _⟩ := row2_cells X0
 have KC := hide (dcheck_any X _ _ d (h1.to0 bX) (h2.to0 bX))
 rw [hX] at A0 A1
 go_enter Try.func53, Try.ntmps53
 by_cases hok : DOk d
 ·rw [dcheck_ok hok] at KC
  go_wp2_with fail
  rw [← hX]
  rw [← hX] at A0 A1
  replace hX := hide hX
  refine KC.out.mono ?_
  rintro e w1 ⟨rfl, b1⟩
  replace A0 := (b1.cell (cell_lt A0)).trans A0
  by_cases hl : at' < 0
  ·have hE := hide (pgsect_41 hok (.inl hl))
   replace hok := hide hok
   go_wp2
   go_ret
   exact ⟨ret_int hE.out.symm, bX.trans (b1.mono bX.size)⟩
  ·by_cases hl2 : (d.1.length : Int) - 4 < at'
   ·have hE := hide (pgsect_41 hok (.inr hl2))
    replace hok := hide hok
    go_wp2
    go_ret
    exact ⟨ret_int hE.out.symm, bX.trans (b1.mono bX.size)⟩
   ·have hE := hide (pgsect_0.2 ⟨hok, by omega, by omega⟩ : pgsect d at' = 0)
    replace hok := hide hok
    go_wp2
    go_ret
    exact ⟨ret_int hE.out.symm, bX.trans (b1.mono bX.size)⟩
 ·rw [dcheck_no hok] at KC
  have hE := hide (pgsect_9 (at' := at') hok)
  replace hok := hide hok
  go_wp2_with fail
  rw [← hX]
  replace hX := hide hX
  refine KC.out.mono ?_
  rintro e w1 ⟨rfl, b1⟩
  go_wp2
  go_ret
  exact ⟨ret_int hE.out.symm, bX.trans (b1.mono bX.size)⟩
set_option maxRecDepth 100000 in
set_option maxHeartbeats 4000000 in
theorem ppgread_any (w : World) (sv cv : Value) (d : Dsk) (at' id : Int) (h1 : RdSec w sv d.1) (h2 : RdC w cv d.2) :
  Calls Try.prog 33 #[.agg #[sv, cv], .int .i64 at', .int .i64 id] w fun e w' => ∃ v', e = .returned (.tuple #[v', .int .i64 (pgread d at' id).2]) ∧ OwnB w.heap.size w' v' (pgread d at' id).1 ∧ Below w.heap.size w w' := by
 obtain ⟨a1, c1, rfl⟩ := h1.slice
 obtain ⟨a2, c2, rfl⟩ := h2.slice
 obtain ⟨X, hX, X0, bX, sX⟩ := boxedN w #[.slice a1 d.1.length c1, .slice a2 d.2.length c2] 31
 have H1 := hide (h1.to0 bX)
 have H2 := hide (h2.to0 bX)
 have KC := hide (ppgsect_any X _ _ d at' H1.out H2.out)
 obtain ⟨E, hE⟩ : ∃ E, E = pgsect d at' := ⟨_, rfl⟩
 rw [← hE] at KC
 obtain ⟨A0, A1, _, _⟩ := row2_cells X0
 rw [hX] at A0 A1
 go_enter Try.func33, Try.ntmps33
 go_wp2_with fail
 rw [← hX]
 clear A0 A1
 replace hX := hide hX
 refine KC.out.mono ?_
 rintro e w1 ⟨rfl, b1⟩
 clear KC h1 h2
 have X1 := hide ((b1.block _ (lt_of_block X0)).trans X0)
 have c1w := hide (bX.trans (b1.mono bX.size))
 replace H1 := hide (H1.out.to0 b1)
 replace H2 := hide (H2.out.to0 b1)
 have hlt : w.heap.size < w1.heap.size := lt_of_block X1.out
 clear X0 bX b1
 by_cases h0 : E = 0
 ·have hsec : Hid (pgsect d at' = 0) := by show _ = _; rw [← hE]; exact h0
  subst h0
  replace hE := hide hE
  obtain ⟨hok, hp0, hp1⟩ := pgsect_0.1 hsec.out
  have hsl := hok.2.1
  have hgl := hide (pgot_len hok hp0 hp1)
  have hdl := hide (fun k p q => @dget_len d k hok p q)
  have hok' := hide hok
  clear hok
  go_wp2
  go_loopw [9, 22] (fun v i wr => ∃ K : Nat, K ≤ 4 ∧ i = .int .i64 K ∧ Hid (OwnB w1.heap.size wr v (pgot d at' K) ∧ Below w1.heap.size w1 wr)) (fun _ i _ => 4 - (intOf i).toNat)
  case atStart => exact ⟨0, by omega, rfl, hide ⟨World.ownsRow_nil _ _ _ _, Below.refl _ _⟩⟩
  case round =>
   obtain ⟨K, hK, rfl, hI⟩ := hrel
   by_cases hlk : K < 4
   ·have hqk : (K : Int) < 4 := by omega
    obtain ⟨A0, A1, _, _⟩ := row2_cells ((hI.out.2.block _ hlt).trans X1.out)
    have KG := hide (dget_any wr _ _ d (at' + K) (H1.out.to0 hI.out.2) (H2.out.to0 hI.out.2))
    have hl64 := hide (hdl.out (at' + K) (by omega) (by omega))
    have hnx : Hid (pgot d at' (K + 1) = pgot d at' K ++ (dget d (at' + K)).1) := rfl
    obtain ⟨g, ge, hg⟩ : ∃ g ge, dget d (at' + K) = (g, ge) := ⟨_, _, rfl⟩
    rw [hg] at KG hl64 hnx
    dsimp only at KG hl64 hnx
    clear hg
    obtain ⟨Y, hY⟩ : ∃ Y, Y = pgot d at' K := ⟨_, rfl⟩
    have hYl : Hid (Y.length = 64 * K) := by show _ = _; rw [hY]; exact hgl.out K (by omega)
    rw [← hY] at hnx hI
    replace hY := hide hY
    obtain ⟨s9, t9, h9⟩ := hI.out.1.rd.slice
    subst h9
    go_wp2_with fail
    refine KG.out.mono ?_
    rintro e w3 ⟨v3, rfl, o3, b3⟩
    clear KG A0 A1
    have oA := hI.out.1.below (Nat.le_refl _) b3
    have bA := hide (hI.out.2.trans (b3.mono hI.out.2.size))
    have r3 := o3.rd
    obtain ⟨s3, t3, h3⟩ := r3.slice
    subst h3
    have hl : Y.length + g.length ≤ 140737488355328 := by rw [hYl.out, hl64.out]; omega
    have hsz := bA.out.size
    clear o3 b3 hI
    go_wp2_with (at_builtin; refine wpList_append_octs rfl _ _ rfl w1.heap.size _ _ Y g rfl rfl oA r3 hl hsz ?_; intro v6 w6 o6 b6 _)
    go_roundw
    case rel => exact ⟨K + 1, by omega, by go_num, hide ⟨by rw [hnx.out]; exact o6, bA.out.trans b6⟩⟩
    case measure => simp [intOf]; omega
   ·have hqk : ¬ (K : Int) < 4 := by omega
    obtain rfl : K = 4 := by omega
    have oH := hI.out.1
    have bH := hide hI.out.2
    have KD := hide (pgdecP_any wr _ _ oH.rd)
    have sN := hide (fun h => @pgread_no d at' id hsec.out h)
    have sY := hide (fun h h2 => @pgread_0 d at' id hsec.out h h2)
    obtain ⟨Y, hY⟩ : ∃ Y, Y = pgot d at' 4 := ⟨_, rfl⟩
    rw [← hY] at KD sN sY oH
    obtain ⟨n, x, er, hD⟩ : ∃ n x er, pgdec Y = (n, x, er) := ⟨_, _, _, rfl⟩
    rw [hD] at KD sN sY
    dsimp only at KD sN sY
    obtain ⟨s9, t9, h9⟩ := oH.rd.slice
    subst h9
    clear hD hY hI oH
    go_wp2_with fail
    refine KD.out.mono ?_
    rintro e w3 ⟨v3, rfl, o3, b3⟩
    have c3 := hide (c1w.out.trans (((bH.out).trans (b3.mono bH.out.size)).mono c1w.out.size))
    obtain ⟨s3, t3, h3⟩ := o3.rd.slice
    subst h3
    have hb3 : Hid (w.heap.size ≤ wr.heap.size) := Nat.le_trans c1w.out.size bH.out.size
    replace o3 := hide o3
    clear b3 KD
    by_cases he : er = 0
    ·subst he
     by_cases hn : n = id
     ·have hS := hide (sY.out (by trivial) hn)
      subst hn
      go_wp2
      go_ret2
      rw [hS.out]
      exact ⟨_, rfl, o3.out.mono hb3.out, c3.out⟩
     ·have hS := hide (sN.out (.inr hn))
      have hne : (n != id) = true := by simpa using hn
      replace hn := hide hn
      go_wp2
      go_ret2
      rw [hS.out]
      exact ⟨_, rfl, World.ownsRow_nil _ _ _ _, c3.out⟩
    ·have hS := hide (sN.out (.inl he))
     have hee : (er != 0) = true := by simpa using he
     replace he := hide he
     go_wp2
     go_ret2
     rw [hS.out]
     exact ⟨_, rfl, World.ownsRow_nil _ _ _ _, c3.out⟩
 ·have hS := hide (pgread_sect (d := d) (at' := at') (id := id) (by rw [← hE]; exact h0))
  have hbe : (E != 0) = true := by simpa using h0
  replace h0 := hide h0
  replace hE := hide hE
  go_wp2
  go_ret2
  rw [hS.out]
  exact ⟨_, by rw [← hE.out]; rfl, World.ownsRow_nil _ _ _ _, c1w.out⟩
end Go.Proofs.Ytjjicajodjophaa

namespace Go.Proofs.Ytjjicajodjophaa
open Go.RowKit
theorem OwnF.num {T : Nat} {F : List Nat} {w : World} {a b : Value} {n : Int} {s : List Wrt} {wt : List (List UInt8)} (h : OwnF (SLg T) F w [a, .int .i64 n, b] (s, n, wt)) (m : Int) : OwnF (SLg T) F w [a, .int .i64 m, b] (s, m, wt) := by
 obtain ⟨FA, FB, rfl, hA, hB, hd⟩ := OwnF.split (c := [a]) (d := [.int .i64 n, b]) h rfl
 obtain ⟨FC, FD, rfl, hC, hD, hd2⟩ := OwnF.split (c := [.int .i64 n]) (d := [b]) hB rfl
 obtain ⟨⟨rfl, _⟩, _⟩ := hC
 exact OwnF.join (c := [a]) (d := [.int .i64 m, b]) hA (OwnF.join (c := [.int .i64 m]) (d := [b]) (s := Shp.int .i64) ⟨⟨rfl, rfl⟩, List.nodup_nil⟩ hD (fun b hb => by cases hb)) hd
end Go.Proofs.Ytjjicajodjophaa

namespace Go.Proofs.Ytjjicajodjophaa
open Go.RowKit
abbrev S3 (g : Nat) (w : World) (x y z : Value) : World := ((w.setCell ⟨g, 0, none⟩ x).setCell ⟨g, 1, none⟩ y).setCell ⟨g, 2, none⟩ z
theorem S3.size (g : Nat) (w : World) (x y z : Value) : (S3 g w x y z).heap.size = w.heap.size := by simp
end Go.Proofs.Ytjjicajodjophaa

namespace Go.Proofs.Ytjjicajodjophaa
open Go.RowKit
theorem OwnV.keepT {B C : Nat} {w w' : World} {v : Value} {xss : List (List UInt8)} (h : OwnV B C w v xss) (k1 : KeepT 5 w w') (k2 : KeepT 62 w w') : OwnV B C w' v xss := by
 obtain ⟨vs, h1, h2, h3⟩ := h
 exact ⟨vs, h1, rows_keepT h2 k2, fun i hi => rows_keepT (h3 i hi) k1⟩
structure RInv (TS TL : Nat) (w wr : World) (o c : Value) (st : Wst) : Prop where
 box : wr.heap[w.heap.size + 1]? = some (.cells #[c, .int .i64 st.1.2, .slice none 0 0] TL (0, 0))
 ans : wr.heap[w.heap.size]? = some (.cells #[.slice none 0 0, .int .i64 0, .slice none 0 0] TL (0, 0))
 segs : OwnW TS w.heap.size wr c st.1.1
 recs : OwnV w.heap.size 0 wr o st.2
 bel : Below w.heap.size w wr
theorem RInv.to {TS TL : Nat} {w wr w' : World} {o c : Value} {st : Wst} (h : RInv TS TL w wr o c st) (hb : Below wr.heap.size wr w') : RInv TS TL w w' o c st :=
 ⟨(hb.block _ (lt_of_block h.box)).trans h.box, (hb.block _ (lt_of_block h.ans)).trans h.ans, h.segs.keepT (KeepT.below hb) (KeepT.below hb), h.recs.keepT (KeepT.below hb) (KeepT.below hb), h.bel.trans (hb.mono h.bel.size)⟩
theorem RInv.push {TS TL : Nat} {w u : World} {o c : Value} {ss : List Wrt} {nx : Int} {rs : List (List UInt8)} (h : RInv TS TL w u o c ((ss, nx), rs)) (t1 : TS ≠ 5) (t2 : TS ≠ 62) (t3 : TL ≠ 5) (t4 : TL ≠ 62) (t5 : TL ≠ TS) :
  ∃ cc, u.ownsRow 0 TS 2 c ss.length cc ∧ ∀ (w6 : World) (z : Int) (x : List UInt8) (sv : Value) (g cap : Nat), OwnB 0 u sv x → u.grownBy w6 c.ownBlock → w6.ownsRow 0 TS 2 (.slice (some ⟨g, 0, none⟩) (ss.length + 1) cap) (ss.length + 1) (cc ++ [.int .i64 z, sv]) → (c.ownBlock = some g ∨ g = u.heap.size) →
   (w6.cell? ⟨w.heap.size + 1, 0, none⟩ = some c ∧ w6.frozen? ⟨w.heap.size + 1, 0, none⟩ = false) ∧ RInv TS TL w (w6.setCell ⟨w.heap.size + 1, 0, none⟩ (.slice (some ⟨g, 0, none⟩) (ss.length + 1) cap)) o (.slice (some ⟨g, 0, none⟩) (ss.length + 1) cap) ((ss ++ [(z, x)], nx), rs) ∧ ∀ e, e ≠ TS → e ≠ TL → KeepT e u (w6.setCell ⟨w.heap.size + 1, 0, none⟩ (.slice (some ⟨g, 0, none⟩) (ss.length + 1) cap)) := by
 obtain ⟨svs, h1, h2, h3⟩ := h.segs
 refine ⟨_, rows_mono h2 (Nat.zero_le _), fun w6 z x sv g cap hs hg hw hlie => ?_⟩
 have hb6 := KeepT.grown h2 hg t5 _ _ _ h.box
 have ha6 := KeepT.grown h2 hg t5 _ _ _ h.ans
 have hcell := cells3 hb6
 have hw' : w6.ownsRow w.heap.size TS 2 (.slice (some ⟨g, 0, none⟩) (ss.length + 1) cap) (ss.length + 1) (wcells ss svs ++ [.int .i64 z, sv]) := by
  refine ⟨hw.1, ?_⟩
  rcases hw.2 with ⟨e, _⟩ | ⟨g', cap', cur, hv, hgb, r⟩
  ·cases e
  ·refine .inr ⟨g', cap', cur, hv, ?_, r⟩
   simp only [Value.slice.injEq, Option.some.injEq, Addr.mk.injEq] at hv
   obtain ⟨⟨rfl, _⟩, _⟩ := hv
   rcases hlie with e | e
   ·exact rows_from h2 _ e
   ·have := h.bel.size; omega
 have hS := OwnW.snoc (f := (z, x)) t1 h1 h2 h3 hs hg hw'
 have s6 : ∀ e, e ≠ TL → KeepT e w6 (w6.setCell ⟨w.heap.size + 1, 0, none⟩ (.slice (some ⟨g, 0, none⟩) (ss.length + 1) cap)) := fun e he => KeepT.set (a := ⟨w.heap.size + 1, 0, none⟩) hb6 he _
 refine ⟨⟨hcell.1.1, hcell.2 0⟩, ⟨set3_0 hb6 _, ?_, hS.keepT (s6 _ t3.symm) (s6 _ t5.symm), ?_, ?_⟩, fun e e1 e2 => (KeepT.grown h2 hg e1).trans (s6 e e2)⟩
 ·rw [Below.heap_setCell _ _ _ _ (show w.heap.size ≠ w.heap.size + 1 by omega)]; exact ha6
 ·exact (h.recs.keepT (KeepT.grown h2 hg t1.symm) (KeepT.grown h2 hg t2.symm)).keepT (s6 _ t3.symm) (s6 _ t4.symm)
 ·exact (h.bel.grown hg h.bel.size (rows_from h2)).setCell (p := ⟨w.heap.size + 1, 0, none⟩) (show w.heap.size ≤ w.heap.size + 1 by omega) _
theorem RInv.all {TS TL : Nat} {w u w' : World} {o o' c : Value} {a : List Wrt × Int} {rs rs' : List (List UInt8)} (h : RInv TS TL w u o c (a, rs)) (t2 : TS ≠ 62) (t4 : TL ≠ 62) (ho : OwnV w.heap.size 0 w' o' rs') (hb : Below w.heap.size u w') (hk : ∀ e, e ≠ 62 → KeepT e u w') : RInv TS TL w w' o' c (a, rs') :=
 ⟨hk _ t4 _ _ _ h.box, hk _ t4 _ _ _ h.ans, h.segs.keepT (hk _ (by decide)) (hk _ t2), ho, h.bel.trans hb⟩
theorem RInv.num {TS TL : Nat} {w u : World} {o c : Value} {ss : List Wrt} {nx : Int} {rs : List (List UInt8)} (h : RInv TS TL w u o c ((ss, nx), rs)) (t3 : TL ≠ 5) (t4 : TL ≠ 62) (t5 : TL ≠ TS) (m : Int) : RInv TS TL w (u.setCell ⟨w.heap.size + 1, 1, none⟩ (.int .i64 m)) o c ((ss, m), rs) := by
 have s6 : ∀ e, e ≠ TL → KeepT e u (u.setCell ⟨w.heap.size + 1, 1, none⟩ (.int .i64 m)) := fun e he => KeepT.set (a := ⟨w.heap.size + 1, 1, none⟩) h.box he _
 refine ⟨set3_1 h.box _, ?_, h.segs.keepT (s6 _ t3.symm) (s6 _ t5.symm), h.recs.keepT (s6 _ t3.symm) (s6 _ t4.symm), h.bel.setCell (p := ⟨w.heap.size + 1, 1, none⟩) (show w.heap.size ≤ w.heap.size + 1 by omega) _⟩
 rw [Below.heap_setCell _ _ _ _ (show w.heap.size ≠ w.heap.size + 1 by omega)]; exact h.ans
theorem RInv.ret {TS TL : Nat} {w u : World} {o c : Value} {ss : List Wrt} {nx : Int} {rs : List (List UInt8)} (h : RInv TS TL w u o c ((ss, nx), rs)) (t3 : TL ≠ 5) (t4 : TL ≠ 62) (t5 : TL ≠ TS) (x y z : Value) :
  RdC (S3 w.heap.size u x y z) c ss ∧ RdSec (S3 w.heap.size u x y z) o rs ∧ Below w.heap.size w (S3 w.heap.size u x y z) := by
 have k0 : ∀ e, e ≠ TL → KeepT e u (S3 w.heap.size u x y z) := fun e he =>
  ((KeepT.set (a := ⟨w.heap.size, 0, none⟩) h.ans he x).trans (KeepT.set (a := ⟨w.heap.size, 1, none⟩) (set3_0 h.ans x) he y)).trans (KeepT.set (a := ⟨w.heap.size, 2, none⟩) (set3_1 (set3_0 h.ans x) y) he z)
 exact ⟨(h.segs.keepT (k0 _ t3.symm) (k0 _ t5.symm)).rd, (h.recs.keepT (k0 _ t3.symm) (k0 _ t4.symm)).rd, below_set3 h.bel (Nat.le_refl _) _ _ _⟩
end Go.Proofs.Ytjjicajodjophaa

namespace Go.Proofs.Ytjjicajodjophaa
open Go.RowKit
end Go.Proofs.Ytjjicajodjophaa

namespace Go.Proofs.Ytjjicajodjophaa
open Go.RowKit
end Go.Proofs.Ytjjicajodjophaa

namespace Go.Proofs.Ytjjicajodjophaa
open Go.RowKit
end Go.Proofs.Ytjjicajodjophaa

namespace Go.Proofs.Ytjjicajodjophaa
open Go.RowKit
end Go.Proofs.Ytjjicajodjophaa

namespace Go.Proofs.Ytjjicajodjophaa
open Go.RowKit
end Go.Proofs.Ytjjicajodjophaa

namespace Go.Proofs.Ytjjicajodjophaa
open Go.RowKit
theorem rows_keepB {w w' : World} {B e s n : Nat} {v : Value} {xs : List Value} (h : w.ownsRow B e s v n xs) (k : ∀ b, B ≤ b → b < w.heap.size → w'.heap[b]? = w.heap[b]?) : w'.ownsRow B e s v n xs := by
 refine ⟨h.1, ?_⟩
 rcases h.2 with hn | ⟨g, cap, cur, hv, hgb, hg, r⟩
 ·exact .inl hn
 ·exact .inr ⟨g, cap, cur, hv, hgb, (k g hgb (lt_of_block hg)).trans hg, r⟩
theorem OwnV.keepB {B : Nat} {w w' : World} {v : Value} {xss : List (List UInt8)} (h : OwnV B B w v xss) (k : ∀ b, B ≤ b → b < w.heap.size → w'.heap[b]? = w.heap[b]?) : OwnV B B w' v xss := by
 obtain ⟨vs, h1, h2, h3⟩ := h
 exact ⟨vs, h1, rows_keepB h2 k, fun i hi => rows_keepB (h3 i hi) k⟩
theorem Own.keepB {α : Type} {s : Shp α} {B : Nat} {w w' : World} {cs : List Value} {x : α} (h : Own s B w cs x) (k : ∀ b, B ≤ b → b < w.heap.size → w'.heap[b]? = w.heap[b]?) : Own s B w' cs x :=
 let ⟨F, h1, h2, h3⟩ := h; ⟨F, s.own_to h1 fun b hb' => k b (h3 b hb') (s.own_lt h1 b hb'), h2, h3⟩
theorem OwnW.mono {T B C : Nat} {w : World} {v : Value} {ws : List Wrt} (h : OwnW T B w v ws) (hC : C ≤ B) : OwnW T C w v ws := by
 obtain ⟨vs, h1, h2, h3⟩ := h
 exact ⟨vs, h1, rows_mono h2 hC, h3⟩
def LgF (T B : Nat) (w : World) (sv wv : Value) (l : Wlg) : Prop := Own (Shp.list T SWr) B w [sv] l.1 ∧ OwnV B B w wv l.2.2
theorem LgF.keepB {T B : Nat} {w w' : World} {sv wv : Value} {l : Wlg} (h : LgF T B w sv wv l) (k : ∀ b, B ≤ b → b < w.heap.size → w'.heap[b]? = w.heap[b]?) : LgF T B w' sv wv l := ⟨h.1.keepB k, h.2.keepB k⟩
theorem LgF.to {T B : Nat} {w w' : World} {sv wv : Value} {l : Wlg} (h : LgF T B w sv wv l) (hb : Below w.heap.size w w') : LgF T B w' sv wv l := h.keepB fun b _ hb' => hb.block b hb'
theorem LgF.set {T B : Nat} {w : World} {sv wv : Value} {l : Wlg} (h : LgF T B w sv wv l) {a : Addr} (ha : a.block < B) (u : Value) : LgF T B (w.setCell a u) sv wv l := h.keepB fun b hb _ => Below.heap_setCell _ _ _ _ (fun e => by omega)
theorem LgF.mono {T B C : Nat} {w : World} {sv wv : Value} {l : Wlg} (h : LgF T B w sv wv l) (hC : C ≤ B) : LgF T C w sv wv l := ⟨h.1.mono hC, h.2.mono hC hC⟩
theorem LgF.zero (T B : Nat) (w : World) : LgF T B w (.slice none 0 0) (.slice none 0 0) wzero := ⟨Own.nil _ _ _ _, OwnV.nil _ _ _⟩
end Go.Proofs.Ytjjicajodjophaa

namespace Go.Proofs.Ytjjicajodjophaa
open Go.RowKit
end Go.Proofs.Ytjjicajodjophaa

namespace Go.Proofs.Ytjjicajodjophaa
open Go.RowKit
end Go.Proofs.Ytjjicajodjophaa

namespace Go.Proofs.Ytjjicajodjophaa
open Go.RowKit
noncomputable def dmPg (d : Dsk) (p : Ext) : List D3 := if (pgread d p.1 p.2).2 = 0 then [] else [(1, p.2, p.1)]
noncomputable def upgs (d : Dsk) (l : List Ext) : List D3 := l.flatMap (dmPg d)
noncomputable def upg (d : Dsk) (l : List Ext) : List D3 × Int := if dcheck d ≠ 0 then ([], dcheck d) else if 4096 < l.length then ([], 3) else (upgs d l, 0)
theorem dmPg_len (d : Dsk) (p : Ext) : (dmPg d p).length ≤ 1 := by unfold dmPg; split <;> simp
theorem upgs_len (d : Dsk) : ∀ l : List Ext, (upgs d l).length ≤ l.length
 | [] => by simp [upgs]
 | p :: r => by
  have := upgs_len d r
  have := dmPg_len d p
  unfold upgs at *
  rw [List.flatMap_cons, List.length_append, List.length_cons]
  omega
theorem upgs_next {d : Dsk} {l : List Ext} {k : Nat} {p : Ext} (h : l[k]? = some p) : upgs d (l.take (k + 1)) = upgs d (l.take k) ++ dmPg d p := by
 unfold upgs
 rw [List.take_add_one, h, List.flatMap_append]
 simp
abbrev TDP : Nat := 42
theorem infoDP : (Try.prog.info? 42).map (fun i => (i.zero, i.size, i.bytes)) = some (some (.agg #[.int .i64 0, .int .i64 0, .int .i64 0]), 3, 24) := by kernel_rfl
set_option maxRecDepth 100000 in
set_option maxHeartbeats 4000000 in
theorem ppages_any (w : World) (sv cv lv : Value) (d : Dsk) (l : List Ext) (h1 : RdSec w sv d.1) (h2 : RdC w cv d.2) (h : RdE w lv l) :
  Calls Try.prog 10 #[.agg #[sv, cv], lv] w fun e w' => ∃ v', e = .returned (.tuple #[v', .int .i64 (upg d l).2]) ∧ OwnD TDP w.heap.size w' v' (upg d l).1 ∧ Below w.heap.size w w' := by
 have bl := h.bd
 obtain ⟨a1, c1, rfl⟩ := h1.slice
 obtain ⟨a2, c2, rfl⟩ := h2.slice
 obtain ⟨a, c, rfl⟩ := h.slice
 obtain ⟨W, hW, D0, D1, bW, sW⟩ := boxed2 w (.slice a1 d.1.length c1) (.slice a2 d.2.length c2) 31
 have KC := hide (dcheck_any W _ _ d (h1.to0 bW) (h2.to0 bW))
 have H1 := hide (h1.to0 bW)
 have H2 := hide (h2.to0 bW)
 have HL := hide (h.to0 bW)
 have HB := hide bW
 have HD := hide (And.intro D0 D1)
 clear h1 h2 h bW
 rw [hW] at D0 D1 KC
 generalize hd1 : d.1.length = n1 at *
 generalize hd2 : d.2.length = n2 at *
 replace hd1 := hide hd1
 replace hd2 := hide hd2
 go_enter Try.func10, Try.ntmps10
 go_wp2_with fail
 refine KC.out.mono ?_
 rw [← hW]
 rintro e w1 ⟨rfl, b1⟩
 clear KC D0 D1
 have B1 := hide b1
 have sz1 : w.heap.size ≤ w1.heap.size := by have := b1.size; omega
 by_cases hc : dcheck d = 0
 ·rw [hc]
  replace hc := hide hc
  by_cases hn : 4096 < l.length
  ·have hq : (4096 : Int) < (l.length : Int) := by omega
   have hE : Hid (upg d l = ([], 3)) := by show _ = _; unfold upg; rw [if_neg (fun k => k hc.out), if_pos hn]
   replace hn := hide hn
   clear b1
   go_wp2
   go_ret2
   rw [hE.out]
   exact ⟨_, rfl, OwnD.nil _ _ _, HB.out.trans (B1.out.mono HB.out.size)⟩
  ·have hq : ¬ (4096 : Int) < (l.length : Int) := by omega
   have hE : Hid (upg d l = (upgs d l, 0)) := by show _ = _; unfold upg; rw [if_neg (fun k => k hc.out), if_neg hn]
   have hn' : l.length ≤ 4096 := by omega
   clear hn b1
   go_wp2
   go_loopw [7, 22] (fun o i wr => ∃ k : Nat, k ≤ l.length ∧ i = .int .i64 k ∧ Hid (OwnD TDP w1.heap.size wr o (upgs d (l.take k)) ∧ Below w1.heap.size w1 wr)) (fun _ i _ => l.length - (intOf i).toNat)
   case atStart => exact ⟨0, Nat.zero_le _, rfl, hide ⟨OwnD.nil _ _ _, Below.refl _ _⟩⟩
   case round =>
    obtain ⟨k, hk, rfl, hH⟩ := hrel
    obtain ⟨ho, hb⟩ := hH.out
    have bw := B1.out.trans (hb.mono B1.out.size)
    by_cases hlt : k < l.length
    ·have hq : (k : Int) < (l.length : Int) := by omega
     obtain ⟨x, hx, hxm⟩ := some_at l hlt
     have hT := hide (upgs_next (d := d) hx)
     have hLL : (upgs d (l.take k)).length ≤ 4096 := by have := upgs_len d (l.take k); simp at this; omega
     obtain ⟨x1, x2⟩ := x
     obtain ⟨b, off, rfl, hc1, hc2⟩ := (HL.out.to0 bw).ext hx
     dsimp only at hc1 hc2
     obtain ⟨U, hU, E0, E1, bU, sU⟩ := boxed2 wr (.int .i64 x1) (.int .i64 x2) 64
     have cU := bw.trans (bU.mono bw.size)
     have D0 := (cU.cell (cell_lt HD.out.1)).trans HD.out.1
     have D1 := (cU.cell (cell_lt HD.out.2)).trans HD.out.2
     have KR := hide (ppgread_any U _ _ d x1 x2 (H1.out.to0 cU) (H2.out.to0 cU))
     have oU := hide (ho.to bU)
     have CU := hide (hb.trans (bU.mono hb.size))
     have szU : w1.heap.size ≤ U.heap.size := CU.out.size
     obtain ⟨PR, hPR⟩ : ∃ PR, PR = (pgread d x1 x2).2 := ⟨_, rfl⟩
     rw [← hPR] at KR
     have EE := hide (And.intro E0 E1)
     rw [hU] at D0 D1 E0 E1 KR
     clear ho hb hH bU hx hxm bw cU
     go_wp2_with fail
     refine KR.out.mono ?_
     rw [← hU]
     rintro e w2 ⟨pv, rfl, op, b2⟩
     have E0' := (b2.cell (cell_lt EE.out.1)).trans EE.out.1
     have E1' := (b2.cell (cell_lt EE.out.2)).trans EE.out.2
     have O2 := hide (oU.out.to b2)
     have C2 := hide (CU.out.trans (b2.mono CU.out.size))
     have s2 : w1.heap.size ≤ w2.heap.size := C2.out.size
     obtain ⟨pa, pc, hpv⟩ := op.rd.slice
     subst hpv
     clear KR D0 D1 E0 E1 op b2 oU CU hc1 hc2
     by_cases hp : PR = 0
     ·have hD : Hid (dmPg d (x1, x2) = []) := by show _ = _; unfold dmPg; rw [if_pos (by rw [← hPR]; exact hp)]
      replace hPR := hide hPR
      rw [hp]
      replace hp := hide hp
      have F := hide (And.intro (show OwnD TDP w1.heap.size w2 u7 (upgs d (l.take (k + 1))) by rw [hT.out, hD.out, List.append_nil]; exact O2.out) C2.out)
      go_wp2
      go_roundw
      case rel => exact ⟨k + 1, by omega, by go_num, F⟩
      case measure => simp [intOf]; omega
     ·have hD : Hid (dmPg d (x1, x2) = [(1, x2, x1)]) := by show _ = _; unfold dmPg; rw [if_neg (by rw [← hPR]; exact hp)]
      have hp' : (PR != 0) = true := by simp [hp]
      replace hPR := hide hPR
      replace hp := hide hp
      obtain ⟨v6, w6, hr6, o6, b6, s6⟩ := run_append_d3 (TL := 33) Try.underlying33 infoDP w2 O2.out 1 x2 x1 (by omega) s2
      have F := hide (And.intro (show OwnD TDP w1.heap.size w6 v6 (upgs d (l.take (k + 1))) by rw [hT.out, hD.out]; exact o6) (C2.out.trans b6))
      clear o6 b6
      go_wp2_with (at_builtin; refine Lib.wpList_append_run _ rfl _ _ _ _ rfl _ _ rfl rfl _ _ hr6 ?_)
      go_roundw
      case rel => exact ⟨k + 1, by omega, by go_num, F⟩
      case measure => simp [intOf]; omega
    ·have hq : ¬ (k : Int) < (l.length : Int) := by omega
     obtain rfl : k = l.length := by omega
     rw [List.take_length] at ho
     have F := hide (And.intro (ho.mono sz1) (HB.out.trans (bw.mono HB.out.size)))
     clear ho hb hH bw
     go_wp2
     go_ret2
     rw [hE.out]
     exact ⟨_, rfl, F.out⟩
 ·have hE : Hid (upg d l = ([], dcheck d)) := by show _ = _; unfold upg; rw [if_pos hc]
  have hc' : (dcheck d != 0) = true := by simp [hc]
  clear b1
  go_wp2
  go_ret2
  rw [hE.out]
  exact ⟨_, rfl, OwnD.nil _ _ _, HB.out.trans (B1.out.mono HB.out.size)⟩
end Go.Proofs.Ytjjicajodjophaa

namespace Go.Proofs.Ytjjicajodjophaa
open Go.RowKit
structure FI1 (n : Nat) (xs : List (List UInt8)) (d : Dsk) (i : Nat) : Prop where
 ok : DOk d
 s : d.1.length = 4 * n + 1
 c : d.2.length = 4 * i
 p : ∀ (k : Nat) (x : List UInt8), k < i → xs[k]? = some x → pgot d (4 * (k : Int)) 4 = pgencO k (cutX x)
theorem FI1.start {n : Nat} (hn : n ≤ 10) (xs : List (List UInt8)) : FI1 n xs (z64s (4 * n + 1), []) 0 :=
 ⟨dok_new (by omega) (by omega), z64s_len _, rfl, fun k x h => by omega⟩
theorem FI1.put {n : Nat} {xs : List (List UInt8)} {d : Dsk} {i : Nat} (h : FI1 n xs d i) (hn : n ≤ 10) (hi : i < n) {x : List UInt8} (hx : xs[i]? = some x) :
  ∃ d', pgwrite d (4 * (i : Int)) (i : Int) (cutX x) = (d', 0) ∧ FI1 n xs d' (i + 1) := by
 have hcl : (cutX x).length ≤ 244 := by rw [cutX_len]; omega
 have hz : (pgenc (i : Int) (cutX x)).2 = 0 := by rw [pgenc_yes (by omega) (by omega)]
 have a0 : (0 : Int) ≤ 4 * (i : Int) := by omega
 have a1 : 4 * (i : Int) ≤ (d.1.length : Int) - 4 := by rw [h.s]; omega
 have ac : d.2.length ≤ 4092 := by rw [h.c]; omega
 have hb := pgenc_len (i : Int).toNat hcl
 have hw := pgwrite_yes h.ok a0 a1 hz ac
 refine ⟨_, hw, dok_write h.ok hb a0 a1 ac, h.s, ?_, fun k y hk hy => ?_⟩
 ·show (d.2 ++ _).length = _
  rw [List.length_append, pws_len, h.c]; omega
 ·by_cases e : k = i
  ·subst e
   rw [hx] at hy
   simp only [Option.some.injEq] at hy
   subst hy
   rw [pgot_write h.ok hb a0 a1 ac]
   simp
  ·rw [pgot_other h.ok hb a0 a1 ac (by omega) (by rw [h.s]; omega) (by omega)]
   exact h.p k y (by omega) hy
theorem dget_flush {d : Dsk} (h : DOk d) {j : Nat} (hj : j < d.1.length) : ∃ S1, dflush d = ((S1, []), 0) ∧ S1.length = d.1.length ∧ DOk (S1, []) := by
 refine ⟨_, if_pos h, lands_len _ _ _ _, ?_, ?_, by simp, ?_, by simp⟩
 ·show 1 ≤ (lands _ _ _ _).length; rw [lands_len]; exact h.1
 ·show (lands _ _ _ _).length ≤ 1024; rw [lands_len]; exact h.2.1
 ·exact lands_64 h.2.2.2.1 _
theorem flush_get {d : Dsk} (h : DOk d) {S1 : List (List UInt8)} (hf : dflush d = ((S1, []), 0)) (ok : DOk (S1, [])) (hl : S1.length = d.1.length) {j : Nat} (hj : j < d.1.length) : (dget (S1, []) (j : Int)).1 = (dget d (j : Int)).1 := by
 have e : S1 = lands (fun _ => 64) d.1 d.2 d.2.length := by
  unfold dflush dland at hf
  rw [if_pos h] at hf
  simp only [Prod.mk.injEq, and_true] at hf
  exact hf.symm
 rw [dget_at ok (by omega) (by show (j : Int) < (S1.length : Int); omega), dget_at h (by omega) (by omega)]
 dsimp only
 rw [Int.toNat_natCast, e, lands_last h.2.2.2.1 h.2.2.2.2 hj _ (Nat.le_refl _), List.take_length]
 rfl
theorem pgot_congr {d e : Dsk} {a : Nat} (h : ∀ i, i < 4 → (dget d ((a + i : Nat) : Int)).1 = (dget e ((a + i : Nat) : Int)).1) : pgot d (a : Int) 4 = pgot e (a : Int) 4 := by
 have k : ∀ i : Nat, i < 4 → (dget d ((a : Int) + (i : Nat))).1 = (dget e ((a : Int) + (i : Nat))).1 := fun i hi => by have := h i hi; rw [Int.natCast_add] at this; exact this
 show ([] ++ (dget _ ((a : Int) + (0 : Nat))).1 ++ (dget _ ((a : Int) + (1 : Nat))).1 ++ (dget _ ((a : Int) + (2 : Nat))).1 ++ (dget _ ((a : Int) + (3 : Nat))).1) = ([] ++ (dget _ ((a : Int) + (0 : Nat))).1 ++ (dget _ ((a : Int) + (1 : Nat))).1 ++ (dget _ ((a : Int) + (2 : Nat))).1 ++ (dget _ ((a : Int) + (3 : Nat))).1)
 rw [k 0 (by decide), k 1 (by decide), k 2 (by decide), k 3 (by decide)]
structure FI2 (n : Nat) (xs : List (List UInt8)) (d : Dsk) (bad : List Bool) : Prop where
 ok : DOk d
 s : d.1.length = 4 * n + 1
 c : d.2 = []
 b : bad.length = n
 good : ∀ (k : Nat) (x : List UInt8), bad[k]? = some false → xs[k]? = some x → pgot d (4 * (k : Int)) 4 = pgencO k (cutX x)
 rot : ∀ (k : Nat) (x : List UInt8), bad[k]? = some true → xs[k]? = some x → ∃ (p : Nat) (c : UInt8), p < 256 ∧ c ≠ 0 ∧ pgot d (4 * (k : Int)) 4 = fx (pgencO k (cutX x)) p c
theorem FI1.flush {n : Nat} {xs : List (List UInt8)} {d : Dsk} (h : FI1 n xs d n) : ∃ d', dflush d = (d', 0) ∧ FI2 n xs d' (List.replicate n false) := by
 obtain ⟨S1, h1, h2, h3⟩ := dget_flush h.ok (j := 0) (by rw [h.s]; omega)
 refine ⟨_, h1, h3, by rw [← h.s]; exact h2, rfl, by simp, fun k x hk hx => ?_, fun k x hk hx => ?_⟩
 ·have hkn : k < n := by have := (List.getElem?_eq_some_iff.1 hk).1; simpa using this
  rw [← h.p k x hkn hx, show (4 * (k : Int)) = ((4 * k : Nat) : Int) by omega]
  exact pgot_congr fun i hi => flush_get h.ok h1 h3 h2 (by rw [h.s]; omega)
 ·rw [List.getElem?_replicate] at hk
  split at hk <;> simp at hk
theorem pgot_plain {S : List (List UInt8)} (ok : DOk (S, [])) {a : Nat} (ha : a + 4 ≤ S.length) : pgot (S, []) (a : Int) 4 = S.getD a [] ++ S.getD (a + 1) [] ++ S.getD (a + 2) [] ++ S.getD (a + 3) [] := by
 have k : ∀ i : Nat, i < 4 → (dget (S, []) ((a : Int) + (i : Nat))).1 = S.getD (a + i) [] := fun i hi => by
  rw [dget_at ok (by omega) (by show _ < (S.length : Int); omega)]
  show S.getD ((a : Int) + (i : Nat)).toNat [] = _
  rw [show ((a : Int) + (i : Nat)).toNat = a + i by omega]
 show ([] ++ (dget _ ((a : Int) + (0 : Nat))).1 ++ (dget _ ((a : Int) + (1 : Nat))).1 ++ (dget _ ((a : Int) + (2 : Nat))).1 ++ (dget _ ((a : Int) + (3 : Nat))).1) = _
 rw [k 0 (by decide), k 1 (by decide), k 2 (by decide), k 3 (by decide)]
 rfl
theorem FI2.one {n : Nat} {xs : List (List UInt8)} {d : Dsk} {bad : List Bool} (h : FI2 n xs d bad) (hn : n ≤ 10) {k : Nat} (hk : k < n) (hb : bad[k]? = some false) {p : Nat} (hp : p < 256) {c : UInt8} (hc : c ≠ 0) (hxs : n ≤ xs.length) :
  ∃ d', drot d (4 * (k : Int) + ((p / 64 : Nat) : Int)) ((p % 64 : Nat) : Int) c = (d', 0) ∧ FI2 n xs d' (bad.set k true) := by
 obtain ⟨S, cs⟩ := d
 have hcs : cs = [] := h.c
 subst hcs
 have hS : S.length = 4 * n + 1 := h.s
 obtain ⟨q, hq⟩ : ∃ q, q = p / 64 := ⟨_, rfl⟩
 have hq4 : q < 4 := by omega
 have hsl : ∀ j, j < S.length → (S.getD j []).length = 64 := fun j hj => h.ok.2.2.2.1 _ (getD_mem hj)
 have hds : dsect (S, []) (4 * (k : Int) + (q : Int)) = 0 := dsect_zero.2 ⟨h.ok, by unfold dhas; show _ ∧ _ < (S.length : Int); omega⟩
 have hdr : drot (S, []) (4 * (k : Int) + (q : Int)) ((p % 64 : Nat) : Int) c = ((S.set (4 * k + q) (fx (S.getD (4 * k + q) []) (p % 64) c), []), 0) := by
  unfold drot
  rw [if_neg (fun k => k hds), if_neg (by omega)]
  simp only [Int.toNat_natCast, show (4 * (k : Int) + (q : Int)).toNat = 4 * k + q by omega]
  rfl
 have hfl : (fx (S.getD (4 * k + q) []) (p % 64) c).length = 64 := by rw [fx_len]; exact hsl _ (by omega)
 have ok' : DOk (S.set (4 * k + q) (fx (S.getD (4 * k + q) []) (p % 64) c), []) := by
  refine ⟨by simp only [List.length_set]; exact h.ok.1, by simp only [List.length_set]; exact h.ok.2.1, by simp, fun x hx => ?_, by simp⟩
  rcases List.mem_or_eq_of_mem_set hx with hx | hx
  ·exact h.ok.2.2.2.1 x hx
  ·rw [hx]; exact hfl
 have hget : ∀ j, (S.set (4 * k + q) (fx (S.getD (4 * k + q) []) (p % 64) c)).getD j [] = if j = 4 * k + q then fx (S.getD (4 * k + q) []) (p % 64) c else S.getD j [] := fun j => by
  by_cases e : j = 4 * k + q
  ·subst e
   rw [if_pos rfl, List.getD_eq_getElem?_getD, List.getElem?_set_self (by omega)]; rfl
  ·rw [if_neg e, List.getD_eq_getElem?_getD, List.getElem?_set_ne (by omega), ← List.getD_eq_getElem?_getD]
 have hoth : ∀ m, m < n → m ≠ k → pgot (S.set (4 * k + q) (fx (S.getD (4 * k + q) []) (p % 64) c), []) (4 * (m : Int)) 4 = pgot (S, []) (4 * (m : Int)) 4 := fun m hm hne => by
  rw [show (4 * (m : Int)) = ((4 * m : Nat) : Int) by omega, pgot_plain ok' (by rw [List.length_set]; omega), pgot_plain h.ok (by omega), hget, hget, hget, hget, if_neg (by omega), if_neg (by omega), if_neg (by omega), if_neg (by omega)]
 have hown : pgot (S.set (4 * k + q) (fx (S.getD (4 * k + q) []) (p % 64) c), []) (4 * (k : Int)) 4 = fx (pgot (S, []) (4 * (k : Int)) 4) p c := by
  have l0 := hsl (4 * k) (by omega)
  have l1 := hsl (4 * k + 1) (by omega)
  have l2 := hsl (4 * k + 2) (by omega)
  have l3 := hsl (4 * k + 3) (by omega)
  rw [show (4 * (k : Int)) = ((4 * k : Nat) : Int) by omega, pgot_plain ok' (by rw [List.length_set]; omega), pgot_plain h.ok (by omega), hget, hget, hget, hget]
  have hk4 : q = 0 ∨ q = 1 ∨ q = 2 ∨ q = 3 := by omega
  rcases hk4 with e | e | e | e
  ·subst e
   rw [if_pos (by omega), if_neg (by omega), if_neg (by omega), if_neg (by omega), Nat.add_zero]
   rw [fx_left _ _ _ _ (by simp only [List.length_append]; omega), fx_left _ _ _ _ (by simp only [List.length_append]; omega), fx_left _ _ _ _ (by omega), show p % 64 = p by omega]
  ·subst e
   rw [if_neg (by omega), if_pos (by omega), if_neg (by omega), if_neg (by omega)]
   rw [fx_left _ _ _ _ (by simp only [List.length_append]; omega), fx_left _ _ _ _ (by simp only [List.length_append]; omega), fx_right _ _ _ _ (by omega), l0, show p % 64 = p - 64 by omega]
  ·subst e
   rw [if_neg (by omega), if_neg (by omega), if_pos (by omega), if_neg (by omega)]
   rw [fx_left _ _ _ _ (by simp only [List.length_append]; omega), fx_right _ _ _ _ (by simp only [List.length_append]; omega), List.length_append, l0, l1, show p % 64 = p - (64 + 64) by omega]
  ·subst e
   rw [if_neg (by omega), if_neg (by omega), if_neg (by omega), if_pos (by omega)]
   rw [fx_right _ _ _ _ (by simp only [List.length_append]; omega), List.length_append, List.length_append, l0, l1, l2, show p % 64 = p - (64 + 64 + 64) by omega]
 rw [← hq]
 refine ⟨_, hdr, ok', by rw [List.length_set]; exact hS, rfl, by rw [List.length_set]; exact h.b, fun m x hm hx => ?_, fun m x hm hx => ?_⟩
 ·have hmn : m < n := by have := (List.getElem?_eq_some_iff.1 hm).1; rw [List.length_set, h.b] at this; exact this
  by_cases e : m = k
  ·subst e
   rw [List.getElem?_set_self (by rw [h.b]; exact hk)] at hm
   simp at hm
  ·rw [List.getElem?_set_ne (by omega)] at hm
   rw [hoth m hmn e]
   exact h.good m x hm hx
 ·have hmn : m < n := by have := (List.getElem?_eq_some_iff.1 hm).1; rw [List.length_set, h.b] at this; exact this
  by_cases e : m = k
  ·subst e
   exact ⟨p, c, hp, hc, by rw [hown, h.good m x hb hx]⟩
  ·rw [List.getElem?_set_ne (by omega)] at hm
   rw [hoth m hmn e]
   exact h.rot m x hm hx
theorem FI2.read {n : Nat} {xs : List (List UInt8)} {d : Dsk} {bad : List Bool} (h : FI2 n xs d bad) (hn : n ≤ 10) {k : Nat} (hk : k < n) {x : List UInt8} (hx : xs[k]? = some x) : (pgread d (4 * (k : Int)) (k : Int)).2 = 0 ↔ bad[k]? = some false := by
 have hs : pgsect d (4 * (k : Int)) = 0 := pgsect_0.2 ⟨h.ok, by omega, by rw [h.s]; omega⟩
 have hcl : (cutX x).length ≤ 244 := by rw [cutX_len]; omega
 obtain ⟨b, hb⟩ : ∃ b, bad[k]? = some b := ⟨bad[k]'(by rw [h.b]; exact hk), List.getElem?_eq_getElem _⟩
 unfold pgread
 rw [if_neg (fun q => q hs)]
 cases b with
 | false =>
  rw [h.good k x hb hx, pgdec_enc (by omega) hcl]
  dsimp only
  rw [if_neg (by rintro (q | q) <;> exact q rfl)]
  simp [hb]
 | true =>
  obtain ⟨p, c, hp, hc, he⟩ := h.rot k x hb hx
  rw [he, if_pos (.inl (pgdec_turned k hcl hp hc))]
  simp [hb]
end Go.Proofs.Ytjjicajodjophaa

namespace Go.Proofs.Ytjjicajodjophaa
open Go.RowKit
end Go.Proofs.Ytjjicajodjophaa

namespace Go.Proofs.Ytjjicajodjophaa
open Go.RowKit
theorem m1 {A L : Int} (h1 : A < L) (h2 : L ≤ 1048576) (h0 : -1 ≤ A) : (1048577 - L).toNat < (1048577 - A).toNat := by omega
end Go.Proofs.Ytjjicajodjophaa

namespace Go.Proofs.Ytjjicajodjophaa
open Go.RowKit
end Go.Proofs.Ytjjicajodjophaa

namespace Go.Proofs.Ytjjicajodjophaa
open Go.RowKit
end Go.Proofs.Ytjjicajodjophaa

namespace Go.Proofs.Ytjjicajodjophaa
open Go.RowKit
end Go.Proofs.Ytjjicajodjophaa

namespace Go.Proofs.Ytjjicajodjophaa
open Go.ChangeShapes Go.WideShapes Go.ChangeAt Go.RowKit
theorem opens_octs1 : Opens Shp.octs 62 (fun x => x.length ≤ 140737488351232) (fun x => x.length + 1) := by
 refine ⟨by kernel_rfl, fun {H enc W fuel cs x} h => ?_⟩
 obtain ⟨d, p⟩ := x
 obtain ⟨a, len, cap, rfl⟩ : ∃ a len cap, cs = [.slice a len cap] := by
  rcases open_ints Try.underlying62 Try.underlying5 (by kernel_rfl) h with ⟨hcs, _⟩ | ⟨x, l, c, zs, hcs, _⟩
  ·exact ⟨_, _, _, hcs⟩
  ·exact ⟨_, _, _, hcs⟩
 obtain ⟨xs, e, r, s⟩ := open_octs (d := d) (p := p) ⟨fuel, h⟩
 refine ⟨xs, ⟨_, rfl, r⟩, fun hw => ?_, ?_⟩
 ·rcases s with s | ⟨el, sp, rfl, hel⟩
  ·omega
  ·have := hw ((el.length + sp.length) * Try.prog.bytesOf 5) (by simp [DataW.weights, Try.underlying62])
   rw [bytes8] at this
   simp only [reachBytes] at this
   omega
 ·rcases s with s | ⟨el, sp, rfl, hel⟩
  ·have := bulk_pos d
   dsimp only
   omega
  ·have := bulk_len el
   simp only [Rows.uptoBulk]
   omega
theorem open_sectors : Opens SSec 22 (fun xs => xs.length * 24 ≤ 140737488351232 ∧ ∀ x ∈ xs, x.length ≤ 140737488351232) (fun xs => (xs.map (fun x => x.length + 1)).sum) :=
 opens_octs1.list Try.underlying22 (by kernel_rfl) (by kernel_rfl) (by decide)
end Go.Proofs.Ytjjicajodjophaa

namespace Go.Proofs.Ytjjicajodjophaa
open Go.RowKit
end Go.Proofs.Ytjjicajodjophaa

namespace Go.Proofs.Ytjjicajodjophaa
open Go.RowKit Go.Shelf
attribute [local go_sem] Oper.semAt_some
def encPG (at' : Int) (b o c : Nat) (x : Nat) : Array Value := #[.int .i64 (at' + (x : Int)), .slice (some ⟨b, o + 64 * x, none⟩) 64 (c - 64 * x)]
def KpP (Ba Bp : Nat) (V V' : World) : Prop := ∀ (k : Nat) (o : Obj), (k = Ba ∨ k = Bp) → V.heap[k]? = some o → o.isCells = true → V'.heap[k]? = some o
theorem KpP.trans {Ba Bp : Nat} {X Y Z : World} (h : KpP Ba Bp X Y) (k : KpP Ba Bp Y Z) : KpP Ba Bp X Z := fun i o hi h1 h2 => k i o hi (h i o hi h1 h2) h2
theorem KpP.put {Ba Bp : Nat} (W : World) (l : Nat) (o o' : Obj) (h : W.heap[l]? = some o) (ho : o.isCells = false) : KpP Ba Bp W (W.putObj l o') := by
 intro k q _ hq hc
 rw [World.putObj_heap_other (by rintro rfl; rw [h] at hq; cases hq; rw [ho] at hc; cases hc)]
 exact hq
def RP (pre : List Nat) (x : Nat) (V : World) : Prop := x = pre.length ∧ x < 4
def SP (xs : List Nat) (V : World) : Prop := xs.length = 4
set_option maxRecDepth 100000 in
theorem sectorsFrom_any (w : World) (at' : Int) (v : Value) (b : List UInt8) (hrd : Rd w v b) : Calls Try.prog 55 #[.int .i64 at', v] w fun e w' => e = .returned (.func (.func 85) #[] #[.pointer (some ⟨w.heap.size, 0, none⟩), .pointer (some ⟨w.heap.size + 1, 0, none⟩)]) ∧ w' = (w.alloc (.cells #[.int .i64 at'] 3)).alloc (.cells #[v] 62) := by
 obtain ⟨ao, cap, rfl⟩ := hrd.slice
 go_enter Try.func55, Try.ntmps55
 go_wp2
 go_ret
 exact ⟨rfl, rfl⟩
set_option maxHeartbeats 4000000 in
set_option maxRecDepth 100000 in
theorem sectors1_hands (at' : Int) (ha0 : 0 ≤ at') (ha1 : at' + 4 ≤ 9223372036854775807) (b o c : Nat) (hc : 256 ≤ c) (W0 : World) (Ba Bp : Nat) (ba : Boxed W0 Ba 3 (.int .i64 at')) (bp : Boxed W0 Bp 62 (.slice (some ⟨b, o, none⟩) 256 c)) (n : Nat) :
  Hands Fence.wide n Try.prog 85 #[.pointer (some ⟨Ba, 0, none⟩), .pointer (some ⟨Bp, 0, none⟩)] (encPG at' b o c) (KpP Ba Bp) RP SP W0 := by
 intro l J Jx W hW hJ hJx hY h0
 have I0 : Hid (Boxed W Ba 3 (.int .i64 at') ∧ Boxed W Bp 62 (.slice (some ⟨b, o, none⟩) 256 c)) := ⟨(hW.block Ba ba.lt).trans ba, (hW.block Bp bp.lt).trans bp⟩
 have hmx : Try.prog.follows .mixedOrders = true := mixed
 clear ba bp hW
 refine callsIn_of_wp Try.func85 rfl trivial ?_ rfl
 simp only [Try.ntmps85, List.size_toArray, List.length_cons, List.length_nil, Nat.reduceAdd, Nat.reduceSub, Array.replicate_succ, Array.replicate_zero, List.push_toArray, List.append_toArray, List.nil_append, List.cons_append]
 gi_wp2
 gi_loopw [5] (fun i wr => ∃ (pre : List Nat) (k : Nat), i = .int .i64 (k : Int) ∧ k = pre.length ∧ k ≤ 4 ∧ Hid (Boxed wr Ba 3 (.int .i64 at') ∧ Boxed wr Bp 62 (.slice (some ⟨b, o, none⟩) 256 c)) ∧ J pre wr) (fun i _ => 4 - (intOf i).toNat)
 case atStart => exact ⟨[], 0, rfl, rfl, by omega, I0, h0⟩
 case round =>
  obtain ⟨pre, k, rfl, hk, hk4, hit, hJs⟩ := hrel
  clear I0
  replace hk := hide hk
  have cb := hit.out.1.cell
  have cp := hit.out.2.cell
  have HJ := hide (hJ _ _ wr.drew hJs ⟨rfl, rfl, rfl, Nat.le_refl _, fun _ _ _ => rfl⟩)
  have HB : Hid (Boxed wr.drew Ba 3 (.int .i64 at') ∧ Boxed wr.drew Bp 62 (.slice (some ⟨b, o, none⟩) 256 c)) := hit
  have hcases : k = 0 ∨ k = 1 ∨ k = 2 ∨ k = 3 ∨ k = 4 := by omega
  rcases hcases with rfl | rfl | rfl | rfl | rfl
  -- ROUNDS
  ·have hx : RP pre 0 wr.drew := ⟨hk.out, by decide⟩
   obtain ⟨fn, tmps, assign, body, hy', hR0⟩ := hY pre 0 wr.drew HJ.out hx
   rw [show encPG at' b o c 0 = #[.int .i64 (at'), .slice (some ⟨b, o, none⟩) 64 (c)] from by simp [encPG]] at hy'
   have hR : Hid (RoundIn Fence.wide (n - 1) Try.prog l fn tmps assign body wr.drew fun e V' => ∃ B : Bool, e = .returned (.bool B) ∧ (B = true ∧ J (pre ++ [0]) V' ∧ KpP Ba Bp wr.drew V' ∨ B = false ∧ Jx (pre ++ [0]) V')) := hR0.mono (by rintro e V' (⟨rfl, h⟩ | ⟨rfl, h⟩); exact ⟨true, rfl, .inl ⟨rfl, h⟩⟩; exact ⟨false, rfl, .inr ⟨rfl, h⟩⟩)
   have hqh : (64 : Int) ≤ (c : Int) := by omega
   have hn0 : ¬ c = 0 := by omega
   have x0 : IntKind.i64.wrap (0 : Int) = 0 := by decide
   have x1 : IntKind.i64.wrap (64 : Int) = 64 := by decide
   have x3 : IntKind.i64.wrap (1 : Int) = 1 := by decide
   have x2 : IntKind.i64.wrap (at') = at' := by rw [IntKind.wrap_i64]; omega
   clear hR0 hY hx hJs hit HJ
   gi_wp2_with fail
   gi_region_with_o (refine ⟨(fun h => by cases h), hR.out.mono ?_⟩; rintro e W3 ⟨B, rfl, hB⟩)
   all_goals
    cases B with
    | true =>
     rcases hB with ⟨_, hJ3, hk3⟩ | ⟨h, _⟩
     ·have h3 : Hid (Boxed W3 Ba 3 (.int .i64 at') ∧ Boxed W3 Bp 62 (.slice (some ⟨b, o, none⟩) 256 c)) := ⟨hk3 _ _ (.inl rfl) HB.out.1 rfl, hk3 _ _ (.inr rfl) HB.out.2 rfl⟩
      have HJ3 := hide hJ3
      clear hJ3 hk3 hR hy' cb cp HB
      gi_wp2
      go_roundw
      case rel => exact ⟨pre ++ [0], 1, by go_num, by rw [List.length_append, ← hk.out]; rfl, by omega, h3, HJ3.out⟩
      case measure => simp [intOf]
     ·cases h
    | false =>
     rcases hB with ⟨h, _⟩ | ⟨_, hJx3⟩
     ·cases h
     ·clear hR hy' cb cp HB
      gi_wp2
      refine bodyPost_ret (results_none rfl _ _ _) rfl ?_
      exact ⟨⟨_, rfl⟩, .inr ⟨_, hJx3⟩⟩
  ·have hx : RP pre 1 wr.drew := ⟨hk.out, by decide⟩
   obtain ⟨fn, tmps, assign, body, hy', hR0⟩ := hY pre 1 wr.drew HJ.out hx
   rw [show encPG at' b o c 1 = #[.int .i64 (at' + 1), .slice (some ⟨b, o + 64, none⟩) 64 (c - 64)] from by simp [encPG]] at hy'
   have hR : Hid (RoundIn Fence.wide (n - 1) Try.prog l fn tmps assign body wr.drew fun e V' => ∃ B : Bool, e = .returned (.bool B) ∧ (B = true ∧ J (pre ++ [1]) V' ∧ KpP Ba Bp wr.drew V' ∨ B = false ∧ Jx (pre ++ [1]) V')) := hR0.mono (by rintro e V' (⟨rfl, h⟩ | ⟨rfl, h⟩); exact ⟨true, rfl, .inl ⟨rfl, h⟩⟩; exact ⟨false, rfl, .inr ⟨rfl, h⟩⟩)
   have hqh : (128 : Int) ≤ (c : Int) := by omega
   have hn0 : ¬ c = 64 := by omega
   have x0 : IntKind.i64.wrap (64 : Int) = 64 := by decide
   have x1 : IntKind.i64.wrap (128 : Int) = 128 := by decide
   have x3 : IntKind.i64.wrap (2 : Int) = 2 := by decide
   have x2 : IntKind.i64.wrap (at' + 1) = at' + 1 := by rw [IntKind.wrap_i64]; omega
   clear hR0 hY hx hJs hit HJ
   gi_wp2_with fail
   gi_region_with_o (refine ⟨(fun h => by cases h), hR.out.mono ?_⟩; rintro e W3 ⟨B, rfl, hB⟩)
   all_goals
    cases B with
    | true =>
     rcases hB with ⟨_, hJ3, hk3⟩ | ⟨h, _⟩
     ·have h3 : Hid (Boxed W3 Ba 3 (.int .i64 at') ∧ Boxed W3 Bp 62 (.slice (some ⟨b, o, none⟩) 256 c)) := ⟨hk3 _ _ (.inl rfl) HB.out.1 rfl, hk3 _ _ (.inr rfl) HB.out.2 rfl⟩
      have HJ3 := hide hJ3
      clear hJ3 hk3 hR hy' cb cp HB
      gi_wp2
      go_roundw
      case rel => exact ⟨pre ++ [1], 2, by go_num, by rw [List.length_append, ← hk.out]; rfl, by omega, h3, HJ3.out⟩
      case measure => simp [intOf]
     ·cases h
    | false =>
     rcases hB with ⟨h, _⟩ | ⟨_, hJx3⟩
     ·cases h
     ·clear hR hy' cb cp HB
      gi_wp2
      refine bodyPost_ret (results_none rfl _ _ _) rfl ?_
      exact ⟨⟨_, rfl⟩, .inr ⟨_, hJx3⟩⟩
  ·have hx : RP pre 2 wr.drew := ⟨hk.out, by decide⟩
   obtain ⟨fn, tmps, assign, body, hy', hR0⟩ := hY pre 2 wr.drew HJ.out hx
   rw [show encPG at' b o c 2 = #[.int .i64 (at' + 2), .slice (some ⟨b, o + 128, none⟩) 64 (c - 128)] from by simp [encPG]] at hy'
   have hR : Hid (RoundIn Fence.wide (n - 1) Try.prog l fn tmps assign body wr.drew fun e V' => ∃ B : Bool, e = .returned (.bool B) ∧ (B = true ∧ J (pre ++ [2]) V' ∧ KpP Ba Bp wr.drew V' ∨ B = false ∧ Jx (pre ++ [2]) V')) := hR0.mono (by rintro e V' (⟨rfl, h⟩ | ⟨rfl, h⟩); exact ⟨true, rfl, .inl ⟨rfl, h⟩⟩; exact ⟨false, rfl, .inr ⟨rfl, h⟩⟩)
   have hqh : (192 : Int) ≤ (c : Int) := by omega
   have hn0 : ¬ c = 128 := by omega
   have x0 : IntKind.i64.wrap (128 : Int) = 128 := by decide
   have x1 : IntKind.i64.wrap (192 : Int) = 192 := by decide
   have x3 : IntKind.i64.wrap (3 : Int) = 3 := by decide
   have x2 : IntKind.i64.wrap (at' + 2) = at' + 2 := by rw [IntKind.wrap_i64]; omega
   clear hR0 hY hx hJs hit HJ
   gi_wp2_with fail
   gi_region_with_o (refine ⟨(fun h => by cases h), hR.out.mono ?_⟩; rintro e W3 ⟨B, rfl, hB⟩)
   all_goals
    cases B with
    | true =>
     rcases hB with ⟨_, hJ3, hk3⟩ | ⟨h, _⟩
     ·have h3 : Hid (Boxed W3 Ba 3 (.int .i64 at') ∧ Boxed W3 Bp 62 (.slice (some ⟨b, o, none⟩) 256 c)) := ⟨hk3 _ _ (.inl rfl) HB.out.1 rfl, hk3 _ _ (.inr rfl) HB.out.2 rfl⟩
      have HJ3 := hide hJ3
      clear hJ3 hk3 hR hy' cb cp HB
      gi_wp2
      go_roundw
      case rel => exact ⟨pre ++ [2], 3, by go_num, by rw [List.length_append, ← hk.out]; rfl, by omega, h3, HJ3.out⟩
      case measure => simp [intOf]
     ·cases h
    | false =>
     rcases hB with ⟨h, _⟩ | ⟨_, hJx3⟩
     ·cases h
     ·clear hR hy' cb cp HB
      gi_wp2
      refine bodyPost_ret (results_none rfl _ _ _) rfl ?_
      exact ⟨⟨_, rfl⟩, .inr ⟨_, hJx3⟩⟩
  ·have hx : RP pre 3 wr.drew := ⟨hk.out, by decide⟩
   obtain ⟨fn, tmps, assign, body, hy', hR0⟩ := hY pre 3 wr.drew HJ.out hx
   rw [show encPG at' b o c 3 = #[.int .i64 (at' + 3), .slice (some ⟨b, o + 192, none⟩) 64 (c - 192)] from by simp [encPG]] at hy'
   have hR : Hid (RoundIn Fence.wide (n - 1) Try.prog l fn tmps assign body wr.drew fun e V' => ∃ B : Bool, e = .returned (.bool B) ∧ (B = true ∧ J (pre ++ [3]) V' ∧ KpP Ba Bp wr.drew V' ∨ B = false ∧ Jx (pre ++ [3]) V')) := hR0.mono (by rintro e V' (⟨rfl, h⟩ | ⟨rfl, h⟩); exact ⟨true, rfl, .inl ⟨rfl, h⟩⟩; exact ⟨false, rfl, .inr ⟨rfl, h⟩⟩)
   have hqh : (256 : Int) ≤ (c : Int) := by omega
   have hn0 : ¬ c = 192 := by omega
   have x0 : IntKind.i64.wrap (192 : Int) = 192 := by decide
   have x1 : IntKind.i64.wrap (256 : Int) = 256 := by decide
   have x3 : IntKind.i64.wrap (4 : Int) = 4 := by decide
   have x2 : IntKind.i64.wrap (at' + 3) = at' + 3 := by rw [IntKind.wrap_i64]; omega
   clear hR0 hY hx hJs hit HJ
   gi_wp2_with fail
   gi_region_with_o (refine ⟨(fun h => by cases h), hR.out.mono ?_⟩; rintro e W3 ⟨B, rfl, hB⟩)
   all_goals
    cases B with
    | true =>
     rcases hB with ⟨_, hJ3, hk3⟩ | ⟨h, _⟩
     ·have h3 : Hid (Boxed W3 Ba 3 (.int .i64 at') ∧ Boxed W3 Bp 62 (.slice (some ⟨b, o, none⟩) 256 c)) := ⟨hk3 _ _ (.inl rfl) HB.out.1 rfl, hk3 _ _ (.inr rfl) HB.out.2 rfl⟩
      have HJ3 := hide hJ3
      clear hJ3 hk3 hR hy' cb cp HB
      gi_wp2
      go_roundw
      case rel => exact ⟨pre ++ [3], 4, by go_num, by rw [List.length_append, ← hk.out]; rfl, by omega, h3, HJ3.out⟩
      case measure => simp [intOf]
     ·cases h
    | false =>
     rcases hB with ⟨h, _⟩ | ⟨_, hJx3⟩
     ·cases h
     ·clear hR hy' cb cp HB
      gi_wp2
      refine bodyPost_ret (results_none rfl _ _ _) rfl ?_
      exact ⟨⟨_, rfl⟩, .inr ⟨_, hJx3⟩⟩
  -- ROUNDS END
  ·have hS : SP pre wr := hk.out.symm
   have HS := hide hS
   have HJ0 := hide hJs
   clear hS hJs HJ hit HB cb cp hY
   gi_wp2
   go_end0
   exact ⟨⟨_, rfl⟩, .inl ⟨_, HS.out, HJ0.out⟩⟩
end Go.Proofs.Ytjjicajodjophaa

namespace Go.Proofs.Ytjjicajodjophaa
open Go.RowKit Go.Shelf
attribute [local go_sem] Oper.semAt_some
theorem dok_pwsK {d : Dsk} (h : DOk d) {at' : Int} {b : List UInt8} (hb : b.length = 256) (h0 : 0 ≤ at') (h1 : at' ≤ (d.1.length : Int) - 4) {k : Nat} (hk : k ≤ 4) (hc : d.2.length + k ≤ 4096) : DOk (d.1, d.2 ++ pws at' b k) := by
 refine ⟨h.1, h.2.1, ?_, h.2.2.2.1, ?_⟩
 ·show (d.2 ++ _).length ≤ _
  rw [List.length_append, pws_len]; omega
 ·intro y hy
  rcases List.mem_append.1 hy with hy | hy
  ·exact h.2.2.2.2 y hy
  ·obtain ⟨i, hi, rfl⟩ := pws_mem hy
   exact ⟨⟨by dsimp only; omega, by dsimp only; omega⟩, psec_len hb (by omega)⟩
theorem dput_pwsK {d : Dsk} (h : DOk d) {at' : Int} {b : List UInt8} (hb : b.length = 256) (h0 : 0 ≤ at') (h1 : at' ≤ (d.1.length : Int) - 4) {k : Nat} (hk : k < 4) (hc : d.2.length + k < 4096) : dput (d.1, d.2 ++ pws at' b k) (at' + k) (psec b k) = ((d.1, d.2 ++ pws at' b (k + 1)), 0) := by
 have hs : dsect (d.1, d.2 ++ pws at' b k) (at' + k) = 0 := dsect_zero.2 ⟨dok_pwsK h hb h0 h1 (by omega) (by omega), by show 0 ≤ at' + (k : Int) ∧ at' + (k : Int) < (d.1.length : Int); omega⟩
 have hl := psec_len hb hk
 unfold dput
 rw [if_neg (fun e => e hs), if_neg (by omega), if_neg (by show ¬ 4096 ≤ (d.2 ++ _).length; rw [List.length_append, pws_len]; omega), pad_id hl]
 show ((d.1, d.2 ++ pws at' b k ++ [(at' + k, psec b k)]), 0) = _
 rw [List.append_assoc]
 rfl
theorem dput_pws_full {d : Dsk} (h : DOk d) {at' : Int} {b : List UInt8} (hb : b.length = 256) (h0 : 0 ≤ at') (h1 : at' ≤ (d.1.length : Int) - 4) {k : Nat} (hk : k < 4) (hc : d.2.length + k = 4096) : dput (d.1, d.2 ++ pws at' b k) (at' + k) (psec b k) = (([], []), 51) := by
 have hs : dsect (d.1, d.2 ++ pws at' b k) (at' + k) = 0 := dsect_zero.2 ⟨dok_pwsK h hb h0 h1 (by omega) (by omega), by show 0 ≤ at' + (k : Int) ∧ at' + (k : Int) < (d.1.length : Int); omega⟩
 have hl := psec_len hb hk
 unfold dput
 rw [if_neg (fun e => e hs), if_neg (by omega), if_pos (by show 4096 ≤ (d.2 ++ _).length; rw [List.length_append, pws_len]; omega)]
def OnCells {α : Type} (s : Shp α) : Prop := ∀ {F w cs x}, s.own F w cs x → ∀ b, b ∈ F → ∃ o, w.heap[b]? = some o ∧ o.isCells = true
theorem onCells_int (k : IntKind) : OnCells (Shp.int k) := by
 rintro F w cs x ⟨rfl, _⟩ b hb; cases hb
theorem onCells_octs : OnCells Shp.octs := by
 rintro F w cs x ⟨v, rfl, h, rfl⟩ b hb
 rcases h.2 with ⟨rfl, _⟩ | ⟨g, cap, cur, rfl, h0, hg, r⟩
 ·cases hb
 ·simp [Value.ownBlock] at hb; subst hb; exact ⟨_, hg, rfl⟩
theorem onCells_pair {α β : Type} {s : Shp α} {t : Shp β} (h1 : OnCells s) (h2 : OnCells t) : OnCells (s.pair t) := by
 rintro F w cs x ⟨c, d, G, H, rfl, rfl, k1, k2⟩ b hb
 rcases List.mem_append.1 hb with h | h
 ·exact h1 k1 b h
 ·exact h2 k2 b h
theorem onCells_each {α : Type} {s : Shp α} (h1 : OnCells s) {w : World} : ∀ {xs : List α} {F cc}, ownEach s w F cc xs → ∀ b, b ∈ F → ∃ o, w.heap[b]? = some o ∧ o.isCells = true
 | [], F, cc, h, b, hb => by rw [h.1] at hb; cases hb
 | x :: xs, F, cc, ⟨F1, F2, c1, c2, e1, e2, k1, k2⟩, b, hb => by
  rw [e1] at hb
  rcases List.mem_append.1 hb with h | h
  ·exact h1 k1 b h
  ·exact onCells_each h1 k2 b h
theorem onCells_list {α : Type} {s : Shp α} (T : Nat) (h1 : OnCells s) : OnCells (Shp.list T s) := by
 rintro F w cs xs ⟨v, cc, G, rfl, k1, k2, rfl⟩ b hb
 rcases List.mem_append.1 hb with h | h
 ·rcases k1.2 with ⟨rfl, _⟩ | ⟨g, cap, cur, rfl, h0, hg, r⟩
  ·cases h
  ·simp [Value.ownBlock] at h; subst h; exact ⟨_, hg, rfl⟩
 ·exact onCells_each h1 k2 b h
theorem onCells_state : OnCells SStP := onCells_pair (onCells_list _ onCells_octs) (onCells_list _ (onCells_pair (onCells_int _) onCells_octs))
theorem KpC.ownS {α : Type} {s : Shp α} (hs : OnCells s) {V V' : World} (h : KpC V V') {B : Nat} {cs : List Value} {x : α} (o : Own s B V cs x) : Own s B V' cs x := by
 obtain ⟨F, h1, h2, h3⟩ := o
 refine ⟨F, s.own_to h1 fun b hb => ?_, h2, h3⟩
 obtain ⟨o, e, hc⟩ := hs h1 b hb
 exact (h.2 b o e hc).trans e.symm
theorem KpC.rdSec {V V' : World} (h : KpC V V') {v : Value} {ss : List (List UInt8)} (hr : RdSec V v ss) : RdSec V' v ss := by
 obtain ⟨ao, cap, rfl, h1, h2, h3, h4⟩ := hr
 refine ⟨ao, cap, rfl, h1, h2, h3, ?_⟩
 rcases h4 with h4 | ⟨b, off, rfl, hc⟩
 ·exact .inl h4
 ·refine .inr ⟨b, off, rfl, fun i x hx => ?_⟩
  obtain ⟨c, ⟨v, e, hv⟩, hcell⟩ := hc i x hx
  exact ⟨c, ⟨v, e, h.rd hv⟩, fun j u hj => h.cell (hcell j u hj)⟩
theorem rd_at {w V : World} {g o n c : Nat} {b : List UInt8} (h : Rd w (.slice (some ⟨g, o, none⟩) n c) b) (hg : V.heap[g]? = w.heap[g]?) : Rd V (.slice (some ⟨g, o, none⟩) n c) b := by
 obtain ⟨ao, cap, e, h1, h2, h3, h4⟩ := h
 refine ⟨ao, cap, e, h1, h2, h3, ?_⟩
 rcases h4 with h4 | ⟨b', off, rfl, hc⟩
 ·exact .inl h4
 ·simp only [Value.slice.injEq, Option.some.injEq, Addr.mk.injEq, and_true] at e
  obtain ⟨⟨rfl, rfl⟩, _, _⟩ := e
  exact .inr ⟨_, _, rfl, fun i hi => (World.cell?_of_block hg).trans (hc i hi)⟩
theorem results_rowbox {P : Program} {fn : Func} {p q : Tmp} {t1 t2 : TypeId} (h : fn.results = #[.cell p t1, .cell q t2]) (tmps : Array Value) (w : World) (g1 g2 : Nat) (x y v2 : Value) (t : TypeId) (fr : Nat × Nat) (d1 d2 : TypeDesc)
  (hu1 : P.underlying t1 = some d1) (hd1 : (match d1 with | .struct _ | .array _ _ => true | _ => false) = true) (hd2 : (match d2 with | .struct _ | .array _ _ => true | _ => false) = false) (hi : (P.info? t1).map (·.size) = some 2) (hu2 : P.underlying t2 = some d2) (hp : tmps.getD p undef = .pointer (some ⟨g1, 0, none⟩)) (hq : tmps.getD q undef = .pointer (some ⟨g2, 0, none⟩))
  (c1 : w.heap[g1]? = some (.cells #[x, y] t fr)) (c2 : w.cell? ⟨g2, 0, none⟩ = some v2) : (results fn tmps).run P w = .ok (.tuple #[.agg #[x, y], v2]) w := by
 have hp' : tmps[p]?.getD undef = .pointer (some ⟨g1, 0, none⟩) := by simpa using hp
 have hq' : tmps[q]?.getD undef = .pointer (some ⟨g2, 0, none⟩) := by simpa using hq
 simp [results, h, hp', hq', asAddr, run_loadVar_row w g1 t t1 #[x, y] fr d1 c1 hu1 hd1 hi, run_loadVar_one d2 hd2 hu2 c2]
def putRes (U : World) (g : Nat) (p q r : Value) : World := ((U.setCell ⟨g + 1, 0, none⟩ p).setCell ⟨g + 1, 1, none⟩ q).setCell ⟨g + 1 + 1, 0, none⟩ r
theorem putRes_row {U : World} {g : Nat} {x y : Value} {t : TypeId} {fr : Nat × Nat} (h : U.heap[g + 1]? = some (.cells #[x, y] t fr)) (p q r : Value) : (putRes U g p q r).heap[g + 1]? = some (.cells #[p, q] t fr) := by
 unfold putRes
 rw [Below.heap_setCell _ _ _ _ (by show g + 1 ≠ g + 1 + 1; omega)]
 exact heap_set2 h p q
theorem putRes_box {U : World} {g : Nat} {v : Value} {t : TypeId} (h : Boxed U (g + 1 + 1) t v) (p q r : Value) : Boxed (putRes U g p q r) (g + 1 + 1) t r := by
 unfold putRes
 have : Boxed ((U.setCell ⟨g + 1, 0, none⟩ p).setCell ⟨g + 1, 1, none⟩ q) (g + 1 + 1) t v := by
  show (_ : Option Obj) = _
  rw [Below.heap_setCell _ _ _ _ (by show g + 1 + 1 ≠ g + 1; omega), Below.heap_setCell _ _ _ _ (by show g + 1 + 1 ≠ g + 1; omega)]; exact h
 exact this.set r
theorem putRes_below {B : Nat} {w U : World} (h : Below B w U) {g : Nat} (hg : B ≤ g) (p q r : Value) : Below B w (putRes U g p q r) :=
 (below_set2 h (show B ≤ g + 1 by omega) p q).setCell (p := ⟨g + 1 + 1, 0, none⟩) (show B ≤ g + 1 + 1 by omega) r
theorem putRes_own {α : Type} {s : Shp α} {B : Nat} {U : World} {cs : List Value} {x : α} (h : Own s B U cs x) {g : Nat} (hg : g + 1 + 1 < B) (p q r : Value) : Own s B (putRes U g p q r) cs x :=
 ((h.set (a := ⟨g + 1, 0, none⟩) (show g + 1 < B by omega) p).set (a := ⟨g + 1, 1, none⟩) (show g + 1 < B by omega) q).set (a := ⟨g + 1 + 1, 0, none⟩) hg r
theorem putRes_other {U : World} {g k : Nat} (h1 : k ≠ g + 1) (h2 : k ≠ g + 1 + 1) (p q r : Value) : (putRes U g p q r).heap[k]? = U.heap[k]? := by
 unfold putRes
 rw [Below.heap_setCell _ _ _ _ h2, Below.heap_setCell _ _ _ _ h1, Below.heap_setCell _ _ _ _ h1]
theorem putRes_keeps (U : World) (g : Nat) (p q r : Value) : KeepsOthers U (putRes U g p q r) := ((KeepsOthers.setCell _ _ _).trans (KeepsOthers.setCell _ _ _)).trans (KeepsOthers.setCell _ _ _)
def putSec (U : World) (g ge : Nat) (p q r : Value) : World := ((U.setCell ⟨g, 0, none⟩ p).setCell ⟨g, 1, none⟩ q).setCell ⟨ge, 0, none⟩ r
theorem putSec_other {U : World} {g ge k : Nat} (h1 : k ≠ g) (h2 : k ≠ ge) (p q r : Value) : (putSec U g ge p q r).heap[k]? = U.heap[k]? := by
 unfold putSec
 rw [Below.heap_setCell _ _ _ _ h2, Below.heap_setCell _ _ _ _ h1, Below.heap_setCell _ _ _ _ h1]
theorem putSec_keeps (U : World) (g ge : Nat) (p q r : Value) : KeepsOthers U (putSec U g ge p q r) := ((KeepsOthers.setCell _ _ _).trans (KeepsOthers.setCell _ _ _)).trans (KeepsOthers.setCell _ _ _)
def IW (w : World) (d : Dsk) (at' : Int) (b : List UInt8) (w2 : World) (gb : Nat) (pre : List Nat) (V : World) : Prop :=
 ∃ s c, Below w.heap.size w V ∧ V.heap[w.heap.size]? = some (.cells #[s, c] 31 (0, 0)) ∧ V.heap[w.heap.size + 1]? = some (.cells #[.slice none 0 0, .slice none 0 0] 31 (0, 0)) ∧ Boxed V (w.heap.size + 1 + 1) 34 (.int .i64 0) ∧ Boxed V w2.heap.size 34 (.int .i64 0) ∧
  V.heap[gb]? = w2.heap[gb]? ∧ RdSec V s d.1 ∧ RdC V c (d.2 ++ pws at' b pre.length) ∧ (1 ≤ pre.length → Own SStP (w2.heap.size + 1) V [s, c] (d.1, d.2 ++ pws at' b pre.length)) ∧ d.2.length + pre.length ≤ 4096
def XW (w : World) (d : Dsk) (c : Code) (pre : List Nat) (V : World) : Prop :=
 c = .ret ∧ 4092 < d.2.length ∧ Below w.heap.size w V ∧ V.heap[w.heap.size + 1]? = some (.cells #[.slice none 0 0, .slice none 0 0] 31 (0, 0)) ∧ Boxed V (w.heap.size + 1 + 1) 34 (.int .i64 51)
def actW (w w2 : World) (s1 s2 s3 : Value) (at' id : Int) (gb go gc : Nat) (x : Nat) : Act := { tmps := #[.agg #[s1, s2], .int .i64 at', .int .i64 id, s3, .pointer (some ⟨w.heap.size, 0, none⟩), undef, undef, undef, .pointer (some ⟨w.heap.size + 1, 0, none⟩), .pointer (some ⟨w.heap.size + 1 + 1, 0, none⟩), .int .i64 0, .slice (some ⟨gb, go, none⟩) 256 gc, .pointer (some ⟨w2.heap.size, 0, none⟩), .int .i64 (at' + (x : Int)), .slice (some ⟨gb, go + 64 * x, none⟩) 64 (gc - 64 * x), .agg #[s1, s2], .int .i64 at', .int .i64 0, .int .i64 0, .bool false, undef, undef, .tuple #[.slice (some ⟨gb, go, none⟩) 256 gc, .int .i64 0], .int .i64 id, s3, .tuple #[.slice (some ⟨gb, go, none⟩) 256 gc, .int .i64 0], .slice (some ⟨gb, go, none⟩) 256 gc, .int .i64 0, .int .i64 0, .bool false, undef, undef, .int .i64 at', .slice (some ⟨gb, go, none⟩) 256 gc, .func (.func 85) #[] #[.pointer (some ⟨w2.heap.size + 1, 0, none⟩), .pointer (some ⟨w2.heap.size + 1 + 1, 0, none⟩)], .int .i64 (at' + (x : Int)), .slice (some ⟨gb, go + 64 * x, none⟩) 64 (gc - 64 * x), undef, undef, undef, undef, undef, undef, undef, undef, undef, undef, undef, undef], defers := [] }
def AW (w : World) (d : Dsk) (at' : Int) (b : List UInt8) (w2 : World) (s1 s2 s3 : Value) (id : Int) (gb go gc : Nat) (pre : List Nat) (x : Nat) (a : Act) (V : World) : Prop :=
 IW w d at' b w2 gb pre V ∧ RP pre x V ∧ a = actW w w2 s1 s2 s3 at' id gb go gc x
theorem IW_kpc {w : World} {d : Dsk} {at' : Int} {b : List UInt8} {w2 : World} {gb : Nat} {pre : List Nat} {X Y : World} (k : KpC X Y) (hb : Below w.heap.size w Y) (hgb : ∃ o, w2.heap[gb]? = some o ∧ o.isCells = true) (h : IW w d at' b w2 gb pre X) : IW w d at' b w2 gb pre Y := by
 obtain ⟨s, c, h1, h2, h3, h4, h5, h6, h7, h8, h9, h10⟩ := h
 obtain ⟨o, ho, hc⟩ := hgb
 exact ⟨s, c, hb, k.2 _ _ h2 rfl, k.2 _ _ h3 rfl, k.2 _ _ h4 rfl, k.2 _ _ h5 rfl, (k.2 _ _ (h6.trans ho) hc).trans ho.symm, k.rdSec h7, k.rdC h8, fun q => k.ownS onCells_state (h9 q), h10⟩
theorem IW_own (w : World) (d : Dsk) (at' : Int) (b : List UInt8) (w2 : World) (gb B : Nat) (hB : w.heap.size ≤ B) (hgb : ∃ o, w2.heap[gb]? = some o ∧ o.isCells = true) : OwnFrom B (IW w d at' b w2 gb) := by
 rintro pre X Y row h hg hr
 have hb : Below w.heap.size w X := by obtain ⟨s, c, h1, _⟩ := h; exact h1
 exact IW_kpc (KpC.of_grown hg hr) (hb.grown hg hb.size (fun k e => by have := (hr k e).1; omega)) hgb h
theorem XW_own (w : World) (d : Dsk) (B : Nat) (hB : w.heap.size ≤ B) (c : Code) : OwnFrom B (XW w d c) := by
 rintro pre X Y row ⟨rfl, h0, hb, h2, h3⟩ hg hr
 have kp := KpC.of_grown hg hr
 exact ⟨rfl, h0, hb.grown hg hb.size (fun k e => by have := (hr k e).1; omega), kp.2 _ _ h2 rfl, kp.2 _ _ h3 rfl⟩
set_option maxHeartbeats 4000000 in
set_option maxRecDepth 100000 in
theorem ppgwrite_any (w : World) (sv cv v : Value) (d : Dsk) (at' id : Int) (x : List UInt8) (h1 : RdSec w sv d.1) (h2 : RdC w cv d.2) (hx : Rd w v x) :
  Calls Try.prog 25 #[.agg #[sv, cv], .int .i64 at', .int .i64 id, v] w fun e w' => ∃ sv' cv', e = .returned (.tuple #[.agg #[sv', cv'], .int .i64 (pgwrite d at' id x).2]) ∧ Own SStP w.heap.size w' [sv', cv'] (pgwrite d at' id x).1 ∧ Below w.heap.size w w' := by
 refine (callsIn_wide (n := 5)).1 ?_
 have sD := hide (fun h => @pgwrite_sect d at' id x h)
 have sE := hide (fun h h2 => @pgwrite_enc d at' id x h h2)
 have sF := hide (fun h h2 h3 => @pgwrite_full d at' id x h h2 h3)
 have sY := hide (fun h h2 h3 => @pgwrite_0 d at' id x h h2 h3)
 have KE := hide (fun u h => pgencP_any u id v x h)
 have hbl := hide (fun (h : (pgenc id x).2 = 0) => show (pgenc id x).1.length = 256 by rw [(pgenc_zero h).2.2]; exact pgenc_len _ (pgenc_zero h).2.1)
 obtain ⟨bb, er, hb⟩ : ∃ bb er, pgenc id x = (bb, er) := ⟨_, _, rfl⟩
 rw [hb] at sE sF sY KE hbl
 dsimp only at sE sF sY KE hbl
 generalize hST : pgwrite d at' id x = ST at *
 clear hb hST
 obtain ⟨a1, c1, rfl⟩ := h1.slice
 obtain ⟨a2, c2, rfl⟩ := h2.slice
 obtain ⟨a3, c3, rfl⟩ := hx.slice
 obtain ⟨W, hW⟩ : ∃ W, W = ((w.alloc (.cells #[.slice a1 d.1.length c1, .slice a2 d.2.length c2] 31)).alloc (.cells #[.slice none 0 0, .slice none 0 0] 31)).alloc (.cells #[.int .i64 0] 34) := ⟨_, rfl⟩
 have sW : W.heap.size = w.heap.size + 1 + 1 + 1 := by rw [hW]; simp
 have bW : Below w.heap.size w W := by rw [hW]; exact (((Below.refl _ _).alloc (Nat.le_refl _) _).alloc (by simp) _).alloc (by simp <;> omega) _
 have hA : W.heap[w.heap.size]? = some (.cells #[.slice a1 d.1.length c1, .slice a2 d.2.length c2] 31 (0, 0)) := by
  rw [hW, Below.heap_alloc _ _ _ (by simp <;> omega), Below.heap_alloc _ _ _ (by simp)]; exact heap_alloc_last w _
 have hB : W.heap[w.heap.size + 1]? = some (.cells #[.slice none 0 0, .slice none 0 0] 31 (0, 0)) := by
  rw [hW, Below.heap_alloc _ _ _ (by simp)]
  have := heap_alloc_last (w.alloc (.cells #[.slice a1 d.1.length c1, .slice a2 d.2.length c2] 31)) (.cells #[.slice none 0 0, .slice none 0 0] 31); simpa using this
 have hC : Boxed W (w.heap.size + 1 + 1) 34 (.int .i64 0) := by
  show W.heap[_]? = _
  rw [hW]
  have := heap_alloc_last ((w.alloc (.cells #[.slice a1 d.1.length c1, .slice a2 d.2.length c2] 31)).alloc (.cells #[.slice none 0 0, .slice none 0 0] 31)) (.cells #[.int .i64 0] 34); simpa using this
 obtain ⟨A0, A1, _, _⟩ := row2_cells hA
 have KC := hide (ppgsect_any W _ _ d at' (h1.to0 bW) (h2.to0 bW))
 obtain ⟨E, hE⟩ : ∃ E, E = pgsect d at' := ⟨_, rfl⟩
 rw [← hE] at KC
 refine callsIn_of_wp_marks Try.func25 rfl trivial ?_ rfl
 simp only [Try.ntmps25, List.size_toArray, List.length_cons, List.length_nil, Nat.reduceAdd, Nat.reduceSub, Array.replicate_succ, Array.replicate_zero, List.push_toArray, List.append_toArray, List.nil_append, List.cons_append]
 gi_wp2_with fail
 rw [← hW]
 replace hW := hide hW
 refine ⟨trivial, ?_⟩
 refine (callsIn_wide.2 KC.out).mono ?_
 rintro e w1 ⟨rfl, b1⟩
 clear KC
 have c1w := bW.trans (b1.mono bW.size)
 have hA1 := (b1.block w.heap.size (by omega)).trans hA
 have hB1 := (b1.block (w.heap.size + 1) (by omega)).trans hB
 have hC1 : Boxed w1 (w.heap.size + 1 + 1) 34 (.int .i64 0) := (b1.block _ (by omega)).trans hC
 have hs1 : w.heap.size + 1 + 1 + 1 ≤ w1.heap.size := by have := b1.size; omega
 clear hA hB hC A0 A1 b1 bW
 by_cases h0 : E = 0
 ·have hsec : Hid (pgsect d at' = 0) := by show _ = _; rw [← hE]; exact h0
  subst h0
  replace hE := hide hE
  have KE1 := hide (KE.out w1 (hx.to c1w))
  clear KE
  gi_wp2_with fail
  refine ⟨trivial, ?_⟩
  refine (callsIn_wide.2 KE1.out).mono ?_
  rintro e w2 ⟨v2, rfl, o2, b2⟩
  clear KE1
  have c2w := c1w.trans (b2.mono c1w.size)
  have hA2 := (b2.block w.heap.size (by omega)).trans hA1
  have hB2 := (b2.block (w.heap.size + 1) (by omega)).trans hB1
  have hC2 : Boxed w2 (w.heap.size + 1 + 1) 34 (.int .i64 0) := (b2.block _ (by omega)).trans hC1
  have hs2 := b2.size
  obtain ⟨w4, hw4⟩ : ∃ u, u = w2.alloc (.cells #[.int .i64 er] 34) := ⟨_, rfl⟩
  have s4 : w4.heap.size = w2.heap.size + 1 := by rw [hw4]; simp
  have b4 : Below w2.heap.size w2 w4 := by rw [hw4]; exact (Below.refl _ _).alloc (Nat.le_refl _) _
  have hD4 : Boxed w4 w2.heap.size 34 (.int .i64 er) := by rw [hw4]; exact Boxed.new w2 _ _
  have hk4 : ∀ k, k < w2.heap.size → w4.heap[k]? = w2.heap[k]? := fun k hk => b4.block k hk
  have c4w := c2w.trans (b4.mono c2w.size)
  have hA4 := (hk4 w.heap.size (by omega)).trans hA2
  have hB4 := (hk4 (w.heap.size + 1) (by omega)).trans hB2
  have hC4 : Boxed w4 (w.heap.size + 1 + 1) 34 (.int .i64 0) := (hk4 _ (by omega)).trans hC2
  clear hA1 hB1 hC1 hA2 hB2 hC2 b2 b4
  by_cases he : er = 0
  ·have hbL := hide (hbl.out he)
   obtain ⟨gb, go, gc, hv2, hgc, hgm, _, _⟩ := rdN o2.rd hbL.out (by decide)
   subst hv2
   have hgo : ∃ o, w2.heap[gb]? = some o ∧ o.isCells = true := by
    rcases o2.2 with ⟨e, _⟩ | ⟨g, cap, cur, e, _, hg, _⟩
    ·cases e
    ·simp only [Value.slice.injEq, Option.some.injEq, Addr.mk.injEq, and_true] at e
     obtain ⟨⟨rfl, rfl⟩, _, _⟩ := e
     exact ⟨_, hg, rfl⟩
   have hgb : gb < w2.heap.size := by obtain ⟨o, ho, _⟩ := hgo; exact lt_of_block ho
   have hgw : w1.heap.size ≤ gb := o2.from gb rfl
   have r4 := rd_at o2.rd (hk4 gb hgb)
   have r2 := hide o2.rd
   subst he
   gi_wp2_with fail
   rw [← hw4]
   replace hw4 := hide hw4
   refine ⟨trivial, ?_⟩
   refine (callsIn_wide.2 (sectorsFrom_any w4 at' _ bb r4)).mono ?_
   rintro e w' ⟨rfl, rfl⟩
   gi_wp2
   obtain ⟨w5, hw5⟩ : ∃ u, u = (w4.alloc (.cells #[.int .i64 at'] 3)).alloc (.cells #[.slice (some ⟨gb, go, none⟩) 256 gc] 62) := ⟨_, rfl⟩
   have s5 : w5.heap.size = w2.heap.size + 1 + 1 + 1 := by rw [hw5]; simp [s4]
   have b5 : Below w4.heap.size w4 w5 := by rw [hw5]; exact ((Below.refl _ _).alloc (Nat.le_refl _) _).alloc (by simp) _
   have ba : Boxed w5 (w2.heap.size + 1) 3 (.int .i64 at') := by
    rw [hw5, ← s4]; exact (Boxed.new w4 _ _).alloc _
   have bp : Boxed w5 (w2.heap.size + 1 + 1) 62 (.slice (some ⟨gb, go, none⟩) 256 gc) := by
    rw [hw5, ← s4]
    have := Boxed.new (w4.alloc (.cells #[.int .i64 at'] 3)) 62 (.slice (some ⟨gb, go, none⟩) 256 gc)
    simpa using this
   have k5 : ∀ k, k < w4.heap.size → w5.heap[k]? = w4.heap[k]? := fun k hk => b5.block k hk
   have c5w := c4w.trans (b5.mono c4w.size)
   obtain ⟨hok, hp0, hp1⟩ := pgsect_0.1 hsec.out
   have hsl := hok.2.1
   have hcl := hok.2.2.1
   have i5 : IW w d at' bb w2 gb [] w5 := ⟨_, _, c5w, (k5 _ (by omega)).trans hA4, (k5 _ (by omega)).trans hB4, (k5 _ (by omega)).trans hC4, (k5 _ (by omega)).trans hD4, (k5 _ (by omega)).trans (hk4 _ hgb), h1.to0 c5w, by simpa [pws] using h2.to0 c5w, fun h => by simp at h, by simpa using hcl⟩
   rw [← hw5]
   replace hw5 := hide hw5
   refine wpIn_range_hands rfl (by decide) (gf := 85) (lb := #[.pointer (some ⟨w2.heap.size + 1, 0, none⟩), .pointer (some ⟨w2.heap.size + 1 + 1, 0, none⟩)]) rfl trivial (enters_of Try.func85 (by kernel_rfl) rfl)
    (sectors1_hands at' hp0 (by omega) gb go gc hgc w5 _ _ ba bp (5 - 1)) KpP.trans (fun X l o o' _ h1 h2 _ => KpP.put X l o o' h1 h2) (fun _ => rfl) (IW w d at' bb w2 gb) (XW w d) (AW w d at' bb w2 (.slice a1 d.1.length c1) (.slice a2 d.2.length c2) (.slice a3 x.length c3) id gb go gc)
    (IW_own w d at' bb w2 gb _ (by omega) hgo) (XW_own w d _ (by omega)) (fun _ _ _ _ h _ _ => h) (fun pre y a _ X Y row h hg hr => ⟨IW_own w d at' bb w2 gb _ (by omega) hgo pre X Y row h.1 hg hr, h.2⟩) i5 ?assign ?body ?done ?stop
   case assign =>
    rintro l pre y W' K hI hRW hK
    have hk := hK (actW w w2 (.slice a1 d.1.length c1) (.slice a2 d.2.length c2) (.slice a3 x.length c3) at' id gb go gc y) W' (KeepsFrom.refl _ _) (fun _ _ _ h _ => h) ⟨hI, hRW, rfl⟩
    have HK := hide hk
    clear hk hK hI hRW
    dsimp only [encPG]
    gi_wp2
    exact HK.out
   case body =>
    rintro l pre y a' W' hl ⟨⟨s, c, i1, i2, i3, i4, i5', i6, i7, i8, i9, i10⟩, ⟨hy, hy4⟩, rfl⟩
    rw [← hy] at i8 i9 i10
    obtain ⟨sa, sc, hs⟩ := i7.slice
    obtain ⟨ca, cc, hcv⟩ := i8.slice
    obtain ⟨L, hL⟩ : ∃ L, L = (d.2 ++ pws at' bb y).length := ⟨_, rfl⟩
    rw [← hL] at hcv
    subst hs hcv
    obtain ⟨gb', go', gc', hv', _, _, hR, _⟩ := rdN (rd_at r2.out i6) hbL.out (by decide)
    simp only [Value.slice.injEq, Option.some.injEq, Addr.mk.injEq, and_true, true_and] at hv'
    obtain ⟨⟨rfl, rfl⟩, rfl⟩ := hv'
    have rP : Rd W' (.slice (some ⟨gb, go + 64 * y, none⟩) 64 (gc - 64 * y)) (psec bb y) := by
     have := hR (64 * y) (64 * y + 64) (by omega) (by omega)
     rwa [show 64 * y + 64 - 64 * y = 64 by omega] at this
    have KP := hide (dput_any W' _ _ _ (d.1, d.2 ++ pws at' bb y) (at' + (y : Int)) (psec bb y) i7 i8 rP)
    obtain ⟨q0, q1, _, _⟩ := row2_cells i2
    have hWs : w2.heap.size + 1 ≤ W'.heap.size := i5'.lt
    have hgw1 : w.heap.size + 1 + 1 < w2.heap.size := by omega
    have HI := hide (And.intro i1 (And.intro i2 (And.intro i3 (And.intro i4 (And.intro i5' i6)))))
    have hyl : Hid ((pre ++ [y]).length = y + 1) := by show _ = _; rw [List.length_append, ← hy]; rfl
    have hi10 := hide i10
    have HOK := hide hok
    replace hL := hide hL
    replace hy := hide hy
    clear i1 i2 i3 i4 i5' i6 i7 i8 i9 i10 hR rP hok hA4 hB4 hC4 hD4 ba bp
    by_cases hf : d.2.length + y < 4096
    ·rw [dput_pwsK HOK.out hbL.out hp0 hp1 hy4 hf] at KP
     dsimp only at KP
     dsimp only [actW]
     gi_wp2_with fail
     refine ⟨trivial, ?_⟩
     refine (callsIn_wide.2 KP.out).mono ?_
     rintro e w6 ⟨ys, yc, rfl, o6, b6⟩
     clear KP q0 q1
     obtain ⟨P1, P2⟩ := Own.fst (c := [ys]) (d := [yc]) o6 rfl
     obtain ⟨ya, yx, hs⟩ := P1.rdS.slice
     obtain ⟨yb, yy, hcv⟩ := P2.rdS.slice
     obtain ⟨L2, hL2⟩ : ∃ L, L = (d.2 ++ pws at' bb (y + 1)).length := ⟨_, rfl⟩
     rw [← hL2] at hcv
     replace hL2 := hide hL2
     dsimp only at hs
     subst hs hcv
     clear P1 P2
     obtain ⟨i1, i2, i3, i4, i5', i6⟩ := HI.out
     have A6 := (b6.block _ (lt_of_block i2)).trans i2
     obtain ⟨y0, y1, y2, y3⟩ := row2_cells A6
     have D6 : Boxed ((w6.setCell ⟨w.heap.size, 0, none⟩ (.slice ya d.1.length yx)).setCell ⟨w.heap.size, 1, none⟩ (.slice yb L2 yy)) w2.heap.size 34 (.int .i64 0) := by
      show (_ : Option Obj) = _
      rw [Below.heap_setCell _ _ _ _ (by show w2.heap.size ≠ w.heap.size; omega), Below.heap_setCell _ _ _ _ (by show w2.heap.size ≠ w.heap.size; omega)]
      exact (b6.block _ i5'.lt).trans i5'
     have p1 := D6.cell
     have p2 := D6.frozen
     have p3 := (D6.set (.int .i64 0)).cell
     have FIN : Hid (KeepsFrom w5.heap.size W' (putSec w6 w.heap.size w2.heap.size (.slice ya d.1.length yx) (.slice yb L2 yy) (.int .i64 0)) ∧ KpP (w2.heap.size + 1) (w2.heap.size + 1 + 1) W' (putSec w6 w.heap.size w2.heap.size (.slice ya d.1.length yx) (.slice yb L2 yy) (.int .i64 0)) ∧
       IW w d at' bb w2 gb (pre ++ [y]) (putSec w6 w.heap.size w2.heap.size (.slice ya d.1.length yx) (.slice yb L2 yy) (.int .i64 0))) := by
      have k1 : KeepsOthers W' w6 := ⟨b6.size, fun k o h _ => (b6.block k (Array.getElem?_eq_some_iff.1 h).1).trans h⟩
      have oN : Own SStP (w2.heap.size + 1) (putSec w6 w.heap.size w2.heap.size (.slice ya d.1.length yx) (.slice yb L2 yy) (.int .i64 0)) [.slice ya d.1.length yx, .slice yb L2 yy] (d.1, d.2 ++ pws at' bb (y + 1)) :=
       (((o6.set (a := ⟨w.heap.size, 0, none⟩) (by show w.heap.size < W'.heap.size; omega) _).set (a := ⟨w.heap.size, 1, none⟩) (by show w.heap.size < W'.heap.size; omega) _).set (a := ⟨w2.heap.size, 0, none⟩) (by show w2.heap.size < W'.heap.size; omega) _).mono hWs
      obtain ⟨P1, P2⟩ := Own.fst (c := [.slice ya d.1.length yx]) (d := [.slice yb L2 yy]) oN rfl
      refine ⟨(k1.trans (putSec_keeps _ _ _ _ _ _)).from _, ?_, _, _, ?_, ?_, ?_, ?_, D6.set _, ?_, P1.rdS, by rw [hyl.out]; exact P2.rdS, fun _ => by rw [hyl.out]; exact oN, by rw [hyl.out]; omega⟩
      ·intro k o hk h1 _
       rw [putSec_other (by rcases hk with rfl | rfl <;> omega) (by rcases hk with rfl | rfl <;> omega)]
       exact (b6.block k (Array.getElem?_eq_some_iff.1 h1).1).trans h1
      ·exact (below_set2 (i1.trans (b6.mono i1.size)) (Nat.le_refl _) _ _).setCell (p := ⟨w2.heap.size, 0, none⟩) (by show w.heap.size ≤ w2.heap.size; omega) _
      ·unfold putSec
       rw [Below.heap_setCell _ _ _ _ (by show w.heap.size ≠ w2.heap.size; omega)]
       exact heap_set2 A6 _ _
      ·rw [putSec_other (by omega) (by omega)]; exact (b6.block _ (lt_of_block i3)).trans i3
      ·show (_ : Option Obj) = _
       rw [putSec_other (by omega) (by omega)]; exact (b6.block _ i4.lt).trans i4
      ·rw [putSec_other (by omega) (by omega)]; exact (b6.block _ (by omega)).trans i6
     clear A6 D6 i1 i2 i3 i4 i5' i6 o6 b6 HI
     gi_wp2
     exact FIN.out
    ·have hf' : d.2.length + y = 4096 := by have := hi10.out; omega
     rw [dput_pws_full HOK.out hbL.out hp0 hp1 hy4 hf'] at KP
     dsimp only at KP
     dsimp only [actW]
     replace hf := hide hf
     replace hf' := hide hf'
     gi_wp2_with fail
     refine ⟨trivial, ?_⟩
     refine (callsIn_wide.2 KP.out).mono ?_
     rintro e w6 ⟨ys, yc, rfl, o6, b6⟩
     clear KP q0 q1
     obtain ⟨P1, P2⟩ := Own.fst (c := [ys]) (d := [yc]) o6 rfl
     obtain ⟨ya, yx, hs⟩ := P1.rdS.slice
     obtain ⟨yb, yy, hcv⟩ := P2.rdS.slice
     dsimp only [List.length_nil] at hs hcv
     subst hs hcv
     clear P1 P2
     obtain ⟨i1, i2, i3, i4, i5', i6⟩ := HI.out
     have A6 := (b6.block _ (lt_of_block i2)).trans i2
     obtain ⟨y0, y1, y2, y3⟩ := row2_cells A6
     have D6 : Boxed ((w6.setCell ⟨w.heap.size, 0, none⟩ (.slice ya 0 yx)).setCell ⟨w.heap.size, 1, none⟩ (.slice yb 0 yy)) w2.heap.size 34 (.int .i64 0) := by
      show (_ : Option Obj) = _
      rw [Below.heap_setCell _ _ _ _ (by show w2.heap.size ≠ w.heap.size; omega), Below.heap_setCell _ _ _ _ (by show w2.heap.size ≠ w.heap.size; omega)]
      exact (b6.block _ i5'.lt).trans i5'
     have p1 := D6.cell
     have p2 := D6.frozen
     have p3 := (D6.set (.int .i64 51)).cell
     obtain ⟨U, hU⟩ : ∃ U, U = putSec w6 w.heap.size w2.heap.size (.slice ya 0 yx) (.slice yb 0 yy) (.int .i64 51) := ⟨_, rfl⟩
     have B6 : U.heap[w.heap.size + 1]? = some (.cells #[.slice none 0 0, .slice none 0 0] 31 (0, 0)) := by rw [hU, putSec_other (by omega) (by omega)]; exact (b6.block _ (lt_of_block i3)).trans i3
     have C6 : Boxed U (w.heap.size + 1 + 1) 34 (.int .i64 0) := by
      show (_ : Option Obj) = _
      rw [hU, putSec_other (by omega) (by omega)]; exact (b6.block _ i4.lt).trans i4
     have bU : Below w.heap.size w U := by
      rw [hU]; exact (below_set2 (i1.trans (b6.mono i1.size)) (Nat.le_refl _) _ _).setCell (p := ⟨w2.heap.size, 0, none⟩) (by show w.heap.size ≤ w2.heap.size; omega) _
     have kU : KeepsOthers W' U := by
      have k1 : KeepsOthers W' w6 := ⟨b6.size, fun k o h _ => (b6.block k (Array.getElem?_eq_some_iff.1 h).1).trans h⟩
      rw [hU]; exact k1.trans (putSec_keeps _ _ _ _ _ _)
     have pU : U.cell? ⟨w2.heap.size, 0, none⟩ = some (.int .i64 51) := by rw [hU]; exact p3
     obtain ⟨r0, r1, f0, f1⟩ := row2_cells B6
     have e0 := C6.cell
     have e1 := C6.frozen
     have FIN : Hid (KeepsFrom w5.heap.size W' (putRes U w.heap.size (.slice none 0 0) (.slice none 0 0) (.int .i64 51)).drew ∧ XW w d .ret (pre ++ [y]) (putRes U w.heap.size (.slice none 0 0) (.slice none 0 0) (.int .i64 51)).drew) :=
      ⟨((kU.trans (putRes_keeps _ _ _ _ _)).trans (KeepsOthers.drew _)).from _, rfl, by have := hf'.out; omega, below_drew (putRes_below bU (Nat.le_refl _) _ _ _), putRes_row B6 _ _ _, putRes_box C6 _ _ _⟩
     replace hU : ((w6.setCell ⟨w.heap.size, 0, none⟩ (.slice ya 0 yx)).setCell ⟨w.heap.size, 1, none⟩ (.slice yb 0 yy)).setCell ⟨w2.heap.size, 0, none⟩ (.int .i64 51) = U := hU.symm
     clear A6 D6 i1 i2 i3 i4 i5' i6 o6 b6 HI B6 C6 bU kU
     gi_wp2_with fail
     replace hU := hide hU
     have hmx : Try.prog.follows .mixedOrders = true := mixed
     gi_region_with_o (fail)
     all_goals
      gi_wp2
      exact FIN.out
   case done =>
    rintro D xs W' hD hSP ⟨s, c, i1, i2, i3, i4, i5', i6, i7, i8, i9, i10⟩ hK
    have hx4 : xs.length = 4 := hSP
    rw [hx4] at i8 i9 i10
    have hS := hide (sY.out hsec.out (by trivial) (by omega))
    obtain ⟨sa, sc, hs⟩ := i7.slice
    obtain ⟨ca, cc, hcv⟩ := i8.slice
    obtain ⟨L, hL⟩ : ∃ L, L = (d.2 ++ pws at' bb 4).length := ⟨_, rfl⟩
    rw [← hL] at hcv
    replace hL := hide hL
    subst hs hcv
    obtain ⟨q0, q1, _, _⟩ := row2_cells i2
    obtain ⟨r0, r1, f0, f1⟩ := row2_cells i3
    have e0 := i4.cell
    have e1 := i4.frozen
    have hK6 : (putRes W' w.heap.size (.slice sa d.1.length sc) (.slice ca L cc) (.int .i64 0)).heap[D]? = some (.deferred (some [])) := by rw [putRes_other (by omega) (by omega)]; exact hK
    have FIN := hide (And.intro hK6 (And.intro (putRes_row i3 (.slice sa d.1.length sc) (.slice ca L cc) (.int .i64 0)) (And.intro (putRes_box i4 (.slice sa d.1.length sc) (.slice ca L cc) (.int .i64 0)) (And.intro (putRes_own (g := w.heap.size) (i9 (by decide)) (by omega) (.slice sa d.1.length sc) (.slice ca L cc) (.int .i64 0)) (putRes_below i1 (Nat.le_refl _) (.slice sa d.1.length sc) (.slice ca L cc) (.int .i64 0))))))
    clear i1 i2 i3 i4 i5' i6 i7 i8 i9 i10 hK6 hx4 hSP hA4 hB4 hC4 hD4 ba bp
    gi_wp2
    obtain ⟨hK6, e1', e2', e3', e4'⟩ := FIN.out
    have kp := KpC.put _ D _ (.deferred none) hK6 rfl
    refine ⟨by simp, .inl ⟨_, _, rfl, run_takeDeferred hK6, ?_⟩⟩
    refine ⟨_, results_rowbox rfl _ _ _ _ _ _ _ _ _ _ _ Try.underlying31 rfl rfl info_stP Try.underlying34 rfl rfl (kp.2 _ _ e1' rfl) (kp.cell e2'.cell), ?_⟩
    rw [hS.out]
    exact ⟨_, _, rfl, (kp.ownS onCells_state e3').mono (by omega), e4'.trans ⟨rfl, rfl, rfl, by simp [World.putObj, putRes], fun k hk => World.putObj_heap_other (by omega)⟩⟩
   case stop =>
    rintro D c pre W' hD ⟨rfl, hf, hb, e1, e2⟩ hK
    have hS := hide (sF.out hsec.out (by trivial) hf)
    gi_wp2
    have kp := KpC.put _ D _ (.deferred none) hK rfl
    refine ⟨by simp, .inl ⟨_, _, rfl, run_takeDeferred hK, ?_⟩⟩
    refine ⟨_, results_rowbox rfl _ _ _ _ _ _ _ _ _ _ _ Try.underlying31 rfl rfl info_stP Try.underlying34 rfl rfl (kp.2 _ _ e1 rfl) (kp.cell e2.cell), ?_⟩
    rw [hS.out]
    exact ⟨_, _, rfl, own_none _ _ _, hb.trans ⟨rfl, rfl, rfl, by simp [World.putObj], fun k hk => World.putObj_heap_other (by omega)⟩⟩
  ·have hS := hide (sE.out hsec.out he)
   have hee : (er != 0) = true := by simpa using he
   replace he := hide he
   obtain ⟨s2', t2', hv2⟩ := o2.rd.slice
   subst hv2
   obtain ⟨r0, r1, f0, f1⟩ := row2_cells hB4
   have e0 := hC4.cell
   have e1 := hC4.frozen
   have d4 := hD4.cell
   rw [hw4] at d4
   clear o2
   gi_wp2_with fail
   rw [← hw4]
   rw [← hw4] at d4
   replace hw4 := hide hw4
   have HX : Hid (Below w.heap.size w w4 ∧ _ ∧ _) := ⟨c4w, hB4, hC4⟩
   clear hA4 hB4 hC4
   gi_region
   gi_wp2
   refine ⟨_, results_rowbox rfl _ _ _ _ _ _ _ _ _ _ _ Try.underlying31 rfl rfl info_stP Try.underlying34 rfl rfl (putRes_row HX.out.2.1 _ _ _) (putRes_box HX.out.2.2 _ _ _).cell, ?_⟩
   rw [hS.out]
   exact ⟨_, _, rfl, own_none _ _ _, below_drew (putRes_below HX.out.1 (Nat.le_refl _) _ _ _)⟩
 ·have hS := hide (sD.out (by rw [← hE]; exact h0))
  have hbe : (E != 0) = true := by simpa using h0
  replace h0 := hide h0
  replace hE := hide hE
  obtain ⟨r0, r1, f0, f1⟩ := row2_cells hB1
  have cc := (hC1.other (by omega : w.heap.size + 1 + 1 ≠ w.heap.size + 1) (.slice none 0 0)).cell
  have cf := hC1.frozen
  have HX : Hid (Below w.heap.size w w1 ∧ _ ∧ _) := ⟨c1w, hB1, hC1⟩
  clear hA1 hB1 hC1
  gi_wp2
  refine ⟨_, results_rowbox rfl _ _ _ _ _ _ _ _ _ _ _ Try.underlying31 rfl rfl info_stP Try.underlying34 rfl rfl (putRes_row HX.out.2.1 _ _ _) (putRes_box HX.out.2.2 _ _ _).cell, ?_⟩
  rw [hS.out]
  exact ⟨_, _, by rw [← hE.out], own_none _ _ _, putRes_below HX.out.1 (Nat.le_refl _) _ _ _⟩
end Go.Proofs.Ytjjicajodjophaa

namespace Go.Proofs.Ytjjicajodjophaa
open Go.RowKit
end Go.Proofs.Ytjjicajodjophaa
