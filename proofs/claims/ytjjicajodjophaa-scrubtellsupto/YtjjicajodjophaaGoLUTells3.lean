/- Several texts in one: PgDecR PgPB PgDiskR PgPC WFlushR WTruR WRow WRecR WOf WPC WPB WPD WLg WPE WPH UPB URf URg WSame WSay WAlive WIn. -/
import Derived.Deep.CutRange
import Derived.Test.YtjjicajodjophaaGoLUTells1
import Derived.Test.YtjjicajodjophaaGoLUTells0
import Derived.Laws.MakeOwn
import Derived.Test.YtjjicajodjophaaGoLUTells2
import Derived.Laws.IdiomStrings
set_option linter.unusedVariables false
set_option linter.unusedSimpArgs false
namespace Go.Proofs.Ytjjicajodjophaa
open Go.RowKit
theorem pgn_int (b : List UInt8) (h : 4 ≤ b.length) : bits .or .i64 (bt b 2 * 256) (bt b 3) = ((pgn b : Nat) : Int) ∧ pgn b < 65536 := by
 have e : pgn b = (b.getD 2 0).toNat * 256 + (b.getD 3 0).toNat := by
  unfold pgn numOf
  have hl : ((b.take 4).drop 2).length = 2 := by rw [List.length_drop, List.length_take]; omega
  rw [hl]
  simp only [numTo]
  have g : ∀ i, i < 2 → ((b.take 4).drop 2).getD i 0 = b.getD (2 + i) 0 := by
   intro i hi
   simp [List.getD_eq_getElem?_getD, List.getElem?_drop, show 2 + i < 4 by omega]
  rw [g 0 (by decide), g 1 (by decide)]
  show (0 * 256 + (b.getD 2 0).toNat) * 256 + (b.getD 3 0).toNat = _
  omega
 have h2 := (b.getD 2 0).toNat_lt
 have h3 := (b.getD 3 0).toNat_lt
 refine ⟨?_, by omega⟩
 unfold bt
 rw [e, show ((b.getD 2 0).toNat : Int) * 256 = (((b.getD 2 0).toNat * 256 : Nat) : Int) from by rw [Int.natCast_mul]; rfl]
 generalize (b.getD 2 0).toNat = p at *
 generalize (b.getD 3 0).toNat = q at *
 have key : (BitVec.ofInt 64 ((p * 256 : Nat) : Int) ||| BitVec.ofInt 64 (q : Int)).toNat = p * 256 + q := by
  rw [BitVec.toNat_or, BitVec.ofInt_natCast, BitVec.ofInt_natCast, BitVec.toNat_ofNat, BitVec.toNat_ofNat, Nat.mod_eq_of_lt (by omega), Nat.mod_eq_of_lt (by omega)]
  exact nat_join 8 (p * 256) q (by simp) (by omega)
 show IntKind.i64.wrap (((BitVec.ofInt 64 ((p * 256 : Nat) : Int) ||| BitVec.ofInt 64 (q : Int)).toNat : Nat) : Int) = _
 rw [key, IntKind.wrap_i64]
 omega
theorem pgdec_3 {b : List UInt8} (h : b.length ≠ 256) : pgdec b = (0, [], 3) := if_pos h
theorem pgdec_21 {b : List UInt8} (h : b.length = 256) (h2 : numOf (b.drop 252) ≠ sum (b.take 252)) : pgdec b = (0, [], 21) := by
 unfold pgdec; rw [if_neg (fun k => k h), if_pos h2]
theorem pgdec_22 {b : List UInt8} (h : b.length = 256) (h2 : numOf (b.drop 252) = sum (b.take 252)) (h3 : b.take 2 ≠ pgmark) : pgdec b = (0, [], 22) := by
 unfold pgdec; rw [if_neg (fun k => k h), if_neg (fun k => k h2), if_pos h3]
theorem pgdec_5 {b : List UInt8} (h : b.length = 256) (h2 : numOf (b.drop 252) = sum (b.take 252)) (h3 : b.take 2 = pgmark) (h4 : 244 < pgn b) : pgdec b = (0, [], 5) := by
 unfold pgdec; rw [if_neg (fun k => k h), if_neg (fun k => k h2), if_neg (fun k => k h3), if_pos h4]
theorem pgdec_4 {b : List UInt8} (h : b.length = 256) (h2 : numOf (b.drop 252) = sum (b.take 252)) (h3 : b.take 2 = pgmark) (h4 : ¬ 244 < pgn b) (h5 : 2147483647 < pgid b) : pgdec b = (0, [], 4) := by
 unfold pgdec; rw [if_neg (fun k => k h), if_neg (fun k => k h2), if_neg (fun k => k h3), if_neg h4, if_pos h5]
theorem pgdec_23 {b : List UInt8} (h : b.length = 256) (h2 : numOf (b.drop 252) = sum (b.take 252)) (h3 : b.take 2 = pgmark) (h4 : ¬ 244 < pgn b) (h5 : ¬ 2147483647 < pgid b) (h6 : (b.take 252).drop (8 + pgn b) ≠ List.replicate (244 - pgn b) 0) : pgdec b = (0, [], 23) := by
 unfold pgdec; rw [if_neg (fun k => k h), if_neg (fun k => k h2), if_neg (fun k => k h3), if_neg h4, if_neg h5, if_pos h6]
theorem pgdec_0 {b : List UInt8} (h : b.length = 256) (h2 : numOf (b.drop 252) = sum (b.take 252)) (h3 : b.take 2 = pgmark) (h4 : ¬ 244 < pgn b) (h5 : ¬ 2147483647 < pgid b) (h6 : (b.take 252).drop (8 + pgn b) = List.replicate (244 - pgn b) 0) : pgdec b = ((pgid b : Int), (b.take (8 + pgn b)).drop 8, 0) := by
 unfold pgdec; rw [if_neg (fun k => k h), if_neg (fun k => k h2), if_neg (fun k => k h3), if_neg h4, if_neg h5, if_neg (fun k => k h6)]
theorem ptail_zero {b : List UInt8} {n : Nat} (hl : b.length = 256) (hn : n ≤ 244) (h : ∀ j, 8 + n ≤ j → j < 252 → bt b j = 0) : (b.take 252).drop (8 + n) = List.replicate (244 - n) 0 := by
 apply List.ext_getElem
 ·rw [List.length_drop, List.length_take, List.length_replicate]; omega
 ·intro i h1 h2
  rw [List.length_replicate] at h2
  have := h (8 + n + i) (by omega) (by omega)
  unfold bt at this
  rw [List.getElem_drop, List.getElem_take, List.getElem_replicate]
  have e : b.getD (8 + n + i) 0 = b[8 + n + i]'(by omega) := by simp [List.getD_eq_getElem?_getD, show 8 + n + i < b.length by omega]
  rw [e] at this
  exact UInt8.toNat_inj.1 (by simpa using this)
theorem ptail_not {b : List UInt8} {n : Nat} (hl : b.length = 256) (hn : n ≤ 244) {k : Nat} (h1 : 8 + n ≤ k) (h2 : k < 252) (h : bt b k ≠ 0) : (b.take 252).drop (8 + n) ≠ List.replicate (244 - n) 0 := by
 intro e
 apply h
 have := congrArg (fun l => l.getD (k - (8 + n)) 0) e
 simp only [List.getD_eq_getElem?_getD, List.getElem?_drop, List.getElem?_take, List.getElem?_replicate, show 8 + n + (k - (8 + n)) = k by omega, show k - (8 + n) < 244 - n by omega, if_pos h2] at this
 unfold bt
 rw [List.getD_eq_getElem?_getD, this]
 rfl
set_option maxRecDepth 100000 in
set_option maxHeartbeats 4000000 in
theorem rpgdec_any (w : World) (v : Value) (x : List UInt8) (hx : Rd w v x) : Calls Try.prog 73 #[v] w fun e w' => ∃ v', e = .returned (.tuple #[.int .i64 (pgdec x).1, v', .int .i64 (pgdec x).2.2]) ∧ OwnB w.heap.size w' v' (pgdec x).2.1 ∧ Below w.heap.size w w' := by
 by_cases h1 : x.length = 256
 ·obtain ⟨b, o, c, hv, hc, hcm, hR, hC⟩ := rdN hx h1 (by decide)
  rw [hv]
  have hRX := hide hR
  have hCE := hide hC
  have k2 := conv_rd (show Rd w (.slice (some ⟨b, o, none⟩) 2 c) (x.take 2) by simpa using hR 0 2 (by omega) (by omega)) (by rw [List.length_take]; omega)
  have hq2 : (2 : Int) ≤ (c : Int) := by omega
  have hq8 : (8 : Int) ≤ (c : Int) := by omega
  have hq252 : (252 : Int) ≤ (c : Int) := by omega
  have hq256 : (256 : Int) ≤ (c : Int) := by omega
  have hn252 : ¬ c = 252 := by omega
  have hn4 : ¬ c = 4 := by omega
  have hn8 : ¬ c = 8 := by omega
  have lS : (x.drop 252).length = 4 := by rw [List.length_drop]; omega
  have RN : Hid (Rd w (.slice (some ⟨b, o + 252, none⟩) 4 (c - 252)) (x.drop 252)) := by
   have := hR 252 256 (by omega) (by omega)
   rw [List.take_of_length_le (by omega)] at this
   exact this
  have RS : Hid (Rd w (.slice (some ⟨b, o, none⟩) 252 c) (x.take 252)) := by simpa using hide (hR 0 252 (by omega) (by omega))
  have KN : Hid (∀ u, Rd u (.slice (some ⟨b, o + 252, none⟩) 4 (c - 252)) (x.drop 252) → Calls Try.prog 100 #[.slice (some ⟨b, o + 252, none⟩) 4 (c - 252)] u fun e w' => e = .returned (.int .u64 (numOf (x.drop 252) : Nat)) ∧ w' = u) :=
   fun u h => (refNumber_any u _ _ h (by omega)).mono fun e w' h => ⟨h.1, h.2.symm⟩
  have KS : Hid (∀ u, Rd u (.slice (some ⟨b, o, none⟩) 252 c) (x.take 252) → Calls Try.prog 93 #[.slice (some ⟨b, o, none⟩) 252 c] u fun e w' => e = .returned (.int .u32 (sum (x.take 252) : Nat)) ∧ w' = u) :=
   fun u h => (psum_any u _ _ h (by rw [List.length_take]; omega)).mono fun e w' h => ⟨h.1, h.2.symm⟩
  have hwr := psum64 (x.take 252)
  have D21 := hide (fun h => @pgdec_21 x h1 h)
  have D22 := hide (fun h => @pgdec_22 x h1 h)
  have D5 := hide (fun h => @pgdec_5 x h1 h)
  have D4 := hide (fun h => @pgdec_4 x h1 h)
  have D23 := hide (fun h => @pgdec_23 x h1 h)
  have D0 := hide (fun h => @pgdec_0 x h1 h)
  obtain ⟨pn, pn2⟩ := pgn_int x (by omega)
  have KI := hide (fun u h => refNumber_any u (.slice (some ⟨b, o + 4, none⟩) 4 (c - 4)) ((x.take 8).drop 4) h (by rw [List.length_drop, List.length_take]; omega))
  have hI : numOf ((x.take 8).drop 4) = pgid x := rfl
  rw [hI] at KI
  generalize hNe : numOf (x.drop 252) = N at *
  generalize hSe : sum (x.take 252) = S at *
  replace hNe := hide hNe
  replace hSe := hide hSe
  have h1' := hide h1
  clear h1 lS hx hR hC hI
  go_enter Try.func73, Try.ntmps73
  go_wp2_with fail
  by_cases h2 : N = S
  ·subst h2
   go_quiet (first | (go_at_call 100; exact Calls.quiet_of_same (KN.out _ (RN.out.drewN _))) | (go_at_call 93; exact Calls.quiet_of_same (KS.out _ (RS.out.drewN _))))
   obtain ⟨w1, hw1⟩ : ∃ u, u = w.drewN nq := ⟨_, rfl⟩
   rw [← hw1]
   have b1 : Below w.heap.size w w1 := by rw [hw1]; exact below_drewN' w nq _
   have k2' : (convert 62 9 (.slice (some ⟨b, o, none⟩) 2 c)).run Try.prog w1 = .ok (.string ⟨(x.take 2).toArray⟩) w1 :=
    conv_rd (by simpa using (hRX.out 0 2 (by omega) (by omega)).to b1) (by rw [List.length_take]; have := h1'.out; omega)
   replace hw1 := hide hw1
   clear k2 KN KS RN RS hwr
   by_cases h3 : x.take 2 = pgmark
   ·have t2 := (b1.cell (cell_lt (hCE.out 2 (by decide)))).trans (hCE.out 2 (by decide))
    have t3 := (b1.cell (cell_lt (hCE.out 3 (by decide)))).trans (hCE.out 3 (by decide))
    rw [h3] at k2'
    replace h3 := hide h3
    have v2 := bt_bd x 2
    have v3 := bt_bd x 3
    obtain ⟨n, hn⟩ : ∃ n, n = pgn x := ⟨_, rfl⟩
    rw [← hn] at pn pn2 D5 D4 D23 D0
    replace hn := hide hn
    go_wp2_with fail
    go_quiet (fail)
    obtain ⟨w2, hw2⟩ : ∃ u, u = w1.drewN nq := ⟨_, rfl⟩
    rw [← hw2]
    have b2 : Below w.heap.size w w2 := b1.trans (by rw [hw2]; exact below_drewN' w1 nq _)
    replace hw2 := hide hw2
    clear k2' t2 t3 b1
    have KJ := hide (KI.out w2 ((hRX.out 4 8 (by omega) (by omega)).to b2))
    obtain ⟨I, hI⟩ : ∃ I, I = pgid x := ⟨_, rfl⟩
    rw [← hI] at KJ D4 D23 D0
    have hI64 : I < 4294967296 := by
     rw [hI]
     have := numTo_lt ((x.take 8).drop 4) ((x.take 8).drop 4).length
     have hl : ((x.take 8).drop 4).length = 4 := by rw [List.length_drop, List.length_take]; have := h1'.out; omega
     unfold pgid numOf
     rw [hl] at this ⊢
     omega
    replace hI := hide hI
    go_wp2_with fail
    refine KJ.out.mono ?_
    rintro e w' ⟨rfl, rfl⟩
    clear KJ KI
    by_cases h4 : 244 < n
    ·have hq : (244 : Int) < (n : Int) := by omega
     have hD := hide (D5.out (by trivial) h3.out h4)
     replace h4 := hide h4
     go_wp2
     go_ret3
     rw [hD.out]
     exact ⟨_, rfl, World.ownsRow_nil _ _ _ _, b2⟩
    ·have hq : ¬ (244 : Int) < (n : Int) := by omega
     by_cases h5 : 2147483647 < I
     ·have hq5 : (2147483647 : Int) < (I : Int) := by omega
      have hD := hide (D4.out (by trivial) h3.out h4 h5)
      replace h4 := hide h4
      replace h5 := hide h5
      go_wp2
      go_ret3
      rw [hD.out]
      exact ⟨_, rfl, World.ownsRow_nil _ _ _ _, b2⟩
     ·have hq5 : ¬ (2147483647 : Int) < (I : Int) := by omega
      have hn244 : n ≤ 244 := by omega
      have D23' := hide (D23.out (by trivial) h3.out h4 h5)
      have D0' := hide (D0.out (by trivial) h3.out h4 h5)
      have HC : Hid (∀ i, i < 256 → w2.cell? ⟨b, o + i, none⟩ = some (.int .u8 (bt x i))) := fun i hi => (b2.cell (cell_lt (hCE.out i hi))).trans (hCE.out i hi)
      have hwI : IntKind.i64.wrap (I : Int) = (I : Int) := by rw [IntKind.wrap_i64]; omega
      replace h4 := hide h4
      replace h5 := hide h5
      replace b2 := hide b2
      go_wp2
      go_loopw [7] (fun i wr => ∃ k : Nat, 8 + n ≤ k ∧ k ≤ 252 ∧ i = .int .i64 k ∧ w2 = wr ∧ Hid (∀ j, 8 + n ≤ j → j < k → bt x j = 0)) (fun i _ => 252 - (intOf i).toNat)
      case atStart => exact ⟨8 + n, by omega, by omega, by go_num, rfl, hide (fun j p1 p2 => by omega)⟩
      case round =>
       obtain ⟨k, hk0, hk1, rfl, rfl, hZ⟩ := hrel
       by_cases hlt : k < 252
       ·have hqk : (k : Int) < 252 := by omega
        have hqk2 : (k : Int) < 256 := by omega
        have ck := HC.out k (by omega)
        obtain ⟨B, hB⟩ : ∃ B, B = bt x k := ⟨_, rfl⟩
        rw [← hB] at ck
        by_cases hb : B = 0
        ·have hZ' : Hid (∀ j, 8 + n ≤ j → j < k + 1 → bt x j = 0) := fun j p1 p2 => by
          by_cases e : j = k
          ·subst e; rw [← hB]; exact hb
          ·exact hZ.out j p1 (by omega)
         subst hb
         replace hB := hide hB
         go_wp2
         go_roundw
         case rel => exact ⟨k + 1, by omega, by omega, by go_num, trivial, hZ'⟩
         case measure => simp [intOf]; omega
        ·have hbe : (B != 0) = true := by simpa using hb
         have hD := hide (D23'.out (by rw [hn.out]; exact ptail_not h1'.out (by rw [← hn.out]; exact hn244) (by rw [← hn.out]; exact hk0) hlt (by rw [← hB]; exact hb)))
         replace hb := hide hb
         replace hB := hide hB
         go_wp2
         go_ret3
         rw [hD.out]
         exact ⟨_, rfl, World.ownsRow_nil _ _ _ _, b2.out⟩
       ·have hqk : ¬ (k : Int) < 252 := by omega
        have hD := hide (D0'.out (by rw [hn.out]; exact ptail_zero h1'.out (by rw [← hn.out]; exact hn244) (fun j p1 p2 => hZ.out j (by rw [hn.out]; exact p1) (by omega))))
        have hq8n : (8 : Int) ≤ 8 + (n : Int) := by omega
        have hqn : 8 + (n : Int) ≤ (c : Int) := by omega
        have KC := hide (rcopied_any w2 (.slice (some ⟨b, o + 8, none⟩) n (c - 8)) ((x.take (8 + n)).drop 8) (by have := (hRX.out 8 (8 + n) (by omega) (by omega)).to b2.out; rwa [show 8 + n - 8 = n by omega] at this) (by rw [List.length_drop, List.length_take]; omega))
        go_wp2_with fail
        refine KC.out.mono ?_
        rintro e w3 ⟨v3, rfl, o3, b3⟩
        go_wp2
        go_ret3
        rw [hD.out]
        exact ⟨_, rfl, o3.mono b2.out.size, b2.out.trans (b3.mono b2.out.size)⟩
   ·have hD := hide (D22.out (by trivial) h3)
    have hd2 : (x.take 2 == [112, 103]) = false := beq_eq_false_iff_ne.2 h3
    replace h3 := hide h3
    go_wp2
    go_ret3
    rw [hD.out]
    exact ⟨_, rfl, World.ownsRow_nil _ _ _ _, b1⟩
  ·have hD := hide (D21.out h2)
   have hbe : (((N : Nat) : Int) != ((S : Nat) : Int)) = true := by simp only [bne_iff_ne]; omega
   replace h2 := hide h2
   go_quiet (first | (go_at_call 100; exact Calls.quiet_of_same (KN.out _ (RN.out.drewN _))) | (go_at_call 93; exact Calls.quiet_of_same (KS.out _ (RS.out.drewN _))))
   go_wp2
   go_ret3
   rw [hD.out]
   exact ⟨_, rfl, World.ownsRow_nil _ _ _ _, below_drewN' w _ _⟩
 ·have hq : ((x.length : Int) != 256) = true := by simp only [bne_iff_ne]; omega
  have hD := hide (pgdec_3 h1)
  obtain ⟨a, c, rfl⟩ := hx.slice
  replace h1 := hide h1
  go_enter Try.func73, Try.ntmps73
  go_wp2
  go_ret3
  rw [hD.out]
  exact ⟨_, rfl, World.ownsRow_nil _ _ _ _, Below.refl _ _⟩
end Go.Proofs.Ytjjicajodjophaa

namespace Go.Proofs.Ytjjicajodjophaa
open Go.RowKit
noncomputable def pgseal (x : List UInt8) : Int := if x.length ≠ 256 then 3 else if numOf (x.drop 252) ≠ sum (x.take 252) then 21 else if x.take 2 ≠ pgmark then 22 else 0
theorem pgseal_3 {b : List UInt8} (h : b.length ≠ 256) : pgseal b = 3 := if_pos h
theorem pgseal_21 {b : List UInt8} (h : b.length = 256) (h2 : numOf (b.drop 252) ≠ sum (b.take 252)) : pgseal b = 21 := by
 unfold pgseal; rw [if_neg (fun k => k h), if_pos h2]
theorem pgseal_22 {b : List UInt8} (h : b.length = 256) (h2 : numOf (b.drop 252) = sum (b.take 252)) (h3 : b.take 2 ≠ pgmark) : pgseal b = 22 := by
 unfold pgseal; rw [if_neg (fun k => k h), if_neg (fun k => k h2), if_pos h3]
theorem pgseal_0 {b : List UInt8} (h : b.length = 256) (h2 : numOf (b.drop 252) = sum (b.take 252)) (h3 : b.take 2 = pgmark) : pgseal b = 0 := by
 unfold pgseal; rw [if_neg (fun k => k h), if_neg (fun k => k h2), if_neg (fun k => k h3)]
theorem pgseal_yes {b : List UInt8} (h : pgseal b = 0) : b.length = 256 ∧ numOf (b.drop 252) = sum (b.take 252) ∧ b.take 2 = pgmark := by
 by_cases h1 : b.length = 256
 ·by_cases h2 : numOf (b.drop 252) = sum (b.take 252)
  ·by_cases h3 : b.take 2 = pgmark
   ·exact ⟨h1, h2, h3⟩
   ·rw [pgseal_22 h1 h2 h3] at h; cases h
  ·rw [pgseal_21 h1 h2] at h; cases h
 ·rw [pgseal_3 h1] at h; cases h
theorem pgdec_seal {b : List UInt8} (h : pgseal b ≠ 0) : pgdec b = (0, [], pgseal b) := by
 by_cases h1 : b.length = 256
 ·by_cases h2 : numOf (b.drop 252) = sum (b.take 252)
  ·by_cases h3 : b.take 2 = pgmark
   ·exact absurd (pgseal_0 h1 h2 h3) h
   ·rw [pgseal_22 h1 h2 h3, pgdec_22 h1 h2 h3]
  ·rw [pgseal_21 h1 h2, pgdec_21 h1 h2]
 ·rw [pgseal_3 h1, pgdec_3 h1]
theorem oc4_iff {y : List UInt8} {n : Nat} (hl : y.length = 4) (hn : n < 4294967296) : y = oc n 4 ↔ numOf y = n := by
 constructor
 ·rintro rfl; exact numOf_oc _ _ (by omega)
 ·intro h; exact pnumOf_inj (by rw [oc_length, hl]) (by rw [h, numOf_oc _ _ (by omega)])
set_option maxRecDepth 100000 in
set_option maxHeartbeats 4000000 in
theorem pgseal_any (w : World) (v : Value) (x : List UInt8) (hx : Rd w v x) : Calls Try.prog 97 #[v] w fun e w' => e = .returned (.int .i64 (pgseal x)) ∧ Below w.heap.size w w' := by
 by_cases h1 : x.length = 256
 ·obtain ⟨b, o, c, rfl, hc, hcm, hR, hC⟩ := rdN hx h1 (by decide)
  have hS := sum_lt (x.take 252)
  unfold M32 at hS
  have r252 : Rd w (.slice (some ⟨b, o, none⟩) 252 c) (x.take 252) := by simpa using hR 0 252 (by omega) (by omega)
  have rS : Rd w (.slice (some ⟨b, o + 252, none⟩) 4 (c - 252)) (x.drop 252) := by
   have := hR 252 256 (by omega) (by omega)
   rwa [List.take_of_length_le (by omega)] at this
  have r2 : Rd w (.slice (some ⟨b, o, none⟩) 2 c) (x.take 2) := by simpa using hR 0 2 (by omega) (by omega)
  have lS : (x.drop 252).length = 4 := by rw [List.length_drop]; omega
  have l252 : (x.take 252).length = 252 := by rw [List.length_take]; omega
  have hq252 : (252 : Int) ≤ (c : Int) := by omega
  have hq256 : (256 : Int) ≤ (c : Int) := by omega
  have hq2 : (2 : Int) ≤ (c : Int) := by omega
  have hn252 : ¬ c = 252 := by omega
  have K1 := hide (fun u (h : Rd u (.slice (some ⟨b, o, none⟩) 252 c) (x.take 252)) => pgsumOf_any u _ _ h (by omega))
  have hS4 := oc4_iff lS hS
  have HR := hide (And.intro r252 (And.intro rS r2))
  have HL := hide lS
  have HI := hide hS4
  have h1' := hide h1
  clear r252 rS r2 lS l252 hS4 hS h1 hx hR hC hc hcm
  go_enter Try.func97, Try.ntmps97
  go_wp2_with fail
  refine wp_region_mid (fun _ => True) 4 5 mixed (by kernel_rfl) (fun _ _ _ _ h => h) trivial ?_
  dsimp only [List.take, List.drop]
  iterate 4
   refine take_one (v := ?_) (by rfl) ?_ ?_
   rotate_left
   ·intro w' s1
    go_simp
    try with_reducible rfl
   try simp only [Act.put, List.setIfInBounds_toArray, List.set_cons_zero, List.set_cons_succ]
  refine mid_one fun K hK => ?_
  refine step_call (by rfl) 84 _ _ (by rfl) #[.slice (some ⟨b, o, none⟩) 252 c] (by simp [Act.eval]) (Try.call84 _ _) (K1.out w.drew (HR.out.1.drewN 1)) ?_
  rintro e w1 ⟨v1, rfl, o1, b1⟩
  refine ⟨_, rfl, hK _ _ trivial ?_⟩
  clear hK K
  try simp only [Act.put, List.setIfInBounds_toArray, List.set_cons_zero, List.set_cons_succ]
  show wpList _ _ _ _ _ _
  clear K1
  have c1 : Below w.heap.size w w1 := (Below.refl _ _).drew.trans b1
  have K2 := hide (bytesEq_any w1 _ _ _ _ (HR.out.2.1.to c1) o1.rd (by rw [HL.out]; decide) (by rw [oc_length]; decide))
  have k2 := conv_rd (HR.out.2.2.to c1) (by rw [List.length_take, h1'.out]; decide)
  obtain ⟨va, vc, rfl⟩ := o1.rd.slice
  rw [oc_length] at K2 ⊢
  clear o1 b1
  by_cases h2 : x.drop 252 = oc (sum (x.take 252)) 4
  ·have h2' := hide (HI.out.1 h2)
   rw [sameB_eq h2] at K2
   clear h2
   go_wp2_with fail
   refine K2.out.mono ?_
   rintro e w' ⟨rfl, rfl⟩
   clear K2
   by_cases h3 : x.take 2 = pgmark
   ·have hE := hide (pgseal_0 h1'.out h2'.out h3)
    rw [h3] at k2
    replace h3 := hide h3
    go_wp2
    go_ret
    exact ⟨ret_int hE.out.symm, c1⟩
   ·have hE := hide (pgseal_22 h1'.out h2'.out h3)
    have hd2 : (x.take 2 == [112, 103]) = false := beq_eq_false_iff_ne.2 h3
    replace h3 := hide h3
    go_wp2
    go_ret
    exact ⟨ret_int hE.out.symm, c1⟩
  ·have hE := hide (pgseal_21 h1'.out (fun k => h2 (HI.out.2 k)))
   rw [sameB_ne h2] at K2
   replace h2 := hide h2
   go_wp2_with fail
   refine K2.out.mono ?_
   rintro e w' ⟨rfl, rfl⟩
   go_wp2
   go_ret
   exact ⟨ret_int hE.out.symm, c1⟩
 ·have hq : ((x.length : Int) != 256) = true := by simp only [bne_iff_ne]; omega
  have hE := hide (pgseal_3 h1)
  obtain ⟨a, c, rfl⟩ := hx.slice
  replace h1 := hide h1
  go_enter Try.func97, Try.ntmps97
  go_wp2
  go_ret
  exact ⟨ret_int hE.out.symm, Below.refl _ _⟩
set_option maxRecDepth 100000 in
set_option maxHeartbeats 4000000 in
theorem pgdecP_any (w : World) (v : Value) (x : List UInt8) (hx : Rd w v x) : Calls Try.prog 71 #[v] w fun e w' => ∃ v', e = .returned (.tuple #[.int .i64 (pgdec x).1, v', .int .i64 (pgdec x).2.2]) ∧ OwnB w.heap.size w' v' (pgdec x).2.1 ∧ Below w.heap.size w w' := by
 have KO := hide (pgseal_any w v x hx)
 by_cases h0 : pgseal x = 0
 ·rw [h0] at KO
  obtain ⟨h1, h2, h3⟩ := pgseal_yes h0
  have D5 := hide (fun h => @pgdec_5 x h1 h2 h3 h)
  have D4 := hide (fun h => @pgdec_4 x h1 h2 h3 h)
  have D23 := hide (fun h => @pgdec_23 x h1 h2 h3 h)
  have D0 := hide (fun h => @pgdec_0 x h1 h2 h3 h)
  obtain ⟨b, o, c, rfl, hc, hcm, hR, hC⟩ := rdN hx h1 (by decide)
  have ll : ((x.take 4).drop 2).length = 2 := by rw [List.length_drop, List.length_take]; omega
  have li : ((x.take 8).drop 4).length = 4 := by rw [List.length_drop, List.length_take]; omega
  have KG := hide (fun u h => get_yes u (.slice (some ⟨b, o + 2, none⟩) 2 (c - 2)) ((x.take 4).drop 2) h (by omega) (by omega))
  have KI := hide (fun u h => get_yes u (.slice (some ⟨b, o + 4, none⟩) 4 (c - 4)) ((x.take 8).drop 4) h (by omega) (by omega))
  obtain ⟨pn, pn2⟩ := pgn_int x (by omega)
  have pi2 : pgid x < 4294967296 := by
   have := numTo_lt ((x.take 8).drop 4) ((x.take 8).drop 4).length
   unfold pgid numOf
   rw [li] at this ⊢
   omega
  rw [show numOf ((x.take 4).drop 2) = pgn x from rfl] at KG
  rw [show numOf ((x.take 8).drop 4) = pgid x from rfl] at KI
  obtain ⟨n, hn⟩ : ∃ n, n = pgn x := ⟨_, rfl⟩
  obtain ⟨I, hI⟩ : ∃ I, I = pgid x := ⟨_, rfl⟩
  rw [← hn] at KG pn2 D5 D4 D23 D0
  rw [← hI] at KI pi2 D4 D23 D0
  have hq4 : (4 : Int) ≤ (c : Int) := by omega
  have hq8 : (8 : Int) ≤ (c : Int) := by omega
  have hq252 : (252 : Int) ≤ (c : Int) := by omega
  have hn2 : ¬ c = 2 := by omega
  have hn4 : ¬ c = 4 := by omega
  have hn8 : ¬ c = 8 := by omega
  have hwn : IntKind.i64.wrap (n : Int) = (n : Int) := by rw [IntKind.wrap_i64]; omega
  have hwI : IntKind.i64.wrap (I : Int) = (I : Int) := by rw [IntKind.wrap_i64]; omega
  have HR := hide hR
  have h1' := hide h1
  have hc' := hide hc
  replace hn := hide hn
  replace hI := hide hI
  clear h0 h1 h2 h3 hx hR hC hc hcm ll li pn
  go_enter Try.func71, Try.ntmps71
  go_wp2_with fail
  refine KO.out.mono ?_
  rintro e w1 ⟨rfl, b1⟩
  clear KO
  go_wp2_with fail
  refine (KG.out w1 ((HR.out 2 4 (by omega) (by omega)).to b1)).mono ?_
  rintro e w2 ⟨rfl, b2⟩
  clear KG
  have c2 := b1.trans (b2.mono b1.size)
  go_wp2_with fail
  refine (KI.out w2 ((HR.out 4 8 (by omega) (by omega)).to c2)).mono ?_
  rintro e w3 ⟨rfl, b3⟩
  clear KI
  have c3 := c2.trans (b3.mono c2.size)
  clear b1 b2 b3 c2
  by_cases h4 : 244 < n
  ·have hq : (244 : Int) < (n : Int) := by omega
   have hD := hide (D5.out h4)
   replace h4 := hide h4
   go_wp2
   go_ret3
   rw [hD.out]
   exact ⟨_, rfl, World.ownsRow_nil _ _ _ _, c3⟩
  ·have hq : ¬ (244 : Int) < (n : Int) := by omega
   by_cases h5 : 2147483647 < I
   ·have hq5 : (2147483647 : Int) < (I : Int) := by omega
    have hD := hide (D4.out h4 h5)
    replace h4 := hide h4
    replace h5 := hide h5
    go_wp2
    go_ret3
    rw [hD.out]
    exact ⟨_, rfl, World.ownsRow_nil _ _ _ _, c3⟩
   ·have hq5 : ¬ (2147483647 : Int) < (I : Int) := by omega
    have hn244 : n ≤ 244 := by omega
    have D23' := hide (D23.out h4 h5)
    have D0' := hide (D0.out h4 h5)
    have hq8n : (8 : Int) ≤ 8 + (n : Int) := by omega
    have hqn : 8 + (n : Int) ≤ (c : Int) := by omega
    have hqn2 : 8 + (n : Int) ≤ 252 := by omega
    have hnn : ¬ c = 8 + n := by have := hc'.out; omega
    replace h4 := hide h4
    replace h5 := hide h5
    go_wp2_with fail
    go_quiet (fail)
    obtain ⟨w4, hw4⟩ : ∃ u, u = w3.drewN nq := ⟨_, rfl⟩
    rw [← hw4]
    have c4 : Below w.heap.size w w4 := c3.trans (by rw [hw4]; exact below_drewN' w3 nq _)
    obtain ⟨R, hRe⟩ : ∃ R, R = 252 - (8 + n) := ⟨_, rfl⟩
    obtain ⟨D, hDe⟩ : ∃ D, D = 8 + n - 8 := ⟨_, rfl⟩
    rw [← hRe, ← hDe]
    have rT : Rd w4 (.slice (some ⟨b, o + (8 + n), none⟩) R (c - (8 + n))) ((x.take 252).drop (8 + n)) := by
     rw [hRe]; exact (HR.out (8 + n) 252 (by omega) (by omega)).to c4
    have rD : Rd w4 (.slice (some ⟨b, o + 8, none⟩) D (c - 8)) ((x.take (8 + n)).drop 8) := by
     rw [hDe]; exact (HR.out 8 (8 + n) (by omega) (by omega)).to c4
    have lT : ((x.take 252).drop (8 + n)).length = R := by rw [List.length_drop, List.length_take, h1'.out, hRe]; omega
    have hRn : R = 244 - n := by omega
    have hmk := make_octs (n := R) (by omega) w4
    have oz := own_made w4 R (by rw [show maxLen = 9223372036854775807 from rfl]; omega)
    obtain ⟨w5, hw5⟩ : ∃ u, u = w4.alloc (.cells (madeCells #[.int .u8 0] R) 5) := ⟨_, rfl⟩
    rw [← hw5] at hmk oz
    have b5 : Below w4.heap.size w4 w5 := by rw [hw5]; exact (Below.refl _ _).alloc (Nat.le_refl _) _
    have K3 := hide (bytesEq_at w5 _ _ _ _ _ _ _ _ _ _ (rT.to b5) oz.rd lT (by simp))
    have c5 := c4.trans (b5.mono c4.size)
    have KC := hide (bclone_at w5 _ _ _ _ _ (rD.to b5) (by rw [List.length_drop, List.length_take, h1'.out]; omega))
    replace hw4 := hide hw4
    replace hw5 := hide hw5
    replace hDe := hide hDe
    replace hRe := hide hRe
    rw [← hRn] at D23' D0'
    replace hRn := hide hRn
    clear rT rD lT oz b5 c4 c3
    by_cases h6 : (x.take 252).drop (8 + n) = List.replicate R 0
    ·have hD := hide (D0'.out h6)
     rw [sameB_eq h6] at K3
     replace h6 := hide h6
     go_wp2_with fail
     refine K3.out.mono ?_
     rintro e w' ⟨rfl, rfl⟩
     clear K3
     go_wp2_with fail
     refine KC.out.mono ?_
     rintro e w6 ⟨v6, rfl, o6, b6⟩
     go_wp2
     go_ret3
     rw [hD.out]
     exact ⟨_, rfl, o6.mono c5.size, c5.trans (b6.mono c5.size)⟩
    ·have hD := hide (D23'.out h6)
     rw [sameB_ne h6] at K3
     replace h6 := hide h6
     go_wp2_with fail
     refine K3.out.mono ?_
     rintro e w' ⟨rfl, rfl⟩
     clear K3
     go_wp2
     go_ret3
     rw [hD.out]
     exact ⟨_, rfl, World.ownsRow_nil _ _ _ _, c5⟩
 ·have hD := hide (pgdec_seal h0)
  have hbe : (pgseal x != 0) = true := by simpa using h0
  obtain ⟨a, c, rfl⟩ := hx.slice
  replace h0 := hide h0
  go_enter Try.func71, Try.ntmps71
  go_wp2_with fail
  refine KO.out.mono ?_
  rintro e w1 ⟨rfl, b1⟩
  go_wp2
  go_ret3
  rw [hD.out]
  exact ⟨_, rfl, World.ownsRow_nil _ _ _ _, b1⟩
end Go.Proofs.Ytjjicajodjophaa

namespace Go.Proofs.Ytjjicajodjophaa
open Go.RowKit
theorem pgsect_9 {d : Dsk} {at' : Int} (h : ¬ DOk d) : pgsect d at' = 9 := if_pos h
theorem pgsect_41 {d : Dsk} {at' : Int} (h : DOk d) (h2 : at' < 0 ∨ (d.1.length : Int) - 4 < at') : pgsect d at' = 41 := by unfold pgsect; rw [if_neg (fun k => k h), if_pos h2]
set_option maxRecDepth 100000 in
set_option maxHeartbeats 1000000 in
theorem rpgsect_any (w : World) (sv cv : Value) (d : Dsk) (at' : Int) (h1 : RdSec w sv d.1) (h2 : RdC w cv d.2) :
  Calls Try.prog 67 #[.agg #[sv, cv], .int .i64 at'] w fun e w' => e = .returned (.int .i64 (pgsect d at')) ∧ Below w.heap.size w w' := by
 have lb := h1.bd
 obtain ⟨a1, c1, rfl⟩ := h1.slice
 obtain ⟨a2, c2, rfl⟩ := h2.slice
 obtain ⟨X, hX, X0, bX, sX⟩ := boxedN w #[.slice a1 d.1.length c1, .slice a2 d.2.length c2] 25
 obtain ⟨A0, A1, _, _⟩ := row2_cells X0
 have KC := hide (rcheck_any X _ _ d (h1.to0 bX) (h2.to0 bX))
 rw [hX] at A0 A1
 go_enter Try.func67, Try.ntmps67
 by_cases hok : DOk d
 ·rw [dcheck_ok hok] at KC
  go_wp2_with fail
  rw [← hX]
  rw [← hX] at A0 A1
  replace hX := hide hX
  refine KC.out.mono ?_
  rintro e w1 ⟨rfl, b1⟩
  replace A0 := (b1.cell (cell_lt A0)).trans A0
  by_cases hl : at' < 0
  ·have hE := hide (pgsect_41 hok (.inl hl))
   replace hok := hide hok
   go_wp2
   go_ret
   exact ⟨ret_int hE.out.symm, bX.trans (b1.mono bX.size)⟩
  ·by_cases hl2 : (d.1.length : Int) - 4 < at'
   ·have hE := hide (pgsect_41 hok (.inr hl2))
    replace hok := hide hok
    go_wp2
    go_ret
    exact ⟨ret_int hE.out.symm, bX.trans (b1.mono bX.size)⟩
   ·have hE := hide (pgsect_0.2 ⟨hok, by omega, by omega⟩ : pgsect d at' = 0)
    replace hok := hide hok
    go_wp2
    go_ret
    exact ⟨ret_int hE.out.symm, bX.trans (b1.mono bX.size)⟩
 ·rw [dcheck_no hok] at KC
  have hE := hide (pgsect_9 (at' := at') hok)
  replace hok := hide hok
  go_wp2_with fail
  rw [← hX]
  replace hX := hide hX
  refine KC.out.mono ?_
  rintro e w1 ⟨rfl, b1⟩
  go_wp2
  go_ret
  exact ⟨ret_int hE.out.symm, bX.trans (b1.mono bX.size)⟩
theorem lastOf_len {k : Int} {x : List UInt8} {ws : List Wrt} (hx : x.length = 64) (hw : ∀ y ∈ ws, y.2.length = 64) : (lastOf k x ws).length = 64 := by
 unfold lastOf
 induction ws generalizing x with
 | nil => exact hx
 | cons y r ih =>
  rw [List.foldl_cons]
  exact ih (by split; exact hw y (List.mem_cons_self ..); exact hx) fun z hz => hw z (List.mem_cons_of_mem _ hz)
theorem dget_len {d : Dsk} {k : Int} (h : DOk d) (h0 : 0 ≤ k) (h1 : k < d.1.length) : (dget d k).1.length = 64 := by
 rw [dget_at h h0 h1]
 exact lastOf_len (h.2.2.2.1 _ (getD_mem (by omega))) fun y hy => (h.2.2.2.2 y hy).2
theorem pgot_len {d : Dsk} {at' : Int} (h : DOk d) (h0 : 0 ≤ at') (h1 : at' ≤ (d.1.length : Int) - 4) : ∀ K, K ≤ 4 → (pgot d at' K).length = 64 * K
 | 0, _ => rfl
 | K + 1, hK => by
  rw [pgot, List.length_append, pgot_len h h0 h1 K (by omega), dget_len h (by omega) (by omega)]; omega
theorem pgread_sect {d : Dsk} {at' id : Int} (h : pgsect d at' ≠ 0) : pgread d at' id = ([], pgsect d at') := if_pos h
theorem pgread_no {d : Dsk} {at' id : Int} (h : pgsect d at' = 0) (h2 : (pgdec (pgot d at' 4)).2.2 ≠ 0 ∨ (pgdec (pgot d at' 4)).1 ≠ id) : pgread d at' id = ([], 21) := by
 unfold pgread; rw [if_neg (fun k => k h), if_pos h2]
theorem pgread_0 {d : Dsk} {at' id : Int} (h : pgsect d at' = 0) (h2 : (pgdec (pgot d at' 4)).2.2 = 0) (h3 : (pgdec (pgot d at' 4)).1 = id) : pgread d at' id = ((pgdec (pgot d at' 4)).2.1, 0) := by
 unfold pgread; rw [if_neg (fun k => k h), if_neg]
 rintro (k | k)
 ·exact k h2
 ·exact k h3
set_option maxRecDepth 100000 in
set_option maxHeartbeats 4000000 in
theorem rpgread_any (w : World) (sv cv : Value) (d : Dsk) (at' id : Int) (h1 : RdSec w sv d.1) (h2 : RdC w cv d.2) :
  Calls Try.prog 34 #[.agg #[sv, cv], .int .i64 at', .int .i64 id] w fun e w' => ∃ v', e = .returned (.tuple #[v', .int .i64 (pgread d at' id).2]) ∧ OwnB w.heap.size w' v' (pgread d at' id).1 ∧ Below w.heap.size w w' := by
 obtain ⟨a1, c1, rfl⟩ := h1.slice
 obtain ⟨a2, c2, rfl⟩ := h2.slice
 obtain ⟨X, hX, X0, bX, sX⟩ := boxedN w #[.slice a1 d.1.length c1, .slice a2 d.2.length c2] 25
 have H1 := hide (h1.to0 bX)
 have H2 := hide (h2.to0 bX)
 have KC := hide (rpgsect_any X _ _ d at' H1.out H2.out)
 obtain ⟨E, hE⟩ : ∃ E, E = pgsect d at' := ⟨_, rfl⟩
 rw [← hE] at KC
 obtain ⟨A0, A1, _, _⟩ := row2_cells X0
 rw [hX] at A0 A1
 go_enter Try.func34, Try.ntmps34
 go_wp2_with fail
 rw [← hX]
 clear A0 A1
 replace hX := hide hX
 refine KC.out.mono ?_
 rintro e w1 ⟨rfl, b1⟩
 clear KC h1 h2
 have X1 := hide ((b1.block _ (lt_of_block X0)).trans X0)
 have c1w := hide (bX.trans (b1.mono bX.size))
 replace H1 := hide (H1.out.to0 b1)
 replace H2 := hide (H2.out.to0 b1)
 have hlt : w.heap.size < w1.heap.size := lt_of_block X1.out
 clear X0 bX b1
 by_cases h0 : E = 0
 ·have hsec : Hid (pgsect d at' = 0) := by show _ = _; rw [← hE]; exact h0
  subst h0
  replace hE := hide hE
  obtain ⟨hok, hp0, hp1⟩ := pgsect_0.1 hsec.out
  have hsl := hok.2.1
  have hgl := hide (pgot_len hok hp0 hp1)
  have hdl := hide (fun k p q => @dget_len d k hok p q)
  have hok' := hide hok
  clear hok
  go_wp2
  go_loopw [9, 10] (fun v i wr => ∃ K : Nat, K ≤ 4 ∧ i = .int .i64 K ∧ Hid (OwnB w1.heap.size wr v (pgot d at' K) ∧ Below w1.heap.size w1 wr)) (fun _ i _ => 4 - (intOf i).toNat)
  case atStart => exact ⟨0, by omega, rfl, hide ⟨World.ownsRow_nil _ _ _ _, Below.refl _ _⟩⟩
  case round =>
   obtain ⟨K, hK, rfl, hI⟩ := hrel
   by_cases hlk : K < 4
   ·have hqk : (K : Int) < 4 := by omega
    obtain ⟨A0, A1, _, _⟩ := row2_cells ((hI.out.2.block _ hlt).trans X1.out)
    have KG := hide (rget_any wr _ _ d (at' + K) (H1.out.to0 hI.out.2) (H2.out.to0 hI.out.2))
    have hl64 := hide (hdl.out (at' + K) (by omega) (by omega))
    have hnx : Hid (pgot d at' (K + 1) = pgot d at' K ++ (dget d (at' + K)).1) := rfl
    obtain ⟨g, ge, hg⟩ : ∃ g ge, dget d (at' + K) = (g, ge) := ⟨_, _, rfl⟩
    rw [hg] at KG hl64 hnx
    dsimp only at KG hl64 hnx
    clear hg
    obtain ⟨Y, hY⟩ : ∃ Y, Y = pgot d at' K := ⟨_, rfl⟩
    have hYl : Hid (Y.length = 64 * K) := by show _ = _; rw [hY]; exact hgl.out K (by omega)
    rw [← hY] at hnx hI
    replace hY := hide hY
    obtain ⟨s9, t9, h9⟩ := hI.out.1.rd.slice
    subst h9
    go_wp2_with fail
    refine KG.out.mono ?_
    rintro e w3 ⟨v3, rfl, o3, b3⟩
    clear KG A0 A1
    have oA := hI.out.1.below (Nat.le_refl _) b3
    have bA := hide (hI.out.2.trans (b3.mono hI.out.2.size))
    have r3 := o3.rd
    obtain ⟨s3, t3, h3⟩ := r3.slice
    subst h3
    have hl : Y.length + g.length ≤ 140737488355328 := by rw [hYl.out, hl64.out]; omega
    have hsz := bA.out.size
    clear o3 b3 hI
    go_wp2_with (at_builtin; refine wpList_append_octs rfl _ _ rfl w1.heap.size _ _ Y g rfl rfl oA r3 hl hsz ?_; intro v6 w6 o6 b6 _)
    go_roundw
    case rel => exact ⟨K + 1, by omega, by go_num, hide ⟨by rw [hnx.out]; exact o6, bA.out.trans b6⟩⟩
    case measure => simp [intOf]; omega
   ·have hqk : ¬ (K : Int) < 4 := by omega
    obtain rfl : K = 4 := by omega
    have oH := hI.out.1
    have bH := hide hI.out.2
    have KD := hide (rpgdec_any wr _ _ oH.rd)
    have sN := hide (fun h => @pgread_no d at' id hsec.out h)
    have sY := hide (fun h h2 => @pgread_0 d at' id hsec.out h h2)
    obtain ⟨Y, hY⟩ : ∃ Y, Y = pgot d at' 4 := ⟨_, rfl⟩
    rw [← hY] at KD sN sY oH
    obtain ⟨n, x, er, hD⟩ : ∃ n x er, pgdec Y = (n, x, er) := ⟨_, _, _, rfl⟩
    rw [hD] at KD sN sY
    dsimp only at KD sN sY
    obtain ⟨s9, t9, h9⟩ := oH.rd.slice
    subst h9
    clear hD hY hI oH
    go_wp2_with fail
    refine KD.out.mono ?_
    rintro e w3 ⟨v3, rfl, o3, b3⟩
    have c3 := hide (c1w.out.trans (((bH.out).trans (b3.mono bH.out.size)).mono c1w.out.size))
    obtain ⟨s3, t3, h3⟩ := o3.rd.slice
    subst h3
    have hb3 : Hid (w.heap.size ≤ wr.heap.size) := Nat.le_trans c1w.out.size bH.out.size
    replace o3 := hide o3
    clear b3 KD
    by_cases he : er = 0
    ·subst he
     by_cases hn : n = id
     ·have hS := hide (sY.out (by trivial) hn)
      subst hn
      go_wp2
      go_ret2
      rw [hS.out]
      exact ⟨_, rfl, o3.out.mono hb3.out, c3.out⟩
     ·have hS := hide (sN.out (.inr hn))
      have hne : (n != id) = true := by simpa using hn
      replace hn := hide hn
      go_wp2
      go_ret2
      rw [hS.out]
      exact ⟨_, rfl, World.ownsRow_nil _ _ _ _, c3.out⟩
    ·have hS := hide (sN.out (.inl he))
     have hee : (er != 0) = true := by simpa using he
     replace he := hide he
     go_wp2
     go_ret2
     rw [hS.out]
     exact ⟨_, rfl, World.ownsRow_nil _ _ _ _, c3.out⟩
 ·have hS := hide (pgread_sect (d := d) (at' := at') (id := id) (by rw [← hE]; exact h0))
  have hbe : (E != 0) = true := by simpa using h0
  replace h0 := hide h0
  replace hE := hide hE
  go_wp2
  go_ret2
  rw [hS.out]
  exact ⟨_, by rw [← hE.out]; rfl, World.ownsRow_nil _ _ _ _, c1w.out⟩
end Go.Proofs.Ytjjicajodjophaa

namespace Go.Proofs.Ytjjicajodjophaa
open Go.RowKit
set_option maxRecDepth 100000 in
set_option maxHeartbeats 1000000 in
theorem ppgsect_any (w : World) (sv cv : Value) (d : Dsk) (at' : Int) (h1 : RdSec w sv d.1) (h2 : RdC w cv d.2) :
  Calls Try.prog 53 #[.agg #[sv, cv], .int .i64 at'] w fun e w' => e = .returned (.int .i64 (pgsect d at')) ∧ Below w.heap.size w w' := by
 have lb := h1.bd
 obtain ⟨a1, c1, rfl⟩ := h1.slice
 obtain ⟨a2, c2, rfl⟩ := h2.slice
 obtain ⟨X, hX, X0, bX, sX⟩ := boxedN w #[.slice a1 d.1.length c1, .slice a2 d.2.length c2] 31
 obtain ⟨A0, A1, _, _⟩ := row2_cells X0
 have KC := hide (dcheck_any X _ _ d (h1.to0 bX) (h2.to0 bX))
 rw [hX] at A0 A1
 go_enter Try.func53, Try.ntmps53
 by_cases hok : DOk d
 ·rw [dcheck_ok hok] at KC
  go_wp2_with fail
  rw [← hX]
  rw [← hX] at A0 A1
  replace hX := hide hX
  refine KC.out.mono ?_
  rintro e w1 ⟨rfl, b1⟩
  replace A0 := (b1.cell (cell_lt A0)).trans A0
  by_cases hl : at' < 0
  ·have hE := hide (pgsect_41 hok (.inl hl))
   replace hok := hide hok
   go_wp2
   go_ret
   exact ⟨ret_int hE.out.symm, bX.trans (b1.mono bX.size)⟩
  ·by_cases hl2 : (d.1.length : Int) - 4 < at'
   ·have hE := hide (pgsect_41 hok (.inr hl2))
    replace hok := hide hok
    go_wp2
    go_ret
    exact ⟨ret_int hE.out.symm, bX.trans (b1.mono bX.size)⟩
   ·have hE := hide (pgsect_0.2 ⟨hok, by omega, by omega⟩ : pgsect d at' = 0)
    replace hok := hide hok
    go_wp2
    go_ret
    exact ⟨ret_int hE.out.symm, bX.trans (b1.mono bX.size)⟩
 ·rw [dcheck_no hok] at KC
  have hE := hide (pgsect_9 (at' := at') hok)
  replace hok := hide hok
  go_wp2_with fail
  rw [← hX]
  replace hX := hide hX
  refine KC.out.mono ?_
  rintro e w1 ⟨rfl, b1⟩
  go_wp2
  go_ret
  exact ⟨ret_int hE.out.symm, bX.trans (b1.mono bX.size)⟩
set_option maxRecDepth 100000 in
set_option maxHeartbeats 4000000 in
theorem ppgread_any (w : World) (sv cv : Value) (d : Dsk) (at' id : Int) (h1 : RdSec w sv d.1) (h2 : RdC w cv d.2) :
  Calls Try.prog 33 #[.agg #[sv, cv], .int .i64 at', .int .i64 id] w fun e w' => ∃ v', e = .returned (.tuple #[v', .int .i64 (pgread d at' id).2]) ∧ OwnB w.heap.size w' v' (pgread d at' id).1 ∧ Below w.heap.size w w' := by
 obtain ⟨a1, c1, rfl⟩ := h1.slice
 obtain ⟨a2, c2, rfl⟩ := h2.slice
 obtain ⟨X, hX, X0, bX, sX⟩ := boxedN w #[.slice a1 d.1.length c1, .slice a2 d.2.length c2] 31
 have H1 := hide (h1.to0 bX)
 have H2 := hide (h2.to0 bX)
 have KC := hide (ppgsect_any X _ _ d at' H1.out H2.out)
 obtain ⟨E, hE⟩ : ∃ E, E = pgsect d at' := ⟨_, rfl⟩
 rw [← hE] at KC
 obtain ⟨A0, A1, _, _⟩ := row2_cells X0
 rw [hX] at A0 A1
 go_enter Try.func33, Try.ntmps33
 go_wp2_with fail
 rw [← hX]
 clear A0 A1
 replace hX := hide hX
 refine KC.out.mono ?_
 rintro e w1 ⟨rfl, b1⟩
 clear KC h1 h2
 have X1 := hide ((b1.block _ (lt_of_block X0)).trans X0)
 have c1w := hide (bX.trans (b1.mono bX.size))
 replace H1 := hide (H1.out.to0 b1)
 replace H2 := hide (H2.out.to0 b1)
 have hlt : w.heap.size < w1.heap.size := lt_of_block X1.out
 clear X0 bX b1
 by_cases h0 : E = 0
 ·have hsec : Hid (pgsect d at' = 0) := by show _ = _; rw [← hE]; exact h0
  subst h0
  replace hE := hide hE
  obtain ⟨hok, hp0, hp1⟩ := pgsect_0.1 hsec.out
  have hsl := hok.2.1
  have hgl := hide (pgot_len hok hp0 hp1)
  have hdl := hide (fun k p q => @dget_len d k hok p q)
  have hok' := hide hok
  clear hok
  go_wp2
  go_loopw [9, 22] (fun v i wr => ∃ K : Nat, K ≤ 4 ∧ i = .int .i64 K ∧ Hid (OwnB w1.heap.size wr v (pgot d at' K) ∧ Below w1.heap.size w1 wr)) (fun _ i _ => 4 - (intOf i).toNat)
  case atStart => exact ⟨0, by omega, rfl, hide ⟨World.ownsRow_nil _ _ _ _, Below.refl _ _⟩⟩
  case round =>
   obtain ⟨K, hK, rfl, hI⟩ := hrel
   by_cases hlk : K < 4
   ·have hqk : (K : Int) < 4 := by omega
    obtain ⟨A0, A1, _, _⟩ := row2_cells ((hI.out.2.block _ hlt).trans X1.out)
    have KG := hide (dget_any wr _ _ d (at' + K) (H1.out.to0 hI.out.2) (H2.out.to0 hI.out.2))
    have hl64 := hide (hdl.out (at' + K) (by omega) (by omega))
    have hnx : Hid (pgot d at' (K + 1) = pgot d at' K ++ (dget d (at' + K)).1) := rfl
    obtain ⟨g, ge, hg⟩ : ∃ g ge, dget d (at' + K) = (g, ge) := ⟨_, _, rfl⟩
    rw [hg] at KG hl64 hnx
    dsimp only at KG hl64 hnx
    clear hg
    obtain ⟨Y, hY⟩ : ∃ Y, Y = pgot d at' K := ⟨_, rfl⟩
    have hYl : Hid (Y.length = 64 * K) := by show _ = _; rw [hY]; exact hgl.out K (by omega)
    rw [← hY] at hnx hI
    replace hY := hide hY
    obtain ⟨s9, t9, h9⟩ := hI.out.1.rd.slice
    subst h9
    go_wp2_with fail
    refine KG.out.mono ?_
    rintro e w3 ⟨v3, rfl, o3, b3⟩
    clear KG A0 A1
    have oA := hI.out.1.below (Nat.le_refl _) b3
    have bA := hide (hI.out.2.trans (b3.mono hI.out.2.size))
    have r3 := o3.rd
    obtain ⟨s3, t3, h3⟩ := r3.slice
    subst h3
    have hl : Y.length + g.length ≤ 140737488355328 := by rw [hYl.out, hl64.out]; omega
    have hsz := bA.out.size
    clear o3 b3 hI
    go_wp2_with (at_builtin; refine wpList_append_octs rfl _ _ rfl w1.heap.size _ _ Y g rfl rfl oA r3 hl hsz ?_; intro v6 w6 o6 b6 _)
    go_roundw
    case rel => exact ⟨K + 1, by omega, by go_num, hide ⟨by rw [hnx.out]; exact o6, bA.out.trans b6⟩⟩
    case measure => simp [intOf]; omega
   ·have hqk : ¬ (K : Int) < 4 := by omega
    obtain rfl : K = 4 := by omega
    have oH := hI.out.1
    have bH := hide hI.out.2
    have KD := hide (pgdecP_any wr _ _ oH.rd)
    have sN := hide (fun h => @pgread_no d at' id hsec.out h)
    have sY := hide (fun h h2 => @pgread_0 d at' id hsec.out h h2)
    obtain ⟨Y, hY⟩ : ∃ Y, Y = pgot d at' 4 := ⟨_, rfl⟩
    rw [← hY] at KD sN sY oH
    obtain ⟨n, x, er, hD⟩ : ∃ n x er, pgdec Y = (n, x, er) := ⟨_, _, _, rfl⟩
    rw [hD] at KD sN sY
    dsimp only at KD sN sY
    obtain ⟨s9, t9, h9⟩ := oH.rd.slice
    subst h9
    clear hD hY hI oH
    go_wp2_with fail
    refine KD.out.mono ?_
    rintro e w3 ⟨v3, rfl, o3, b3⟩
    have c3 := hide (c1w.out.trans (((bH.out).trans (b3.mono bH.out.size)).mono c1w.out.size))
    obtain ⟨s3, t3, h3⟩ := o3.rd.slice
    subst h3
    have hb3 : Hid (w.heap.size ≤ wr.heap.size) := Nat.le_trans c1w.out.size bH.out.size
    replace o3 := hide o3
    clear b3 KD
    by_cases he : er = 0
    ·subst he
     by_cases hn : n = id
     ·have hS := hide (sY.out (by trivial) hn)
      subst hn
      go_wp2
      go_ret2
      rw [hS.out]
      exact ⟨_, rfl, o3.out.mono hb3.out, c3.out⟩
     ·have hS := hide (sN.out (.inr hn))
      have hne : (n != id) = true := by simpa using hn
      replace hn := hide hn
      go_wp2
      go_ret2
      rw [hS.out]
      exact ⟨_, rfl, World.ownsRow_nil _ _ _ _, c3.out⟩
    ·have hS := hide (sN.out (.inl he))
     have hee : (er != 0) = true := by simpa using he
     replace he := hide he
     go_wp2
     go_ret2
     rw [hS.out]
     exact ⟨_, rfl, World.ownsRow_nil _ _ _ _, c3.out⟩
 ·have hS := hide (pgread_sect (d := d) (at' := at') (id := id) (by rw [← hE]; exact h0))
  have hbe : (E != 0) = true := by simpa using h0
  replace h0 := hide h0
  replace hE := hide hE
  go_wp2
  go_ret2
  rw [hS.out]
  exact ⟨_, by rw [← hE.out]; rfl, World.ownsRow_nil _ _ _ _, c1w.out⟩
end Go.Proofs.Ytjjicajodjophaa

namespace Go.Proofs.Ytjjicajodjophaa
open Go.RowKit
theorem OwnF.num {T : Nat} {F : List Nat} {w : World} {a b : Value} {n : Int} {s : List Wrt} {wt : List (List UInt8)} (h : OwnF (SLg T) F w [a, .int .i64 n, b] (s, n, wt)) (m : Int) : OwnF (SLg T) F w [a, .int .i64 m, b] (s, m, wt) := by
 obtain ⟨FA, FB, rfl, hA, hB, hd⟩ := OwnF.split (c := [a]) (d := [.int .i64 n, b]) h rfl
 obtain ⟨FC, FD, rfl, hC, hD, hd2⟩ := OwnF.split (c := [.int .i64 n]) (d := [b]) hB rfl
 obtain ⟨⟨rfl, _⟩, _⟩ := hC
 exact OwnF.join (c := [a]) (d := [.int .i64 m, b]) hA (OwnF.join (c := [.int .i64 m]) (d := [b]) (s := Shp.int .i64) ⟨⟨rfl, rfl⟩, List.nodup_nil⟩ hD (fun b hb => by cases hb)) hd
end Go.Proofs.Ytjjicajodjophaa

namespace Go.Proofs.Ytjjicajodjophaa
open Go.RowKit
theorem addr_add0 (b off n : Nat) : (⟨b, off, none⟩ : Addr).add n = ⟨b, off + n, none⟩ := by
 by_cases h : n = 0
 ·subst h; simp [Addr.add]
 ·simp [Addr.add, h]
abbrev S3 (g : Nat) (w : World) (x y z : Value) : World := ((w.setCell ⟨g, 0, none⟩ x).setCell ⟨g, 1, none⟩ y).setCell ⟨g, 2, none⟩ z
theorem S3.size (g : Nat) (w : World) (x y z : Value) : (S3 g w x y z).heap.size = w.heap.size := by simp
end Go.Proofs.Ytjjicajodjophaa

namespace Go.Proofs.Ytjjicajodjophaa
open Go.RowKit
theorem OwnV.keepT {B C : Nat} {w w' : World} {v : Value} {xss : List (List UInt8)} (h : OwnV B C w v xss) (k1 : KeepT 5 w w') (k2 : KeepT 62 w w') : OwnV B C w' v xss := by
 obtain ⟨vs, h1, h2, h3⟩ := h
 exact ⟨vs, h1, rows_keepT h2 k2, fun i hi => rows_keepT (h3 i hi) k1⟩
theorem wpList_append_lists2 {ops : Array Oper} {rest : List Oper} {o : Oper} {a : Act} {w : World} {Q : Exit → Act → World → Prop} (hgd : o.guard = none) (s x : Operand)
  (ho : o.op = .call { callee := .builtin .append, args := #[s, x], argTypes := #[22, 22] }) (B B2 C : Nat) (v v2 : Value) (xss yss : List (List UInt8)) (hs : a.eval s = v) (hx : a.eval x = v2)
  (h1 : OwnV B C w v xss) (h2 : OwnV B2 C w v2 yss) (hlen : (xss.length + yss.length) * 24 ≤ 140737488355328) (hB : B ≤ w.heap.size)
  (h : ∀ v' w', OwnV B C w' v' (xss ++ yss) → Below B w w' → (∀ e, e ≠ 62 → KeepT e w w') → wpList Try.prog ops Q rest (a.put o.dst v') w') : wpList Try.prog ops Q (o :: rest) a w := by
 obtain ⟨i0, hi, hz0, hz1, hz2⟩ := info_parts infoB
 obtain ⟨vs, p1, p2, p3⟩ := id h1
 obtain ⟨us, k1, k2, k3⟩ := h2
 rcases k2.2 with ⟨rfl, h0⟩ | ⟨g, cap, cur, rfl, hb, hg, hn, hm, hsz, ht⟩
 ·have : yss = [] := List.eq_nil_of_length_eq_zero h0
  subst this
  refine wpList_append_own_none hgd s x 22 ho B 62 i0 1 Try.underlying22 hi v xss.length vs hs p2 hx ?_
  exact h v w (by simpa using h1) (Below.refl _ _) (fun e _ => KeepT.refl _ _)
 ·have e1 : us.length = yss.length * 1 := by rw [Nat.mul_one]; exact k1
  have e2 : ∀ j u, us[j]? = some u → w.cell? ((⟨g, 0, none⟩ : Addr).add j) = some u := fun j u hj => by
   have hjl : j < us.length := (List.getElem?_eq_some_iff.1 hj).1
   have := k2.cellAt j (by omega)
   rw [addr_add0, Nat.zero_add, this]
   exact hj
  have e3 : ∀ u ∈ us, u.oneCell' = true := fun u hu => by
   obtain ⟨j, hj, e⟩ := List.mem_iff_getElem.1 hu
   have := k3 j (by omega)
   obtain ⟨ao, c, e'⟩ := this.rd.slice
   have e4 : us.getD j undef = u := by rw [← e]; simp [List.getD_eq_getElem?_getD, hj]
   rw [e4] at e'
   rw [e']; rfl
  refine wpList_append_own _ hgd s x 22 ho B 62 i0 (.slice none 0 0) 1 24 Try.underlying22 hi hz0 hz1 hz2 rfl (by decide) v xss.length vs hs p2 ⟨g, 0, none⟩ yss.length cap us hx e1 e2 e3
   (by rw [show maxLen = 9223372036854775807 from rfl]; omega) (by omega) hB ?_
  intro v' w' q1 q2 _
  exact h v' w' (OwnV.app p1 p2 p3 k1 k3 q2 q1) ((Below.refl _ _).grown q2 hB (rows_from p2)) (fun e he => KeepT.grown p2 q2 he)
structure RInv (TS TL : Nat) (w wr : World) (o c : Value) (st : Wst) : Prop where
 box : wr.heap[w.heap.size + 1]? = some (.cells #[c, .int .i64 st.1.2, .slice none 0 0] TL (0, 0))
 ans : wr.heap[w.heap.size]? = some (.cells #[.slice none 0 0, .int .i64 0, .slice none 0 0] TL (0, 0))
 segs : OwnW TS w.heap.size wr c st.1.1
 recs : OwnV w.heap.size 0 wr o st.2
 bel : Below w.heap.size w wr
theorem RInv.to {TS TL : Nat} {w wr w' : World} {o c : Value} {st : Wst} (h : RInv TS TL w wr o c st) (hb : Below wr.heap.size wr w') : RInv TS TL w w' o c st :=
 ⟨(hb.block _ (lt_of_block h.box)).trans h.box, (hb.block _ (lt_of_block h.ans)).trans h.ans, h.segs.keepT (KeepT.below hb) (KeepT.below hb), h.recs.keepT (KeepT.below hb) (KeepT.below hb), h.bel.trans (hb.mono h.bel.size)⟩
theorem RInv.push {TS TL : Nat} {w u : World} {o c : Value} {ss : List Wrt} {nx : Int} {rs : List (List UInt8)} (h : RInv TS TL w u o c ((ss, nx), rs)) (t1 : TS ≠ 5) (t2 : TS ≠ 62) (t3 : TL ≠ 5) (t4 : TL ≠ 62) (t5 : TL ≠ TS) :
  ∃ cc, u.ownsRow 0 TS 2 c ss.length cc ∧ ∀ (w6 : World) (z : Int) (x : List UInt8) (sv : Value) (g cap : Nat), OwnB 0 u sv x → u.grownBy w6 c.ownBlock → w6.ownsRow 0 TS 2 (.slice (some ⟨g, 0, none⟩) (ss.length + 1) cap) (ss.length + 1) (cc ++ [.int .i64 z, sv]) → (c.ownBlock = some g ∨ g = u.heap.size) →
   (w6.cell? ⟨w.heap.size + 1, 0, none⟩ = some c ∧ w6.frozen? ⟨w.heap.size + 1, 0, none⟩ = false) ∧ RInv TS TL w (w6.setCell ⟨w.heap.size + 1, 0, none⟩ (.slice (some ⟨g, 0, none⟩) (ss.length + 1) cap)) o (.slice (some ⟨g, 0, none⟩) (ss.length + 1) cap) ((ss ++ [(z, x)], nx), rs) ∧ ∀ e, e ≠ TS → e ≠ TL → KeepT e u (w6.setCell ⟨w.heap.size + 1, 0, none⟩ (.slice (some ⟨g, 0, none⟩) (ss.length + 1) cap)) := by
 obtain ⟨svs, h1, h2, h3⟩ := h.segs
 refine ⟨_, rows_mono h2 (Nat.zero_le _), fun w6 z x sv g cap hs hg hw hlie => ?_⟩
 have hb6 := KeepT.grown h2 hg t5 _ _ _ h.box
 have ha6 := KeepT.grown h2 hg t5 _ _ _ h.ans
 have hcell := cells3 hb6
 have hw' : w6.ownsRow w.heap.size TS 2 (.slice (some ⟨g, 0, none⟩) (ss.length + 1) cap) (ss.length + 1) (wcells ss svs ++ [.int .i64 z, sv]) := by
  refine ⟨hw.1, ?_⟩
  rcases hw.2 with ⟨e, _⟩ | ⟨g', cap', cur, hv, hgb, r⟩
  ·cases e
  ·refine .inr ⟨g', cap', cur, hv, ?_, r⟩
   simp only [Value.slice.injEq, Option.some.injEq, Addr.mk.injEq] at hv
   obtain ⟨⟨rfl, _⟩, _⟩ := hv
   rcases hlie with e | e
   ·exact rows_from h2 _ e
   ·have := h.bel.size; omega
 have hS := OwnW.snoc (f := (z, x)) t1 h1 h2 h3 hs hg hw'
 have s6 : ∀ e, e ≠ TL → KeepT e w6 (w6.setCell ⟨w.heap.size + 1, 0, none⟩ (.slice (some ⟨g, 0, none⟩) (ss.length + 1) cap)) := fun e he => KeepT.set (a := ⟨w.heap.size + 1, 0, none⟩) hb6 he _
 refine ⟨⟨hcell.1.1, hcell.2 0⟩, ⟨set3_0 hb6 _, ?_, hS.keepT (s6 _ t3.symm) (s6 _ t5.symm), ?_, ?_⟩, fun e e1 e2 => (KeepT.grown h2 hg e1).trans (s6 e e2)⟩
 ·rw [Below.heap_setCell _ _ _ _ (show w.heap.size ≠ w.heap.size + 1 by omega)]; exact ha6
 ·exact (h.recs.keepT (KeepT.grown h2 hg t1.symm) (KeepT.grown h2 hg t2.symm)).keepT (s6 _ t3.symm) (s6 _ t4.symm)
 ·exact (h.bel.grown hg h.bel.size (rows_from h2)).setCell (p := ⟨w.heap.size + 1, 0, none⟩) (show w.heap.size ≤ w.heap.size + 1 by omega) _
theorem RInv.all {TS TL : Nat} {w u w' : World} {o o' c : Value} {a : List Wrt × Int} {rs rs' : List (List UInt8)} (h : RInv TS TL w u o c (a, rs)) (t2 : TS ≠ 62) (t4 : TL ≠ 62) (ho : OwnV w.heap.size 0 w' o' rs') (hb : Below w.heap.size u w') (hk : ∀ e, e ≠ 62 → KeepT e u w') : RInv TS TL w w' o' c (a, rs') :=
 ⟨hk _ t4 _ _ _ h.box, hk _ t4 _ _ _ h.ans, h.segs.keepT (hk _ (by decide)) (hk _ t2), ho, h.bel.trans hb⟩
theorem RInv.num {TS TL : Nat} {w u : World} {o c : Value} {ss : List Wrt} {nx : Int} {rs : List (List UInt8)} (h : RInv TS TL w u o c ((ss, nx), rs)) (t3 : TL ≠ 5) (t4 : TL ≠ 62) (t5 : TL ≠ TS) (m : Int) : RInv TS TL w (u.setCell ⟨w.heap.size + 1, 1, none⟩ (.int .i64 m)) o c ((ss, m), rs) := by
 have s6 : ∀ e, e ≠ TL → KeepT e u (u.setCell ⟨w.heap.size + 1, 1, none⟩ (.int .i64 m)) := fun e he => KeepT.set (a := ⟨w.heap.size + 1, 1, none⟩) h.box he _
 refine ⟨set3_1 h.box _, ?_, h.segs.keepT (s6 _ t3.symm) (s6 _ t5.symm), h.recs.keepT (s6 _ t3.symm) (s6 _ t4.symm), h.bel.setCell (p := ⟨w.heap.size + 1, 1, none⟩) (show w.heap.size ≤ w.heap.size + 1 by omega) _⟩
 rw [Below.heap_setCell _ _ _ _ (show w.heap.size ≠ w.heap.size + 1 by omega)]; exact h.ans
theorem RInv.ret {TS TL : Nat} {w u : World} {o c : Value} {ss : List Wrt} {nx : Int} {rs : List (List UInt8)} (h : RInv TS TL w u o c ((ss, nx), rs)) (t3 : TL ≠ 5) (t4 : TL ≠ 62) (t5 : TL ≠ TS) (x y z : Value) :
  RdC (S3 w.heap.size u x y z) c ss ∧ RdSec (S3 w.heap.size u x y z) o rs ∧ Below w.heap.size w (S3 w.heap.size u x y z) := by
 have k0 : ∀ e, e ≠ TL → KeepT e u (S3 w.heap.size u x y z) := fun e he =>
  ((KeepT.set (a := ⟨w.heap.size, 0, none⟩) h.ans he x).trans (KeepT.set (a := ⟨w.heap.size, 1, none⟩) (set3_0 h.ans x) he y)).trans (KeepT.set (a := ⟨w.heap.size, 2, none⟩) (set3_1 (set3_0 h.ans x) y) he z)
 exact ⟨(h.segs.keepT (k0 _ t3.symm) (k0 _ t5.symm)).rd, (h.recs.keepT (k0 _ t3.symm) (k0 _ t4.symm)).rd, below_set3 h.bel (Nat.le_refl _) _ _ _⟩
end Go.Proofs.Ytjjicajodjophaa

namespace Go.Proofs.Ytjjicajodjophaa
open Go.RowKit
end Go.Proofs.Ytjjicajodjophaa

namespace Go.Proofs.Ytjjicajodjophaa
open Go.RowKit
theorem infoSP : (Try.prog.info? 83).map (fun i => (i.zero, i.size, i.bytes)) = some (some (.agg #[.int .i64 0, .slice none 0 0]), 2, 32) := by kernel_rfl
theorem info_lgP : (Try.prog.info? 78).map (·.size) = some 3 := by kernel_rfl
set_option maxRecDepth 100000 in
set_option maxHeartbeats 2000000 in
theorem segs_any (w : World) (v : Value) (ws : List Wrt) (h : RdC w v ws) (f1 : ws.length * 32 ≤ 140737488351232) (f2 : ∀ x ∈ ws, x.2.length ≤ 140737488351232) :
  Calls Try.prog 16 #[v] w fun e w' => ∃ v', e = .returned v' ∧ Own (Shp.list 83 SWr) w.heap.size w' [v'] ws ∧ Below w.heap.size w w' := by
 obtain ⟨j0, ji, jz0, jz1, jz2⟩ := info_parts infoSP
 have lb := h.bd
 obtain ⟨a1, c1, rfl⟩ := h.slice
 have HR := hide h
 clear h
 go_enter Try.func16, Try.ntmps16
 go_wp2
 go_loopw [3, 4] (fun o i wr => ∃ k : Nat, k ≤ ws.length ∧ i = .int .i64 k ∧ Hid (∃ F, OwnF (Shp.list 83 SWr) F wr [o] (ws.take k) ∧ (∀ b, b ∈ F → w.heap.size ≤ b) ∧ Below w.heap.size w wr)) (fun _ i _ => ws.length - (intOf i).toNat)
 case atStart => exact ⟨0, Nat.zero_le _, rfl, [], ⟨⟨_, [], [], rfl, World.ownsRow_nil _ _ _ _, ⟨rfl, rfl⟩, by simp [Value.ownBlock]⟩, List.nodup_nil⟩, fun b hb => by (cases hb), Below.refl _ _⟩
 case round =>
  obtain ⟨k, hk, rfl, hI⟩ := hrel
  by_cases hlt : k < ws.length
  ·have hq : (k : Int) < (ws.length : Int) := by omega
   obtain ⟨F, hF, hFB, hb⟩ := hI.out
   obtain ⟨y, hyk, hym⟩ := some_at ws hlt
   obtain ⟨b1, o1, u, rfl, hc1, hc2, hr⟩ := (HR.out.to0 hb).wrt hyk
   obtain ⟨au, cu, rfl⟩ := hr.slice
   obtain ⟨cc, rowT, fin⟩ := OwnF.lit hF (n := k) (by simp; omega)
   have hsn := snoc_take ws hyk
   have hxl := f2 y hym
   obtain ⟨z, x⟩ := y
   dsimp only at hc1 hc2 hr hxl
   have FIN : Hid (∀ (w2 : World) (v2 : Value) (w5 : World) (g cap : Nat), Below wr.heap.size wr.drew w2 → OwnB wr.heap.size w2 v2 x → (w2.alloc (.cells #[.int .i64 z, v2] 83)).grownBy w5 u3.ownBlock →
     w5.ownsRow 0 83 2 (.slice (some ⟨g, 0, none⟩) (k + 1) cap) (k + 1) (cc ++ [.int .i64 z, v2]) → (u3.ownBlock = some g ∨ g = w2.heap.size + 1) →
     Hid (∃ F, OwnF (Shp.list 83 SWr) F w5 [.slice (some ⟨g, 0, none⟩) (k + 1) cap] (ws.take (k + 1)) ∧ (∀ b, b ∈ F → w.heap.size ≤ b) ∧ Below w.heap.size w w5)) := fun w2 v2 w5 g cap k1 k2 k3 k4 k5 => by
    obtain ⟨⟨F', q1, q2⟩, q3, q4⟩ := fin w2 [.int .i64 z, v2] (z, x) 83 _ w5 g cap ((Below.refl _ _).drew.trans k1) (own_wrt k2) rfl rfl rfl rfl k3 k4 k5
    rw [hsn] at q1
    exact ⟨F', q1, fun b hb' => (q2 b hb').elim (hFB b) (fun h => by have := hb.size; omega), hb.trans (q3 w.heap.size hFB hb.size)⟩
   have ROW : Hid (∀ u, Below wr.heap.size wr.drew u → ∀ o : Obj, (u.alloc o).ownsRow 0 83 2 u3 k cc) := fun u hu o => rowT _ (((Below.refl _ _).drew.trans hu).alloc hu.size o)
   have KS := hide (copy_any wr.drew _ x (hr.to (Below.refl _ _).drew) (by omega))
   have h63 : k + 1 ≤ maxLen := by rw [show maxLen = 9223372036854775807 from rfl]; omega
   have hby : (k + 1) * 32 ≤ 140737488355328 := by omega
   clear fin rowT hsn hF hFB hr hb hyk hym hI
   obtain ⟨ll, lc, hl⟩ : ∃ ll lc, u3 = .slice ll k lc := by
    rcases (ROW.out wr.drew (Below.refl _ _) (.cells #[] 0)).2 with ⟨rfl, rfl⟩ | ⟨g, cap, cur, rfl, _⟩
    ·exact ⟨_, _, rfl⟩
    ·exact ⟨_, _, rfl⟩
   subst hl
   generalize x.length = L at *
   go_wp2
   refine wp_region_mid (fun w' => w'.cell? ⟨b1, o1 + k * 2, none⟩ = some (.int .i64 z) ∧ w'.cell? ⟨b1, o1 + k * 2 + 1, none⟩ = some (.slice au L cu)) 11 14 mixed (by kernel_rfl) (fun _ _ _ _ h => h) ⟨hc1, hc2⟩ ?_
   dsimp only [List.take, List.drop]
   iterate 11
    refine take_one (v := ?_) (by rfl) ?_ ?_
    rotate_left
    ·rintro w' ⟨s1, s2⟩
     go_simp
     try with_reducible rfl
    try simp only [Act.put, List.setIfInBounds_toArray, List.set_cons_zero, List.set_cons_succ]
   refine mid_one fun K hK => ?_
   refine step_call (by rfl) 46 _ _ (by rfl) #[.slice au L cu] (by simp [Act.eval]) (Try.call46 _ _) KS.out ?_
   rintro e w2 ⟨v2, rfl, o2, b2⟩
   obtain ⟨av, cv2, hv2⟩ := o2.rd.slice
   subst hv2
   have x1 := (b2.cell (p := ⟨b1, o1 + k * 2, none⟩) (cell_lt hc1)).trans hc1
   have x2 := (b2.cell (p := ⟨b1, o1 + k * 2 + 1, none⟩) (cell_lt hc2)).trans hc2
   refine ⟨_, rfl, hK _ _ ⟨x1, x2⟩ ?_⟩
   clear hK K
   try simp only [Act.put, List.setIfInBounds_toArray, List.set_cons_zero, List.set_cons_succ]
   refine mid_one fun K hK => ?_
   rw [if_pos (by rfl)]
   go_simp
   refine hK _ _ ⟨x1, x2⟩ ?_
   clear hK K
   refine mid_one fun K hK => ?_
   rw [if_pos (by rfl)]
   go_simp
   refine hK _ _ ⟨cell_alloc x1 _, cell_alloc x2 _⟩ ?_
   clear hK K
   show wpList _ _ _ _ _ _
   go_wp2_with (at_builtin; refine wpList_append_lies _ rfl _ _ 47 rfl 0 83 j0 _ 2 32 Try.underlying47 ji jz0 jz1 jz2 rfl (by decide) (.slice ll k lc) k cc rfl (ROW.out w2 b2 _) ⟨w2.heap.size, 0, none⟩ 1 1 [.int .i64 z, .slice av x.length cv2] rfl rfl (World.news_of_block (heap_alloc_last w2 _)) (by simp [Value.oneCell']) (by decide) h63 hby (Nat.zero_le _) (w2.heap.size + 1) (by simp) ?_; intro g cap w5 ho5 hg5 hat5 hlt5; have HF := FIN.out w2 _ w5 g cap b2 o2 hg5 ho5 hat5; clear ho5 hg5 hat5 FIN ROW KS o2 b2)
   go_roundw
   case rel => exact ⟨k + 1, by omega, by go_num, HF⟩
   case measure => simp [intOf]; omega
  ·have hq : ¬ (k : Int) < (ws.length : Int) := by omega
   obtain rfl : k = ws.length := by omega
   obtain ⟨F, hF, hFB, hb⟩ := hI.out
   rw [List.take_of_length_le (Nat.le_refl _)] at hF
   have OO := hide (And.intro (hF.own hFB) hb)
   clear hF hFB hb hI
   go_wp2
   go_ret
   exact ⟨_, rfl, OO.out.1, OO.out.2⟩
end Go.Proofs.Ytjjicajodjophaa

namespace Go.Proofs.Ytjjicajodjophaa
open Go.RowKit
end Go.Proofs.Ytjjicajodjophaa

namespace Go.Proofs.Ytjjicajodjophaa
open Go.RowKit
set_option maxRecDepth 100000 in
set_option maxHeartbeats 2000000 in
theorem pread_any (w : World) (v : Value) (b : List UInt8) (hrd : Rd w v b) (hm : b.length ≤ 16777216) :
  Calls Try.prog 79 #[v] w fun e w' => ∃ v', e = .returned (.tuple #[v', .int .i64 (wn b : Nat)]) ∧ OwnV w.heap.size w.heap.size w' v' (wrecs b) ∧ Below w.heap.size w w' := by
 obtain ⟨i0, hi, hz0, hz1, hz2⟩ := info_parts infoB
 obtain ⟨ao, cap, rfl⟩ := hrd.slice
 have hcap : b.length ≤ cap := by obtain ⟨_, _, e, l, _⟩ := hrd; cases e; exact l
 go_enter Try.func79, Try.ntmps79
 go_wp2
 go_loopw [4, 5] (fun o t wr => ∃ (fs : List Frm) (p : Nat), t = .int .i64 p ∧ p ≤ b.length ∧ Hid (stt b fs.length = some (fs, p) ∧ (∀ f ∈ fs, f.1 = 1)) ∧ Hid (OwnV w.heap.size w.heap.size wr o (fs.map Prod.snd) ∧ Below w.heap.size w wr)) (fun _ t _ => b.length - (intOf t).toNat)
 case atStart => exact ⟨[], 0, rfl, Nat.zero_le _, hide ⟨rfl, fun f hf => by cases hf⟩, hide ⟨OwnV.nil _ _ _, Below.refl _ _⟩⟩
 case round =>
  obtain ⟨fs, p, rfl, hp, hst, hI⟩ := hrel
  obtain ⟨A, hA, rp⟩ := rd_cut (hrd.to hI.out.2) hp (Nat.le_refl _)
  rw [List.take_of_length_le (Nat.le_refl _)] at rp
  have y3 : (p : Int) ≤ (b.length : Int) := by omega
  have y4 : (b.length : Int) ≤ (cap : Int) := by omega
  have KO := hide (fopen_any wr _ (b.drop p) rp (by simp; omega))
  clear rp
  go_wp2_with fail
  refine KO.out.mono ?_
  rintro e w1 ⟨sv, rfl, o1, b1⟩
  clear KO
  obtain ⟨sa, cs, hsv⟩ := o1.rd.slice
  obtain ⟨f1, f2, f3⟩ := fopen_le (b.drop p)
  have HL := hide (stt_len b _ hst.out.1)
  have hstop := hide (fun h => wread_end hst.out.1 hst.out.2 h)
  have hstep := hide (fun h => stt_step hst.out.1 h)
  obtain ⟨X, hX, X0, bX, sX⟩ := boxedN w1 #[.int .u8 ((fopen (b.drop p)).2.1.1.toNat : Int), sv] 157
  obtain ⟨x0, x1, _, _⟩ := row2_cells X0
  have c1 := b1.trans (bX.mono b1.size)
  have V1 := hI.out.1.below c1
  have O1 := o1.below (Nat.le_refl _) bX
  have hb1 := hI.out.2.trans (c1.mono hI.out.2.size)
  have hdl : (fopen (b.drop p)).2.1.2.length ≤ 4096 ∨ (fopen (b.drop p)).1 ≠ 0 := by
   by_cases h0 : (fopen (b.drop p)).1 = 0
   ·left
    obtain ⟨_, _, k3, k4, _, k6, k7⟩ := fopen_ok h0
    rw [k6]; simp only [List.length_take, List.length_drop] at k4 ⊢; omega
   ·exact .inr h0
  by_cases h0 : (fopen (b.drop p)).1 = 0
  ·have h8 := f3 h0
   have h1' := hide h0
   rw [List.length_drop] at f1
   by_cases hk : (fopen (b.drop p)).2.1.1 = 1
   ·have hdl2 := hdl.resolve_right fun q => q h0
    have hS := hide (hstep.out h0)
    generalize (fopen (b.drop p)).2.2 = t at *
    generalize (fopen (b.drop p)).2.1 = f at *
    generalize (fopen (b.drop p)).1 = er at *
    subst h0
    have hkk : f.1.toNat = 1 := by rw [hk]; rfl
    rw [hkk] at x0 hX X0 ⊢
    have kk0 : ((1 : Nat) : Int) = 1 := rfl
    rw [kk0] at x0 hX X0 ⊢
    clear hkk kk0
    obtain ⟨DL, hDL⟩ : ∃ DL, DL = f.2.length := ⟨_, rfl⟩
    rw [← hDL] at hsv hdl2
    subst hsv
    obtain ⟨K, hK⟩ : ∃ K, K = fs.length := ⟨_, rfl⟩
    obtain ⟨vs, v1, v2, v3⟩ := V1
    rw [List.length_map, ← hK] at v2
    have hKl : K ≤ 2097152 := by have := HL.out.2.2; omega
    have V2 := hide (World.ownsRow.alloc v2 (.cells #[.slice sa DL cs] 62))
    have NEWS : Hid (∀ j u, ([.slice sa DL cs] : List Value)[j]? = some u → (X.alloc (.cells #[.slice sa DL cs] 62)).cell? ((⟨w1.heap.size + 1, 0, none⟩ : Addr).add j) = some u) := by
     rw [← sX]; exact World.news_of_block (heap_alloc_last X _)
    have h63 : K + 1 ≤ maxLen := by rw [show maxLen = 9223372036854775807 from rfl]; omega
    have hby : (K + 1) * 24 ≤ 140737488355328 := by omega
    have hbs : w.heap.size ≤ (X.alloc (.cells #[.slice sa DL cs] 62)).heap.size := by have := hb1.size; simp; omega
    have FIN : Hid (∀ v' w', (X.alloc (.cells #[.slice sa DL cs] 62)).grownBy w' u4.ownBlock → w'.ownsRow w.heap.size 62 1 v' (K + 1) (vs ++ [.slice sa DL cs]) →
      Hid (stt b (fs ++ [f]).length = some (fs ++ [f], p + t) ∧ (∀ g ∈ fs ++ [f], g.1 = 1)) ∧ Hid (OwnV w.heap.size w.heap.size w' v' ((fs ++ [f]).map Prod.snd) ∧ Below w.heap.size w w')) := fun v' w' hg hw' => by
     have al : Below X.heap.size X (X.alloc (.cells #[.slice sa DL cs] 62)) := (Below.refl _ _).alloc (Nat.le_refl _) _
     refine ⟨⟨by rw [List.length_append]; exact hS.out, fun g hg' => ?_⟩, ?_, (hb1.trans (al.mono hb1.size)).grown hg hbs (rows_from V2.out)⟩
     ·rcases List.mem_append.1 hg' with hg' | hg'
      ·exact hst.out.2 g hg'
      ·simp only [List.mem_singleton] at hg'; subst hg'; exact hk
     ·rw [List.map_append]
      refine OwnV.app (w := X.alloc (.cells #[.slice sa DL cs] 62)) v1 (by rw [List.length_map, ← hK]; exact V2.out) (fun i hi => (v3 i hi).below (Nat.le_refl _) al) (us := [.slice sa DL cs]) rfl (fun i hi => ?_) hg (by rw [List.length_map, ← hK]; exact hw')
      have hi0 : i = 0 := by simpa using hi
      subst hi0
      exact (O1.below (Nat.le_refl _) al).mono (show w.heap.size ≤ wr.heap.size from hI.out.2.size)
    replace hDL := hide hDL
    replace hK := hide hK
    replace hk := hide hk
    clear v1 v2 v3 O1 o1 b1 bX c1 hstep hstop hdl f2 f3
    rw [hX] at x0 x1
    go_wp2_with (at_builtin; rw [← hX]; refine wpList_append_own _ rfl _ _ 22 rfl w.heap.size 62 i0 _ 1 24 Try.underlying22 hi hz0 hz1 hz2 rfl (by decide) u4 K vs rfl V2.out ⟨w1.heap.size + 1, 0, none⟩ 1 1 [.slice sa DL cs] rfl rfl NEWS.out (by simp [Value.oneCell']) h63 hby hbs ?_; intro v5 w5 hown5 hgrow5 _; obtain ⟨F4, F5⟩ := FIN.out v5 w5 hgrow5 hown5; clear hown5 hgrow5)
    go_roundw
    case rel => exact ⟨fs ++ [f], p + t, by go_num, by omega, F4, F5⟩
    case measure => simp [intOf]; omega
   ·obtain ⟨e1, e2⟩ := hstop.out (.inr hk)
    have FIN : Hid (OwnV w.heap.size w.heap.size X u4 (wrecs b) ∧ Below w.heap.size w X) := ⟨by rw [e1]; exact V1, hb1⟩
    have hWn := hide e2
    generalize (fopen (b.drop p)).2.2 = t at *
    generalize (fopen (b.drop p)).2.1 = f at *
    generalize (fopen (b.drop p)).1 = er at *
    subst h0
    have hkb : ((f.1.toNat : Int) == 1) = false := by
     simp only [beq_eq_false_iff_ne]
     intro h
     exact hk (UInt8.toNat_inj.1 (by show f.1.toNat = 1; omega))
    replace hk := hide hk
    obtain ⟨DL, hDL⟩ : ∃ DL, DL = f.2.length := ⟨_, rfl⟩
    rw [← hDL] at hsv
    replace hDL := hide hDL
    subst hsv
    rw [hX] at x0 x1
    clear e1 e2 V1 O1 o1 b1 bX c1 hstep hstop hdl f2 f3
    go_wp2
    rw [← hX]
    go_ret2
    exact ⟨_, by rw [hWn.out]; rfl, FIN.out⟩
  ·obtain ⟨e1, e2⟩ := hstop.out (.inl h0)
   have FIN : Hid (OwnV w.heap.size w.heap.size X u4 (wrecs b) ∧ Below w.heap.size w X) := ⟨by rw [e1]; exact V1, hb1⟩
   have hWn := hide e2
   generalize (fopen (b.drop p)).2.2 = t at *
   generalize (fopen (b.drop p)).2.1 = f at *
   generalize (fopen (b.drop p)).1 = er at *
   have hd : ((er : Int) != 0) = true := by simp only [bne_iff_ne]; omega
   replace h0 := hide h0
   obtain ⟨DL, hDL⟩ : ∃ DL, DL = f.2.length := ⟨_, rfl⟩
   rw [← hDL] at hsv
   replace hDL := hide hDL
   subst hsv
   rw [hX] at x0 x1
   clear e1 e2 V1 O1 o1 b1 bX c1 hstep hstop hdl f2 f3
   go_wp2
   rw [← hX]
   go_ret2
   exact ⟨_, by rw [hWn.out]; rfl, FIN.out⟩
end Go.Proofs.Ytjjicajodjophaa

namespace Go.Proofs.Ytjjicajodjophaa
open Go.RowKit
end Go.Proofs.Ytjjicajodjophaa

namespace Go.Proofs.Ytjjicajodjophaa
open Go.RowKit
theorem rows_keepB {w w' : World} {B e s n : Nat} {v : Value} {xs : List Value} (h : w.ownsRow B e s v n xs) (k : ∀ b, B ≤ b → b < w.heap.size → w'.heap[b]? = w.heap[b]?) : w'.ownsRow B e s v n xs := by
 refine ⟨h.1, ?_⟩
 rcases h.2 with hn | ⟨g, cap, cur, hv, hgb, hg, r⟩
 ·exact .inl hn
 ·exact .inr ⟨g, cap, cur, hv, hgb, (k g hgb (lt_of_block hg)).trans hg, r⟩
theorem OwnV.keepB {B : Nat} {w w' : World} {v : Value} {xss : List (List UInt8)} (h : OwnV B B w v xss) (k : ∀ b, B ≤ b → b < w.heap.size → w'.heap[b]? = w.heap[b]?) : OwnV B B w' v xss := by
 obtain ⟨vs, h1, h2, h3⟩ := h
 exact ⟨vs, h1, rows_keepB h2 k, fun i hi => rows_keepB (h3 i hi) k⟩
theorem Own.keepB {α : Type} {s : Shp α} {B : Nat} {w w' : World} {cs : List Value} {x : α} (h : Own s B w cs x) (k : ∀ b, B ≤ b → b < w.heap.size → w'.heap[b]? = w.heap[b]?) : Own s B w' cs x :=
 let ⟨F, h1, h2, h3⟩ := h; ⟨F, s.own_to h1 fun b hb' => k b (h3 b hb') (s.own_lt h1 b hb'), h2, h3⟩
theorem OwnW.mono {T B C : Nat} {w : World} {v : Value} {ws : List Wrt} (h : OwnW T B w v ws) (hC : C ≤ B) : OwnW T C w v ws := by
 obtain ⟨vs, h1, h2, h3⟩ := h
 exact ⟨vs, h1, rows_mono h2 hC, h3⟩
def LgF (T B : Nat) (w : World) (sv wv : Value) (l : Wlg) : Prop := Own (Shp.list T SWr) B w [sv] l.1 ∧ OwnV B B w wv l.2.2
theorem LgF.keepB {T B : Nat} {w w' : World} {sv wv : Value} {l : Wlg} (h : LgF T B w sv wv l) (k : ∀ b, B ≤ b → b < w.heap.size → w'.heap[b]? = w.heap[b]?) : LgF T B w' sv wv l := ⟨h.1.keepB k, h.2.keepB k⟩
theorem LgF.to {T B : Nat} {w w' : World} {sv wv : Value} {l : Wlg} (h : LgF T B w sv wv l) (hb : Below w.heap.size w w') : LgF T B w' sv wv l := h.keepB fun b _ hb' => hb.block b hb'
theorem LgF.set {T B : Nat} {w : World} {sv wv : Value} {l : Wlg} (h : LgF T B w sv wv l) {a : Addr} (ha : a.block < B) (u : Value) : LgF T B (w.setCell a u) sv wv l := h.keepB fun b hb _ => Below.heap_setCell _ _ _ _ (fun e => by omega)
theorem LgF.mono {T B C : Nat} {w : World} {sv wv : Value} {l : Wlg} (h : LgF T B w sv wv l) (hC : C ≤ B) : LgF T C w sv wv l := ⟨h.1.mono hC, h.2.mono hC hC⟩
theorem LgF.zero (T B : Nat) (w : World) : LgF T B w (.slice none 0 0) (.slice none 0 0) wzero := ⟨Own.nil _ _ _ _, OwnV.nil _ _ _⟩
end Go.Proofs.Ytjjicajodjophaa

namespace Go.Proofs.Ytjjicajodjophaa
open Go.RowKit
abbrev TSP : Nat := 83
end Go.Proofs.Ytjjicajodjophaa

namespace Go.Proofs.Ytjjicajodjophaa
open Go.RowKit
abbrev TLP : Nat := 78
theorem wn_pos (x : List UInt8) : 0 < wn x ↔ 0 < (wrecs x).length := by
 have h := wsz_len (wrecs x)
 have e : wn x = wsz (wrecs x) := rfl
 constructor
 ·intro h1
  apply Decidable.byContradiction
  intro h2
  have h0 : wrecs x = [] := List.eq_nil_of_length_eq_zero (by omega)
  rw [h0] at e
  simp [wsz] at e
  omega
 ·intro h1; omega
theorem wgone_push' {i n : Nat} {ss : List Wrt} {nx : Int} {rs r : List (List UInt8)} {s : Wrt} (h : 0 < n ∨ i = 0) : wgone i ((ss, nx), rs) s r n = ((ss ++ [(s.1, s.2.take n)], nx + (r.length : Nat)), rs ++ r) := by unfold wgone; rw [if_pos h]
theorem wgone_keep' {i n : Nat} {ss : List Wrt} {nx : Int} {rs r : List (List UInt8)} {s : Wrt} (h : ¬ (0 < n ∨ i = 0)) : wgone i ((ss, nx), rs) s r n = ((ss, nx + (r.length : Nat)), rs ++ r) := by unfold wgone; rw [if_neg h]
theorem s3_keep {TL g : Nat} {u : World} {a b c : Value} (h : u.heap[g]? = some (.cells #[a, b, c] TL (0, 0))) (x y z : Value) : ∀ e, e ≠ TL → KeepT e u (S3 g u x y z) := fun e he =>
 ((KeepT.set (a := ⟨g, 0, none⟩) h he x).trans (KeepT.set (a := ⟨g, 1, none⟩) (set3_0 h x) he y)).trans (KeepT.set (a := ⟨g, 2, none⟩) (set3_1 (set3_0 h x) y) he z)
theorem RInv.ret2 {TS TL : Nat} {w u : World} {o c : Value} {ss : List Wrt} {nx : Int} {rs : List (List UInt8)} (h : RInv TS TL w u o c ((ss, nx), rs)) (t3 : TL ≠ 5) (t4 : TL ≠ 62) (t5 : TL ≠ TS) (x y z : Value) :
  OwnW TS w.heap.size (S3 w.heap.size u x y z) c ss ∧ OwnV w.heap.size 0 (S3 w.heap.size u x y z) o rs ∧ Below w.heap.size w (S3 w.heap.size u x y z) := by
 have k0 := s3_keep h.ans x y z
 exact ⟨h.segs.keepT (k0 _ t3.symm) (k0 _ t5.symm), h.recs.keepT (k0 _ t3.symm) (k0 _ t4.symm), below_set3 h.bel (Nat.le_refl _) _ _ _⟩
theorem boxes3z (w : World) (n : Int) (t : TypeId) : ∃ W, W = (w.alloc (.cells #[.slice none 0 0, .int .i64 0, .slice none 0 0] t)).alloc (.cells #[.slice none 0 0, .int .i64 n, .slice none 0 0] t) ∧ W.heap[w.heap.size]? = some (.cells #[.slice none 0 0, .int .i64 0, .slice none 0 0] t (0, 0)) ∧ W.heap[w.heap.size + 1]? = some (.cells #[.slice none 0 0, .int .i64 n, .slice none 0 0] t (0, 0)) ∧ Below w.heap.size w W ∧ W.heap.size = w.heap.size + 1 + 1 := by
 refine ⟨_, rfl, ?_, ?_, ((Below.refl _ _).alloc (Nat.le_refl _) _).alloc (by simp) _, by simp⟩
 ·rw [Below.heap_alloc _ _ _ (by simp)]; exact heap_alloc_last w _
 ·have := heap_alloc_last (w.alloc (.cells #[.slice none 0 0, .int .i64 0, .slice none 0 0] t)) (.cells #[.slice none 0 0, .int .i64 n, .slice none 0 0] t); simpa using this
set_option maxRecDepth 100000 in
set_option maxHeartbeats 4000000 in
theorem pwholeOf_any (w : World) (sv : Value) (segs : List Wrt) (h1 : RdC w sv segs) (hm : ∀ s ∈ segs, s.2.length ≤ 16777216) (h0 : 0 < segs.length) (hsl : segs.length ≤ 4096) (hix : widx (wseg segs 0).1) :
  Calls Try.prog 75 #[sv] w fun e w' => ∃ (sv' rv : Value) (ss : List Wrt) (nx : Int) (rs : List (List UInt8)) (n : Nat), e = .returned (.tuple #[.agg #[sv', .int .i64 nx, .slice none 0 0], rv, .int .i64 (n : Int)]) ∧ PWhole segs ((ss, nx), rs) n ∧ (OwnW TSP w.heap.size w' sv' ss ∧ OwnV w.heap.size 0 w' rv rs) ∧ Below w.heap.size w w' := by
 obtain ⟨j0, ji, jz0, jz1, jz2⟩ := info_parts infoSP
 have lb1 := h1.bd
 obtain ⟨a1, c1, rfl⟩ := h1.slice
 obtain ⟨f, hf, hfm⟩ := some_at segs (k := 0) (by omega)
 rw [wseg_at hf] at hix
 have hf0 := hide (wseg_at hf)
 have H1 := hide h1
 obtain ⟨b0, o0, u0, e0, hc0, _, _⟩ := h1.wrt hf
 subst e0
 obtain ⟨fz, fx⟩ := f
 dsimp only at hc0 hix
 rw [Nat.zero_mul, Nat.add_zero] at hc0
 obtain ⟨X, hX, X0, X1, bX, sX⟩ := boxes3z w fz 78
 have hcX := (bX.cell (cell_lt hc0)).trans hc0
 have hcA : (w.alloc (.cells #[.slice none 0 0, .int .i64 0, .slice none 0 0] 78)).cell? ⟨b0, o0, none⟩ = some (.int .i64 fz) := cell_alloc hc0 _
 have hpos : (0 : Int) < (segs.length : Int) := by omega
 have st0 : Hid (RInv TSP TLP w X (.slice none 0 0) (.slice none 0 0) (pwsg segs 0)) := by
  show RInv _ _ _ _ _ _ (([], (wseg segs 0).1), [])
  rw [hf0.out]
  exact ⟨X1, X0, OwnW.nil _ _ _, OwnV.nil _ _ _, bX⟩
 have hp0 : Hid (0 ≤ (pwsg segs 0).1.2 ∧ (pwsg segs 0).1.2 ≤ 1099511627776) := by
  show 0 ≤ (wseg segs 0).1 ∧ (wseg segs 0).1 ≤ _
  rw [hf0.out]; exact hix
 clear X0 X1 bX hf hfm h1 sX hc0
 go_enter Try.func75, Try.ntmps75
 go_wp2
 rw [← hX]
 replace hX := hide hX
 clear hcX hcA
 go_loopw [6, 18] (fun o i wr => ∃ (k : Nat) (c : Value), k ≤ segs.length ∧ i = .int .i64 k ∧ Hid (RInv TSP TLP w wr o c (pwsg segs k) ∧ (pwsg segs k).1.1.length ≤ k ∧ (pwsg segs k).2.length ≤ k * 2097152 ∧ (0 ≤ (pwsg segs k).1.2 ∧ (pwsg segs k).1.2 ≤ 1099511627776 + (k : Int) * 2097152) ∧ ∀ j, j < k → wgood segs j)) (fun _ i _ => segs.length - (intOf i).toNat)
 case atStart => exact ⟨0, _, Nat.zero_le _, rfl, st0.out, Nat.le_refl _, Nat.zero_le _, ⟨hp0.out.1, by have := hp0.out.2; omega⟩, fun j hj => by omega⟩
 case round =>
  obtain ⟨k, c, hk, rfl, hI⟩ := hrel
  clear st0 hp0
  obtain ⟨RI, hssl, hrsl, ⟨hn0, hn1⟩, hgood⟩ := hI.out
  obtain ⟨st, hst⟩ : ∃ st, st = pwsg segs k := ⟨_, rfl⟩
  rw [← hst] at RI hssl hrsl hn0 hn1
  have HST := hide hst
  clear hst
  obtain ⟨⟨ss, nx⟩, rs⟩ := st
  dsimp only at hssl hrsl hn0 hn1
  have HG := hide hgood
  obtain ⟨ca, cc0, hcs⟩ := RI.segs.rd.slice
  obtain ⟨oa, oc, hou⟩ := RI.recs.rd.slice
  dsimp only at hcs hou
  obtain ⟨M, hM⟩ : ∃ M, M = ss.length := ⟨_, rfl⟩
  obtain ⟨N, hN⟩ : ∃ N, N = rs.length := ⟨_, rfl⟩
  rw [← hM] at hcs hssl
  rw [← hN] at hou hrsl
  subst hcs hou
  replace hM := hide hM
  replace hN := hide hN
  clear hgood
  by_cases hlt : k < segs.length
  ·have hq : (k : Int) < (segs.length : Int) := by omega
   obtain ⟨y, hy, hym⟩ := some_at segs hlt
   obtain ⟨b1, o1, u, e1, hc0, hc1, hru⟩ := (H1.out.to0 RI.bel).wrt hy
   simp only [Option.some.injEq, Addr.mk.injEq, and_true] at e1
   obtain ⟨⟨rfl, rfl⟩, _⟩ := e1
   have hyl := hm y hym
   have hsg := hide (wseg_at hy)
   obtain ⟨yz, yx⟩ := y
   dsimp only at hc0 hc1 hru hyl
   obtain ⟨ua, uc, rfl⟩ := hru.slice
   have hcap : yx.length ≤ uc := by obtain ⟨_, _, e, l1, _⟩ := hru; simp only [Value.slice.injEq] at e; omega
   obtain ⟨Y, hY, Y0, bY, sY⟩ := boxedN wr #[.int .i64 yz, .slice ua yx.length uc] 83
   have RY := hide (RI.to bY)
   obtain ⟨e8, e9, _, _⟩ := row2_cells Y0
   obtain ⟨⟨T0, T1, T2⟩, _⟩ := cells3 RY.out.box
   obtain ⟨⟨z0, z1, z2⟩, zf⟩ := cells3 RY.out.ans
   have y0 := zf 0
   have y1 := zf 1
   have y2 := zf 2
   have KW := hide (pread_any Y _ yx (hru.to bY) hyl)
   have hru8 := hide (hru.to bY)
   have hwl := wn_le yx
   have hwl1 := hwl.1
   have hwr := hwl.2.1
   dsimp only at T0 T1 T2
   obtain ⟨L, hL⟩ : ∃ L, L = yx.length := ⟨_, rfl⟩
   rw [← hL] at hc1 hY e9 KW hru8 hyl hwl1 hwr hcap Y0
   obtain ⟨NW, hNW⟩ : ∃ NW, NW = wn yx := ⟨_, rfl⟩
   rw [← hNW] at KW hwl1
   obtain ⟨NR, hNR⟩ : ∃ NR, NR = (wrecs yx).length := ⟨_, rfl⟩
   rw [← hNR] at hwr
   replace hL := hide hL
   replace hNW := hide hNW
   replace hNR := hide hNR
   have hrow8 : Hid (∀ kk, (Value.slice ca M cc0).ownBlock = some kk → kk < wr.heap.size) := by
    obtain ⟨_, _, row0, _⟩ := RI.segs
    exact rows_lt row0
   have hslt : w.heap.size + 1 < wr.heap.size := lt_of_block RI.box
   have Y0' := hide Y0
   clear hru RI hI bY hwl Y0 hy hym zf
   by_cases hz : yz = nx
   ·subst hz
    have hnext : Hid (pwsg segs (k + 1) = wgone k ((ss, yz), rs) (yz, yx) (wrecs yx) (wn yx)) := by
     show wgone k (pwsg segs k) (wseg segs k) _ _ = _
     rw [← HST.out, hsg.out]
    rw [hY] at e8 e9 T0 T1 T2 z0 z1 z2 y0 y1 y2
    go_wp2_with fail
    rw [← hY]
    rw [← hY] at e8 e9 T0 T1 T2 z0 z1 z2 y0 y1 y2
    replace hY := hide hY
    refine KW.out.mono ?_
    rintro e w5 ⟨rv, rfl, o5, b5⟩
    clear KW hc0 hc1
    have R5 := hide (RY.out.to b5)
    obtain ⟨ra, rc, hrv⟩ := o5.rd.slice
    rw [← hNR.out] at hrv
    subst hrv
    have O5 := hide (o5.mono (B' := 0) (C' := 0) (Nat.zero_le _) (Nat.zero_le _))
    have e8 := (b5.cell (p := ⟨wr.heap.size, 0, none⟩) (cell_lt e8)).trans e8
    have e9 := (b5.cell (p := ⟨wr.heap.size, 1, none⟩) (cell_lt e9)).trans e9
    have hru5 := hide (hru8.out.to b5)
    have B8 := hide ((b5.block _ (lt_of_block Y0'.out)).trans Y0'.out)
    obtain ⟨⟨T0, T1, T2⟩, tf⟩ := cells3 R5.out.box
    obtain ⟨⟨z0, z1, z2⟩, zf⟩ := cells3 R5.out.ans
    have y0 := zf 0
    have y1 := zf 1
    have y2 := zf 2
    dsimp only at T0 T1 T2
    clear RY o5 b5 hru8 Y0' zf
    go_upto_region 9 with fail
    obtain ⟨bb, hbb⟩ : ∃ b : Bool, b = decide (0 < NW ∨ k = 0) := ⟨_, rfl⟩
    have hwp : Hid (0 < NW ↔ 0 < NR) := by show _ ↔ _; rw [hNW.out, hNR.out]; exact wn_pos yx
    replace hbb := hide hbb
    go_cut [43] from 37 to 43 (fun s wx => s = .bool bb ∧ w5 = wx)
    case first =>
     by_cases hp1 : k = 0
     ·have hb : Hid (bb = true) := hbb.out.trans (decide_eq_true (.inr hp1))
      have j1 : ((k : Int) == 0) = true := by simp [hp1]
      replace hp1 := hide hp1
      go_wp2_with fail
      go_meet
      exact ⟨by rw [hb.out], rfl⟩
     ·have j1 : ((k : Int) == 0) = false := by simp [hp1]
      by_cases hp0 : 0 < NR
      ·have hb : Hid (bb = true) := hbb.out.trans (decide_eq_true (.inl (hwp.out.2 hp0)))
       have j0 : (0 : Int) < (NR : Int) := by omega
       replace hp1 := hide hp1
       go_wp2_with fail
       go_meet
       exact ⟨by rw [hb.out], rfl⟩
      ·have hb : Hid (bb = false) := hbb.out.trans (decide_eq_false (fun h => h.elim (fun h => hp0 (hwp.out.1 h)) hp1))
       have j0 : ¬ (0 : Int) < (NR : Int) := by omega
       replace hp1 := hide hp1
       replace hp0 := hide hp0
       go_wp2_with fail
       go_meet
       exact ⟨by rw [hb.out, decide_eq_false hp0.out], rfl⟩
    case rest =>
    obtain ⟨rfl, rfl⟩ := hcut
    go_upto_if 43 with fail
    go_cut [] from 44 to 51 (fun wx => ∃ (SS : List Wrt) (cU : Value), Hid (wgone k ((ss, yz), rs) (yz, yx) (wrecs yx) (wn yx) = ((SS, yz + (NR : Int)), rs ++ wrecs yx)) ∧ SS.length ≤ k + 1 ∧ Hid (RInv TSP TLP w wx (.slice oa N oc) cU ((SS, yz), rs) ∧ OwnV 0 0 wx (.slice ra NR rc) (wrecs yx) ∧ wx.heap[wr.heap.size]? = some (.cells #[.int .i64 yz, .slice ua L uc] 83 (0, 0))))
    case first =>
     by_cases hp : 0 < NW ∨ k = 0
     ·have hb := hbb.out.trans (decide_eq_true hp)
      clear hbb
      subst hb
      have hgone : Hid (wgone k ((ss, yz), rs) (yz, yx) (wrecs yx) (wn yx) = ((ss ++ [(yz, yx.take NW)], yz + (NR : Int)), rs ++ wrecs yx)) := by
       show _ = _
       rw [wgone_push' (by rw [← hNW.out]; exact hp), ← hNW.out, ← hNR.out]
      obtain ⟨TK, hTK⟩ : ∃ TK, TK = yx.take NW := ⟨_, rfl⟩
      rw [← hTK] at hgone
      have KS := hide (pcopy_any w5.drew (.slice ua L uc) yz yx NW (hru5.out.to (Below.refl _ _).drew) (by rw [← hL.out]; exact hwl1) (by rw [← hL.out]; omega))
      rw [← hTK] at KS
      replace hTK := hide hTK
      replace hp := hide hp
      have h63 : M + 1 ≤ maxLen := by rw [show maxLen = 9223372036854775807 from rfl]; omega
      have hby : (M + 1) * 32 ≤ 140737488355328 := by omega
      go_wp2_with fail
      refine wp_region_mid (fun w' => w'.cell? ⟨w.heap.size + 1, 0, none⟩ = some (.slice ca M cc0) ∧ w'.cell? ⟨wr.heap.size, 0, none⟩ = some (.int .i64 yz) ∧ w'.cell? ⟨wr.heap.size, 1, none⟩ = some (.slice ua L uc)) 4 6 mixed (by kernel_rfl) (fun _ _ _ _ h => h) ⟨T0, e8, e9⟩ ?_
      dsimp only [List.take, List.drop]
      iterate 4
       refine take_one (v := ?_) (by rfl) ?_ ?_
       rotate_left
       ·rintro w' ⟨s1, s2, s3⟩
        go_simp
        try with_reducible rfl
       try simp only [Act.put, List.setIfInBounds_toArray, List.set_cons_zero, List.set_cons_succ]
      refine mid_one fun K hK => ?_
      refine step_call (by rfl) 89 _ _ (by rfl) #[.agg #[.int .i64 yz, .slice ua L uc], .int .i64 (NW : Int)] (by simp [Act.eval]) (Try.call89 _ _) KS.out ?_
      rintro e w2 ⟨v2, rfl, o2, b2⟩
      obtain ⟨av, cv2, hv2⟩ := o2.rd.slice
      obtain ⟨KL, hKL⟩ : ∃ KL, KL = TK.length := ⟨_, rfl⟩
      rw [← hKL] at hv2
      replace hKL := hide hKL
      subst hv2
      have x0 := (b2.cell (p := ⟨w.heap.size + 1, 0, none⟩) (cell_lt T0)).trans T0
      have x1 := (b2.cell (p := ⟨wr.heap.size, 0, none⟩) (cell_lt e8)).trans e8
      have x2 := (b2.cell (p := ⟨wr.heap.size, 1, none⟩) (cell_lt e9)).trans e9
      refine ⟨_, rfl, hK _ _ ⟨x0, x1, x2⟩ ?_⟩
      clear hK K
      try simp only [Act.put, List.setIfInBounds_toArray, List.set_cons_zero, List.set_cons_succ]
      refine mid_one fun K hK => ?_
      rw [if_pos (by rfl)]
      go_simp
      refine hK _ _ ⟨cell_alloc x0 _, cell_alloc x1 _, cell_alloc x2 _⟩ ?_
      clear hK K
      show wpList _ _ _ _ _ _
      have bu : Below w5.heap.size w5 (w2.alloc (.cells #[.int .i64 yz, .slice av KL cv2] 83)) := ((Below.refl _ _).drew.trans b2).alloc b2.size _
      obtain ⟨cc, row, fin⟩ := RInv.push (R5.out.to bu) (by decide) (by decide) (by decide) (by decide) (by decide)
      rw [← hM.out] at row fin
      have OB : OwnB 0 (w2.alloc (.cells #[.int .i64 yz, .slice av KL cv2] 83)) (.slice av KL cv2) TK := (o2.mono (Nat.zero_le _)).below (Nat.le_refl _) ((Below.refl _ _).alloc (Nat.le_refl _) _)
      have FIN : Hid (∀ (g cap : Nat) (w6 : World), (w2.alloc (.cells #[.int .i64 yz, .slice av KL cv2] 83)).grownBy w6 (Value.slice ca M cc0).ownBlock → w6.ownsRow 0 83 2 (.slice (some ⟨g, 0, none⟩) (M + 1) cap) (M + 1) (cc ++ [.int .i64 yz, .slice av KL cv2]) → ((Value.slice ca M cc0).ownBlock = some g ∨ g = w2.heap.size + 1) →
        (w6.cell? ⟨w.heap.size + 1, 0, none⟩ = some (.slice ca M cc0) ∧ w6.frozen? ⟨w.heap.size + 1, 0, none⟩ = false) ∧ Hid (RInv TSP TLP w (w6.setCell ⟨w.heap.size + 1, 0, none⟩ (.slice (some ⟨g, 0, none⟩) (M + 1) cap)) (.slice oa N oc) (.slice (some ⟨g, 0, none⟩) (M + 1) cap) ((ss ++ [(yz, TK)], yz), rs) ∧
         OwnV 0 0 (w6.setCell ⟨w.heap.size + 1, 0, none⟩ (.slice (some ⟨g, 0, none⟩) (M + 1) cap)) (.slice ra NR rc) (wrecs yx) ∧ (w6.setCell ⟨w.heap.size + 1, 0, none⟩ (.slice (some ⟨g, 0, none⟩) (M + 1) cap)).heap[wr.heap.size]? = some (.cells #[.int .i64 yz, .slice ua L uc] 83 (0, 0)))) := fun g cap w6 k3 k4 k5 => by
       obtain ⟨q0, q1, q2⟩ := fin w6 yz TK _ g cap OB k3 k4 (k5.imp id fun e => by rw [e]; simp)
       have q2' : ∀ e, e ≠ TSP → e ≠ TLP → KeepT e w5 (w6.setCell ⟨w.heap.size + 1, 0, none⟩ (.slice (some ⟨g, 0, none⟩) (M + 1) cap)) := fun e h1 h2 => (KeepT.below bu).trans (q2 e h1 h2)
       refine ⟨q0, q1, O5.out.keepT (q2' _ (by decide) (by decide)) (q2' _ (by decide) (by decide)), ?_⟩
       rw [Below.heap_setCell _ _ _ _ (show wr.heap.size ≠ w.heap.size + 1 by omega)]
       have hu8 := (bu.block _ (lt_of_block B8.out)).trans B8.out
       exact (k3.block _ (lt_of_block hu8) (fun e => absurd (hrow8.out _ e.symm) (Nat.lt_irrefl _))).trans hu8
      replace row := hide row
      clear fin OB bu o2 b2 KS
      go_wp2_with (at_builtin; refine wpList_append_lies _ rfl _ _ 47 rfl 0 83 j0 _ 2 32 Try.underlying47 ji jz0 jz1 jz2 rfl (by decide) (.slice ca M cc0) M cc rfl row.out ⟨w2.heap.size, 0, none⟩ 1 1 [.int .i64 yz, .slice av KL cv2] rfl rfl (World.news_of_block (heap_alloc_last w2 _)) (by simp [Value.oneCell']) (by decide) h63 hby (Nat.zero_le _) (w2.heap.size + 1) (by simp) ?_; intro gR capR w6 ho6 hg6 hat6 hlt6; obtain ⟨⟨y5, y6⟩, HF⟩ := FIN.out gR capR w6 hg6 ho6 hat6; clear ho6 hg6 hat6)
      go_meet
      exact ⟨_, _, hgone, by rw [List.length_append, ← hM.out]; simp; omega, HF⟩
     ·have hb := hbb.out.trans (decide_eq_false hp)
      clear hbb
      subst hb
      have hgone : Hid (wgone k ((ss, yz), rs) (yz, yx) (wrecs yx) (wn yx) = ((ss, yz + (NR : Int)), rs ++ wrecs yx)) := by
       show _ = _
       rw [wgone_keep' (by rw [← hNW.out]; exact hp), ← hNR.out]
      replace hp := hide hp
      have HF : Hid (RInv TSP TLP w w5 (.slice oa N oc) (.slice ca M cc0) ((ss, yz), rs) ∧ OwnV 0 0 w5 (.slice ra NR rc) (wrecs yx) ∧ w5.heap[wr.heap.size]? = some (.cells #[.int .i64 yz, .slice ua L uc] 83 (0, 0))) := ⟨R5.out, O5.out, B8.out⟩
      go_wp2_with fail
      go_meet
      exact ⟨_, _, hgone, by rw [← hM.out]; omega, HF⟩
    case rest =>
    clear hbb
    obtain ⟨SS, cU, hgone, hSl, HF⟩ := hcut
    obtain ⟨da, dc, hcU⟩ := HF.out.1.segs.rd.slice
    dsimp only at hcU
    obtain ⟨M2, hM2⟩ : ∃ M2, M2 = SS.length := ⟨_, rfl⟩
    rw [← hM2] at hcU
    subst hcU
    replace hM2 := hide hM2
    obtain ⟨U, hU⟩ : ∃ U, U = wc := ⟨_, rfl⟩
    rw [← hU] at HF ⊢
    replace hU := hide hU
    clear hrow8 O5 R5 B8 hru5 T0 T1 T2 tf e8 e9 z0 z1 z2 y0 y1 y2
    have O1 := hide HF.out.1.recs
    have O2 := hide HF.out.2.1
    have hBU := HF.out.1.bel.size
    have hln : (rs.length + (wrecs yx).length) * 24 ≤ 140737488355328 := by rw [← hN.out, ← hNR.out]; omega
    have hw8 : Hid (0 ≤ yz + (NR : Int) ∧ yz + (NR : Int) ≤ 1099511627776 + ((k + 1 : Nat) : Int) * 2097152) := ⟨by omega, by push_cast; omega⟩
    have hrl : Hid ((rs ++ wrecs yx).length ≤ (k + 1) * 2097152) := by show _ ≤ _; rw [List.length_append, ← hN.out, ← hNR.out]; omega
    replace hSl := hide hSl
    rw [hgone.out] at hnext
    have STEP : Hid (∀ (v7 : Value) (w7 : World), OwnV w.heap.size 0 w7 v7 (rs ++ wrecs yx) → Below w.heap.size U w7 → (∀ e, e ≠ 62 → KeepT e U w7) → (w7.cell? ⟨w.heap.size + 1, 1, none⟩ = some (.int .i64 yz) ∧ w7.frozen? ⟨w.heap.size + 1, 1, none⟩ = false) ∧ ∃ w8, w8 = w7.setCell ⟨w.heap.size + 1, 1, none⟩ (.int .i64 (yz + (NR : Int))) ∧ Hid (RInv TSP TLP w w8 v7 (.slice da M2 dc) ((SS, yz + (NR : Int)), rs ++ wrecs yx)) ∧ w8.cell? ⟨wr.heap.size, 1, none⟩ = some (.slice ua L uc)) := fun v7 w7 o7 b7 k7 => by
     have R7 := HF.out.1.all (by decide) (by decide) o7 b7 k7
     obtain ⟨⟨_, t1, _⟩, tf7⟩ := cells3 R7.box
     refine ⟨⟨t1, tf7 1⟩, _, rfl, R7.num (by decide) (by decide) (by decide) _, ?_⟩
     have q8 := k7 83 (by decide) _ _ _ HF.out.2.2
     have q9 : (w7.setCell ⟨w.heap.size + 1, 1, none⟩ (.int .i64 (yz + (NR : Int)))).heap[wr.heap.size]? = _ := (Below.heap_setCell _ _ _ _ (show wr.heap.size ≠ w.heap.size + 1 by omega)).trans q8
     exact (row2_cells q9).2.1
    clear HF hgone
    go_upto_region 13 with (at_builtin; refine wpList_append_lists2 rfl _ _ rfl w.heap.size 0 0 _ _ _ _ rfl rfl O1.out O2.out hln hBU ?_; intro v7 w7 o7 b7 k7; obtain ⟨va, vc, hv7⟩ := o7.rd.slice; obtain ⟨⟨t71, t7f⟩, w8, hw8e, R8, e81⟩ := STEP.out v7 w7 o7 b7 k7; clear o7 b7 k7; subst hw8e; obtain ⟨N7, hN7⟩ : ∃ N7, N7 = (rs ++ wrecs yx).length := ⟨_, rfl⟩; rw [← hN7] at hv7; replace hN7 := hide hN7; subst hv7)
    obtain ⟨⟨t80, t81, t82⟩, _⟩ := cells3 R8.out.box
    obtain ⟨⟨z80, z81, z82⟩, zf8⟩ := cells3 R8.out.ans
    have y80 := zf8 0
    have y81 := zf8 1
    have y82 := zf8 2
    dsimp only at t80 t81 t82
    obtain ⟨U8, hU8⟩ : ∃ U8, U8 = w7.setCell ⟨w.heap.size + 1, 1, none⟩ (.int .i64 (yz + (NR : Int))) := ⟨_, rfl⟩
    rw [← hU8] at R8 e81 t80 t81 t82 z80 z81 z82 y80 y81 y82 ⊢
    clear zf8 t71 t7f STEP O1 O2
    replace hU8 := hide hU8
    by_cases hnl : NW < L
    ·have hq3 : (NW : Int) < (L : Int) := by omega
     have hPW : Hid (PWhole segs ((SS, yz + (NR : Int)), rs ++ wrecs yx) (k + 1)) := ⟨k, HG.out, .inr (.inr ⟨hlt, by rw [hsg.out, ← HST.out], by rw [hsg.out]; dsimp only; rw [← hNW.out, ← hL.out]; omega, hnext.out.symm, rfl⟩)⟩
     have hFN := hide (R8.out.ret2 (by decide) (by decide) (by decide))
     have ZA := hide R8.out.ans
     replace hnl := hide hnl
     clear R8
     go_wp2
     refine retNTT rfl rfl w.heap.size rfl _ _ (0, 0) (heap_set3 (u := U8) ZA.out _ _ _) _ Try.underlying78 rfl info_lgP _ rfl _ rfl ?_
     exact ⟨_, _, SS, yz + (NR : Int), rs ++ wrecs yx, k + 1, by first | rfl | (congr 1), hPW.out, ⟨(hFN.out _ _ _).1, (hFN.out _ _ _).2.1⟩, (hFN.out _ _ _).2.2⟩
    ·have hq3 : ¬ (NW : Int) < (L : Int) := by omega
     have hgood' : Hid (∀ j, j < k + 1 → wgood segs j) := fun j hj => by
      by_cases e : j = k
      ·subst e
       exact ⟨by rw [hsg.out, ← HST.out], by rw [hsg.out]; dsimp only; rw [← hNW.out, ← hL.out]; omega⟩
      ·exact HG.out j (by omega)
     have FIN : Hid (RInv TSP TLP w U8 (.slice va N7 vc) (.slice da M2 dc) (pwsg segs (k + 1)) ∧ (pwsg segs (k + 1)).1.1.length ≤ k + 1 ∧ (pwsg segs (k + 1)).2.length ≤ (k + 1) * 2097152 ∧ (0 ≤ (pwsg segs (k + 1)).1.2 ∧ (pwsg segs (k + 1)).1.2 ≤ 1099511627776 + ((k + 1 : Nat) : Int) * 2097152) ∧ ∀ j, j < k + 1 → wgood segs j) := by
      rw [hnext.out]
      exact ⟨R8.out, hSl.out, hrl.out, hw8.out, hgood'.out⟩
     replace hnl := hide hnl
     clear t80 t81 t82 z80 z81 z82 y80 y81 y82
     go_wp2_with fail
     go_roundw
     case rel => exact ⟨_, _, _, _, _, _, _, .int .i64 ((k + 1 : Nat) : Int), ⟨k + 1, by omega, rfl, _, FIN⟩, rfl, rfl, rfl, rfl, rfl, rfl, rfl, rfl⟩
     case measure => simp [intOf]; omega
   ·have hPW : Hid (PWhole segs ((ss, nx), rs) k) := ⟨k, HG.out, .inr (.inl ⟨hlt, by rw [hsg.out, ← HST.out]; exact hz, HST.out, rfl⟩)⟩
    have hFN := hide (RY.out.ret2 (by decide) (by decide) (by decide))
    have ZA := hide RY.out.ans
    clear KW RY hru8
    rw [hY] at e8 e9 T0 T1 T2 z0 z1 z2 y0 y1 y2
    go_wp2
    rw [← hY]
    refine retNTT rfl rfl w.heap.size rfl _ _ (0, 0) (heap_set3 (u := Y) ZA.out _ _ _) _ Try.underlying78 rfl info_lgP _ rfl _ rfl ?_
    exact ⟨_, _, ss, nx, rs, k, rfl, hPW.out, ⟨(hFN.out _ _ _).1, (hFN.out _ _ _).2.1⟩, (hFN.out _ _ _).2.2⟩
  ·have hq : ¬ (k : Int) < (segs.length : Int) := by omega
   obtain rfl : k = segs.length := by omega
   have hPW : Hid (PWhole segs ((ss, nx), rs) segs.length) := ⟨segs.length, HG.out, .inl ⟨rfl, HST.out, rfl⟩⟩
   have hFN := hide (RI.ret2 (by decide) (by decide) (by decide))
   have ZA := hide RI.ans
   obtain ⟨⟨T0, T1, T2⟩, _⟩ := cells3 RI.box
   obtain ⟨⟨z0, z1, z2⟩, zf⟩ := cells3 RI.ans
   have y0 := zf 0
   have y1 := zf 1
   have y2 := zf 2
   dsimp only at T0 T1 T2
   clear hI RI zf
   go_wp2
   refine retNTT rfl rfl w.heap.size rfl _ _ (0, 0) (heap_set3 (u := wr) ZA.out _ _ _) _ Try.underlying78 rfl info_lgP _ rfl _ rfl ?_
   exact ⟨_, _, ss, nx, rs, segs.length, rfl, hPW.out, ⟨(hFN.out _ _ _).1, (hFN.out _ _ _).2.1⟩, (hFN.out _ _ _).2.2⟩
set_option maxRecDepth 100000 in
set_option maxHeartbeats 2000000 in
theorem pwrecover_any (w : World) (sv : Value) (segs : List Wrt) (h1 : RdC w sv segs) (hm : ∀ s ∈ segs, s.2.length ≤ 16777216) :
  Calls Try.prog 38 #[sv] w fun e w' => ∃ sv' wv' rv, e = .returned (.tuple #[.agg #[sv', .int .i64 (wrecover segs).1.2.1, wv'], rv, .int .i64 (wrecover segs).2.2]) ∧ (OwnW TSP w.heap.size w' sv' (wrecover segs).1.1 ∧ RdSec w' wv' (wrecover segs).1.2.2 ∧ OwnV w.heap.size 0 w' rv (wrecover segs).2.1) ∧ Below w.heap.size w w' := by
 have lb1 := h1.bd
 obtain ⟨a1, c1, rfl⟩ := h1.slice
 obtain ⟨V, hV, V0, bV, sV⟩ := boxedN w #[.slice none 0 0, .int .i64 0, .slice none 0 0] 78
 obtain ⟨⟨z0, z1, z2⟩, zf⟩ := cells3 V0
 have y0 := zf 0
 have y1 := zf 1
 have y2 := zf 2
 clear zf
 go_enter Try.func38, Try.ntmps38
 by_cases h0 : segs.length = 0
 ·have hE : Hid (wrecover segs = (wzero, [], 0)) := if_pos h0
  have : segs = [] := List.eq_nil_of_length_eq_zero h0
  subst this
  rw [hV] at z0 z1 z2 y0 y1 y2
  go_wp2
  rw [← hV]
  refine retNTT rfl rfl w.heap.size rfl _ _ (0, 0) V0 _ Try.underlying78 rfl info_lgP _ rfl _ rfl ?_
  rw [hE.out]
  exact ⟨_, _, _, rfl, ⟨OwnW.nil _ _ _, RdS.nil _ _, OwnV.nil _ _ _⟩, bV⟩
 ·have hi0 : ¬ (segs.length : Int) = 0 := by omega
  by_cases q1 : 4096 < segs.length
  ·have hq1 : (4096 : Int) < (segs.length : Int) := by omega
   have hE : Hid (wrecover segs = (wzero, [], 81)) := by show _ = _; unfold wrecover; rw [if_neg h0, if_pos (.inl q1)]
   rw [hV] at z0 z1 z2 y0 y1 y2
   go_wp2
   rw [← hV]
   refine retNTT rfl rfl w.heap.size rfl _ _ (0, 0) V0 _ Try.underlying78 rfl info_lgP _ rfl _ rfl ?_
   rw [hE.out]
   exact ⟨_, _, _, rfl, ⟨OwnW.nil _ _ _, RdS.nil _ _, OwnV.nil _ _ _⟩, bV⟩
  ·have hq1 : ¬ (4096 : Int) < (segs.length : Int) := by omega
   obtain ⟨f, hf, hfm⟩ := some_at segs (k := 0) (by omega)
   have hf0 := wseg_at hf
   obtain ⟨b0, o0, u0, e0, hc0, _, _⟩ := (h1.to0 bV).wrt hf
   subst e0
   have hc0' := hc0
   rw [Nat.zero_mul, Nat.add_zero] at hc0
   have KI := hide (pindex_any V f.1)
   rw [hV] at hc0 z0 z1 z2 y0 y1 y2
   have hpos : (0 : Int) < (segs.length : Int) := by omega
   have hb : Hid (∀ p1 : widx f.1, ¬ (4096 < segs.length ∨ ¬ widx (wseg segs 0).1)) := fun p1 h => h.elim q1 (fun h => h (by rw [hf0]; exact p1))
   have h81 : Hid (¬ widx f.1 → wrecover segs = (wzero, [], 81)) := fun h => by unfold wrecover; rw [if_neg h0, if_pos (.inr (by show ¬ widx (wseg segs 0).1; rw [hf0]; exact h))]
   have HH := hide (h1.to0 bV)
   have H0 := hide h0
   have HF0 := hide hf0
   have hsl : segs.length ≤ 4096 := by omega
   clear h1 hf hfm hf0 hc0'
   go_wp2_with fail
   rw [← hV]
   rw [← hV] at hc0 z0 z1 z2 y0 y1 y2
   replace hV := hide hV
   refine KI.out.mono ?_
   rintro e w' ⟨rfl, rfl⟩
   clear KI
   by_cases p1 : widx f.1
   ·rw [decide_eq_true p1]
    have KW := hide (pwholeOf_any V _ segs HH.out hm (by omega) hsl (by rw [HF0.out]; exact p1))
    have HB := hide (hb.out p1)
    replace p1 := hide p1
    clear hc0 z0 z1 z2 y0 y1 y2
    go_wp2_with fail
    refine KW.out.mono ?_
    rintro e w2 ⟨sv2, rv2, ss, nx, rs, n, rfl, hP, ⟨r1, r2⟩, b2⟩
    clear KW
    have hEq := wrecover_whole H0.out HB.out hP
    have hnl := pwhole_le hP
    dsimp only at hEq
    obtain ⟨va, vc, hv⟩ := r1.rd.slice
    obtain ⟨ra, rc, hr⟩ := r2.rd.slice
    obtain ⟨SL, hSL⟩ : ∃ SL, SL = ss.length := ⟨_, rfl⟩
    obtain ⟨RL, hRL⟩ : ∃ RL, RL = rs.length := ⟨_, rfl⟩
    rw [← hSL] at hv
    rw [← hRL] at hr
    replace hSL := hide hSL
    replace hRL := hide hRL
    subst hv hr
    obtain ⟨X, hX, X0, bX, sX⟩ := boxedN w2 #[.slice va SL vc, .int .i64 nx, .slice none 0 0] 78
    have c2 := b2.trans (bX.mono b2.size)
    have VX := hide ((c2.block _ (lt_of_block V0)).trans V0)
    obtain ⟨⟨T0, T1, T2⟩, _⟩ := cells3 X0
    obtain ⟨⟨z0, z1, z2⟩, zf⟩ := cells3 VX.out
    have y0 := zf 0
    have y1 := zf 1
    have y2 := zf 2
    have RR : Hid (∀ x y z, OwnW TSP w.heap.size (S3 w.heap.size X x y z) (.slice va SL vc) ss ∧ OwnV w.heap.size 0 (S3 w.heap.size X x y z) (.slice ra RL rc) rs) := fun x y z => by
     have k0 := s3_keep VX.out x y z
     exact ⟨((r1.keepT (KeepT.below bX) (KeepT.below bX)).keepT (k0 _ (by decide)) (k0 _ (by decide))).mono bV.size, ((r2.keepT (KeepT.below bX) (KeepT.below bX)).keepT (k0 _ (by decide)) (k0 _ (by decide))).mono bV.size (Nat.le_refl _)⟩
    have BB : Hid (∀ x y z, Below w.heap.size w (S3 w.heap.size X x y z)) := fun x y z => below_set3 (bV.trans (c2.mono bV.size)) (Nat.le_refl _) x y z
    rw [hX] at T0 T1 T2 z0 z1 z2 y0 y1 y2
    clear r1 r2 b2 c2 bX X0 zf hP
    by_cases n1 : (1099511627776 : Int) < nx
    ·rw [if_pos n1] at hEq
     have hE := hide hEq
     clear hEq
     go_wp2
     rw [← hX]
     refine retNTT rfl rfl w.heap.size rfl _ _ (0, 0) (heap_set3 (u := X) VX.out _ _ _) _ Try.underlying78 rfl info_lgP _ rfl _ rfl ?_
     rw [hE.out]
     exact ⟨_, _, _, rfl, ⟨OwnW.nil _ _ _, RdS.nil _ _, OwnV.nil _ _ _⟩, BB.out _ _ _⟩
    ·rw [if_neg n1] at hEq
     by_cases n2 : n < segs.length
     ·have n2' : (n : Int) < (segs.length : Int) := by omega
      rw [if_pos n2] at hEq
      have hE := hide hEq
      clear hEq
      go_wp2
      rw [← hX]
      refine retNTT rfl rfl w.heap.size rfl _ _ (0, 0) (heap_set3 (u := X) VX.out _ _ _) _ Try.underlying78 rfl info_lgP _ rfl _ rfl ?_
      rw [hE.out]
      exact ⟨_, _, _, rfl, ⟨(RR.out _ _ _).1, RdS.nil _ _, (RR.out _ _ _).2⟩, BB.out _ _ _⟩
     ·have n2' : ¬ (n : Int) < (segs.length : Int) := by omega
      rw [if_neg n2] at hEq
      have hE := hide hEq
      clear hEq
      go_wp2
      rw [← hX]
      refine retNTT rfl rfl w.heap.size rfl _ _ (0, 0) (heap_set3 (u := X) VX.out _ _ _) _ Try.underlying78 rfl info_lgP _ rfl _ rfl ?_
      rw [hE.out]
      exact ⟨_, _, _, rfl, ⟨(RR.out _ _ _).1, RdS.nil _ _, (RR.out _ _ _).2⟩, BB.out _ _ _⟩
   ·rw [decide_eq_false p1]
    have hE := hide (h81.out p1)
    replace p1 := hide p1
    clear hc0
    go_wp2
    refine retNTT rfl rfl w.heap.size rfl _ _ (0, 0) (heap_set3 (u := V) V0 _ _ _) _ Try.underlying78 rfl info_lgP _ rfl _ rfl ?_
    rw [hE.out]
    exact ⟨_, _, _, rfl, ⟨OwnW.nil _ _ _, RdS.nil _ _, OwnV.nil _ _ _⟩, below_set3 bV (Nat.le_refl _) _ _ _⟩
end Go.Proofs.Ytjjicajodjophaa

namespace Go.Proofs.Ytjjicajodjophaa
open Go.RowKit
noncomputable def dmPg (d : Dsk) (p : Ext) : List D3 := if (pgread d p.1 p.2).2 = 0 then [] else [(1, p.2, p.1)]
noncomputable def upgs (d : Dsk) (l : List Ext) : List D3 := l.flatMap (dmPg d)
noncomputable def upg (d : Dsk) (l : List Ext) : List D3 × Int := if dcheck d ≠ 0 then ([], dcheck d) else if 4096 < l.length then ([], 3) else (upgs d l, 0)
theorem dmPg_len (d : Dsk) (p : Ext) : (dmPg d p).length ≤ 1 := by unfold dmPg; split <;> simp
theorem upgs_len (d : Dsk) : ∀ l : List Ext, (upgs d l).length ≤ l.length
 | [] => by simp [upgs]
 | p :: r => by
  have := upgs_len d r
  have := dmPg_len d p
  unfold upgs at *
  rw [List.flatMap_cons, List.length_append, List.length_cons]
  omega
theorem upgs_next {d : Dsk} {l : List Ext} {k : Nat} {p : Ext} (h : l[k]? = some p) : upgs d (l.take (k + 1)) = upgs d (l.take k) ++ dmPg d p := by
 unfold upgs
 rw [List.take_add_one, h, List.flatMap_append]
 simp
noncomputable def dmSeg (k : Nat) (s : Wrt) : List D3 := if wn s.2 < s.2.length then [(2, (k : Int), (wn s.2 : Int))] else []
noncomputable def usgs (segs : List Wrt) : Nat → List D3
 | 0 => []
 | k + 1 => usgs segs k ++ (match segs[k]? with | some s => dmSeg k s | none => [])
theorem usgs_next {segs : List Wrt} {k : Nat} {s : Wrt} (h : segs[k]? = some s) : usgs segs (k + 1) = usgs segs k ++ dmSeg k s := by
 show _ ++ (match segs[k]? with | some s => dmSeg k s | none => []) = _
 rw [h]
theorem usgs_len (segs : List Wrt) : ∀ k, (usgs segs k).length ≤ k
 | 0 => by simp [usgs]
 | k + 1 => by
  have := usgs_len segs k
  show (usgs segs k ++ (match segs[k]? with | some s => dmSeg k s | none => [])).length ≤ _
  rw [List.length_append]
  have : (match segs[k]? with | some s => dmSeg k s | none => []).length ≤ 1 := by
   split
   ·unfold dmSeg; split <;> simp
   ·simp
  omega
theorem wrecover_one (b : List UInt8) (h : b.length ≤ 16777216) : (wrecover [((0 : Int), b)]).1.1 = [(0, b.take (wn b))] := by
 have hw := (wn_le b).2.1
 have hone : wrs [((0 : Int), b)] 1 = .inl (wgone 0 (([], 0), []) (0, b) (wrecs b) (wn b)) := by
  show (match wrs [((0 : Int), b)] 0 with | .inl st => wrone 1 0 st ([((0 : Int), b)].getD 0 (0, [])) | .inr a => .inr a) = _
  show wrone 1 0 (([], 0), []) (0, b) = _
  unfold wrone
  dsimp only
  rw [if_neg (by simp), if_neg (by omega), if_neg (by simp)]
 unfold wrecover
 rw [if_neg (by simp), if_neg (by unfold widx; simp)]
 show (match wrs [((0 : Int), b)] 1 with | .inl st => (((st.1.1, st.1.2, []), st.2, 0) : Wans) | .inr a => a).1.1 = _
 rw [hone]
 dsimp only
 unfold wgone
 simp
abbrev TDP : Nat := 42
theorem infoDP : (Try.prog.info? 42).map (fun i => (i.zero, i.size, i.bytes)) = some (some (.agg #[.int .i64 0, .int .i64 0, .int .i64 0]), 3, 24) := by kernel_rfl
set_option maxRecDepth 100000 in
set_option maxHeartbeats 4000000 in
theorem ppages_any (w : World) (sv cv lv : Value) (d : Dsk) (l : List Ext) (h1 : RdSec w sv d.1) (h2 : RdC w cv d.2) (h : RdE w lv l) :
  Calls Try.prog 10 #[.agg #[sv, cv], lv] w fun e w' => ∃ v', e = .returned (.tuple #[v', .int .i64 (upg d l).2]) ∧ OwnD TDP w.heap.size w' v' (upg d l).1 ∧ Below w.heap.size w w' := by
 have bl := h.bd
 obtain ⟨a1, c1, rfl⟩ := h1.slice
 obtain ⟨a2, c2, rfl⟩ := h2.slice
 obtain ⟨a, c, rfl⟩ := h.slice
 obtain ⟨W, hW, D0, D1, bW, sW⟩ := boxed2 w (.slice a1 d.1.length c1) (.slice a2 d.2.length c2) 31
 have KC := hide (dcheck_any W _ _ d (h1.to0 bW) (h2.to0 bW))
 have H1 := hide (h1.to0 bW)
 have H2 := hide (h2.to0 bW)
 have HL := hide (h.to0 bW)
 have HB := hide bW
 have HD := hide (And.intro D0 D1)
 clear h1 h2 h bW
 rw [hW] at D0 D1 KC
 generalize hd1 : d.1.length = n1 at *
 generalize hd2 : d.2.length = n2 at *
 replace hd1 := hide hd1
 replace hd2 := hide hd2
 go_enter Try.func10, Try.ntmps10
 go_wp2_with fail
 refine KC.out.mono ?_
 rw [← hW]
 rintro e w1 ⟨rfl, b1⟩
 clear KC D0 D1
 have B1 := hide b1
 have sz1 : w.heap.size ≤ w1.heap.size := by have := b1.size; omega
 by_cases hc : dcheck d = 0
 ·rw [hc]
  replace hc := hide hc
  by_cases hn : 4096 < l.length
  ·have hq : (4096 : Int) < (l.length : Int) := by omega
   have hE : Hid (upg d l = ([], 3)) := by show _ = _; unfold upg; rw [if_neg (fun k => k hc.out), if_pos hn]
   replace hn := hide hn
   clear b1
   go_wp2
   go_ret2
   rw [hE.out]
   exact ⟨_, rfl, OwnD.nil _ _ _, HB.out.trans (B1.out.mono HB.out.size)⟩
  ·have hq : ¬ (4096 : Int) < (l.length : Int) := by omega
   have hE : Hid (upg d l = (upgs d l, 0)) := by show _ = _; unfold upg; rw [if_neg (fun k => k hc.out), if_neg hn]
   have hn' : l.length ≤ 4096 := by omega
   clear hn b1
   go_wp2
   go_loopw [7, 22] (fun o i wr => ∃ k : Nat, k ≤ l.length ∧ i = .int .i64 k ∧ Hid (OwnD TDP w1.heap.size wr o (upgs d (l.take k)) ∧ Below w1.heap.size w1 wr)) (fun _ i _ => l.length - (intOf i).toNat)
   case atStart => exact ⟨0, Nat.zero_le _, rfl, hide ⟨OwnD.nil _ _ _, Below.refl _ _⟩⟩
   case round =>
    obtain ⟨k, hk, rfl, hH⟩ := hrel
    obtain ⟨ho, hb⟩ := hH.out
    have bw := B1.out.trans (hb.mono B1.out.size)
    by_cases hlt : k < l.length
    ·have hq : (k : Int) < (l.length : Int) := by omega
     obtain ⟨x, hx, hxm⟩ := some_at l hlt
     have hT := hide (upgs_next (d := d) hx)
     have hLL : (upgs d (l.take k)).length ≤ 4096 := by have := upgs_len d (l.take k); simp at this; omega
     obtain ⟨x1, x2⟩ := x
     obtain ⟨b, off, rfl, hc1, hc2⟩ := (HL.out.to0 bw).ext hx
     dsimp only at hc1 hc2
     obtain ⟨U, hU, E0, E1, bU, sU⟩ := boxed2 wr (.int .i64 x1) (.int .i64 x2) 64
     have cU := bw.trans (bU.mono bw.size)
     have D0 := (cU.cell (cell_lt HD.out.1)).trans HD.out.1
     have D1 := (cU.cell (cell_lt HD.out.2)).trans HD.out.2
     have KR := hide (ppgread_any U _ _ d x1 x2 (H1.out.to0 cU) (H2.out.to0 cU))
     have oU := hide (ho.to bU)
     have CU := hide (hb.trans (bU.mono hb.size))
     have szU : w1.heap.size ≤ U.heap.size := CU.out.size
     obtain ⟨PR, hPR⟩ : ∃ PR, PR = (pgread d x1 x2).2 := ⟨_, rfl⟩
     rw [← hPR] at KR
     have EE := hide (And.intro E0 E1)
     rw [hU] at D0 D1 E0 E1 KR
     clear ho hb hH bU hx hxm bw cU
     go_wp2_with fail
     refine KR.out.mono ?_
     rw [← hU]
     rintro e w2 ⟨pv, rfl, op, b2⟩
     have E0' := (b2.cell (cell_lt EE.out.1)).trans EE.out.1
     have E1' := (b2.cell (cell_lt EE.out.2)).trans EE.out.2
     have O2 := hide (oU.out.to b2)
     have C2 := hide (CU.out.trans (b2.mono CU.out.size))
     have s2 : w1.heap.size ≤ w2.heap.size := C2.out.size
     obtain ⟨pa, pc, hpv⟩ := op.rd.slice
     subst hpv
     clear KR D0 D1 E0 E1 op b2 oU CU hc1 hc2
     by_cases hp : PR = 0
     ·have hD : Hid (dmPg d (x1, x2) = []) := by show _ = _; unfold dmPg; rw [if_pos (by rw [← hPR]; exact hp)]
      replace hPR := hide hPR
      rw [hp]
      replace hp := hide hp
      have F := hide (And.intro (show OwnD TDP w1.heap.size w2 u7 (upgs d (l.take (k + 1))) by rw [hT.out, hD.out, List.append_nil]; exact O2.out) C2.out)
      go_wp2
      go_roundw
      case rel => exact ⟨k + 1, by omega, by go_num, F⟩
      case measure => simp [intOf]; omega
     ·have hD : Hid (dmPg d (x1, x2) = [(1, x2, x1)]) := by show _ = _; unfold dmPg; rw [if_neg (by rw [← hPR]; exact hp)]
      have hp' : (PR != 0) = true := by simp [hp]
      replace hPR := hide hPR
      replace hp := hide hp
      obtain ⟨v6, w6, hr6, o6, b6, s6⟩ := run_append_d3 (TL := 33) Try.underlying33 infoDP w2 O2.out 1 x2 x1 (by omega) s2
      have F := hide (And.intro (show OwnD TDP w1.heap.size w6 v6 (upgs d (l.take (k + 1))) by rw [hT.out, hD.out]; exact o6) (C2.out.trans b6))
      clear o6 b6
      go_wp2_with (at_builtin; refine Lib.wpList_append_run _ rfl _ _ _ _ rfl _ _ rfl rfl _ _ hr6 ?_)
      go_roundw
      case rel => exact ⟨k + 1, by omega, by go_num, F⟩
      case measure => simp [intOf]; omega
    ·have hq : ¬ (k : Int) < (l.length : Int) := by omega
     obtain rfl : k = l.length := by omega
     rw [List.take_length] at ho
     have F := hide (And.intro (ho.mono sz1) (HB.out.trans (bw.mono HB.out.size)))
     clear ho hb hH bw
     go_wp2
     go_ret2
     rw [hE.out]
     exact ⟨_, rfl, F.out⟩
 ·have hE : Hid (upg d l = ([], dcheck d)) := by show _ = _; unfold upg; rw [if_pos hc]
  have hc' : (dcheck d != 0) = true := by simp [hc]
  clear b1
  go_wp2
  go_ret2
  rw [hE.out]
  exact ⟨_, rfl, OwnD.nil _ _ _, HB.out.trans (B1.out.mono HB.out.size)⟩
set_option maxRecDepth 100000 in
set_option maxHeartbeats 4000000 in
theorem pwholeO_any (w : World) (v : Value) (b : List UInt8) (h : Rd w v b) (hm : b.length ≤ 16777216) :
  Calls Try.prog 49 #[v] w fun e w' => e = .returned (.int .i64 (wn b : Nat)) ∧ Below w.heap.size w w' := by
 obtain ⟨a, c, rfl⟩ := h.slice
 obtain ⟨U, hU, E0, E1, bU, sU⟩ := boxed2 w (.int .i64 0) (.slice a b.length c) 83
 have hrd : RdC U (.slice (some ⟨w.heap.size, 0, none⟩) 1 1) [((0 : Int), b)] := by
  refine ⟨some ⟨w.heap.size, 0, none⟩, 1, rfl, Nat.le_refl _, by unfold maxLen; omega, by simp, .inr ⟨w.heap.size, 0, rfl, ?_⟩⟩
  intro i x hx
  match i, hx with
  | 0, hx =>
   simp only [List.getElem?_cons_zero, Option.some.injEq] at hx
   subst hx
   refine ⟨[.int .i64 0, .slice a b.length c], ⟨[.int .i64 0], [.slice a b.length c], rfl, rfl, ⟨_, rfl, h.to bU⟩⟩, ?_⟩
   intro j u hj
   match j, hj with
   | 0, hj => simp at hj; subst hj; simpa using E0
   | 1, hj => simp at hj; subst hj; simpa using E1
   | j + 2, hj => simp at hj
  | i + 1, hx => simp at hx
 have KR := hide (pwrecover_any U _ [((0 : Int), b)] hrd (by simpa using hm))
 have hone := wrecover_one b hm
 have hwn := (wn_le b).1
 obtain ⟨WR, hWR⟩ : ∃ WR, WR = wrecover [((0 : Int), b)] := ⟨_, rfl⟩
 rw [← hWR] at KR hone
 obtain ⟨⟨ss, nx, ws⟩, rs, er⟩ := WR
 dsimp only at KR hone
 subst hone
 replace hWR := hide hWR
 have HB := hide bU
 rw [hU] at KR
 clear hrd E0 E1 bU h
 go_enter Try.func49, Try.ntmps49
 go_wp2_with fail
 refine KR.out.mono ?_
 rw [← hU]
 rintro e w1 ⟨sv, wv, rv, rfl, ⟨o1, o2, o3⟩, b1⟩
 have R1 := o1.rd
 obtain ⟨sa, sc, hs⟩ := R1.slice
 obtain ⟨wa, wc0, hw⟩ := o2.slice
 obtain ⟨ra, rc, hrv⟩ := o3.rd.slice
 simp only [List.length_cons, List.length_nil] at hs
 subst hs hw hrv
 obtain ⟨xb, xo, u, rfl, hc1, hc2, hr⟩ := R1.wrt (i := 0) rfl
 obtain ⟨ua, uc, hu⟩ := hr.slice
 have hlen : (b.take (wn b)).length = wn b := by simp; omega
 dsimp only at hu hc1 hc2
 rw [hlen] at hu
 subst hu
 rw [Nat.zero_mul, Nat.add_zero] at hc2
 obtain ⟨X, hX, X0, bX, sX⟩ := boxedN w1 #[.slice (some ⟨xb, xo, none⟩) 1 sc, .int .i64 nx, .slice wa ws.length wc0] 78
 have x0 : X.cell? ⟨w1.heap.size, 0, none⟩ = some (.slice (some ⟨xb, xo, none⟩) 1 sc) := cell_of_row _ _ 0 _ _ _ X0
 have hc2' := (bX.cell (cell_lt hc2)).trans hc2
 have F := hide (HB.out.trans ((b1.trans (bX.mono b1.size)).mono HB.out.size))
 rw [hX] at x0 hc2'
 generalize ws.length = wl at *
 generalize rs.length = rl at *
 obtain ⟨N, hN⟩ : ∃ N, N = wn b := ⟨_, rfl⟩
 rw [← hN] at hc2'
 replace hN := hide hN
 clear R1 o1 o2 o3 b1 KR hc1 hc2 hr X0 bX sX HB
 go_wp2
 go_ret
 rw [← hX, ← hN.out]
 exact ⟨rfl, F.out⟩
set_option maxRecDepth 100000 in
set_option maxHeartbeats 4000000 in
theorem usegs_any (w : World) (v : Value) (segs : List Wrt) (h : RdC w v segs) (hm : ∀ s ∈ segs, s.2.length ≤ 16777216) (hl : segs.length ≤ 4000000) :
  Calls Try.prog 15 #[v] w fun e w' => ∃ v', e = .returned v' ∧ OwnD TDP w.heap.size w' v' (usgs segs segs.length) ∧ Below w.heap.size w w' := by
 obtain ⟨a, c, rfl⟩ := h.slice
 have HH := hide h
 have HM := hide hm
 clear h hm
 go_enter Try.func15, Try.ntmps15
 go_wp2
 go_loopw [3, 9] (fun o i wr => ∃ k : Nat, k ≤ segs.length ∧ i = .int .i64 k ∧ Hid (OwnD TDP w.heap.size wr o (usgs segs k) ∧ Below w.heap.size w wr)) (fun _ i _ => segs.length - (intOf i).toNat)
 case atStart => exact ⟨0, Nat.zero_le _, rfl, hide ⟨OwnD.nil _ _ _, Below.refl _ _⟩⟩
 case round =>
  obtain ⟨k, hk, rfl, hH⟩ := hrel
  obtain ⟨ho, hb⟩ := hH.out
  by_cases hlt : k < segs.length
  ·have hq : (k : Int) < (segs.length : Int) := by omega
   obtain ⟨s, hs, hsm⟩ := some_at segs hlt
   have hT := hide (usgs_next hs)
   have hLL : (usgs segs k).length ≤ 4000000 := by have := usgs_len segs k; omega
   have hsl := HM.out s hsm
   obtain ⟨b, off, u, rfl, hc1, hc2, hr⟩ := (HH.out.to0 hb).wrt hs
   obtain ⟨ua, uc, hu⟩ := hr.slice
   obtain ⟨z, x⟩ := s
   dsimp only at hc1 hc2 hu hr hsl hT
   obtain ⟨L, hL⟩ : ∃ L, L = x.length := ⟨_, rfl⟩
   rw [← hL] at hu hsl
   subst hu
   obtain ⟨U, hU, E0, E1, bU, sU⟩ := boxed2 wr (.int .i64 z) (.slice ua L uc) 83
   have KW := hide (pwholeO_any U _ x (hr.to bU) (by rw [← hL]; exact hsl))
   have hNL := (wn_le x).1
   rw [← hL] at hNL
   obtain ⟨N, hN⟩ : ∃ N, N = wn x := ⟨_, rfl⟩
   rw [← hN] at KW hNL
   have oU := hide (ho.to bU)
   have CU := hide (hb.trans (bU.mono hb.size))
   have EE := hide E1
   rw [hU] at E0 E1 KW
   clear ho hb hH bU hs hsm hr
   replace hL := hide hL
   replace hN := hide hN
   go_wp2_with fail
   refine KW.out.mono ?_
   rw [← hU]
   rintro e w2 ⟨rfl, b2⟩
   have E1' := (b2.cell (cell_lt EE.out)).trans EE.out
   have O2 := hide (oU.out.to b2)
   have C2 := hide (CU.out.trans (b2.mono CU.out.size))
   have s2 : w.heap.size ≤ w2.heap.size := C2.out.size
   clear KW E0 E1 b2 oU CU hc1 hc2
   by_cases hc : N < L
   ·have hq2 : (N : Int) < (L : Int) := by omega
    have hD : Hid (dmSeg k (z, x) = [(2, (k : Int), (N : Int))]) := by show _ = _; unfold dmSeg; dsimp only; rw [← hN.out, ← hL.out, if_pos hc]
    obtain ⟨v6, w6, hr6, o6, b6, s6⟩ := run_append_d3 (TL := 33) Try.underlying33 infoDP w2 O2.out 2 (k : Int) (N : Int) (by omega) s2
    have F := hide (And.intro (show OwnD TDP w.heap.size w6 v6 (usgs segs (k + 1)) by rw [hT.out, hD.out]; exact o6) (C2.out.trans b6))
    clear o6 b6
    go_wp2_with (at_builtin; refine Lib.wpList_append_run _ rfl _ _ _ _ rfl _ _ rfl rfl _ _ hr6 ?_)
    go_roundw
    case rel => exact ⟨k + 1, by omega, by go_num, F⟩
    case measure => simp [intOf]; omega
   ·have hq2 : ¬ (N : Int) < (L : Int) := by omega
    have hD : Hid (dmSeg k (z, x) = []) := by show _ = _; unfold dmSeg; dsimp only; rw [← hN.out, ← hL.out, if_neg hc]
    have F := hide (And.intro (show OwnD TDP w.heap.size w2 u3 (usgs segs (k + 1)) by rw [hT.out, hD.out, List.append_nil]; exact O2.out) C2.out)
    go_wp2
    go_roundw
    case rel => exact ⟨k + 1, by omega, by go_num, F⟩
    case measure => simp [intOf]; omega
  ·have hq : ¬ (k : Int) < (segs.length : Int) := by omega
   obtain rfl : k = segs.length := by omega
   have F := hide (And.intro ho hb)
   clear ho hb hH
   go_wp2
   go_ret
   exact ⟨_, rfl, F.out⟩
end Go.Proofs.Ytjjicajodjophaa

namespace Go.Proofs.Ytjjicajodjophaa
open Go.RowKit
abbrev TDR : Nat := 43
theorem infoDR : (Try.prog.info? 43).map (fun i => (i.zero, i.size, i.bytes)) = some (some (.agg #[.int .i64 0, .int .i64 0, .int .i64 0]), 3, 24) := by kernel_rfl
set_option maxRecDepth 100000 in
set_option maxHeartbeats 4000000 in
theorem rpages12_any (w : World) (sv cv lv : Value) (d : Dsk) (l : List Ext) (h1 : RdSec w sv d.1) (h2 : RdC w cv d.2) (h : RdE w lv l) :
  Calls Try.prog 12 #[.agg #[sv, cv], lv] w fun e w' => ∃ v', e = .returned (.tuple #[v', .int .i64 (upg d l).2]) ∧ OwnD TDR w.heap.size w' v' (upg d l).1 ∧ Below w.heap.size w w' := by
 have bl := h.bd
 obtain ⟨a1, c1, rfl⟩ := h1.slice
 obtain ⟨a2, c2, rfl⟩ := h2.slice
 obtain ⟨a, c, rfl⟩ := h.slice
 obtain ⟨W, hW, D0, D1, bW, sW⟩ := boxed2 w (.slice a1 d.1.length c1) (.slice a2 d.2.length c2) 25
 have KC := hide (rcheck_any W _ _ d (h1.to0 bW) (h2.to0 bW))
 have H1 := hide (h1.to0 bW)
 have H2 := hide (h2.to0 bW)
 have HL := hide (h.to0 bW)
 have HB := hide bW
 have HD := hide (And.intro D0 D1)
 clear h1 h2 h bW
 rw [hW] at D0 D1 KC
 generalize hd1 : d.1.length = n1 at *
 generalize hd2 : d.2.length = n2 at *
 replace hd1 := hide hd1
 replace hd2 := hide hd2
 go_enter Try.func12, Try.ntmps12
 go_wp2_with fail
 refine KC.out.mono ?_
 rw [← hW]
 rintro e w1 ⟨rfl, b1⟩
 clear KC D0 D1
 have B1 := hide b1
 have sz1 : w.heap.size ≤ w1.heap.size := by have := b1.size; omega
 by_cases hc : dcheck d = 0
 ·rw [hc]
  replace hc := hide hc
  by_cases hn : 4096 < l.length
  ·have hq : (4096 : Int) < (l.length : Int) := by omega
   have hE : Hid (upg d l = ([], 3)) := by show _ = _; unfold upg; rw [if_neg (fun k => k hc.out), if_pos hn]
   replace hn := hide hn
   clear b1
   go_wp2
   go_ret2
   rw [hE.out]
   exact ⟨_, rfl, OwnD.nil _ _ _, HB.out.trans (B1.out.mono HB.out.size)⟩
  ·have hq : ¬ (4096 : Int) < (l.length : Int) := by omega
   have hE : Hid (upg d l = (upgs d l, 0)) := by show _ = _; unfold upg; rw [if_neg (fun k => k hc.out), if_neg hn]
   have hn' : l.length ≤ 4096 := by omega
   clear hn b1
   go_wp2
   go_loopw [7, 8] (fun o i wr => ∃ k : Nat, k ≤ l.length ∧ i = .int .i64 k ∧ Hid (OwnD TDR w1.heap.size wr o (upgs d (l.take k)) ∧ Below w1.heap.size w1 wr)) (fun _ i _ => l.length - (intOf i).toNat)
   case atStart => exact ⟨0, Nat.zero_le _, rfl, hide ⟨OwnD.nil _ _ _, Below.refl _ _⟩⟩
   case round =>
    obtain ⟨k, hk, rfl, hH⟩ := hrel
    obtain ⟨ho, hb⟩ := hH.out
    have bw := B1.out.trans (hb.mono B1.out.size)
    by_cases hlt : k < l.length
    ·have hq : (k : Int) < (l.length : Int) := by omega
     obtain ⟨x, hx, hxm⟩ := some_at l hlt
     have hT := hide (upgs_next (d := d) hx)
     have hLL : (upgs d (l.take k)).length ≤ 4096 := by have := upgs_len d (l.take k); simp at this; omega
     obtain ⟨x1, x2⟩ := x
     obtain ⟨b, off, rfl, q1, q2⟩ := HL.out.ext hx
     dsimp only at q1 q2
     have HS : Hid (∀ w9, Below W.heap.size W w9 → (w9.cell? ⟨w.heap.size, 0, none⟩ = some (.slice a1 n1 c1) ∧ w9.cell? ⟨w.heap.size, 1, none⟩ = some (.slice a2 n2 c2)) ∧ w9.cell? ⟨b, off + k * 2, none⟩ = some (.int .i64 x1) ∧ w9.cell? ⟨b, off + k * 2 + 1, none⟩ = some (.int .i64 x2)) := fun w9 b9 =>
      ⟨⟨(b9.cell (cell_lt HD.out.1)).trans HD.out.1, (b9.cell (cell_lt HD.out.2)).trans HD.out.2⟩, (b9.cell (cell_lt q1)).trans q1, (b9.cell (cell_lt q2)).trans q2⟩
     have bd : Below wr.heap.size wr wr.drew := below_drewN' wr 1 _
     have z1 : Below W.heap.size W wr.drew := bw.trans (bd.mono bw.size)
     have Z1 := hide z1
     have KR := hide (rpgread_any wr.drew _ _ d x1 x2 (H1.out.to0 z1) (H2.out.to0 z1))
     have oU := hide (ho.to bd)
     have CU := hide (hb.trans (bd.mono hb.size))
     obtain ⟨PR, hPR⟩ : ∃ PR, PR = (pgread d x1 x2).2 := ⟨_, rfl⟩
     rw [← hPR] at KR
     replace hPR := hide hPR
     clear ho hb hH hx hxm bw bd z1 q1 q2
     go_upto_region 10 with fail
     refine wp_region_sched (fun w9 => (w9.cell? ⟨w.heap.size, 0, none⟩ = some (.slice a1 n1 c1) ∧ w9.cell? ⟨w.heap.size, 1, none⟩ = some (.slice a2 n2 c2)) ∧ w9.cell? ⟨b, off + k * 2, none⟩ = some (.int .i64 x1) ∧ w9.cell? ⟨b, off + k * 2 + 1, none⟩ = some (.int .i64 x2)) [(0,true),(1,true),(2,true),(3,true),(4,true),(5,true),(6,true),(7,true),(8,true),(9,true),(10,true),(11,false),(12,true),(13,true),(14,true),(15,false)] 16 mixed (by kernel_rfl) (fun _ _ _ _ h => h) ?_
     iterate 11
      refine sched_take (v := ?_) rfl (by kernel_rfl) (HS.out _ Z1.out) ?_ ?_
      rotate_left
      ·rintro w9 ⟨⟨r0, r1⟩, r2, r3⟩
       go_simp
       try with_reducible rfl
      try simp only [List.getElem_toArray, List.getElem_cons_succ, List.getElem_cons_zero, List.getElem?_toArray, List.getElem?_cons_succ, List.getElem?_cons_zero, Act.put, List.setIfInBounds_toArray, List.set_cons_zero, List.set_cons_succ]
     refine sched_run rfl (by kernel_rfl) fun K hK => ?_
     refine wp_call_of 34 _ _ (by rfl) #[.agg #[.slice a1 n1 c1, .slice a2 n2 c2], .int .i64 x1, .int .i64 x2] (by simp [Act.eval]) (Try.call34 _ _) KR.out ?_
     rintro e w2 ⟨pv, rfl, op, b2⟩
     have O2 := hide (oU.out.to b2)
     have C2 := hide (CU.out.trans (b2.mono CU.out.size))
     have Z2 := hide (Z1.out.trans (b2.mono Z1.out.size))
     have s2 : w1.heap.size ≤ w2.heap.size := C2.out.size
     have hpv := op.rd.slice
     refine ⟨_, rfl, hK _ _ (HS.out _ Z2.out) ?_⟩
     clear hK K op b2 KR
     obtain ⟨pa, pc, hpv⟩ := hpv
     subst hpv
     try simp only [List.getElem_toArray, List.getElem_cons_succ, List.getElem_cons_zero, List.getElem?_toArray, List.getElem?_cons_succ, List.getElem?_cons_zero, Act.put, List.setIfInBounds_toArray, List.set_cons_zero, List.set_cons_succ]
     iterate 3
      refine sched_take (v := ?_) rfl (by kernel_rfl) (HS.out _ Z2.out) ?_ ?_
      rotate_left
      ·rintro w9 ⟨⟨r0, r1⟩, r2, r3⟩
       go_simp
       try with_reducible rfl
      try simp only [List.getElem_toArray, List.getElem_cons_succ, List.getElem_cons_zero, List.getElem?_toArray, List.getElem?_cons_succ, List.getElem?_cons_zero, Act.put, List.setIfInBounds_toArray, List.set_cons_zero, List.set_cons_succ]
     refine sched_run rfl (by kernel_rfl) fun K hK => ?_
     go_simp
     refine hK _ _ (HS.out _ Z2.out) ?_
     clear hK K
     try simp only [Act.put, List.setIfInBounds_toArray, List.set_cons_zero, List.set_cons_succ]
     show wpList _ _ _ _ _ _
     dsimp only [List.drop]
     generalize (pgread d x1 x2).1.length = pl at *
     by_cases hp : PR = 0
     ·have hD : Hid (dmPg d (x1, x2) = []) := by show _ = _; unfold dmPg; rw [if_pos (by rw [← hPR.out]; exact hp)]
      rw [hp]
      replace hp := hide hp
      have F := hide (And.intro (show OwnD TDR w1.heap.size w2 u7 (upgs d (l.take (k + 1))) by rw [hT.out, hD.out, List.append_nil]; exact O2.out) C2.out)
      go_wp2
      go_roundw
      case rel => exact ⟨k + 1, by omega, by go_num, F⟩
      case measure => simp [intOf]; omega
     ·have hD : Hid (dmPg d (x1, x2) = [(1, x2, x1)]) := by show _ = _; unfold dmPg; rw [if_neg (by rw [← hPR.out]; exact hp)]
      have hp' : (PR != 0) = true := by simp [hp]
      replace hp := hide hp
      have bd : Below w2.heap.size w2 w2.drew := below_drewN' w2 1 _
      have O3 := hide (O2.out.to bd)
      obtain ⟨v6, w6, hr6, o6, b6, s6⟩ := run_append_d3 (TL := 28) Try.underlying28 infoDR w2.drew O3.out 1 x2 x1 (by omega) s2
      have F := hide (And.intro (show OwnD TDR w1.heap.size w6 v6 (upgs d (l.take (k + 1))) by rw [hT.out, hD.out]; exact o6) ((C2.out.trans (bd.mono C2.out.size)).trans b6))
      have Z3 := hide (Z2.out.trans (bd.mono Z2.out.size))
      have HS3 := HS.out _ Z3.out
      obtain ⟨oa, oc, hou⟩ := O2.out.rd.slice
      have hou' := hide hou
      clear o6 b6 hou
      go_upto_region 12 with fail
      refine wp_region_mid (fun w9 => (w9.cell? ⟨w.heap.size, 0, none⟩ = some (.slice a1 n1 c1) ∧ w9.cell? ⟨w.heap.size, 1, none⟩ = some (.slice a2 n2 c2)) ∧ w9.cell? ⟨b, off + k * 2, none⟩ = some (.int .i64 x1) ∧ w9.cell? ⟨b, off + k * 2 + 1, none⟩ = some (.int .i64 x2)) 11 13 mixed (by kernel_rfl) (fun _ _ _ _ h => h) HS3 ?_
      dsimp only [List.take, List.drop]
      iterate 11
       refine take_one (v := ?_) (by rfl) ?_ ?_
       rotate_left
       ·rintro w' ⟨⟨r0, r1⟩, r2, r3⟩
        go_simp
        try with_reducible rfl
       try simp only [Act.put, List.setIfInBounds_toArray, List.set_cons_zero, List.set_cons_succ]
      refine mid_one fun K hK => ?_
      rw [if_pos (by rfl)]
      go_simp
      refine hK _ _ HS3 ?_
      clear hK K
      refine mid_one fun K hK => ?_
      rw [if_pos (by rfl)]
      go_simp
      refine hK _ _ ⟨⟨cell_alloc HS3.1.1 _, cell_alloc HS3.1.2 _⟩, cell_alloc HS3.2.1 _, cell_alloc HS3.2.2 _⟩ ?_
      clear hK K
      show wpList _ _ _ _ _ _
      clear HS3
      go_wp2_with (at_builtin; refine Lib.wpList_append_run _ rfl _ _ _ _ rfl _ _ rfl rfl _ _ hr6 ?_)
      go_roundw
      case rel => exact ⟨k + 1, by omega, by go_num, F⟩
      case measure => simp [intOf]; omega
    ·have hq : ¬ (k : Int) < (l.length : Int) := by omega
     obtain rfl : k = l.length := by omega
     rw [List.take_length] at ho
     have F := hide (And.intro (ho.mono sz1) (HB.out.trans (bw.mono HB.out.size)))
     clear ho hb hH bw
     go_wp2
     go_ret2
     rw [hE.out]
     exact ⟨_, rfl, F.out⟩
 ·have hE : Hid (upg d l = ([], dcheck d)) := by show _ = _; unfold upg; rw [if_pos hc]
  have hc' : (dcheck d != 0) = true := by simp [hc]
  clear b1
  go_wp2
  go_ret2
  rw [hE.out]
  exact ⟨_, rfl, OwnD.nil _ _ _, HB.out.trans (B1.out.mono HB.out.size)⟩
set_option maxRecDepth 100000 in
set_option maxHeartbeats 4000000 in
theorem rsegs12_any (w : World) (v : Value) (segs : List Wrt) (h : RdC w v segs) (hm : ∀ s ∈ segs, s.2.length ≤ 16777216) (hl : segs.length ≤ 4000000) :
  Calls Try.prog 17 #[v] w fun e w' => ∃ v', e = .returned v' ∧ OwnD TDR w.heap.size w' v' (usgs segs segs.length) ∧ Below w.heap.size w w' := by
 obtain ⟨a, c, rfl⟩ := h.slice
 have HH := hide h
 have HM := hide hm
 clear h hm
 go_enter Try.func17, Try.ntmps17
 go_wp2
 go_loopw [3, 4] (fun o i wr => ∃ k : Nat, k ≤ segs.length ∧ i = .int .i64 k ∧ Hid (OwnD TDR w.heap.size wr o (usgs segs k) ∧ Below w.heap.size w wr)) (fun _ i _ => segs.length - (intOf i).toNat)
 case atStart => exact ⟨0, Nat.zero_le _, rfl, hide ⟨OwnD.nil _ _ _, Below.refl _ _⟩⟩
 case round =>
  obtain ⟨k, hk, rfl, hH⟩ := hrel
  obtain ⟨ho, hb⟩ := hH.out
  by_cases hlt : k < segs.length
  ·have hq : (k : Int) < (segs.length : Int) := by omega
   obtain ⟨s, hs, hsm⟩ := some_at segs hlt
   have hT := hide (usgs_next hs)
   have hLL : (usgs segs k).length ≤ 4000000 := by have := usgs_len segs k; omega
   have hsl := HM.out s hsm
   obtain ⟨b, off, u, rfl, hc1, hc2, hr⟩ := (HH.out.to0 hb).wrt hs
   obtain ⟨ua, uc, hu⟩ := hr.slice
   obtain ⟨z, x⟩ := s
   dsimp only at hc1 hc2 hu hr hsl hT
   obtain ⟨L, hL⟩ : ∃ L, L = x.length := ⟨_, rfl⟩
   rw [← hL] at hu hsl
   subst hu
   have KW := hide (rwhole_any wr _ x hr (by rw [← hL]; exact hsl))
   have hNL := (wn_le x).1
   rw [← hL] at hNL
   obtain ⟨N, hN⟩ : ∃ N, N = wn x := ⟨_, rfl⟩
   rw [← hN] at KW hNL
   have HO := hide ho
   have HB := hide hb
   have HC := hide hc2
   replace hL := hide hL
   replace hN := hide hN
   clear ho hb hH hs hsm hr
   go_wp2_with fail
   refine KW.out.mono ?_
   rintro e w2 ⟨v2, rfl, o2, b2⟩
   have hv2 := o2.rd.slice
   obtain ⟨va, vc, hv2⟩ := hv2
   generalize (wrecs x).length = rl at *
   subst hv2
   have hc2' := (b2.cell (cell_lt HC.out)).trans HC.out
   have O2 := hide (HO.out.to b2)
   have C2 := hide (HB.out.trans (b2.mono HB.out.size))
   have s2 : w.heap.size ≤ w2.heap.size := C2.out.size
   clear KW b2 hc1 hc2 o2
   by_cases hc : N < L
   ·have hq2 : (N : Int) < (L : Int) := by omega
    have hD : Hid (dmSeg k (z, x) = [(2, (k : Int), (N : Int))]) := by show _ = _; unfold dmSeg; dsimp only; rw [← hN.out, ← hL.out, if_pos hc]
    obtain ⟨v6, w6, hr6, o6, b6, s6⟩ := run_append_d3 (TL := 28) Try.underlying28 infoDR w2 O2.out 2 (k : Int) (N : Int) (by omega) s2
    have F := hide (And.intro (show OwnD TDR w.heap.size w6 v6 (usgs segs (k + 1)) by rw [hT.out, hD.out]; exact o6) (C2.out.trans b6))
    clear o6 b6
    go_wp2_with (at_builtin; refine Lib.wpList_append_run _ rfl _ _ _ _ rfl _ _ rfl rfl _ _ hr6 ?_)
    go_roundw
    case rel => exact ⟨k + 1, by omega, by go_num, F⟩
    case measure => simp [intOf]; omega
   ·have hq2 : ¬ (N : Int) < (L : Int) := by omega
    have hD : Hid (dmSeg k (z, x) = []) := by show _ = _; unfold dmSeg; dsimp only; rw [← hN.out, ← hL.out, if_neg hc]
    have F := hide (And.intro (show OwnD TDR w.heap.size w2 u3 (usgs segs (k + 1)) by rw [hT.out, hD.out, List.append_nil]; exact O2.out) C2.out)
    go_wp2
    go_roundw
    case rel => exact ⟨k + 1, by omega, by go_num, F⟩
    case measure => simp [intOf]; omega
  ·have hq : ¬ (k : Int) < (segs.length : Int) := by omega
   obtain rfl : k = segs.length := by omega
   have F := hide (And.intro ho hb)
   clear ho hb hH
   go_wp2
   go_ret
   exact ⟨_, rfl, F.out⟩
end Go.Proofs.Ytjjicajodjophaa

namespace Go.Proofs.Ytjjicajodjophaa
open Go.RowKit
theorem m1 {A L : Int} (h1 : A < L) (h2 : L ≤ 1048576) (h0 : -1 ≤ A) : (1048577 - L).toNat < (1048577 - A).toNat := by omega
theorem m2 {n k : Nat} (h : k < n) : n - (intOf (.int .i64 ((k : Int) + 1))).toNat < n - (intOf (.int .i64 (k : Int))).toNat := by simp only [intOf]; omega
theorem m4 {y1 y2 : Int} (i1 : 0 ≤ y1) (i2 : y1 ≤ 1048576) (i3 : y1 + y2 ≤ 1048576 + 4) (i4 : 4 - 1048576 ≤ y2) : wrap64 (y1 + y2) = y1 + y2 ∧ IntKind.i64.wrap (y1 + y2) = y1 + y2 := ⟨IntWalk.wrap64_in _ (by omega), by rw [IntKind.wrap_i64]; omega⟩
theorem m5 {m : Nat} (h : m + 1 ≤ 4000000) : wrap64 (m : Int) = (m : Int) ∧ IntKind.i64.wrap (m : Int) = (m : Int) ∧ (0 : Int) ≤ (m : Int) ∧ (m : Int) < (m : Int) + 1 := ⟨IntWalk.wrap64_in _ (by omega), by rw [IntKind.wrap_i64]; omega, by omega, by omega⟩
theorem m3 (k : Nat) : Value.int .i64 ((k : Int) + 1) = .int .i64 ((k + 1 : Nat) : Int) := by simp
theorem low_same {A : Int} {ks : List Int} {o : Option Int} (h : ∀ a, o = some a → ¬ A < a) : lowA A (ks ++ o.toList) = lowA A ks := by
 rw [lowA_step]
 cases o with
 | none => rfl
 | some a => exact if_neg (h a rfl)
theorem dmAt_yes {x y z : Int} (h : x = 1) (h0 : 0 ≤ z) (h1 : z ≤ 1048576) : dmAt (x, y, z) = some z := by unfold dmAt; rw [if_pos ⟨h, h0, h1⟩]
theorem dmAt_in {x y z a : Int} (h : dmAt (x, y, z) = some a) : x = 1 ∧ 0 ≤ z ∧ z ≤ 1048576 ∧ a = z := by
 unfold dmAt at h
 split at h
 ·rename_i hc; simp only [Option.some.injEq] at h; exact ⟨hc.1, hc.2.1, hc.2.2, h.symm⟩
 ·cases h
set_option maxRecDepth 100000 in
set_option maxHeartbeats 4000000 in
theorem rranges_any (w : World) (v : Value) (l : List D3) (h : RdD w v l) (hl : l.length ≤ 4000000) :
  Calls Try.prog 20 #[v] w fun e w' => ∃ v', e = .returned v' ∧ OwnE w.heap.size w' v' (rngs l) ∧ Below w.heap.size w w' := by
 obtain ⟨a, c, rfl⟩ := h.slice
 have HH := hide h
 have hup : Hid (∀ a ∈ dmAts l, a ≤ 1048576) := fun a ha => (dmAts_bd ha).2
 have hlo : Hid (∀ a ∈ dmAts l, 0 ≤ a) := fun a ha => (dmAts_bd ha).1
 obtain ⟨n, hn⟩ : ∃ n, n = l.length := ⟨_, rfl⟩
 rw [← hn] at hl ⊢
 have HN := hide hn
 clear h hn
 go_enter Try.func20, Try.ntmps20
 go_wp2
 go_loopw [3, 4] (fun o i wr => ∃ A : Int, -1 ≤ A ∧ A ≤ 1048576 ∧ i = .int .i64 A ∧ Hid (OwnE w.heap.size wr o (rupto (dmAts l) A) ∧ Below w.heap.size w wr)) (fun _ i _ => (1048577 - intOf i).toNat)
 case atStart => exact ⟨-1, Int.le_refl _, by decide, rfl, hide ⟨by rw [rupto_none hlo.out]; exact World.ownsRow_nil _ _ _ _, Below.refl _ _⟩⟩
 case round =>
  obtain ⟨A, hA0, hA1, rfl, hH⟩ := hrel
  go_wp2
  go_loopw [5, 6] (fun lo i wx => ∃ k : Nat, k ≤ n ∧ i = .int .i64 k ∧ lo = .int .i64 (lowA A (dmAts (l.take k))) ∧ wr = wx) (fun _ i _ => n - (intOf i).toNat)
  case atStart => exact ⟨0, Nat.zero_le _, rfl, rfl, rfl⟩
  case round =>
   obtain ⟨k, hk, rfl, rfl, rfl⟩ := hrel
   rcases Nat.lt_or_ge k n with hlt | hlt
   ·have hq : (k : Int) < (n : Int) := Int.ofNat_lt.2 hlt
    obtain ⟨x, hx, hxm⟩ := some_at l (k := k) (HN.out ▸ hlt)
    have hT := hide (dmAts_next hx)
    obtain ⟨x1, x2, x3⟩ := x
    have hrd := HH.out
    rw [← HN.out] at hrd
    obtain ⟨b, off, rfl, hc1, hc2, hc3⟩ := (hrd.to0 hH.out.2).d3 hx
    dsimp only at hc1 hc3 hT
    have hbl := lowA_le (A := A) (ks := dmAts (l.take k)) (fun a ha => by
     obtain ⟨y, hy, _, h1, h2, h3⟩ := dmAts_mem.1 ha; omega) (fun a ha => by
     obtain ⟨y, hy, _, h1, h2, h3⟩ := dmAts_mem.1 ha; omega)
    obtain ⟨LO, hLO⟩ : ∃ LO, LO = lowA A (dmAts (l.take k)) := ⟨_, rfl⟩
    rw [← hLO] at hbl ⊢
    have HLO := hide hLO
    clear hx hxm hc2 hrd hLO
    by_cases c1 : x1 = 1
    ·subst c1
     by_cases c2 : 0 ≤ x3
     ·by_cases c3 : A < x3
      ·by_cases c4 : x3 ≤ 1048576
       ·have hD : Hid (lowA A (dmAts (l.take (k + 1))) = min LO x3) := by show _ = _; rw [hT.out, dmAt_yes rfl c2 c4, lowA_step]; dsimp only; rw [if_pos c3, HLO.out]
        go_wp2
        go_roundw
        case rel => exact ⟨k + 1, hlt, m3 k, by rw [hD.out], by first | trivial | rfl⟩
        case measure => exact m2 hlt
       ·have hD : Hid (lowA A (dmAts (l.take (k + 1))) = LO) := by show _ = _; rw [hT.out, HLO.out]; exact low_same fun a ha _ => c4 (dmAt_in ha).2.2.1
        go_wp2
        go_roundw
        case rel => exact ⟨k + 1, hlt, m3 k, by rw [hD.out], by first | trivial | rfl⟩
        case measure => exact m2 hlt
      ·have hD : Hid (lowA A (dmAts (l.take (k + 1))) = LO) := by show _ = _; rw [hT.out, HLO.out]; exact low_same fun a ha h => c3 (by have := (dmAt_in ha).2.2.2; rw [this] at h; exact h)
       go_wp2
       go_roundw
       case rel => exact ⟨k + 1, hlt, m3 k, by rw [hD.out], by first | trivial | rfl⟩
       case measure => exact m2 hlt
     ·have hD : Hid (lowA A (dmAts (l.take (k + 1))) = LO) := by show _ = _; rw [hT.out, HLO.out]; exact low_same fun a ha _ => c2 (dmAt_in ha).2.1
      go_wp2
      go_roundw
      case rel => exact ⟨k + 1, hlt, m3 k, by rw [hD.out], by first | trivial | rfl⟩
      case measure => exact m2 hlt
    ·have hD : Hid (lowA A (dmAts (l.take (k + 1))) = LO) := by show _ = _; rw [hT.out, HLO.out]; exact low_same fun a ha _ => c1 (dmAt_in ha).1
     have c1' : (x1 == 1) = false := by simp [c1]
     go_wp2
     go_roundw
     case rel => exact ⟨k + 1, hlt, m3 k, by rw [hD.out], by first | trivial | rfl⟩
     case measure => exact m2 hlt
   ·have hq : ¬ (k : Int) < (n : Int) := by omega
    obtain rfl : k = n := Nat.le_antisymm hk hlt
    have hta : l.take k = l := by rw [HN.out, List.take_length]
    rw [hta]
    have hsp := lowA_spec (A := A) hup.out
    obtain ⟨LO, hLO⟩ : ∃ LO, LO = lowA A (dmAts l) := ⟨_, rfl⟩
    rw [← hLO] at hsp ⊢
    replace hLO := hide hLO
    obtain ⟨ho, hb⟩ := hH.out
    rcases hsp with ⟨hs1, hs2⟩ | ⟨hs1, hs2, hs3⟩
    ·have F := hide (And.intro (show OwnE w.heap.size wr u3 (rngs l) by rw [rupto_all hs2] at ho; exact ho) hb)
     rw [hs1]
     replace hs1 := hide hs1
     replace hs2 := hide hs2
     clear ho hb hH
     go_wp2
     go_ret
     exact ⟨_, rfl, F.out⟩
    ·have hle := hup.out _ hs1
     have hge := hlo.out _ hs1
     have hT := hide (rupto_next hs2 hs1 hs3)
     have hin : Hid (∀ y ∈ rupto (dmAts l) A, 0 ≤ y.1 ∧ y.1 ≤ 1048576 ∧ y.1 + y.2 ≤ 1048576 + 4 ∧ 4 - 1048576 ≤ y.2) := rfold_in fun a ha => ⟨hlo.out a (srt_mem.1 (List.mem_filter.1 ha).1), hup.out a (srt_mem.1 (List.mem_filter.1 ha).1)⟩
     have hRl0 : (rupto (dmAts l) A).length ≤ 4000000 := by
      have h1 := rfold_len ((srt (dmAts l)).filter fun x => decide (x ≤ A))
      have h2 := List.length_filter_le (fun x => decide (x ≤ A)) (srt (dmAts l))
      rw [srt_len] at h2
      have h3 := dmAts_len l
      have := HN.out
      unfold rupto
      omega
     obtain ⟨R, hR⟩ : ∃ R, R = rupto (dmAts l) A := ⟨_, rfl⟩
     rw [← hR] at ho hT hin hRl0
     obtain ⟨M, hM⟩ : ∃ M, M = R.length := ⟨_, rfl⟩
     have hRl := hide hRl0
     have hM4 : M ≤ 4000000 := by rw [hM]; exact hRl0
     replace hs1 := hide hs1
     replace hs3 := hide hs3
     replace hR := hide hR
     have HB := hide hb
     have hbs := hb.size
     clear hRl0 hH hb
     by_cases hM0 : M = 0
     ·subst hM0
      have hnil : R = [] := List.eq_nil_of_length_eq_zero hM.symm
      clear hM
      subst hnil
      have hv : u3 = .slice none 0 0 ∨ ∃ b c, u3 = .slice (some ⟨b, 0, none⟩) 0 c := by
       rcases ho.2 with ⟨e, _⟩ | ⟨b, c, cur, e, _⟩
       ·exact .inl e
       ·exact .inr ⟨b, c, e⟩
      have HO := hide ho
      clear ho
      rcases hv with rfl | ⟨b, c', rfl⟩
      ·obtain ⟨v6, w6, hr6, o6, b6, s6, _⟩ := run_append_ext wr.drew (show OwnE w.heap.size wr.drew _ [] from HO.out.to2 (below_drewN' wr 1 _)) LO 4 (by simp) hbs
       have F := hide (And.intro (show OwnE w.heap.size w6 v6 (rupto (dmAts l) LO) by rw [hT.out, rstep_none]; exact o6) ((HB.out.trans ((below_drewN' wr 1 _).mono HB.out.size)).trans b6))
       clear o6 b6
       go_upto_region 13 with fail
       refine wp_region_mid (fun _ => True) 18 18 mixed (by kernel_rfl) (fun _ _ _ _ h => h) trivial ?_
       dsimp only [List.take, List.drop]
       iterate 3
        refine take_one (v := ?_) (by rfl) ?_ ?_
        rotate_left
        ·rintro w' _
         go_simp
         try with_reducible rfl
        try simp only [Act.put, List.setIfInBounds_toArray, List.set_cons_zero, List.set_cons_succ]
       iterate 15
        refine ⟨undef, .inr ⟨by rfl, rfl⟩, ?_⟩
        try simp only [Act.put, List.setIfInBounds_toArray, List.set_cons_zero, List.set_cons_succ]
       show wpList _ _ _ _ _ _
       go_wp2_with (at_builtin; refine Lib.wpList_append_run _ rfl _ _ _ _ rfl _ _ rfl rfl _ _ hr6 ?_)
       go_roundw
       case rel => exact ⟨LO, by omega, hle, rfl, F⟩
       case measure => exact m1 hs2 hle hA0
      ·obtain ⟨v6, w6, hr6, o6, b6, s6, _⟩ := run_append_ext wr.drew (show OwnE w.heap.size wr.drew _ [] from HO.out.to2 (below_drewN' wr 1 _)) LO 4 (by simp) hbs
       have F := hide (And.intro (show OwnE w.heap.size w6 v6 (rupto (dmAts l) LO) by rw [hT.out, rstep_none]; exact o6) ((HB.out.trans ((below_drewN' wr 1 _).mono HB.out.size)).trans b6))
       clear o6 b6
       go_upto_region 13 with fail
       refine wp_region_mid (fun _ => True) 18 18 mixed (by kernel_rfl) (fun _ _ _ _ h => h) trivial ?_
       dsimp only [List.take, List.drop]
       iterate 3
        refine take_one (v := ?_) (by rfl) ?_ ?_
        rotate_left
        ·rintro w' _
         go_simp
         try with_reducible rfl
        try simp only [Act.put, List.setIfInBounds_toArray, List.set_cons_zero, List.set_cons_succ]
       iterate 15
        refine ⟨undef, .inr ⟨by rfl, rfl⟩, ?_⟩
        try simp only [Act.put, List.setIfInBounds_toArray, List.set_cons_zero, List.set_cons_succ]
       show wpList _ _ _ _ _ _
       go_wp2_with (at_builtin; refine Lib.wpList_append_run _ rfl _ _ _ _ rfl _ _ rfl rfl _ _ hr6 ?_)
       go_roundw
       case rel => exact ⟨LO, by omega, hle, rfl, F⟩
       case measure => exact m1 hs2 hle hA0
     ·obtain ⟨m, rfl⟩ : ∃ m, M = m + 1 := ⟨M - 1, by omega⟩
      obtain ⟨y, hy, hym⟩ := some_at R (k := m) (by omega)
      obtain ⟨y1, y2⟩ := y
      obtain ⟨i1, i2, i3, i4⟩ := hin.out _ hym
      dsimp only at i1 i2 i3 i4
      obtain ⟨b, c', hv, hbb, hcc⟩ := ho.block2 (by omega)
      rw [← hM] at hv hcc
      subst hv
      have hod := ho.to2 (below_drewN' wr 1 _)
      obtain ⟨t0, t1, tf0, tf1⟩ := hod.cells2 hy
      obtain ⟨p0, p1, pf0, pf1⟩ := ho.cells2 hy
      dsimp only at t0 t1 p0 p1
      have e1 : ((m + 1 : Nat) : Int) - 1 = (m : Int) := by omega
      have hJ := hide (fun hc => rstep_join (a := LO) (k := m) hM.symm hy hc)
      have hN := hide (fun (hc : y1 + y2 < LO) => rstep_new (a := LO) (k := m) hM.symm hy (by dsimp only; omega))
      dsimp only at hJ hN
      have hmlt : (m : Int) < ((m + 1 : Nat) : Int) := by omega
      obtain ⟨hws, hwt⟩ := m4 i1 i2 i3 i4
      obtain ⟨hwm, hwn, hmp, hmq⟩ := m5 hM4
      have HBd := hide (HB.out.trans ((below_drewN' wr 1 _).mono HB.out.size))
      have HO := hide hod
      have HY := hide hy
      clear ho hod hy hym hM
      go_upto_region 13 with fail
      refine wp_region_mid (fun w' => w'.cell? ⟨b, m * 2, none⟩ = some (.int .i64 y1) ∧ w'.cell? ⟨b, m * 2 + 1, none⟩ = some (.int .i64 y2)) 18 18 mixed (by kernel_rfl) (fun _ _ _ _ h => h) ⟨t0, t1⟩ ?_
      dsimp only [List.take, List.drop]
      by_cases cc : LO ≤ y1 + y2
      ·iterate 18
        refine take_one (v := ?_) (by rfl) ?_ ?_
        rotate_left
        ·rintro w' ⟨s1, s2⟩
         go_simp
         try with_reducible rfl
        try simp only [Act.put, List.setIfInBounds_toArray, List.set_cons_zero, List.set_cons_succ]
       show wpList _ _ _ _ _ _
       have F9 := hide (And.intro (show OwnE w.heap.size (wr.drew.setCell ⟨b, m * 2 + 1, none⟩ (.int .i64 (LO + 4 - y1))) (.slice (some ⟨b, 0, none⟩) (m + 1) c') (rupto (dmAts l) LO) by rw [hT.out, hJ.out cc]; exact HO.out.size2 HY.out _) (HBd.out.setCell (p := ⟨b, m * 2 + 1, none⟩) hbb (.int .i64 (LO + 4 - y1))))
       go_wp2
       go_roundw
       case rel => exact ⟨LO, by omega, hle, rfl, F9⟩
       case measure => exact m1 hs2 hle hA0
      ·iterate 18
        refine take_one (v := ?_) (by rfl) ?_ ?_
        rotate_left
        ·rintro w' ⟨s1, s2⟩
         go_simp
         try with_reducible rfl
        try simp only [Act.put, List.setIfInBounds_toArray, List.set_cons_zero, List.set_cons_succ]
       show wpList _ _ _ _ _ _
       obtain ⟨v6, w6, hr6, o6, b6, s6, _⟩ := run_append_ext wr.drew HO.out LO 4 hRl.out hbs
       have O6 := hide (And.intro (show OwnE w.heap.size w6 v6 (rupto (dmAts l) LO) by rw [hT.out, hN.out (by omega)]; exact o6) (HBd.out.trans b6))
       clear o6 b6
       go_wp2_with (at_builtin; refine Lib.wpList_append_run _ rfl _ _ _ _ rfl _ _ rfl rfl _ _ hr6 ?_)
       go_roundw
       case rel => exact ⟨LO, by omega, hle, rfl, O6⟩
       case measure => exact m1 hs2 hle hA0
end Go.Proofs.Ytjjicajodjophaa

namespace Go.Proofs.Ytjjicajodjophaa
open Go.RowKit
end Go.Proofs.Ytjjicajodjophaa

namespace Go.Proofs.Ytjjicajodjophaa
open Go.RowKit
end Go.Proofs.Ytjjicajodjophaa

namespace Go.Proofs.Ytjjicajodjophaa
open Go.RowKit
end Go.Proofs.Ytjjicajodjophaa

namespace Go.Proofs.Ytjjicajodjophaa
open Go.ChangeShapes Go.WideShapes Go.ChangeAt Go.RowKit
theorem opens_octs1 : Opens Shp.octs 62 (fun x => x.length ≤ 140737488351232) (fun x => x.length + 1) := by
 refine ⟨by kernel_rfl, fun {H enc W fuel cs x} h => ?_⟩
 obtain ⟨d, p⟩ := x
 obtain ⟨a, len, cap, rfl⟩ : ∃ a len cap, cs = [.slice a len cap] := by
  rcases open_ints Try.underlying62 Try.underlying5 (by kernel_rfl) h with ⟨hcs, _⟩ | ⟨x, l, c, zs, hcs, _⟩
  ·exact ⟨_, _, _, hcs⟩
  ·exact ⟨_, _, _, hcs⟩
 obtain ⟨xs, e, r, s⟩ := open_octs (d := d) (p := p) ⟨fuel, h⟩
 refine ⟨xs, ⟨_, rfl, r⟩, fun hw => ?_, ?_⟩
 ·rcases s with s | ⟨el, sp, rfl, hel⟩
  ·omega
  ·have := hw ((el.length + sp.length) * Try.prog.bytesOf 5) (by simp [DataW.weights, Try.underlying62])
   rw [bytes8] at this
   simp only [reachBytes] at this
   omega
 ·rcases s with s | ⟨el, sp, rfl, hel⟩
  ·have := bulk_pos d
   dsimp only
   omega
  ·have := bulk_len el
   simp only [Rows.uptoBulk]
   omega
theorem open_sectors : Opens SSec 22 (fun xs => xs.length * 24 ≤ 140737488351232 ∧ ∀ x ∈ xs, x.length ≤ 140737488351232) (fun xs => (xs.map (fun x => x.length + 1)).sum) :=
 opens_octs1.list Try.underlying22 (by kernel_rfl) (by kernel_rfl) (by decide)
theorem open_seg : Opens SWr 103 (fun z => True ∧ z.2.length ≤ 140737488351232) (fun z => 1 + z.2.length) :=
 (opens_int Try.underlying3 (by kernel_rfl)).pair opens_octs Try.underlying103 (by kernel_rfl) rfl rfl
abbrev SSegs : Shp (List Wrt) := Shp.list 103 SWr
theorem open_wsegs : Opens SSegs 27 (fun xs => xs.length * 32 ≤ 140737488351232 ∧ ∀ z ∈ xs, True ∧ z.2.length ≤ 140737488351232) (fun xs => (xs.map (fun z => 1 + z.2.length)).sum) :=
 open_seg.list Try.underlying27 (by kernel_rfl) (by kernel_rfl) (by decide)
theorem bulk_lists : ∀ {xs : List (List UInt8)} {n : Nat}, (xs.map (fun x => x.length + 1)).sum ≤ n → xs.length ≤ n ∧ ∀ x ∈ xs, x.length ≤ n
 | [], n, h => ⟨Nat.zero_le _, fun x hx => by cases hx⟩
 | y :: xs, n, h => by
  simp only [List.map_cons, List.sum_cons] at h
  obtain ⟨i1, i2⟩ := bulk_lists (xs := xs) (n := n - (y.length + 1)) (by omega)
  refine ⟨by simp only [List.length_cons]; omega, fun x hx => ?_⟩
  rcases List.mem_cons.1 hx with rfl | hx
  ·omega
  ·have := i2 x hx; omega
theorem bulk_segs : ∀ {segs : List Wrt} {n : Nat}, (segs.map (fun y => 1 + y.2.length)).sum ≤ n → segs.length ≤ n ∧ ∀ s ∈ segs, s.2.length ≤ n
 | [], n, h => ⟨Nat.zero_le _, fun x hx => by cases hx⟩
 | y :: xs, n, h => by
  simp only [List.map_cons, List.sum_cons] at h
  obtain ⟨i1, i2⟩ := bulk_segs (segs := xs) (n := n - (1 + y.2.length)) (by omega)
  refine ⟨by simp only [List.length_cons]; omega, fun x hx => ?_⟩
  rcases List.mem_cons.1 hx with rfl | hx
  ·omega
  ·have := i2 x hx; omega
end Go.Proofs.Ytjjicajodjophaa
