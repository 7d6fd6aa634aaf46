/-
  The contract of transeptref01.Turn: bit by bit it comes to the octets turned.
-/
import Derived.Test.YtoijklenmjllcaaRefBits
import Derived.Test.YtoijklenmjllcaaCut
namespace Go.Proofs.Ytoijklenmjllcaa
open Go.RowKit
set_option linter.unusedVariables false

/-- the first m bits of octet j of what is turned -/
def pT (xs : List UInt8) (j : Nat) : Nat → Nat
  | 0 => 0
  | m + 1 => pT xs j m + bn xs (8 * xs.length - 1 - (8 * j + m)) * 2 ^ (7 - m)
theorem pT_mod (xs : List UInt8) (j m : Nat) (h : m ≤ 8) : pT xs j m % 2 ^ (8 - m) = 0 ∧ pT xs j m + 2 ^ (8 - m) ≤ 256 := by
  induction m with
  | zero => simp [pT]
  | succ m ih =>
    obtain ⟨h1, h2⟩ := ih (by omega)
    have hb := bn_le xs (8 * xs.length - 1 - (8 * j + m))
    simp only [pT]
    have e : (2 : Nat) ^ (8 - m) = 2 * 2 ^ (7 - m) := by rw [show 8 - m = (7 - m) + 1 from by omega, Nat.pow_succ]; omega
    rw [show 8 - (m + 1) = 7 - m from by omega]
    rw [e] at h1 h2
    have h3 : pT xs j m % 2 ^ (7 - m) = 0 := by
      rw [← Nat.mod_mod_of_dvd (pT xs j m) (Nat.dvd_mul_left (2 ^ (7 - m)) 2), h1]; simp
    refine ⟨by rw [Nat.add_mul_mod_self_right]; exact h3, ?_⟩
    have : bn xs (8 * xs.length - 1 - (8 * j + m)) * 2 ^ (7 - m) ≤ 1 * 2 ^ (7 - m) := Nat.mul_le_mul_right _ hb
    omega
theorem pT_lt (xs : List UInt8) (j m : Nat) (h : m ≤ 8) : pT xs j m < 256 := by
  have := (pT_mod xs j m h).2
  have := Nat.two_pow_pos (8 - m)
  omega
theorem pT_or (xs : List UInt8) (j m : Nat) (h : m < 8) : pT xs j m ||| bn xs (8 * xs.length - 1 - (8 * j + m)) * 2 ^ (7 - m) = pT xs j (m + 1) := by
  have hb := bn_le xs (8 * xs.length - 1 - (8 * j + m))
  have h1 := (pT_mod xs j m (by omega)).1
  simp only [pT]
  refine nat_join (8 - m) _ _ h1 ?_
  have h2 : bn xs (8 * xs.length - 1 - (8 * j + m)) * 2 ^ (7 - m) ≤ 1 * 2 ^ (7 - m) := Nat.mul_le_mul_right _ hb
  have e : (2 : Nat) ^ (8 - m) = 2 * 2 ^ (7 - m) := by rw [show 8 - m = (7 - m) + 1 from by omega, Nat.pow_succ]; omega
  have := Nat.two_pow_pos (7 - m)
  omega
theorem rev_bits_fin : ∀ n : Fin 256, Lib.rev8 (n.val : Int) = ((n.val / 2 ^ 0 % 2 * 2 ^ 7 + n.val / 2 ^ 1 % 2 * 2 ^ 6 + n.val / 2 ^ 2 % 2 * 2 ^ 5 + n.val / 2 ^ 3 % 2 * 2 ^ 4 + n.val / 2 ^ 4 % 2 * 2 ^ 3 + n.val / 2 ^ 5 % 2 * 2 ^ 2 + n.val / 2 ^ 6 % 2 * 2 ^ 1 + n.val / 2 ^ 7 % 2 * 2 ^ 0 : Nat) : Int) := by decide +kernel
theorem bn_at (xs : List UInt8) (j m : Nat) (hj : j < xs.length) (hm : m < 8) : bn xs (8 * xs.length - 1 - (8 * j + m)) = (xs.getD (xs.length - 1 - j) 0).toNat / 2 ^ m % 2 := by
  unfold bn ob8
  rw [show (8 * xs.length - 1 - (8 * j + m)) / 8 = xs.length - 1 - j from by omega, show 7 - (8 * xs.length - 1 - (8 * j + m)) % 8 = m from by omega]
theorem pT_all (xs : List UInt8) (j : Nat) (hj : j < xs.length) : (pT xs j 8 : Int) = ((rv (xs.getD (xs.length - 1 - j) 0)).toNat : Int) := by
  rw [rv_toNat, rev_bits_fin ⟨(xs.getD (xs.length - 1 - j) 0).toNat, UInt8.toNat_lt _⟩]
  simp only [pT]
  rw [bn_at xs j 0 hj (by omega), bn_at xs j 1 hj (by omega), bn_at xs j 2 hj (by omega), bn_at xs j 3 hj (by omega), bn_at xs j 4 hj (by omega), bn_at xs j 5 hj (by omega), bn_at xs j 6 hj (by omega), bn_at xs j 7 hj (by omega)]
  simp
/-- behind i rounds -/
def outTo (xs : List UInt8) (i : Nat) : List UInt8 := (List.range xs.length).map fun j => UInt8.ofNat (pT xs j (min 8 (i - 8 * j)))
theorem outTo_length (xs : List UInt8) (i : Nat) : (outTo xs i).length = xs.length := by simp [outTo]
theorem outTo_zero (xs : List UInt8) : (outTo xs 0).map enc = List.replicate xs.length (.int .u8 0) := by
  apply List.ext_getElem
  · simp [outTo]
  · intro i h1 h2; simp [outTo, enc, pT]
theorem enc_pT (xs : List UInt8) (j m : Nat) (h : m ≤ 8) : enc (UInt8.ofNat (pT xs j m)) = .int .u8 (pT xs j m : Nat) := by
  unfold enc; rw [UInt8.toNat_ofNat_of_lt' (by show _ < 256; exact pT_lt xs j m h)]
theorem outTo_at (xs : List UInt8) (i : Nat) (h : i < 8 * xs.length) : ((outTo xs i).map enc)[i / 8]? = some (.int .u8 (pT xs (i / 8) (i % 8) : Nat)) := by
  have hj : i / 8 < xs.length := by omega
  rw [List.getElem?_eq_getElem (by simp [outTo]; exact hj)]
  simp only [outTo, List.getElem_map, List.getElem_range]
  rw [enc_pT _ _ _ (by omega), show min 8 (i - 8 * (i / 8)) = i % 8 from by omega]
theorem outTo_succ (xs : List UInt8) (i : Nat) (h : i < 8 * xs.length) : ((outTo xs i).map enc).set (i / 8) (.int .u8 (pT xs (i / 8) (i % 8 + 1) : Nat)) = (outTo xs (i + 1)).map enc := by
  apply List.ext_getElem
  · simp [outTo]
  · intro j h1 h2
    simp only [List.length_set, List.length_map, outTo_length] at h1
    rw [List.getElem_set]
    by_cases hj : i / 8 = j
    · rw [if_pos hj]
      subst hj
      simp only [outTo, List.getElem_map, List.getElem_range]
      rw [enc_pT _ _ _ (by omega), show min 8 (i + 1 - 8 * (i / 8)) = i % 8 + 1 from by omega]
    · rw [if_neg hj]
      simp only [outTo, List.getElem_map, List.getElem_range]
      rw [show min 8 (i + 1 - 8 * j) = min 8 (i - 8 * j) from by omega]
theorem outTo_all (xs : List UInt8) : outTo xs (8 * xs.length) = tn xs := by
  apply List.ext_getElem
  · simp [outTo, tn]
  · intro j h1 h2
    simp only [outTo_length] at h1
    have e := pT_all xs j h1
    simp only [outTo, List.getElem_map, List.getElem_range]
    rw [show min 8 (8 * xs.length - 8 * j) = 8 from by omega]
    have e2 : (tn xs)[j] = rv (xs.getD (xs.length - 1 - j) 0) := by
      simp [tn, show xs.length - 1 - j < xs.length by omega]
    rw [e2]
    apply UInt8.toNat_inj.1
    rw [UInt8.toNat_ofNat_of_lt' (by show _ < 256; exact pT_lt xs j 8 (by omega))]
    omega

/-- what Go reckons: a bit laid into an octet -/
theorem or_bit (xs : List UInt8) (i : Nat) (h : i < 8 * xs.length) : bits .or .u8 (pT xs (i / 8) (i % 8) : Nat) (IntKind.u8.wrap ((bn xs (8 * xs.length - 1 - i) : Nat) * 2 ^ (7 - i % 8))) = (pT xs (i / 8) (i % 8 + 1) : Nat) := by
  have hb := bn_le xs (8 * xs.length - 1 - i)
  have h2 : bn xs (8 * xs.length - 1 - i) * 2 ^ (7 - i % 8) ≤ 1 * 2 ^ (7 - i % 8) := Nat.mul_le_mul_right _ hb
  have h3 : (2 : Nat) ^ (7 - i % 8) ≤ 2 ^ 7 := Nat.pow_le_pow_right (by omega) (by omega)
  have e : IntKind.u8.wrap (((bn xs (8 * xs.length - 1 - i) : Nat) : Int) * 2 ^ (7 - i % 8)) = ((bn xs (8 * xs.length - 1 - i) * 2 ^ (7 - i % 8) : Nat) : Int) := by
    rw [IntKind.wrap_u8', Int.natCast_mul, Int.natCast_pow]
    have : ((bn xs (8 * xs.length - 1 - i) * 2 ^ (7 - i % 8) : Nat) : Int) < 256 := by omega
    rw [Int.natCast_mul, Int.natCast_pow] at this
    exact Int.emod_eq_of_lt (by rw [show ((2 : Nat) : Int) = 2 from rfl] at *; have : (0 : Int) ≤ ((bn xs (8 * xs.length - 1 - i) * 2 ^ (7 - i % 8) : Nat) : Int) := by omega
                                rw [Int.natCast_mul, Int.natCast_pow] at this; exact this) this
  rw [e, u8_or_nat _ _ (pT_lt xs _ _ (by omega)) (by omega)]
  rw [← pT_or xs (i / 8) (i % 8) (by omega)]
  rw [show 8 * (i / 8) + i % 8 = i from by omega]

set_option maxHeartbeats 1000000 in
theorem refTurn_any (w : World) (v1 : Value) (xs : List UInt8) (h1 : Rd w v1 xs) (hm : xs.length ≤ 140737488355328) :
    Calls Try.prog 15 #[v1] w fun e w' => ∃ v, e = .returned v ∧ OwnB w.heap.size w' v (tn xs) ∧ Below w.heap.size w w' := by
  have KB := hide (fun u hu i h0 h1' => bit_any u v1 xs (h1.to hu) i h0 h1' hm)
  obtain ⟨a1, c1, rfl, l1, m1, n1, r1⟩ := h1
  rw [show maxLen = 9223372036854775807 from rfl] at m1
  have hmk := fun u => make_octs (n := xs.length) (by omega) u
  clear n1 r1
  go_enter Try.func15, Try.ntmps15
  go_wp2
  have ho0 := own_made w xs.length (by unfold maxLen; omega)
  have hb0 : Below w.heap.size w (w.alloc (.cells (madeCells #[.int .u8 0] xs.length) 5)) := (Below.refl _ _).alloc (Nat.le_refl _) _
  unfold OwnB at ho0
  rw [List.length_replicate, List.map_replicate, show enc 0 = .int .u8 0 from rfl, ← outTo_zero] at ho0
  clear hmk
  go_loopw [5] (fun i wr => ∃ k : Nat, k ≤ 8 * xs.length ∧ i = .int .i64 k ∧ wr.ownsRow w.heap.size 5 1 (.slice (some ⟨w.heap.size, 0, none⟩) xs.length xs.length) xs.length ((outTo xs k).map enc) ∧ Below w.heap.size w wr)
    (fun i _ => 8 * xs.length - (intOf i).toNat)
  case atStart => exact ⟨0, Nat.zero_le _, rfl, ho0, hb0⟩
  case round =>
    obtain ⟨k, hk, rfl, ho, hb⟩ := hrel
    clear ho0 hb0
    by_cases hlt : k < 8 * xs.length
    · have hq : (k : Int) < 8 * (xs.length : Int) := by omega
      have hq8 : ((k / 8 : Nat) : Int) < (xs.length : Int) := by omega
      have fz := ho.frozenAt (k / 8)
      have cl : wr.cell? ⟨w.heap.size, k / 8, none⟩ = some (.int .u8 (pT xs (k / 8) (k % 8) : Nat)) := by
        rw [ho.cellAt (k / 8) (by omega)]; exact outTo_at xs k hlt
      have HS := (ho.stored (k / 8) (.int .u8 (pT xs (k / 8) (k % 8 + 1) : Nat))).1
      rw [outTo_succ xs k hlt] at HS
      have HB := hb.setCell (p := ⟨w.heap.size, k / 8, none⟩) (Nat.le_refl _) (.int .u8 (pT xs (k / 8) (k % 8 + 1) : Nat))
      have HS' := hide HS
      have HB' := hide HB
      have hbit := fun u hu => KB.out u hu (8 * (xs.length : Int) - 1 - (k : Int)) (by omega) (by omega)
      rw [show (8 * (xs.length : Int) - 1 - (k : Int)).toNat = 8 * xs.length - 1 - k from by omega] at hbit
      have HBIT := hide hbit
      have HOR := hide (or_bit xs k hlt)
      have hbn := bn_le xs (8 * xs.length - 1 - k)
      have hpl := pT_lt xs (k / 8) (k % 8) (by omega)
      clear HS HB ho hbit
      generalize pT xs (k / 8) (k % 8) = O at *
      generalize bn xs (8 * xs.length - 1 - k) = Y at *
      have HK8 : Hid (k / 8 < xs.length) := by show k / 8 < xs.length; omega
      obtain ⟨J, hJ⟩ : ∃ J, k / 8 = J := ⟨_, rfl⟩
      obtain ⟨t, ht⟩ : ∃ t, k % 8 = t := ⟨_, rfl⟩
      have w1 : IntKind.i64.wrap ((k : Int).tdiv 8) = (J : Int) := by rw [Int.tdiv_eq_ediv_of_nonneg (show (0 : Int) ≤ (k : Int) by omega), IntWalk.i64_in _ (by omega)]; omega
      have w2 : IntKind.i64.wrap (8 * (xs.length : Int) - 1) = 8 * (xs.length : Int) - 1 := IntWalk.i64_in _ (by omega)
      have w3 : IntKind.i64.wrap (8 * (xs.length : Int) - 1 - (k : Int)) = 8 * (xs.length : Int) - 1 - (k : Int) := IntWalk.i64_in _ (by omega)
      have w4 : IntKind.i64.wrap ((k : Int).tmod 8) = (t : Int) := by rw [Int.tmod_eq_emod_of_nonneg (show (0 : Int) ≤ (k : Int) by omega), IntWalk.i64_in _ (by omega)]; omega
      obtain ⟨r, hr⟩ : ∃ r, 7 - t = r := ⟨_, rfl⟩
      have w5 : IntKind.i64.wrap (7 - (t : Int)) = (r : Int) := by rw [IntWalk.i64_in _ (by omega)]; omega
      have hr7 : (r : Int) ≤ 7 := by omega
      have w6 : (k : Int) / 8 = (J : Int) := by omega
      have w7 : (k : Int) % 8 = (t : Int) := by omega
      have w8 : 7 - (t : Int) = (r : Int) := by omega
      have w12 : (k : Int).tmod 8 = (t : Int) := by rw [Int.tmod_eq_emod_of_nonneg (show (0 : Int) ≤ (k : Int) by omega)]; omega
      have hr0 : (0 : Int) ≤ (r : Int) := by omega
      have w9 : IntKind.i64.wrap (J : Int) = (J : Int) := IntWalk.i64_in _ (by omega)
      have w10 : IntKind.i64.wrap (t : Int) = (t : Int) := IntWalk.i64_in _ (by omega)
      have w11 : IntKind.i64.wrap (r : Int) = (r : Int) := IntWalk.i64_in _ (by omega)
      rw [hJ] at fz cl HS' HB' HOR hq8
      rw [ht, hr] at HOR
      rw [ht] at HS' HB'
      have hJ0 : (0 : Int) ≤ (J : Int) := by omega
      clear hJ ht hr
      go_wp2
      have hbit2 : Calls Try.prog 25 #[.slice a1 xs.length c1, .int .i64 (8 * (xs.length : Int) - 1 - (k : Int))] wr.drew fun e w' => e = .returned (.int .u8 (Y : Nat)) ∧ w' = wr.drew :=
        (HBIT.out _ hb.drew).mono fun _ _ ⟨h1, h2⟩ => ⟨h1, h2.symm⟩
      have HB2 := hide hbit2
      clear hbit2
      refine wp_tail 20 mixed (by kernel_rfl) ?_
      simp only [List.take_succ_cons, List.take_zero, List.drop_succ_cons, List.drop_zero]
      repeat still_step
      still_call HB2.out
      repeat still_step
      refine wpStill_nil ?_
      rw [HOR.out]
      clear w1 w2 w3 w4 w5 w6 w7 w8 w9 w10 w11 w12
      go_wp2
      go_roundw
      case rel => exact ⟨k + 1, by omega, by go_num, HS'.out.drew, HB'.out.drew⟩
      case measure => simp [intOf]; omega
    · go_wp2
      go_ret
      refine ⟨_, rfl, ?_, hb⟩
      rw [show k = 8 * xs.length from by omega, outTo_all] at ho
      unfold OwnB
      rw [tn_length]
      exact ho

end Go.Proofs.Ytoijklenmjllcaa
