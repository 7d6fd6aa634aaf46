/-
  PROVED: whatever octets, place and bits come in, transeptlaw02.CrcFinds returns true and leaves the octets as they were: the statement of P2.5 (up to 32 bits in a row that are turned are told). No condition beyond the form's own reach.
-/
import Derived.Test.YtakedbopjfaadaaFr
import Derived.Test.YtakedbopjfaadaaCAlive
import Derived.BigRegion
namespace Go.Proofs.Ytakedbopjfaadaa.crcFinds
open Go.ChangeShapes Go.WideShapes Go.ChangeAt Go.RowKit
set_option linter.unusedVariables false

theorem mul_xor (k a b : Nat) : 2 ^ k * (a ^^^ b) = 2 ^ k * a ^^^ 2 ^ k * b := by
  apply Nat.eq_of_testBit_eq; intro i
  simp only [Nat.testBit_two_pow_mul, Nat.testBit_xor]
  cases decide (i ≥ k) <;> simp

/-- one bit of the octets turned -/
def fl (xs : List UInt8) (p : Nat) : List UInt8 := xs.set (p / 8) (xs.getD (p / 8) 0 ^^^ UInt8.ofNat (2 ^ (p % 8)))
theorem fl_len (xs : List UInt8) (p : Nat) : (fl xs p).length = xs.length := by simp [fl]
theorem fl_num (xs : List UInt8) : ∀ p, p / 8 < xs.length → num (fl xs p) = num xs ^^^ 2 ^ p := by
  induction xs with
  | nil => intro p h; simp at h
  | cons x xs ih =>
    intro p h
    by_cases hp : p < 8
    · have e1 : p / 8 = 0 := by omega
      have e2 : p % 8 = p := by omega
      have e3 : 2 ^ p < 256 := Nat.pow_lt_pow_right (a := 2) (n := 8) (by decide) hp
      unfold fl
      rw [e1, e2]
      show num ((x ^^^ UInt8.ofNat (2 ^ p)) :: xs) = _
      rw [num, num, UInt8.toNat_xor, UInt8.toNat_ofNat_of_lt' e3, Nat.xor_assoc, Nat.xor_comm (2 ^ p), ← Nat.xor_assoc]
    · obtain ⟨q, rfl⟩ : ∃ q, p = 8 + q := ⟨p - 8, by omega⟩
      have e1 : (8 + q) / 8 = q / 8 + 1 := by omega
      have e2 : (8 + q) % 8 = q % 8 := by omega
      have := ih q (by rw [e1] at h; simpa using h)
      unfold fl at this ⊢
      rw [e1, e2]
      show num (x :: xs.set (q / 8) (xs.getD (q / 8) 0 ^^^ UInt8.ofNat (2 ^ (q % 8)))) = _
      rw [num, num, this, mul_xor, ← Nat.xor_assoc, Nat.pow_add]

theorem turned {xs ys : List UInt8} {at_ t : Nat} (hl : ys.length = xs.length) (h : num ys = num xs ^^^ 2 ^ at_ * t) (ha : at_ ≤ 8 * xs.length) (ht : t < M32) (h0 : t ≠ 0) : sum ys ≠ sum xs := by
  intro e
  have e2 : reg (inv 0) ys = reg (inv 0) xs := inv_inj e
  rw [reg_num, reg_num, hl, h, ← Nat.xor_assoc, stn_xor] at e2
  have e3 : stn (8 * xs.length) (2 ^ at_ * t) = 0 := by
    have := congrArg (stn (8 * xs.length) (inv 0 ^^^ num xs) ^^^ ·) e2
    simp only [xor_back, Nat.xor_self] at this
    exact this
  rw [show 8 * xs.length = (8 * xs.length - at_) + at_ from by omega, stn_add, stn_pow] at e3
  exact stn_ne _ ht h0 e3

theorem mod256 (P : Nat) (h : P < 256) : (P : Int) % 256 = (P : Int) := by omega
theorem low_step (t i : Nat) : t % 2 ^ (i + 1) = t % 2 ^ i ^^^ (if t / 2 ^ i % 2 = 1 then 2 ^ i else 0) := by
  apply Nat.eq_of_testBit_eq; intro j
  rw [Nat.testBit_xor, Nat.testBit_mod_two_pow, Nat.testBit_mod_two_pow]
  have hb : t.testBit i = decide (t / 2 ^ i % 2 = 1) := Nat.testBit_eq_decide_div_mod_eq
  by_cases h : t / 2 ^ i % 2 = 1
  · rw [if_pos h, Nat.testBit_two_pow]
    by_cases hj : j = i
    · subst hj; simp [hb, h]
    · have : ¬ i = j := fun e => hj e.symm
      simp [this]
      by_cases h1 : j < i <;> simp [h1] <;> omega
  · rw [if_neg h]
    by_cases hj : j = i
    · subst hj; simp [hb, h]
    · simp
      by_cases h1 : j < i <;> simp [h1] <;> omega

set_option maxHeartbeats 1000000 in
theorem walk (w : World) (a0 : Option Addr) (len0 cap0 : Nat) (x0 : List UInt8) (e0 : x0.length = len0) (g0 : Rd w (.slice a0 len0 cap0) x0) (m0 : len0 ≤ 140737488351232) (a1 : Int) (w1 : (Lit.int .i64 a1).wf = true) (a2 : Int) (w2 : (Lit.int .u32 a2).wf = true) :
    Calls Try.prog 6 #[.slice a0 len0 cap0, .int .i64 a1, .int .u32 a2] w fun e w' => e = .returned (.bool true) ∧ Below w.heap.size w w' := by
  have hx1 : -9223372036854775808 ≤ a1 ∧ a1 ≤ 9223372036854775807 := by simpa [Lit.wf, IntKind.min, IntKind.max, IntKind.signed, IntKind.bits] using w1
  have hx2 : 0 ≤ a2 ∧ a2 ≤ 4294967295 := by simpa [Lit.wf, IntKind.min, IntKind.max, IntKind.signed, IntKind.bits] using w2
  obtain ⟨t, rfl⟩ := Int.eq_ofNat_of_zero_le hx2.1
  have ht : t < M32 := by unfold M32; omega
  have hm : x0.length ≤ 140737488351232 := by rw [e0]; exact m0
  replace e0 := hide e0
  clear w1 w2
  by_cases h5 : len0 < 5
  · have hq : (len0 : Int) < 5 := by omega
    go_enter Try.func6, Try.ntmps6
    go_wp2_with fail
    refine (alive_any w).mono ?_
    rintro e w1 ⟨rfl, b1⟩
    go_wp2
    go_ret
    exact ⟨rfl, b1⟩
  by_cases h0 : t = 0
  · subst h0
    have hq : decide ((len0 : Int) < 5) = false := by simp; omega
    go_enter Try.func6, Try.ntmps6
    go_wp2_with fail
    refine (alive_any w).mono ?_
    rintro e w1 ⟨rfl, b1⟩
    go_wp2
    go_ret
    exact ⟨rfl, b1⟩
  have hq : decide ((len0 : Int) < 5) = false := by simp; omega
  have hq2 : ((t : Int) == 0) = false := by simp; omega
  obtain ⟨N, hN⟩ : ∃ N : Int, N = 8 * ((len0 : Int) - 4) := ⟨_, rfl⟩
  have HN := hide hN
  have hNp : 0 < N := by omega
  have hNm : N ≤ 1125899906842624 := by omega
  have l1 := Int.lt_tmod_of_pos a1 hNp
  have l2 := Int.tmod_lt_of_pos a1 hNp
  have l3 := Int.tmod_nonneg (a := a1.tmod N + N) N (by omega)
  have l4 := Int.tmod_lt_of_pos (a1.tmod N + N) hNp
  have hN2 := hN.symm
  clear hN
  go_enter Try.func6, Try.ntmps6
  go_wp2_with fail
  refine (alive_any w).mono ?_
  rintro e w1 ⟨rfl, b1⟩
  replace g0 := g0.to b1
  go_wp2_with fail
  refine (copy_any _ _ x0 g0 (by omega)).mono ?_
  rintro e w2 ⟨v2, rfl, o2, b2⟩
  have c2 := b1.trans (b2.mono b1.size)
  rcases o2.2 with ⟨_, h⟩ | ⟨g, cap, cur, rfl, hgb, _, _, _, _, _⟩
  · have := e0.out; omega
  unfold OwnB at o2
  rw [e0.out] at o2 ⊢
  go_wp2
  have k1 := Int.emod_nonneg (a1.tmod N + N) (b := N) (by omega)
  have k2 := Int.emod_lt_of_pos (a1.tmod N + N) hNp
  obtain ⟨p, hp⟩ : ∃ p : Nat, (a1.tmod N + N) % N = (p : Int) := ⟨((a1.tmod N + N) % N).toNat, (Int.toNat_of_nonneg k1).symm⟩
  rw [hp] at k2 ⊢
  have hpl : p < 8 * (len0 - 4) := by have := HN.out; omega
  clear l1 l2 l3 l4 k1 k2 hp
  generalize a1.tmod N = A at *
  clear HN hNp hNm hN2
  go_loopw [9] (fun i wr => ∃ (k : Nat) (ys : List UInt8), k ≤ 32 ∧ i = .int .i64 k ∧ ys.length = len0 ∧ Hid (num ys = num x0 ^^^ 2 ^ p * (t % 2 ^ k)) ∧ wr.ownsRow w1.heap.size 5 1 (.slice (some ⟨g, 0, none⟩) len0 cap) len0 (ys.map enc) ∧ Below w1.heap.size w1 wr) (fun i _ => 32 - (intOf i).toNat)
  case atStart => exact ⟨0, x0, Nat.zero_le _, rfl, e0.out, hide (by simp [Nat.mod_one]), o2, b2⟩
  case round =>
    clear o2 b2 c2
    obtain ⟨k, ys, hk, rfl, hyl, hnum, ho, hb⟩ := hrel
    by_cases hlt : k < 32
    · have hq3 : (k : Int) < 32 := by omega
      have hbit : bits .and .u32 ((t : Int) / 2 ^ k) 1 = ((t / 2 ^ k % 2 : Nat) : Int) := by
        rw [show (t : Int) / 2 ^ k = ((t / 2 ^ k : Nat) : Int) from by simp]
        exact and1_int _ (Nat.lt_of_le_of_lt (Nat.div_le_self _ _) ht)
      have hls := low_step t k
      by_cases h1 : t / 2 ^ k % 2 = 1
      · rw [h1] at hbit
        rw [if_pos h1] at hls
        replace hls := hide hls
        clear h1
        obtain ⟨q, hqe⟩ : ∃ q, q = p + k := ⟨_, rfl⟩
        obtain ⟨d, hde⟩ : ∃ d, d = q / 8 := ⟨_, rfl⟩
        obtain ⟨r, hre⟩ : ∃ r, r = q % 8 := ⟨_, rfl⟩
        have e8 : d < len0 := by omega
        have r8 : (r : Int) < 8 := by omega
        have j1 : (p : Int) + (k : Int) = (q : Int) := by omega
        have j2 : (q : Int) / 8 = (d : Int) := by omega
        have j3 : (q : Int) % 8 = (r : Int) := by omega
        have j4 : (d : Int) < (len0 : Int) := by omega
        have fz := ho.frozenAt d
        have cl : wr.cell? ⟨g, d, none⟩ = some (.int .u8 (bt ys d)) := by
          rw [ho.cellAt d (by omega)]
          simp [enc, bt, show d < ys.length by omega]
        have hqb : (q : Int) ≤ 1125899906842624 := by omega
        have hbd := bt_bd ys d
        have HX : bits .xor .u8 (bt ys d) ((2 : Int) ^ r % 256) = ((ys.getD d 0 ^^^ UInt8.ofNat (2 ^ r)).toNat : Int) := by
          have e3 : 2 ^ r < 256 := Nat.pow_lt_pow_right (a := 2) (n := 8) (by decide) (by omega)
          have hc : (2 : Int) ^ r = ((2 ^ r : Nat) : Int) := by simp
          rw [show (2 : Int) ^ r % 256 = ((2 ^ r : Nat) : Int) from by rw [hc]; exact mod256 _ e3]
          unfold bt
          rw [u8_xor_nat _ _ (UInt8.toNat_lt _) e3, UInt8.toNat_xor, UInt8.toNat_ofNat_of_lt' e3]
        have hst := ho.stored d (.int .u8 (bits .xor .u8 (bt ys d) ((2 : Int) ^ r % 256)))
        have HS : Hid ((wr.setCell ⟨g, d, none⟩ (.int .u8 (bits .xor .u8 (bt ys d) ((2 : Int) ^ r % 256)))).ownsRow w1.heap.size 5 1 (.slice (some ⟨g, 0, none⟩) len0 cap) len0 ((fl ys q).map enc)) := by
          have h1 := hst.1
          show World.ownsRow _ _ _ _ _ _ _
          rw [show (fl ys q).map enc = (ys.map enc).set d (.int .u8 (bits .xor .u8 (bt ys d) ((2 : Int) ^ r % 256))) from by
            rw [HX]; unfold fl; rw [← hde, ← hre, List.map_set]; rfl]
          exact h1
        have HB : Hid (Below w1.heap.size w1 (wr.setCell ⟨g, d, none⟩ (.int .u8 (bits .xor .u8 (bt ys d) ((2 : Int) ^ r % 256))))) :=
          hb.setCell (p := ⟨g, d, none⟩) hgb _
        have HN : Hid (num (fl ys q) = num x0 ^^^ 2 ^ p * (t % 2 ^ (k + 1))) := by
          show _ = _
          rw [fl_num ys q (by omega), hls.out, hnum.out, mul_xor, ← Nat.xor_assoc, hqe, Nat.pow_add]
        have HL : Hid ((fl ys q).length = len0) := by show _ = _; rw [fl_len]; exact hyl
        clear HX hst ho hb hnum hls
        replace hqe := hide hqe
        replace hde := hide hde
        replace hre := hide hre
        generalize bt ys d = z at *
        go_wp2
        go_region
        go_wp2
        go_roundw
        case rel => exact ⟨k + 1, fl ys q, by omega, by go_num, HL.out, HN, HS.out, below_drew HB.out⟩
        case measure => simp [intOf]; omega
      · have h2 : t / 2 ^ k % 2 = 0 := by omega
        rw [h2] at hbit
        rw [if_neg h1, Nat.xor_zero] at hls
        have HN : Hid (num ys = num x0 ^^^ 2 ^ p * (t % 2 ^ (k + 1))) := by rw [hls]; exact hnum
        clear h1 h2 hls hnum
        go_wp2
        go_roundw
        case rel => exact ⟨k + 1, ys, by omega, by go_num, hyl, HN, ho, hb⟩
        case measure => simp [intOf]; omega
    · obtain rfl : k = 32 := by omega
      have hne : sum ys ≠ sum x0 := by
        have h1 := hnum.out
        rw [show t % 2 ^ 32 = t from Nat.mod_eq_of_lt ht] at h1
        have := e0.out
        exact turned (by omega) h1 (by omega) ht h0
      have ho2 : OwnB w1.heap.size wr (.slice (some ⟨g, 0, none⟩) len0 cap) ys := by unfold OwnB; rw [hyl]; exact ho
      replace g0 := g0.to hb
      have r0 := ho2.rd
      have c3 := b1.trans (hb.mono b1.size)
      clear ho ho2 hb b1
      go_wp2_with fail
      refine (sum_any _ _ ys r0 (by omega)).mono ?_
      rintro e w4 ⟨rfl, b4⟩
      have c4 := c3.trans (b4.mono c3.size)
      replace g0 := g0.to b4
      go_wp2_with fail
      refine (sum_any _ _ x0 g0 (by omega)).mono ?_
      rintro e w5 ⟨rfl, b5⟩
      have c5 := c4.trans (b5.mono c4.size)
      have hd : ((sum ys : Nat) : Int) ≠ ((sum x0 : Nat) : Int) := by omega
      generalize sum ys = s1 at *
      generalize sum x0 = s2 at *
      go_wp2
      go_ret
      exact ⟨ret_bool (by simp; omega), c5⟩

set_option maxRecDepth 100000 in
theorem lifted (os : Os) (started : os.Started) (H : Type) (enc : TypeId × Value → H) :
    ReturnsInHanded {} Try.checked os 6 .any (Rows.crcFindsSpec.pre6 enc Try.prog Try.f6 Rows.crcFindsRow.domain false) (Rows.crcFindsSpec.post enc Try.prog Try.f6 false true false false) := by
  refine returnsInHanded_of_change_sized (C := Try.checked) own started (by kernel_rfl) Try.func6
    (ChangeSpec.witness6 (enc := enc) (C := Try.checked) false ⟨#[], #[.slice none 0 0, .int .i64 0, .int .u32 0], []⟩ 8 (by kernel_rfl) (by kernel_rfl) (by kernel_rfl) (by kernel_rfl)) ?_
  intro W base args ds gs before hval0 hW hcnd hsz0 _
  have hsz : (DataW.weightsEach Try.prog (Try.f6.params.toList ++ Rows.crcFindsSpec.plain.varTypes Try.prog) (ds ++ gs)).all (· ≤ reachBytes) = true := hsz0
  have hval : ∀ (j : Nat) t v, Try.f6.params[j]? = some t → args[j]? = some v → Value.okWide Try.prog W .any base t v := hval0
  have hW' := hW
  obtain ⟨p, q, hA0, hV, rfl, hfz, hnd⟩ := hW
  have hA : DataW.TrodAll enc Try.prog W 0 (fun _ => true) true Try.f6.params.toList args.toList ds p := hA0
  rw [Try.params6] at hA hval hsz
  obtain ⟨v0, vs0, d0, ds0, p0, q0, hargs, rfl, rfl, h0, r0⟩ := trodAll_cons hA
  obtain ⟨v1, vs1, d1, ds1, p1, q1, rfl, rfl, rfl, h1, r1⟩ := trodAll_cons r0
  obtain ⟨v2, vs2, d2, ds2, p2, q2, rfl, rfl, rfl, h2, r2⟩ := trodAll_cons r1
  obtain ⟨rfl, rfl, rfl⟩ := trodAll_nil r2
  obtain rfl : args = #[v0, v1, v2] := by cases args; simp_all
  obtain ⟨rfl, rfl⟩ := trodVars_none hV
  obtain ⟨a0, len0, cap0, rfl⟩ := okWide_slice Try.underlying22 (hval 0 22 v0 rfl rfl)
  have lt0 : ∀ x ∈ p0, x.block < W.heap.size := by obtain ⟨m, hm⟩ := h0; exact DataW.trod_lt m _ _ _ hm
  obtain ⟨x0, e0, g0, s0⟩ := open_octs h0
  obtain ⟨a1, rfl, rfl, rfl, w1⟩ := open_int Try.underlying3 (hval 1 3 v1 rfl rfl) h1
  obtain ⟨a2, rfl, rfl, rfl, w2⟩ := open_int Try.underlying23 (hval 2 23 v2 rfl rfl) h2
  have m0 := reach_octs hsz (j := 0) rfl rfl s0
  clear hA0 hval0 hsz0 hsz
  refine (walk W a0 len0 cap0 x0 e0 g0 m0 a1 w1 a2 w2).mono fun e W' ⟨he, bel⟩ => ?_
  subst he
  exact ⟨_, rfl, _, _, _, [], _, [], hW', trodAll_mk1 (shut_bool Try.underlying4 _), (trodAll_cons_mk (Below.trod laidOut (by kernel_rfl) (of_decide_eq_true (by kernel_rfl)) h0 bel lt0) (trodAll_cons_mk (shut_int Try.underlying3 w1) (trodAll_cons_mk (shut_int Try.underlying23 w2) trodAll_mk0))), rfl, bel.frame _, fun h => by cases h⟩

theorem over : Rows.crcFindsRow.holds Try.pinned (OpenSpec.ofChange Rows.crcFindsSpec) :=
  OpenClaim.holds_of_wide 6 Try.f6 rfl rfl rfl rfl rfl rfl rfl ⟨rfl, rfl, rfl, rfl, rfl⟩ rfl rfl rfl rfl rfl (by kernel_rfl) Try.func6 (by kernel_rfl)
    (of_decide_eq_true (by kernel_rfl)) (by unfold Func.isWrapper; first | (rw [if_pos (by decide +kernel)]; kernel_rfl) | (rw [if_neg (by decide +kernel)]; exact ⟨rfl, rfl⟩))
    (fun os started H enc _ => lifted os started H enc)

end Go.Proofs.Ytakedbopjfaadaa.crcFinds
namespace Go.Proofs.Ytakedbopjfaadaa
/-- THE STATEMENT -/
theorem crcFinds_holds : Rows.CrcFindsSaid := crcFinds.over
end Go.Proofs.Ytakedbopjfaadaa
