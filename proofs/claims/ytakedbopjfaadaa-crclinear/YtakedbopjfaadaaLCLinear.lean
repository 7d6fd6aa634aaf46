/-
  PROVED: whatever three texts come in, transeptlaw02.CrcLinear returns true and leaves them as they were: the statement of P2.4 (the sum of three texts of one length, bit by bit exclusive or, is that of their sums). No condition beyond the form's own reach.
-/
import Derived.Deep.RegionWith
import Derived.Deep.RegionLaw
import Derived.Deep.AppendLies
import Derived.Test.YtakedbopjfaadaaFr
import Derived.Test.YtakedbopjfaadaaCAlive
import Derived.Test.YtakedbopjfaadaaApp
import Derived.Test.YtakedbopjfaadaaSub
namespace Go.Proofs.Ytakedbopjfaadaa.crcLinear
open Go.ChangeShapes Go.WideShapes Go.ChangeAt Go.RowKit
set_option linter.unusedVariables false

theorem mul_xor (k a b : Nat) : 2 ^ k * (a ^^^ b) = 2 ^ k * a ^^^ 2 ^ k * b := by
  apply Nat.eq_of_testBit_eq; intro i
  simp only [Nat.testBit_two_pow_mul, Nat.testBit_xor]
  cases decide (i ≥ k) <;> simp

theorem num_snoc (xs : List UInt8) (y : UInt8) : num (xs ++ [y]) = num xs ^^^ 2 ^ (8 * xs.length) * y.toNat := by
  induction xs with
  | nil => simp [num]
  | cons x xs ih =>
    show x.toNat ^^^ 2 ^ 8 * num (xs ++ [y]) = _
    rw [ih, mul_xor, ← Nat.xor_assoc, ← Nat.mul_assoc, ← Nat.pow_add, show 8 + 8 * xs.length = 8 * (x :: xs).length from by simp; omega]
    rfl

/-- the three texts, octet by octet -/
def xo (a b c : List UInt8) (i : Nat) : UInt8 := a.getD i 0 ^^^ b.getD i 0 ^^^ c.getD i 0
def xr (a b c : List UInt8) (k : Nat) : List UInt8 := (List.range k).map (xo a b c)
theorem xr_len (a b c : List UInt8) (k : Nat) : (xr a b c k).length = k := by simp [xr]
theorem xr_succ (a b c : List UInt8) (k : Nat) : xr a b c (k + 1) = xr a b c k ++ [xo a b c k] := by simp [xr, List.range_succ]
theorem take_snoc (a : List UInt8) (k : Nat) (h : k < a.length) : a.take (k + 1) = a.take k ++ [a.getD k 0] := by
  rw [List.take_add_one, List.getElem?_eq_getElem h]
  simp [h]
theorem num_take (a : List UInt8) (k : Nat) (h : k < a.length) : num (a.take (k + 1)) = num (a.take k) ^^^ 2 ^ (8 * k) * (a.getD k 0).toNat := by
  rw [take_snoc a k h, num_snoc, List.length_take, Nat.min_eq_left (by omega)]
theorem xor6 (a b c p q r : Nat) : a ^^^ b ^^^ c ^^^ (p ^^^ q ^^^ r) = (a ^^^ p) ^^^ (b ^^^ q) ^^^ (c ^^^ r) := by
  apply Nat.eq_of_testBit_eq; intro i
  simp only [Nat.testBit_xor]
  cases a.testBit i <;> cases b.testBit i <;> cases c.testBit i <;> cases p.testBit i <;> cases q.testBit i <;> cases r.testBit i <;> rfl
theorem xr_num (a b c : List UInt8) (k : Nat) (ha : k ≤ a.length) (hb : k ≤ b.length) (hc : k ≤ c.length) : num (xr a b c k) = num (a.take k) ^^^ num (b.take k) ^^^ num (c.take k) := by
  induction k with
  | zero => simp [xr, num]
  | succ k ih =>
    rw [xr_succ, num_snoc, xr_len, ih (by omega) (by omega) (by omega), num_take a k (by omega), num_take b k (by omega), num_take c k (by omega)]
    unfold xo
    rw [UInt8.toNat_xor, UInt8.toNat_xor, mul_xor, mul_xor, xor6]
theorem xor5 (f i a b c : Nat) : f ^^^ (i ^^^ (a ^^^ b ^^^ c)) = f ^^^ (i ^^^ a) ^^^ (f ^^^ (i ^^^ b)) ^^^ (f ^^^ (i ^^^ c)) := by
  apply Nat.eq_of_testBit_eq; intro j
  simp only [Nat.testBit_xor]
  cases f.testBit j <;> cases i.testBit j <;> cases a.testBit j <;> cases b.testBit j <;> cases c.testBit j <;> rfl
theorem xr_sum (a b c : List UInt8) (n : Nat) (ha : n ≤ a.length) (hb : n ≤ b.length) (hc : n ≤ c.length) : sum (xr a b c n) = sum (a.take n) ^^^ sum (b.take n) ^^^ sum (c.take n) := by
  have la : (a.take n).length = n := by simp; omega
  have lb : (b.take n).length = n := by simp; omega
  have lc : (c.take n).length = n := by simp; omega
  have e : ∀ xs : List UInt8, xs.length = n → sum xs = ff ^^^ (stn (8 * n) (inv 0) ^^^ stn (8 * n) (num xs)) := by
    intro xs h
    show ff ^^^ reg (inv 0) xs = _
    rw [reg_num, h, stn_xor]
  rw [e _ (xr_len a b c n), e _ la, e _ lb, e _ lc, xr_num a b c n ha hb hc, stn_xor, stn_xor]
  exact xor5 _ _ _ _ _

theorem xo_int (a b c : List UInt8) (k : Nat) : bits .xor .u8 (bits .xor .u8 (bt a k) (bt b k)) (bt c k) = ((xo a b c k).toNat : Int) := by
  unfold bt
  rw [u8_xor_nat _ _ (UInt8.toNat_lt _) (UInt8.toNat_lt _), u8_xor_nat _ _ (Nat.xor_lt_two_pow (n := 8) (UInt8.toNat_lt _) (UInt8.toNat_lt _)) (UInt8.toNat_lt _)]
  unfold xo
  rw [UInt8.toNat_xor, UInt8.toNat_xor]

theorem _root_.Go.Proofs.Ytakedbopjfaadaa.Rd.drew {w : World} {v : Value} {xs : List UInt8} (h : Rd w v xs) : Rd w.drew v xs := by
  obtain ⟨ao, cap, rfl, h1, h2, h3, h4⟩ := h
  exact ⟨ao, cap, rfl, h1, h2, h3, h4⟩
theorem rd_take {w : World} {a : Option Addr} {len cap : Nat} {xs : List UInt8} (h : Rd w (.slice a len cap) xs) {n : Nat} (hn : n ≤ len) : Rd w (.slice a n cap) (xs.take n) := by
  obtain ⟨ao, c, e, l1, m1, n1, r1⟩ := h
  simp only [Value.slice.injEq] at e
  obtain ⟨rfl, rfl, rfl⟩ := e
  have el : (xs.take n).length = n := by simp; omega
  refine ⟨a, cap, by rw [el], by rw [el]; omega, m1, n1, ?_⟩
  rcases r1 with rfl | ⟨b, off, rfl, hc⟩
  · left; simp
  · right
    refine ⟨b, off, rfl, fun i hi => ?_⟩
    rw [el] at hi
    rw [hc i (by omega)]
    simp only [bt]
    congr 3
    simp only [List.getD_eq_getElem?_getD, List.getElem?_take]
    rw [if_pos hi]
theorem run_min3 (x y z n : Nat) (hn : min (min x y) z = n) (w : World) : (Builtin.min_ #[3, 3, 3] 3 #[.int .i64 (x : Int), .int .i64 (y : Int), .int .i64 (z : Int)]).run Try.prog w = .ok (.int .i64 (n : Int)) w := by
  subst hn
  simp [Builtin.min_, Builtin.min2]
  split <;> split <;> omega

set_option maxHeartbeats 1000000 in
theorem walk (w : World) (a0 : Option Addr) (len0 cap0 : Nat) (x0 : List UInt8) (e0 : x0.length = len0) (g0 : Rd w (.slice a0 len0 cap0) x0) (m0 : len0 ≤ 140737488351232) (a1 : Option Addr) (len1 cap1 : Nat) (x1 : List UInt8) (e1 : x1.length = len1) (g1 : Rd w (.slice a1 len1 cap1) x1) (m1 : len1 ≤ 140737488351232) (a2 : Option Addr) (len2 cap2 : Nat) (x2 : List UInt8) (e2 : x2.length = len2) (g2 : Rd w (.slice a2 len2 cap2) x2) (m2 : len2 ≤ 140737488351232) :
    Calls Try.prog 5 #[.slice a0 len0 cap0, .slice a1 len1 cap1, .slice a2 len2 cap2] w fun e w' => e = .returned (.bool true) ∧ Below w.heap.size w w' := by
  go_enter Try.func5, Try.ntmps5
  go_wp2_with fail
  refine (alive_any w).mono ?_
  rintro e w1 ⟨rfl, b1⟩
  replace g0 := g0.to b1
  replace g1 := g1.to b1
  replace g2 := g2.to b1
  replace e0 := hide e0
  replace e1 := hide e1
  replace e2 := hide e2
  obtain ⟨n, hn⟩ : ∃ n, min (min len0 len1) len2 = n := ⟨_, rfl⟩
  have hmin := run_min3 len0 len1 len2 n hn
  have n0 : n ≤ len0 := by omega
  have n1 : n ≤ len1 := by omega
  have n2 : n ≤ len2 := by omega
  replace hn := hide hn
  go_wp2
  clear hmin hn
  go_loopw [8, 9] (fun v i wr => ∃ k : Nat, k ≤ n ∧ i = .int .i64 k ∧ OwnB w1.heap.size wr v (xr x0 x1 x2 k) ∧ Below w1.heap.size w1 wr) (fun _ i _ => n - (intOf i).toNat)
  case atStart => exact ⟨0, Nat.zero_le _, rfl, World.ownsRow_nil _ _ _ _, Below.refl _ _⟩
  case round =>
    obtain ⟨k, hk, rfl, ho, hb⟩ := hrel
    by_cases hlt : k < n
    · have hq : (k : Int) < (n : Int) := by omega
      obtain ⟨_, _, ee0, l0, _, _, r0⟩ := g0.to hb
      obtain ⟨_, _, ee1, l1, _, _, r1⟩ := g1.to hb
      obtain ⟨_, _, ee2, l2, _, _, r2⟩ := g2.to hb
      cases ee0
      cases ee1
      cases ee2
      rcases r0 with r0 | ⟨b0, o0, rfl, hc0⟩
      · rw [r0] at n0; simp at n0; omega
      rcases r1 with r1 | ⟨b1, o1, rfl, hc1⟩
      · rw [r1] at n1; simp at n1; omega
      rcases r2 with r2 | ⟨b2, o2, rfl, hc2⟩
      · rw [r2] at n2; simp at n2; omega
      have t0 := hc0 k (by omega)
      have t1 := hc1 k (by omega)
      have t2 := hc2 k (by omega)
      have q0 : (k : Int) < (x0.length : Int) := by omega
      have q1 : (k : Int) < (x1.length : Int) := by omega
      have q2 : (k : Int) < (x2.length : Int) := by omega
      have HX := xo_int x0 x1 x2 k
      have HE := hide (xr_succ x0 x1 x2 k)
      have hl : (xr x0 x1 x2 k).length ≤ 140737488351232 := by rw [xr_len]; omega
      have v0 := bt_bd x0 k
      have v1 := bt_bd x1 k
      have v2 := bt_bd x2 k
      clear hc0 hc1 hc2
      generalize bt x0 k = y0 at *
      generalize bt x1 k = y1 at *
      generalize bt x2 k = y2 at *
      generalize xo x0 x1 x2 k = y at *
      generalize xr x0 x1 x2 k = X at *
      obtain ⟨i0, hi, hz0, hz1, hz2⟩ := info_parts info8
      have hl' : X.length ≤ 140737488351232 := hl
      have h63 : X.length + 1 ≤ maxLen := by rw [show maxLen = 9223372036854775807 from rfl]; omega
      have hby : (X.length + 1) * 1 ≤ 140737488355328 := by omega
      have hbs := hb.size
      have HNB := hide (World.news_of_block (cs := #[.int .u8 (y.toNat : Int)]) (t := 5) (fr := (0, 0)) (heap_alloc_last wr (.cells #[.int .u8 (y.toNat : Int)] 5)))
      have HFIN : Hid (∀ gg cp w5, World.ownsRow w5 w1.heap.size 5 1 (.slice (some ⟨gg, 0, none⟩) (X.length + 1) cp) (X.length + 1) (X.map enc ++ [.int .u8 (y.toNat : Int)]) →
          (wr.alloc (.cells #[.int .u8 (y.toNat : Int)] 5)).drew.grownBy w5 u8.ownBlock → OwnB w1.heap.size w5 (.slice (some ⟨gg, 0, none⟩) (X.length + 1) cp) (X ++ [y]) ∧ Below w1.heap.size w1 w5) := by
        intro gg cp w5 h1 h2
        refine ⟨?_, ?_⟩
        · unfold OwnB
          simpa [enc] using h1
        · exact ((hb.alloc hb.size _).drew).grown h2 (by simp; omega) ho.from
      have HO := hide ho
      have HB := hide hb
      unfold OwnB at HO
      clear ho hb
      go_wp2
      go_region_law
        ((refine step_append_lies _ (by rfl) _ _ _ (by rfl) w1.heap.size 5 i0 _ 1 1 Try.underlying22 hi hz0 hz1 hz2 rfl (by omega) u8 X.length (X.map enc) (by rfl) ((HO.out.alloc _).drew)
              ⟨wr.heap.size, 0, none⟩ 1 1 [.int .u8 (y.toNat : Int)] (by rfl) (by rfl) HNB.out (by simp [Value.oneCell'])
              (by omega) h63 hby (by simp; omega) (wr.heap.size + 1) (by simp) ?_; intro gg cp w5 ho5 hgrow hat5 hlt5))
      all_goals
        have HF := hide (HFIN.out gg cp w5 ho5 hgrow)
        rw [← HE.out] at HF
        clear ho5 hgrow hat5 hlt5 HFIN HO HB HNB HE
        go_wp2
        go_roundw
        case rel => exact ⟨k + 1, by omega, by go_num, HF.out.1, HF.out.2⟩
        case measure => simp [intOf]; omega
    · obtain rfl : k = n := by omega
      have r3 := ho.rd
      replace g0 := g0.to hb
      replace g1 := g1.to hb
      replace g2 := g2.to hb
      have c3 := b1.trans (hb.mono b1.size)
      have k0 : (k : Int) ≤ (cap0 : Int) := by obtain ⟨_, _, e, l, _⟩ := g0; cases e; omega
      have k1 : (k : Int) ≤ (cap1 : Int) := by obtain ⟨_, _, e, l, _⟩ := g1; cases e; omega
      have k2 : (k : Int) ≤ (cap2 : Int) := by obtain ⟨_, _, e, l, _⟩ := g2; cases e; omega
      replace g0 := (rd_take g0 n0).drew
      replace g1 := (rd_take g1 n1).drew
      replace g2 := (rd_take g2 n2).drew
      replace r3 := r3.drew
      replace c3 := c3.drew
      have HS := hide (xr_sum x0 x1 x2 k (by rw [e0.out]; exact n0) (by rw [e1.out]; exact n1) (by rw [e2.out]; exact n2))
      have h0 : (x0.take k).length ≤ 1000000000000000 := by simp; omega
      have h1 : (x1.take k).length ≤ 1000000000000000 := by simp; omega
      have h2 : (x2.take k).length ≤ 1000000000000000 := by simp; omega
      have h3 : (xr x0 x1 x2 k).length ≤ 1000000000000000 := by rw [xr_len]; omega
      have s0 := sum_lt (x0.take k)
      have s1 := sum_lt (x1.take k)
      have s2 := sum_lt (x2.take k)
      have X1 := hide (xor_int _ _ s0 s1)
      have X2 := hide (xor_int _ _ (xor_lt s0 s1) s2)
      rw [← HS.out] at X2
      clear ho hb b1 s0 s1 s2 HS e0 e1 e2 hlt hk
      generalize xr x0 x1 x2 k = X at *
      generalize x0.take k = Y0 at *
      generalize x1.take k = Y1 at *
      generalize x2.take k = Y2 at *
      go_wp2
      go_region_with (first
        | (go_at_call_of 11 u8; refine (sum_any _ _ X r3 h3).mono ?_; rintro e w4 ⟨rfl, b4⟩; have c4 := c3.trans (b4.mono c3.size); replace g0 := g0.to b4; replace g1 := g1.to b4; replace g2 := g2.to b4; clear b4 r3 c3)
        | (go_at_call_of 11 (Value.slice a0 k cap0); refine (sum_any _ _ Y0 g0 h0).mono ?_; rintro e w5 ⟨rfl, b5⟩; have c5 := c4.trans (b5.mono c4.size); replace g1 := g1.to b5; replace g2 := g2.to b5; clear b5 g0 c4)
        | (go_at_call_of 11 (Value.slice a1 k cap1); refine (sum_any _ _ Y1 g1 h1).mono ?_; rintro e w6 ⟨rfl, b6⟩; have c6 := c5.trans (b6.mono c5.size); replace g2 := g2.to b6; clear b6 g1 c5)
        | (go_at_call_of 11 (Value.slice a2 k cap2); refine (sum_any _ _ Y2 g2 h2).mono ?_; rintro e w7 ⟨rfl, b7⟩; have c7 := c6.trans (b7.mono c6.size); clear b7 g2 c6))
      go_wp2
      go_ret
      exact ⟨ret_bool (by rw [X1.out, X2.out]; simp), c7⟩

set_option maxRecDepth 100000 in
theorem lifted (os : Os) (started : os.Started) (H : Type) (enc : TypeId × Value → H) :
    ReturnsInHanded {} Try.checked os 5 .any (Rows.crcLinearSpec.pre6 enc Try.prog Try.f5 Rows.crcLinearRow.domain false) (Rows.crcLinearSpec.post enc Try.prog Try.f5 false true false false) := by
  refine returnsInHanded_of_change_sized (C := Try.checked) own started (by kernel_rfl) Try.func5
    (ChangeSpec.witness6 (enc := enc) (C := Try.checked) false ⟨#[], #[.slice none 0 0, .slice none 0 0, .slice none 0 0], []⟩ 8 (by kernel_rfl) (by kernel_rfl) (by kernel_rfl) (by kernel_rfl)) ?_
  intro W base args ds gs before hval0 hW hcnd hsz0 _
  have hsz : (DataW.weightsEach Try.prog (Try.f5.params.toList ++ Rows.crcLinearSpec.plain.varTypes Try.prog) (ds ++ gs)).all (· ≤ reachBytes) = true := hsz0
  have hval : ∀ (j : Nat) t v, Try.f5.params[j]? = some t → args[j]? = some v → Value.okWide Try.prog W .any base t v := hval0
  have hW' := hW
  obtain ⟨p, q, hA0, hV, rfl, hfz, hnd⟩ := hW
  have hA : DataW.TrodAll enc Try.prog W 0 (fun _ => true) true Try.f5.params.toList args.toList ds p := hA0
  rw [Try.params5] at hA hval hsz
  obtain ⟨v0, vs0, d0, ds0, p0, q0, hargs, rfl, rfl, h0, r0⟩ := trodAll_cons hA
  obtain ⟨v1, vs1, d1, ds1, p1, q1, rfl, rfl, rfl, h1, r1⟩ := trodAll_cons r0
  obtain ⟨v2, vs2, d2, ds2, p2, q2, rfl, rfl, rfl, h2, r2⟩ := trodAll_cons r1
  obtain ⟨rfl, rfl, rfl⟩ := trodAll_nil r2
  obtain rfl : args = #[v0, v1, v2] := by cases args; simp_all
  obtain ⟨rfl, rfl⟩ := trodVars_none hV
  obtain ⟨a0, len0, cap0, rfl⟩ := okWide_slice Try.underlying22 (hval 0 22 v0 rfl rfl)
  have lt0 : ∀ x ∈ p0, x.block < W.heap.size := by obtain ⟨m, hm⟩ := h0; exact DataW.trod_lt m _ _ _ hm
  obtain ⟨x0, e0, g0, s0⟩ := open_octs h0
  obtain ⟨a1, len1, cap1, rfl⟩ := okWide_slice Try.underlying22 (hval 1 22 v1 rfl rfl)
  have lt1 : ∀ x ∈ p1, x.block < W.heap.size := by obtain ⟨m, hm⟩ := h1; exact DataW.trod_lt m _ _ _ hm
  obtain ⟨x1, e1, g1, s1⟩ := open_octs h1
  obtain ⟨a2, len2, cap2, rfl⟩ := okWide_slice Try.underlying22 (hval 2 22 v2 rfl rfl)
  have lt2 : ∀ x ∈ p2, x.block < W.heap.size := by obtain ⟨m, hm⟩ := h2; exact DataW.trod_lt m _ _ _ hm
  obtain ⟨x2, e2, g2, s2⟩ := open_octs h2
  have m0 := reach_octs hsz (j := 0) rfl rfl s0
  have m1 := reach_octs hsz (j := 1) rfl rfl s1
  have m2 := reach_octs hsz (j := 2) rfl rfl s2
  clear hA0 hval0 hsz0 hsz
  refine (walk W a0 len0 cap0 x0 e0 g0 m0 a1 len1 cap1 x1 e1 g1 m1 a2 len2 cap2 x2 e2 g2 m2).mono fun e W' ⟨he, bel⟩ => ?_
  subst he
  exact ⟨_, rfl, _, _, _, [], _, [], hW', trodAll_mk1 (shut_bool Try.underlying4 _), (trodAll_cons_mk (Below.trod laidOut (by kernel_rfl) (of_decide_eq_true (by kernel_rfl)) h0 bel lt0) (trodAll_cons_mk (Below.trod laidOut (by kernel_rfl) (of_decide_eq_true (by kernel_rfl)) h1 bel lt1) (trodAll_cons_mk (Below.trod laidOut (by kernel_rfl) (of_decide_eq_true (by kernel_rfl)) h2 bel lt2) trodAll_mk0))), rfl, bel.frame _, fun h => by cases h⟩

theorem over : Rows.crcLinearRow.holds Try.pinned (OpenSpec.ofChange Rows.crcLinearSpec) :=
  OpenClaim.holds_of_wide 5 Try.f5 rfl rfl rfl rfl rfl rfl rfl ⟨rfl, rfl, rfl, rfl, rfl⟩ rfl rfl rfl rfl rfl (by kernel_rfl) Try.func5 (by kernel_rfl)
    (of_decide_eq_true (by kernel_rfl)) (by unfold Func.isWrapper; first | (rw [if_pos (by decide +kernel)]; kernel_rfl) | (rw [if_neg (by decide +kernel)]; exact ⟨rfl, rfl⟩))
    (fun os started H enc _ => lifted os started H enc)

end Go.Proofs.Ytakedbopjfaadaa.crcLinear
namespace Go.Proofs.Ytakedbopjfaadaa
/-- THE STATEMENT -/
theorem crcLinear_holds : Rows.CrcLinearSaid := crcLinear.over
end Go.Proofs.Ytakedbopjfaadaa
