/-
  PROVED: whatever three lists of octets come in, transeptlaw01.OctetsApart returns true and leaves them as they were: the statement of P1.6 (a distance). No condition but the form's own.
-/
import Derived.Test.YtoijklenmjllcaaFrame
import Derived.Test.YtoijklenmjllcaaWeight
import Derived.Laws.Cover1
namespace Go.Proofs.Ytoijklenmjllcaa.octetsApart
open Go.ChangeShapes Go.WideShapes Go.ChangeAt Go.RowKit
set_option linter.unusedVariables false

theorem rd_take {w : World} {a : Option Addr} {len cap : Nat} {xs : List UInt8} (h : Rd w (.slice a len cap) xs) (hl : xs.length = len) (n : Nat) (hn : n ≤ len) : Rd w (.slice a n cap) (xs.take n) := by
  obtain ⟨ao, c, hv, h1, h2, h3, h4⟩ := h
  simp only [Value.slice.injEq] at hv
  obtain ⟨rfl, _, rfl⟩ := hv
  have e : (xs.take n).length = n := by simp; omega
  refine ⟨a, cap, by rw [e], by rw [e]; omega, h2, h3, ?_⟩
  rcases h4 with rfl | ⟨b, off, rfl, hc⟩
  · left; simp
  · right
    refine ⟨b, off, rfl, fun i hi => ?_⟩
    rw [e] at hi
    rw [hc i (by omega)]
    simp [bt, hi]

set_option maxHeartbeats 1000000 in
theorem walk (a0 : Option Addr) (len0 cap0 : Nat) (a1 : Option Addr) (len1 cap1 : Nat) (a2 : Option Addr) (len2 cap2 : Nat) (w : World) (x0 x1 x2 : List UInt8)
    (l0 : x0.length = len0) (l1 : x1.length = len1) (l2 : x2.length = len2) (r0 : Rd w (.slice a0 len0 cap0) x0) (r1 : Rd w (.slice a1 len1 cap1) x1) (r2 : Rd w (.slice a2 len2 cap2) x2)
    (m0 : len0 ≤ 140737488351232) (m1 : len1 ≤ 140737488351232) (m2 : len2 ≤ 140737488351232) :
    Calls Try.prog 5 #[.slice a0 len0 cap0, .slice a1 len1 cap1, .slice a2 len2 cap2] w fun e w' => e = .returned (.bool true) ∧ Below w.heap.size w w' := by
  obtain ⟨n, hn0, hn1, hn2, hmin⟩ : ∃ n : Nat, n ≤ len0 ∧ n ≤ len1 ∧ n ≤ len2 ∧ ∀ u : World, (Builtin.min_ #[3, 3, 3] 3 #[.int .i64 (len0 : Int), .int .i64 (len1 : Int), .int .i64 (len2 : Int)]).run Try.prog u = .ok (.int .i64 (n : Int)) u := by
    refine ⟨min (min len0 len1) len2, by omega, by omega, by omega, fun u => ?_⟩
    rw [run_min_int3]
    congr 2
    split <;> split <;> omega
  have c0 : len0 ≤ cap0 ∧ cap0 ≤ 9223372036854775807 := by
    obtain ⟨ao, c, hv, h1, h2, _⟩ := r0
    simp only [Value.slice.injEq] at hv; unfold maxLen at h2; omega
  have c1 : len1 ≤ cap1 ∧ cap1 ≤ 9223372036854775807 := by
    obtain ⟨ao, c, hv, h1, h2, _⟩ := r1
    simp only [Value.slice.injEq] at hv; unfold maxLen at h2; omega
  have c2 : len2 ≤ cap2 ∧ cap2 ≤ 9223372036854775807 := by
    obtain ⟨ao, c, hv, h1, h2, _⟩ := r2
    simp only [Value.slice.injEq] at hv; unfold maxLen at h2; omega
  have q0 := rd_take r0 l0 n hn0
  have q1 := rd_take r1 l1 n hn1
  have q2 := rd_take r2 l2 n hn2
  have t0 : (x0.take n).length = n := by simp; omega
  have t1 : (x1.take n).length = n := by simp; omega
  have t2 : (x2.take n).length = n := by simp; omega
  have hn : n ≤ 140737488351232 := by omega
  generalize x0.take n = y0 at *
  generalize x1.take n = y1 at *
  generalize x2.take n = y2 at *
  clear r0 r1 r2 l0 l1 l2 x0 x1 x2
  have T0 := hide t0
  have T1 := hide t1
  have T2 := hide t2
  clear t0 t1 t2
  have eXY : ap y1 y0 = ap y0 y1 := ap_comm _ _ (by rw [T1.out, T0.out])
  have hW : ap y0 y2 ≤ ap y0 y1 + ap y1 y2 := ap_tri _ _ _ (by rw [T1.out, T0.out])
  have hS := ap_same y0 y1 (by rw [T1.out, T0.out])
  have eV : ap y0 (List.replicate n 0) = wt y0 := by rw [← T0.out]; exact ap_zeros y0
  have bX : ap y0 y1 ≤ 8 * n := by rw [← T0.out]; exact ap_le _ _
  have bZ : ap y1 y2 ≤ 8 * n := by rw [← T1.out]; exact ap_le _ _
  have bV : wt y0 ≤ 8 * n := by rw [← T0.out]; exact wt_le _
  have k01 : ∀ u, Below w.heap.size w u → Calls Try.prog 9 #[.slice a0 n cap0, .slice a1 n cap1] u fun e w' => e = .returned (.tuple #[.int .i64 (ap y0 y1 : Nat), .int .i64 0]) ∧ ∃ n, w' = u.drewN n :=
    fun u hu => apart_any u _ _ y0 y1 (q0.to hu) (q1.to hu) (by rw [T1.out, T0.out]) (by rw [T0.out]; omega)
  have k10 : ∀ u, Below w.heap.size w u → Calls Try.prog 9 #[.slice a1 n cap1, .slice a0 n cap0] u fun e w' => e = .returned (.tuple #[.int .i64 (ap y0 y1 : Nat), .int .i64 0]) ∧ ∃ n, w' = u.drewN n :=
    fun u hu => by rw [← eXY]; exact apart_any u _ _ y1 y0 (q1.to hu) (q0.to hu) (by rw [T1.out, T0.out]) (by rw [T1.out]; omega)
  have k12 : ∀ u, Below w.heap.size w u → Calls Try.prog 9 #[.slice a1 n cap1, .slice a2 n cap2] u fun e w' => e = .returned (.tuple #[.int .i64 (ap y1 y2 : Nat), .int .i64 0]) ∧ ∃ n, w' = u.drewN n :=
    fun u hu => apart_any u _ _ y1 y2 (q1.to hu) (q2.to hu) (by rw [T1.out, T2.out]) (by rw [T1.out]; omega)
  have k02 : ∀ u, Below w.heap.size w u → Calls Try.prog 9 #[.slice a0 n cap0, .slice a2 n cap2] u fun e w' => e = .returned (.tuple #[.int .i64 (ap y0 y2 : Nat), .int .i64 0]) ∧ ∃ n, w' = u.drewN n :=
    fun u hu => apart_any u _ _ y0 y2 (q0.to hu) (q2.to hu) (by rw [T0.out, T2.out]) (by rw [T0.out]; omega)
  have k0z : ∀ u, Below w.heap.size w u → Calls Try.prog 9 #[.slice a0 n cap0, .slice (some ⟨u.heap.size, 0, none⟩) n n] (u.alloc (.cells (madeCells #[.int .u8 0] n) 5)) fun e w' => e = .returned (.tuple #[.int .i64 (wt y0 : Nat), .int .i64 0]) ∧ ∃ m, w' = (u.alloc (.cells (madeCells #[.int .u8 0] n) 5)).drewN m :=
    fun u hu => by rw [← eV]; exact apart_any _ _ _ y0 _ (q0.to (hu.alloc hu.size _)) (own_made u n (by unfold maxLen; omega)).rd (by rw [T0.out]; simp) (by rw [T0.out]; omega)
  have kw : ∀ u, Below w.heap.size w u → Calls Try.prog 16 #[.slice a0 n cap0] u fun e w' => e = .returned (.int .i64 (wt y0 : Nat)) ∧ w' = u :=
    fun u hu => weight_any u _ y0 (q0.to hu) (by rw [T0.out]; omega)
  have ks : ∀ u, Below w.heap.size w u → Calls Try.prog 13 #[.slice a0 n cap0, .slice a1 n cap1] u fun e w' => e = .returned (.bool (sameB y0 y1)) ∧ ∃ n, w' = u.drewN n :=
    fun u hu => same_any u _ _ y0 y1 (q0.to hu) (q1.to hu)
  clear eXY eV
  generalize ap y0 y1 = X at *
  generalize ap y1 y2 = Z at *
  generalize ap y0 y2 = Y at *
  generalize wt y0 = V at *
  generalize sameB y0 y1 = S at *
  have hXS : ((X : Int) == 0) = S := by
    cases S <;> simp at hS ⊢ <;> omega
  clear hS
  have K01 := hide k01
  have K10 := hide k10
  have K12 := hide k12
  have K02 := hide k02
  have K0z := hide k0z
  have KW := hide kw
  have KS := hide ks
  have hmk := fun u => make_octs (n := n) (by omega) u
  clear k01 k10 k12 k02 k0z kw ks q0 q1 q2 T0 T1 T2
  go_enter Try.func5, Try.ntmps5
  go_wp2_with fail
  refine (alive_any w).mono ?_
  rintro e w1 ⟨rfl, b1⟩
  go_wp2_with fail
  go_quiet (fail)
  have b2 : Below w.heap.size w (w1.drewN nq) := b1.trans (below_drewN' _ _ _)
  generalize w1.drewN nq = W1 at *
  clear b1
  go_wp2_with fail
  refine (K01.out _ b2).mono ?_
  rintro e u2 ⟨rfl, m, hu⟩
  have b3 : Below w.heap.size w u2 := by rw [hu]; exact b2.trans (below_drewN' _ _ _)
  clear hu b2
  go_wp2_with fail
  refine (K10.out _ b3).mono ?_
  rintro e u3 ⟨rfl, m, hu⟩
  have b4 : Below w.heap.size w u3 := by rw [hu]; exact b3.trans (below_drewN' _ _ _)
  clear hu b3
  go_wp2_with fail
  refine (K12.out _ b4).mono ?_
  rintro e u4 ⟨rfl, m, hu⟩
  have b5 : Below w.heap.size w u4 := by rw [hu]; exact b4.trans (below_drewN' _ _ _)
  clear hu b4
  go_wp2_with fail
  refine (K02.out _ b5).mono ?_
  rintro e u5 ⟨rfl, m, hu⟩
  have b6 : Below w.heap.size w u5 := by rw [hu]; exact b5.trans (below_drewN' _ _ _)
  clear hu b5
  go_wp2_with fail
  refine (K0z.out _ b6).mono ?_
  rintro e u6 ⟨rfl, m, hu⟩
  have b7 : Below w.heap.size w u6 := by rw [hu]; exact (b6.alloc b6.size _).trans (below_drewN' _ _ _)
  clear hu b6
  go_wp2_with (go_at_call 18; refine (num_any _ _).mono ?_; rintro e w' ⟨rfl, rfl⟩)
  refine (KS.out _ b7).mono ?_
  rintro e u8 ⟨rfl, m, hu⟩
  have b8 : Below w.heap.size w u8 := by rw [hu]; exact b7.trans (below_drewN' _ _ _)
  clear hu b7
  go_wp2_with fail
  refine (KW.out _ b8).mono ?_
  rintro e u9 ⟨rfl, rfl⟩
  go_wp2
  go_ret
  exact ⟨rfl, b8⟩

set_option maxRecDepth 100000 in
theorem lifted (os : Os) (started : os.Started) (H : Type) (enc : TypeId × Value → H) :
    ReturnsInHanded {} Try.checked os 5 .any (Rows.octetsApartSpec.pre6 enc Try.prog Try.f5 Rows.octetsApartRow.domain false) (Rows.octetsApartSpec.post enc Try.prog Try.f5 false true false false) := by
  refine returnsInHanded_of_change_sized (C := Try.checked) own started (by kernel_rfl) Try.func5
    (ChangeSpec.witness6 (enc := enc) (C := Try.checked) false ⟨#[], #[.slice none 0 0, .slice none 0 0, .slice none 0 0], []⟩ 8 (by kernel_rfl) (by kernel_rfl) (by kernel_rfl) (by kernel_rfl)) ?_
  intro W base args ds gs before hval0 hW hcnd hsz0 _
  have hval : ∀ (j : Nat) t v, Try.f5.params[j]? = some t → args[j]? = some v → Value.okWide Try.prog W .any base t v := hval0
  have hsz : (DataW.weightsEach Try.prog (Try.f5.params.toList ++ Rows.octetsApartSpec.plain.varTypes Try.prog) (ds ++ gs)).all (· ≤ reachBytes) = true := hsz0
  have hW' := hW
  obtain ⟨p, q, hA0, hV, rfl, hfz, hnd⟩ := hW
  have hA : DataW.TrodAll enc Try.prog W 0 (fun _ => true) true Try.f5.params.toList args.toList ds p := hA0
  rw [Try.params5] at hA hval hsz
  obtain ⟨v0, vs0, d0, ds0, p0, q0, hargs, rfl, rfl, h0, r0⟩ := trodAll_cons hA
  obtain ⟨v1, vs1, d1, ds1, p1, q1, rfl, rfl, rfl, h1, r1⟩ := trodAll_cons r0
  obtain ⟨v2, vs2, d2, ds2, p2, q2, rfl, rfl, rfl, h2, r2⟩ := trodAll_cons r1
  obtain ⟨rfl, rfl, rfl⟩ := trodAll_nil r2
  obtain rfl : args = #[v0, v1, v2] := by cases args; simp_all
  obtain ⟨rfl, rfl⟩ := trodVars_none hV
  obtain ⟨a0, len0, cap0, rfl⟩ := okWide_slice Try.underlying22 (hval 0 22 v0 rfl rfl)
  obtain ⟨a1, len1, cap1, rfl⟩ := okWide_slice Try.underlying22 (hval 1 22 v1 rfl rfl)
  obtain ⟨a2, len2, cap2, rfl⟩ := okWide_slice Try.underlying22 (hval 2 22 v2 rfl rfl)
  have lt0 : ∀ x ∈ p0, x.block < W.heap.size := by obtain ⟨m, hm⟩ := h0; exact DataW.trod_lt m _ _ _ hm
  have lt1 : ∀ x ∈ p1, x.block < W.heap.size := by obtain ⟨m, hm⟩ := h1; exact DataW.trod_lt m _ _ _ hm
  have lt2 : ∀ x ∈ p2, x.block < W.heap.size := by obtain ⟨m, hm⟩ := h2; exact DataW.trod_lt m _ _ _ hm
  obtain ⟨x0, e0, g0, s0⟩ := open_octs h0
  obtain ⟨x1, e1, g1, s1⟩ := open_octs h1
  obtain ⟨x2, e2, g2, s2⟩ := open_octs h2
  have m0 := reach_octs hsz (j := 0) rfl rfl s0
  have m1 := reach_octs hsz (j := 1) rfl rfl s1
  have m2 := reach_octs hsz (j := 2) rfl rfl s2
  clear hA0 hval0 hsz0 hsz
  refine (walk a0 len0 cap0 a1 len1 cap1 a2 len2 cap2 W x0 x1 x2 e0 e1 e2 g0 g1 g2 m0 m1 m2).mono fun e W' ⟨he, bel⟩ => ?_
  subst he
  exact ⟨_, rfl, _, _, _, [], _, [], hW', trodAll_mk1 (shut_bool Try.underlying4 _), (trodAll_cons_mk (Below.trod laidOut (by kernel_rfl) (of_decide_eq_true (by kernel_rfl)) h0 bel lt0) (trodAll_cons_mk (Below.trod laidOut (by kernel_rfl) (of_decide_eq_true (by kernel_rfl)) h1 bel lt1) (trodAll_cons_mk (Below.trod laidOut (by kernel_rfl) (of_decide_eq_true (by kernel_rfl)) h2 bel lt2) trodAll_mk0))), rfl, bel.frame _, fun h => by cases h⟩

theorem over : Rows.octetsApartRow.holds Try.pinned (OpenSpec.ofChange Rows.octetsApartSpec) :=
  OpenClaim.holds_of_wide 5 Try.f5 rfl rfl rfl rfl rfl rfl rfl ⟨rfl, rfl, rfl, rfl, rfl⟩ rfl rfl rfl rfl rfl (by kernel_rfl) Try.func5 (by kernel_rfl)
    (of_decide_eq_true (by kernel_rfl)) (by unfold Func.isWrapper; first | (rw [if_pos (by decide +kernel)]; kernel_rfl) | (rw [if_neg (by decide +kernel)]; exact ⟨rfl, rfl⟩))
    (fun os started H enc _ => lifted os started H enc)

end Go.Proofs.Ytoijklenmjllcaa.octetsApart
namespace Go.Proofs.Ytoijklenmjllcaa
/-- THE STATEMENT -/
theorem octetsApart_holds : Rows.OctetsApartSaid := octetsApart.over
end Go.Proofs.Ytoijklenmjllcaa
