/- Several texts in one: LQShares. -/
import Derived.Deep.Cut
import Derived.Deep.CutRange
import Derived.Test.YtnkbolgbpdjpcaaGoLQShares1
set_option linter.unusedVariables false
set_option linter.unusedSimpArgs false
namespace Go.Proofs.Ytnkbolgbpdjpcaa.quorumShares
open Go.ChangeShapes Go.WideShapes Go.ChangeAt Go.RowKit
theorem com_next {a b : List Bool} {k : Nat} {x y : Bool} (hx : a[k]? = some x) (hy : b[k]? = some y) :
  (∃ i, i < k + 1 ∧ a[i]? = some true ∧ b[i]? = some true) ↔ (∃ i, i < k ∧ a[i]? = some true ∧ b[i]? = some true) ∨ (x = true ∧ y = true) := by
 constructor
 ·rintro ⟨i, h1, h2, h3⟩
  by_cases e : i = k
  ·subst e
   rw [hx] at h2; rw [hy] at h3
   exact .inr ⟨by simpa using h2, by simpa using h3⟩
  ·exact .inl ⟨i, by omega, h2, h3⟩
 ·rintro (⟨i, h1, h2, h3⟩ | ⟨rfl, rfl⟩)
  ·exact ⟨i, by omega, h2, h3⟩
  ·exact ⟨k, by omega, hx, hy⟩
theorem qwin_form (v : List Bool) : qwin v = (false, 3) ∨ ((qwin v).2 = 0 ∧ ¬ qbad v.length) := by
 unfold qwin
 split
 ·exact .inl rfl
 ·exact .inr ⟨rfl, by assumption⟩
set_option maxRecDepth 100000 in
set_option maxHeartbeats 4000000 in
theorem walk (w : World) (a0 : Option Addr) (len0 cap0 : Nat) (a : List Bool) (g0 : SBoolL.rd w [.slice a0 len0 cap0] a) (m0 : a.length * 1 ≤ 140737488351232 ∧ ∀ x ∈ a, True) (a1 : Option Addr) (len1 cap1 : Nat) (b : List Bool) (g1 : SBoolL.rd w [.slice a1 len1 cap1] b) (m1 : b.length * 1 ≤ 140737488351232 ∧ ∀ x ∈ b, True) :
  Calls Try.prog 4 #[.slice a0 len0 cap0, .slice a1 len1 cap1] w fun e w' => e = .returned (.bool true) ∧ Below w.heap.size w w' := by
 obtain ⟨v0, e0, R0⟩ := g0
 obtain rfl : v0 = .slice a0 len0 cap0 := by simpa using e0.symm
 obtain ⟨v1, e1, R1⟩ := g1
 obtain rfl : v1 = .slice a1 len1 cap1 := by simpa using e1.symm
 obtain ⟨_, _, e⟩ := R0.slice
 simp only [Value.slice.injEq] at e
 obtain ⟨rfl, rfl, rfl⟩ := e
 obtain ⟨_, _, e⟩ := R1.slice
 simp only [Value.slice.injEq] at e
 obtain ⟨rfl, rfl, rfl⟩ := e
 obtain ⟨c0, k0⟩ := rdS_cap14 R0
 obtain ⟨c1, k1⟩ := rdS_cap14 R1
 clear e0 e1 m0 m1
 have H0 := hide R0
 have H1 := hide R1
 clear R0 R1
 obtain ⟨n, hn⟩ : ∃ n, n = min a.length b.length := ⟨_, rfl⟩
 have n0 : n ≤ a.length := by omega
 have n1 : n ≤ b.length := by omega
 have lA : (a.take n).length = n := by rw [List.length_take]; omega
 have lB : (b.take n).length = n := by rw [List.length_take]; omega
 have LA := hide lA
 have LB := hide lB
 have HN := hide hn
 have KV := hide (qalive_any w)
 clear hn lA lB
 go_enter Try.func4, Try.ntmps4
 go_wp2_with fail
 refine KV.out.mono ?_
 rintro e w1 ⟨rfl, b1⟩
 have B1 := hide b1
 clear b1 KV
 have q0 : (n : Int) ≤ (cap0 : Int) := by omega
 have q1 : (n : Int) ≤ (cap1 : Int) := by omega
 have q2 : (n : Int) ≤ (a.length : Int) := by omega
 have q3 : (n : Int) ≤ (b.length : Int) := by omega
 have KA := hide (pwins_any w1 _ _ (rdS_front14 (H0.out.to0 B1.out) n0))
 have KB := hide (pwins_any w1 _ _ (rdS_front14 (H1.out.to0 B1.out) n1))
 go_upto_region 3 with fail
 go_cut [5] from 14 to 18 (fun s wx => s = .int .i64 (n : Int) ∧ w1 = wx)
 case first =>
  go_wp2_with fail
  all_goals (go_meet; exact ⟨by congr 1; have := HN.out; omega, rfl⟩)
 case rest =>
 obtain ⟨rfl, rfl⟩ := hcut
 obtain ⟨x, e, hx⟩ : ∃ x e, qwin (a.take n) = (x, e) := ⟨_, _, rfl⟩
 obtain ⟨y, f, hy⟩ : ∃ y f, qwin (b.take n) = (y, f) := ⟨_, _, rfl⟩
 rw [hx] at KA
 rw [hy] at KB
 have HX := hide hx
 have HY := hide hy
 dsimp only at KA KB
 clear hx hy
 have N1 := hide (fun n => qnum_any w1 n)
 by_cases hb : qbad n
 ·have h1 : e = 3 ∧ f = 3 := by
   have h1 := HX.out
   have h2 := HY.out
   unfold qwin at h1 h2
   rw [LA.out, if_pos hb] at h1
   rw [LB.out, if_pos hb] at h2
   exact ⟨(Prod.mk.inj h1).2.symm, (Prod.mk.inj h2).2.symm⟩
  obtain ⟨rfl, rfl⟩ := h1
  go_wp2_with fail
  refine KA.out.mono ?_
  rintro e w9 ⟨rfl, rfl⟩
  go_wp2_with fail
  refine KB.out.mono ?_
  rintro e w9 ⟨rfl, rfl⟩
  go_wp2_with fail
  refine (N1.out _).mono ?_
  rintro e w9 ⟨rfl, rfl⟩
  by_cases hb1 : n < 1
  ·have hb2 : (n : Int) < 1 := by omega
   clear hb
   go_wp2
   go_ret
   exact ⟨rfl, B1.out⟩
  ·have hb2 : ¬ (n : Int) < 1 := by omega
   have hb3 : (9 : Int) < (n : Int) := by unfold qbad at hb; omega
   clear hb
   go_wp2
   go_ret
   exact ⟨rfl, B1.out⟩
 ·have h1 : e = 0 ∧ f = 0 := by
   have h1 := HX.out
   have h2 := HY.out
   unfold qwin at h1 h2
   rw [LA.out, if_neg hb] at h1
   rw [LB.out, if_neg hb] at h2
   exact ⟨(Prod.mk.inj h1).2.symm, (Prod.mk.inj h2).2.symm⟩
  obtain ⟨rfl, rfl⟩ := h1
  have hT := hide (fun (hx : x = true) (hy : y = true) => qwin_two (a := a.take n) (b := b.take n) (by rw [LA.out, LB.out]) (by rw [HX.out, hx]) (by rw [HY.out, hy]))
  have hn9 : n ≤ 9 := by unfold qbad at hb; omega
  clear hb
  go_wp2_with fail
  refine KA.out.mono ?_
  rintro e w9 ⟨rfl, rfl⟩
  go_wp2_with fail
  refine KB.out.mono ?_
  rintro e w9 ⟨rfl, rfl⟩
  go_wp2_with fail
  refine (N1.out _).mono ?_
  rintro e w9 ⟨rfl, rfl⟩
  go_wp2_with fail
  refine (N1.out _).mono ?_
  rintro e w9 ⟨rfl, rfl⟩
  go_wp2
  go_loopw [10, 11] (fun c i wr => ∃ (k : Nat) (C : Bool), k ≤ n ∧ i = .int .i64 k ∧ c = .bool C ∧ Hid (C = true ↔ ∃ i, i < k ∧ a[i]? = some true ∧ b[i]? = some true) ∧ Hid (Below w1.heap.size w1 wr)) (fun _ i _ => n - (intOf i).toNat)
  case atStart => exact ⟨0, false, Nat.zero_le _, rfl, rfl, hide (by simp), hide (Below.refl _ _)⟩
  case round =>
   obtain ⟨k, C, hk, rfl, rfl, hC, hw⟩ := hrel
   by_cases hlt : k < n
   ·have hq : (k : Int) < (n : Int) := by omega
    obtain ⟨xa, hxa⟩ := some_el a (k := k) (by omega)
    obtain ⟨xb, hxb⟩ := some_el b (k := k) (by omega)
    have bw := B1.out.trans (hw.out.mono B1.out.size)
    obtain ⟨p0, o0, rfl, y0⟩ := (H0.out.to0 bw).boolAt hxa
    obtain ⟨p1, o1, rfl, y1⟩ := (H1.out.to0 bw).boolAt hxb
    have hcn := hide (com_next hxa hxb)
    have r0 : (k : Int) < (a.length : Int) := by omega
    have r1 : (k : Int) < (b.length : Int) := by omega
    have bd := hide (fun m => hw.out.trans (below_drewN' wr m w1.heap.size))
    clear hxa hxb bw
    have bE := hw
    cases C
    ·cases xa
     ·go_wp2
      all_goals (try go_region)
      all_goals (try go_wp2)
      go_roundw
      case rel => exact ⟨k + 1, false, by omega, by go_num, rfl, hide (by rw [hcn.out, ← hC.out]; simp), bE⟩
      case measure => simp [intOf]; omega
     ·cases xb
      ·go_wp2
       all_goals (try go_region)
       all_goals (try go_wp2)
       go_roundw
       case rel => exact ⟨k + 1, false, by omega, by go_num, rfl, hide (by rw [hcn.out, ← hC.out]; simp), bE⟩
       case measure => simp [intOf]; omega
      ·go_wp2
       all_goals (try go_region)
       all_goals (try go_wp2)
       go_roundw
       case rel => exact ⟨k + 1, true, by omega, by go_num, rfl, hide (by rw [hcn.out, ← hC.out]; simp), bE⟩
       case measure => simp [intOf]; omega
    ·go_wp2
     all_goals (try go_region)
     all_goals (try go_wp2)
     go_roundw
     case rel => exact ⟨k + 1, true, by omega, by go_num, rfl, hide (by rw [hcn.out, ← hC.out]; simp), bE⟩
     case measure => simp [intOf]; omega
   ·have hq : ¬ (k : Int) < (n : Int) := by omega
    have hk2 : Hid (k = n) := by show _ = _; omega
    have HT : Hid (x = true → y = true → C = true) := fun hx hy => by
     obtain ⟨i, i1, i2, i3⟩ := hT.out hx hy
     rw [LA.out] at i1
     rw [List.getElem?_take, if_pos i1] at i2 i3
     exact hC.out.2 ⟨i, by rw [hk2.out]; exact i1, i2, i3⟩
    have BF := hide (B1.out.trans (hw.out.mono B1.out.size))
    cases x
    ·go_wp2
     go_ret
     exact ⟨rfl, BF.out⟩
    ·cases y
     ·go_wp2
      go_ret
      exact ⟨rfl, BF.out⟩
     ·obtain rfl := HT.out rfl rfl
      go_wp2
      go_ret
      exact ⟨rfl, BF.out⟩
set_option maxRecDepth 100000 in
theorem lifted (os : Os) (started : os.Started) (H : Type) (enc : TypeId × Value → H) :
  ReturnsInHanded {} Try.checked os 4 .any (Rows.quorumSharesSpec.pre6 enc Try.prog Try.f4 Rows.quorumSharesRow.domain false) (Rows.quorumSharesSpec.post enc Try.prog Try.f4 false true false false) := by
 refine returnsInHanded_of_change_sized (C := Try.checked) own started (by kernel_rfl) Try.func4
  (ChangeSpec.witness6 (enc := enc) (C := Try.checked) false ⟨#[], #[.slice none 0 0, .slice none 0 0], []⟩ 8 (by kernel_rfl) (by kernel_rfl) (by kernel_rfl) (by kernel_rfl)) ?_
 intro W base args ds gs before hval0 hW hcnd hsz0 _
 have hsz : (DataW.weightsEach Try.prog (Try.f4.params.toList ++ Rows.quorumSharesSpec.plain.varTypes Try.prog) (ds ++ gs)).all (· ≤ reachBytes) = true := hsz0
 have hval : ∀ (j : Nat) t v, Try.f4.params[j]? = some t → args[j]? = some v → Value.okWide Try.prog W .any base t v := hval0
 have hW' := hW
 obtain ⟨p, q, hA0, hV, rfl, hfz, hnd⟩ := hW
 have hA : DataW.TrodAll enc Try.prog W 0 (fun _ => true) true Try.f4.params.toList args.toList ds p := hA0
 rw [Try.params4] at hA hval hsz
 obtain ⟨v0, vs0, d0, ds0, p0, q0, hargs, rfl, rfl, h0, r0⟩ := trodAll_cons hA
 obtain ⟨v1, vs1, d1, ds1, p1, q1, rfl, rfl, rfl, h1, r1⟩ := trodAll_cons r0
 obtain ⟨rfl, rfl, rfl⟩ := trodAll_nil r1
 obtain rfl : args = #[v0, v1] := by cases args; simp_all
 obtain ⟨rfl, rfl⟩ := trodVars_none hV
 obtain ⟨a0, len0, cap0, rfl⟩ := okWide_slice Try.underlying23 (hval 0 23 v0 rfl rfl)
 have lt0 : ∀ x ∈ p0, x.block < W.heap.size := by obtain ⟨m, hm⟩ := h0; exact DataW.trod_lt m _ _ _ hm
 have hh0 := h0
 obtain ⟨fu0, hf0⟩ := hh0
 obtain ⟨x0, g0, f0, b0⟩ := open_bool14.opened hf0
 obtain ⟨a1, len1, cap1, rfl⟩ := okWide_slice Try.underlying23 (hval 1 23 v1 rfl rfl)
 have lt1 : ∀ x ∈ p1, x.block < W.heap.size := by obtain ⟨m, hm⟩ := h1; exact DataW.trod_lt m _ _ _ hm
 have hh1 := h1
 obtain ⟨fu1, hf1⟩ := hh1
 obtain ⟨x1, g1, f1, b1⟩ := open_bool14.opened hf1
 have m0 := f0 (reach_of hsz (j := 0) rfl rfl)
 have m1 := f1 (reach_of hsz (j := 1) rfl rfl)
 clear hA0 hval0 hsz0 hsz
 refine (walk W a0 len0 cap0 x0 g0 m0 a1 len1 cap1 x1 g1 m1).mono fun e W' ⟨he, bel⟩ => ?_
 subst he
 exact ⟨_, rfl, _, _, _, [], _, [], hW', trodAll_mk1 (shut_bool Try.underlying4 _), (trodAll_cons_mk (Below.trod laidOut (by kernel_rfl) (of_decide_eq_true (by kernel_rfl)) h0 bel lt0) (trodAll_cons_mk (Below.trod laidOut (by kernel_rfl) (of_decide_eq_true (by kernel_rfl)) h1 bel lt1) trodAll_mk0)), rfl, bel.frame _, fun h => by cases h⟩
theorem over : Rows.quorumSharesRow.holds Try.pinned (OpenSpec.ofChange Rows.quorumSharesSpec) :=
 OpenClaim.holds_of_wide 4 Try.f4 rfl rfl rfl rfl rfl rfl rfl ⟨rfl, rfl, rfl, rfl, rfl⟩ rfl rfl rfl rfl rfl (by kernel_rfl) Try.func4 (by kernel_rfl)
  (of_decide_eq_true (by kernel_rfl)) (by unfold Func.isWrapper; first | (rw [if_pos (by decide +kernel)]; kernel_rfl) | (rw [if_neg (by decide +kernel)]; exact ⟨rfl, rfl⟩))
  (fun os started H enc _ => lifted os started H enc)
end Go.Proofs.Ytnkbolgbpdjpcaa.quorumShares
namespace Go.Proofs.Ytnkbolgbpdjpcaa
theorem quorumShares_holds : Rows.QuorumSharesSaid := quorumShares.over
end Go.Proofs.Ytnkbolgbpdjpcaa
