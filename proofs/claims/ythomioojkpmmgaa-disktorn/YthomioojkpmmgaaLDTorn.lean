/-
  PROVED: whatever numbers and octets come in, transeptlaw04.DiskTorn returns true and leaves them as they were: the statement of P4.2 and P4.5 (a write that is kept and torn).
-/
import Derived.Test.YthomioojkpmmgaaDTMath
import Derived.Test.YthomioojkpmmgaaDIn
import Derived.Test.YthomioojkpmmgaaDAlive
import Derived.Deep.Cut
import Derived.Deep.CutRange
namespace Go.Proofs.Ythomioojkpmmgaa.diskTorn
open Go.ChangeShapes Go.WideShapes Go.ChangeAt Go.RowKit
set_option linter.unusedVariables false

set_option maxRecDepth 100000 in
set_option maxHeartbeats 1000000 in
theorem walk (w : World) (a0 : Int) (w0' : (Lit.int .i64 a0).wf = true) (a1 : Int) (w1' : (Lit.int .i64 a1).wf = true) (a2 : Option Addr) (len2 cap2 : Nat) (x2 : List UInt8) (e2 : x2.length = len2) (g2 : Rd w (.slice a2 len2 cap2) x2) (m2 : len2 ≤ 140737488351232) (a3 : Option Addr) (len3 cap3 : Nat) (x3 : List UInt8) (e3 : x3.length = len3) (g3 : Rd w (.slice a3 len3 cap3) x3) (m3 : len3 ≤ 140737488351232) (a4 : Int) (w4' : (Lit.int .i64 a4).wf = true) :
    Calls Try.prog 8 #[.int .i64 a0, .int .i64 a1, .slice a2 len2 cap2, .slice a3 len3 cap3, .int .i64 a4] w fun e w' => e = .returned (.bool true) ∧ Below w.heap.size w w' := by
  subst e2 e3
  obtain ⟨l2, hl2⟩ : ∃ l2 : Nat, min (x2.length : Int) 64 = (l2 : Int) := ⟨min x2.length 64, by omega⟩
  obtain ⟨l3, hl3⟩ : ∃ l3 : Nat, min (x3.length : Int) 64 = (l3 : Int) := ⟨min x3.length 64, by omega⟩
  have f2 := rd_take g2 (n := l2) (by omega)
  have f3 := rd_take g3 (n := l3) (by omega)
  have c2 : (l2 : Int) ≤ (cap2 : Int) := by have := rd_cap g2; omega
  have c3 : (l3 : Int) ≤ (cap3 : Int) := by have := rd_cap g3; omega
  obtain ⟨X2, hX2⟩ : ∃ X, X = x2.take l2 := ⟨_, rfl⟩
  obtain ⟨X3, hX3⟩ : ∃ X, X = x3.take l3 := ⟨_, rfl⟩
  rw [← hX2] at f2
  rw [← hX3] at f3
  have k2 := hide (show X2.length = l2 by rw [hX2]; simp; omega)
  have k3 := hide (show X3.length = l3 by rw [hX3]; simp; omega)
  have z1 := Int.lt_tmod_of_pos a0 (b := 20) (by decide)
  have z2 := Int.tmod_lt_of_pos a0 (b := 20) (by decide)
  have z3 := Int.emod_nonneg (a0.tmod 20) (b := 20) (by decide)
  have z4 := Int.emod_lt_of_pos (a0.tmod 20) (b := 20) (by decide)
  obtain ⟨N, hN⟩ : ∃ N : Nat, 1 + a0.tmod 20 % 20 = (N : Int) := ⟨(1 + a0.tmod 20 % 20).toNat, by omega⟩
  have hN1 : 0 < (N : Int) := by omega
  have hN2 : (N : Int) ≤ 20 := by omega
  have y1 := Int.lt_tmod_of_pos a1 hN1
  have y2 := Int.tmod_lt_of_pos a1 hN1
  have y3 := Int.emod_nonneg (a1.tmod N) (b := N) (by omega)
  have y4 := Int.emod_lt_of_pos (a1.tmod N) hN1
  obtain ⟨p, hp⟩ : ∃ p : Nat, a1.tmod N % N = (p : Int) := ⟨(a1.tmod N % N).toNat, by omega⟩
  have hp' : (a1.tmod N + N) % N = (p : Int) := by rw [Int.add_emod_right]; exact hp
  have hpN : (p : Int) < (N : Int) := by omega
  obtain ⟨cq, hcq⟩ : ∃ q : Int, min a4 64 = q := ⟨_, rfl⟩
  obtain ⟨ck, hck⟩ : ∃ c : Nat, max 0 cq = (c : Int) := ⟨clamp a4, by unfold clamp; omega⟩
  have hcl := hide (show clamp a4 = ck by unfold clamp; omega)
  obtain ⟨S0, S1, D, e1, e2, e3, e4, e5, q0, q1, q2, hall⟩ := torn_chain (N := N) (p := p) (by omega) (by omega) (by omega) X2 X3 a4 (by rw [k2.out]; omega) (by rw [k3.out]; omega)
  have H := hide (And.intro e1 (And.intro e2 (And.intro e3 (And.intro e4 e5))))
  have HALL := hide hall
  clear e1 e2 e3 e4 e5 hall g2 g3 hX2 hX3 w0' w1' w4'
  go_enter Try.func8, Try.ntmps8
  go_wp2_with fail
  refine (dalive_any _).mono ?_
  rintro e w1 ⟨rfl, cc⟩
  have hw1 := cc.size
  go_upto_region 5 with fail
  simp only [Int.add_emod_right, hp]
  go_cut [2, 3] from 36 to 45 (fun s t wx => s = .slice a2 l2 cap2 ∧ t = .slice a3 l3 cap3 ∧ wx = w1.drew)
  case first =>
    go_region
    all_goals (go_wp2_with fail)
    all_goals (go_meet; exact ⟨by congr 1; omega, by congr 1; omega, rfl⟩)
  case rest =>
  obtain ⟨rfl, rfl, rfl⟩ := hcut
  replace cc := cc.drew
  generalize w1.drew = w2 at *
  have hw2 := cc.size
  clear hw1 z1 z2 z3 z4 y1 y2 y3 y4 hN hp hp' c2 c3
  have KK := hide (dnew_any w2 N)
  rw [H.out.1] at KK
  go_wp2_with fail
  refine KK.out.mono ?_
  rintro e w3 ⟨s, c, rfl, o, bb⟩
  clear KK
  try dsimp only at o
  obtain ⟨al, cl, ac, cd, hv, hv2⟩ : ∃ al cl ac cd, s = .slice al N cl ∧ c = .slice ac 0 cd := by
    obtain ⟨FT, hFT, _⟩ := o.foot
    rw [← q0]; exact own_form' hFT
  subst hv hv2
  replace cc := cc.trans (bb.mono cc.size)
  have hw3 := cc.size
  clear bb
  obtain ⟨U, hU, hA, bU, sU⟩ := boxed_row w3 (.slice al N cl) (.slice ac 0 cd) 29
  replace o := o.to bU
  replace cc := cc.trans (bU.mono cc.size)
  obtain ⟨A0, A1, _, _⟩ := row2_cells hA
  -- Put
  have KK := hide (dput_any U _ _ (.slice a2 l2 cap2) (S0, []) p X2 o.rd2.1 o.rd2.2 (f2.to cc))
  rw [H.out.2.1] at KK
  rw [hU] at A0 A1
  go_wp2_with fail
  rw [← hU]
  rw [← hU] at A0 A1
  clear o A0 A1
  replace hU := hide hU
  refine KK.out.mono ?_
  rintro e w4 ⟨s, c, rfl, o, bb⟩
  clear KK
  try dsimp only at o
  obtain ⟨al4, cl4, ac4, cd4, hv, hv2⟩ : ∃ al cl ac cd, s = .slice al N cl ∧ c = .slice ac 1 cd := by
    obtain ⟨FT, hFT, _⟩ := o.foot
    rw [← q0]; exact own_form' hFT
  subst hv hv2
  replace hA := (bb.block w3.heap.size (by omega)).trans hA
  replace cc := cc.trans (bb.mono cc.size)
  have sz4 := bb.size
  clear bb bU
  obtain ⟨V4, hV, hA4, o4, cc4, sV⟩ := box_put hA o (by omega) cc hw3
  obtain ⟨A0, A1, A2, A3⟩ := row2_cells hA
  obtain ⟨B0, B1, _, _⟩ := row2_cells hA4
  have hs4 : w3.heap.size + 1 ≤ V4.heap.size := by omega
  clear o cc hA
  -- Flush
  have KK := hide (dflush_any V4 _ _ (S0, [((p : Int), pad X2)]) o4.rd2.1 o4.rd2.2)
  rw [H.out.2.2.1] at KK
  rw [hV] at B0 B1
  go_wp2_with fail
  rw [← hV]
  clear A0 A1 A2 A3 B0 B1
  replace hV := hide hV
  refine KK.out.mono ?_
  rintro e w5 ⟨s, c, rfl, o, bb⟩
  clear KK o4 hV sV
  try dsimp only at o
  obtain ⟨al5, cl5, ac5, cd5, hv, hv2⟩ : ∃ al cl ac cd, s = .slice al N cl ∧ c = .slice ac 0 cd := by
    obtain ⟨FT, hFT, _⟩ := o.foot
    rw [← q1]; exact own_form' hFT
  subst hv hv2
  have hA := (bb.block w3.heap.size (by omega)).trans hA4
  have cc := cc4.trans (bb.mono cc4.size)
  have sz5 := bb.size
  clear bb hA4 cc4
  obtain ⟨V5, hV, hA5, o5, cc5, sV⟩ := box_put hA o (by omega) cc hw3
  have hs5 : w3.heap.size + 1 ≤ V5.heap.size := by omega
  obtain ⟨A0, A1, A2, A3⟩ := row2_cells hA
  obtain ⟨B0, B1, _, _⟩ := row2_cells hA5
  clear o cc hA
  -- Put
  have KK := hide (dput_any V5 _ _ (.slice a3 l3 cap3) (S1, []) p X3 o5.rd2.1 o5.rd2.2 (f3.to cc5))
  rw [H.out.2.2.2.1] at KK
  rw [hV] at B0 B1
  go_wp2_with fail
  rw [← hV]
  clear A0 A1 A2 A3 B0 B1
  replace hV := hide hV
  refine KK.out.mono ?_
  rintro e w6 ⟨s, c, rfl, o, bb⟩
  clear KK o5 hV sV
  try dsimp only at o
  obtain ⟨al6, cl6, ac6, cd6, hv, hv2⟩ : ∃ al cl ac cd, s = .slice al N cl ∧ c = .slice ac 1 cd := by
    obtain ⟨FT, hFT, _⟩ := o.foot
    rw [← q1]; exact own_form' hFT
  subst hv hv2
  have hA := (bb.block w3.heap.size (by omega)).trans hA5
  have cc := cc5.trans (bb.mono cc5.size)
  have sz6 := bb.size
  clear bb hA5 cc5
  obtain ⟨V6, hV, hA6, o6, cc6, sV⟩ := box_put hA o (by omega) cc hw3
  have hs6 : w3.heap.size + 1 ≤ V6.heap.size := by omega
  obtain ⟨A0, A1, A2, A3⟩ := row2_cells hA
  obtain ⟨B0, B1, _, _⟩ := row2_cells hA6
  clear o cc hA
  -- Crash
  obtain ⟨V7, hV7, hK, b7, s7⟩ := one_true V6 4
  rw [sV] at hK
  have KK := hide (dcrash_any V7 _ _ _ (S1, [((p : Int), pad X3)]) [true] 0 a4 (o6.rd2.1.to0 b7) (o6.rd2.2.to0 b7) hK)
  rw [H.out.2.2.2.2] at KK
  rw [hV] at B0 B1
  go_wp2_with fail
  rw [← hV, ← hV7]
  clear A0 A1 A2 A3 B0 B1
  refine KK.out.mono ?_
  rintro e w8 ⟨s, c, rfl, o, bb⟩
  clear KK hV hV7 hK o6
  try dsimp only at o
  obtain ⟨al8, cl8, ac8, cd8, hv, hv2⟩ : ∃ al cl ac cd, s = .slice al N cl ∧ c = .slice ac 0 cd := by
    obtain ⟨FT, hFT, _⟩ := o.foot
    rw [← q2]; exact own_form' hFT
  subst hv hv2
  have cc := (cc6.trans (b7.mono cc6.size)).trans (bb.mono (cc6.trans (b7.mono cc6.size)).size)
  clear bb b7 hA6 cc6 hs6 hs5 hs4 sz4 sz5 sz6 sV s7 hU sU
  obtain ⟨U8, hU8, T0, T1, bU, sU8⟩ := boxed2 w8 (.slice al8 N cl8) (.slice ac8 0 cd8) 29
  have rT := o.rd2.1.to0 bU
  try dsimp only at rT
  replace cc := cc.trans (bU.mono cc.size)
  rw [hU8] at T0 T1
  go_wp2_with fail
  rw [← hU8]
  rw [← hU8] at T0 T1
  clear bU o
  replace hU8 := hide hU8
  refine (num4_any _ _).mono ?_
  rintro e w' ⟨rfl, rfl⟩
  go_wp2_with fail
  refine (num4_any _ _).mono ?_
  rintro e w' ⟨rfl, rfl⟩
  go_wp2_with fail
  refine (num4_any _ _).mono ?_
  rintro e w' ⟨rfl, rfl⟩
  go_wp2_with fail
  refine (num4_any _ _).mono ?_
  rintro e w' ⟨rfl, rfl⟩
  go_wp2_with fail
  refine (num4_any _ _).mono ?_
  rintro e w' ⟨rfl, rfl⟩
  go_upto_region 13 with fail
  go_cut [18] from 105 to 107 (fun s wx => s = .int .i64 (ck : Int) ∧ U8 = wx)
  case first =>
    go_wp2_with fail
    all_goals (go_meet; exact ⟨by congr 1; omega, rfl⟩)
  case rest =>
  obtain ⟨rfl, rfl⟩ := hcut
  have HC := hide T0
  have HR := hide (And.intro rT (And.intro (f2.to cc) (f3.to cc)))
  have HCC := hide cc
  clear T0 T1 rT f2 f3 cc hcq hck hl2 hl3 m2 m3
  go_wp2
  go_loopw [19] (fun a wr => ∃ j : Nat, j ≤ N ∧ a = .int .i64 j ∧ Hid (Below U8.heap.size U8 wr)) (fun a _ => N - (intOf a).toNat)
  case atStart => exact ⟨0, Nat.zero_le _, rfl, hide (Below.refl _ _)⟩
  case round =>
    obtain ⟨j, hj, rfl, hb⟩ := hrel
    by_cases hlt : j < N
    · have hq : (j : Int) < (N : Int) := by omega
      obtain ⟨x, hx, hx64, hbt⟩ := HALL.out j hlt
      have HX := hide (And.intro hx (And.intro hx64 hbt))
      clear hx hx64 hbt
      generalize wr = V at *
      go_wp2
      go_loopw [20] (fun a wr => ∃ i : Nat, i ≤ 64 ∧ a = .int .i64 i ∧ Hid (Below U8.heap.size U8 wr)) (fun a _ => 64 - (intOf a).toNat)
      case atStart => exact ⟨0, Nat.zero_le _, rfl, hb⟩
      case round =>
        obtain ⟨i, hi, rfl, hi5⟩ := hrel
        by_cases hlt2 : i < 64
        · have hq2 : (i : Int) < 64 := by omega
          have T0 := (hi5.out.cell (cell_lt HC.out)).trans HC.out
          obtain ⟨b1, o1, u, rfl, hc1, hr1⟩ := (HR.out.1.to0 hi5.out).oct HX.out.1
          obtain ⟨au, cu, rfl⟩ := hr1.slice
          rw [HX.out.2.1] at hc1 hr1
          obtain ⟨b2, o2, rfl, hc2⟩ := rd_octet hr1 (i := i) (by rw [HX.out.2.1]; exact hlt2)
          have hv := HX.out.2.2 i hlt2
          rw [hcl.out, k2.out, k3.out] at hv
          clear hr1
          by_cases hjp : j = p
          · subst hjp
            rw [if_pos rfl] at hv
            by_cases hik : i < ck
            · rw [if_pos hik] at hv
              have hik' : (i : Int) < (ck : Int) := by omega
              have hik2 : decide ((ck : Int) ≤ (i : Int)) = false := by simp; omega
              by_cases hil : i < l3
              · rw [if_pos hil] at hv
                have hil' : (i : Int) < (l3 : Int) := by omega
                obtain ⟨b3, o3, rfl, hc3⟩ := rd_octet (HR.out.2.2.to hi5.out) (i := i) (by rw [k3.out]; exact hil)
                rw [hv] at hc2
                clear hv
                generalize bt X3 i = Z at *
                go_wp2
                go_roundw
                case rel => exact ⟨i + 1, by omega, by go_num, hi5⟩
                case measure => simp [intOf]; omega
              · rw [if_neg hil] at hv
                have hil' : decide ((i : Int) < (l3 : Int)) = false := by simp; omega
                rw [hv] at hc2
                clear hv
                go_wp2
                go_roundw
                case rel => exact ⟨i + 1, by omega, by go_num, hi5⟩
                case measure => simp [intOf]; omega
            · rw [if_neg hik] at hv
              have hik' : decide ((i : Int) < (ck : Int)) = false := by simp; omega
              have hik2 : (ck : Int) ≤ (i : Int) := by omega
              by_cases hil : i < l2
              · rw [if_pos hil] at hv
                have hil' : (i : Int) < (l2 : Int) := by omega
                obtain ⟨b3, o3, rfl, hc3⟩ := rd_octet (HR.out.2.1.to hi5.out) (i := i) (by rw [k2.out]; exact hil)
                rw [hv] at hc2
                clear hv
                generalize bt X2 i = Z at *
                go_wp2
                go_roundw
                case rel => exact ⟨i + 1, by omega, by go_num, hi5⟩
                case measure => simp [intOf]; omega
              · rw [if_neg hil] at hv
                have hil' : decide ((i : Int) < (l2 : Int)) = false := by simp; omega
                rw [hv] at hc2
                clear hv
                go_wp2
                go_roundw
                case rel => exact ⟨i + 1, by omega, by go_num, hi5⟩
                case measure => simp [intOf]; omega
          · rw [if_neg hjp] at hv
            have hjp' : ((j : Int) == (p : Int)) = false := by simp; omega
            rw [hv] at hc2
            clear hv
            go_wp2
            go_roundw
            case rel => exact ⟨i + 1, by omega, by go_num, hi5⟩
            case measure => simp [intOf]; omega
        · have hq2 : ¬ (i : Int) < 64 := by omega
          go_wp2
          go_roundw
          case rel => exact ⟨j + 1, by omega, by go_num, hi5⟩
          case measure => simp [intOf]; omega
    · have hq : ¬ (j : Int) < (N : Int) := by omega
      have C8 := hide (HCC.out.trans (hb.out.mono HCC.out.size))
      go_wp2
      go_ret
      exact ⟨rfl, C8.out⟩

set_option maxRecDepth 100000 in
theorem lifted (os : Os) (started : os.Started) (H : Type) (enc : TypeId × Value → H) :
    ReturnsInHanded {} Try.checked os 8 .any (Rows.diskTornSpec.pre6 enc Try.prog Try.f8 Rows.diskTornRow.domain false) (Rows.diskTornSpec.post enc Try.prog Try.f8 false true false false) := by
  refine returnsInHanded_of_change_sized (C := Try.checked) own started (by kernel_rfl) Try.func8
    (ChangeSpec.witness6 (enc := enc) (C := Try.checked) false ⟨#[], #[.int .i64 0, .int .i64 0, .slice none 0 0, .slice none 0 0, .int .i64 0], []⟩ 8 (by kernel_rfl) (by kernel_rfl) (by kernel_rfl) (by kernel_rfl)) ?_
  intro W base args ds gs before hval0 hW hcnd hsz0 _
  have hsz : (DataW.weightsEach Try.prog (Try.f8.params.toList ++ Rows.diskTornSpec.plain.varTypes Try.prog) (ds ++ gs)).all (· ≤ reachBytes) = true := hsz0
  have hval : ∀ (j : Nat) t v, Try.f8.params[j]? = some t → args[j]? = some v → Value.okWide Try.prog W .any base t v := hval0
  have hW' := hW
  obtain ⟨p, q, hA0, hV, rfl, hfz, hnd⟩ := hW
  have hA : DataW.TrodAll enc Try.prog W 0 (fun _ => true) true Try.f8.params.toList args.toList ds p := hA0
  rw [Try.params8] at hA hval hsz
  obtain ⟨v0, vs0, d0, ds0, p0, q0, hargs, rfl, rfl, h0, r0⟩ := trodAll_cons hA
  obtain ⟨v1, vs1, d1, ds1, p1, q1, rfl, rfl, rfl, h1, r1⟩ := trodAll_cons r0
  obtain ⟨v2, vs2, d2, ds2, p2, q2, rfl, rfl, rfl, h2, r2⟩ := trodAll_cons r1
  obtain ⟨v3, vs3, d3, ds3, p3, q3, rfl, rfl, rfl, h3, r3⟩ := trodAll_cons r2
  obtain ⟨v4, vs4, d4, ds4, p4, q4, rfl, rfl, rfl, h4, r4⟩ := trodAll_cons r3
  obtain ⟨rfl, rfl, rfl⟩ := trodAll_nil r4
  obtain rfl : args = #[v0, v1, v2, v3, v4] := by cases args; simp_all
  obtain ⟨rfl, rfl⟩ := trodVars_none hV
  obtain ⟨a0, rfl, rfl, rfl, w0⟩ := open_int Try.underlying3 (hval 0 3 v0 rfl rfl) h0
  obtain ⟨a1, rfl, rfl, rfl, w1⟩ := open_int Try.underlying3 (hval 1 3 v1 rfl rfl) h1
  obtain ⟨a2, len2, cap2, rfl⟩ := okWide_slice Try.underlying26 (hval 2 26 v2 rfl rfl)
  have lt2 : ∀ x ∈ p2, x.block < W.heap.size := by obtain ⟨m, hm⟩ := h2; exact DataW.trod_lt m _ _ _ hm
  obtain ⟨x2, e2, g2, s2⟩ := open_octs h2
  obtain ⟨a3, len3, cap3, rfl⟩ := okWide_slice Try.underlying26 (hval 3 26 v3 rfl rfl)
  have lt3 : ∀ x ∈ p3, x.block < W.heap.size := by obtain ⟨m, hm⟩ := h3; exact DataW.trod_lt m _ _ _ hm
  obtain ⟨x3, e3, g3, s3⟩ := open_octs h3
  obtain ⟨a4, rfl, rfl, rfl, w4⟩ := open_int Try.underlying3 (hval 4 3 v4 rfl rfl) h4
  have m2 := reach_octs hsz (j := 2) rfl rfl s2
  have m3 := reach_octs hsz (j := 3) rfl rfl s3
  clear hA0 hval0 hsz0 hsz
  refine (walk W a0 w0 a1 w1 a2 len2 cap2 x2 e2 g2 m2 a3 len3 cap3 x3 e3 g3 m3 a4 w4).mono fun e W' ⟨he, bel⟩ => ?_
  subst he
  exact ⟨_, rfl, _, _, _, [], _, [], hW', trodAll_mk1 (shut_bool Try.underlying4 _), (trodAll_cons_mk (shut_int Try.underlying3 w0) (trodAll_cons_mk (shut_int Try.underlying3 w1) (trodAll_cons_mk (Below.trod laidOut (by kernel_rfl) (of_decide_eq_true (by kernel_rfl)) h2 bel lt2) (trodAll_cons_mk (Below.trod laidOut (by kernel_rfl) (of_decide_eq_true (by kernel_rfl)) h3 bel lt3) (trodAll_cons_mk (shut_int Try.underlying3 w4) trodAll_mk0))))), rfl, bel.frame _, fun h => by cases h⟩

theorem over : Rows.diskTornRow.holds Try.pinned (OpenSpec.ofChange Rows.diskTornSpec) :=
  OpenClaim.holds_of_wide 8 Try.f8 rfl rfl rfl rfl rfl rfl rfl ⟨rfl, rfl, rfl, rfl, rfl⟩ rfl rfl rfl rfl rfl (by kernel_rfl) Try.func8 (by kernel_rfl)
    (of_decide_eq_true (by kernel_rfl)) (by unfold Func.isWrapper; first | (rw [if_pos (by decide +kernel)]; kernel_rfl) | (rw [if_neg (by decide +kernel)]; exact ⟨rfl, rfl⟩))
    (fun os started H enc _ => lifted os started H enc)

end Go.Proofs.Ythomioojkpmmgaa.diskTorn
namespace Go.Proofs.Ythomioojkpmmgaa
/-- THE STATEMENT -/
theorem diskTorn_holds : Rows.DiskTornSaid := diskTorn.over
end Go.Proofs.Ythomioojkpmmgaa
