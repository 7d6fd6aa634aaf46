/-
  PROVED: whatever state and marks come in, transeptlaw04.DiskOldOrNew returns true and leaves them as they were: the statement of P4.5 (behind a crash without a tear each sector is what it was, or what one of its writes had).
-/
import Derived.Test.YthomioojkpmmgaaDIn
import Derived.Test.YthomioojkpmmgaaDOf
import Derived.Test.YthomioojkpmmgaaDSame
import Derived.Test.YthomioojkpmmgaaDAlive
namespace Go.Proofs.Ythomioojkpmmgaa.diskOldOrNew
open Go.ChangeShapes Go.WideShapes Go.ChangeAt Go.RowKit
set_option linter.unusedVariables false

theorem lands_or {f : Nat → Nat} {ss : List (List UInt8)} {ws : List Wrt} (hf : ∀ i, f i = 0 ∨ f i = 64) (h1 : ∀ x ∈ ss, x.length = 64) (h2 : ∀ y ∈ ws, (0 ≤ y.1 ∧ y.1 < ss.length) ∧ y.2.length = 64) (n j : Nat) :
    (lands f ss ws n).getD j [] = ss.getD j [] ∨ ∃ y ∈ ws, y.1 = (j : Int) ∧ (lands f ss ws n).getD j [] = y.2 := by
  induction n with
  | zero => exact .inl rfl
  | succ n ih =>
    cases hk : ws[n]? with
    | none => unfold lands; rw [hk]; exact ih
    | some y =>
      rw [lands_succ hk]
      have hym : y ∈ ws := List.mem_of_getElem? hk
      have hy := h2 y hym
      by_cases hj : y.1.toNat = j
      · have hjl : j < (lands f ss ws n).length := by rw [lands_len]; omega
        rw [hj, List.getD_eq_getElem?_getD, List.getElem?_set_self hjl]
        rcases hf n with h0 | h0
        · rw [h0, List.take_zero, over_nil]; exact ih
        · right
          refine ⟨y, hym, by omega, ?_⟩
          rw [h0, List.take_of_length_le (by omega)]
          show over _ _ = _
          refine over_all ?_
          rw [lands_64 h1 n _ (getD_mem hjl)]; exact hy.2.symm
      · rw [List.getD_eq_getElem?_getD, List.getElem?_set_ne hj, ← List.getD_eq_getElem?_getD]
        exact ih
theorem dok_lands {d : Dsk} {f : Nat → Nat} (h : DOk d) : DOk (lands f d.1 d.2 d.2.length, []) :=
  ⟨by show 1 ≤ (lands f d.1 d.2 d.2.length).length; rw [lands_len]; exact h.1, by show (lands f d.1 d.2 d.2.length).length ≤ 1024; rw [lands_len]; exact h.2.1, Nat.zero_le _, lands_64 h.2.2.2.1 _, fun y hy => nomatch hy⟩
theorem dget_bare {ss : List (List UInt8)} {k : Nat} (h : DOk (ss, [])) (hk : k < ss.length) : dget (ss, []) (k : Int) = (ss.getD k [], 0) := by
  unfold dget
  rw [if_neg (by rw [dsect_zero.2 ⟨h, by constructor <;> simp [hk]⟩]; simp)]
  rfl

/-- is it what it was, or what one of the first j writes had -/
def okB (G x : List UInt8) (ws : List Wrt) (k : Nat) (j : Nat) : Bool := sameB G x || (ws.take j).any fun y => (y.1 == (k : Int)) && sameB G y.2
theorem okB_succ {G x : List UInt8} {ws : List Wrt} {k j : Nat} {y : Wrt} (h : ws[j]? = some y) : okB G x ws k (j + 1) = (okB G x ws k j || ((y.1 == (k : Int)) && sameB G y.2)) := by
  unfold okB
  rw [List.take_add_one, h]
  simp [List.any_append, Bool.or_assoc]
theorem okB_all {f : Nat → Nat} {ss : List (List UInt8)} {ws : List Wrt} (hf : ∀ i, f i = 0 ∨ f i = 64) (h1 : ∀ x ∈ ss, x.length = 64) (h2 : ∀ y ∈ ws, (0 ≤ y.1 ∧ y.1 < ss.length) ∧ y.2.length = 64) {n j : Nat} {x : List UInt8} (hx : ss[j]? = some x) :
    okB ((lands f ss ws n).getD j []) x ws j ws.length = true := by
  unfold okB
  rcases lands_or hf h1 h2 n j with h | ⟨y, hy, e, h⟩
  · rw [h, getD_some hx, sameB_self]; rfl
  · rw [List.take_length, Bool.or_eq_true]
    right
    rw [List.any_eq_true]
    exact ⟨y, hy, by rw [h, sameB_self]; simp [e]⟩
theorem dcrash_or (d : Dsk) (keep : List Bool) : (∃ er, dcrash d keep (-1) 0 = (([], []), er) ∧ er ≠ 0) ∨ ∃ D, dcrash d keep (-1) 0 = ((D, []), 0) ∧ D.length = d.1.length ∧ d.1.length ≤ 1024 ∧ d.2.length ≤ 4096 ∧ ∀ k < d.1.length, dget (D, []) (k : Int) = (D.getD k [], 0) ∧ (D.getD k []).length = 64 ∧ ∀ x, d.1[k]? = some x → okB (D.getD k []) x d.2 k d.2.length = true := by
  unfold dcrash dland
  by_cases h : DOk d
  · right
    rw [if_pos h]
    refine ⟨_, rfl, lands_len _ _ _ _, h.2.1, h.2.2.1, fun k hk => ⟨dget_bare (dok_lands h) (by rw [lands_len]; exact hk), lands_64 h.2.2.2.1 _ _ (getD_mem (by rw [lands_len]; exact hk)), fun x hx => okB_all (fun i => ?_) h.2.2.2.1 h.2.2.2.2 hx⟩⟩
    unfold crashF
    split
    · rw [if_neg (by omega)]; exact .inr rfl
    · exact .inl rfl
  · left
    rw [if_neg h]
    exact ⟨_, rfl, by decide⟩

set_option maxRecDepth 100000 in
set_option maxHeartbeats 4000000 in
theorem walk (w : World) (cs0 : Array Value) (x0 : Dsk) (g0 : SStR.rd w cs0.toList x0) (m0 : (x0.1.length * 24 ≤ 140737488351232 ∧ ∀ x ∈ x0.1, x.length ≤ 140737488351232) ∧ (x0.2.length * 32 ≤ 140737488351232 ∧ ∀ y ∈ x0.2, True ∧ y.2.length ≤ 140737488351232))
    (a1 : Option Addr) (len1 cap1 : Nat) (x1 : List Bool) (g1 : SKeep.rd w [.slice a1 len1 cap1] x1) (m1 : x1.length * 1 ≤ 140737488351232 ∧ ∀ x ∈ x1, True) :
    Calls Try.prog 6 #[.agg cs0, .slice a1 len1 cap1] w fun e w' => e = .returned (.bool true) ∧ Below w.heap.size w w' := by
  obtain ⟨sv, cv, rfl, h1, h2⟩ := state_form g0
  have HF := hide (state_fit m0)
  obtain ⟨kv, ek, hk⟩ := g1
  simp only [List.cons.injEq, and_true] at ek
  subst ek
  clear g0 m0 m1
  obtain ⟨sa, sc, rfl⟩ := h1.slice
  obtain ⟨ca, cc0, rfl⟩ := h2.slice
  obtain ⟨D1, D2, er, hD, hE⟩ : ∃ D1 D2 er, dcrash x0 x1 (-1) 0 = ((D1, D2), er) ∧ ((er ≠ 0 ∧ D1 = [] ∧ D2 = []) ∨ (er = 0 ∧ D2 = [] ∧ D1.length = x0.1.length ∧ x0.1.length ≤ 1024 ∧ x0.2.length ≤ 4096 ∧ ∀ k < x0.1.length, dget (D1, []) (k : Int) = (D1.getD k [], 0) ∧ (D1.getD k []).length = 64 ∧ ∀ x, x0.1[k]? = some x → okB (D1.getD k []) x x0.2 k x0.2.length = true)) := by
    rcases dcrash_or x0 x1 with ⟨er, h, h2⟩ | ⟨D, h, h2⟩
    · exact ⟨_, _, _, h, .inl ⟨h2, rfl, rfl⟩⟩
    · exact ⟨_, _, _, h, .inr ⟨rfl, rfl, h2⟩⟩
  replace hD := hide hD
  replace hE := hide hE
  obtain ⟨US, hUS, S0, S1, cc, _⟩ := boxed2 w (.slice sa x0.1.length sc) (.slice ca x0.2.length cc0) 25
  replace h1 := h1.to0 cc
  replace h2 := h2.to0 cc
  replace hk := hk.to0 cc
  go_enter Try.func6, Try.ntmps6
  rw [hUS] at S0 S1
  go_wp2_with fail
  rw [← hUS] at S0 S1
  rw [← hUS]
  replace hUS := hide hUS
  refine (dalive_any _).mono ?_
  have KK := trivial
  rintro e w1 ⟨rfl, bb⟩
  clear KK
  replace S0 := (bb.cell (cell_lt S0)).trans S0
  replace S1 := (bb.cell (cell_lt S1)).trans S1
  replace h1 := h1.to0 bb
  replace h2 := h2.to0 bb
  replace hk := hk.to0 bb
  replace cc := cc.trans (bb.mono cc.size)
  clear bb
  have KK := hide (of_any _ _ _ x0 h1 h2 HF.out)
  go_wp2_with fail
  refine KK.out.mono ?_
  rintro e w2 ⟨sX, cX, rfl, oX, bb⟩
  clear KK
  obtain ⟨rX, qX⟩ := oX.rd2
  clear oX
  replace S0 := (bb.cell (cell_lt S0)).trans S0
  replace S1 := (bb.cell (cell_lt S1)).trans S1
  replace h1 := h1.to0 bb
  replace h2 := h2.to0 bb
  replace hk := hk.to0 bb
  replace cc := cc.trans (bb.mono cc.size)
  clear bb
  have KK := hide (dcrash_any _ _ _ _ x0 x1 (-1) 0 rX qX hk)
  rw [hD.out] at KK
  go_wp2_with fail
  refine KK.out.mono ?_
  rintro e w3 ⟨sT, cT, rfl, oT, bb⟩
  clear KK
  obtain ⟨rT, qT⟩ := oT.rd2
  clear oT
  try dsimp only at rT qT
  obtain ⟨alT, clT, rfl⟩ := rT.slice
  obtain ⟨acT, cdT, rfl⟩ := qT.slice
  replace S0 := (bb.cell (cell_lt S0)).trans S0
  replace S1 := (bb.cell (cell_lt S1)).trans S1
  replace h1 := h1.to0 bb
  replace h2 := h2.to0 bb
  replace hk := hk.to0 bb
  replace rX := rX.to0 bb
  replace qX := qX.to0 bb
  replace cc := cc.trans (bb.mono cc.size)
  clear bb
  obtain ⟨UT, hUT, T0, T1, bU, _⟩ := boxed2 w3 (.slice alT D1.length clT) (.slice acT D2.length cdT) 29
  replace S0 := (bU.cell (cell_lt S0)).trans S0
  replace S1 := (bU.cell (cell_lt S1)).trans S1
  replace h1 := h1.to0 bU
  replace h2 := h2.to0 bU
  replace hk := hk.to0 bU
  replace rX := rX.to0 bU
  replace qX := qX.to0 bU
  replace rT := rT.to0 bU
  replace qT := qT.to0 bU
  replace cc := cc.trans (bU.mono cc.size)
  clear bU
  clear rX qX hk
  rw [hUT] at S0 S1 T0 T1
  go_wp2_with fail
  rw [← hUT] at S0 S1 T0 T1
  rw [← hUT]
  replace hUT := hide hUT
  refine (num4_any _ _).mono ?_
  rintro e w' ⟨rfl, rfl⟩
  rcases hE.out with ⟨hne, rfl, rfl⟩ | ⟨rfl, rfl, hDl, lb1, lb2, hall⟩
  · have hne' : (er != 0) = true := by simpa using hne
    clear hE hne
    go_wp2
    go_ret
    exact ⟨rfl, cc⟩
  have HALL := hide hall
  clear hE hall hD
  rw [hDl] at T0 rT
  go_wp2
  have HC := hide (And.intro S0 (And.intro S1 (And.intro T0 T1)))
  have HR := hide (And.intro h1 (And.intro h2 (And.intro rT qT)))
  have HCC := hide cc
  clear S0 S1 T0 T1 h1 h2 rT qT cc
  generalize hV : UT = V at *
  go_loopw [7] (fun i wr => ∃ k : Nat, k ≤ x0.1.length ∧ i = .int .i64 k ∧ Hid (Below V.heap.size V wr)) (fun i _ => x0.1.length - (intOf i).toNat)
  case atStart => exact ⟨0, Nat.zero_le _, rfl, hide (Below.refl _ _)⟩
  case round =>
    obtain ⟨k, hk, rfl, hb⟩ := hrel
    have S0 := (hb.out.cell (cell_lt HC.out.1)).trans HC.out.1
    have S1 := (hb.out.cell (cell_lt HC.out.2.1)).trans HC.out.2.1
    have T0 := (hb.out.cell (cell_lt HC.out.2.2.1)).trans HC.out.2.2.1
    have T1 := (hb.out.cell (cell_lt HC.out.2.2.2)).trans HC.out.2.2.2
    by_cases hlt : k < x0.1.length
    · have hq : (k : Int) < (x0.1.length : Int) := by omega
      obtain ⟨x, hx, hxm⟩ := some_at x0.1 hlt
      obtain ⟨hget, hG64, hOK⟩ := HALL.out k hlt
      replace hOK := hide (hOK x hx)
      have KK := hide (dget_any wr _ _ (D1, []) k (HR.out.2.2.1.to0 hb.out) (HR.out.2.2.2.to0 hb.out))
      rw [hget] at KK
      clear hget
      clear hG64
      generalize D1.getD k [] = GG at *
      go_wp2_with fail
      refine KK.out.mono ?_
      rintro e w4 ⟨vb, rfl, ob, b4⟩
      clear KK
      have rb := ob.rd
      try dsimp only at rb
      obtain ⟨ab, cb, rfl⟩ := rb.slice
      clear ob
      replace S0 := (b4.cell (cell_lt S0)).trans S0
      replace S1 := (b4.cell (cell_lt S1)).trans S1
      have hb4 := hide (hb.out.trans (b4.mono hb.out.size))
      clear b4 hb T0 T1
      obtain ⟨b1, o1, u, rfl, hc1, hr1⟩ := (HR.out.1.to0 hb4.out).oct hx
      obtain ⟨au, cu, rfl⟩ := hr1.slice
      have KK := hide (same_any _ _ _ _ _ rb hr1)
      clear hr1
      replace rb := hide rb
      go_wp2_with fail
      refine KK.out.mono ?_
      rintro e w5 ⟨rfl, nq, hw⟩
      have bb := below_drewN' w4 nq w4.heap.size
      rw [← hw] at bb
      clear KK hc1 S0 S1 hw
      have hb5 := hide (hb4.out.trans (bb.mono hb4.out.size))
      have rb5 := hide (rb.out.to bb)
      clear rb bb hb4 hx hxm
      go_wp2
      go_loopw [10, 11] (fun o i wr => ∃ j : Nat, j ≤ x0.2.length ∧ i = .int .i64 j ∧ o = .bool (okB GG x x0.2 k j) ∧ Hid (Below w5.heap.size w5 wr)) (fun o i _ => x0.2.length - (intOf i).toNat)
      case atStart => exact ⟨0, Nat.zero_le _, rfl, by simp [okB], hide (Below.refl _ _)⟩
      case round =>
        obtain ⟨j, hj, rfl, rfl, hi⟩ := hrel
        have hi5 := hide (hb5.out.trans (hi.out.mono hb5.out.size))
        have S1 := (hi5.out.cell (cell_lt HC.out.2.1)).trans HC.out.2.1
        by_cases hlt2 : j < x0.2.length
        · have hq2 : (j : Int) < (x0.2.length : Int) := by omega
          obtain ⟨y, hy, hym⟩ := some_at x0.2 hlt2
          have hsu := okB_succ (G := GG) (x := x) (k := k) hy
          obtain ⟨b2, o2, u2, rfl, hc2, hc3, hr2⟩ := (HR.out.2.1.to0 hi5.out).wrt hy
          obtain ⟨au2, cu2, rfl⟩ := hr2.slice
          have KK := hide (same_any _ _ _ _ _ (rb5.out.to hi.out) hr2)
          clear hr2 hy hym
          obtain ⟨y1, y2⟩ := y
          dsimp only at hc2 hc3 KK hsu
          cases ho : okB GG x x0.2 k j with
          | true =>
            rw [ho, Bool.true_or] at hsu
            replace hsu := hide hsu
            clear KK ho
            go_wp2
            go_roundw
            case rel => exact ⟨j + 1, by omega, by go_num, by rw [hsu.out], hi⟩
            case measure => simp [intOf]; omega
          | false =>
            rw [ho, Bool.false_or] at hsu
            clear ho
            by_cases hyk : y1 = (k : Int)
            · subst hyk
              rw [show (((k : Int) == (k : Int)) && sameB GG y2) = sameB GG y2 by simp] at hsu
              replace hsu := hide hsu
              go_wp2_with fail
              refine KK.out.mono ?_
              rintro e w6 ⟨rfl, nq2, hw6⟩
              have bb := below_drewN' wr nq2 wr.heap.size
              rw [← hw6] at bb
              have hi6 := hide (hi.out.trans (bb.mono hi.out.size))
              clear KK hw6 bb
              go_wp2
              go_roundw
              case rel => exact ⟨j + 1, by omega, by go_num, by rw [hsu.out], hi6⟩
              case measure => simp [intOf]; omega
            · have hyk' : (y1 == (k : Int)) = false := by simpa using hyk
              rw [hyk', Bool.false_and] at hsu
              replace hsu := hide hsu
              clear KK hyk
              go_wp2
              go_roundw
              case rel => exact ⟨j + 1, by omega, by go_num, by rw [hsu.out], hi⟩
              case measure => simp [intOf]; omega
        · have hjl : j = x0.2.length := by omega
          subst hjl
          have hOK' := hOK.out
          rw [hOK']
          clear hOK' hlt2 hj
          go_wp2_with fail
          refine (num4_any _ _).mono ?_
          rintro e w' ⟨rfl, rfl⟩
          go_wp2
          go_roundw
          case rel => exact ⟨k + 1, by omega, by go_num, hi5⟩
          case measure => simp [intOf]; omega
    · have hq : ¬ (k : Int) < (x0.1.length : Int) := by omega
      have C8 := hide (HCC.out.trans (hb.out.mono HCC.out.size))
      go_wp2
      go_ret
      exact ⟨rfl, C8.out⟩

set_option maxRecDepth 100000 in
theorem lifted (os : Os) (started : os.Started) (H : Type) (enc : TypeId × Value → H) :
    ReturnsInHanded {} Try.checked os 6 .any (Rows.diskOldOrNewSpec.pre6 enc Try.prog Try.f6 Rows.diskOldOrNewRow.domain false) (Rows.diskOldOrNewSpec.post enc Try.prog Try.f6 false true false false) := by
  refine returnsInHanded_of_change_sized (C := Try.checked) own started (by kernel_rfl) Try.func6
    (ChangeSpec.witness6 (enc := enc) (C := Try.checked) false ⟨#[], #[.agg #[.slice none 0 0, .slice none 0 0], .slice none 0 0], []⟩ 8 (by kernel_rfl) (by kernel_rfl) (by kernel_rfl) (by kernel_rfl)) ?_
  intro W base args ds gs before hval0 hW hcnd hsz0 _
  have hsz : (DataW.weightsEach Try.prog (Try.f6.params.toList ++ Rows.diskOldOrNewSpec.plain.varTypes Try.prog) (ds ++ gs)).all (· ≤ reachBytes) = true := hsz0
  have hval : ∀ (j : Nat) t v, Try.f6.params[j]? = some t → args[j]? = some v → Value.okWide Try.prog W .any base t v := hval0
  have hW' := hW
  obtain ⟨p, q, hA0, hV, rfl, hfz, hnd⟩ := hW
  have hA : DataW.TrodAll enc Try.prog W 0 (fun _ => true) true Try.f6.params.toList args.toList ds p := hA0
  rw [Try.params6] at hA hval hsz
  obtain ⟨v0, vs0, d0, ds0, p0, q0, hargs, rfl, rfl, h0, r0⟩ := trodAll_cons hA
  obtain ⟨v1, vs1, d1, ds1, p1, q1, rfl, rfl, rfl, h1, r1⟩ := trodAll_cons r0
  obtain ⟨rfl, rfl, rfl⟩ := trodAll_nil r1
  obtain rfl : args = #[v0, v1] := by cases args; simp_all
  obtain ⟨rfl, rfl⟩ := trodVars_none hV
  obtain ⟨cs0, rfl, _⟩ := okWide_struct Try.underlying25 (hval 0 25 v0 rfl rfl)
  have lt0 : ∀ x ∈ p0, x.block < W.heap.size := by obtain ⟨m, hm⟩ := h0; exact DataW.trod_lt m _ _ _ hm
  have hh0 := h0
  obtain ⟨fu0, hf0⟩ := hh0
  obtain ⟨x0, g0, f0, b0⟩ := open_state.opened hf0
  obtain ⟨a1, len1, cap1, rfl⟩ := okWide_slice Try.underlying52 (hval 1 52 v1 rfl rfl)
  have lt1 : ∀ x ∈ p1, x.block < W.heap.size := by obtain ⟨m, hm⟩ := h1; exact DataW.trod_lt m _ _ _ hm
  have hh1 := h1
  obtain ⟨fu1, hf1⟩ := hh1
  obtain ⟨x1, g1, f1, b1⟩ := open_bools.opened hf1
  have m0 := f0 (reach_of hsz (j := 0) rfl rfl)
  have m1 := f1 (reach_of hsz (j := 1) rfl rfl)
  clear hA0 hval0 hsz0 hsz
  refine (walk W cs0 x0 g0 m0 a1 len1 cap1 x1 g1 m1).mono fun e W' ⟨he, bel⟩ => ?_
  subst he
  exact ⟨_, rfl, _, _, _, [], _, [], hW', trodAll_mk1 (shut_bool Try.underlying4 _), (trodAll_cons_mk (Below.trod laidOut (by kernel_rfl) (of_decide_eq_true (by kernel_rfl)) h0 bel lt0) (trodAll_cons_mk (Below.trod laidOut (by kernel_rfl) (of_decide_eq_true (by kernel_rfl)) h1 bel lt1) trodAll_mk0)), rfl, bel.frame _, fun h => by cases h⟩

theorem over : Rows.diskOldOrNewRow.holds Try.pinned (OpenSpec.ofChange Rows.diskOldOrNewSpec) :=
  OpenClaim.holds_of_wide 6 Try.f6 rfl rfl rfl rfl rfl rfl rfl ⟨rfl, rfl, rfl, rfl, rfl⟩ rfl rfl rfl rfl rfl (by kernel_rfl) Try.func6 (by kernel_rfl)
    (of_decide_eq_true (by kernel_rfl)) (by unfold Func.isWrapper; first | (rw [if_pos (by decide +kernel)]; kernel_rfl) | (rw [if_neg (by decide +kernel)]; exact ⟨rfl, rfl⟩))
    (fun os started H enc _ => lifted os started H enc)

end Go.Proofs.Ythomioojkpmmgaa.diskOldOrNew
namespace Go.Proofs.Ythomioojkpmmgaa
/-- THE STATEMENT -/
theorem diskOldOrNew_holds : Rows.DiskOldOrNewSaid := diskOldOrNew.over
end Go.Proofs.Ythomioojkpmmgaa
