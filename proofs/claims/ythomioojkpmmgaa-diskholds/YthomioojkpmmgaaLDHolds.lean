/-
  PROVED: whatever numbers, octets and marks come in, transeptlaw04.DiskHolds returns true and leaves them as they were: the statement of P4.3 and P4.4 (what was put is got; behind a flush no crash changes it).
-/
import Derived.Test.YthomioojkpmmgaaDHMath
import Derived.Test.YthomioojkpmmgaaAppZ
import Derived.Test.YthomioojkpmmgaaSame
import Derived.Test.YthomioojkpmmgaaDIn
import Derived.Test.YthomioojkpmmgaaDAlive
import Derived.Deep.Cut
import Derived.Deep.CutRange
namespace Go.Proofs.Ythomioojkpmmgaa.diskHolds
open Go.ChangeShapes Go.WideShapes Go.ChangeAt Go.RowKit
set_option linter.unusedVariables false

set_option maxRecDepth 100000 in
set_option maxHeartbeats 8000000 in
theorem walk (w : World) (a0 : Int) (w0' : (Lit.int .i64 a0).wf = true) (a1 : Option Addr) (len1 cap1 : Nat) (x1 : List Int) (g1 : SInts.rd w [.slice a1 len1 cap1] x1) (m1 : x1.length * 8 ≤ 140737488351232 ∧ ∀ x ∈ x1, True) (a2 : Option Addr) (len2 cap2 : Nat) (x2 : List (List UInt8)) (g2 : SSec.rd w [.slice a2 len2 cap2] x2) (m2 : x2.length * 24 ≤ 140737488351232 ∧ ∀ x ∈ x2, x.length ≤ 140737488351232) (a3 : Option Addr) (len3 cap3 : Nat) (x3 : List Bool) (g3 : SKeep.rd w [.slice a3 len3 cap3] x3) (m3 : x3.length * 1 ≤ 140737488351232 ∧ ∀ x ∈ x3, True) :
    Calls Try.prog 5 #[.int .i64 a0, .slice a1 len1 cap1, .slice a2 len2 cap2, .slice a3 len3 cap3] w fun e w' => e = .returned (.bool true) ∧ Below w.heap.size w w' := by
  obtain ⟨v1, e1, h1⟩ := g1
  obtain ⟨v2, e2, h2⟩ := g2
  obtain ⟨v3, e3, h3⟩ := g3
  simp only [List.cons.injEq, and_true] at e1 e2 e3
  subst e1 e2 e3
  obtain ⟨_, _, e1⟩ := h1.slice
  obtain ⟨_, _, e2⟩ := h2.slice
  obtain ⟨_, _, e3⟩ := h3.slice
  cases e1; cases e2; cases e3
  have z1 := Int.lt_tmod_of_pos a0 (b := 20) (by decide)
  have z2 := Int.tmod_lt_of_pos a0 (b := 20) (by decide)
  have z3 := Int.emod_nonneg (a0.tmod 20) (b := 20) (by decide)
  have z4 := Int.emod_lt_of_pos (a0.tmod 20) (b := 20) (by decide)
  obtain ⟨N, hN⟩ : ∃ N : Nat, 1 + a0.tmod 20 % 20 = (N : Int) := ⟨(1 + a0.tmod 20 % 20).toNat, by omega⟩
  have hN1 : 0 < (N : Int) := by omega
  have hN2 : (N : Int) ≤ 20 := by omega
  have h1N : 1 ≤ N := by omega
  have h2N : N ≤ 20 := by omega
  have hnew : Hid (dnew (N : Int) = ((List.replicate N z64, []), 0)) := by
    show _ = _
    unfold dnew
    rw [if_neg (by omega)]
    simp [z64]
  have lb1 : x1.length ≤ 140737488351232 := by have := m1.1; omega
  have lb2 : x2.length ≤ 140737488351232 := by have := m2.1; omega
  have M2 := hide m2.2
  clear w0' m1 m2 m3
  go_enter Try.func5, Try.ntmps5
  go_wp2_with fail
  refine (dalive_any _).mono ?_
  rintro e w1 ⟨rfl, cc⟩
  have KK := hide (dnew_any w1 N)
  rw [hnew.out] at KK
  go_wp2_with fail
  refine KK.out.mono ?_
  rintro e w2 ⟨s, c, rfl, o, bb⟩
  clear KK hnew z1 z2 z3 z4 hN
  try dsimp only at o
  obtain ⟨al, cl, ac, cd, hv, hv2⟩ : ∃ al cl ac cd, s = .slice al N cl ∧ c = .slice ac 0 cd := by
    obtain ⟨FT, hFT, _⟩ := o.foot
    have := own_form' hFT
    simpa using this
  subst hv hv2
  replace cc := cc.trans (bb.mono cc.size)
  have hw2 := cc.size
  clear bb
  obtain ⟨U, hU, hA, bU, sU⟩ := boxed_row w2 (.slice al N cl) (.slice ac 0 cd) 29
  obtain ⟨W, hW⟩ : ∃ W, W = U.alloc (.cells (madeCells #[.slice none 0 0] N) 26) := ⟨_, rfl⟩
  have bW : Below U.heap.size U W := by rw [hW]; exact (Below.refl _ _).alloc (Nat.le_refl _) _
  have ol := own_lists U N (by omega)
  rw [← hW, sU] at ol
  have sW : W.heap.size = w2.heap.size + 1 + 1 := by rw [hW]; simp; omega
  have cW := cc.trans ((bU.trans (bW.mono bU.size)).mono cc.size)
  have HI : HInv w2.heap.size (w2.heap.size + 1) (w2.heap.size + 1) (.slice (some ⟨w2.heap.size + 1, 0, none⟩) N N) W (List.replicate N z64, []) (List.replicate N []) := by
    obtain ⟨FT, hFT, _⟩ := o.foot
    exact ⟨⟨_, _, (bW.block w2.heap.size (by omega)).trans hA, FT, (hFT.to bU).to bW, fun h => by have := hFT.lt _ h; omega, fun h => by have := hFT.lt _ h; omega⟩, ol⟩
  have H0 := hide (And.intro (MInv.start N) (And.intro HI (And.intro cW (show w2.heap.size + 1 < W.heap.size by omega))))
  have R1 := hide h1
  have R2 := hide h2
  have R3 := hide h3
  clear HI cW ol o bW bU hA cc h1 h2 h3
  go_wp2_with fail
  refine (num4_any _ _).mono ?_
  rintro e w' ⟨rfl, rfl⟩
  have hmk := fun u => make_lists (n := N) (by omega) u
  go_wp2
  rw [← hU, ← hW]
  replace hU := hide hU
  replace hW := hide hW
  clear hmk
  go_loopw [12] (fun a wr => ∃ (i : Nat) (d : Dsk) (L : List (List UInt8)), i ≤ 60 ∧ a = .int .i64 i ∧ Hid (MInv N d L i ∧ HInv w2.heap.size (w2.heap.size + 1) (w2.heap.size + 1) (.slice (some ⟨w2.heap.size + 1, 0, none⟩) N N) wr d L ∧ Below w.heap.size w wr ∧ w2.heap.size + 1 < wr.heap.size)) (fun a _ => 60 - (intOf a).toNat)
  case atStart => exact ⟨0, _, _, by omega, rfl, H0⟩
  case round =>
    obtain ⟨i, d, L, hi, rfl, hH⟩ := hrel
    clear H0
    by_cases hall : i < x1.length ∧ i < x2.length ∧ i < 60
    · obtain ⟨i1, i2, i3⟩ := hall
      have j1 : (i : Int) < (x1.length : Int) := by omega
      have j2 : (i : Int) < (x2.length : Int) := by omega
      have j3 : (i : Int) < 60 := by omega
      obtain ⟨hM, HI, cc, hsz⟩ := hH.out
      obtain ⟨z, hz, _⟩ := some_at x1 i1
      obtain ⟨X, hX, hXm⟩ := some_at x2 i2
      have hXl := M2.out X hXm
      obtain ⟨bz, oz, uz, rfl, hcz, ez⟩ := RdS.at1 rfl (R1.out.to0 cc) hz
      have ez' : [uz] = [Value.int .i64 z] := ez
      simp only [List.cons.injEq, and_true] at ez'
      subst ez'
      obtain ⟨bx, ox, ux, rfl, hcx0, hrx⟩ := R2.out.oct hX
      have hcx := (cc.cell (cell_lt hcx0)).trans hcx0
      clear hcx0
      obtain ⟨ad, cdd, rfl⟩ := hrx.slice
      have y1 := Int.lt_tmod_of_pos z hN1
      have y2 := Int.tmod_lt_of_pos z hN1
      have y3 := Int.emod_nonneg (z.tmod N) (b := N) (by omega)
      have y4 := Int.emod_lt_of_pos (z.tmod N) hN1
      obtain ⟨p, hp⟩ : ∃ p : Nat, z.tmod N % N = (p : Int) := ⟨(z.tmod N % N).toNat, by omega⟩
      have hpN : (p : Int) < (N : Int) := by omega
      obtain ⟨l, hl⟩ : ∃ l : Nat, min (X.length : Int) 64 = (l : Int) := ⟨min X.length 64, by omega⟩
      have fx := rd_take hrx (n := l) (by omega)
      have cx : (l : Int) ≤ (cdd : Int) := by have := rd_cap hrx; omega
      obtain ⟨Y, hY⟩ : ∃ Y, Y = X.take l := ⟨_, rfl⟩
      rw [← hY] at fx
      have kY := hide (show Y.length = l by rw [hY]; simp; omega)
      have hl64 : l ≤ 64 := by omega
      obtain ⟨hput, hM'⟩ := hM.put h1N h2N i3 (p := p) (by omega) (X := Y) (by rw [kY.out]; exact hl64)
      have HM := hide (And.intro hput hM')
      have HL := hide hM.l
      have HD : Hid (d.1.length = N ∧ d.2.length = i) := ⟨by rw [hM.s]; simp, hM.n⟩
      have HH := hide (And.intro HI (And.intro cc fx))
      clear hput hM' hM HI cc fx hrx hY hH hX hXm hz
      go_upto_region 12 with fail
      simp only [Int.add_emod_right, hp]
      go_cut [14] from 72 to 82 (fun s wx => s = .slice ad l cdd ∧ wx = wr.drew)
      case first =>
        go_region
        all_goals (go_wp2_with fail)
        all_goals (go_meet; exact ⟨by congr 1; omega, rfl⟩)
      case rest =>
      obtain ⟨rfl, rfl⟩ := hcut
      clear y1 y2 y3 y4 cx hl hcz hcx
      have HI := HH.out.1.drew
      have cc : Below w.heap.size w wr.drew := HH.out.2.1.drew
      have fx : Rd w (.slice ad l cdd) Y := HH.out.2.2
      have hsz' : w2.heap.size + 1 < wr.drew.heap.size := hsz
      clear HH hsz
      generalize wr.drew = wd at *
      obtain ⟨⟨s, c, hrow, F, hF, nb, ng⟩, la⟩ := id HI
      obtain ⟨al5, cl5, ac5, cd5, hv, hv2⟩ : ∃ al cl ac cd, s = .slice al N cl ∧ c = .slice ac i cd := by
        have := own_form' hF
        rw [HD.out.1, HD.out.2] at this
        exact this
      subst hv hv2
      obtain ⟨r5, q5⟩ := Own.rd2 (B := 0) (show Own SStP 0 wd [.slice al5 N cl5, .slice ac5 i cd5] d from ⟨F, hF.1, hF.2, fun _ _ => Nat.zero_le _⟩)
      have KK := hide (dput_any wd _ _ (.slice ad l cdd) d p Y r5 q5 (fx.to cc))
      rw [HM.out.1] at KK
      obtain ⟨A0, A1, _, _⟩ := row2_cells hrow
      clear hrow hF nb ng la r5 q5
      go_wp2_with fail
      refine KK.out.mono ?_
      rintro e w4 ⟨s, c, rfl, o, bb⟩
      clear KK A0 A1
      try dsimp only at o
      obtain ⟨al6, cl6, ac6, cd6, hv, hv2⟩ : ∃ al cl ac cd, s = .slice al N cl ∧ c = .slice ac (i + 1) cd := by
        obtain ⟨FT, hFT, _⟩ := o.foot
        have := own_form' hFT
        simp only [List.length_append, List.length_cons, List.length_nil] at this
        rw [HD.out.1, HD.out.2] at this
        exact this
      subst hv hv2
      obtain ⟨U4, hU4, ⟨x0, y0, rU⟩, T0, T1, V, hV, HV, bV, sV⟩ := HI.over (by omega) (by omega) (by omega) o bb
      obtain ⟨A0, A1, A2, A3⟩ := row2_cells rU
      have cV := cc.trans (bV w.heap.size hw2)
      have KK := hide (copy_any V _ Y (fx.to cV) (by rw [kY.out]; omega))
      clear o bb HI cc fx rU
      rw [hU4] at T0 T1 A0 A1 A2 A3
      go_wp2_with fail
      refine (num4_any _ _).mono ?_
      rintro e w' ⟨rfl, rfl⟩
      go_wp2_with fail
      rw [← hU4, ← hV]
      clear A0 A1 A2 A3 T0 T1
      replace hU4 := hide hU4
      replace hV := hide hV
      refine KK.out.mono ?_
      rintro e w5 ⟨vO, rfl, oO, b5⟩
      clear KK
      obtain ⟨m, hm⟩ : ∃ m : Nat, (64 : Int) - (l : Int) = (m : Int) := ⟨64 - l, by omega⟩
      have hpad : Y ++ List.replicate m 0 = pad Y := by rw [← pad_app (X := Y) (by rw [kY.out]; exact hl64), kY.out, show m = 64 - l by omega]
      obtain ⟨v6, w6, hr6, o6, g6⟩ := run_append_zeros w5 26 oO m (by rw [kY.out]; omega) b5.size
      rw [hpad] at o6
      have b6 : Below V.heap.size V w6 := b5.trans ⟨g6.os, g6.tape, g6.output, g6.size, fun k hk => g6.block k (by have := b5.size; omega) (fun e => by have := (World.ownsRow.lt oO k e.symm).1; omega)⟩
      obtain ⟨aO, cO, hvO⟩ := oO.rd.slice
      rw [kY.out] at hvO
      subst hvO
      obtain ⟨a6, c6, hv6⟩ := o6.rd.slice
      rw [pad_len] at hv6
      subst hv6
      obtain ⟨f6, ⟨u0, cu6⟩, HI7, hBg, hgl⟩ := HV.setL (by omega) (by omega) (by omega) (p := p) (by rw [HL.out]; omega) b6 o6
      have c7 := (cV.trans (b6.mono cV.size)).setCell (p := ⟨w2.heap.size + 1, p, none⟩) (show w.heap.size ≤ w2.heap.size + 1 by omega) (.slice a6 64 c6)
      have s7 : w2.heap.size + 1 < w6.heap.size := by have := b6.size; omega
      have H7 := hide (And.intro HM.out.2 (And.intro HI7 (And.intro c7 (show w2.heap.size + 1 < (w6.setCell ⟨w2.heap.size + 1, p, none⟩ (.slice a6 64 c6)).heap.size by simpa [World.setCell] using s7))))
      clear HI7 c7 s7 b6 o6 g6 oO b5 hpad HV cV HM bV
      go_wp2_with (at_builtin; refine Lib.wpList_append_run _ rfl _ _ _ _ rfl _ _ rfl rfl _ _ hr6 ?_)
      go_roundw
      case rel => exact ⟨i + 1, _, _, by omega, by go_num, H7⟩
      case measure => simp [intOf]; omega
    · go_upto_region 9 with fail
      go_cut [59] from 46 to 59 (fun s wx => s = .bool false ∧ wr = wx)
      case first =>
        by_cases g1 : i < x1.length
        · have j1 : (i : Int) < (x1.length : Int) := by omega
          by_cases g2 : i < x2.length
          · have j2 : (i : Int) < (x2.length : Int) := by omega
            have j3 : decide ((i : Int) < 60) = false := by simp; omega
            go_wp2_with fail
            go_meet
            exact ⟨rfl, rfl⟩
          · have j2 : decide ((i : Int) < (x2.length : Int)) = false := by simp; omega
            go_wp2_with fail
            go_meet
            exact ⟨rfl, rfl⟩
        · have j1 : decide ((i : Int) < (x1.length : Int)) = false := by simp; omega
          go_wp2_with fail
          go_meet
          exact ⟨rfl, rfl⟩
      case rest =>
      obtain ⟨rfl, rfl⟩ := hcut
      obtain ⟨hM, HI, cc, hsz⟩ := hH.out
      have HD : Hid (d.1.length = N ∧ d.2.length = i) := ⟨by rw [hM.s]; simp, hM.n⟩
      obtain ⟨S1, hfl, hS1, hcr, hget⟩ := hM.fin h1N h2N hi x3
      have HL := hide hM.l
      have HG := hide hget
      have HE := hide (And.intro hfl hcr)
      obtain ⟨⟨s, c, hrow, F, hF, nb, ng⟩, la⟩ := HI
      obtain ⟨al5, cl5, ac5, cd5, hv, hv2⟩ : ∃ al cl ac cd, s = .slice al N cl ∧ c = .slice ac i cd := by
        have := own_form' hF
        rw [HD.out.1, HD.out.2] at this
        exact this
      subst hv hv2
      obtain ⟨r5, q5⟩ := Own.rd2 (B := 0) (show Own SStP 0 wr [.slice al5 N cl5, .slice ac5 i cd5] d from ⟨F, hF.1, hF.2, fun _ _ => Nat.zero_le _⟩)
      have rL := la.rdS
      obtain ⟨A0, A1, _, _⟩ := row2_cells hrow
      clear hH hM hfl hcr hget hrow hF nb ng la hall
      generalize wr = V at *
      have KK := hide (dflush_any V _ _ d r5 q5)
      rw [HE.out.1] at KK
      go_wp2_with fail
      refine KK.out.mono ?_
      rintro e w4 ⟨s, c, rfl, o, bb⟩
      clear KK
      try dsimp only at o
      obtain ⟨al6, cl6, ac6, cd6, hv, hv2⟩ : ∃ al cl ac cd, s = .slice al N cl ∧ c = .slice ac 0 cd := by
        obtain ⟨FT, hFT, _⟩ := o.foot
        rw [← hS1]; exact own_form' hFT
      subst hv hv2
      obtain ⟨r6, q6⟩ := o.rd2
      obtain ⟨U6, hU6, T0, T1, bU, sU6⟩ := boxed2 w4 (.slice al6 N cl6) (.slice ac6 0 cd6) 29
      have b6 := bb.trans (bU.mono bb.size)
      replace A0 := (b6.cell (cell_lt A0)).trans A0
      replace A1 := (b6.cell (cell_lt A1)).trans A1
      replace r5 := r5.to0 b6
      replace q5 := q5.to0 b6
      replace rL := rL.to0 b6
      replace r6 := r6.to0 bU
      replace q6 := q6.to0 bU
      replace cc := cc.trans (b6.mono cc.size)
      clear o bb bU b6
      have KK := hide (dcrash_any U6 _ _ _ (S1, []) x3 0 1 r6 q6 (R3.out.to0 cc))
      rw [HE.out.2] at KK
      rw [hU6] at T0 T1 A0 A1
      go_wp2_with fail
      rw [← hU6]
      rw [← hU6] at T0 T1 A0 A1
      replace hU6 := hide hU6
      refine KK.out.mono ?_
      rintro e w7 ⟨s, c, rfl, o, bb⟩
      clear KK
      try dsimp only at o
      obtain ⟨al7, cl7, ac7, cd7, hv, hv2⟩ : ∃ al cl ac cd, s = .slice al N cl ∧ c = .slice ac 0 cd := by
        obtain ⟨FT, hFT, _⟩ := o.foot
        rw [← hS1]; exact own_form' hFT
      subst hv hv2
      obtain ⟨r7, q7⟩ := o.rd2
      obtain ⟨U8, hU8, Z0, Z1, bU, sU8⟩ := boxed2 w7 (.slice al7 N cl7) (.slice ac7 0 cd7) 29
      have b8 := bb.trans (bU.mono bb.size)
      replace A0 := (b8.cell (cell_lt A0)).trans A0
      replace A1 := (b8.cell (cell_lt A1)).trans A1
      replace T0 := (b8.cell (cell_lt T0)).trans T0
      replace T1 := (b8.cell (cell_lt T1)).trans T1
      have HR := hide (And.intro (r5.to0 b8) (And.intro (q5.to0 b8) (And.intro (r6.to0 b8) (And.intro (q6.to0 b8) (And.intro (r7.to0 bU) (And.intro (q7.to0 bU) (rL.to0 b8)))))))
      have HCC := hide (cc.trans (b8.mono cc.size))
      clear o bb bU b8 r5 q5 r6 q6 r7 q7 rL cc
      rw [hU8] at T0 T1 A0 A1 Z0 Z1
      go_wp2_with fail
      refine (num4_any _ _).mono ?_
      rintro e w' ⟨rfl, rfl⟩
      go_wp2_with fail
      refine (num4_any _ _).mono ?_
      rintro e w' ⟨rfl, rfl⟩
      go_wp2
      rw [← hU8]
      rw [← hU8] at T0 T1 A0 A1 Z0 Z1
      replace hU8 := hide hU8
      have HC := hide (And.intro A0 (And.intro A1 (And.intro T0 (And.intro T1 (And.intro Z0 Z1)))))
      clear A0 A1 T0 T1 Z0 Z1
      go_loopw [21] (fun a wr => ∃ k : Nat, k ≤ N ∧ a = .int .i64 k ∧ Hid (Below U8.heap.size U8 wr)) (fun a _ => N - (intOf a).toNat)
      case atStart => exact ⟨0, Nat.zero_le _, rfl, hide (Below.refl _ _)⟩
      case round =>
        obtain ⟨k, hk, rfl, hb⟩ := hrel
        by_cases hlt : k < N
        · have hq : (k : Int) < (N : Int) := by omega
          obtain ⟨x, hx, _⟩ := some_at L (k := k) (by rw [HL.out]; exact hlt)
          obtain ⟨e1, e2, e3⟩ := HG.out k hlt
          rw [getD_some hx] at e1 e2 e3
          have E := hide (And.intro e1 (And.intro e2 e3))
          clear e1 e2 e3
          have A0 := (hb.out.cell (cell_lt HC.out.1)).trans HC.out.1
          have A1 := (hb.out.cell (cell_lt HC.out.2.1)).trans HC.out.2.1
          have T0 := (hb.out.cell (cell_lt HC.out.2.2.1)).trans HC.out.2.2.1
          have T1 := (hb.out.cell (cell_lt HC.out.2.2.2.1)).trans HC.out.2.2.2.1
          have Z0 := (hb.out.cell (cell_lt HC.out.2.2.2.2.1)).trans HC.out.2.2.2.2.1
          have Z1 := (hb.out.cell (cell_lt HC.out.2.2.2.2.2)).trans HC.out.2.2.2.2.2
          have KK := hide (dget_any wr _ _ d k (HR.out.1.to0 hb.out) (HR.out.2.1.to0 hb.out))
          rw [E.out.1] at KK
          go_wp2_with fail
          refine KK.out.mono ?_
          rintro e wa ⟨va, rfl, oa, bb⟩
          clear KK A0 A1
          try dsimp only at oa
          replace T0 := (bb.cell (cell_lt T0)).trans T0
          replace T1 := (bb.cell (cell_lt T1)).trans T1
          replace Z0 := (bb.cell (cell_lt Z0)).trans Z0
          replace Z1 := (bb.cell (cell_lt Z1)).trans Z1
          have hb1 := hide (hb.out.trans (bb.mono hb.out.size))
          have fa := hide oa.rd
          clear hb bb oa
          obtain ⟨aa, ca, hva⟩ := fa.out.slice
          rw [E.out.2.2] at hva
          subst hva
          have KK := hide (dget_any wa _ _ (S1, []) k (HR.out.2.2.1.to0 hb1.out) (HR.out.2.2.2.1.to0 hb1.out))
          rw [E.out.2.1] at KK
          go_wp2_with fail
          refine KK.out.mono ?_
          rintro e wb ⟨vb, rfl, ob, bb⟩
          clear KK T0 T1
          try dsimp only at ob
          replace Z0 := (bb.cell (cell_lt Z0)).trans Z0
          replace Z1 := (bb.cell (cell_lt Z1)).trans Z1
          have hb2 := hide (hb1.out.trans (bb.mono hb1.out.size))
          have fb := hide ob.rd
          have fa2 := hide (fa.out.to bb)
          clear hb1 bb ob fa
          obtain ⟨ab, cb, hvb⟩ := fb.out.slice
          rw [E.out.2.2] at hvb
          subst hvb
          have KK := hide (dget_any wb _ _ (S1, []) k (HR.out.2.2.2.2.1.to0 hb2.out) (HR.out.2.2.2.2.2.1.to0 hb2.out))
          rw [E.out.2.1] at KK
          go_wp2_with fail
          refine KK.out.mono ?_
          rintro e wc ⟨vc, rfl, oc, bb⟩
          clear KK Z0 Z1
          try dsimp only at oc
          have hb3 := hide (hb2.out.trans (bb.mono hb2.out.size))
          have fc := hide oc.rd
          have fb2 := hide (fb.out.to bb)
          have fa3 := hide (fa2.out.to bb)
          clear hb2 bb oc fb fa2
          obtain ⟨ad, cdc, hvc⟩ := fc.out.slice
          rw [E.out.2.2] at hvc
          subst hvc
          obtain ⟨bl, ofl, ul, ell, hcl, hrl⟩ := (HR.out.2.2.2.2.2.2.to0 hb3.out).oct hx
          cases ell
          rw [Nat.zero_add] at hcl
          obtain ⟨au, cu, rfl⟩ := hrl.slice
          by_cases h0 : x.length = 0
          · have hWt : wanted x = z64 := by unfold wanted; rw [if_pos h0]
            have om := own_made wc 64 (by unfold maxLen; omega)
            obtain ⟨Wm, hWm⟩ : ∃ Wm, Wm = wc.alloc (.cells (madeCells #[.int .u8 0] 64) 5) := ⟨_, rfl⟩
            rw [← hWm] at om
            have b1 : Below wc.heap.size wc Wm := by rw [hWm]; exact (Below.refl _ _).alloc (Nat.le_refl _) _
            have fw : Hid (Rd Wm (.slice (some ⟨wc.heap.size, 0, none⟩) 64 64) (wanted x)) := by rw [hWt]; exact om.rd
            have fa := hide (fa3.out.to b1)
            have fb := hide (fb2.out.to b1)
            have fcm := hide (fc.out.to b1)
            have bm := hide (hb3.out.trans (b1.mono hb3.out.size))
            have hmk := make_64
            rw [h0] at hcl
            clear fa3 fb2 fc hb3 om hWt b1 hrl hx
            have fc := fcm
            clear fcm
            generalize wanted x = Wt at *
            go_wp2_with fail
            rw [← hWm]
            replace hWm := hide hWm
            clear hmk hcl
            refine (num4_any _ _).mono ?_
            rintro e w' ⟨rfl, rfl⟩
            go_wp2_with fail
            refine (num4_any _ _).mono ?_
            rintro e w' ⟨rfl, rfl⟩
            go_wp2_with fail
            refine (num4_any _ _).mono ?_
            rintro e w' ⟨rfl, rfl⟩
            have KK := hide (same_any Wm _ _ Wt Wt fa.out fw.out)
            rw [sameB_self] at KK
            go_wp2_with fail
            refine KK.out.mono ?_
            rintro e wp ⟨rfl, nq, hw⟩
            have bb := below_drewN' Wm nq Wm.heap.size
            rw [← hw] at bb
            clear KK hw
            have KK := hide (same_any wp _ _ Wt Wt (fb.out.to bb) (fw.out.to bb))
            rw [sameB_self] at KK
            have fc' := hide (fc.out.to bb)
            have fw' := hide (fw.out.to bb)
            have bm' := hide (bm.out.trans (bb.mono bm.out.size))
            clear bb bm fa fb fc fw
            go_wp2_with fail
            refine KK.out.mono ?_
            rintro e wq ⟨rfl, nq2, hw⟩
            have bb := below_drewN' wp nq2 wp.heap.size
            rw [← hw] at bb
            clear KK hw
            have KK := hide (same_any wq _ _ Wt Wt (fc'.out.to bb) (fw'.out.to bb))
            rw [sameB_self] at KK
            have bm := hide (bm'.out.trans (bb.mono bm'.out.size))
            clear bb bm' fc' fw'
            go_wp2_with fail
            refine KK.out.mono ?_
            rintro e wz ⟨rfl, nq3, hw⟩
            have bb := below_drewN' wq nq3 wq.heap.size
            rw [← hw] at bb
            clear KK hw
            have bz := hide (bm.out.trans (bb.mono bm.out.size))
            clear bb bm
            go_wp2
            go_roundw
            case rel => exact ⟨k + 1, by omega, by go_num, bz⟩
            case measure => simp [intOf]; omega
          · have hWt : wanted x = x := by unfold wanted; rw [if_neg h0]
            have hxl : x.length = 64 := by have := E.out.2.2; rw [hWt] at this; exact this
            rw [hxl] at hcl hrl
            rw [hWt] at fa3 fb2 fc
            have fw := hide hrl
            have fa := fa3
            have fb := fb2
            have bm := hb3
            clear fa3 fb2 hb3 hrl hx hWt h0 E
            generalize x = Wt at *
            replace hxl := hide hxl
            generalize wc = Wm at *
            go_wp2_with fail
            refine (num4_any _ _).mono ?_
            rintro e w' ⟨rfl, rfl⟩
            clear hcl
            go_wp2_with fail
            refine (num4_any _ _).mono ?_
            rintro e w' ⟨rfl, rfl⟩
            go_wp2_with fail
            refine (num4_any _ _).mono ?_
            rintro e w' ⟨rfl, rfl⟩
            have KK := hide (same_any Wm _ _ Wt Wt fa.out fw.out)
            rw [sameB_self] at KK
            go_wp2_with fail
            refine KK.out.mono ?_
            rintro e wp ⟨rfl, nq, hw⟩
            have bb := below_drewN' Wm nq Wm.heap.size
            rw [← hw] at bb
            clear KK hw
            have KK := hide (same_any wp _ _ Wt Wt (fb.out.to bb) (fw.out.to bb))
            rw [sameB_self] at KK
            have fc' := hide (fc.out.to bb)
            have fw' := hide (fw.out.to bb)
            have bm' := hide (bm.out.trans (bb.mono bm.out.size))
            clear bb bm fa fb fc fw
            go_wp2_with fail
            refine KK.out.mono ?_
            rintro e wq ⟨rfl, nq2, hw⟩
            have bb := below_drewN' wp nq2 wp.heap.size
            rw [← hw] at bb
            clear KK hw
            have KK := hide (same_any wq _ _ Wt Wt (fc'.out.to bb) (fw'.out.to bb))
            rw [sameB_self] at KK
            have bm := hide (bm'.out.trans (bb.mono bm'.out.size))
            clear bb bm' fc' fw'
            go_wp2_with fail
            refine KK.out.mono ?_
            rintro e wz ⟨rfl, nq3, hw⟩
            have bb := below_drewN' wq nq3 wq.heap.size
            rw [← hw] at bb
            clear KK hw
            have bz := hide (bm.out.trans (bb.mono bm.out.size))
            clear bb bm
            go_wp2
            go_roundw
            case rel => exact ⟨k + 1, by omega, by go_num, bz⟩
            case measure => simp [intOf]; omega
        · have hq : ¬ (k : Int) < (N : Int) := by omega
          have C8 := hide (HCC.out.trans (hb.out.mono HCC.out.size))
          go_wp2
          go_ret
          exact ⟨rfl, C8.out⟩

set_option maxRecDepth 100000 in
theorem lifted (os : Os) (started : os.Started) (H : Type) (enc : TypeId × Value → H) :
    ReturnsInHanded {} Try.checked os 5 .any (Rows.diskHoldsSpec.pre6 enc Try.prog Try.f5 Rows.diskHoldsRow.domain false) (Rows.diskHoldsSpec.post enc Try.prog Try.f5 false true false false) := by
  refine returnsInHanded_of_change_sized (C := Try.checked) own started (by kernel_rfl) Try.func5
    (ChangeSpec.witness6 (enc := enc) (C := Try.checked) false ⟨#[], #[.int .i64 0, .slice none 0 0, .slice none 0 0, .slice none 0 0], []⟩ 8 (by kernel_rfl) (by kernel_rfl) (by kernel_rfl) (by kernel_rfl)) ?_
  intro W base args ds gs before hval0 hW hcnd hsz0 _
  have hsz : (DataW.weightsEach Try.prog (Try.f5.params.toList ++ Rows.diskHoldsSpec.plain.varTypes Try.prog) (ds ++ gs)).all (· ≤ reachBytes) = true := hsz0
  have hval : ∀ (j : Nat) t v, Try.f5.params[j]? = some t → args[j]? = some v → Value.okWide Try.prog W .any base t v := hval0
  have hW' := hW
  obtain ⟨p, q, hA0, hV, rfl, hfz, hnd⟩ := hW
  have hA : DataW.TrodAll enc Try.prog W 0 (fun _ => true) true Try.f5.params.toList args.toList ds p := hA0
  rw [Try.params5] at hA hval hsz
  obtain ⟨v0, vs0, d0, ds0, p0, q0, hargs, rfl, rfl, h0, r0⟩ := trodAll_cons hA
  obtain ⟨v1, vs1, d1, ds1, p1, q1, rfl, rfl, rfl, h1, r1⟩ := trodAll_cons r0
  obtain ⟨v2, vs2, d2, ds2, p2, q2, rfl, rfl, rfl, h2, r2⟩ := trodAll_cons r1
  obtain ⟨v3, vs3, d3, ds3, p3, q3, rfl, rfl, rfl, h3, r3⟩ := trodAll_cons r2
  obtain ⟨rfl, rfl, rfl⟩ := trodAll_nil r3
  obtain rfl : args = #[v0, v1, v2, v3] := by cases args; simp_all
  obtain ⟨rfl, rfl⟩ := trodVars_none hV
  obtain ⟨a0, rfl, rfl, rfl, w0⟩ := open_int Try.underlying3 (hval 0 3 v0 rfl rfl) h0
  obtain ⟨a1, len1, cap1, rfl⟩ := okWide_slice Try.underlying56 (hval 1 56 v1 rfl rfl)
  have lt1 : ∀ x ∈ p1, x.block < W.heap.size := by obtain ⟨m, hm⟩ := h1; exact DataW.trod_lt m _ _ _ hm
  have hh1 := h1
  obtain ⟨fu1, hf1⟩ := hh1
  obtain ⟨x1, g1, f1, b1⟩ := open_sints.opened hf1
  obtain ⟨a2, len2, cap2, rfl⟩ := okWide_slice Try.underlying22 (hval 2 22 v2 rfl rfl)
  have lt2 : ∀ x ∈ p2, x.block < W.heap.size := by obtain ⟨m, hm⟩ := h2; exact DataW.trod_lt m _ _ _ hm
  have hh2 := h2
  obtain ⟨fu2, hf2⟩ := hh2
  obtain ⟨x2, g2, f2, b2⟩ := open_sectors.opened hf2
  obtain ⟨a3, len3, cap3, rfl⟩ := okWide_slice Try.underlying52 (hval 3 52 v3 rfl rfl)
  have lt3 : ∀ x ∈ p3, x.block < W.heap.size := by obtain ⟨m, hm⟩ := h3; exact DataW.trod_lt m _ _ _ hm
  have hh3 := h3
  obtain ⟨fu3, hf3⟩ := hh3
  obtain ⟨x3, g3, f3, b3⟩ := open_bools.opened hf3
  have m1 := f1 (reach_of hsz (j := 1) rfl rfl)
  have m2 := f2 (reach_of hsz (j := 2) rfl rfl)
  have m3 := f3 (reach_of hsz (j := 3) rfl rfl)
  clear hA0 hval0 hsz0 hsz
  refine (walk W a0 w0 a1 len1 cap1 x1 g1 m1 a2 len2 cap2 x2 g2 m2 a3 len3 cap3 x3 g3 m3).mono fun e W' ⟨he, bel⟩ => ?_
  subst he
  exact ⟨_, rfl, _, _, _, [], _, [], hW', trodAll_mk1 (shut_bool Try.underlying4 _), (trodAll_cons_mk (shut_int Try.underlying3 w0) (trodAll_cons_mk (Below.trod laidOut (by kernel_rfl) (of_decide_eq_true (by kernel_rfl)) h1 bel lt1) (trodAll_cons_mk (Below.trod laidOut (by kernel_rfl) (of_decide_eq_true (by kernel_rfl)) h2 bel lt2) (trodAll_cons_mk (Below.trod laidOut (by kernel_rfl) (of_decide_eq_true (by kernel_rfl)) h3 bel lt3) trodAll_mk0)))), rfl, bel.frame _, fun h => by cases h⟩

theorem over : Rows.diskHoldsRow.holds Try.pinned (OpenSpec.ofChange Rows.diskHoldsSpec) :=
  OpenClaim.holds_of_wide 5 Try.f5 rfl rfl rfl rfl rfl rfl rfl ⟨rfl, rfl, rfl, rfl, rfl⟩ rfl rfl rfl rfl rfl (by kernel_rfl) Try.func5 (by kernel_rfl)
    (of_decide_eq_true (by kernel_rfl)) (by unfold Func.isWrapper; first | (rw [if_pos (by decide +kernel)]; kernel_rfl) | (rw [if_neg (by decide +kernel)]; exact ⟨rfl, rfl⟩))
    (fun os started H enc _ => lifted os started H enc)

end Go.Proofs.Ythomioojkpmmgaa.diskHolds
namespace Go.Proofs.Ythomioojkpmmgaa
/-- THE STATEMENT -/
theorem diskHolds_holds : Rows.DiskHoldsSaid := diskHolds.over
end Go.Proofs.Ythomioojkpmmgaa
