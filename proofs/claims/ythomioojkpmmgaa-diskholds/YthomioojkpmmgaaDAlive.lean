/-
  The law's own 'alive' (the page's example of disks) answers true; it makes memory of its own and changes none that was there.
-/
import Derived.Test.YthomioojkpmmgaaDCrashP
import Derived.Test.YthomioojkpmmgaaDGetP
import Derived.Test.YthomioojkpmmgaaConv
namespace Go.Proofs.Ythomioojkpmmgaa
open Go.RowKit
set_option linter.unusedVariables false

theorem num4_any (w : World) (n : Int) :
    Calls Try.prog 20 #[.int .i64 n] w fun e w' => e = .returned (.int .i64 n) ∧ w = w' := by
  go_enter Try.func20, Try.ntmps20
  go_wp2
  go_ret
  exact ⟨rfl, rfl⟩
theorem Own.rd2 {T B : Nat} {w : World} {sv cv : Value} {d : Dsk} (h : Own (SSec.pair (Shp.list T SWr)) B w [sv, cv] d) : RdSec w sv d.1 ∧ RdC w cv d.2 := by
  obtain ⟨F, hF, _⟩ := h.foot
  obtain ⟨F1, F2, _, p1, p2, _⟩ := OwnF.split (c := [sv]) (d := [cv]) hF rfl
  obtain ⟨v1, e1, r1⟩ := p1.rd
  obtain ⟨v2, e2, r2⟩ := p2.rd
  simp at e1 e2; subst e1 e2
  exact ⟨r1, r2⟩
def ex0 : Dsk := (List.replicate 2 (List.replicate 64 0), [])
def ex1 : Dsk := (List.replicate 2 (List.replicate 64 0), [(1, pad [97, 98])])
theorem ex_new : dnew 2 = (ex0, 0) := by decide +kernel
theorem ex_put : dput ex0 1 [97, 98] = (ex1, 0) := by decide +kernel
theorem ex_get : dget ex1 1 = (pad [97, 98], 0) := by decide +kernel
theorem ex_crash : dcrash ex1 [] 0 0 = (ex0, 0) := by decide +kernel
theorem ex_get0 : dget ex0 1 = (List.replicate 64 0, 0) := by decide +kernel

set_option maxRecDepth 100000 in
set_option maxHeartbeats 2000000 in
theorem dalive_any (w : World) : Calls Try.prog 24 #[] w fun e w' => e = .returned (.bool true) ∧ Below w.heap.size w w' := by
  have KN := hide (dnew_any w 2)
  rw [ex_new] at KN
  go_enter Try.func24, Try.ntmps24
  go_wp2_with fail
  refine KN.out.mono ?_
  rintro e w1 ⟨sv, cv, rfl, o1, b1⟩
  clear KN
  obtain ⟨q1, q2⟩ := o1.rd2
  obtain ⟨a1, c1, hv1⟩ := q1.slice
  obtain ⟨a2, c2, hv2⟩ := q2.slice
  rw [show ex0.1.length = 2 from rfl] at hv1
  rw [show ex0.2.length = 0 from rfl] at hv2
  subst hv1 hv2
  obtain ⟨X, hX, X0, X1, bX, sX⟩ := boxed2 w1 (.slice a1 2 c1) (.slice a2 0 c2) 29
  have hT : X.heap[w1.heap.size]? = some (.cells #[.slice a1 2 c1, .slice a2 0 c2] 29 (0, 0)) := by rw [hX]; exact heap_alloc_last w1 _
  obtain ⟨u, hu⟩ : ∃ u, u = X.alloc (.cells #[.int .u8 97, .int .u8 98] 5) := ⟨_, rfl⟩
  have hr : Rd (u.freeze ⟨X.heap.size, 2, none⟩ 1) (.slice (some ⟨X.heap.size, 0, none⟩) 2 2) [97, 98] :=
    Rd.freeze (by rw [hu]; exact rd_lit X [97, 98] _ _ _ rfl rfl rfl (by decide)) _ _
  have hb0 : Below X.heap.size X u := by rw [hu]; exact (Below.refl _ _).alloc (Nat.le_refl _) _
  have hb1 : Below X.heap.size X (u.freeze ⟨X.heap.size, 2, none⟩ 1) := Lib.below_freeze hb0 (p := ⟨X.heap.size, 2, none⟩) (Nat.le_refl _) 1
  have hcv := conv_same u X.heap.size 2 2 5 2 (by rw [hu, World.shape?, heap_alloc_last]; rfl)
  obtain ⟨Y, hY⟩ : ∃ Y, Y = u.freeze ⟨X.heap.size, 2, none⟩ 1 := ⟨_, rfl⟩
  rw [← hY] at hr hb1 hcv
  have c1w := b1.trans ((bX.trans (hb1.mono bX.size)).mono b1.size)
  have T1 := (hb1.block w1.heap.size (by omega)).trans hT
  have r1 := (q1.to0 bX).to0 hb1
  have r2 := (q2.to0 bX).to0 hb1
  have KP := hide (dput_any Y _ _ _ ex0 1 [97, 98] r1 r2 hr)
  rw [ex_put] at KP
  rw [hu, sX, hX] at hcv
  rw [sX] at KP
  obtain ⟨gb, hgb⟩ : ∃ gb, gb = w1.heap.size := ⟨_, rfl⟩
  have hs1 : gb < Y.heap.size := by have := hb1.size; omega
  have hsw : w.heap.size ≤ gb := by have := b1.size; omega
  rw [← hgb] at T1
  clear q1 q2 r1 r2 hr hb0 hb1 hT o1 b1 X0 X1 bX hX hu hY
  go_wp2_with fail
  refine KP.out.mono ?_
  rintro e w2 ⟨sv2, cv2, rfl, o2, b2⟩
  rw [← hgb]
  clear hcv KP
  replace hgb := hide hgb
  obtain ⟨a3, c3, a4, c4, hv1, hv2⟩ : ∃ a3 c3 a4 c4, sv2 = .slice a3 2 c3 ∧ cv2 = .slice a4 1 c4 := by
    obtain ⟨F, hF, _⟩ := o2.foot
    obtain ⟨a3, c3, a4, c4, h1, h2⟩ := own_form' hF
    exact ⟨a3, c3, a4, c4, h1, h2⟩
  subst hv1 hv2
  have T2 := (b2.block gb hs1).trans T1
  obtain ⟨y0, y1, y2, y3⟩ := row2_cells T2
  have T3 := heap_set2 T2 (.slice a3 2 c3) (.slice a4 1 c4)
  obtain ⟨Z, hZ⟩ : ∃ Z, Z = (w2.setCell ⟨gb, 0, none⟩ (.slice a3 2 c3)).setCell ⟨gb, 1, none⟩ (.slice a4 1 c4) := ⟨_, rfl⟩
  have o3 := (o2.set (a := ⟨gb, 0, none⟩) hs1 (.slice a3 2 c3)).set (a := ⟨gb, 1, none⟩) hs1 (.slice a4 1 c4)
  have c2w := c1w.trans (b2.mono c1w.size)
  have c3w := below_set2 c2w hsw (.slice a3 2 c3) (.slice a4 1 c4)
  rw [← hZ] at T3 o3 c3w
  obtain ⟨z0, z1, _, _⟩ := row2_cells T3
  have KG := hide (dget_any Z _ _ ex1 1 o3.rd2.1 o3.rd2.2)
  rw [ex_get] at KG
  rw [hZ] at z0 z1
  have hsZ : gb < Z.heap.size := lt_of_block T3
  clear o2 b2 T1 T2 c1w c2w
  go_wp2_with fail
  rw [← hZ]
  rw [← hZ] at z0 z1
  replace hZ := hide hZ
  refine KG.out.mono ?_
  rintro e w3 ⟨v3, rfl, o4, b3⟩
  obtain ⟨av, cav, hv3⟩ := o4.rd.slice
  rw [pad_len] at hv3
  subst hv3
  have p0 : ∃ b off, av = some ⟨b, off, none⟩ ∧ w3.cell? ⟨b, off + 0, none⟩ = some (.int .u8 97) := by
    obtain ⟨_, _, ee, _, _, _, r⟩ := o4.rd
    simp only [Value.slice.injEq] at ee
    obtain ⟨rfl, _, _⟩ := ee
    rcases r with r | ⟨b, off, e, hc⟩
    · have := congrArg List.length r; rw [pad_len] at this; simp at this
    · exact ⟨b, off, e, by rw [hc 0 (by rw [pad_len]; decide)]; rfl⟩
  obtain ⟨bv, ov, rfl, hcv⟩ := p0
  rw [Nat.add_zero] at hcv
  have c4w := c3w.trans (b3.mono c3w.size)
  have T4 := (b3.block gb hsZ).trans T3
  obtain ⟨z2, z3, _, _⟩ := row2_cells T4
  have o5 := o3.to b3
  have KC := hide (dcrash_any w3 _ _ (.slice none 0 0) ex1 [] 0 0 o5.rd2.1 o5.rd2.2 (RdS.nil _ _))
  rw [ex_crash] at KC
  clear KG o3 o4 b3 c3w T3 z0 z1 o5
  go_wp2_with fail
  refine KC.out.mono ?_
  rintro e w4 ⟨sv5, cv5, rfl, o6, b4⟩
  obtain ⟨a5, c5, a6, c6, hv1, hv2⟩ : ∃ a5 c5 a6 c6, sv5 = .slice a5 2 c5 ∧ cv5 = .slice a6 0 c6 := by
    obtain ⟨F, hF, _⟩ := o6.foot
    obtain ⟨a3, c3, a4, c4, h1, h2⟩ := own_form' hF
    exact ⟨a3, c3, a4, c4, h1, h2⟩
  subst hv1 hv2
  have c5w := c4w.trans (b4.mono c4w.size)
  obtain ⟨V, hV, V0, V1, bV, sV⟩ := boxed2 w4 (.slice a5 2 c5) (.slice a6 0 c6) 29
  have hc5 := (bV.cell (cell_lt ((b4.cell (cell_lt hcv)).trans hcv))).trans ((b4.cell (cell_lt hcv)).trans hcv)
  have c6w := c5w.trans (bV.mono c5w.size)
  have o7 := o6.to bV
  have KG := hide (dget_any V _ _ ex0 1 o7.rd2.1 o7.rd2.2)
  rw [ex_get0] at KG
  clear KC o6 b4 c5w c4w T4 z2 z3 o7 hcv bV
  rw [hV] at V0 V1
  go_wp2_with fail
  rw [← hV]
  replace hV := hide hV
  refine KG.out.mono ?_
  rintro e w5 ⟨v5, rfl, o8, b5⟩
  obtain ⟨av, cav, hv5⟩ := o8.rd.slice
  rw [List.length_replicate] at hv5
  subst hv5
  have p0 : ∃ b off, av = some ⟨b, off, none⟩ ∧ w5.cell? ⟨b, off + 0, none⟩ = some (.int .u8 0) := by
    obtain ⟨_, _, ee, _, _, _, r⟩ := o8.rd
    simp only [Value.slice.injEq] at ee
    obtain ⟨rfl, _, _⟩ := ee
    rcases r with r | ⟨b, off, e, hc⟩
    · have := congrArg List.length r; simp at this
    · exact ⟨b, off, e, by rw [hc 0 (by decide)]; rfl⟩
  obtain ⟨bz, oz, rfl, hcz⟩ := p0
  rw [Nat.add_zero] at hcz
  have hc6 := (b5.cell (cell_lt hc5)).trans hc5
  have C7 := hide (c6w.trans (b5.mono c6w.size))
  clear KG o8 b5 c6w hc5 V0 V1
  go_wp2_with fail
  refine (num4_any _ _).mono ?_
  rintro e w' ⟨rfl, rfl⟩
  go_wp2_with fail
  refine (num4_any _ _).mono ?_
  rintro e w' ⟨rfl, rfl⟩
  go_wp2_with fail
  refine (num4_any _ _).mono ?_
  rintro e w' ⟨rfl, rfl⟩
  go_wp2_with fail
  refine (num4_any _ _).mono ?_
  rintro e w' ⟨rfl, rfl⟩
  go_wp2_with fail
  refine (num4_any _ _).mono ?_
  rintro e w' ⟨rfl, rfl⟩
  go_wp2
  go_ret
  exact ⟨rfl, C7.out⟩

end Go.Proofs.Ythomioojkpmmgaa
