/-
  Load: the later of a disk's two superblocks: the program's and the page's.
-/
import Derived.Test.YtpebgepjohlklaaSPick
import Derived.Test.YtpebgepjohlklaaDGetP
import Derived.Test.YtpebgepjohlklaaDGetR
import Derived.Test.YtpebgepjohlklaaDCheckP
namespace Go.Proofs.Ytpebgepjohlklaa
open Go.RowKit
set_option linter.unusedVariables false

theorem box2N (w : World) (x y : Value) (t : TypeId) : ∃ u, u = w.alloc (.cells #[x, y] t) ∧ u.heap[w.heap.size]? = some (.cells #[x, y] t (0, 0)) ∧ Below w.heap.size w u ∧ u.heap.size = w.heap.size + 1 := boxedN w #[x, y] t
theorem sdisk_9 {d : Dsk} (h : ¬ DOk d) : sdisk d = 9 := by unfold sdisk; rw [dcheck_no h]; rfl
theorem sdisk_41 {d : Dsk} (h : DOk d) (h2 : d.1.length < 2) : sdisk d = 41 := by unfold sdisk; rw [dcheck_ok h, if_neg (by decide), if_pos h2]
theorem sdisk_0 {d : Dsk} (h : DOk d) (h2 : ¬ d.1.length < 2) : sdisk d = 0 := by unfold sdisk; rw [dcheck_ok h, if_neg (by decide), if_neg h2]
theorem sload_no {d : Dsk} (h : sdisk d ≠ 0) : sload d = (bzero, 0, sdisk d) := if_pos h
theorem sload_yes {d : Dsk} (h : sdisk d = 0) : sload d = spick (dget d 0).1 (dget d 1).1 := if_neg (fun k => k h)

set_option maxRecDepth 100000 in
set_option maxHeartbeats 1000000 in
theorem checkDisk_any (w : World) (sv cv : Value) (d : Dsk) (h1 : RdSec w sv d.1) (h2 : RdC w cv d.2) :
    Calls Try.prog 39 #[.agg #[sv, cv]] w fun e w' => e = .returned (.int .i64 (sdisk d)) ∧ Below w.heap.size w w' := by
  obtain ⟨a1, c1, rfl⟩ := h1.slice
  obtain ⟨a2, c2, rfl⟩ := h2.slice
  obtain ⟨X, hX, X0, bX, sX⟩ := box2N w (.slice a1 d.1.length c1) (.slice a2 d.2.length c2) 51
  obtain ⟨A0, A1, _, _⟩ := row2_cells X0
  have KC := hide (dcheck_any X _ _ d (h1.to0 bX) (h2.to0 bX))
  rw [hX] at A0 A1
  go_enter Try.func39, Try.ntmps39
  by_cases hok : DOk d
  · rw [dcheck_ok hok] at KC
    go_wp2_with fail
    rw [← hX]
    rw [← hX] at A0 A1
    replace hX := hide hX
    refine KC.out.mono ?_
    rintro e w1 ⟨rfl, b1⟩
    replace A0 := (b1.cell (cell_lt A0)).trans A0
    by_cases hl : d.1.length < 2
    · have hE := hide (sdisk_41 hok hl)
      have hq : (d.1.length : Int) < 2 := by omega
      replace hok := hide hok
      replace hl := hide hl
      go_wp2
      go_ret
      exact ⟨ret_int hE.out.symm, bX.trans (b1.mono bX.size)⟩
    · have hE := hide (sdisk_0 hok hl)
      have hq : ¬ (d.1.length : Int) < 2 := by omega
      replace hok := hide hok
      replace hl := hide hl
      go_wp2
      go_ret
      exact ⟨ret_int hE.out.symm, bX.trans (b1.mono bX.size)⟩
  · rw [dcheck_no hok] at KC
    have hE := hide (sdisk_9 hok)
    replace hok := hide hok
    go_wp2_with fail
    rw [← hX]
    replace hX := hide hX
    refine KC.out.mono ?_
    rintro e w1 ⟨rfl, b1⟩
    go_wp2
    go_ret
    exact ⟨ret_int hE.out.symm, bX.trans (b1.mono bX.size)⟩

set_option maxRecDepth 100000 in
set_option maxHeartbeats 4000000 in
theorem pload_any (w : World) (sv cv : Value) (d : Dsk) (h1 : RdSec w sv d.1) (h2 : RdC w cv d.2) : Calls Try.prog 20 #[.agg #[sv, cv]] w fun e w' => e = .returned (.tuple #[.agg #[.int .i64 (sload d).1.1, .int .i64 (sload d).1.2.1, .int .i64 (sload d).1.2.2.1, .int .i64 (sload d).1.2.2.2.1, .int .i64 (sload d).1.2.2.2.2], .int .i64 (sload d).2.1, .int .i64 (sload d).2.2]) ∧ Below w.heap.size w w' := by
  obtain ⟨a1, c1, rfl⟩ := h1.slice
  obtain ⟨a2, c2, rfl⟩ := h2.slice
  obtain ⟨V, hV, V0, bV, sV⟩ := box2N w (.slice a1 d.1.length c1) (.slice a2 d.2.length c2) 51
  obtain ⟨X, hX, X0, bX, sX⟩ := boxedN V #[.int .i64 0, .int .i64 0, .int .i64 0, .int .i64 0, .int .i64 0] 28
  have V1 : X.heap[w.heap.size]? = _ := (bX.block _ (by omega)).trans V0
  have cX := bV.trans (bX.mono bV.size)
  rw [sV] at X0
  obtain ⟨A0, A1, _, _⟩ := row2_cells V1
  have H1 := hide (h1.to0 cX)
  have H2 := hide (h2.to0 cX)
  have KC := hide (checkDisk_any X _ _ d H1.out H2.out)
  obtain ⟨E, hE⟩ : ∃ E, E = sdisk d := ⟨_, rfl⟩
  rw [← hE] at KC
  rw [hX, hV] at A0 A1
  go_enter Try.func20, Try.ntmps20
  go_wp2_with fail
  rw [← hV, ← hX]
  clear A0 A1
  replace hX := hide hX
  replace hV := hide hV
  refine KC.out.mono ?_
  rintro e w1 ⟨rfl, b1⟩
  clear KC V0 bV bX
  by_cases h0 : E = 0
  · have hS := hide (sload_yes (d := d) (by rw [← hE]; exact h0))
    subst h0
    replace hE := hide hE
    have B0 := hide (dget_any w1 _ _ d 0 (H1.out.to0 b1) (H2.out.to0 b1))
    have V2 := (b1.block _ (lt_of_block V1)).trans V1
    have X2 := (b1.block _ (lt_of_block X0)).trans X0
    have c2w := hide (cX.trans (b1.mono cX.size))
    obtain ⟨A0, A1, _, _⟩ := row2_cells V2
    obtain ⟨x0, e0, hg0⟩ : ∃ x e, dget d 0 = (x, e) := ⟨_, _, rfl⟩
    obtain ⟨x1, e1, hg1⟩ : ∃ x e, dget d 1 = (x, e) := ⟨_, _, rfl⟩
    rw [hg0, hg1] at hS
    rw [hg0] at B0
    dsimp only at hS B0
    replace hg1 := hide hg1
    clear hg0 X0 V1 cX
    go_wp2_with fail
    refine B0.out.mono ?_
    rintro e w2 ⟨u0, rfl, o0, b2⟩
    clear B0
    have B1 := hide (dget_any w2 _ _ d 1 ((H1.out.to0 b1).to0 b2) ((H2.out.to0 b1).to0 b2))
    rw [hg1.out] at B1
    dsimp only at B1
    replace A0 := (b2.cell (cell_lt A0)).trans A0
    replace A1 := (b2.cell (cell_lt A1)).trans A1
    obtain ⟨s0, t0, hu0⟩ := o0.rd.slice
    subst hu0
    have q0 := hide o0.rd
    have X3 := (b2.block _ (lt_of_block X2)).trans X2
    have c3w := hide (c2w.out.trans (b2.mono c2w.out.size))
    clear V2 X2 b1 b2 o0 c2w H1 H2
    go_wp2_with fail
    refine B1.out.mono ?_
    rintro e w3 ⟨u1, rfl, o1, b3⟩
    clear B1 A0 A1
    have KP := hide (ppick_any w3 _ _ x0 x1 (q0.out.to b3) o1.rd)
    obtain ⟨s1, t1, hu1⟩ := o1.rd.slice
    subst hu1
    obtain ⟨p0, p1, p2, p3, p4, n1, er, hp⟩ : ∃ p0 p1 p2 p3 p4 n1 er, spick x0 x1 = ((p0, p1, p2, p3, p4), n1, er) := ⟨_, _, _, _, _, _, _, rfl⟩
    rw [hp] at KP hS
    dsimp only at KP
    have X4 := (b3.block _ (lt_of_block X3)).trans X3
    have c4w := hide (c3w.out.trans (b3.mono c3w.out.size))
    clear hp o1 q0 X3 c3w b3
    go_wp2_with fail
    refine KP.out.mono ?_
    rintro e w4 ⟨rfl, b4⟩
    have X5 := (b4.block _ (lt_of_block X4)).trans X4
    have c5w := hide (c4w.out.trans (b4.mono c4w.out.size))
    clear KP X4 c4w b4
    obtain ⟨⟨r0, r1, r2, r3, r4⟩, rf⟩ := cells5 X5
    have f0 := rf 0
    have f1 := rf 1
    have f2 := rf 2
    have f3 := rf 3
    have f4 := rf 4
    go_wp2
    refine retNTT rfl rfl (w.heap.size + 1) rfl _ _ (0, 0) (heap_set5 (u := w4) X5 _ _ _ _ _) _ Try.underlying28 rfl infoBk _ rfl _ rfl ?_
    rw [hS.out]
    exact ⟨rfl, below_set5 c5w.out (Nat.le_succ _) _ _ _ _ _⟩
  · have hS := hide (sload_no (d := d) (by rw [← hE]; exact h0))
    have hbe : (E != 0) = true := by simpa using h0
    replace h0 := hide h0
    replace hE := hide hE
    have X2 := (b1.block _ (lt_of_block X0)).trans X0
    have c2w := hide (cX.trans (b1.mono cX.size))
    clear X0 V1 cX b1
    obtain ⟨⟨r0, r1, r2, r3, r4⟩, rf⟩ := cells5 X2
    have f0 := rf 0
    have f1 := rf 1
    have f2 := rf 2
    have f3 := rf 3
    have f4 := rf 4
    go_wp2
    refine retNTT rfl rfl (w.heap.size + 1) rfl _ _ (0, 0) (heap_set5 (u := w1) X2 _ _ _ _ _) _ Try.underlying28 rfl infoBk _ rfl _ rfl ?_
    rw [hS.out]
    exact ⟨by rw [← hE.out]; rfl, below_set5 c2w.out (Nat.le_succ _) _ _ _ _ _⟩

set_option maxRecDepth 100000 in
set_option maxHeartbeats 4000000 in
theorem rload_any (w : World) (sv cv : Value) (d : Dsk) (h1 : RdSec w sv d.1) (h2 : RdC w cv d.2) : Calls Try.prog 21 #[.agg #[sv, cv]] w fun e w' => e = .returned (.tuple #[.agg #[.int .i64 (sload d).1.1, .int .i64 (sload d).1.2.1, .int .i64 (sload d).1.2.2.1, .int .i64 (sload d).1.2.2.2.1, .int .i64 (sload d).1.2.2.2.2], .int .i64 (sload d).2.1, .int .i64 (sload d).2.2]) ∧ Below w.heap.size w w' := by
  obtain ⟨a1, c1, rfl⟩ := h1.slice
  obtain ⟨a2, c2, rfl⟩ := h2.slice
  obtain ⟨V, hV, V0, bV, sV⟩ := box2N w (.slice a1 d.1.length c1) (.slice a2 d.2.length c2) 48
  obtain ⟨X, hX, X0, bX, sX⟩ := boxedN V #[.int .i64 0, .int .i64 0, .int .i64 0, .int .i64 0, .int .i64 0] 23
  have V1 : X.heap[w.heap.size]? = _ := (bX.block _ (by omega)).trans V0
  have cX := bV.trans (bX.mono bV.size)
  rw [sV] at X0
  obtain ⟨A0, A1, _, _⟩ := row2_cells V1
  have H1 := hide (h1.to0 cX)
  have H2 := hide (h2.to0 cX)
  have KC := hide (rcheck_any X _ _ d H1.out H2.out)
  rw [hX, hV] at A0 A1
  go_enter Try.func21, Try.ntmps21
  go_wp2_with fail
  rw [← hV, ← hX]
  clear A0 A1
  replace hX := hide hX
  replace hV := hide hV
  by_cases hok : DOk d
  · rw [dcheck_ok hok] at KC
    refine KC.out.mono ?_
    rintro e w1 ⟨rfl, b1⟩
    clear KC V0 bV bX
    by_cases hl : d.1.length < 2
    · have hS := hide (sload_no (d := d) (by rw [sdisk_41 hok hl]; decide))
      rw [sdisk_41 hok hl] at hS
      have hq : (d.1.length : Int) < 2 := by omega
      replace hok := hide hok
      replace hl := hide hl
      have V2 := (b1.block _ (lt_of_block V1)).trans V1
      obtain ⟨A0, A1, _, _⟩ := row2_cells V2
      have X2 := (b1.block _ (lt_of_block X0)).trans X0
      have c2w := hide (cX.trans (b1.mono cX.size))
      clear X0 V1 V2 cX b1
      obtain ⟨⟨r0, r1, r2, r3, r4⟩, rf⟩ := cells5 X2
      have f0 := rf 0
      have f1 := rf 1
      have f2 := rf 2
      have f3 := rf 3
      have f4 := rf 4
      go_wp2
      refine retNTT rfl rfl (w.heap.size + 1) rfl _ _ (0, 0) (heap_set5 (u := w1) X2 _ _ _ _ _) _ Try.underlying23 rfl infoBkR _ rfl _ rfl ?_
      rw [hS.out]
      exact ⟨rfl, below_set5 c2w.out (Nat.le_succ _) _ _ _ _ _⟩
    · have hS := hide (sload_yes (sdisk_0 hok hl))
      have hq : ¬ (d.1.length : Int) < 2 := by omega
      replace hok := hide hok
      replace hl := hide hl
      have B0 := hide (rget_any w1 _ _ d 0 (H1.out.to0 b1) (H2.out.to0 b1))
      have V2 := (b1.block _ (lt_of_block V1)).trans V1
      have X2 := (b1.block _ (lt_of_block X0)).trans X0
      have c2w := hide (cX.trans (b1.mono cX.size))
      obtain ⟨A0, A1, _, _⟩ := row2_cells V2
      obtain ⟨x0, e0, hg0⟩ : ∃ x e, dget d 0 = (x, e) := ⟨_, _, rfl⟩
      obtain ⟨x1, e1, hg1⟩ : ∃ x e, dget d 1 = (x, e) := ⟨_, _, rfl⟩
      rw [hg0, hg1] at hS
      rw [hg0] at B0
      dsimp only at hS B0
      replace hg1 := hide hg1
      clear hg0 X0 V1 cX
      go_wp2_with fail
      refine B0.out.mono ?_
      rintro e w2 ⟨u0, rfl, o0, b2⟩
      clear B0
      have B1 := hide (rget_any w2 _ _ d 1 ((H1.out.to0 b1).to0 b2) ((H2.out.to0 b1).to0 b2))
      rw [hg1.out] at B1
      dsimp only at B1
      replace A0 := (b2.cell (cell_lt A0)).trans A0
      replace A1 := (b2.cell (cell_lt A1)).trans A1
      obtain ⟨s0, t0, hu0⟩ := o0.rd.slice
      subst hu0
      have q0 := hide o0.rd
      have X3 := (b2.block _ (lt_of_block X2)).trans X2
      have c3w := hide (c2w.out.trans (b2.mono c2w.out.size))
      clear V2 X2 b1 b2 o0 c2w H1 H2
      go_wp2_with fail
      refine B1.out.mono ?_
      rintro e w3 ⟨u1, rfl, o1, b3⟩
      clear B1 A0 A1
      have KP := hide (rpick_any w3 _ _ x0 x1 (q0.out.to b3) o1.rd)
      obtain ⟨s1, t1, hu1⟩ := o1.rd.slice
      subst hu1
      obtain ⟨p0, p1, p2, p3, p4, n1, er, hp⟩ : ∃ p0 p1 p2 p3 p4 n1 er, spick x0 x1 = ((p0, p1, p2, p3, p4), n1, er) := ⟨_, _, _, _, _, _, _, rfl⟩
      rw [hp] at KP hS
      dsimp only at KP
      have X4 := (b3.block _ (lt_of_block X3)).trans X3
      have c4w := hide (c3w.out.trans (b3.mono c3w.out.size))
      clear hp o1 q0 X3 c3w b3
      go_wp2_with fail
      refine KP.out.mono ?_
      rintro e w4 ⟨rfl, b4⟩
      have X5 := (b4.block _ (lt_of_block X4)).trans X4
      have c5w := hide (c4w.out.trans (b4.mono c4w.out.size))
      clear KP X4 c4w b4
      obtain ⟨⟨r0, r1, r2, r3, r4⟩, rf⟩ := cells5 X5
      have f0 := rf 0
      have f1 := rf 1
      have f2 := rf 2
      have f3 := rf 3
      have f4 := rf 4
      go_wp2
      refine retNTT rfl rfl (w.heap.size + 1) rfl _ _ (0, 0) (heap_set5 (u := w4) X5 _ _ _ _ _) _ Try.underlying23 rfl infoBkR _ rfl _ rfl ?_
      rw [hS.out]
      exact ⟨rfl, below_set5 c5w.out (Nat.le_succ _) _ _ _ _ _⟩
  · rw [dcheck_no hok] at KC
    refine KC.out.mono ?_
    rintro e w1 ⟨rfl, b1⟩
    clear KC V0 bV bX
    have hS := hide (sload_no (d := d) (by rw [sdisk_9 hok]; decide))
    rw [sdisk_9 hok] at hS
    replace hok := hide hok
    have X2 := (b1.block _ (lt_of_block X0)).trans X0
    have c2w := hide (cX.trans (b1.mono cX.size))
    clear X0 V1 cX b1
    obtain ⟨⟨r0, r1, r2, r3, r4⟩, rf⟩ := cells5 X2
    have f0 := rf 0
    have f1 := rf 1
    have f2 := rf 2
    have f3 := rf 3
    have f4 := rf 4
    go_wp2
    refine retNTT rfl rfl (w.heap.size + 1) rfl _ _ (0, 0) (heap_set5 (u := w1) X2 _ _ _ _ _) _ Try.underlying23 rfl infoBkR _ rfl _ rfl ?_
    rw [hS.out]
    exact ⟨rfl, below_set5 c2w.out (Nat.le_succ _) _ _ _ _ _⟩

end Go.Proofs.Ytpebgepjohlklaa
