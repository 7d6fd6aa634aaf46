/-
  The program's Alloc of extents.
-/
import Derived.Test.YtacfcgklncckiaaEProgA
namespace Go.Proofs.Ytacfcgklncckiaa
open Go.RowKit
set_option linter.unusedVariables false

theorem ret_cell2T {P : Program} {fn : Func} {R : Ending → World → Prop} {a : Act} {w : World} {p p2 u1 : Tmp} {ty ty2 : TypeId} (h : fn.results = #[.cell p ty, .cell p2 ty2, .tmp u1]) (hd : a.defers = []) (g : Nat) (hp : a.tmps.getD p undef = .pointer (some ⟨g, 0, none⟩)) (g2 : Nat) (hp2 : a.tmps.getD p2 undef = .pointer (some ⟨g2, 0, none⟩))
    (x y : Value) (t : TypeId) (fr : Nat × Nat) (hg : w.heap[g]? = some (.cells #[x, y] t fr)) (x2 y2 : Value) (t2 : TypeId) (fr2 : Nat × Nat) (hg2 : w.heap[g2]? = some (.cells #[x2, y2] t2 fr2))
    (d : TypeDesc) (hu : P.underlying ty = some d) (hr : (match d with | .struct _ | .array _ _ => true | _ => false) = true) (hi : (P.info? ty).map (·.size) = some 2)
    (d2 : TypeDesc) (hu2 : P.underlying ty2 = some d2) (hr2 : (match d2 with | .struct _ | .array _ _ => true | _ => false) = true) (hi2 : (P.info? ty2).map (·.size) = some 2)
    (v1 : Value) (e1 : a.tmps.getD u1 undef = v1) (hR : R (.returned (.tuple #[.agg #[x, y], .agg #[x2, y2], v1])) w) : bodyPost P fn R .ret a w := by
  refine bodyPost_ret (v := .tuple #[.agg #[x, y], .agg #[x2, y2], v1]) ?_ hd hR
  have hp' : a.tmps[p]?.getD undef = .pointer (some ⟨g, 0, none⟩) := by simpa using hp
  have hp2' : a.tmps[p2]?.getD undef = .pointer (some ⟨g2, 0, none⟩) := by simpa using hp2
  have e1' : a.tmps[u1]?.getD undef = v1 := by simpa using e1
  simp [results, h, hp', hp2', e1', asAddr, run_loadVar_row w g t ty #[x, y] fr d hg hu hr hi, run_loadVar_row w g2 t2 ty2 #[x2, y2] fr2 d2 hg2 hu2 hr2 hi2]
theorem set4 {u : World} {g g2 : Nat} (hne : g ≠ g2) {a b : Value} {t : TypeId} (h : u.heap[g]? = some (.cells #[a, b] t (0, 0))) {a2 b2 : Value} {t2 : TypeId} (h2 : u.heap[g2]? = some (.cells #[a2, b2] t2 (0, 0))) (x y x2 y2 : Value) :
    ((((u.setCell ⟨g, 0, none⟩ x).setCell ⟨g, 1, none⟩ y).setCell ⟨g2, 0, none⟩ x2).setCell ⟨g2, 1, none⟩ y2).heap[g]? = some (.cells #[x, y] t (0, 0)) ∧ ((((u.setCell ⟨g, 0, none⟩ x).setCell ⟨g, 1, none⟩ y).setCell ⟨g2, 0, none⟩ x2).setCell ⟨g2, 1, none⟩ y2).heap[g2]? = some (.cells #[x2, y2] t2 (0, 0)) := by
  constructor
  · rw [Below.heap_setCell _ _ _ _ hne, Below.heap_setCell _ _ _ _ hne]
    exact heap_set2 h x y
  · refine heap_set2 (a := a2) (b := b2) ?_ x2 y2
    rw [Below.heap_setCell _ _ _ _ (Ne.symm hne), Below.heap_setCell _ _ _ _ (Ne.symm hne)]
    exact h2
theorem below_set4 {B : Nat} {w u : World} (h : Below B w u) {g g2 : Nat} (hg : B ≤ g) (hg2 : B ≤ g2) (x y x2 y2 : Value) : Below B w ((((u.setCell ⟨g, 0, none⟩ x).setCell ⟨g, 1, none⟩ y).setCell ⟨g2, 0, none⟩ x2).setCell ⟨g2, 1, none⟩ y2) := below_set2 (below_set2 h hg x y) hg2 x2 y2
theorem infoX : (Try.prog.info? 26).map (·.size) = some 2 := by kernel_rfl
theorem eRow_len {n : Int} : ∀ {l : List Ext} {e : Int}, eRow n e l → (l.length : Int) ≤ max 0 (n - e)
  | [], e, _ => by simp; omega
  | x :: r, e, ⟨⟨h1, h2, h3, h4⟩, h5⟩ => by
    have := eRow_len h5
    rw [List.length_cons]
    omega
theorem eOk_len {m : EMap} (h : EOk m) : m.2.length ≤ 1048577 := by
  have := eRow_len h.2.2
  have := h.2.1
  have := h.1
  omega
theorem ealloc_state {m : EMap} {s : Int} (h : ¬ EOk m) : ealloc m s = ((0, []), (0, 0), 9) := by unfold ealloc; rw [if_pos h]
theorem ealloc_range {m : EMap} {s : Int} (h : EOk m) (hs : s < 1) : ealloc m s = ((0, []), (0, 0), 4) := by unfold ealloc; rw [if_neg (fun k => k h), if_pos hs]
theorem ealloc_none {m : EMap} {s : Int} (h : EOk m) (hs : 1 ≤ s) (hi : ¬ eIdx (fun x y => decide (s ≤ y - x)) m.2 < m.2.length) : ealloc m s = ((0, []), (0, 0), 51) := by
  have := eIdx_eq hi
  unfold ealloc
  rw [if_neg (fun k => k h), if_neg (by omega)]
  have hf : m.2.find? (fun y => decide (s ≤ y.2)) = none := by
    rw [List.find?_eq_none]
    intro z hz
    have := this z hz
    simp at this ⊢; omega
  rw [hf]
theorem ealloc_some {m : EMap} {s : Int} {y : Ext} (h : EOk m) (hs : 1 ≤ s) (hi : eIdx (fun x y => decide (s ≤ y - x)) m.2 < m.2.length) (hy : m.2[eIdx (fun x y => decide (s ≤ y - x)) m.2]? = some y) : s ≤ y.2 ∧
    ealloc m s = ((m.1, m.2.take (eIdx (fun x y => decide (s ≤ y - x)) m.2) ++ eSpans [(y.1, y.1), (y.1 + s, y.1 + y.2)] ++ m.2.drop (eIdx (fun x y => decide (s ≤ y - x)) m.2 + 1)), (y.1, s), 0) := by
  have hf := eIdx_find hi hy (fun y => decide (s ≤ y.2)) (fun x => by rw [show x.1 + x.2 - x.1 = x.2 by omega])
  obtain ⟨z, hz, hp, _⟩ := eIdx_lt hi
  rw [hy] at hz
  obtain rfl : y = z := by simpa using hz
  have hsy : s ≤ y.2 := by simp at hp; omega
  refine ⟨hsy, ?_⟩
  rw [eCutOut (x := (y.1, s)) h.2.2 hy (Int.le_refl _) (by dsimp only; omega) hs]
  unfold ealloc
  rw [if_neg (fun k => k h), if_neg (by omega), hf]

set_option linter.unusedSimpArgs false in
set_option maxRecDepth 100000 in
set_option maxHeartbeats 2000000 in
theorem palloc_any (w : World) (fv : Value) (m : EMap) (s : Int) (h : RdE w fv m.2) (hin : eIn m.2) :
    Calls Try.prog 10 #[.agg #[.int .i64 m.1, fv], .int .i64 s] w fun e w' => ∃ fv', e = .returned (.tuple #[.agg #[.int .i64 (ealloc m s).1.1, fv'], .agg #[.int .i64 (ealloc m s).2.1.1, .int .i64 (ealloc m s).2.1.2], .int .i64 (ealloc m s).2.2]) ∧ OwnE w.heap.size w' fv' (ealloc m s).1.2 ∧ Below w.heap.size w w' := by
  obtain ⟨a, c, rfl⟩ := h.slice
  obtain ⟨U, hU, U0, bU, sU⟩ := boxed2b w (.int .i64 m.1) (.slice a m.2.length c) 27
  obtain ⟨V, hV, V0, bV, sV⟩ := boxed1 U (.int .i64 s) 3
  obtain ⟨X, hX, X0, bX, sX⟩ := boxed2b V (.int .i64 0) (.slice none 0 0) 27
  obtain ⟨W, hW, W0, bW, sW⟩ := boxed2b X (.int .i64 0) (.int .i64 0) 26
  have cV := bU.trans (bV.mono bU.size)
  have cX := cV.trans (bX.mono cV.size)
  have cW := cX.trans (bW.mono cX.size)
  rw [sU] at V0
  rw [sV, sU] at X0
  rw [sX, sV, sU] at W0
  replace U0 := (bW.block w.heap.size (by omega)).trans ((bX.block w.heap.size (by omega)).trans ((bV.block w.heap.size (by omega)).trans U0))
  replace V0 := (bW.block (w.heap.size + 1) (by omega)).trans ((bX.block (w.heap.size + 1) (by omega)).trans V0)
  replace X0 := (bW.block (w.heap.size + 1 + 1) (by omega)).trans X0
  have hsz : W.heap.size = w.heap.size + 4 := by omega
  have K0 := hide (pcheck_any W _ m (h.to0 cW) hin)
  have HH := hide h
  have HB := hide (And.intro U0 (And.intro V0 (And.intro X0 W0)))
  have HC := hide cW
  obtain ⟨A0, A1, _, _⟩ := cells2 U0
  rw [hW, hX, hV, hU] at A0 A1
  clear U0 V0 X0 W0 bU bV bX bW cV cX cW h
  go_enter Try.func10, Try.ntmps10
  go_wp2_with fail
  rw [← hU, ← hV, ← hX, ← hW]
  replace hU := hide hU
  replace hV := hide hV
  replace hX := hide hX
  replace hW := hide hW
  clear A0 A1
  refine K0.out.mono ?_
  rintro e w1 ⟨rfl, b1⟩
  replace b1 := hide b1
  have hB : Hid (∀ w2, Below W.heap.size W w2 → w2.heap[w.heap.size]? = some (.cells #[.int .i64 m.1, .slice a m.2.length c] 27 (0, 0)) ∧ w2.heap[w.heap.size + 1]? = some (.cells #[.int .i64 s] 3 (0, 0)) ∧ w2.heap[w.heap.size + 1 + 1]? = some (.cells #[.int .i64 0, .slice none 0 0] 27 (0, 0)) ∧ w2.heap[w.heap.size + 1 + 1 + 1]? = some (.cells #[.int .i64 0, .int .i64 0] 26 (0, 0))) := fun w2 b2 =>
    ⟨(b2.block _ (by omega)).trans HB.out.1, (b2.block _ (by omega)).trans HB.out.2.1, (b2.block _ (by omega)).trans HB.out.2.2.1, (b2.block _ (by omega)).trans HB.out.2.2.2⟩
  obtain ⟨M1, S1, R1, T1⟩ := hB.out w1 b1.out
  obtain ⟨r0, r1, r2, r3⟩ := cells2 R1
  obtain ⟨t0, t1, t2, t3⟩ := cells2 T1
  have s1 := cell_of_one S1
  obtain ⟨m0, m1, _, _⟩ := cells2 M1
  clear K0
  have hne : w.heap.size + 1 + 1 ≠ w.heap.size + 1 + 1 + 1 := by omega
  by_cases hok : EOk m
  · rw [echeck_ok hok]
    by_cases hs : s < 1
    · have hR := hide (ealloc_range hok hs)
      have RT := hide (And.intro R1 T1)
      clear R1 T1 M1 S1 hok
      go_wp2
      refine ret_cell2T rfl rfl (w.heap.size + 1 + 1) rfl (w.heap.size + 1 + 1 + 1) rfl _ _ _ _ (set4 hne RT.out.1 RT.out.2 _ _ _ _).1 _ _ _ _ (set4 hne RT.out.1 RT.out.2 _ _ _ _).2 _ Try.underlying27 rfl infoM _ Try.underlying26 rfl infoX _ rfl ?_
      rw [hR.out]
      exact ⟨_, rfl, ownE_nil _ _, below_set4 (HC.out.trans (b1.out.mono HC.out.size)) (show w.heap.size ≤ w.heap.size + 1 + 1 by omega) (show w.heap.size ≤ w.heap.size + 1 + 1 + 1 by omega) _ _ _ _⟩
    · have hs' : 1 ≤ s := by omega
      have hsec := eSec_of hok
      have hlen := eOk_len hok
      have c1 := HC.out.trans (b1.out.mono HC.out.size)
      have K1 := hide (first_any 28 (w.heap.size + 1) (.int .i64 s) _ (fits_alloc _ s) (fun _ _ => Try.call28 _ _) w1 _ m.2 (HH.out.to0 c1) s1 hsec)
      have hNo := hide (ealloc_none hok hs')
      have hYes := hide (fun y => ealloc_some (y := y) hok hs')
      have HOK := hide hok
      have hle := eIdx_le (fun x y => decide (s ≤ y - x)) m.2
      have hlt2 := hide (eIdx_lt (p := fun x y => decide (s ≤ y - x)) (l := m.2))
      generalize hI : eIdx (fun x y => decide (s ≤ y - x)) m.2 = I at *
      replace hI := hide hI
      clear R1 T1 M1 S1 hok r0 r1 r2 r3 t0 t1 t2 t3 m0
      go_wp2_with fail
      refine K1.out.mono ?_
      rintro e w2 ⟨rfl, b2⟩
      replace b1 := hide (b1.out.trans (b2.mono b1.out.size))
      obtain ⟨M1, S1, R1, T1⟩ := hB.out w2 b1.out
      clear m1 s1 b2 K1 c1
      obtain ⟨m0, m1, _, _⟩ := cells2 M1
      by_cases hlt : I < m.2.length
      · obtain ⟨y, hy, _, hym⟩ := hlt2.out hlt
        obtain ⟨hsy, hR⟩ := hYes.out y hlt hy
        have hyr := hsec y hym
        have hbe : ((I : Int) == (m.2.length : Int)) = false := by simp; omega
        have hq : (I : Int) < (m.2.length : Int) := by omega
        have c2 := HC.out.trans (b1.out.mono HC.out.size)
        obtain ⟨bb, off, rfl, hc1, hc2⟩ := (HH.out.to0 c2).ext hy
        have s1 := cell_of_one S1
        replace hR := hide hR
        obtain ⟨y1, y2⟩ := y
        dsimp only at hc1 hsy hyr
        have hsz2 : W.heap.size ≤ w2.heap.size := b1.out.size
        have HY := hide hy
        have hlI := hide hlt
        clear R1 T1 M1 S1 hYes hlt2 hNo m0 hy hlt hc2 hym
        go_wp2
        refine wp_region_mid (fun w' => w'.cell? ⟨w.heap.size, 1, none⟩ = some (.slice (some ⟨bb, off, none⟩) m.2.length c) ∧ w'.cell? ⟨bb, off + I * 2, none⟩ = some (.int .i64 y1) ∧ w'.cell? ⟨w.heap.size + 1, 0, none⟩ = some (.int .i64 s)) 8 9 mixed (by kernel_rfl) (fun _ _ _ _ h => h) ⟨m1, hc1, s1⟩ ?_
        dsimp only [List.take, List.drop]
        iterate 8
          refine take_one (v := ?_) (by rfl) ?_ ?_
          rotate_left
          · rintro w' ⟨q1, q2, q3⟩
            go_simp
            try with_reducible rfl
          try simp only [Act.put, List.setIfInBounds_toArray, List.set_cons_zero, List.set_cons_succ]
        refine mid_one fun K hK => ?_
        rw [if_pos (by rfl)]
        go_simp
        have al : Below w2.heap.size w2 (w2.alloc (.cells #[.int .i64 0, .int .i64 0] 26)) := (Below.refl _ _).alloc (Nat.le_refl _) _
        refine hK _ _ ⟨(al.cell (cell_lt m1)).trans m1, (al.cell (cell_lt hc1)).trans hc1, (al.cell (cell_lt s1)).trans s1⟩ ?_
        clear hK K al
        show wpList _ _ _ _ _ _
        go_wp2
        obtain ⟨Y, hY, Y0, bY, sY⟩ : ∃ Y, Y = (w2.alloc (.cells #[.int .i64 y1, .int .i64 s] 26)).drew ∧ Y.heap[w2.heap.size]? = some (.cells #[.int .i64 y1, .int .i64 s] 26 (0, 0)) ∧ Below w2.heap.size w2 Y ∧ Y.heap.size = w2.heap.size + 1 := ⟨_, rfl, heap_alloc_last w2 _, ((Below.refl _ _).alloc (Nat.le_refl _) _).drew, by simp⟩
        rw [← hY]
        replace hY := hide hY
        have bYd := hide (bY.drew)
        have ALL : Hid (∀ w3, Below w2.heap.size w2 w3 → w3.heap[w2.heap.size]? = some (.cells #[.int .i64 y1, .int .i64 s] 26 (0, 0)) → w3.cell? ⟨w.heap.size, 0, none⟩ = some (.int .i64 m.1) ∧ w3.cell? ⟨w.heap.size, 1, none⟩ = some (.slice (some ⟨bb, off, none⟩) m.2.length c) ∧ w3.cell? ⟨w2.heap.size, 0, none⟩ = some (.int .i64 y1) ∧ w3.cell? ⟨w2.heap.size, 1, none⟩ = some (.int .i64 s) ∧
            w3.cell? ⟨w.heap.size + 1 + 1, 0, none⟩ = some (.int .i64 0) ∧ w3.cell? ⟨w.heap.size + 1 + 1, 1, none⟩ = some (.slice none 0 0) ∧ w3.frozen? ⟨w.heap.size + 1 + 1, 0, none⟩ = false ∧ w3.frozen? ⟨w.heap.size + 1 + 1, 1, none⟩ = false ∧ w3.cell? ⟨w.heap.size + 1 + 1 + 1, 0, none⟩ = some (.int .i64 0) ∧ w3.cell? ⟨w.heap.size + 1 + 1 + 1, 1, none⟩ = some (.int .i64 0) ∧ w3.frozen? ⟨w.heap.size + 1 + 1 + 1, 0, none⟩ = false ∧ w3.frozen? ⟨w.heap.size + 1 + 1 + 1, 1, none⟩ = false) := fun w3 b3 hb => by
          obtain ⟨g1, g2, g3, g4⟩ := hB.out w3 (b1.out.trans (b3.mono b1.out.size))
          obtain ⟨a0, a1, _, _⟩ := cells2 g1
          obtain ⟨d0, d1, _, _⟩ := cells2 hb
          obtain ⟨x0, x1, x2, x3⟩ := cells2 g3
          obtain ⟨z0, z1, z2, z3⟩ := cells2 g4
          exact ⟨a0, a1, d0, d1, x0, x1, x2, x3, z0, z1, z2, z3⟩
        have KS := hide (spanOf_any Y.drew y1 s (by omega))
        have KW : Hid (∀ w3, Below Y.heap.size Y.drew w3 → Calls Try.prog 30 #[.agg #[.int .i64 m.1, .slice (some ⟨bb, off, none⟩) m.2.length c], .int .i64 I, sp y1 (y1 + s)] w3 fun e w' => ∃ fv', e = .returned (.agg #[.int .i64 m.1, fv']) ∧ OwnE w3.heap.size w' fv' (m.2.take I ++ eSpans [(y1, y1), (y1 + s, y1 + y2)] ++ m.2.drop (I + 1)) ∧ Below w3.heap.size w3 w') := fun w3 b3 => by
          have c3 : Below w.heap.size w w3 := c2.trans ((bYd.out.mono c2.size).trans (b3.mono (Nat.le_trans c2.size (by omega))))
          exact pwithout_any w3 _ m I (y1, y2) y1 (y1 + s) (HH.out.to0 c3) HY.out hlen hyr (by unfold spIn; omega)
        have YY := hide Y0
        have BY := hide bY
        have C2 := hide c2
        obtain ⟨a0, a1, d0, d1, _⟩ := ALL.out Y bY Y0
        generalize hT : sp y1 (y1 + s) = T at *
        replace hT := hide hT
        clear Y0 bY m1 hc1 s1 c2
        go_region_law (first
          | (refine step_call (by rfl) 31 _ _ (by rfl) #[.agg #[.int .i64 y1, .int .i64 s]] ?_ (Try.call31 _ _) KS.out ?_; (focus (simp [Act.eval, Act.put]; done)); rintro e w3 ⟨rfl, b3⟩; obtain ⟨A0, A1, D0, D1, _⟩ := ALL.out w3 (bYd.out.trans (b3.mono (by have := bYd.out.size; omega))) ((b3.block _ (by show _ < Y.heap.size; omega)).trans YY.out); replace b3 := hide b3; refine ⟨_, rfl, ?_⟩)
          | (refine step_call (by rfl) 30 _ _ (by rfl) #[.agg #[.int .i64 m.1, .slice (some ⟨bb, off, none⟩) m.2.length c], .int .i64 I, T] ?_ (Try.call30 _ _) (KW.out w3 b3.out) ?_; (focus (simp [Act.eval, Act.put]; done)); rintro e w4 ⟨v4, rfl, o4, b4⟩; obtain ⟨F0, F1, G0, G1, x0, x1, x2, x3, z0, z1, z2, z3⟩ := ALL.out w4 ((bYd.out.trans (b3.out.mono (by have := bYd.out.size; omega))).trans (b4.mono (by have := b3.out.size; have := bYd.out.size; omega))) ((b4.block _ (by have := b3.out.size; have : Y.drew.heap.size = Y.heap.size := rfl; omega)).trans ((b3.out.block _ (by show _ < Y.heap.size; omega)).trans YY.out)); obtain ⟨a3, n3, c3, hv3⟩ := ownE_slice o4; subst hv3; replace o4 := hide o4; replace b4 := hide b4; refine ⟨_, rfl, ?_⟩))
        all_goals
          go_wp2
          have B4 : Below w2.heap.size w2 w4 := (bYd.out.trans (b3.out.mono (by have := bYd.out.size; omega))).trans (b4.out.mono (by have := b3.out.size; have := bYd.out.size; omega))
          have hs4 : W.heap.size ≤ w3.heap.size := by have h1 := b3.out.size; have h2 := bYd.out.size; omega
          obtain ⟨_, _, R1, T1⟩ := hB.out w4 (b1.out.trans (B4.mono b1.out.size))
          refine ret_cell2T rfl rfl (w.heap.size + 1 + 1) rfl (w.heap.size + 1 + 1 + 1) rfl _ _ _ _ (set4 hne R1 T1 _ _ _ _).1 _ _ _ _ (set4 hne R1 T1 _ _ _ _).2 _ Try.underlying27 rfl infoM _ Try.underlying26 rfl infoX _ rfl ?_
          rw [hR.out]
          refine ⟨_, rfl, ?_, below_set4 (C2.out.trans (B4.mono C2.out.size)) (show w.heap.size ≤ w.heap.size + 1 + 1 by omega) (show w.heap.size ≤ w.heap.size + 1 + 1 + 1 by omega) _ _ _ _⟩
          have q1 : w.heap.size + 1 + 1 < w3.heap.size := by omega
          have q2 : w.heap.size + 1 + 1 + 1 < w3.heap.size := by omega
          have o := ownsRow_setCell_below (ownsRow_setCell_below (ownsRow_setCell_below (ownsRow_setCell_below o4.out (a := ⟨w.heap.size + 1 + 1, 0, none⟩) q1 (.int .i64 m.1)) (a := ⟨w.heap.size + 1 + 1, 1, none⟩) q1 (.slice a3 n3 c3)) (a := ⟨w.heap.size + 1 + 1 + 1, 0, none⟩) q2 (.int .i64 y1)) (a := ⟨w.heap.size + 1 + 1 + 1, 1, none⟩) q2 (.int .i64 s)
          exact rows_base o (fun g hg => by have := (World.ownsRow.lt o g hg).1; omega)
      · have hIe : I = m.2.length := by omega
        have hR := hide (hNo.out hlt)
        obtain ⟨r0, r1, r2, r3⟩ := cells2 R1
        obtain ⟨t0, t1, t2, t3⟩ := cells2 T1
        have RT := hide (And.intro R1 T1)
        have hbe : ((I : Int) == (m.2.length : Int)) = true := by simp; omega
        replace hIe := hide hIe
        clear R1 T1 M1 S1 hYes hlt2 hNo
        go_wp2
        refine ret_cell2T rfl rfl (w.heap.size + 1 + 1) rfl (w.heap.size + 1 + 1 + 1) rfl _ _ _ _ (set4 hne RT.out.1 RT.out.2 _ _ _ _).1 _ _ _ _ (set4 hne RT.out.1 RT.out.2 _ _ _ _).2 _ Try.underlying27 rfl infoM _ Try.underlying26 rfl infoX _ rfl ?_
        rw [hR.out]
        exact ⟨_, rfl, ownE_nil _ _, below_set4 (HC.out.trans (b1.out.mono HC.out.size)) (show w.heap.size ≤ w.heap.size + 1 + 1 by omega) (show w.heap.size ≤ w.heap.size + 1 + 1 + 1 by omega) _ _ _ _⟩
  · rw [echeck_no hok]
    have hR := hide (ealloc_state (s := s) hok)
    have RT := hide (And.intro R1 T1)
    clear R1 T1 M1 S1
    go_wp2
    refine ret_cell2T rfl rfl (w.heap.size + 1 + 1) rfl (w.heap.size + 1 + 1 + 1) rfl _ _ _ _ (set4 hne RT.out.1 RT.out.2 _ _ _ _).1 _ _ _ _ (set4 hne RT.out.1 RT.out.2 _ _ _ _).2 _ Try.underlying27 rfl infoM _ Try.underlying26 rfl infoX _ rfl ?_
    rw [hR.out]
    exact ⟨_, rfl, ownE_nil _ _, below_set4 (HC.out.trans (b1.out.mono HC.out.size)) (show w.heap.size ≤ w.heap.size + 1 + 1 by omega) (show w.heap.size ≤ w.heap.size + 1 + 1 + 1 by omega) _ _ _ _⟩

end Go.Proofs.Ytacfcgklncckiaa
