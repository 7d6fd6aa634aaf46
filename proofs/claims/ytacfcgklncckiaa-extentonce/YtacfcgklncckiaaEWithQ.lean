/-
  The program's with: what is freed, as one extent with those that it touches.
-/
import Derived.StillTailTactics
import Derived.Test.YtacfcgklncckiaaEWithP
namespace Go.Proofs.Ytacfcgklncckiaa
open Go.RowKit
set_option linter.unusedVariables false

def eJoin (s : Int × Int) (l : List Ext) : Int × Int := l.foldl (fun s x => (if x.1 < s.1 then x.1 else s.1, if x.1 + x.2 > s.2 then x.1 + x.2 else s.2)) s
theorem eJoin_take {l : List Ext} {k : Nat} {y : Ext} (s : Int × Int) (h : l[k]? = some y) : eJoin s (l.take (k + 1)) = (if y.1 < (eJoin s (l.take k)).1 then y.1 else (eJoin s (l.take k)).1, if y.1 + y.2 > (eJoin s (l.take k)).2 then y.1 + y.2 else (eJoin s (l.take k)).2) := by
  unfold eJoin
  rw [List.take_add_one, h, List.foldl_append]
  rfl
theorem eJoin_in : ∀ {l : List Ext} {s : Int × Int}, spIn s.1 s.2 → eSec l → spIn (eJoin s l).1 (eJoin s l).2
  | [], s, h, _ => h
  | x :: r, s, h, hl => by
    have hx := hl x (List.mem_cons_self ..)
    refine eJoin_in (l := r) (s := (if x.1 < s.1 then x.1 else s.1, if x.1 + x.2 > s.2 then x.1 + x.2 else s.2)) ?_ fun y hy => hl y (List.mem_cons_of_mem _ hy)
    unfold spIn at *
    dsimp only
    split <;> split <;> omega
theorem eIdx_mono {p q : Int → Int → Bool} {l : List Ext} (h : ∀ x ∈ l, q x.1 (x.1 + x.2) = true → p x.1 (x.1 + x.2) = true) : eIdx p l ≤ eIdx q l := by
  unfold eIdx
  induction l with
  | nil => simp
  | cons x r ih =>
    rw [List.findIdx_cons, List.findIdx_cons]
    have hx := h x (List.mem_cons_self ..)
    have := ih fun y hy => h y (List.mem_cons_of_mem _ hy)
    cases hq : q x.1 (x.1 + x.2) with
    | true => rw [hx hq]; simp
    | false => cases p x.1 (x.1 + x.2) <;> simp; omega
theorem boxed1 (w : World) (x : Value) (t : TypeId) : ∃ u, u = w.alloc (.cells #[x] t) ∧ u.heap[w.heap.size]? = some (.cells #[x] t (0, 0)) ∧ Below w.heap.size w u ∧ u.heap.size = w.heap.size + 1 :=
  ⟨_, rfl, heap_alloc_last w _, (Below.refl _ _).alloc (Nat.le_refl _) _, by simp⟩
theorem boxed2b (w : World) (x y : Value) (t : TypeId) : ∃ u, u = w.alloc (.cells #[x, y] t) ∧ u.heap[w.heap.size]? = some (.cells #[x, y] t (0, 0)) ∧ Below w.heap.size w u ∧ u.heap.size = w.heap.size + 1 :=
  ⟨_, rfl, heap_alloc_last w _, (Below.refl _ _).alloc (Nat.le_refl _) _, by simp⟩
theorem cells2 {w : World} {g : Nat} {x y : Value} {t : TypeId} (h : w.heap[g]? = some (.cells #[x, y] t (0, 0))) : w.cell? ⟨g, 0, none⟩ = some x ∧ w.cell? ⟨g, 1, none⟩ = some y ∧ w.frozen? ⟨g, 0, none⟩ = false ∧ w.frozen? ⟨g, 1, none⟩ = false :=
  ⟨by rw [cell_of_row _ _ 0 _ _ (0, 0) h]; rfl, by rw [cell_of_row _ _ 1 _ _ (0, 0) h]; rfl, frozen_of_row _ _ 0 _ _ h, frozen_of_row _ _ 1 _ _ h⟩
/-- in the loop: the map's box, the span's, the answer's -/
def WInv (w : World) (n : Int) (fv : Value) (s : Int × Int) (wr : World) : Prop := Below w.heap.size w wr ∧ wr.heap[w.heap.size]? = some (.cells #[.int .i64 n, fv] 27 (0, 0)) ∧ wr.heap[w.heap.size + 1]? = some (.cells #[sp s.1 s.2] 61 (0, 0)) ∧ wr.heap[w.heap.size + 1 + 1]? = some (.cells #[.int .i64 0, .slice none 0 0] 27 (0, 0))
theorem WInv.to {w : World} {n : Int} {fv : Value} {s : Int × Int} {wr w' : World} (h : WInv w n fv s wr) (hb : Below wr.heap.size wr w') : WInv w n fv s w' :=
  ⟨h.1.trans (hb.mono h.1.size), (hb.block _ (lt_of_block h.2.1)).trans h.2.1, (hb.block _ (lt_of_block h.2.2.1)).trans h.2.2.1, (hb.block _ (lt_of_block h.2.2.2)).trans h.2.2.2⟩
theorem WInv.set {w : World} {n : Int} {fv : Value} {s t : Int × Int} {wr : World} (h : WInv w n fv s wr) : WInv w n fv t (wr.setCell ⟨w.heap.size + 1, 0, none⟩ (sp t.1 t.2)) :=
  ⟨h.1.setCell (p := ⟨w.heap.size + 1, 0, none⟩) (show w.heap.size ≤ w.heap.size + 1 by omega) _, (Below.heap_setCell _ _ _ _ (show w.heap.size ≠ w.heap.size + 1 by omega)).trans h.2.1, one_setCell h.2.2.1, (Below.heap_setCell _ _ _ _ (show w.heap.size + 1 + 1 ≠ w.heap.size + 1 by omega)).trans h.2.2.2⟩
theorem run_store_cplx (w : World) (a : Addr) (p q : Nat) {u : Value} (hc : w.cell? a = some u) (hf : w.frozen? a = false) : (store a (.complex .f64 p q)).run Try.prog w = .ok () (w.setCell a (.complex .f64 p q)) := by
  rw [run_store _ _ _ _ _ rfl, hc, hf]
  rfl
theorem sp_is (a b : Int) : ∃ p q, sp a b = .complex .f64 p q := ⟨_, _, rfl⟩

set_option linter.unusedSimpArgs false in
set_option maxRecDepth 100000 in
set_option maxHeartbeats 2000000 in
theorem pwith_any (w : World) (fv : Value) (m : EMap) (u v : Int) (h : RdE w fv m.2) (hl : m.2.length ≤ 1048577) (hs : eSec m.2) (ht : spIn u v) (huv : u ≤ v) :
    Calls Try.prog 39 #[.agg #[.int .i64 m.1, fv], sp u v] w fun e w' => ∃ fv', e = .returned (.agg #[.int .i64 m.1, fv']) ∧
      OwnE w.heap.size w' fv' (m.2.take (eIdx (fun _ y => decide (u ≤ y)) m.2) ++ eSpans [eJoin (u, v) ((m.2.take (eIdx (fun x _ => decide (v < x)) m.2)).drop (eIdx (fun _ y => decide (u ≤ y)) m.2))] ++ m.2.drop (eIdx (fun x _ => decide (v < x)) m.2)) ∧ Below w.heap.size w w' := by
  obtain ⟨a, c, rfl⟩ := h.slice
  have hij : eIdx (fun _ y => decide (u ≤ y)) m.2 ≤ eIdx (fun x _ => decide (v < x)) m.2 := eIdx_mono fun x hx hq => by have := hs x hx; simp at hq ⊢; omega
  have hjl := eIdx_le (fun x _ => decide (v < x)) m.2
  obtain ⟨U, hU, U0, bU, sU⟩ := boxed2b w (.int .i64 m.1) (.slice a m.2.length c) 27
  obtain ⟨V, hV, V0, bV, sV⟩ := boxed1 U (sp u v) 61
  obtain ⟨W, hW, W0, bW, sW⟩ := boxed2b V (.int .i64 0) (.slice none 0 0) 27
  rw [sU] at V0
  rw [sV, sU] at W0
  replace U0 := (bW.block w.heap.size (by omega)).trans ((bV.block w.heap.size (by omega)).trans U0)
  replace V0 := (bW.block (w.heap.size + 1) (by omega)).trans V0
  have cV := bU.trans (bV.mono bU.size)
  have cW := cV.trans (bW.mono cV.size)
  have hsz : W.heap.size = w.heap.size + 3 := by omega
  have K1 := hide (first_any 43 (w.heap.size + 1) (sp u v) _ (fits_end _ u v ht) (fun _ _ => Try.call43 _ _) W _ m.2 (h.to0 cW) (cell_of_one V0) hs)
  have HH := hide h
  have HS := hide hs
  have HT := hide ht
  have HU := hide U0
  have HV := hide V0
  have HW0 := hide W0
  have HC := hide cW
  obtain ⟨p0, q0, hT⟩ := sp_is u v
  have A1 := (cells2 U0).2.1
  rw [hT] at hV
  rw [hW, hV, hU] at A1
  rw [hT]
  clear U0 V0 W0 bU bV bW cV cW h hs
  have HIJ := hide (And.intro hij hjl)
  generalize hI : eIdx (fun _ y => decide (u ≤ y)) m.2 = I at *
  generalize hJ : eIdx (fun x _ => decide (v < x)) m.2 = J at *
  replace hI := hide hI
  replace hJ := hide hJ
  replace hT := hide hT
  clear ht
  go_enter Try.func39, Try.ntmps39
  go_wp2_with fail
  rw [← hU, ← hV, ← hW]
  replace hU := hide hU
  replace hV := hide hV
  replace hW := hide hW
  clear A1
  refine K1.out.mono ?_
  rintro e w1 ⟨rfl, b1⟩
  have A1 := (cells2 ((b1.block w.heap.size (by omega)).trans HU.out)).2.1
  have c1 := HC.out.trans (b1.mono HC.out.size)
  have K2 := hide (first_any 44 (w.heap.size + 1) (sp u v) _ (fits_begin _ u v HT.out) (fun _ _ => Try.call44 _ _) w1 _ m.2 (HH.out.to0 c1) (cell_of_one ((b1.block (w.heap.size + 1) (by omega)).trans HV.out)) HS.out)
  rw [hJ.out] at K2
  replace b1 := hide b1
  clear K1 c1
  go_wp2_with fail
  refine K2.out.mono ?_
  rintro e w2 ⟨rfl, b2⟩
  replace b2 := hide (b1.out.trans (b2.mono b1.out.size))
  clear K2 b1 A1
  have A1 := (cells2 ((b2.out.block w.heap.size (by omega)).trans HU.out)).2.1
  obtain ⟨A, hA, rA⟩ := rdS_cut (q := I) (to := J) HH.out hij hjl
  rw [show SExt.n = 2 from rfl] at hA
  obtain ⟨ao, c', e0, l1, m1, n1, _⟩ := id HH.out
  simp only [Value.slice.injEq, true_and] at e0
  obtain ⟨rfl, rfl⟩ := e0
  rw [show maxLen = 9223372036854775807 from rfl] at m1
  have g1 : (I : Int) ≤ (J : Int) := by omega
  have g2 : (J : Int) ≤ (c : Int) := by omega
  clear n1
  have RA := hide rA
  clear rA
  go_wp2
  have hN : ((m.2.take J).drop I).length = J - I := by simp; omega
  generalize hD : (m.2.take J).drop I = D at *
  have hDs : eSec D := fun x hx => HS.out x (by rw [← hD] at hx; exact List.mem_of_mem_take (List.mem_of_mem_drop hx))
  have HDs := hide hDs
  have hNl : J - I ≤ 1048577 := by omega
  generalize J - I = N at *
  replace hD := hide hD
  replace hN := hide hN
  have HI := hide (show WInv w m.1 (.slice a m.2.length c) (u, v) w2 from ⟨HC.out.trans (b2.out.mono HC.out.size), (b2.out.block w.heap.size (by omega)).trans HU.out, (b2.out.block (w.heap.size + 1) (by omega)).trans HV.out, (b2.out.block (w.heap.size + 1 + 1) (by omega)).trans HW0.out⟩)
  clear hDs b2 HU HV HW0 HC A1 hU hV hW sU sV sW hsz
  go_loopw [24] (fun k wr => ∃ q : Nat, q ≤ N ∧ k = .int .i64 q ∧ Hid (WInv w m.1 (.slice a m.2.length c) (eJoin (u, v) (D.take q)) wr)) (fun k _ => N - (intOf k).toNat)
  case atStart => exact ⟨0, Nat.zero_le _, rfl, hide HI.out⟩
  case round =>
    obtain ⟨q, hq, rfl, hH⟩ := hrel
    clear HI
    by_cases hlt : q < N
    · have hqi : (q : Int) < (N : Int) := by omega
      obtain ⟨x, hx, hxm⟩ := ext_at D (k := q) (by have := hN.out; omega)
      have hxs := HDs.out x hxm
      have hT2 := eJoin_take (u, v) hx
      have hin := eJoin_in (s := (u, v)) (l := D.take q) HT.out fun y hy => HDs.out y (List.mem_of_mem_take hy)
      generalize hE : eJoin (u, v) (D.take q) = E at *
      obtain ⟨x0, y0⟩ := E
      obtain ⟨x1, x2⟩ := x
      dsimp only at hT2 hin hxs
      obtain ⟨s1, s2, s3⟩ := hxs
      obtain ⟨bb, off, rfl, hc1, hc2⟩ := (RA.out.to0 hH.out.1).ext hx
      obtain ⟨U, hU, X0, X1, bU, sU⟩ := boxed2 wr (.int .i64 x1) (.int .i64 x2) 26
      have K0 := hide (spanOf_any U x1 x2 (by omega))
      have hI2 := hide (hH.out.to bU)
      rw [hU] at X0 X1
      dsimp only at hc1 hc2
      replace hT2 := hide hT2
      replace hE := hide hE
      clear hx hxm bU hH
      go_wp2_with fail
      rw [← hU]
      replace hU := hide hU
      clear X0 X1 hc1 hc2
      refine K0.out.mono ?_
      rintro e w3 ⟨rfl, b3⟩
      have hI3 := hide (hI2.out.to b3)
      have c3 := cell_of_one hI3.out.2.2.1
      have f3 := free_of_one hI3.out.2.2.1
      have KB1 := hide (Calls.flip (begin_any w3.drew x0 y0 hin.1 hin.2.1))
      have KE1 := hide (Calls.flip (end_any w3.drew x0 y0 hin.2.2.1 hin.2.2.2))
      have KB2 := hide (Calls.flip (begin_any w3.drew x1 (x1 + x2) (by omega) (by omega)))
      have KE2 := hide (Calls.flip (end_any w3.drew x1 (x1 + x2) (by omega) (by omega)))
      have KS := hide (Calls.flip (spanFrom_any w3.drew (if x1 < x0 then x1 else x0) (if x1 + x2 > y0 then x1 + x2 else y0)))
      have hI4 := hide (hI3.out.set (t := ((if x1 < x0 then x1 else x0), (if x1 + x2 > y0 then x1 + x2 else y0))))
      rw [← hT2.out] at hI4
      obtain ⟨pn, qn, hn⟩ := sp_is (if x1 < x0 then x1 else x0) (if x1 + x2 > y0 then x1 + x2 else y0)
      rw [hT2.out] at hI4
      dsimp only at hI4
      rw [hn] at KS hI4
      rw [← hT2.out] at hI4
      replace hn := hide hn
      clear K0 b3 hI2 hin
      dsimp only at c3
      generalize hF : sp x0 y0 = F at *
      generalize hS2 : sp x1 (x1 + x2) = S at *
      replace hF := hide hF
      replace hS2 := hide hS2
      have hsc := run_store_cplx w3.drew ⟨w.heap.size + 1, 0, none⟩ pn qn c3 f3
      go_wp2_with fail
      refine wp_tail 11 mixed (by kernel_rfl) ?_
      simp only [List.take_succ_cons, List.take_zero, List.drop_succ_cons, List.drop_zero]
      repeat still_step
      still_call KB1.out
      repeat still_step
      still_call KB2.out
      repeat still_step
      still_call KE1.out
      repeat still_step
      still_call KE2.out
      repeat still_step
      still_call KS.out
      repeat still_step
      refine wpStill_nil ?_
      go_wp2
      go_roundw
      case rel => exact ⟨q + 1, by omega, by go_num, hide (hI4.out.to (Below.refl _ _).drew)⟩
      case measure => simp [intOf]; omega
    · have hqi : ¬ (q : Int) < (N : Int) := by omega
      have hin := eJoin_in (s := (u, v)) (l := D) HT.out HDs.out
      rw [List.take_of_length_le (by have := hN.out; omega)] at hH
      obtain ⟨c1, A, F0, Z0⟩ := hH.out
      generalize hE : eJoin (u, v) D = E at *
      obtain ⟨x0, y0⟩ := E
      dsimp only at hin F0
      obtain ⟨A0, A1, _, _⟩ := cells2 A
      obtain ⟨X, hX⟩ : ∃ X, X = wr.alloc (.cells #[sp x0 y0] 61) := ⟨_, rfl⟩
      have bX : Below wr.heap.size wr X := by rw [hX]; exact (Below.refl _ _).alloc (Nat.le_refl _) _
      have rX : RdSp X (.slice (some ⟨wr.heap.size, 0, none⟩) 1 1) [(x0, y0)] := by rw [hX]; exact rdSp_one wr (x0, y0)
      have cX := c1.trans (bX.mono c1.size)
      have KR := hide (replaced_any X _ _ m I J [(x0, y0)] (HH.out.to0 cX) rX (by intro s hs; simp at hs; subst hs; exact hin) hij hjl hl (by simp))
      have LAST : Hid (∀ w2, Below X.heap.size X w2 → w2.heap[w.heap.size + 1 + 1]? = some (.cells #[.int .i64 0, .slice none 0 0] 27 (0, 0)) ∧ Below w.heap.size w w2) := fun w2 b2 => ⟨(b2.block _ (by have := lt_of_block Z0; have := bX.size; omega)).trans ((bX.block _ (lt_of_block Z0)).trans Z0), cX.trans (b2.mono cX.size)⟩
      have hws : w.heap.size + 1 + 1 < X.heap.size := by have := lt_of_block Z0; have := bX.size; omega
      have c61 := cell_of_one F0
      obtain ⟨pn, qn, hn⟩ := sp_is x0 y0
      rw [hn] at c61 hX
      replace hn := hide hn
      replace hE := hide hE
      replace hin := hide hin
      clear hH A F0 Z0 c1 bX rX cX hij hjl g1 g2
      replace hlt := hide hlt
      go_wp2_with fail
      rw [← hX]
      replace hX := hide hX
      clear A0 A1 c61
      refine KR.out.mono ?_
      rintro e w2 ⟨v2, rfl, o2, b2⟩
      obtain ⟨Z3, B2⟩ := LAST.out w2 b2
      obtain ⟨z0, z1, z2, z3⟩ := cells2 Z3
      obtain ⟨a3, n3, c3, hv3⟩ := ownE_slice o2
      subst hv3
      have O := hide (And.intro o2 (And.intro Z3 B2))
      clear o2 b2 Z3 B2 LAST KR
      go_wp2
      refine ret_cell rfl rfl (w.heap.size + 1 + 1) rfl _ _ _ _ (heap_set2 O.out.2.1 _ _) _ Try.underlying27 rfl infoM ?_
      refine ⟨_, rfl, ?_, below_set2 O.out.2.2 (show w.heap.size ≤ w.heap.size + 1 + 1 by omega) _ _⟩
      have o := ownsRow_setCell_below (ownsRow_setCell_below O.out.1 (a := ⟨w.heap.size + 1 + 1, 0, none⟩) hws (.int .i64 m.1)) (a := ⟨w.heap.size + 1 + 1, 1, none⟩) hws (.slice a3 n3 c3)
      rw [hD.out, hE.out]
      exact rows_base o (fun g hg => by have := (World.ownsRow.lt o g hg).1; omega)

end Go.Proofs.Ytacfcgklncckiaa
