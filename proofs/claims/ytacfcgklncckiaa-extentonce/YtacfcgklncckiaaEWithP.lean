/-
  The program's without: an extent less what is taken of it.
-/
import Derived.Test.YtacfcgklncckiaaERepl
import Derived.Test.YtacfcgklncckiaaStep
namespace Go.Proofs.Ytacfcgklncckiaa
open Go.RowKit
set_option linter.unusedVariables false

theorem ownE_slice {B : Nat} {w : World} {v : Value} {l : List Ext} (h : OwnE B w v l) : ∃ a n c, v = .slice a n c := by
  obtain ⟨a, c, e⟩ := (own_ext h).rdS.slice
  exact ⟨_, _, _, e⟩
theorem sp_cells (a b : Int) : (sp a b).cells = #[sp a b] := rfl
/-- two spans in a block of their own -/
theorem rdSp_two (w : World) (s t : Int × Int) : RdSp (w.alloc (.cells #[sp s.1 s.2, sp t.1 t.2] 61)) (.slice (some ⟨w.heap.size, 0, none⟩) 2 2) [s, t] := by
  refine ⟨_, 2, rfl, Nat.le_refl _, by unfold maxLen; omega, (fun h => by cases h), .inr ⟨w.heap.size, 0, rfl, fun i x hx => ⟨[sp x.1 x.2], rfl, fun j u hj => ?_⟩⟩⟩
  have hl := heap_alloc_last w (.cells #[sp s.1 s.2, sp t.1 t.2] 61)
  match j, hj with
  | 0, hj =>
    simp at hj; subst hj
    match i, hx with
    | 0, hx => simp at hx; subst hx; rw [cell_of_row _ _ _ _ _ (0, 0) hl]; rfl
    | 1, hx => simp at hx; subst hx; rw [cell_of_row _ _ _ _ _ (0, 0) hl]; rfl
  | j + 1, hj => simp at hj
theorem rdSp_one (w : World) (s : Int × Int) : RdSp (w.alloc (.cells #[sp s.1 s.2] 61)) (.slice (some ⟨w.heap.size, 0, none⟩) 1 1) [s] := by
  refine ⟨_, 1, rfl, Nat.le_refl _, by unfold maxLen; omega, (fun h => by cases h), .inr ⟨w.heap.size, 0, rfl, fun i x hx => ⟨[sp x.1 x.2], rfl, fun j u hj => ?_⟩⟩⟩
  have hl := heap_alloc_last w (.cells #[sp s.1 s.2] 61)
  match j, hj with
  | 0, hj =>
    simp at hj; subst hj
    match i, hx with
    | 0, hx => simp at hx; subst hx; rw [cell_of_row _ _ _ _ _ (0, 0) hl]; rfl
  | j + 1, hj => simp at hj

set_option linter.unusedSimpArgs false in
set_option maxRecDepth 100000 in
set_option maxHeartbeats 2000000 in
theorem pwithout_any (w : World) (fv : Value) (m : EMap) (i : Nat) (y : Ext) (u v : Int) (h : RdE w fv m.2) (hy : m.2[i]? = some y) (hl : m.2.length ≤ 1048577) (hs : 0 ≤ y.1 ∧ 1 ≤ y.2 ∧ y.1 + y.2 ≤ 1048576) (ht : spIn u v) :
    Calls Try.prog 30 #[.agg #[.int .i64 m.1, fv], .int .i64 i, sp u v] w fun e w' => ∃ fv', e = .returned (.agg #[.int .i64 m.1, fv']) ∧ OwnE w.heap.size w' fv' (m.2.take i ++ eSpans [(y.1, u), (v, y.1 + y.2)] ++ m.2.drop (i + 1)) ∧ Below w.heap.size w w' := by
  have hlt : i < m.2.length := (List.getElem?_eq_some_iff.1 hy).1
  obtain ⟨a, c, rfl⟩ := h.slice
  obtain ⟨U, hU, A0, A1, bU, sU⟩ := boxed2 w (.int .i64 m.1) (.slice a m.2.length c) 27
  obtain ⟨W, hW, Z0, Z1, bW, sW⟩ := boxed2 U (.int .i64 0) (.slice none 0 0) 27
  have cW := bU.trans (bW.mono bU.size)
  replace A0 := (bW.cell (cell_lt A0)).trans A0
  replace A1 := (bW.cell (cell_lt A1)).trans A1
  have hZ : W.heap[w.heap.size + 1]? = some (.cells #[.int .i64 0, .slice none 0 0] 27 (0, 0)) := by rw [hW, ← sU]; exact heap_alloc_last U _
  obtain ⟨bb, off, rfl, hc1, hc2⟩ := (h.to0 cW).ext hy
  obtain ⟨y1, y2⟩ := y
  dsimp only at *
  obtain ⟨s1, s2, s3⟩ := hs
  have hq : (i : Int) < (m.2.length : Int) := by omega
  have K0 := hide (spanOf_any W y1 y2 (by omega))
  have HA := hide (And.intro A0 A1)
  have HW := hide cW
  have HH := hide h
  have hsz : W.heap.size = w.heap.size + 2 := by omega
  have HY := hide hy
  rw [hW, hU] at A0 A1 hc1 hc2
  clear Z0 Z1 bU bW cW hy
  go_enter Try.func30, Try.ntmps30
  go_wp2_with fail
  rw [← hU, ← hW]
  refine K0.out.mono ?_
  rintro e w1 ⟨rfl, b1⟩
  replace hU := hide hU
  replace hW := hide hW
  clear A0 A1 hc1 hc2
  have A0 := (b1.cell (cell_lt HA.out.1)).trans HA.out.1
  have A1 := (b1.cell (cell_lt HA.out.2)).trans HA.out.2
  have Z2 := (b1.block (w.heap.size + 1) (by omega)).trans hZ
  have c1 := HW.out.trans (b1.mono HW.out.size)
  have c1d := c1.drew
  have KB1 := hide (begin_any w1.drew y1 (y1 + y2) (by omega) (by omega))
  have KB2 := hide (begin_any w1.drew u v ht.1 ht.2.1)
  have KE1 := hide (end_any w1.drew y1 (y1 + y2) (by omega) (by omega))
  have KE2 := hide (end_any w1.drew u v ht.2.2.1 ht.2.2.2)
  have KS1 := hide (spanFrom_any w1.drew y1 u)
  have KS2 := hide (spanFrom_any w1.drew v (y1 + y2))
  obtain ⟨X, hX⟩ : ∃ X, X = w1.drew.alloc (.cells #[sp y1 u, sp v (y1 + y2)] 61) := ⟨_, rfl⟩
  have bX : Below w1.heap.size w1 X := by rw [hX]; exact (Below.refl _ _).drew.alloc (Nat.le_refl _) _
  have rX : RdSp X (.slice (some ⟨w1.heap.size, 0, none⟩) 2 2) [(y1, u), (v, y1 + y2)] := by rw [hX]; exact rdSp_two w1.drew (y1, u) (v, y1 + y2)
  have cX := c1.trans (bX.mono c1.size)
  have KR := hide (replaced_any X _ _ m i (i + 1) [(y1, u), (v, y1 + y2)] (HH.out.to0 cX) rX (by intro s hs; simp at hs; unfold spIn at *; rcases hs with rfl | rfl <;> dsimp only <;> omega) (by omega) (by omega) hl (by simp))
  clear rX
  rw [hX] at KR
  go_wp2_with fail
  have LAST : Hid (∀ w2, Below X.heap.size X w2 → w2.cell? ⟨w.heap.size + 1, 0, none⟩ = some (.int .i64 0) ∧ w2.cell? ⟨w.heap.size + 1, 1, none⟩ = some (.slice none 0 0) ∧ w2.frozen? ⟨w.heap.size + 1, 0, none⟩ = false ∧ w2.frozen? ⟨w.heap.size + 1, 1, none⟩ = false) := by
    intro w2 b2
    have hz := (b2.block (w.heap.size + 1) (by have := bX.size; have := b1.size; omega)).trans ((bX.block (w.heap.size + 1) (by have := b1.size; omega)).trans Z2)
    exact ⟨by rw [cell_of_row _ _ 0 _ _ (0, 0) hz]; rfl, by rw [cell_of_row _ _ 1 _ _ (0, 0) hz]; rfl, frozen_of_row _ _ 0 _ _ hz, frozen_of_row _ _ 1 _ _ hz⟩
  rw [show ((i + 1 : Nat) : Int) = (i : Int) + 1 from rfl] at KR
  rw [hX] at LAST
  generalize hH : sp y1 (y1 + y2) = H at *
  generalize hT : sp u v = T at *
  obtain ⟨p1, q1, hS1⟩ : ∃ p q, sp y1 u = .complex .f64 p q := ⟨_, _, rfl⟩
  obtain ⟨p2, q2, hS2⟩ : ∃ p q, sp v (y1 + y2) = .complex .f64 p q := ⟨_, _, rfl⟩
  rw [hS1] at KS1 KR LAST hX
  rw [hS2] at KS2 KR LAST hX
  replace hH := hide hH
  replace hT := hide hT
  replace hS1 := hide hS1
  replace hS2 := hide hS2
  have x0 : (w1.alloc (.cells #[.complex .f64 p1 q1, .complex .f64 p2 q2] 61)).cell? ⟨w.heap.size, 0, none⟩ = some (.int .i64 m.1) := (((Below.refl _ _).alloc (Nat.le_refl _) _).cell (p := ⟨w.heap.size, 0, none⟩) (cell_lt A0)).trans A0
  have x1 : (w1.alloc (.cells #[.complex .f64 p1 q1, .complex .f64 p2 q2] 61)).cell? ⟨w.heap.size, 1, none⟩ = some (.slice (some ⟨bb, off, none⟩) m.2.length c) := (((Below.refl _ _).alloc (Nat.le_refl _) _).cell (p := ⟨w.heap.size, 1, none⟩) (cell_lt A1)).trans A1
  replace hX := hide hX
  have hwi : IntKind.i64.wrap ((i : Int) + 1) = (i : Int) + 1 := by rw [IntKind.wrap_i64]; omega
  go_region_law (first
    | (refine step_call (by rfl) 35 _ _ (by rfl) #[H] ?_ (Try.call35 _ _) KB1.out ?_; (focus (simp [Act.eval, Act.put]; done)); rintro e w' ⟨rfl, rfl⟩; refine ⟨_, rfl, ?_⟩)
    | (refine step_call (by rfl) 35 _ _ (by rfl) #[T] ?_ (Try.call35 _ _) KB2.out ?_; (focus (simp [Act.eval, Act.put]; done)); rintro e w' ⟨rfl, rfl⟩; refine ⟨_, rfl, ?_⟩)
    | (refine step_call (by rfl) 41 _ _ (by rfl) #[.int .i64 y1, .int .i64 u] ?_ (Try.call41 _ _) KS1.out ?_; (focus (simp [Act.eval, Act.put]; done)); rintro e w' ⟨rfl, rfl⟩; refine ⟨_, rfl, ?_⟩)
    | (refine step_call (by rfl) 36 _ _ (by rfl) #[T] ?_ (Try.call36 _ _) KE2.out ?_; (focus (simp [Act.eval, Act.put]; done)); rintro e w' ⟨rfl, rfl⟩; refine ⟨_, rfl, ?_⟩)
    | (refine step_call (by rfl) 36 _ _ (by rfl) #[H] ?_ (Try.call36 _ _) KE1.out ?_; (focus (simp [Act.eval, Act.put]; done)); rintro e w' ⟨rfl, rfl⟩; refine ⟨_, rfl, ?_⟩)
    | (refine step_call (by rfl) 41 _ _ (by rfl) #[.int .i64 v, .int .i64 (y1 + y2)] ?_ (Try.call41 _ _) KS2.out ?_; (focus (simp [Act.eval, Act.put]; done)); rintro e w' ⟨rfl, rfl⟩; refine ⟨_, rfl, ?_⟩)
    | (refine step_call (by rfl) 40 _ _ (by rfl) #[.agg #[.int .i64 m.1, .slice (some ⟨bb, off, none⟩) m.2.length c], .int .i64 i, .int .i64 ((i : Int) + 1), .slice (some ⟨w1.heap.size, 0, none⟩) 2 2] ?_ (Try.call40 _ _) KR.out ?_; (focus (simp [Act.eval, Act.put]; done)); rintro e w2 ⟨v2, rfl, o2, b2⟩; obtain ⟨t0, t1, t2, t3⟩ := LAST.out w2 b2; obtain ⟨a3, n3, c3, hv3⟩ := ownE_slice o2; subst hv3; replace o2 := hide o2; replace b2 := hide b2; refine ⟨_, rfl, ?_⟩))
  all_goals
    go_wp2
    have B2 : Below w.heap.size w w2 := cX.trans ((show Below X.heap.size X w2 by rw [hX.out]; exact b2.out).mono cX.size)
    have Z3 := (show Below X.heap.size X w2 by rw [hX.out]; exact b2.out).block (w.heap.size + 1) (by have := bX.size; have := b1.size; omega)
    rw [bX.block (w.heap.size + 1) (by have := b1.size; omega), Z2] at Z3
    refine ret_cell rfl rfl (w.heap.size + 1) rfl _ _ _ _ (heap_set2 Z3 _ _) _ Try.underlying27 rfl infoM ?_
    refine ⟨_, rfl, ?_, below_set2 B2 (show w.heap.size ≤ w.heap.size + 1 by omega) _ _⟩
    have hxs : w.heap.size + 1 < X.heap.size := by have := bX.size; have := b1.size; omega
    rw [hX.out] at hxs
    have o := ownsRow_setCell_below (ownsRow_setCell_below o2.out (a := ⟨w.heap.size + 1, 0, none⟩) hxs (.int .i64 m.1)) (a := ⟨w.heap.size + 1, 1, none⟩) hxs (.slice a3 n3 c3)
    exact rows_base o (fun g hg => by have := (World.ownsRow.lt o g hg).1; exact Nat.le_trans (Nat.le_succ _) (Nat.le_trans (Nat.le_of_lt hxs) this))

end Go.Proofs.Ytacfcgklncckiaa
