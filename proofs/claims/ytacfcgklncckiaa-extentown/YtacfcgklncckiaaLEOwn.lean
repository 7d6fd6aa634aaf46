/-
  PROVED: whatever map and extent come in, transeptlaw05.ExtentOwn returns true and leaves them as they were: the statement of P5.6 (the map that follows shares nothing with the one handed in).
-/
import Derived.Test.YtacfcgklncckiaaEIn
import Derived.Test.YtacfcgklncckiaaEAlive
namespace Go.Proofs.Ytacfcgklncckiaa.extentOwn
open Go.ChangeShapes Go.WideShapes Go.ChangeAt Go.RowKit
set_option linter.unusedVariables false

theorem not_both {m : EMap} {x : Ext} (h1 : (efree m x).2 = 0) (h2 : (etake m x).2 = 0) : False := by
  by_cases ha : easked m x = 0
  · obtain ⟨hok, a1, a2, a3⟩ := easked_ok ha
    by_cases hi : eIdx (fun a b => decide (a < x.1 + x.2) && decide (x.1 < b)) m.2 < m.2.length
    · rw [efree_hit ha hi] at h1; cases h1
    · by_cases hj : eIdx (fun a b => decide (a ≤ x.1) && decide (x.1 + x.2 ≤ b)) m.2 < m.2.length
      · obtain ⟨y, hy, hp, hym⟩ := eIdx_lt hj
        have := eIdx_eq hi y hym
        simp at hp this
        omega
      · rw [etake_none ha hj] at h2; cases h2
  · rw [efree_no ha] at h1; exact ha h1
theorem efree_small (m : EMap) (x : Ext) : (efree m x).1.2.length ≤ 2097160 := by
  by_cases ha : easked m x = 0
  · obtain ⟨hok, a1, a2, a3⟩ := easked_ok ha
    by_cases hi : eIdx (fun a b => decide (a < x.1 + x.2) && decide (x.1 < b)) m.2 < m.2.length
    · rw [efree_hit ha hi]; simp
    · rw [efree_good ha hi]
      have := eOk_len hok
      have := eSpans_len [eJoin (x.1, x.1 + x.2) ((m.2.take (eIdx (fun z _ => decide (x.1 + x.2 < z)) m.2)).drop (eIdx (fun _ y => decide (x.1 ≤ y)) m.2))]
      simp at this ⊢
      omega
  · rw [efree_no ha]; simp
theorem etake_small (m : EMap) (x : Ext) : (etake m x).1.2.length ≤ 2097160 := by
  by_cases ha : easked m x = 0
  · obtain ⟨hok, a1, a2, a3⟩ := easked_ok ha
    unfold etake
    rw [if_neg (fun k => k ha)]
    split
    · have := eOk_len hok
      have := eWithout_len x m.2
      dsimp only
      omega
    · simp
  · rw [etake_no ha]; simp

/-- in the loop that writes over the map that was handed in -/
def LInv (w : World) (G0 gO gA gB : Nat) (n d e : Int) (vo va vb v5 v6 : Value) (len : Nat) (l1 l2 : List Ext) (wr : World) : Prop :=
  (∃ cs, wr.ownsRow 0 26 2 vo len cs) ∧ OwnE G0 wr va l1 ∧ OwnE G0 wr vb l2 ∧ OwnE G0 wr v5 l1 ∧ OwnE G0 wr v6 l2 ∧ wr.heap[gO]? = some (.cells #[.int .i64 n, vo] 27 (0, 0)) ∧ wr.heap[gA]? = some (.cells #[.int .i64 d, va] 27 (0, 0)) ∧ wr.heap[gB]? = some (.cells #[.int .i64 e, vb] 27 (0, 0)) ∧ Below w.heap.size w wr
theorem LInv.set {w : World} {G0 gO gA gB : Nat} {n d e : Int} {va vb v5 v6 : Value} {len g cap : Nat} {l1 l2 : List Ext} {wr : World} (h : LInv w G0 gO gA gB n d e (.slice (some ⟨g, 0, none⟩) len cap) va vb v5 v6 len l1 l2 wr) {j : Nat} {u : Value} (h0 : g < G0) (h1 : g ≠ gO) (h2 : g ≠ gA) (h3 : g ≠ gB) (h4 : w.heap.size ≤ g) :
    LInv w G0 gO gA gB n d e (.slice (some ⟨g, 0, none⟩) len cap) va vb v5 v6 len l1 l2 (wr.setCell ⟨g, j, none⟩ u) := by
  obtain ⟨⟨cs, hc⟩, q1, q2, q3, q4, q5, q6, q7, q8⟩ := h
  exact ⟨⟨_, (hc.stored j u).1⟩, ownsRow_setCell_below q1 (a := ⟨g, j, none⟩) h0 u, ownsRow_setCell_below q2 (a := ⟨g, j, none⟩) h0 u, ownsRow_setCell_below q3 (a := ⟨g, j, none⟩) h0 u, ownsRow_setCell_below q4 (a := ⟨g, j, none⟩) h0 u,
    (Below.heap_setCell _ _ _ _ (Ne.symm h1)).trans q5, (Below.heap_setCell _ _ _ _ (Ne.symm h2)).trans q6, (Below.heap_setCell _ _ _ _ (Ne.symm h3)).trans q7, q8.setCell (p := ⟨g, j, none⟩) h4 u⟩

set_option linter.unusedSimpArgs false in
set_option maxRecDepth 100000 in
set_option maxHeartbeats 4000000 in
theorem walk (w : World) (cs0 : Array Value) (x0 : EMap) (g0 : SMapE.rd w cs0.toList x0) (m0 : (Lit.int .i64 x0.1).wf = true ∧ (x0.2.length * 16 ≤ 140737488351232 ∧ ∀ y ∈ x0.2, (Lit.int .i64 y.1).wf = true ∧ (Lit.int .i64 y.2).wf = true)) (cs1 : Array Value) (x1 : Ext) (g1 : SExt.rd w cs1.toList x1) (m1 : (Lit.int .i64 x1.1).wf = true ∧ (Lit.int .i64 x1.2).wf = true) :
    Calls Try.prog 7 #[.agg cs0, .agg cs1] w fun e w' => e = .returned (.bool true) ∧ Below w.heap.size w w' := by
  obtain rfl := ext_form g1
  have hx := (wf_int m1.1).2
  clear g1 m1
  obtain ⟨fv, rfl, h⟩ := emap_form g0
  obtain ⟨hin, hm⟩ := emap_in m0
  clear g0 m0
  obtain ⟨sa, sc, rfl⟩ := h.slice
  have cc : Below w.heap.size w w := Below.refl _ _
  have lb := h.bd
  obtain ⟨D1, D2, er, hD⟩ : ∃ D1 D2 er, efree x0 x1 = ((D1, D2), er) := ⟨_, _, _, rfl⟩
  obtain ⟨E1, E2, fr, hE⟩ : ∃ E1 E2 fr, etake x0 x1 = ((E1, E2), fr) := ⟨_, _, _, rfl⟩
  have hnb := hide (not_both (m := x0) (x := x1))
  have hs1 := efree_small x0 x1
  have hs2 := etake_small x0 x1
  rw [hD] at hnb hs1
  rw [hE] at hnb hs2
  dsimp only at hs1 hs2
  replace hD := hide hD
  replace hE := hide hE
  obtain ⟨XM, hXM, M, bX, sXM⟩ := boxed2b w (.int .i64 x0.1) (.slice sa x0.2.length sc) 24
  replace M := hide M
  replace h := h.to0 bX
  replace cc := cc.trans (bX.mono cc.size)
  replace hXM := hide hXM
  clear bX
  obtain ⟨XV, hXV, V, bX, sXV⟩ := boxed2b XM (.int .i64 x1.1) (.int .i64 x1.2) 26
  rw [sXM] at V
  replace V := hide V
  replace M := hide ((bX.block _ (lt_of_block M.out)).trans M.out)
  replace h := h.to0 bX
  replace cc := cc.trans (bX.mono cc.size)
  rw [hXM.out] at hXV
  replace hXV := hide hXV
  clear bX
  go_enter Try.func7, Try.ntmps7
  have KK := hide (ealive_any XV)
  try dsimp only at KK
  obtain ⟨m0, m1, _, _⟩ := cells2 M.out
  obtain ⟨v0, v1, _, _⟩ := cells2 V.out
  rw [hXV.out] at m0 m1 v0 v1
  go_wp2_with fail
  rw [← hXV.out]
  clear m0 m1 v0 v1
  refine KK.out.mono ?_
  rintro e w1 ⟨rfl, bb⟩
  clear KK
  replace M := hide ((bb.block _ (lt_of_block M.out)).trans M.out)
  replace V := hide ((bb.block _ (lt_of_block V.out)).trans V.out)
  replace h := h.to0 bb
  replace cc := cc.trans (bb.mono cc.size)
  clear bb
  have hw1 := cc.size
  have KK := hide (of5_any w1 _ x0 h hm)
  try dsimp only at KK
  obtain ⟨m0, m1, _, _⟩ := cells2 M.out
  obtain ⟨v0, v1, _, _⟩ := cells2 V.out
  go_wp2_with fail
  clear m0 m1 v0 v1
  refine KK.out.mono ?_
  rintro e w2 ⟨f, rfl, o, bb⟩
  clear KK
  have hO2 : Hid (∀ b, f.ownBlock = some b → w.heap.size ≤ b ∧ b < w2.heap.size) := fun b hb => by have := World.ownsRow.lt o b hb; omega
  try dsimp only at o
  have oo := o
  have ro := ownE_rd o
  clear o
  obtain ⟨ao, co, hv⟩ := ro.slice
  subst hv
  replace M := hide ((bb.block _ (lt_of_block M.out)).trans M.out)
  replace V := hide ((bb.block _ (lt_of_block V.out)).trans V.out)
  replace h := h.to0 bb
  replace cc := cc.trans (bb.mono cc.size)
  clear bb
  obtain ⟨XO, hXO, O, bX, sXO⟩ := boxed2b w2 (.int .i64 x0.1) (.slice ao x0.2.length co) 27
  replace O := hide O
  replace M := hide ((bX.block _ (lt_of_block M.out)).trans M.out)
  replace V := hide ((bX.block _ (lt_of_block V.out)).trans V.out)
  replace h := h.to0 bX
  replace ro := ro.to0 bX
  replace oo := OwnE.to oo bX
  replace cc := cc.trans (bX.mono cc.size)
  replace hXO := hide hXO
  clear bX
  have hOlt : Hid (∀ b, (Value.slice ao x0.2.length co).ownBlock = some b → w.heap.size ≤ b ∧ b < w2.heap.size) := hO2.out
  obtain ⟨G0, hG0⟩ : ∃ G0, G0 = XO.heap.size := ⟨_, rfl⟩
  have hGO : w2.heap.size < G0 := by omega
  have KK := hide (pfree_any XO _ x0 x1 ro hin hx)
  rw [hD.out] at KK
  try dsimp only at KK
  obtain ⟨m0, m1, _, _⟩ := cells2 M.out
  obtain ⟨v0, v1, _, _⟩ := cells2 V.out
  obtain ⟨o0, o1, _, _⟩ := cells2 O.out
  rw [hXO.out] at m0 m1 v0 v1 o0 o1
  go_wp2_with fail
  rw [← hXO.out]
  clear m0 m1 v0 v1 o0 o1
  refine KK.out.mono ?_
  rintro e w3 ⟨f, rfl, o, bb⟩
  clear KK
  rw [← hG0] at o
  have hGA : G0 ≤ w3.heap.size := by have := bb.size; omega
  try dsimp only at o
  have oa := o
  have ra := ownE_rd o
  clear o
  obtain ⟨aa, ca, hv⟩ := ra.slice
  subst hv
  replace M := hide ((bb.block _ (lt_of_block M.out)).trans M.out)
  replace V := hide ((bb.block _ (lt_of_block V.out)).trans V.out)
  replace O := hide ((bb.block _ (lt_of_block O.out)).trans O.out)
  replace h := h.to0 bb
  replace ro := ro.to0 bb
  replace oo := OwnE.to oo bb
  replace cc := cc.trans (bb.mono cc.size)
  clear bb
  obtain ⟨XA, hXA, A, bX, sXA⟩ := boxed2b w3 (.int .i64 D1) (.slice aa D2.length ca) 27
  replace A := hide A
  replace M := hide ((bX.block _ (lt_of_block M.out)).trans M.out)
  replace V := hide ((bX.block _ (lt_of_block V.out)).trans V.out)
  replace O := hide ((bX.block _ (lt_of_block O.out)).trans O.out)
  replace h := h.to0 bX
  replace ro := ro.to0 bX
  replace ra := ra.to0 bX
  replace oo := OwnE.to oo bX
  replace oa := OwnE.to oa bX
  replace cc := cc.trans (bX.mono cc.size)
  replace hXA := hide hXA
  clear bX
  have hzA : w3.heap.size < XA.heap.size := by omega
  have KK := hide (ptake_any XA _ x0 x1 ro hin hx)
  rw [hE.out] at KK
  try dsimp only at KK
  obtain ⟨m0, m1, _, _⟩ := cells2 M.out
  obtain ⟨v0, v1, _, _⟩ := cells2 V.out
  obtain ⟨o0, o1, _, _⟩ := cells2 O.out
  obtain ⟨a0, a1, _, _⟩ := cells2 A.out
  rw [hXA.out] at m0 m1 v0 v1 o0 o1 a0 a1
  go_wp2_with fail
  rw [← hXA.out]
  clear m0 m1 v0 v1 o0 o1 a0 a1
  refine KK.out.mono ?_
  rintro e w4 ⟨f, rfl, o, bb⟩
  clear KK
  have hGB : w3.heap.size < w4.heap.size := by have := bb.size; omega
  replace o := rows_base o (C := G0) (fun b hb => by have := (World.ownsRow.lt o b hb).1; omega)
  replace o : OwnE G0 w4 f E2 := o
  try dsimp only at o
  have ob := o
  have rb := ownE_rd o
  clear o
  obtain ⟨ab, cb, hv⟩ := rb.slice
  subst hv
  replace M := hide ((bb.block _ (lt_of_block M.out)).trans M.out)
  replace V := hide ((bb.block _ (lt_of_block V.out)).trans V.out)
  replace O := hide ((bb.block _ (lt_of_block O.out)).trans O.out)
  replace A := hide ((bb.block _ (lt_of_block A.out)).trans A.out)
  replace h := h.to0 bb
  replace ro := ro.to0 bb
  replace ra := ra.to0 bb
  replace oo := OwnE.to oo bb
  replace oa := OwnE.to oa bb
  replace cc := cc.trans (bb.mono cc.size)
  clear bb
  obtain ⟨XB, hXB, B, bX, sXB⟩ := boxed2b w4 (.int .i64 E1) (.slice ab E2.length cb) 27
  replace B := hide B
  replace M := hide ((bX.block _ (lt_of_block M.out)).trans M.out)
  replace V := hide ((bX.block _ (lt_of_block V.out)).trans V.out)
  replace O := hide ((bX.block _ (lt_of_block O.out)).trans O.out)
  replace A := hide ((bX.block _ (lt_of_block A.out)).trans A.out)
  replace h := h.to0 bX
  replace ro := ro.to0 bX
  replace ra := ra.to0 bX
  replace rb := rb.to0 bX
  replace oo := OwnE.to oo bX
  replace oa := OwnE.to oa bX
  replace ob := OwnE.to ob bX
  replace cc := cc.trans (bX.mono cc.size)
  replace hXB := hide hXB
  clear bX
  have hzB : w4.heap.size < XB.heap.size := by omega
  have KP := hide (copyE_any XB.drew _ D2 (ra.to0 (Below.refl _ _).drew) (by omega))
  have KQ : Hid (∀ w5, Below XB.drew.heap.size XB.drew w5 → Calls Try.prog 26 #[.slice ab E2.length cb] w5 fun e w6 => ∃ v6, e = .returned v6 ∧ OwnE w5.heap.size w6 v6 E2 ∧ Below w5.heap.size w5 w6) := fun w5 b5 => copyE_any w5 _ E2 ((rb.to0 (Below.refl _ _).drew).to0 b5) (by omega)
  have ALL : Hid (∀ w5, Below XB.drew.heap.size XB.drew w5 → w5.cell? ⟨w3.heap.size, 1, none⟩ = some (.slice aa D2.length ca) ∧ w5.cell? ⟨w4.heap.size, 1, none⟩ = some (.slice ab E2.length cb)) := fun w5 b5 => ⟨(cells2 ((b5.block _ (lt_of_block A.out)).trans A.out)).2.1, (cells2 ((b5.block _ (lt_of_block B.out)).trans B.out)).2.1⟩
  have FIN : Hid (∀ w5 w6 v5 v6, Below XB.drew.heap.size XB.drew w5 → OwnE XB.drew.heap.size w5 v5 D2 → Below w5.heap.size w5 w6 → OwnE w5.heap.size w6 v6 E2 → LInv w G0 w2.heap.size w3.heap.size w4.heap.size x0.1 D1 E1 (.slice ao x0.2.length co) (.slice aa D2.length ca) (.slice ab E2.length cb) v5 v6 x0.2.length D2 E2 w6) := by
    intro w5 w6 v5 v6 b5 p5 b6 p6
    have bz : Below XB.heap.size XB w6 := ((Below.refl _ _).drew.trans b5).trans (b6.mono (Nat.le_trans (Nat.le_refl _) b5.size))
    have hz : XB.drew.heap.size = XB.heap.size := rfl
    have h5 := b5.size
    refine ⟨⟨_, rows_base (OwnE.to oo bz) (fun _ _ => Nat.zero_le _)⟩, OwnE.to oa bz, OwnE.to ob bz, rows_base (OwnE.to p5 b6) (fun b hb => ?_), rows_base p6 (fun b hb => ?_), (bz.block _ (lt_of_block O.out)).trans O.out, (bz.block _ (lt_of_block A.out)).trans A.out, (bz.block _ (lt_of_block B.out)).trans B.out, cc.trans (bz.mono cc.size)⟩
    · have := (World.ownsRow.lt p5 b hb).1; omega
    · have := (World.ownsRow.lt p6 b hb).1; omega
  obtain ⟨m0, m1, _, _⟩ := cells2 M.out
  obtain ⟨v0, v1, _, _⟩ := cells2 V.out
  obtain ⟨o0, o1, _, _⟩ := cells2 O.out
  obtain ⟨a0, a1, _, _⟩ := cells2 A.out
  obtain ⟨b0, b1, _, _⟩ := cells2 B.out
  rw [hXB.out] at m0 m1 v0 v1 o0 o1 a0 a1 b0 b1
  go_wp2_with fail
  rw [← hXB.out]
  clear m0 m1 v0 v1 o0 o1 a0 a1 b0 b1
  obtain ⟨ga, gb⟩ := ALL.out XB.drew (Below.refl _ _)
  clear oo oa ob ra rb ro h cc hin
  go_region_law (first
    | (refine step_call (by rfl) 26 _ _ (by rfl) #[.slice aa D2.length ca] ?_ (Try.call26 _ _) KP.out ?_; (focus (simp [Act.eval, Act.put]; done)); rintro e w5 ⟨v5, rfl, p5, b5⟩; obtain ⟨ga5, gb5⟩ := ALL.out w5 b5; obtain ⟨a5, n5, c5, hv5⟩ := ownE_slice p5; subst hv5; replace p5 := hide p5; replace b5 := hide b5; refine ⟨_, rfl, ?_⟩)
    | (refine step_call (by rfl) 26 _ _ (by rfl) #[.slice ab E2.length cb] ?_ (Try.call26 _ _) (KQ.out w5 b5.out) ?_; (focus (simp [Act.eval, Act.put]; done)); rintro e w6 ⟨v6, rfl, p6, b6⟩; obtain ⟨a6, n6, c6, hv6⟩ := ownE_slice p6; subst hv6; replace p6 := hide p6; replace b6 := hide b6; refine ⟨_, rfl, ?_⟩))
  all_goals
    have HI := hide (FIN.out w5 w6 _ _ b5.out p5.out b6.out p6.out)
    clear FIN ALL KP KQ p5 b5 p6 b6 ga gb
    obtain ⟨o0, o1, _, _⟩ := cells2 HI.out.2.2.2.2.2.1
    go_wp2
    clear o0 o1
    go_loopw [12] (fun i wr => ∃ k : Nat, k ≤ x0.2.length ∧ i = .int .i64 k ∧ Hid (LInv w G0 w2.heap.size w3.heap.size w4.heap.size x0.1 D1 E1 (.slice ao x0.2.length co) (.slice aa D2.length ca) (.slice ab E2.length cb) (.slice a5 n5 c5) (.slice a6 n6 c6) x0.2.length D2 E2 wr)) (fun i _ => x0.2.length - (intOf i).toNat)
    case atStart => exact ⟨0, Nat.zero_le _, rfl, HI⟩
    case round =>
      obtain ⟨k, hk, rfl, hH⟩ := hrel
      clear HI
      obtain ⟨o0, o1, _, _⟩ := cells2 hH.out.2.2.2.2.2.1
      by_cases hlt : k < x0.2.length
      · have hqi : (k : Int) < (x0.2.length : Int) := by omega
        obtain ⟨cs, hrow⟩ := hH.out.1
        rcases hrow.2 with ⟨_, h0⟩ | ⟨g, cap, cur, hv, _⟩
        · omega
        simp only [Value.slice.injEq, true_and] at hv
        obtain ⟨rfl, rfl⟩ := hv
        have hcs := hrow.1
        have c1 := hrow.cellAt (k * 2) (by omega)
        have c2 := hrow.cellAt (k * 2 + 1) (by omega)
        obtain ⟨z1, hz1⟩ : ∃ z, cs[k * 2]? = some z := ⟨_, List.getElem?_eq_getElem (by omega)⟩
        obtain ⟨z2, hz2⟩ : ∃ z, cs[k * 2 + 1]? = some z := ⟨_, List.getElem?_eq_getElem (by omega)⟩
        rw [hz1] at c1
        rw [hz2] at c2
        have f1 := hrow.frozenAt (k * 2)
        have f2 := hrow.frozenAt (k * 2 + 1)
        have hgl := hOlt.out g rfl
        have HN := hide ((hH.out.set (j := k * 2) (u := .int .i64 (-1)) (by omega) (by omega) (by omega) (by omega) hgl.1).set (j := k * 2 + 1) (u := .int .i64 0) (by omega) (by omega) (by omega) (by omega) hgl.1)
        clear hrow hcs hz1 hz2
        go_wp2
        go_roundw
        case rel => exact ⟨k + 1, by omega, by go_num, HN⟩
        case measure => simp [intOf]; omega
      · have hqi : ¬ (k : Int) < (x0.2.length : Int) := by omega
        obtain ⟨_, q1, q2, q3, q4, _, HA, HB, hcc⟩ := hH.out
        obtain ⟨a0, a1, _, _⟩ := cells2 HA
        have K1 := hide (sameExt_any wr _ _ D2 D2 (ownE_rd q1) (ownE_rd q3))
        rw [show sameE D2 D2 = true from by simp [sameE]] at K1
        have K2 : Hid (∀ n, Calls Try.prog 25 #[.slice ab E2.length cb, .slice a6 n6 c6] (wr.drewN n) fun e w' => e = .returned (.bool true) ∧ ∃ m, w' = (wr.drewN n).drewN m) := fun n => by
          have := sameExt_any (wr.drewN n) _ _ E2 E2 ((ownE_rd q2).to0 (below_drewN' _ _ _)) ((ownE_rd q4).to0 (below_drewN' _ _ _))
          rw [show sameE E2 E2 = true from by simp [sameE]] at this
          exact this
        have b1 := (cells2 HB).2.1
        have CC := hide hcc
        clear q1 q2 q3 q4 HA HB hcc hH
        go_wp2_with fail
        refine K1.out.mono ?_
        rintro e wz ⟨rfl, n1, rfl⟩
        clear K1
        go_wp2_with fail
        refine (K2.out n1).mono ?_
        rintro e wz ⟨rfl, n2, rfl⟩
        clear K2
        go_wp2_with fail
        refine (num5_any _ _).mono ?_
        rintro e w' ⟨rfl, rfl⟩
        by_cases her : er = 0
        · have hfr : (fr != 0) = true := by
            have : ¬ fr = 0 := fun hf => hnb.out her hf
            simpa using this
          subst her
          go_wp2_with fail
          refine (num5_any _ _).mono ?_
          rintro e w' ⟨rfl, rfl⟩
          go_wp2
          go_ret
          exact ⟨rfl, CC.out.trans (below_drewN' _ _ _)⟩
        · have hbe : (er != 0) = true := by simpa using her
          replace her := hide her
          go_wp2
          go_ret
          exact ⟨rfl, CC.out.trans (below_drewN' _ _ _)⟩


set_option maxRecDepth 100000 in
theorem lifted (os : Os) (started : os.Started) (H : Type) (enc : TypeId × Value → H) :
    ReturnsInHanded {} Try.checked os 7 .any (Rows.extentOwnSpec.pre6 enc Try.prog Try.f7 Rows.extentOwnRow.domain false) (Rows.extentOwnSpec.post enc Try.prog Try.f7 false true false false) := by
  refine returnsInHanded_of_change_sized (C := Try.checked) own started (by kernel_rfl) Try.func7
    (ChangeSpec.witness6 (enc := enc) (C := Try.checked) false ⟨#[], #[.agg #[.int .i64 0, .slice none 0 0], .agg #[.int .i64 0, .int .i64 0]], []⟩ 8 (by kernel_rfl) (by kernel_rfl) (by kernel_rfl) (by kernel_rfl)) ?_
  intro W base args ds gs before hval0 hW hcnd hsz0 _
  have hsz : (DataW.weightsEach Try.prog (Try.f7.params.toList ++ Rows.extentOwnSpec.plain.varTypes Try.prog) (ds ++ gs)).all (· ≤ reachBytes) = true := hsz0
  have hval : ∀ (j : Nat) t v, Try.f7.params[j]? = some t → args[j]? = some v → Value.okWide Try.prog W .any base t v := hval0
  have hW' := hW
  obtain ⟨p, q, hA0, hV, rfl, hfz, hnd⟩ := hW
  have hA : DataW.TrodAll enc Try.prog W 0 (fun _ => true) true Try.f7.params.toList args.toList ds p := hA0
  rw [Try.params7] at hA hval hsz
  obtain ⟨v0, vs0, d0, ds0, p0, q0, hargs, rfl, rfl, h0, r0⟩ := trodAll_cons hA
  obtain ⟨v1, vs1, d1, ds1, p1, q1, rfl, rfl, rfl, h1, r1⟩ := trodAll_cons r0
  obtain ⟨rfl, rfl, rfl⟩ := trodAll_nil r1
  obtain rfl : args = #[v0, v1] := by cases args; simp_all
  obtain ⟨rfl, rfl⟩ := trodVars_none hV
  obtain ⟨cs0, rfl, _⟩ := okWide_struct Try.underlying24 (hval 0 24 v0 rfl rfl)
  have lt0 : ∀ x ∈ p0, x.block < W.heap.size := by obtain ⟨m, hm⟩ := h0; exact DataW.trod_lt m _ _ _ hm
  have hh0 := h0
  obtain ⟨fu0, hf0⟩ := hh0
  obtain ⟨x0, g0, f0, b0⟩ := open_emap.opened hf0
  obtain ⟨cs1, rfl, _⟩ := okWide_struct Try.underlying26 (hval 1 26 v1 rfl rfl)
  have lt1 : ∀ x ∈ p1, x.block < W.heap.size := by obtain ⟨m, hm⟩ := h1; exact DataW.trod_lt m _ _ _ hm
  have hh1 := h1
  obtain ⟨fu1, hf1⟩ := hh1
  obtain ⟨x1, g1, f1, b1⟩ := open_ext.opened hf1
  have m0 := f0 (reach_of hsz (j := 0) rfl rfl)
  have m1 := f1 (reach_of hsz (j := 1) rfl rfl)
  clear hA0 hval0 hsz0 hsz
  refine (walk W cs0 x0 g0 m0 cs1 x1 g1 m1).mono fun e W' ⟨he, bel⟩ => ?_
  subst he
  exact ⟨_, rfl, _, _, _, [], _, [], hW', trodAll_mk1 (shut_bool Try.underlying4 _), (trodAll_cons_mk (Below.trod laidOut (by kernel_rfl) (of_decide_eq_true (by kernel_rfl)) h0 bel lt0) (trodAll_cons_mk (Below.trod laidOut (by kernel_rfl) (of_decide_eq_true (by kernel_rfl)) h1 bel lt1) trodAll_mk0)), rfl, bel.frame _, fun h => by cases h⟩

theorem over : Rows.extentOwnRow.holds Try.pinned (OpenSpec.ofChange Rows.extentOwnSpec) :=
  OpenClaim.holds_of_wide 7 Try.f7 rfl rfl rfl rfl rfl rfl rfl ⟨rfl, rfl, rfl, rfl, rfl⟩ rfl rfl rfl rfl rfl (by kernel_rfl) Try.func7 (by kernel_rfl)
    (of_decide_eq_true (by kernel_rfl)) (by unfold Func.isWrapper; first | (rw [if_pos (by decide +kernel)]; kernel_rfl) | (rw [if_neg (by decide +kernel)]; exact ⟨rfl, rfl⟩))
    (fun os started H enc _ => lifted os started H enc)

end Go.Proofs.Ytacfcgklncckiaa.extentOwn
namespace Go.Proofs.Ytacfcgklncckiaa
/-- THE STATEMENT -/
theorem extentOwn_holds : Rows.ExtentOwnSaid := extentOwn.over
end Go.Proofs.Ytacfcgklncckiaa
