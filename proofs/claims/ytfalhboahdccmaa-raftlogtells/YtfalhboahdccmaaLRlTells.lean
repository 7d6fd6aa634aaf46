/-
  RaftlogTells's walk, over what the program's calls say: P15.1, P15.3: of any log: its end, terms, entries, what is appended and left behind, are the page's. (Written by gen15l.py.)
-/
import Derived.Test.YtfalhboahdccmaaRlL
import Derived.Test.YtfalhboahdccmaaRlF
import Derived.Deep.CutRange
namespace Go.Proofs.Ytfalhboahdccmaa.raftlogTells
open Go.ChangeShapes Go.WideShapes Go.ChangeAt Go.RowKit
set_option linter.unusedVariables false
set_option linter.unusedSimpArgs false

set_option maxRecDepth 100000 in
set_option maxHeartbeats 8000000 in
theorem walk0 (S : LogSay) (w : World) (cs0 : Array Value) (x0 : Lg3) (g0 : SLg15.rd w cs0.toList x0) (m0 : lg3fit x0) (cs1 : Array Value) (x1 : Wrt) (g1 : SWr.rd w cs1.toList x1) (m1 : enfit x1) (a2 : Int) (h2 : (Lit.int .i64 a2).wf = true) (a3 : Int) (h3 : (Lit.int .i64 a3).wf = true) :
    Calls Try.prog 3 #[.agg cs0, .agg cs1, .int .i64 a2, .int .i64 a3] w fun e w' => e = .returned (.bool true) ∧ Below w.heap.size w w' := by
  have hp1 := hide (wf15 h2)
  have hp2 := hide (wf15 h3)
  clear h2 h3
  obtain ⟨v, hcs, R0, fit⟩ := lg_form g0 m0
  rw [hcs]
  obtain ⟨l, hl⟩ : ∃ l, l = lgOf x0 := ⟨_, rfl⟩
  rw [← hl] at R0 fit ⊢
  clear g0 m0 hcs hl
  obtain ⟨la, lc, rfl⟩ := R0.slice
  replace fit := hide fit
  obtain ⟨dv, hce, Rd1, yfit⟩ := ent_form g1 m1
  rw [hce]
  obtain ⟨yt, yx⟩ := x1
  dsimp only at Rd1 ⊢
  obtain ⟨da, dc, rfl⟩ := Rd1.slice
  replace yfit := hide yfit
  clear hce g1 m1
  have HE : Hid (∀ U, Below w.heap.size w U → Below w.heap.size w U) := fun U b => b
  have HL : Hid (∀ U, Below w.heap.size w U → RdC U (.slice la l.es.length lc) l.es) := fun U b => R0.to0 b
  have HD : Hid (∀ U, Below w.heap.size w U → Rd U (.slice da yx.length dc) yx) := fun U b => Rd1.to b
  clear R0 Rd1
  dsimp only [lv]
  obtain ⟨⟨x1, x2, x3⟩, hR0⟩ : ∃ R, llast l = R := ⟨_, rfl⟩
  replace hR0 := hide hR0
  obtain ⟨⟨y1, y2⟩, hR1⟩ : ∃ R, ltold l a2 = R := ⟨_, rfl⟩
  replace hR1 := hide hR1
  obtain ⟨⟨u1, u2⟩, hR2⟩ : ∃ R, lapp l (yt, yx) = R := ⟨_, rfl⟩
  replace hR2 := hide hR2
  obtain ⟨⟨f1, f2⟩, hR3⟩ : ∃ R, lfrom l a2 a3 = R := ⟨_, rfl⟩
  replace hR3 := hide hR3
  obtain ⟨⟨k1, k2⟩, hR4⟩ : ∃ R, lcomp l a2 = R := ⟨_, rfl⟩
  replace hR4 := hide hR4
  have hq_x1 : (x1 != x1) = false := by simp
  have hq_x2 : (x2 != x2) = false := by simp
  have hq_x3 : (x3 != x3) = false := by simp
  have hq_y1 : (y1 != y1) = false := by simp
  have hq_y2 : (y2 != y2) = false := by simp
  have hq_u2 : (u2 != u2) = false := by simp
  have hq_f2 : (f2 != f2) = false := by simp
  have hq_k2 : (k2 != k2) = false := by simp
  obtain ⟨ck, hck⟩ : ∃ c, lcheck l = c := ⟨_, rfl⟩
  replace hck := hide hck
  have hq_c : (ck == ck) = true := by simp
  go_enter Try.func3, Try.ntmps3
  obtain ⟨Y1, hY1, DY1, bY1, sY1⟩ := boxedN w #[.int .i64 l.base, .int .i64 l.bt, .slice la l.es.length lc] 24
  replace HE := hide (fun U (b : Below Y1.heap.size Y1 U) => HE.out U (bY1.trans (b.mono bY1.size)))
  replace HL := hide (fun U (b : Below Y1.heap.size Y1 U) => HL.out U (bY1.trans (b.mono bY1.size)))
  replace HD := hide (fun U (b : Below Y1.heap.size Y1 U) => HD.out U (bY1.trans (b.mono bY1.size)))
  have X0 : Hid (∀ U, Below Y1.heap.size Y1 U → U.heap[w.heap.size]? = some (.cells #[.int .i64 l.base, .int .i64 l.bt, .slice la l.es.length lc] 24 (0, 0))) := fun U b => (b.block _ (lt_of_block DY1)).trans DY1
  clear DY1 bY1
  obtain ⟨Y2, hY2, DY2, bY2, sY2⟩ := boxedN Y1 #[.int .i64 yt, .slice da yx.length dc] 27
  rw [sY1] at DY2
  replace HE := hide (fun U (b : Below Y2.heap.size Y2 U) => HE.out U (bY2.trans (b.mono bY2.size)))
  replace HL := hide (fun U (b : Below Y2.heap.size Y2 U) => HL.out U (bY2.trans (b.mono bY2.size)))
  replace HD := hide (fun U (b : Below Y2.heap.size Y2 U) => HD.out U (bY2.trans (b.mono bY2.size)))
  replace X0 := hide (fun U (b : Below Y2.heap.size Y2 U) => X0.out U (bY2.trans (b.mono bY2.size)))
  have XE : Hid (∀ U, Below Y2.heap.size Y2 U → U.heap[w.heap.size + 1]? = some (.cells #[.int .i64 yt, .slice da yx.length dc] 27 (0, 0))) := fun U b => (b.block _ (lt_of_block DY2)).trans DY2
  clear DY2 bY2
  have K := of15_any _ l _ (HL.out _ (Below.refl _ _)) fit.out.e.f1 fit.out.e.f2
  dsimp only [lv] at K
  replace K := hide K
  clear sY1
  clear sY2
  obtain ⟨⟨q3_0, q3_1, q3_2⟩, _⟩ := cells3l (X0.out _ (Below.refl _ _))
  try rw [hY2] at q3_0 q3_1 q3_2
  try rw [hY1] at q3_0 q3_1 q3_2
  go_wp2_with fail
  rw [← hY1]
  rw [← hY2]
  replace hY1 := hide hY1
  replace hY2 := hide hY2
  refine K.out.mono ?_
  rintro e wz4 ⟨v1, rfl, o1, bb⟩
  obtain ⟨b1, c1, rfl⟩ := o1.rdS.slice
  clear K q3_0 q3_1 q3_2
  replace HE := hide (fun U (b : Below wz4.heap.size wz4 U) => HE.out U (bb.trans (b.mono bb.size)))
  replace HL := hide (fun U (b : Below wz4.heap.size wz4 U) => HL.out U (bb.trans (b.mono bb.size)))
  replace HD := hide (fun U (b : Below wz4.heap.size wz4 U) => HD.out U (bb.trans (b.mono bb.size)))
  replace X0 := hide (fun U (b : Below wz4.heap.size wz4 U) => X0.out U (bb.trans (b.mono bb.size)))
  replace XE := hide (fun U (b : Below wz4.heap.size wz4 U) => XE.out U (bb.trans (b.mono bb.size)))
  have H1 : Hid (∀ U, Below wz4.heap.size wz4 U → RdC U (.slice b1 l.es.length c1) l.es) := fun U b => o1.rdS.to0 b
  clear o1 bb
  obtain ⟨Y5, hY5, DY5, bY5, sY5⟩ := boxedN wz4 #[.int .i64 l.base, .int .i64 l.bt, .slice b1 l.es.length c1] 28
  replace HE := hide (fun U (b : Below Y5.heap.size Y5 U) => HE.out U (bY5.trans (b.mono bY5.size)))
  replace HL := hide (fun U (b : Below Y5.heap.size Y5 U) => HL.out U (bY5.trans (b.mono bY5.size)))
  replace HD := hide (fun U (b : Below Y5.heap.size Y5 U) => HD.out U (bY5.trans (b.mono bY5.size)))
  replace X0 := hide (fun U (b : Below Y5.heap.size Y5 U) => X0.out U (bY5.trans (b.mono bY5.size)))
  replace XE := hide (fun U (b : Below Y5.heap.size Y5 U) => XE.out U (bY5.trans (b.mono bY5.size)))
  replace H1 := hide (fun U (b : Below Y5.heap.size Y5 U) => H1.out U (bY5.trans (b.mono bY5.size)))
  have X1 : Hid (∀ U, Below Y5.heap.size Y5 U → U.heap[wz4.heap.size]? = some (.cells #[.int .i64 l.base, .int .i64 l.bt, .slice b1 l.es.length c1] 28 (0, 0))) := fun U b => (b.block _ (lt_of_block DY5)).trans DY5
  clear DY5 bY5
  have K := (show Calls _ _ _ _ _ from by have k := S.last _ l _ (H1.out _ (Below.refl _ _)) fit.out; rw [hR0.out] at k; exact k)
  dsimp only [lv] at K
  replace K := hide K
  clear sY5
  obtain ⟨⟨q6_0, q6_1, q6_2⟩, _⟩ := cells3l (X1.out _ (Below.refl _ _))
  try rw [hY5] at q6_0 q6_1 q6_2
  go_wp2_with fail
  rw [← hY5]
  replace hY5 := hide hY5
  refine K.out.mono ?_
  rintro e wz7 ⟨rfl, bb⟩
  clear K q6_0 q6_1 q6_2
  replace HE := hide (fun U (b : Below wz7.heap.size wz7 U) => HE.out U (bb.trans (b.mono bb.size)))
  replace HL := hide (fun U (b : Below wz7.heap.size wz7 U) => HL.out U (bb.trans (b.mono bb.size)))
  replace HD := hide (fun U (b : Below wz7.heap.size wz7 U) => HD.out U (bb.trans (b.mono bb.size)))
  replace X0 := hide (fun U (b : Below wz7.heap.size wz7 U) => X0.out U (bb.trans (b.mono bb.size)))
  replace XE := hide (fun U (b : Below wz7.heap.size wz7 U) => XE.out U (bb.trans (b.mono bb.size)))
  replace H1 := hide (fun U (b : Below wz7.heap.size wz7 U) => H1.out U (bb.trans (b.mono bb.size)))
  replace X1 := hide (fun U (b : Below wz7.heap.size wz7 U) => X1.out U (bb.trans (b.mono bb.size)))
  clear bb
  have K := (show Calls _ _ _ _ _ from by have k := rlast15_any _ l _ (HL.out _ (Below.refl _ _)); rw [hR0.out] at k; exact k)
  dsimp only [lv] at K
  replace K := hide K
  obtain ⟨⟨q8_0, q8_1, q8_2⟩, _⟩ := cells3l (X0.out _ (Below.refl _ _))
  go_wp2_with fail
  refine K.out.mono ?_
  rintro e wz9 ⟨rfl, bb⟩
  clear K q8_0 q8_1 q8_2
  replace HE := hide (fun U (b : Below wz9.heap.size wz9 U) => HE.out U (bb.trans (b.mono bb.size)))
  replace HL := hide (fun U (b : Below wz9.heap.size wz9 U) => HL.out U (bb.trans (b.mono bb.size)))
  replace HD := hide (fun U (b : Below wz9.heap.size wz9 U) => HD.out U (bb.trans (b.mono bb.size)))
  replace X0 := hide (fun U (b : Below wz9.heap.size wz9 U) => X0.out U (bb.trans (b.mono bb.size)))
  replace XE := hide (fun U (b : Below wz9.heap.size wz9 U) => XE.out U (bb.trans (b.mono bb.size)))
  replace H1 := hide (fun U (b : Below wz9.heap.size wz9 U) => H1.out U (bb.trans (b.mono bb.size)))
  replace X1 := hide (fun U (b : Below wz9.heap.size wz9 U) => X1.out U (bb.trans (b.mono bb.size)))
  clear bb
  have K := (show Calls _ _ _ _ _ from by have k := S.told _ l _ a2 (H1.out _ (Below.refl _ _)) fit.out hp1.out; rw [hR1.out] at k; exact k)
  dsimp only [lv] at K
  replace K := hide K
  obtain ⟨⟨q10_0, q10_1, q10_2⟩, _⟩ := cells3l (X1.out _ (Below.refl _ _))
  go_wp2_with fail
  refine K.out.mono ?_
  rintro e wz11 ⟨rfl, bb⟩
  clear K q10_0 q10_1 q10_2
  replace HE := hide (fun U (b : Below wz11.heap.size wz11 U) => HE.out U (bb.trans (b.mono bb.size)))
  replace HL := hide (fun U (b : Below wz11.heap.size wz11 U) => HL.out U (bb.trans (b.mono bb.size)))
  replace HD := hide (fun U (b : Below wz11.heap.size wz11 U) => HD.out U (bb.trans (b.mono bb.size)))
  replace X0 := hide (fun U (b : Below wz11.heap.size wz11 U) => X0.out U (bb.trans (b.mono bb.size)))
  replace XE := hide (fun U (b : Below wz11.heap.size wz11 U) => XE.out U (bb.trans (b.mono bb.size)))
  replace H1 := hide (fun U (b : Below wz11.heap.size wz11 U) => H1.out U (bb.trans (b.mono bb.size)))
  replace X1 := hide (fun U (b : Below wz11.heap.size wz11 U) => X1.out U (bb.trans (b.mono bb.size)))
  clear bb
  have K := (show Calls _ _ _ _ _ from by have k := rtold15_any _ l _ a2 (HL.out _ (Below.refl _ _)); rw [hR1.out] at k; exact k)
  dsimp only [lv] at K
  replace K := hide K
  obtain ⟨⟨q12_0, q12_1, q12_2⟩, _⟩ := cells3l (X0.out _ (Below.refl _ _))
  go_wp2_with fail
  refine K.out.mono ?_
  rintro e wz13 ⟨rfl, bb⟩
  clear K q12_0 q12_1 q12_2
  replace HE := hide (fun U (b : Below wz13.heap.size wz13 U) => HE.out U (bb.trans (b.mono bb.size)))
  replace HL := hide (fun U (b : Below wz13.heap.size wz13 U) => HL.out U (bb.trans (b.mono bb.size)))
  replace HD := hide (fun U (b : Below wz13.heap.size wz13 U) => HD.out U (bb.trans (b.mono bb.size)))
  replace X0 := hide (fun U (b : Below wz13.heap.size wz13 U) => X0.out U (bb.trans (b.mono bb.size)))
  replace XE := hide (fun U (b : Below wz13.heap.size wz13 U) => XE.out U (bb.trans (b.mono bb.size)))
  replace H1 := hide (fun U (b : Below wz13.heap.size wz13 U) => H1.out U (bb.trans (b.mono bb.size)))
  replace X1 := hide (fun U (b : Below wz13.heap.size wz13 U) => X1.out U (bb.trans (b.mono bb.size)))
  clear bb
  have K := (show Calls _ _ _ _ _ from by have k := S.app _ l _ (yt, yx) _ (H1.out _ (Below.refl _ _)) fit.out (HD.out _ (Below.refl _ _)) yfit.out; rw [hR2.out] at k; exact k)
  dsimp only [lv] at K
  replace K := hide K
  obtain ⟨⟨q14_0, q14_1, q14_2⟩, _⟩ := cells3l (X1.out _ (Below.refl _ _))
  obtain ⟨⟨q15_0, q15_1⟩, _⟩ := cells2l (XE.out _ (Below.refl _ _))
  go_wp2_with fail
  refine K.out.mono ?_
  rintro e wz16 ⟨v2, rfl, o2, bb⟩
  obtain ⟨b2, c2, rfl⟩ := o2.rdS.slice
  clear K q14_0 q14_1 q14_2 q15_0 q15_1
  replace HE := hide (fun U (b : Below wz16.heap.size wz16 U) => HE.out U (bb.trans (b.mono bb.size)))
  replace HL := hide (fun U (b : Below wz16.heap.size wz16 U) => HL.out U (bb.trans (b.mono bb.size)))
  replace HD := hide (fun U (b : Below wz16.heap.size wz16 U) => HD.out U (bb.trans (b.mono bb.size)))
  replace X0 := hide (fun U (b : Below wz16.heap.size wz16 U) => X0.out U (bb.trans (b.mono bb.size)))
  replace XE := hide (fun U (b : Below wz16.heap.size wz16 U) => XE.out U (bb.trans (b.mono bb.size)))
  replace H1 := hide (fun U (b : Below wz16.heap.size wz16 U) => H1.out U (bb.trans (b.mono bb.size)))
  replace X1 := hide (fun U (b : Below wz16.heap.size wz16 U) => X1.out U (bb.trans (b.mono bb.size)))
  have H2 : Hid (∀ U, Below wz16.heap.size wz16 U → RdC U (.slice b2 u1.es.length c2) u1.es) := fun U b => o2.rdS.to0 b
  clear o2 bb
  obtain ⟨Y17, hY17, DY17, bY17, sY17⟩ := boxedN wz16 #[.int .i64 u1.base, .int .i64 u1.bt, .slice b2 u1.es.length c2] 28
  replace HE := hide (fun U (b : Below Y17.heap.size Y17 U) => HE.out U (bY17.trans (b.mono bY17.size)))
  replace HL := hide (fun U (b : Below Y17.heap.size Y17 U) => HL.out U (bY17.trans (b.mono bY17.size)))
  replace HD := hide (fun U (b : Below Y17.heap.size Y17 U) => HD.out U (bY17.trans (b.mono bY17.size)))
  replace X0 := hide (fun U (b : Below Y17.heap.size Y17 U) => X0.out U (bY17.trans (b.mono bY17.size)))
  replace XE := hide (fun U (b : Below Y17.heap.size Y17 U) => XE.out U (bY17.trans (b.mono bY17.size)))
  replace H1 := hide (fun U (b : Below Y17.heap.size Y17 U) => H1.out U (bY17.trans (b.mono bY17.size)))
  replace X1 := hide (fun U (b : Below Y17.heap.size Y17 U) => X1.out U (bY17.trans (b.mono bY17.size)))
  replace H2 := hide (fun U (b : Below Y17.heap.size Y17 U) => H2.out U (bY17.trans (b.mono bY17.size)))
  have X2 : Hid (∀ U, Below Y17.heap.size Y17 U → U.heap[wz16.heap.size]? = some (.cells #[.int .i64 u1.base, .int .i64 u1.bt, .slice b2 u1.es.length c2] 28 (0, 0))) := fun U b => (b.block _ (lt_of_block DY17)).trans DY17
  clear DY17 bY17
  have K := (show Calls _ _ _ _ _ from by have k := rapp15_any _ l _ (yt, yx) _ (HL.out _ (Below.refl _ _)) (HD.out _ (Below.refl _ _)); rw [hR2.out] at k; exact k)
  dsimp only [lv, ev] at K
  replace K := hide K
  clear sY17
  obtain ⟨⟨q18_0, q18_1, q18_2⟩, _⟩ := cells3l (X0.out _ (Below.refl _ _))
  obtain ⟨⟨q19_0, q19_1⟩, _⟩ := cells2l (XE.out _ (Below.refl _ _))
  try rw [hY17] at q18_0 q18_1 q18_2 q19_0 q19_1
  go_wp2_with fail
  rw [← hY17]
  replace hY17 := hide hY17
  refine K.out.mono ?_
  rintro e wz20 ⟨v3, rfl, o3, bb⟩
  obtain ⟨b3, c3, rfl⟩ := o3.rdS.slice
  clear K q18_0 q18_1 q18_2 q19_0 q19_1
  replace HE := hide (fun U (b : Below wz20.heap.size wz20 U) => HE.out U (bb.trans (b.mono bb.size)))
  replace HL := hide (fun U (b : Below wz20.heap.size wz20 U) => HL.out U (bb.trans (b.mono bb.size)))
  replace HD := hide (fun U (b : Below wz20.heap.size wz20 U) => HD.out U (bb.trans (b.mono bb.size)))
  replace X0 := hide (fun U (b : Below wz20.heap.size wz20 U) => X0.out U (bb.trans (b.mono bb.size)))
  replace XE := hide (fun U (b : Below wz20.heap.size wz20 U) => XE.out U (bb.trans (b.mono bb.size)))
  replace H1 := hide (fun U (b : Below wz20.heap.size wz20 U) => H1.out U (bb.trans (b.mono bb.size)))
  replace X1 := hide (fun U (b : Below wz20.heap.size wz20 U) => X1.out U (bb.trans (b.mono bb.size)))
  replace H2 := hide (fun U (b : Below wz20.heap.size wz20 U) => H2.out U (bb.trans (b.mono bb.size)))
  replace X2 := hide (fun U (b : Below wz20.heap.size wz20 U) => X2.out U (bb.trans (b.mono bb.size)))
  have H3 : Hid (∀ U, Below wz20.heap.size wz20 U → RdC U (.slice b3 u1.es.length c3) u1.es) := fun U b => o3.rdS.to0 b
  clear o3 bb
  obtain ⟨Y21, hY21, DY21, bY21, sY21⟩ := boxedN wz20 #[.int .i64 u1.base, .int .i64 u1.bt, .slice b3 u1.es.length c3] 24
  replace HE := hide (fun U (b : Below Y21.heap.size Y21 U) => HE.out U (bY21.trans (b.mono bY21.size)))
  replace HL := hide (fun U (b : Below Y21.heap.size Y21 U) => HL.out U (bY21.trans (b.mono bY21.size)))
  replace HD := hide (fun U (b : Below Y21.heap.size Y21 U) => HD.out U (bY21.trans (b.mono bY21.size)))
  replace X0 := hide (fun U (b : Below Y21.heap.size Y21 U) => X0.out U (bY21.trans (b.mono bY21.size)))
  replace XE := hide (fun U (b : Below Y21.heap.size Y21 U) => XE.out U (bY21.trans (b.mono bY21.size)))
  replace H1 := hide (fun U (b : Below Y21.heap.size Y21 U) => H1.out U (bY21.trans (b.mono bY21.size)))
  replace X1 := hide (fun U (b : Below Y21.heap.size Y21 U) => X1.out U (bY21.trans (b.mono bY21.size)))
  replace H2 := hide (fun U (b : Below Y21.heap.size Y21 U) => H2.out U (bY21.trans (b.mono bY21.size)))
  replace X2 := hide (fun U (b : Below Y21.heap.size Y21 U) => X2.out U (bY21.trans (b.mono bY21.size)))
  replace H3 := hide (fun U (b : Below Y21.heap.size Y21 U) => H3.out U (bY21.trans (b.mono bY21.size)))
  have X3 : Hid (∀ U, Below Y21.heap.size Y21 U → U.heap[wz20.heap.size]? = some (.cells #[.int .i64 u1.base, .int .i64 u1.bt, .slice b3 u1.es.length c3] 24 (0, 0))) := fun U b => (b.block _ (lt_of_block DY21)).trans DY21
  clear DY21 bY21
  have K := (show Calls _ _ _ _ _ from by have k := S.frm _ l _ a2 a3 (H1.out _ (Below.refl _ _)) fit.out hp1.out hp2.out; rw [hR3.out] at k; exact k)
  dsimp only [lv] at K
  replace K := hide K
  clear sY21
  obtain ⟨⟨q22_0, q22_1, q22_2⟩, _⟩ := cells3l (X1.out _ (Below.refl _ _))
  try rw [hY21] at q22_0 q22_1 q22_2
  go_wp2_with fail
  rw [← hY21]
  replace hY21 := hide hY21
  refine K.out.mono ?_
  rintro e wz23 ⟨v4, rfl, o4, bb⟩
  obtain ⟨b4, c4, rfl⟩ := o4.rdS.slice
  clear K q22_0 q22_1 q22_2
  replace HE := hide (fun U (b : Below wz23.heap.size wz23 U) => HE.out U (bb.trans (b.mono bb.size)))
  replace HL := hide (fun U (b : Below wz23.heap.size wz23 U) => HL.out U (bb.trans (b.mono bb.size)))
  replace HD := hide (fun U (b : Below wz23.heap.size wz23 U) => HD.out U (bb.trans (b.mono bb.size)))
  replace X0 := hide (fun U (b : Below wz23.heap.size wz23 U) => X0.out U (bb.trans (b.mono bb.size)))
  replace XE := hide (fun U (b : Below wz23.heap.size wz23 U) => XE.out U (bb.trans (b.mono bb.size)))
  replace H1 := hide (fun U (b : Below wz23.heap.size wz23 U) => H1.out U (bb.trans (b.mono bb.size)))
  replace X1 := hide (fun U (b : Below wz23.heap.size wz23 U) => X1.out U (bb.trans (b.mono bb.size)))
  replace H2 := hide (fun U (b : Below wz23.heap.size wz23 U) => H2.out U (bb.trans (b.mono bb.size)))
  replace X2 := hide (fun U (b : Below wz23.heap.size wz23 U) => X2.out U (bb.trans (b.mono bb.size)))
  replace H3 := hide (fun U (b : Below wz23.heap.size wz23 U) => H3.out U (bb.trans (b.mono bb.size)))
  replace X3 := hide (fun U (b : Below wz23.heap.size wz23 U) => X3.out U (bb.trans (b.mono bb.size)))
  have H4 : Hid (∀ U, Below wz23.heap.size wz23 U → RdC U (.slice b4 f1.length c4) f1) := fun U b => o4.rdS.to0 b
  clear o4 bb
  have K := (show Calls _ _ _ _ _ from by have k := rfrom15_any _ l _ a2 a3 (HL.out _ (Below.refl _ _)); rw [hR3.out] at k; exact k)
  dsimp only [lv] at K
  replace K := hide K
  obtain ⟨⟨q24_0, q24_1, q24_2⟩, _⟩ := cells3l (X0.out _ (Below.refl _ _))
  go_wp2_with fail
  refine K.out.mono ?_
  rintro e wz25 ⟨v5, rfl, o5, bb⟩
  obtain ⟨b5, c5, rfl⟩ := o5.rdS.slice
  clear K q24_0 q24_1 q24_2
  replace HE := hide (fun U (b : Below wz25.heap.size wz25 U) => HE.out U (bb.trans (b.mono bb.size)))
  replace HL := hide (fun U (b : Below wz25.heap.size wz25 U) => HL.out U (bb.trans (b.mono bb.size)))
  replace HD := hide (fun U (b : Below wz25.heap.size wz25 U) => HD.out U (bb.trans (b.mono bb.size)))
  replace X0 := hide (fun U (b : Below wz25.heap.size wz25 U) => X0.out U (bb.trans (b.mono bb.size)))
  replace XE := hide (fun U (b : Below wz25.heap.size wz25 U) => XE.out U (bb.trans (b.mono bb.size)))
  replace H1 := hide (fun U (b : Below wz25.heap.size wz25 U) => H1.out U (bb.trans (b.mono bb.size)))
  replace X1 := hide (fun U (b : Below wz25.heap.size wz25 U) => X1.out U (bb.trans (b.mono bb.size)))
  replace H2 := hide (fun U (b : Below wz25.heap.size wz25 U) => H2.out U (bb.trans (b.mono bb.size)))
  replace X2 := hide (fun U (b : Below wz25.heap.size wz25 U) => X2.out U (bb.trans (b.mono bb.size)))
  replace H3 := hide (fun U (b : Below wz25.heap.size wz25 U) => H3.out U (bb.trans (b.mono bb.size)))
  replace X3 := hide (fun U (b : Below wz25.heap.size wz25 U) => X3.out U (bb.trans (b.mono bb.size)))
  replace H4 := hide (fun U (b : Below wz25.heap.size wz25 U) => H4.out U (bb.trans (b.mono bb.size)))
  have H5 : Hid (∀ U, Below wz25.heap.size wz25 U → RdC U (.slice b5 f1.length c5) f1) := fun U b => o5.rdS.to0 b
  clear o5 bb
  have K := (show Calls _ _ _ _ _ from by have k := S.cmp _ l _ a2 (H1.out _ (Below.refl _ _)) fit.out hp1.out; rw [hR4.out] at k; exact k)
  dsimp only [lv] at K
  replace K := hide K
  obtain ⟨⟨q26_0, q26_1, q26_2⟩, _⟩ := cells3l (X1.out _ (Below.refl _ _))
  go_wp2_with fail
  refine K.out.mono ?_
  rintro e wz27 ⟨v6, rfl, o6, bb⟩
  obtain ⟨b6, c6, rfl⟩ := o6.rdS.slice
  clear K q26_0 q26_1 q26_2
  replace HE := hide (fun U (b : Below wz27.heap.size wz27 U) => HE.out U (bb.trans (b.mono bb.size)))
  replace HL := hide (fun U (b : Below wz27.heap.size wz27 U) => HL.out U (bb.trans (b.mono bb.size)))
  replace HD := hide (fun U (b : Below wz27.heap.size wz27 U) => HD.out U (bb.trans (b.mono bb.size)))
  replace X0 := hide (fun U (b : Below wz27.heap.size wz27 U) => X0.out U (bb.trans (b.mono bb.size)))
  replace XE := hide (fun U (b : Below wz27.heap.size wz27 U) => XE.out U (bb.trans (b.mono bb.size)))
  replace H1 := hide (fun U (b : Below wz27.heap.size wz27 U) => H1.out U (bb.trans (b.mono bb.size)))
  replace X1 := hide (fun U (b : Below wz27.heap.size wz27 U) => X1.out U (bb.trans (b.mono bb.size)))
  replace H2 := hide (fun U (b : Below wz27.heap.size wz27 U) => H2.out U (bb.trans (b.mono bb.size)))
  replace X2 := hide (fun U (b : Below wz27.heap.size wz27 U) => X2.out U (bb.trans (b.mono bb.size)))
  replace H3 := hide (fun U (b : Below wz27.heap.size wz27 U) => H3.out U (bb.trans (b.mono bb.size)))
  replace X3 := hide (fun U (b : Below wz27.heap.size wz27 U) => X3.out U (bb.trans (b.mono bb.size)))
  replace H4 := hide (fun U (b : Below wz27.heap.size wz27 U) => H4.out U (bb.trans (b.mono bb.size)))
  replace H5 := hide (fun U (b : Below wz27.heap.size wz27 U) => H5.out U (bb.trans (b.mono bb.size)))
  have H6 : Hid (∀ U, Below wz27.heap.size wz27 U → RdC U (.slice b6 k1.es.length c6) k1.es) := fun U b => o6.rdS.to0 b
  clear o6 bb
  obtain ⟨Y28, hY28, DY28, bY28, sY28⟩ := boxedN wz27 #[.int .i64 k1.base, .int .i64 k1.bt, .slice b6 k1.es.length c6] 28
  replace HE := hide (fun U (b : Below Y28.heap.size Y28 U) => HE.out U (bY28.trans (b.mono bY28.size)))
  replace HL := hide (fun U (b : Below Y28.heap.size Y28 U) => HL.out U (bY28.trans (b.mono bY28.size)))
  replace HD := hide (fun U (b : Below Y28.heap.size Y28 U) => HD.out U (bY28.trans (b.mono bY28.size)))
  replace X0 := hide (fun U (b : Below Y28.heap.size Y28 U) => X0.out U (bY28.trans (b.mono bY28.size)))
  replace XE := hide (fun U (b : Below Y28.heap.size Y28 U) => XE.out U (bY28.trans (b.mono bY28.size)))
  replace H1 := hide (fun U (b : Below Y28.heap.size Y28 U) => H1.out U (bY28.trans (b.mono bY28.size)))
  replace X1 := hide (fun U (b : Below Y28.heap.size Y28 U) => X1.out U (bY28.trans (b.mono bY28.size)))
  replace H2 := hide (fun U (b : Below Y28.heap.size Y28 U) => H2.out U (bY28.trans (b.mono bY28.size)))
  replace X2 := hide (fun U (b : Below Y28.heap.size Y28 U) => X2.out U (bY28.trans (b.mono bY28.size)))
  replace H3 := hide (fun U (b : Below Y28.heap.size Y28 U) => H3.out U (bY28.trans (b.mono bY28.size)))
  replace X3 := hide (fun U (b : Below Y28.heap.size Y28 U) => X3.out U (bY28.trans (b.mono bY28.size)))
  replace H4 := hide (fun U (b : Below Y28.heap.size Y28 U) => H4.out U (bY28.trans (b.mono bY28.size)))
  replace H5 := hide (fun U (b : Below Y28.heap.size Y28 U) => H5.out U (bY28.trans (b.mono bY28.size)))
  replace H6 := hide (fun U (b : Below Y28.heap.size Y28 U) => H6.out U (bY28.trans (b.mono bY28.size)))
  have X6 : Hid (∀ U, Below Y28.heap.size Y28 U → U.heap[wz27.heap.size]? = some (.cells #[.int .i64 k1.base, .int .i64 k1.bt, .slice b6 k1.es.length c6] 28 (0, 0))) := fun U b => (b.block _ (lt_of_block DY28)).trans DY28
  clear DY28 bY28
  have K := (show Calls _ _ _ _ _ from by have k := rcomp15_any _ l _ a2 (HL.out _ (Below.refl _ _)); rw [hR4.out] at k; exact k)
  dsimp only [lv] at K
  replace K := hide K
  clear sY28
  obtain ⟨⟨q29_0, q29_1, q29_2⟩, _⟩ := cells3l (X0.out _ (Below.refl _ _))
  try rw [hY28] at q29_0 q29_1 q29_2
  go_wp2_with fail
  rw [← hY28]
  replace hY28 := hide hY28
  refine K.out.mono ?_
  rintro e wz30 ⟨v7, rfl, o7, bb⟩
  obtain ⟨b7, c7, rfl⟩ := o7.rdS.slice
  clear K q29_0 q29_1 q29_2
  replace HE := hide (fun U (b : Below wz30.heap.size wz30 U) => HE.out U (bb.trans (b.mono bb.size)))
  replace HL := hide (fun U (b : Below wz30.heap.size wz30 U) => HL.out U (bb.trans (b.mono bb.size)))
  replace HD := hide (fun U (b : Below wz30.heap.size wz30 U) => HD.out U (bb.trans (b.mono bb.size)))
  replace X0 := hide (fun U (b : Below wz30.heap.size wz30 U) => X0.out U (bb.trans (b.mono bb.size)))
  replace XE := hide (fun U (b : Below wz30.heap.size wz30 U) => XE.out U (bb.trans (b.mono bb.size)))
  replace H1 := hide (fun U (b : Below wz30.heap.size wz30 U) => H1.out U (bb.trans (b.mono bb.size)))
  replace X1 := hide (fun U (b : Below wz30.heap.size wz30 U) => X1.out U (bb.trans (b.mono bb.size)))
  replace H2 := hide (fun U (b : Below wz30.heap.size wz30 U) => H2.out U (bb.trans (b.mono bb.size)))
  replace X2 := hide (fun U (b : Below wz30.heap.size wz30 U) => X2.out U (bb.trans (b.mono bb.size)))
  replace H3 := hide (fun U (b : Below wz30.heap.size wz30 U) => H3.out U (bb.trans (b.mono bb.size)))
  replace X3 := hide (fun U (b : Below wz30.heap.size wz30 U) => X3.out U (bb.trans (b.mono bb.size)))
  replace H4 := hide (fun U (b : Below wz30.heap.size wz30 U) => H4.out U (bb.trans (b.mono bb.size)))
  replace H5 := hide (fun U (b : Below wz30.heap.size wz30 U) => H5.out U (bb.trans (b.mono bb.size)))
  replace H6 := hide (fun U (b : Below wz30.heap.size wz30 U) => H6.out U (bb.trans (b.mono bb.size)))
  replace X6 := hide (fun U (b : Below wz30.heap.size wz30 U) => X6.out U (bb.trans (b.mono bb.size)))
  have H7 : Hid (∀ U, Below wz30.heap.size wz30 U → RdC U (.slice b7 k1.es.length c7) k1.es) := fun U b => o7.rdS.to0 b
  clear o7 bb
  obtain ⟨Y31, hY31, DY31, bY31, sY31⟩ := boxedN wz30 #[.int .i64 k1.base, .int .i64 k1.bt, .slice b7 k1.es.length c7] 24
  replace HE := hide (fun U (b : Below Y31.heap.size Y31 U) => HE.out U (bY31.trans (b.mono bY31.size)))
  replace HL := hide (fun U (b : Below Y31.heap.size Y31 U) => HL.out U (bY31.trans (b.mono bY31.size)))
  replace HD := hide (fun U (b : Below Y31.heap.size Y31 U) => HD.out U (bY31.trans (b.mono bY31.size)))
  replace X0 := hide (fun U (b : Below Y31.heap.size Y31 U) => X0.out U (bY31.trans (b.mono bY31.size)))
  replace XE := hide (fun U (b : Below Y31.heap.size Y31 U) => XE.out U (bY31.trans (b.mono bY31.size)))
  replace H1 := hide (fun U (b : Below Y31.heap.size Y31 U) => H1.out U (bY31.trans (b.mono bY31.size)))
  replace X1 := hide (fun U (b : Below Y31.heap.size Y31 U) => X1.out U (bY31.trans (b.mono bY31.size)))
  replace H2 := hide (fun U (b : Below Y31.heap.size Y31 U) => H2.out U (bY31.trans (b.mono bY31.size)))
  replace X2 := hide (fun U (b : Below Y31.heap.size Y31 U) => X2.out U (bY31.trans (b.mono bY31.size)))
  replace H3 := hide (fun U (b : Below Y31.heap.size Y31 U) => H3.out U (bY31.trans (b.mono bY31.size)))
  replace X3 := hide (fun U (b : Below Y31.heap.size Y31 U) => X3.out U (bY31.trans (b.mono bY31.size)))
  replace H4 := hide (fun U (b : Below Y31.heap.size Y31 U) => H4.out U (bY31.trans (b.mono bY31.size)))
  replace H5 := hide (fun U (b : Below Y31.heap.size Y31 U) => H5.out U (bY31.trans (b.mono bY31.size)))
  replace H6 := hide (fun U (b : Below Y31.heap.size Y31 U) => H6.out U (bY31.trans (b.mono bY31.size)))
  replace X6 := hide (fun U (b : Below Y31.heap.size Y31 U) => X6.out U (bY31.trans (b.mono bY31.size)))
  replace H7 := hide (fun U (b : Below Y31.heap.size Y31 U) => H7.out U (bY31.trans (b.mono bY31.size)))
  have X7 : Hid (∀ U, Below Y31.heap.size Y31 U → U.heap[wz30.heap.size]? = some (.cells #[.int .i64 k1.base, .int .i64 k1.bt, .slice b7 k1.es.length c7] 24 (0, 0))) := fun U b => (b.block _ (lt_of_block DY31)).trans DY31
  clear DY31 bY31
  clear sY31
  go_wp2_with fail
  rw [← hY31]
  replace hY31 := hide hY31
  refine (num15_any _ _).mono ?_
  rintro e w' ⟨rfl, rfl⟩
  go_wp2_with fail
  refine (num15_any _ _).mono ?_
  rintro e w' ⟨rfl, rfl⟩
  have K := alike15_any _ u1 _ _ (H2.out _ (Below.refl _ _)) (H3.out _ (Below.refl _ _))
  dsimp only [lv] at K
  replace K := hide K
  obtain ⟨⟨q32_0, q32_1, q32_2⟩, _⟩ := cells3l (X2.out _ (Below.refl _ _))
  obtain ⟨⟨q33_0, q33_1, q33_2⟩, _⟩ := cells3l (X3.out _ (Below.refl _ _))
  go_wp2_with fail
  refine K.out.mono ?_
  rintro e wz34 ⟨rfl, bb⟩
  clear K q32_0 q32_1 q32_2 q33_0 q33_1 q33_2
  replace HE := hide (fun U (b : Below wz34.heap.size wz34 U) => HE.out U (bb.trans (b.mono bb.size)))
  replace HL := hide (fun U (b : Below wz34.heap.size wz34 U) => HL.out U (bb.trans (b.mono bb.size)))
  replace HD := hide (fun U (b : Below wz34.heap.size wz34 U) => HD.out U (bb.trans (b.mono bb.size)))
  replace X0 := hide (fun U (b : Below wz34.heap.size wz34 U) => X0.out U (bb.trans (b.mono bb.size)))
  replace XE := hide (fun U (b : Below wz34.heap.size wz34 U) => XE.out U (bb.trans (b.mono bb.size)))
  replace H1 := hide (fun U (b : Below wz34.heap.size wz34 U) => H1.out U (bb.trans (b.mono bb.size)))
  replace X1 := hide (fun U (b : Below wz34.heap.size wz34 U) => X1.out U (bb.trans (b.mono bb.size)))
  replace H2 := hide (fun U (b : Below wz34.heap.size wz34 U) => H2.out U (bb.trans (b.mono bb.size)))
  replace X2 := hide (fun U (b : Below wz34.heap.size wz34 U) => X2.out U (bb.trans (b.mono bb.size)))
  replace H3 := hide (fun U (b : Below wz34.heap.size wz34 U) => H3.out U (bb.trans (b.mono bb.size)))
  replace X3 := hide (fun U (b : Below wz34.heap.size wz34 U) => X3.out U (bb.trans (b.mono bb.size)))
  replace H4 := hide (fun U (b : Below wz34.heap.size wz34 U) => H4.out U (bb.trans (b.mono bb.size)))
  replace H5 := hide (fun U (b : Below wz34.heap.size wz34 U) => H5.out U (bb.trans (b.mono bb.size)))
  replace H6 := hide (fun U (b : Below wz34.heap.size wz34 U) => H6.out U (bb.trans (b.mono bb.size)))
  replace X6 := hide (fun U (b : Below wz34.heap.size wz34 U) => X6.out U (bb.trans (b.mono bb.size)))
  replace H7 := hide (fun U (b : Below wz34.heap.size wz34 U) => H7.out U (bb.trans (b.mono bb.size)))
  replace X7 := hide (fun U (b : Below wz34.heap.size wz34 U) => X7.out U (bb.trans (b.mono bb.size)))
  clear bb
  go_wp2_with fail
  refine (num15_any _ _).mono ?_
  rintro e w' ⟨rfl, rfl⟩
  have K := sentries_any _ _ _ f1 (H4.out _ (Below.refl _ _)) (H5.out _ (Below.refl _ _))
  replace K := hide K
  go_wp2_with fail
  refine K.out.mono ?_
  rintro e wz35 ⟨rfl, n, hn⟩
  have bb : Below wz34.heap.size wz34 wz35 := by rw [hn]; exact below_drewN' _ _ _
  clear hn
  clear K 
  replace HE := hide (fun U (b : Below wz35.heap.size wz35 U) => HE.out U (bb.trans (b.mono bb.size)))
  replace HL := hide (fun U (b : Below wz35.heap.size wz35 U) => HL.out U (bb.trans (b.mono bb.size)))
  replace HD := hide (fun U (b : Below wz35.heap.size wz35 U) => HD.out U (bb.trans (b.mono bb.size)))
  replace X0 := hide (fun U (b : Below wz35.heap.size wz35 U) => X0.out U (bb.trans (b.mono bb.size)))
  replace XE := hide (fun U (b : Below wz35.heap.size wz35 U) => XE.out U (bb.trans (b.mono bb.size)))
  replace H1 := hide (fun U (b : Below wz35.heap.size wz35 U) => H1.out U (bb.trans (b.mono bb.size)))
  replace X1 := hide (fun U (b : Below wz35.heap.size wz35 U) => X1.out U (bb.trans (b.mono bb.size)))
  replace H2 := hide (fun U (b : Below wz35.heap.size wz35 U) => H2.out U (bb.trans (b.mono bb.size)))
  replace X2 := hide (fun U (b : Below wz35.heap.size wz35 U) => X2.out U (bb.trans (b.mono bb.size)))
  replace H3 := hide (fun U (b : Below wz35.heap.size wz35 U) => H3.out U (bb.trans (b.mono bb.size)))
  replace X3 := hide (fun U (b : Below wz35.heap.size wz35 U) => X3.out U (bb.trans (b.mono bb.size)))
  replace H4 := hide (fun U (b : Below wz35.heap.size wz35 U) => H4.out U (bb.trans (b.mono bb.size)))
  replace H5 := hide (fun U (b : Below wz35.heap.size wz35 U) => H5.out U (bb.trans (b.mono bb.size)))
  replace H6 := hide (fun U (b : Below wz35.heap.size wz35 U) => H6.out U (bb.trans (b.mono bb.size)))
  replace X6 := hide (fun U (b : Below wz35.heap.size wz35 U) => X6.out U (bb.trans (b.mono bb.size)))
  replace H7 := hide (fun U (b : Below wz35.heap.size wz35 U) => H7.out U (bb.trans (b.mono bb.size)))
  replace X7 := hide (fun U (b : Below wz35.heap.size wz35 U) => X7.out U (bb.trans (b.mono bb.size)))
  clear bb
  go_wp2_with fail
  refine (num15_any _ _).mono ?_
  rintro e w' ⟨rfl, rfl⟩
  have K := alike15_any _ k1 _ _ (H6.out _ (Below.refl _ _)) (H7.out _ (Below.refl _ _))
  dsimp only [lv] at K
  replace K := hide K
  obtain ⟨⟨q36_0, q36_1, q36_2⟩, _⟩ := cells3l (X6.out _ (Below.refl _ _))
  obtain ⟨⟨q37_0, q37_1, q37_2⟩, _⟩ := cells3l (X7.out _ (Below.refl _ _))
  go_wp2_with fail
  refine K.out.mono ?_
  rintro e wz38 ⟨rfl, bb⟩
  clear K q36_0 q36_1 q36_2 q37_0 q37_1 q37_2
  replace HE := hide (fun U (b : Below wz38.heap.size wz38 U) => HE.out U (bb.trans (b.mono bb.size)))
  replace HL := hide (fun U (b : Below wz38.heap.size wz38 U) => HL.out U (bb.trans (b.mono bb.size)))
  replace HD := hide (fun U (b : Below wz38.heap.size wz38 U) => HD.out U (bb.trans (b.mono bb.size)))
  replace X0 := hide (fun U (b : Below wz38.heap.size wz38 U) => X0.out U (bb.trans (b.mono bb.size)))
  replace XE := hide (fun U (b : Below wz38.heap.size wz38 U) => XE.out U (bb.trans (b.mono bb.size)))
  replace H1 := hide (fun U (b : Below wz38.heap.size wz38 U) => H1.out U (bb.trans (b.mono bb.size)))
  replace X1 := hide (fun U (b : Below wz38.heap.size wz38 U) => X1.out U (bb.trans (b.mono bb.size)))
  replace H2 := hide (fun U (b : Below wz38.heap.size wz38 U) => H2.out U (bb.trans (b.mono bb.size)))
  replace X2 := hide (fun U (b : Below wz38.heap.size wz38 U) => X2.out U (bb.trans (b.mono bb.size)))
  replace H3 := hide (fun U (b : Below wz38.heap.size wz38 U) => H3.out U (bb.trans (b.mono bb.size)))
  replace X3 := hide (fun U (b : Below wz38.heap.size wz38 U) => X3.out U (bb.trans (b.mono bb.size)))
  replace H4 := hide (fun U (b : Below wz38.heap.size wz38 U) => H4.out U (bb.trans (b.mono bb.size)))
  replace H5 := hide (fun U (b : Below wz38.heap.size wz38 U) => H5.out U (bb.trans (b.mono bb.size)))
  replace H6 := hide (fun U (b : Below wz38.heap.size wz38 U) => H6.out U (bb.trans (b.mono bb.size)))
  replace X6 := hide (fun U (b : Below wz38.heap.size wz38 U) => X6.out U (bb.trans (b.mono bb.size)))
  replace H7 := hide (fun U (b : Below wz38.heap.size wz38 U) => H7.out U (bb.trans (b.mono bb.size)))
  replace X7 := hide (fun U (b : Below wz38.heap.size wz38 U) => X7.out U (bb.trans (b.mono bb.size)))
  clear bb
  go_wp2_with fail
  refine (num15_any _ _).mono ?_
  rintro e w' ⟨rfl, rfl⟩
  have HQ := hide (fun U (b : Below wz38.heap.size wz38 U) => And.intro (cells3l (X1.out U b)).1 (cells3l (X0.out U b)).1)
  go_upto_region 14 with fail
  have b0 := (Below.refl wz38.heap.size wz38).drew
  have b0_ := b0
  clear b0
  refine wp_region_fan (fun w9 => (w9.cell? ⟨wz4.heap.size, 0, none⟩ = some (.int .i64 l.base) ∧ w9.cell? ⟨wz4.heap.size, 1, none⟩ = some (.int .i64 l.bt) ∧ w9.cell? ⟨wz4.heap.size, 2, none⟩ = some (.slice b1 l.es.length c1)) ∧ (w9.cell? ⟨w.heap.size, 0, none⟩ = some (.int .i64 l.base) ∧ w9.cell? ⟨w.heap.size, 1, none⟩ = some (.int .i64 l.bt) ∧ w9.cell? ⟨w.heap.size, 2, none⟩ = some (.slice la l.es.length lc))) 15 mixed (by simp) ?_
  generalize wz38.drew = c0_ at *
  refine fan_take (i := 0) (v := ?_) rfl (by kernel_rfl) (fun _ _ _ _ h => h) (by kernel_rfl) (HQ.out _ b0_) ?_ ?_
  rotate_left
  · rintro w9 ⟨⟨q0, q1, q2⟩, p0, p1, p2⟩
    go_simp
    try with_reducible rfl
  try simp only [List.getElem_toArray, List.getElem_cons_succ, List.getElem_cons_zero, List.getElem?_toArray, List.getElem?_cons_succ, List.getElem?_cons_zero, Act.put, List.setIfInBounds_toArray, List.set_cons_zero, List.set_cons_succ]
  refine fan_take (i := 3) (v := ?_) rfl (by kernel_rfl) (fun _ _ _ _ h => h) (by kernel_rfl) (HQ.out _ b0_) ?_ ?_
  rotate_left
  · rintro w9 ⟨⟨q0, q1, q2⟩, p0, p1, p2⟩
    go_simp
    try with_reducible rfl
  try simp only [List.getElem_toArray, List.getElem_cons_succ, List.getElem_cons_zero, List.getElem?_toArray, List.getElem?_cons_succ, List.getElem?_cons_zero, Act.put, List.setIfInBounds_toArray, List.set_cons_zero, List.set_cons_succ]
  refine fan_one 1 (by kernel_rfl) ?_
  refine fan_step rfl (by kernel_rfl) fun K hK => ?_
  refine wp_call_of 22 _ _ (by rfl) #[.agg #[.int .i64 l.base, .int .i64 l.bt, .slice b1 l.es.length c1]] (by simp [Act.eval]) (Try.call22 _ _) (show Calls _ _ _ _ _ from by have k := S.chk c0_ l _ (H1.out _ b0_) fit.out; rw [hck.out] at k; exact k) ?_
  rintro e c1_ ⟨rfl, bb⟩
  have b1_ := b0_.trans (bb.mono b0_.size)
  refine ⟨_, rfl, hK _ _ (HQ.out _ b1_) ?_⟩
  clear hK K bb
  try simp only [List.getElem_toArray, List.getElem_cons_succ, List.getElem_cons_zero, List.getElem?_toArray, List.getElem?_cons_succ, List.getElem?_cons_zero, Act.put, List.setIfInBounds_toArray, List.set_cons_zero, List.set_cons_succ]
  refine fan_one 2 (by kernel_rfl) ?_
  refine fan_step rfl (by kernel_rfl) fun K hK => ?_
  refine wp_call_of 19 _ _ (by rfl) #[.int .i64 ck] (by simp [Act.eval]) (Try.call19 _ _) (num15_any _ _) ?_
  rintro e c2_ ⟨rfl, hcc⟩
  have b2_ := b1_
  rw [hcc] at b2_
  refine ⟨_, rfl, hK _ _ (HQ.out _ b2_) ?_⟩
  clear hK K hcc
  try simp only [List.getElem_toArray, List.getElem_cons_succ, List.getElem_cons_zero, List.getElem?_toArray, List.getElem?_cons_succ, List.getElem?_cons_zero, Act.put, List.setIfInBounds_toArray, List.set_cons_zero, List.set_cons_succ]
  refine fan_one 4 (by kernel_rfl) ?_
  refine fan_step rfl (by kernel_rfl) fun K hK => ?_
  refine wp_call_of 23 _ _ (by rfl) #[.agg #[.int .i64 l.base, .int .i64 l.bt, .slice la l.es.length lc]] (by simp [Act.eval]) (Try.call23 _ _) (show Calls _ _ _ _ _ from by have k := rcheck15_any c2_ l _ (HL.out _ b2_); rw [hck.out] at k; exact k) ?_
  rintro e c3_ ⟨rfl, bb⟩
  have b3_ := b2_.trans (bb.mono b2_.size)
  refine ⟨_, rfl, hK _ _ (HQ.out _ b3_) ?_⟩
  clear hK K bb
  try simp only [List.getElem_toArray, List.getElem_cons_succ, List.getElem_cons_zero, List.getElem?_toArray, List.getElem?_cons_succ, List.getElem?_cons_zero, Act.put, List.setIfInBounds_toArray, List.set_cons_zero, List.set_cons_succ]
  refine fan_take (i := 5) (v := ?_) rfl (by kernel_rfl) (fun _ _ _ _ h => h) (by kernel_rfl) (HQ.out _ b3_) ?_ ?_
  rotate_left
  · rintro w9 ⟨⟨q0, q1, q2⟩, p0, p1, p2⟩
    go_simp
    try with_reducible rfl
  try simp only [List.getElem_toArray, List.getElem_cons_succ, List.getElem_cons_zero, List.getElem?_toArray, List.getElem?_cons_succ, List.getElem?_cons_zero, Act.put, List.setIfInBounds_toArray, List.set_cons_zero, List.set_cons_succ]
  refine fan_take (i := 6) (v := ?_) rfl (by kernel_rfl) (fun _ _ _ _ h => h) (by kernel_rfl) (HQ.out _ b3_) ?_ ?_
  rotate_left
  · rintro w9 ⟨⟨q0, q1, q2⟩, p0, p1, p2⟩
    go_simp
    try with_reducible rfl
  try simp only [List.getElem_toArray, List.getElem_cons_succ, List.getElem_cons_zero, List.getElem?_toArray, List.getElem?_cons_succ, List.getElem?_cons_zero, Act.put, List.setIfInBounds_toArray, List.set_cons_zero, List.set_cons_succ]
  refine fan_take (i := 7) (v := ?_) rfl (by kernel_rfl) (fun _ _ _ _ h => h) (by kernel_rfl) (HQ.out _ b3_) ?_ ?_
  rotate_left
  · rintro w9 ⟨⟨q0, q1, q2⟩, p0, p1, p2⟩
    go_simp
    try with_reducible rfl
  try simp only [List.getElem_toArray, List.getElem_cons_succ, List.getElem_cons_zero, List.getElem?_toArray, List.getElem?_cons_succ, List.getElem?_cons_zero, Act.put, List.setIfInBounds_toArray, List.set_cons_zero, List.set_cons_succ]
  refine fan_take (i := 8) (v := ?_) rfl (by kernel_rfl) (fun _ _ _ _ h => h) (by kernel_rfl) (HQ.out _ b3_) ?_ ?_
  rotate_left
  · rintro w9 ⟨⟨q0, q1, q2⟩, p0, p1, p2⟩
    go_simp
    try with_reducible rfl
  try simp only [List.getElem_toArray, List.getElem_cons_succ, List.getElem_cons_zero, List.getElem?_toArray, List.getElem?_cons_succ, List.getElem?_cons_zero, Act.put, List.setIfInBounds_toArray, List.set_cons_zero, List.set_cons_succ]
  refine fan_one 9 (by kernel_rfl) ?_
  refine fan_step rfl (by kernel_rfl) fun K hK => ?_
  refine wp_call_of 20 _ _ (by rfl) #[.agg #[.int .i64 l.base, .int .i64 l.bt, .slice b1 l.es.length c1], .agg #[.int .i64 l.base, .int .i64 l.bt, .slice la l.es.length lc]] (by simp [Act.eval]) (Try.call20 _ _) (show Calls _ _ _ _ _ from alike15_any c3_ l _ _ (H1.out _ b3_) (HL.out _ b3_)) ?_
  rintro e c4_ ⟨rfl, bb⟩
  have b4_ := b3_.trans (bb.mono b3_.size)
  refine ⟨_, rfl, hK _ _ (HQ.out _ b4_) ?_⟩
  clear hK K bb
  try simp only [List.getElem_toArray, List.getElem_cons_succ, List.getElem_cons_zero, List.getElem?_toArray, List.getElem?_cons_succ, List.getElem?_cons_zero, Act.put, List.setIfInBounds_toArray, List.set_cons_zero, List.set_cons_succ]
  refine fan_take (i := 10) (v := ?_) rfl (by kernel_rfl) (fun _ _ _ _ h => h) (by kernel_rfl) (HQ.out _ b4_) ?_ ?_
  rotate_left
  · rintro w9 ⟨⟨q0, q1, q2⟩, p0, p1, p2⟩
    go_simp
    try with_reducible rfl
  try simp only [List.getElem_toArray, List.getElem_cons_succ, List.getElem_cons_zero, List.getElem?_toArray, List.getElem?_cons_succ, List.getElem?_cons_zero, Act.put, List.setIfInBounds_toArray, List.set_cons_zero, List.set_cons_succ]
  refine fan_take (i := 11) (v := ?_) rfl (by kernel_rfl) (fun _ _ _ _ h => h) (by kernel_rfl) (HQ.out _ b4_) ?_ ?_
  rotate_left
  · rintro w9 ⟨⟨q0, q1, q2⟩, p0, p1, p2⟩
    go_simp
    try with_reducible rfl
  try simp only [List.getElem_toArray, List.getElem_cons_succ, List.getElem_cons_zero, List.getElem?_toArray, List.getElem?_cons_succ, List.getElem?_cons_zero, Act.put, List.setIfInBounds_toArray, List.set_cons_zero, List.set_cons_succ]
  refine fan_take (i := 12) (v := ?_) rfl (by kernel_rfl) (fun _ _ _ _ h => h) (by kernel_rfl) (HQ.out _ b4_) ?_ ?_
  rotate_left
  · rintro w9 ⟨⟨q0, q1, q2⟩, p0, p1, p2⟩
    go_simp
    try with_reducible rfl
  try simp only [List.getElem_toArray, List.getElem_cons_succ, List.getElem_cons_zero, List.getElem?_toArray, List.getElem?_cons_succ, List.getElem?_cons_zero, Act.put, List.setIfInBounds_toArray, List.set_cons_zero, List.set_cons_succ]
  refine fan_one 13 (by kernel_rfl) ?_
  refine fan_step rfl (by kernel_rfl) fun K hK => ?_
  refine wp_call_of 24 _ _ (by rfl) #[] (by simp [Act.eval]) (Try.call24 _ _) (show Calls _ _ _ _ _ from ralive_any S c4_) ?_
  rintro e c5_ ⟨rfl, bb⟩
  have b5_ := b4_.trans (bb.mono b4_.size)
  refine ⟨_, rfl, hK _ _ (HQ.out _ b5_) ?_⟩
  clear hK K bb
  try simp only [List.getElem_toArray, List.getElem_cons_succ, List.getElem_cons_zero, List.getElem?_toArray, List.getElem?_cons_succ, List.getElem?_cons_zero, Act.put, List.setIfInBounds_toArray, List.set_cons_zero, List.set_cons_succ]
  refine fan_take (i := 14) (v := ?_) rfl (by kernel_rfl) (fun _ _ _ _ h => h) (by kernel_rfl) (HQ.out _ b5_) ?_ ?_
  rotate_left
  · rintro w9 ⟨⟨q0, q1, q2⟩, p0, p1, p2⟩
    go_simp
    try with_reducible rfl
  try simp only [List.getElem_toArray, List.getElem_cons_succ, List.getElem_cons_zero, List.getElem?_toArray, List.getElem?_cons_succ, List.getElem?_cons_zero, Act.put, List.setIfInBounds_toArray, List.set_cons_zero, List.set_cons_succ]
  refine fan_done (by kernel_rfl) ?_
  show wpList _ _ _ _ _ _
  have HEE := hide (HE.out _ b5_)
  go_wp2
  go_ret
  exact ⟨rfl, HEE.out⟩
end Go.Proofs.Ytfalhboahdccmaa.raftlogTells
