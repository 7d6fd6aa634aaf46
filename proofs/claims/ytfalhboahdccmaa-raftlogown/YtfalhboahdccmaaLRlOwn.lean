/-
  RaftlogOwn's walk, over what the program's calls say: P15.7: the log that follows shares nothing with what was handed in. (Written by gen15l.py.)
-/
import Derived.Test.YtfalhboahdccmaaRlL
import Derived.Test.YtfalhboahdccmaaRlO
import Derived.Test.YtfalhboahdccmaaRlQ
import Derived.Test.YtfalhboahdccmaaRlE
import Derived.Deep.CutRange
namespace Go.Proofs.Ytfalhboahdccmaa.raftlogOwn
open Go.ChangeShapes Go.WideShapes Go.ChangeAt Go.RowKit
set_option linter.unusedVariables false
set_option linter.unusedSimpArgs false

set_option maxRecDepth 100000 in
set_option maxHeartbeats 8000000 in
theorem walk0 (S : LogSay) (w : World) (cs0 : Array Value) (x0 : Lg3) (g0 : SLg15.rd w cs0.toList x0) (m0 : lg3fit x0) (cs1 : Array Value) (x1 : Wrt) (g1 : SWr.rd w cs1.toList x1) (m1 : enfit x1) :
    Calls Try.prog 5 #[.agg cs0, .agg cs1] w fun e w' => e = .returned (.bool true) ∧ Below w.heap.size w w' := by
  obtain ⟨v, hcs, R0, fit⟩ := lg_form g0 m0
  rw [hcs]
  obtain ⟨l, hl⟩ : ∃ l, l = lgOf x0 := ⟨_, rfl⟩
  rw [← hl] at R0 fit ⊢
  clear g0 m0 hcs hl
  obtain ⟨la, lc, rfl⟩ := R0.slice
  replace fit := hide fit
  obtain ⟨dv, hce, Rd1, yfit⟩ := ent_form g1 m1
  rw [hce]
  obtain ⟨yt, yx⟩ := x1
  dsimp only at Rd1 ⊢
  obtain ⟨da, dc, rfl⟩ := Rd1.slice
  replace yfit := hide yfit
  clear hce g1 m1
  have HE : Hid (∀ U, Below w.heap.size w U → Below w.heap.size w U) := fun U b => b
  have HL : Hid (∀ U, Below w.heap.size w U → RdC U (.slice la l.es.length lc) l.es) := fun U b => R0.to0 b
  have HD : Hid (∀ U, Below w.heap.size w U → Rd U (.slice da yx.length dc) yx) := fun U b => Rd1.to b
  clear R0 Rd1
  dsimp only [lv]
  obtain ⟨⟨u1, u2⟩, hR⟩ : ∃ R, lapp l (yt, yx) = R := ⟨_, rfl⟩
  replace hR := hide hR
  go_enter Try.func5, Try.ntmps5
  obtain ⟨Y1, hY1, DY1, bY1, sY1⟩ := boxedN w #[.int .i64 l.base, .int .i64 l.bt, .slice la l.es.length lc] 24
  replace HE := hide (fun U (b : Below Y1.heap.size Y1 U) => HE.out U (bY1.trans (b.mono bY1.size)))
  replace HL := hide (fun U (b : Below Y1.heap.size Y1 U) => HL.out U (bY1.trans (b.mono bY1.size)))
  replace HD := hide (fun U (b : Below Y1.heap.size Y1 U) => HD.out U (bY1.trans (b.mono bY1.size)))
  have X0 : Hid (∀ U, Below Y1.heap.size Y1 U → U.heap[w.heap.size]? = some (.cells #[.int .i64 l.base, .int .i64 l.bt, .slice la l.es.length lc] 24 (0, 0))) := fun U b => (b.block _ (lt_of_block DY1)).trans DY1
  clear DY1 bY1
  obtain ⟨Y2, hY2, DY2, bY2, sY2⟩ := boxedN Y1 #[.int .i64 yt, .slice da yx.length dc] 27
  rw [sY1] at DY2
  replace HE := hide (fun U (b : Below Y2.heap.size Y2 U) => HE.out U (bY2.trans (b.mono bY2.size)))
  replace HL := hide (fun U (b : Below Y2.heap.size Y2 U) => HL.out U (bY2.trans (b.mono bY2.size)))
  replace HD := hide (fun U (b : Below Y2.heap.size Y2 U) => HD.out U (bY2.trans (b.mono bY2.size)))
  replace X0 := hide (fun U (b : Below Y2.heap.size Y2 U) => X0.out U (bY2.trans (b.mono bY2.size)))
  have XE : Hid (∀ U, Below Y2.heap.size Y2 U → U.heap[w.heap.size + 1]? = some (.cells #[.int .i64 yt, .slice da yx.length dc] 27 (0, 0))) := fun U b => (b.block _ (lt_of_block DY2)).trans DY2
  clear DY2 bY2
  have K := ralive_any S Y2
  replace K := hide K
  clear sY1
  clear sY2
  go_wp2_with fail
  rw [← hY1]
  rw [← hY2]
  replace hY1 := hide hY1
  replace hY2 := hide hY2
  refine K.out.mono ?_
  rintro e wz3 ⟨rfl, bb⟩
  clear K 
  replace HE := hide (fun U (b : Below wz3.heap.size wz3 U) => HE.out U (bb.trans (b.mono bb.size)))
  replace HL := hide (fun U (b : Below wz3.heap.size wz3 U) => HL.out U (bb.trans (b.mono bb.size)))
  replace HD := hide (fun U (b : Below wz3.heap.size wz3 U) => HD.out U (bb.trans (b.mono bb.size)))
  replace X0 := hide (fun U (b : Below wz3.heap.size wz3 U) => X0.out U (bb.trans (b.mono bb.size)))
  replace XE := hide (fun U (b : Below wz3.heap.size wz3 U) => XE.out U (bb.trans (b.mono bb.size)))
  clear bb
  have z0 : Hid (w.heap.size ≤ wz3.heap.size) := (HE.out _ (Below.refl _ _)).size
  have K := of15_any _ l _ (HL.out _ (Below.refl _ _)) fit.out.e.f1 fit.out.e.f2
  dsimp only [lv] at K
  replace K := hide K
  obtain ⟨⟨q4_0, q4_1, q4_2⟩, _⟩ := cells3l (X0.out _ (Below.refl _ _))
  go_wp2_with fail
  refine K.out.mono ?_
  rintro e wz5 ⟨v1, rfl, o1, bb⟩
  obtain ⟨b1, c1, rfl⟩ := o1.rdS.slice
  obtain ⟨L1, hL1⟩ : ∃ x, x = wz3.heap.size := ⟨_, rfl⟩
  obtain ⟨U1, hU1⟩ : ∃ x, x = wz5.heap.size := ⟨_, rfl⟩
  obtain ⟨F1, sp1⟩ := SpE.of o1 fit.out.e.f2
  rw [← hL1] at sp1
  rw [← hU1] at sp1
  have n1 : Hid (w.heap.size ≤ L1 ∧ L1 ≤ U1) := by show _ ∧ _; have := z0.out; have := bb.size; omega
  replace hL1 := hide hL1
  clear K q4_0 q4_1 q4_2
  replace HE := hide (fun U (b : Below wz5.heap.size wz5 U) => HE.out U (bb.trans (b.mono bb.size)))
  replace HL := hide (fun U (b : Below wz5.heap.size wz5 U) => HL.out U (bb.trans (b.mono bb.size)))
  replace HD := hide (fun U (b : Below wz5.heap.size wz5 U) => HD.out U (bb.trans (b.mono bb.size)))
  replace X0 := hide (fun U (b : Below wz5.heap.size wz5 U) => X0.out U (bb.trans (b.mono bb.size)))
  replace XE := hide (fun U (b : Below wz5.heap.size wz5 U) => XE.out U (bb.trans (b.mono bb.size)))
  have O1 : Hid (∀ U, Below wz5.heap.size wz5 U → SpE L1 U1 l.es.length U (.slice b1 l.es.length c1) F1 l.es) := fun U b => sp1.keep (fun z hz => b.block z (by have := sp1.rng z hz; omega))
  have H1 : Hid (∀ U, Below wz5.heap.size wz5 U → RdC U (.slice b1 l.es.length c1) l.es) := fun U b => o1.rdS.to0 b
  clear o1 sp1 bb
  obtain ⟨Y6, hY6, DY6, bY6, sY6⟩ := boxedN wz5 #[.int .i64 l.base, .int .i64 l.bt, .slice b1 l.es.length c1] 28
  replace HE := hide (fun U (b : Below Y6.heap.size Y6 U) => HE.out U (bY6.trans (b.mono bY6.size)))
  replace HL := hide (fun U (b : Below Y6.heap.size Y6 U) => HL.out U (bY6.trans (b.mono bY6.size)))
  replace HD := hide (fun U (b : Below Y6.heap.size Y6 U) => HD.out U (bY6.trans (b.mono bY6.size)))
  replace X0 := hide (fun U (b : Below Y6.heap.size Y6 U) => X0.out U (bY6.trans (b.mono bY6.size)))
  replace XE := hide (fun U (b : Below Y6.heap.size Y6 U) => XE.out U (bY6.trans (b.mono bY6.size)))
  replace O1 := hide (fun U (b : Below Y6.heap.size Y6 U) => O1.out U (bY6.trans (b.mono bY6.size)))
  replace H1 := hide (fun U (b : Below Y6.heap.size Y6 U) => H1.out U (bY6.trans (b.mono bY6.size)))
  have X1 : Hid (∀ U, Below Y6.heap.size Y6 U → U.heap[wz5.heap.size]? = some (.cells #[.int .i64 l.base, .int .i64 l.bt, .slice b1 l.es.length c1] 28 (0, 0))) := fun U b => (b.block _ (lt_of_block DY6)).trans DY6
  clear DY6 bY6
  have n2 : Hid (U1 < Y6.heap.size) := by show _ < _; omega
  have e1 : Hid (wz5.heap.size = U1) := by show _ = _; omega
  replace hU1 := hide hU1
  have K := copy_any _ _ yx (HD.out _ (Below.refl _ _)) (by have := yfit.out.d; dsimp only at this; omega)
  replace K := hide K
  clear sY6
  obtain ⟨⟨q7_0, q7_1⟩, _⟩ := cells2l (XE.out _ (Below.refl _ _))
  try rw [hY6] at q7_0 q7_1
  go_wp2_with fail
  rw [← hY6]
  replace hY6 := hide hY6
  refine K.out.mono ?_
  rintro e wz8 ⟨v2, rfl, o2, bb⟩
  obtain ⟨b2, c2, rfl⟩ := o2.rd.slice
  obtain ⟨L2, hL2⟩ : ∃ x, x = Y6.heap.size := ⟨_, rfl⟩
  obtain ⟨U2, hU2⟩ : ∃ x, x = wz8.heap.size := ⟨_, rfl⟩
  rw [← hL2] at o2
  have n3 : Hid (U1 < L2 ∧ L2 ≤ U2) := by show _ ∧ _; have := n2.out; have := bb.size; omega
  have r2 : Hid (∀ z, (Value.slice b2 yx.length c2).ownBlock = some z → L2 ≤ z ∧ z < U2) := fun z hz => by have h1 := (World.ownsRow.lt o2 z hz); omega
  replace hL2 := hide hL2
  clear K q7_0 q7_1
  replace HE := hide (fun U (b : Below wz8.heap.size wz8 U) => HE.out U (bb.trans (b.mono bb.size)))
  replace HL := hide (fun U (b : Below wz8.heap.size wz8 U) => HL.out U (bb.trans (b.mono bb.size)))
  replace HD := hide (fun U (b : Below wz8.heap.size wz8 U) => HD.out U (bb.trans (b.mono bb.size)))
  replace X0 := hide (fun U (b : Below wz8.heap.size wz8 U) => X0.out U (bb.trans (b.mono bb.size)))
  replace XE := hide (fun U (b : Below wz8.heap.size wz8 U) => XE.out U (bb.trans (b.mono bb.size)))
  replace O1 := hide (fun U (b : Below wz8.heap.size wz8 U) => O1.out U (bb.trans (b.mono bb.size)))
  replace H1 := hide (fun U (b : Below wz8.heap.size wz8 U) => H1.out U (bb.trans (b.mono bb.size)))
  replace X1 := hide (fun U (b : Below wz8.heap.size wz8 U) => X1.out U (bb.trans (b.mono bb.size)))
  have O2 : Hid (∀ U, Below wz8.heap.size wz8 U → OwnB L2 U (.slice b2 yx.length c2) yx) := fun U b => o2.below (Nat.le_refl _) b
  clear o2 bb
  have n4 : Hid (U2 ≤ wz8.heap.size) := by show _ ≤ _; omega
  replace hU2 := hide hU2
  have K := (show Calls _ _ _ _ _ from by have k := S.app _ l _ (yt, yx) _ (H1.out _ (Below.refl _ _)) fit.out (O2.out _ (Below.refl _ _)).rd yfit.out; rw [hR.out] at k; exact k)
  dsimp only [lv] at K
  replace K := hide K
  obtain ⟨⟨q9_0, q9_1, q9_2⟩, _⟩ := cells3l (X1.out _ (Below.refl _ _))
  obtain ⟨⟨q10_0, q10_1⟩, _⟩ := cells2l (XE.out _ (Below.refl _ _))
  go_wp2_with fail
  refine K.out.mono ?_
  rintro e wz11 ⟨v3, rfl, o3, bb⟩
  obtain ⟨b3, c3, rfl⟩ := o3.rdS.slice
  obtain ⟨L3, hL3⟩ : ∃ x, x = wz8.heap.size := ⟨_, rfl⟩
  rw [← hL3] at o3
  have n5 : Hid (U2 ≤ L3 ∧ L3 ≤ wz11.heap.size) := by show _ ∧ _; have := n4.out; have := bb.size; omega
  replace hL3 := hide hL3
  clear K q9_0 q9_1 q9_2 q10_0 q10_1
  replace HE := hide (fun U (b : Below wz11.heap.size wz11 U) => HE.out U (bb.trans (b.mono bb.size)))
  replace HL := hide (fun U (b : Below wz11.heap.size wz11 U) => HL.out U (bb.trans (b.mono bb.size)))
  replace HD := hide (fun U (b : Below wz11.heap.size wz11 U) => HD.out U (bb.trans (b.mono bb.size)))
  replace X0 := hide (fun U (b : Below wz11.heap.size wz11 U) => X0.out U (bb.trans (b.mono bb.size)))
  replace XE := hide (fun U (b : Below wz11.heap.size wz11 U) => XE.out U (bb.trans (b.mono bb.size)))
  replace O1 := hide (fun U (b : Below wz11.heap.size wz11 U) => O1.out U (bb.trans (b.mono bb.size)))
  replace H1 := hide (fun U (b : Below wz11.heap.size wz11 U) => H1.out U (bb.trans (b.mono bb.size)))
  replace X1 := hide (fun U (b : Below wz11.heap.size wz11 U) => X1.out U (bb.trans (b.mono bb.size)))
  replace O2 := hide (fun U (b : Below wz11.heap.size wz11 U) => O2.out U (bb.trans (b.mono bb.size)))
  have O3 : Hid (∀ U, Below wz11.heap.size wz11 U → Own SEntB L3 U [.slice b3 u1.es.length c3] u1.es) := fun U b => o3.to b
  have HE3 : Hid (∀ U, Below wz11.heap.size wz11 U → Below L3 wz11 U) := fun U b => b.mono n5.out.2
  clear o3 bb
  obtain ⟨Y12, hY12, DY12, bY12, sY12⟩ := boxedN wz11 #[.int .i64 u1.base, .int .i64 u1.bt, .slice b3 u1.es.length c3] 28
  replace HE := hide (fun U (b : Below Y12.heap.size Y12 U) => HE.out U (bY12.trans (b.mono bY12.size)))
  replace HL := hide (fun U (b : Below Y12.heap.size Y12 U) => HL.out U (bY12.trans (b.mono bY12.size)))
  replace HD := hide (fun U (b : Below Y12.heap.size Y12 U) => HD.out U (bY12.trans (b.mono bY12.size)))
  replace X0 := hide (fun U (b : Below Y12.heap.size Y12 U) => X0.out U (bY12.trans (b.mono bY12.size)))
  replace XE := hide (fun U (b : Below Y12.heap.size Y12 U) => XE.out U (bY12.trans (b.mono bY12.size)))
  replace O1 := hide (fun U (b : Below Y12.heap.size Y12 U) => O1.out U (bY12.trans (b.mono bY12.size)))
  replace H1 := hide (fun U (b : Below Y12.heap.size Y12 U) => H1.out U (bY12.trans (b.mono bY12.size)))
  replace X1 := hide (fun U (b : Below Y12.heap.size Y12 U) => X1.out U (bY12.trans (b.mono bY12.size)))
  replace O2 := hide (fun U (b : Below Y12.heap.size Y12 U) => O2.out U (bY12.trans (b.mono bY12.size)))
  replace O3 := hide (fun U (b : Below Y12.heap.size Y12 U) => O3.out U (bY12.trans (b.mono bY12.size)))
  replace HE3 := hide (fun U (b : Below Y12.heap.size Y12 U) => HE3.out U (bY12.trans (b.mono bY12.size)))
  have X3 : Hid (∀ U, Below Y12.heap.size Y12 U → U.heap[wz11.heap.size]? = some (.cells #[.int .i64 u1.base, .int .i64 u1.bt, .slice b3 u1.es.length c3] 28 (0, 0))) := fun U b => (b.block _ (lt_of_block DY12)).trans DY12
  clear DY12 bY12
  have a3 : Hid (L3 ≤ wz11.heap.size) := n5.out.2
  clear sY12
  go_wp2_with fail
  rw [← hY12]
  replace hY12 := hide hY12
  refine (num15_any _ _).mono ?_
  rintro e w' ⟨rfl, rfl⟩
  by_cases hz : u2 = 0
  case neg =>
    have hz' : (u2 != 0) = true := by simpa using hz
    have hbad := lapp_bad (l := l) (y := (yt, yx)) (by rw [hR.out]; exact hz)
    rw [hR.out] at hbad
    simp only [Prod.mk.injEq] at hbad
    obtain ⟨hb1, -⟩ := hbad
    have hlen : u1.es.length = 0 := by rw [hb1]; rfl
    replace hb1 := hide hb1
    replace hz := hide hz
    have HEE := hide (HE.out _ (Below.refl _ _))
    obtain ⟨⟨q13_0, q13_1, q13_2⟩, _⟩ := cells3l (X3.out _ (Below.refl _ _))
    go_wp2
    go_ret
    exact ⟨rfl, HEE.out⟩
  case pos =>
    have hz' : (u2 != 0) = false := by simpa using hz
    replace hz := hide hz
    have K := (show Calls _ _ _ _ _ from by have k := rapp15_any _ l _ (yt, yx) _ (HL.out _ (Below.refl _ _)) (HD.out _ (Below.refl _ _)); rw [hR.out] at k; exact k)
    dsimp only [lv, ev] at K
    replace K := hide K
    obtain ⟨⟨q13_0, q13_1, q13_2⟩, _⟩ := cells3l (X0.out _ (Below.refl _ _))
    obtain ⟨⟨q14_0, q14_1⟩, _⟩ := cells2l (XE.out _ (Below.refl _ _))
    go_wp2_with fail
    refine K.out.mono ?_
    rintro e wz15 ⟨v4, rfl, o4, bb⟩
    obtain ⟨b4, c4, rfl⟩ := o4.rdS.slice
    replace o4 := o4.mono (C := L3) (Nat.le_trans n5.out.2 (HE3.out _ (Below.refl _ _)).size)
    clear K q13_0 q13_1 q13_2 q14_0 q14_1
    replace HE := hide (fun U (b : Below wz15.heap.size wz15 U) => HE.out U (bb.trans (b.mono bb.size)))
    replace HL := hide (fun U (b : Below wz15.heap.size wz15 U) => HL.out U (bb.trans (b.mono bb.size)))
    replace HD := hide (fun U (b : Below wz15.heap.size wz15 U) => HD.out U (bb.trans (b.mono bb.size)))
    replace X0 := hide (fun U (b : Below wz15.heap.size wz15 U) => X0.out U (bb.trans (b.mono bb.size)))
    replace XE := hide (fun U (b : Below wz15.heap.size wz15 U) => XE.out U (bb.trans (b.mono bb.size)))
    replace O1 := hide (fun U (b : Below wz15.heap.size wz15 U) => O1.out U (bb.trans (b.mono bb.size)))
    replace H1 := hide (fun U (b : Below wz15.heap.size wz15 U) => H1.out U (bb.trans (b.mono bb.size)))
    replace X1 := hide (fun U (b : Below wz15.heap.size wz15 U) => X1.out U (bb.trans (b.mono bb.size)))
    replace O2 := hide (fun U (b : Below wz15.heap.size wz15 U) => O2.out U (bb.trans (b.mono bb.size)))
    replace O3 := hide (fun U (b : Below wz15.heap.size wz15 U) => O3.out U (bb.trans (b.mono bb.size)))
    replace HE3 := hide (fun U (b : Below wz15.heap.size wz15 U) => HE3.out U (bb.trans (b.mono bb.size)))
    replace X3 := hide (fun U (b : Below wz15.heap.size wz15 U) => X3.out U (bb.trans (b.mono bb.size)))
    have O4 : Hid (∀ U, Below wz15.heap.size wz15 U → Own SEntB L3 U [.slice b4 u1.es.length c4] u1.es) := fun U b => o4.to b
    clear o4 bb
    have a4 : Hid (L3 ≤ wz15.heap.size) := Nat.le_trans n5.out.2 (HE3.out _ (Below.refl _ _)).size
    obtain ⟨Y16, hY16, DY16, bY16, sY16⟩ := boxedN wz15 #[.int .i64 u1.base, .int .i64 u1.bt, .slice b4 u1.es.length c4] 24
    replace HE := hide (fun U (b : Below Y16.heap.size Y16 U) => HE.out U (bY16.trans (b.mono bY16.size)))
    replace HL := hide (fun U (b : Below Y16.heap.size Y16 U) => HL.out U (bY16.trans (b.mono bY16.size)))
    replace HD := hide (fun U (b : Below Y16.heap.size Y16 U) => HD.out U (bY16.trans (b.mono bY16.size)))
    replace X0 := hide (fun U (b : Below Y16.heap.size Y16 U) => X0.out U (bY16.trans (b.mono bY16.size)))
    replace XE := hide (fun U (b : Below Y16.heap.size Y16 U) => XE.out U (bY16.trans (b.mono bY16.size)))
    replace O1 := hide (fun U (b : Below Y16.heap.size Y16 U) => O1.out U (bY16.trans (b.mono bY16.size)))
    replace H1 := hide (fun U (b : Below Y16.heap.size Y16 U) => H1.out U (bY16.trans (b.mono bY16.size)))
    replace X1 := hide (fun U (b : Below Y16.heap.size Y16 U) => X1.out U (bY16.trans (b.mono bY16.size)))
    replace O2 := hide (fun U (b : Below Y16.heap.size Y16 U) => O2.out U (bY16.trans (b.mono bY16.size)))
    replace O3 := hide (fun U (b : Below Y16.heap.size Y16 U) => O3.out U (bY16.trans (b.mono bY16.size)))
    replace HE3 := hide (fun U (b : Below Y16.heap.size Y16 U) => HE3.out U (bY16.trans (b.mono bY16.size)))
    replace X3 := hide (fun U (b : Below Y16.heap.size Y16 U) => X3.out U (bY16.trans (b.mono bY16.size)))
    replace O4 := hide (fun U (b : Below Y16.heap.size Y16 U) => O4.out U (bY16.trans (b.mono bY16.size)))
    have X4 : Hid (∀ U, Below Y16.heap.size Y16 U → U.heap[wz15.heap.size]? = some (.cells #[.int .i64 u1.base, .int .i64 u1.bt, .slice b4 u1.es.length c4] 24 (0, 0))) := fun U b => (b.block _ (lt_of_block DY16)).trans DY16
    clear DY16 bY16
    have KS := spoil_own L2 Y16 _ yx (O2.out _ (Below.refl _ _)) (by have := yfit.out.d; dsimp only at this; omega)
    replace KS := hide KS
    clear sY16
    go_wp2_with fail
    rw [← hY16]
    replace hY16 := hide hY16
    refine KS.out.mono ?_
    rintro e V ⟨rfl, hg, -⟩
    obtain ⟨Sp, hSp⟩ : ∃ S : Nat → Prop, S = fun b => (L1 ≤ b ∧ b < U1) ∨ (L2 ≤ b ∧ b < U2) := ⟨_, rfl⟩
    have hS1 : Hid (∀ b, (L1 ≤ b ∧ b < U1) → Sp b) := fun b h => by rw [hSp]; exact .inl h
    have hS2 : Hid (∀ b, Sp b → L1 ≤ b ∧ b < L3 ∧ b ≠ U1) := fun b h => by
        rw [hSp] at h
        have := n1.out; have := n3.out; have := n5.out
        rcases h with h | h <;> omega
    have k0 : K2 Sp Y16 V := (K2.refl Sp Y16).grown hg fun q hq => by rw [hSp]; exact .inr (r2.out q hq)
    have sp0 : SpE L1 U1 l.es.length V (.slice b1 l.es.length c1) F1 l.es := (O1.out _ (Below.refl _ _)).keep (fun q hq => hg.block q ((O1.out _ (Below.refl _ _)).own.lt q hq) (fun e => by have h1 := r2.out q e.symm; have h2 := (O1.out _ (Below.refl _ _)).rng q hq; have := n3.out; omega))
    replace hSp := hide hSp
    have D1 := hide (X1.out _ (Below.refl _ _))
    have D3 := hide (X3.out _ (Below.refl _ _))
    have D4 := hide (X4.out _ (Below.refl _ _))
    have P3 := hide (O3.out _ (Below.refl _ _))
    have P4 := hide (O4.out _ (Below.refl _ _))
    have PE := hide (HE.out _ (Below.refl _ _))
    have hI0 := hide (And.intro k0 (show ∃ ys, SpE L1 U1 l.es.length V (.slice b1 l.es.length c1) F1 ys from ⟨_, sp0⟩))
    have d1 := k0.heap D1.out (fun e => (hS2.out _ e).2.2 e1.out)
    obtain ⟨⟨g1, g2, g3⟩, _⟩ := cells3l d1
    clear k0 sp0 KS hg d1 O1 O2 O3 O4 HE HE3 HL HD H1 X0 XE X1 X3 X4
    have hnn : l.es.length ≤ 4398046511104 := by have := fit.out.e.n; omega
    go_wp2
    go_loopw [11] (fun i wr => ∃ k : Nat, k ≤ l.es.length ∧ i = .int .i64 k ∧ Hid (K2 Sp Y16 wr ∧ ∃ ys, SpE L1 U1 l.es.length wr (.slice b1 l.es.length c1) F1 ys)) (fun i _ => l.es.length - (intOf i).toNat)
    case atStart => exact ⟨0, Nat.zero_le _, rfl, hI0⟩
    case round =>
      obtain ⟨k, hk, rfl, hI⟩ := hrel
      clear g1 g2 g3
      have d1 := hI.out.1.heap D1.out (fun e => (hS2.out _ e).2.2 e1.out)
      obtain ⟨⟨g1, g2, g3⟩, _⟩ := cells3l d1
      clear d1
      by_cases hlt : k < l.es.length
      · have hq : (k : Int) < (l.es.length : Int) := by omega
        obtain ⟨ys, sp⟩ := hI.out.2
        obtain ⟨b, cap, a, c, len, hv, hc, KS⟩ := sp.step hlt
        simp only [Value.slice.injEq] at hv
        obtain ⟨rfl, -, rfl⟩ := hv
        replace KS := hide KS
        clear sp
        go_wp2_with fail
        refine KS.out.mono ?_
        rintro e w7 ⟨rfl, ys', sp', hg7, hr7⟩
        have hN := hide (And.intro (hI.out.1.grown hg7 (fun q hq => hS1.out q (hr7 q hq))) (show ∃ ys, SpE L1 U1 l.es.length w7 (.slice (some ⟨b, 0, none⟩) l.es.length c1) F1 ys from ⟨_, sp'⟩))
        clear KS sp' hg7 hr7 hc g1 g2 g3 hI
        go_wp2
        go_roundw
        case rel => exact ⟨k + 1, by omega, by go_num, hN⟩
        case measure => simp [intOf]; omega
      · have hq : ¬ (k : Int) < (l.es.length : Int) := by omega
        have d3 := hI.out.1.heap D3.out (fun e => by have h1 := (hS2.out _ e).2.1; have h2 := a3.out; omega)
        have d4 := hI.out.1.heap D4.out (fun e => by have h1 := (hS2.out _ e).2.1; have h2 := a4.out; omega)
        have p3 := hI.out.1.own P3.out (fun q e => (hS2.out q e).2.1)
        have p4 := hI.out.1.own P4.out (fun q e => (hS2.out q e).2.1)
        obtain ⟨⟨t1, t2, t3⟩, _⟩ := cells3l d3
        obtain ⟨⟨t4, t5, t6⟩, _⟩ := cells3l d4
        have KA := alike15_any wr u1 _ _ p3.rdS p4.rdS
        dsimp only [lv] at KA
        replace KA := hide KA
        have PB := hide (PE.out.trans (hI.out.1.below (B := w.heap.size) (fun q e => by have h1 := (hS2.out q e).1; have h2 := n1.out.1; omega) PE.out.size))
        clear d3 d4 p3 p4 hI
        go_wp2_with fail
        refine KA.out.mono ?_
        rintro e w8 ⟨rfl, b8⟩
        have PF := hide (PB.out.trans (b8.mono PB.out.size))
        clear KA b8
        go_wp2
        go_ret
        exact ⟨rfl, PF.out⟩
end Go.Proofs.Ytfalhboahdccmaa.raftlogOwn
