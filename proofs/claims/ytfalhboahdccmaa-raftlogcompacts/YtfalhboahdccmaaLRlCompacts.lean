/-
  RaftlogCompacts's walk, over what the program's calls say: P15.3: what is left behind a snapshot changes no term and no entry behind it; what was there is not told any more. (Written by gen15l.py.)
-/
import Derived.Test.YtfalhboahdccmaaRlL
import Derived.Test.YtfalhboahdccmaaRlR
import Derived.Deep.CutRange
namespace Go.Proofs.Ytfalhboahdccmaa.raftlogCompacts
open Go.ChangeShapes Go.WideShapes Go.ChangeAt Go.RowKit
set_option linter.unusedVariables false
set_option linter.unusedSimpArgs false

set_option maxRecDepth 100000 in
set_option maxHeartbeats 8000000 in
theorem walk0 (S : LogSay) (w : World) (cs0 : Array Value) (x0 : Lg3) (g0 : SLg15.rd w cs0.toList x0) (m0 : lg3fit x0) (a1 : Int) (h1 : (Lit.int .i64 a1).wf = true) :
    Calls Try.prog 6 #[.agg cs0, .int .i64 a1] w fun e w' => e = .returned (.bool true) ∧ Below w.heap.size w w' := by
  have hp1 := hide (wf15 h1)
  clear h1
  obtain ⟨v, hcs, R0, fit⟩ := lg_form g0 m0
  rw [hcs]
  obtain ⟨l, hl⟩ : ∃ l, l = lgOf x0 := ⟨_, rfl⟩
  rw [← hl] at R0 fit ⊢
  clear g0 m0 hcs hl
  obtain ⟨la, lc, rfl⟩ := R0.slice
  replace fit := hide fit
  have HE : Hid (∀ U, Below w.heap.size w U → Below w.heap.size w U) := fun U b => b
  have HL : Hid (∀ U, Below w.heap.size w U → RdC U (.slice la l.es.length lc) l.es) := fun U b => R0.to0 b
  clear R0
  dsimp only [lv]
  obtain ⟨⟨k1, k2⟩, hR⟩ : ∃ R, lcomp l a1 = R := ⟨_, rfl⟩
  replace hR := hide hR
  go_enter Try.func6, Try.ntmps6
  obtain ⟨Y1, hY1, DY1, bY1, sY1⟩ := boxedN w #[.int .i64 l.base, .int .i64 l.bt, .slice la l.es.length lc] 24
  replace HE := hide (fun U (b : Below Y1.heap.size Y1 U) => HE.out U (bY1.trans (b.mono bY1.size)))
  replace HL := hide (fun U (b : Below Y1.heap.size Y1 U) => HL.out U (bY1.trans (b.mono bY1.size)))
  have X0 : Hid (∀ U, Below Y1.heap.size Y1 U → U.heap[w.heap.size]? = some (.cells #[.int .i64 l.base, .int .i64 l.bt, .slice la l.es.length lc] 24 (0, 0))) := fun U b => (b.block _ (lt_of_block DY1)).trans DY1
  clear DY1 bY1
  have K := ralive_any S Y1
  replace K := hide K
  clear sY1
  go_wp2_with fail
  rw [← hY1]
  replace hY1 := hide hY1
  refine K.out.mono ?_
  rintro e wz2 ⟨rfl, bb⟩
  clear K 
  replace HE := hide (fun U (b : Below wz2.heap.size wz2 U) => HE.out U (bb.trans (b.mono bb.size)))
  replace HL := hide (fun U (b : Below wz2.heap.size wz2 U) => HL.out U (bb.trans (b.mono bb.size)))
  replace X0 := hide (fun U (b : Below wz2.heap.size wz2 U) => X0.out U (bb.trans (b.mono bb.size)))
  clear bb
  have K := of15_any _ l _ (HL.out _ (Below.refl _ _)) fit.out.e.f1 fit.out.e.f2
  dsimp only [lv] at K
  replace K := hide K
  obtain ⟨⟨q3_0, q3_1, q3_2⟩, _⟩ := cells3l (X0.out _ (Below.refl _ _))
  go_wp2_with fail
  refine K.out.mono ?_
  rintro e wz4 ⟨v1, rfl, o1, bb⟩
  obtain ⟨b1, c1, rfl⟩ := o1.rdS.slice
  clear K q3_0 q3_1 q3_2
  replace HE := hide (fun U (b : Below wz4.heap.size wz4 U) => HE.out U (bb.trans (b.mono bb.size)))
  replace HL := hide (fun U (b : Below wz4.heap.size wz4 U) => HL.out U (bb.trans (b.mono bb.size)))
  replace X0 := hide (fun U (b : Below wz4.heap.size wz4 U) => X0.out U (bb.trans (b.mono bb.size)))
  have H1 : Hid (∀ U, Below wz4.heap.size wz4 U → RdC U (.slice b1 l.es.length c1) l.es) := fun U b => o1.rdS.to0 b
  clear o1 bb
  have K := (show Calls _ _ _ _ _ from by have k := S.cmp _ l _ a1 (H1.out _ (Below.refl _ _)) fit.out hp1.out; rw [hR.out] at k; exact k)
  dsimp only [lv] at K
  replace K := hide K
  go_wp2_with fail
  refine K.out.mono ?_
  rintro e wz5 ⟨v2, rfl, o2, bb⟩
  obtain ⟨b2, c2, rfl⟩ := o2.rdS.slice
  clear K 
  replace HE := hide (fun U (b : Below wz5.heap.size wz5 U) => HE.out U (bb.trans (b.mono bb.size)))
  replace HL := hide (fun U (b : Below wz5.heap.size wz5 U) => HL.out U (bb.trans (b.mono bb.size)))
  replace X0 := hide (fun U (b : Below wz5.heap.size wz5 U) => X0.out U (bb.trans (b.mono bb.size)))
  replace H1 := hide (fun U (b : Below wz5.heap.size wz5 U) => H1.out U (bb.trans (b.mono bb.size)))
  have H2 : Hid (∀ U, Below wz5.heap.size wz5 U → RdC U (.slice b2 k1.es.length c2) k1.es) := fun U b => o2.rdS.to0 b
  clear o2 bb
  clear H1
  obtain ⟨Y6, hY6, DY6, bY6, sY6⟩ := boxedN wz5 #[.int .i64 k1.base, .int .i64 k1.bt, .slice b2 k1.es.length c2] 28
  replace HE := hide (fun U (b : Below Y6.heap.size Y6 U) => HE.out U (bY6.trans (b.mono bY6.size)))
  replace HL := hide (fun U (b : Below Y6.heap.size Y6 U) => HL.out U (bY6.trans (b.mono bY6.size)))
  replace X0 := hide (fun U (b : Below Y6.heap.size Y6 U) => X0.out U (bY6.trans (b.mono bY6.size)))
  replace H2 := hide (fun U (b : Below Y6.heap.size Y6 U) => H2.out U (bY6.trans (b.mono bY6.size)))
  have X1 : Hid (∀ U, Below Y6.heap.size Y6 U → U.heap[wz5.heap.size]? = some (.cells #[.int .i64 k1.base, .int .i64 k1.bt, .slice b2 k1.es.length c2] 28 (0, 0))) := fun U b => (b.block _ (lt_of_block DY6)).trans DY6
  clear DY6 bY6
  clear sY6
  go_wp2_with fail
  rw [← hY6]
  replace hY6 := hide hY6
  refine (num15_any _ _).mono ?_
  rintro e w' ⟨rfl, rfl⟩
  by_cases hz : k2 = 0
  case neg =>
    have hz' : (k2 != 0) = true := by simpa using hz
    have hbad := lcomp_bad (l := l) (i := a1) (by rw [hR.out]; exact hz)
    rw [hR.out] at hbad
    simp only [Prod.mk.injEq] at hbad
    obtain ⟨hb1, -⟩ := hbad
    have hlen : k1.es.length = 0 := by rw [hb1]; rfl
    replace hb1 := hide hb1
    replace hz := hide hz
    have HEE := hide (HE.out _ (Below.refl _ _))
    obtain ⟨⟨q7_0, q7_1, q7_2⟩, _⟩ := cells3l (X1.out _ (Below.refl _ _))
    go_wp2
    go_ret
    exact ⟨rfl, HEE.out⟩
  case pos =>
    have hz' : (k2 != 0) = false := by simpa using hz
    obtain ⟨ok, hi1, hi2, hc⟩ := lcomp_zero (l := l) (i := a1) (by rw [hR.out]; exact hz)
    rw [hR.out] at hc
    simp only [Prod.mk.injEq] at hc
    obtain ⟨hk1, -⟩ := hc
    have okk : LOk k1 := by rw [hk1]; exact lcomp_ok ok hi1 hi2
    have kfit := hide okk.fit
    have hl1 := hide (llast_ok ok)
    have hl2 : Hid (llast k1 = (lend l, lterm l (lend l), 0)) := by show _ = _; rw [llast_ok okk, hk1, lcomp_end hi1 hi2, lcomp_term hi1 hi2 hi2]
    have ht1 : Hid (∀ j, l.base ≤ j → j ≤ lend l → ltold l j = (lterm l j, 0)) := fun j h1 h2 => ltold_ok ok h1 h2
    have ht2 : Hid (∀ j, j < a1 → ltold k1 j = (0, 71)) := fun j h1 => ltold_no okk (by rw [hk1]; exact h1)
    have ht3 : Hid (∀ j, a1 ≤ j → j ≤ lend l → ltold k1 j = (lterm l j, 0)) := fun j h1 h2 => by rw [ltold_ok okk (by rw [hk1]; exact h1) (by rw [hk1, lcomp_end hi1 hi2]; exact h2), hk1, lcomp_term hi1 hi2 h1]
    obtain ⟨fr, hf1⟩ : ∃ f, lfrom l (a1 + 1) 5000 = (f, 0) := ⟨_, lfrom_ok ok (by omega) (by omega) (by decide)⟩
    have hf2 : Hid (lfrom k1 (a1 + 1) 5000 = (fr, 0)) := by show _ = _; rw [hk1, lcomp_from ok hi1 hi2 (by decide)]; exact hf1
    replace hf1 := hide hf1
    obtain ⟨n, hn⟩ : ∃ n, n = l.es.length := ⟨_, rfl⟩
    have hle : Hid (lend l = l.base + n) := by show _ = _; rw [hn]; rfl
    have bdd := ok.bd
    rw [← hn] at bdd
    obtain ⟨⟨bd1, bd2⟩, bd3, bd4, bd5⟩ := bdd
    clear bd3
    have hia : a1 ≤ l.base + n := by rw [← hle.out]; exact hi2
    have hwa : IntKind.i64.wrap (a1 + 1) = a1 + 1 := IntWalk.i64_in _ (by omega)
    replace hk1 := hide hk1
    replace hz := hide hz
    clear ok okk hi2
    generalize lterm l = TT at *
    generalize lend l = E at *
    have hq1 : (E != E) = false := by simp
    have hq2 : (TT E != TT E) = false := by simp
    have K := of15_any _ l _ (HL.out _ (Below.refl _ _)) fit.out.e.f1 fit.out.e.f2
    dsimp only [lv] at K
    replace K := hide K
    obtain ⟨⟨q7_0, q7_1, q7_2⟩, _⟩ := cells3l (X0.out _ (Below.refl _ _))
    go_wp2_with fail
    refine K.out.mono ?_
    rintro e wz8 ⟨v3, rfl, o3, bb⟩
    obtain ⟨b3, c3, rfl⟩ := o3.rdS.slice
    clear K q7_0 q7_1 q7_2
    replace HE := hide (fun U (b : Below wz8.heap.size wz8 U) => HE.out U (bb.trans (b.mono bb.size)))
    replace HL := hide (fun U (b : Below wz8.heap.size wz8 U) => HL.out U (bb.trans (b.mono bb.size)))
    replace X0 := hide (fun U (b : Below wz8.heap.size wz8 U) => X0.out U (bb.trans (b.mono bb.size)))
    replace H2 := hide (fun U (b : Below wz8.heap.size wz8 U) => H2.out U (bb.trans (b.mono bb.size)))
    replace X1 := hide (fun U (b : Below wz8.heap.size wz8 U) => X1.out U (bb.trans (b.mono bb.size)))
    have H3 : Hid (∀ U, Below wz8.heap.size wz8 U → RdC U (.slice b3 l.es.length c3) l.es) := fun U b => o3.rdS.to0 b
    clear o3 bb
    have K := (show Calls _ _ _ _ _ from by have k := S.last _ l _ (H3.out _ (Below.refl _ _)) fit.out; rw [hl1.out] at k; exact k)
    dsimp only [lv] at K
    replace K := hide K
    go_wp2_with fail
    refine K.out.mono ?_
    rintro e wz9 ⟨rfl, bb⟩
    clear K 
    replace HE := hide (fun U (b : Below wz9.heap.size wz9 U) => HE.out U (bb.trans (b.mono bb.size)))
    replace HL := hide (fun U (b : Below wz9.heap.size wz9 U) => HL.out U (bb.trans (b.mono bb.size)))
    replace X0 := hide (fun U (b : Below wz9.heap.size wz9 U) => X0.out U (bb.trans (b.mono bb.size)))
    replace H2 := hide (fun U (b : Below wz9.heap.size wz9 U) => H2.out U (bb.trans (b.mono bb.size)))
    replace X1 := hide (fun U (b : Below wz9.heap.size wz9 U) => X1.out U (bb.trans (b.mono bb.size)))
    replace H3 := hide (fun U (b : Below wz9.heap.size wz9 U) => H3.out U (bb.trans (b.mono bb.size)))
    clear bb
    clear H3
    have K := (show Calls _ _ _ _ _ from by have k := S.last _ k1 _ (H2.out _ (Below.refl _ _)) kfit.out; rw [hl2.out] at k; exact k)
    dsimp only [lv] at K
    replace K := hide K
    obtain ⟨⟨q10_0, q10_1, q10_2⟩, _⟩ := cells3l (X1.out _ (Below.refl _ _))
    go_wp2_with fail
    refine K.out.mono ?_
    rintro e wz11 ⟨rfl, bb⟩
    clear K q10_0 q10_1 q10_2
    replace HE := hide (fun U (b : Below wz11.heap.size wz11 U) => HE.out U (bb.trans (b.mono bb.size)))
    replace HL := hide (fun U (b : Below wz11.heap.size wz11 U) => HL.out U (bb.trans (b.mono bb.size)))
    replace X0 := hide (fun U (b : Below wz11.heap.size wz11 U) => X0.out U (bb.trans (b.mono bb.size)))
    replace H2 := hide (fun U (b : Below wz11.heap.size wz11 U) => H2.out U (bb.trans (b.mono bb.size)))
    replace X1 := hide (fun U (b : Below wz11.heap.size wz11 U) => X1.out U (bb.trans (b.mono bb.size)))
    clear bb
    go_wp2_with fail
    refine (num15_any _ _).mono ?_
    rintro e w' ⟨rfl, rfl⟩
    go_wp2_with fail
    refine (num15_any _ _).mono ?_
    rintro e w' ⟨rfl, rfl⟩
    obtain ⟨⟨g0, g1, g2⟩, _⟩ := cells3l (X0.out _ (Below.refl _ _))
    go_wp2
    clear g0 g1 g2
    go_loopw [13] (fun i wr => ∃ k : Nat, k ≤ n + 1 ∧ i = .int .i64 (l.base + k) ∧ Hid (Below wz11.heap.size wz11 wr)) (fun i _ => (E + 1 - intOf i).toNat)
    case atStart => exact ⟨0, Nat.zero_le _, by simp, hide (Below.refl _ _)⟩
    case round =>
      obtain ⟨k, hk, rfl, hb⟩ := hrel
      have hb0 := hb.out
      replace HE := hide (fun U (b : Below wr.heap.size wr U) => HE.out U (hb0.trans (b.mono hb0.size)))
      replace HL := hide (fun U (b : Below wr.heap.size wr U) => HL.out U (hb0.trans (b.mono hb0.size)))
      replace X0 := hide (fun U (b : Below wr.heap.size wr U) => X0.out U (hb0.trans (b.mono hb0.size)))
      replace H2 := hide (fun U (b : Below wr.heap.size wr U) => H2.out U (hb0.trans (b.mono hb0.size)))
      replace X1 := hide (fun U (b : Below wr.heap.size wr U) => X1.out U (hb0.trans (b.mono hb0.size)))
      clear hb0
      have HB : Hid (∀ U, Below wr.heap.size wr U → Below wr.heap.size wr U) := fun U b => b
      obtain ⟨j, hj⟩ : ∃ j : Int, j = l.base + k := ⟨_, rfl⟩
      have hjl : Hid (l.base ≤ j) := by show _ ≤ _; omega
      have hj64 : Hid (I64 j) := ⟨by omega, by omega⟩
      by_cases hlt : k ≤ n
      case pos =>
        have hq : j ≤ E := by rw [hle.out]; omega
        have hq0 : l.base + (k : Int) ≤ E := by omega
        have hw1 : IntKind.i64.wrap (j + 1) = j + 1 := IntWalk.i64_in _ (by omega)
        rw [← hj]
        rw [← hj] at hq0
        replace hj := hide hj
        have K := of15_any _ l _ (HL.out _ (Below.refl _ _)) fit.out.e.f1 fit.out.e.f2
        dsimp only [lv] at K
        replace K := hide K
        obtain ⟨⟨q12_0, q12_1, q12_2⟩, _⟩ := cells3l (X0.out _ (Below.refl _ _))
        go_wp2_with fail
        refine K.out.mono ?_
        rintro e wz13 ⟨v4, rfl, o4, bb⟩
        obtain ⟨b4, c4, rfl⟩ := o4.rdS.slice
        clear K q12_0 q12_1 q12_2
        replace HE := hide (fun U (b : Below wz13.heap.size wz13 U) => HE.out U (bb.trans (b.mono bb.size)))
        replace HL := hide (fun U (b : Below wz13.heap.size wz13 U) => HL.out U (bb.trans (b.mono bb.size)))
        replace X0 := hide (fun U (b : Below wz13.heap.size wz13 U) => X0.out U (bb.trans (b.mono bb.size)))
        replace H2 := hide (fun U (b : Below wz13.heap.size wz13 U) => H2.out U (bb.trans (b.mono bb.size)))
        replace X1 := hide (fun U (b : Below wz13.heap.size wz13 U) => X1.out U (bb.trans (b.mono bb.size)))
        replace HB := hide (fun U (b : Below wz13.heap.size wz13 U) => HB.out U (bb.trans (b.mono bb.size)))
        have H4 : Hid (∀ U, Below wz13.heap.size wz13 U → RdC U (.slice b4 l.es.length c4) l.es) := fun U b => o4.rdS.to0 b
        clear o4 bb
        have K := (show Calls _ _ _ _ _ from by have k := S.told _ l _ j (H4.out _ (Below.refl _ _)) fit.out hj64.out; rw [ht1.out j hjl.out hq] at k; exact k)
        dsimp only [lv] at K
        replace K := hide K
        go_wp2_with fail
        refine K.out.mono ?_
        rintro e wz14 ⟨rfl, bb⟩
        clear K 
        replace HE := hide (fun U (b : Below wz14.heap.size wz14 U) => HE.out U (bb.trans (b.mono bb.size)))
        replace HL := hide (fun U (b : Below wz14.heap.size wz14 U) => HL.out U (bb.trans (b.mono bb.size)))
        replace X0 := hide (fun U (b : Below wz14.heap.size wz14 U) => X0.out U (bb.trans (b.mono bb.size)))
        replace H2 := hide (fun U (b : Below wz14.heap.size wz14 U) => H2.out U (bb.trans (b.mono bb.size)))
        replace X1 := hide (fun U (b : Below wz14.heap.size wz14 U) => X1.out U (bb.trans (b.mono bb.size)))
        replace HB := hide (fun U (b : Below wz14.heap.size wz14 U) => HB.out U (bb.trans (b.mono bb.size)))
        replace H4 := hide (fun U (b : Below wz14.heap.size wz14 U) => H4.out U (bb.trans (b.mono bb.size)))
        clear bb
        by_cases hlo : j < a1
        case pos =>
          have K := (show Calls _ _ _ _ _ from by have k := S.told _ k1 _ j (H2.out _ (Below.refl _ _)) kfit.out hj64.out; rw [ht2.out j hlo] at k; exact k)
          dsimp only [lv] at K
          replace K := hide K
          obtain ⟨⟨q15_0, q15_1, q15_2⟩, _⟩ := cells3l (X1.out _ (Below.refl _ _))
          go_wp2_with fail
          refine K.out.mono ?_
          rintro e wz16 ⟨rfl, bb⟩
          clear K q15_0 q15_1 q15_2
          replace HE := hide (fun U (b : Below wz16.heap.size wz16 U) => HE.out U (bb.trans (b.mono bb.size)))
          replace HL := hide (fun U (b : Below wz16.heap.size wz16 U) => HL.out U (bb.trans (b.mono bb.size)))
          replace X0 := hide (fun U (b : Below wz16.heap.size wz16 U) => X0.out U (bb.trans (b.mono bb.size)))
          replace H2 := hide (fun U (b : Below wz16.heap.size wz16 U) => H2.out U (bb.trans (b.mono bb.size)))
          replace X1 := hide (fun U (b : Below wz16.heap.size wz16 U) => X1.out U (bb.trans (b.mono bb.size)))
          replace HB := hide (fun U (b : Below wz16.heap.size wz16 U) => HB.out U (bb.trans (b.mono bb.size)))
          replace H4 := hide (fun U (b : Below wz16.heap.size wz16 U) => H4.out U (bb.trans (b.mono bb.size)))
          clear bb
          go_wp2_with fail
          refine (num15_any _ _).mono ?_
          rintro e w' ⟨rfl, rfl⟩
          have hbz : Hid (Below wz11.heap.size wz11 wz16) := hb.out.trans ((HB.out _ (Below.refl _ _)).mono hb.out.size)
          go_wp2
          go_roundw
          case rel => exact ⟨k + 1, by omega, by rw [hj.out]; exact congrArg (Value.int .i64) (by omega), hbz⟩
          case measure => simp [intOf]; omega
        case neg =>
          have hqt : (TT j != TT j) = false := by simp
          have K := (show Calls _ _ _ _ _ from by have k := S.told _ k1 _ j (H2.out _ (Below.refl _ _)) kfit.out hj64.out; rw [ht3.out j (by omega) hq] at k; exact k)
          dsimp only [lv] at K
          replace K := hide K
          obtain ⟨⟨q15_0, q15_1, q15_2⟩, _⟩ := cells3l (X1.out _ (Below.refl _ _))
          go_wp2_with fail
          refine K.out.mono ?_
          rintro e wz16 ⟨rfl, bb⟩
          clear K q15_0 q15_1 q15_2
          replace HE := hide (fun U (b : Below wz16.heap.size wz16 U) => HE.out U (bb.trans (b.mono bb.size)))
          replace HL := hide (fun U (b : Below wz16.heap.size wz16 U) => HL.out U (bb.trans (b.mono bb.size)))
          replace X0 := hide (fun U (b : Below wz16.heap.size wz16 U) => X0.out U (bb.trans (b.mono bb.size)))
          replace H2 := hide (fun U (b : Below wz16.heap.size wz16 U) => H2.out U (bb.trans (b.mono bb.size)))
          replace X1 := hide (fun U (b : Below wz16.heap.size wz16 U) => X1.out U (bb.trans (b.mono bb.size)))
          replace HB := hide (fun U (b : Below wz16.heap.size wz16 U) => HB.out U (bb.trans (b.mono bb.size)))
          replace H4 := hide (fun U (b : Below wz16.heap.size wz16 U) => H4.out U (bb.trans (b.mono bb.size)))
          clear bb
          go_wp2_with fail
          refine (num15_any _ _).mono ?_
          rintro e w' ⟨rfl, rfl⟩
          go_wp2_with fail
          refine (num15_any _ _).mono ?_
          rintro e w' ⟨rfl, rfl⟩
          have hbz : Hid (Below wz11.heap.size wz11 wz16) := hb.out.trans ((HB.out _ (Below.refl _ _)).mono hb.out.size)
          go_wp2
          go_roundw
          case rel => exact ⟨k + 1, by omega, by rw [hj.out]; exact congrArg (Value.int .i64) (by omega), hbz⟩
          case measure => simp [intOf]; omega
      case neg =>
        have hq : ¬ j ≤ E := by rw [hle.out]; omega
        have hq0 : ¬ l.base + (k : Int) ≤ E := by omega
        replace hj := hide hj
        have K := (show Calls _ _ _ _ _ from by have k := S.frm _ k1 _ (a1 + 1) 5000 (H2.out _ (Below.refl _ _)) kfit.out ⟨by omega, by omega⟩ (by decide); rw [hf2.out] at k; exact k)
        dsimp only [lv] at K
        replace K := hide K
        obtain ⟨⟨q12_0, q12_1, q12_2⟩, _⟩ := cells3l (X1.out _ (Below.refl _ _))
        go_wp2_with fail
        refine K.out.mono ?_
        rintro e wz13 ⟨v5, rfl, o5, bb⟩
        obtain ⟨b5, c5, rfl⟩ := o5.rdS.slice
        clear K q12_0 q12_1 q12_2
        replace HE := hide (fun U (b : Below wz13.heap.size wz13 U) => HE.out U (bb.trans (b.mono bb.size)))
        replace HL := hide (fun U (b : Below wz13.heap.size wz13 U) => HL.out U (bb.trans (b.mono bb.size)))
        replace X0 := hide (fun U (b : Below wz13.heap.size wz13 U) => X0.out U (bb.trans (b.mono bb.size)))
        replace H2 := hide (fun U (b : Below wz13.heap.size wz13 U) => H2.out U (bb.trans (b.mono bb.size)))
        replace X1 := hide (fun U (b : Below wz13.heap.size wz13 U) => X1.out U (bb.trans (b.mono bb.size)))
        replace HB := hide (fun U (b : Below wz13.heap.size wz13 U) => HB.out U (bb.trans (b.mono bb.size)))
        have H5 : Hid (∀ U, Below wz13.heap.size wz13 U → RdC U (.slice b5 fr.length c5) fr) := fun U b => o5.rdS.to0 b
        clear o5 bb
        have K := of15_any _ l _ (HL.out _ (Below.refl _ _)) fit.out.e.f1 fit.out.e.f2
        dsimp only [lv] at K
        replace K := hide K
        obtain ⟨⟨q14_0, q14_1, q14_2⟩, _⟩ := cells3l (X0.out _ (Below.refl _ _))
        go_wp2_with fail
        refine K.out.mono ?_
        rintro e wz15 ⟨v6, rfl, o6, bb⟩
        obtain ⟨b6, c6, rfl⟩ := o6.rdS.slice
        clear K q14_0 q14_1 q14_2
        replace HE := hide (fun U (b : Below wz15.heap.size wz15 U) => HE.out U (bb.trans (b.mono bb.size)))
        replace HL := hide (fun U (b : Below wz15.heap.size wz15 U) => HL.out U (bb.trans (b.mono bb.size)))
        replace X0 := hide (fun U (b : Below wz15.heap.size wz15 U) => X0.out U (bb.trans (b.mono bb.size)))
        replace H2 := hide (fun U (b : Below wz15.heap.size wz15 U) => H2.out U (bb.trans (b.mono bb.size)))
        replace X1 := hide (fun U (b : Below wz15.heap.size wz15 U) => X1.out U (bb.trans (b.mono bb.size)))
        replace HB := hide (fun U (b : Below wz15.heap.size wz15 U) => HB.out U (bb.trans (b.mono bb.size)))
        replace H5 := hide (fun U (b : Below wz15.heap.size wz15 U) => H5.out U (bb.trans (b.mono bb.size)))
        have H6 : Hid (∀ U, Below wz15.heap.size wz15 U → RdC U (.slice b6 l.es.length c6) l.es) := fun U b => o6.rdS.to0 b
        clear o6 bb
        have K := (show Calls _ _ _ _ _ from by have k := S.frm _ l _ (a1 + 1) 5000 (H6.out _ (Below.refl _ _)) fit.out ⟨by omega, by omega⟩ (by decide); rw [hf1.out] at k; exact k)
        dsimp only [lv] at K
        replace K := hide K
        go_wp2_with fail
        refine K.out.mono ?_
        rintro e wz16 ⟨v7, rfl, o7, bb⟩
        obtain ⟨b7, c7, rfl⟩ := o7.rdS.slice
        clear K 
        replace HE := hide (fun U (b : Below wz16.heap.size wz16 U) => HE.out U (bb.trans (b.mono bb.size)))
        replace HL := hide (fun U (b : Below wz16.heap.size wz16 U) => HL.out U (bb.trans (b.mono bb.size)))
        replace X0 := hide (fun U (b : Below wz16.heap.size wz16 U) => X0.out U (bb.trans (b.mono bb.size)))
        replace H2 := hide (fun U (b : Below wz16.heap.size wz16 U) => H2.out U (bb.trans (b.mono bb.size)))
        replace X1 := hide (fun U (b : Below wz16.heap.size wz16 U) => X1.out U (bb.trans (b.mono bb.size)))
        replace HB := hide (fun U (b : Below wz16.heap.size wz16 U) => HB.out U (bb.trans (b.mono bb.size)))
        replace H5 := hide (fun U (b : Below wz16.heap.size wz16 U) => H5.out U (bb.trans (b.mono bb.size)))
        replace H6 := hide (fun U (b : Below wz16.heap.size wz16 U) => H6.out U (bb.trans (b.mono bb.size)))
        have H7 : Hid (∀ U, Below wz16.heap.size wz16 U → RdC U (.slice b7 fr.length c7) fr) := fun U b => o7.rdS.to0 b
        clear o7 bb
        have K := sentries_any _ _ _ fr (H5.out _ (Below.refl _ _)) (H7.out _ (Below.refl _ _))
        replace K := hide K
        go_wp2_with fail
        refine K.out.mono ?_
        rintro e wz17 ⟨rfl, n, hn⟩
        have bb : Below wz16.heap.size wz16 wz17 := by rw [hn]; exact below_drewN' _ _ _
        clear hn
        clear K 
        replace HE := hide (fun U (b : Below wz17.heap.size wz17 U) => HE.out U (bb.trans (b.mono bb.size)))
        replace HL := hide (fun U (b : Below wz17.heap.size wz17 U) => HL.out U (bb.trans (b.mono bb.size)))
        replace X0 := hide (fun U (b : Below wz17.heap.size wz17 U) => X0.out U (bb.trans (b.mono bb.size)))
        replace H2 := hide (fun U (b : Below wz17.heap.size wz17 U) => H2.out U (bb.trans (b.mono bb.size)))
        replace X1 := hide (fun U (b : Below wz17.heap.size wz17 U) => X1.out U (bb.trans (b.mono bb.size)))
        replace HB := hide (fun U (b : Below wz17.heap.size wz17 U) => HB.out U (bb.trans (b.mono bb.size)))
        replace H5 := hide (fun U (b : Below wz17.heap.size wz17 U) => H5.out U (bb.trans (b.mono bb.size)))
        replace H6 := hide (fun U (b : Below wz17.heap.size wz17 U) => H6.out U (bb.trans (b.mono bb.size)))
        replace H7 := hide (fun U (b : Below wz17.heap.size wz17 U) => H7.out U (bb.trans (b.mono bb.size)))
        clear bb
        have HEE := hide (HE.out _ (Below.refl _ _))
        go_wp2
        go_ret
        exact ⟨rfl, HEE.out⟩
end Go.Proofs.Ytfalhboahdccmaa.raftlogCompacts
