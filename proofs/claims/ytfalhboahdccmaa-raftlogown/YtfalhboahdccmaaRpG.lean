/-
  The program's joined: entries put behind the first ones of a log.
-/
import Derived.Test.YtfalhboahdccmaaRpE
import Derived.Test.YtfalhboahdccmaaRpF
namespace Go.Proofs.Ytfalhboahdccmaa
open Go.RowKit
set_option linter.unusedVariables false
set_option linter.unusedSimpArgs false

/-- what lies there while entries are joined -/
structure JS (w : World) (base bt : Int) (wr : World) (tv : Value) (xs : List Wrt) : Prop where
  bel : Below w.heap.size w wr
  sz : w.heap.size + 2 ≤ wr.heap.size
  box : wr.heap[w.heap.size]? = some (.cells #[.int .i64 base, .int .i64 bt, tv] 28 (0, 0))
  res : wr.heap[w.heap.size + 1]? = some (.cells #[.int .i64 0, .int .i64 0, .slice none 0 0] 28 (0, 0))
  ev : EvA w (w.heap.size + 2) wr tv xs
theorem JS.to {w : World} {base bt : Int} {wr w' : World} {tv : Value} {xs : List Wrt} (h : JS w base bt wr tv xs) (b : Below wr.heap.size wr w') : JS w base bt w' tv xs :=
  ⟨h.bel.trans (b.mono h.bel.size), Nat.le_trans h.sz b.size, (b.block _ (lt_of_block h.box)).trans h.box, (b.block _ (lt_of_block h.res)).trans h.res, h.ev.to b⟩
theorem JS.rd {w : World} {base bt : Int} {wr : World} {tv : Value} {xs : List Wrt} (h : JS w base bt wr tv xs) : RdC wr tv xs := h.ev.rd h.bel
theorem JS.put {w : World} {base bt : Int} {wr w' : World} {tv tv' : Value} {xs ys : List Wrt} (h : JS w base bt wr tv xs) (b : Below (w.heap.size + 2) wr w') (e : EvA w (w.heap.size + 2) w' tv' ys) : JS w base bt (w'.setCell ⟨w.heap.size, 2, none⟩ tv') tv' ys := by
  have hs := h.sz
  have hb : w'.heap[w.heap.size]? = some (.cells #[.int .i64 base, .int .i64 bt, tv] 28 (0, 0)) := (b.block _ (by omega)).trans h.box
  have hr : w'.heap[w.heap.size + 1]? = some (.cells #[.int .i64 0, .int .i64 0, .slice none 0 0] 28 (0, 0)) := (b.block _ (by omega)).trans h.res
  refine ⟨(h.bel.trans (b.mono (by omega))).setCell (p := ⟨w.heap.size, 2, none⟩) (Nat.le_refl _) _, ?_, heap_set1l hb _, (Below.heap_setCell w' ⟨w.heap.size, 2, none⟩ tv' (w.heap.size + 1) (show w.heap.size + 1 ≠ w.heap.size by omega)).trans hr, e.keep fun k h1 h2 => Below.heap_setCell w' ⟨w.heap.size, 2, none⟩ tv' k (show k ≠ w.heap.size by omega)⟩
  have := b.size
  simp
  omega
theorem JS.res3 {w : World} {base bt : Int} {wr : World} {tv : Value} {xs : List Wrt} (h : JS w base bt wr tv xs) (x y z : Value) :
    (((wr.setCell ⟨w.heap.size + 1, 0, none⟩ x).setCell ⟨w.heap.size + 1, 1, none⟩ y).setCell ⟨w.heap.size + 1, 2, none⟩ z).heap[w.heap.size + 1]? = some (.cells #[x, y, z] 28 (0, 0)) ∧
      Below w.heap.size w (((wr.setCell ⟨w.heap.size + 1, 0, none⟩ x).setCell ⟨w.heap.size + 1, 1, none⟩ y).setCell ⟨w.heap.size + 1, 2, none⟩ z) :=
  ⟨heap_set3l h.res _ _ _, below_set3l h.bel (by omega) _ _ _⟩
theorem ljoin_no {t : Lg} {e : Wrt} {r : List Wrt} (h : lref t e ≠ 0) : ljoin t (e :: r) = (lnil, lref t e) := if_neg h
theorem ljoin_yes {t : Lg} {e : Wrt} {r : List Wrt} (h : lref t e = 0) : ljoin t (e :: r) = ljoin ⟨t.base, t.bt, t.es ++ [e]⟩ r := if_pos h
theorem lref_ok {t : Lg} {e : Wrt} (ok : LOk t) (h : lref t e = 0) : LOk ⟨t.base, t.bt, t.es ++ [e]⟩ := by
  have := lapp_ref ok e
  rw [if_pos h] at this
  have h3 := (lapp_ok (t := t) (y := e) (by rw [this])).1
  rw [this] at h3
  exact h3
set_option maxRecDepth 100000 in
set_option maxHeartbeats 8000000 in
theorem pjoined15_any (w : World) (l : Lg) (v : Value) (n : Nat) (es : List Wrt) (esv : Value) (h : RdC w v l.es) (ok : LOk l) (hn : n ≤ l.es.length) (he : RdC w esv es) :
    Calls Try.prog 35 #[lv l v, .int .i64 n, esv] w fun e w' =>
      ∃ v', e = .returned (.tuple #[lv (ljoin (ltk l n) es).1 v', .int .i64 (ljoin (ltk l n) es).2]) ∧ Own SEntB w.heap.size w' [v'] (ljoin (ltk l n) es).1.es ∧ Below w.heap.size w w' := by
  obtain ⟨W, hW, D, Z, bW, sW⟩ := boxesP w l.base l.bt v
  have le := he.bd
  obtain ⟨a, cp, rfl⟩ := h.slice
  obtain ⟨ea, ec, rfl⟩ := he.slice
  have KU := hide (pcut15_any W l a cp n (h.to0 bW) hn)
  have okn : LOk (ltk l n) := lok_take ok n
  have J0 : Hid (∀ w1, Below W.heap.size W w1 → JS w l.base l.bt (((w1.setCell ⟨w.heap.size, 0, none⟩ (.int .i64 l.base)).setCell ⟨w.heap.size, 1, none⟩ (.int .i64 l.bt)).setCell ⟨w.heap.size, 2, none⟩ (.slice a n n)) (.slice a n n) (l.es.take n)) := fun w1 b1 => by
    have e1 := (b1.block _ (lt_of_block D)).trans D
    have e2 := (b1.block _ (lt_of_block Z)).trans Z
    have hne : w.heap.size + 1 ≠ w.heap.size := by omega
    have hl : (l.es.take n).length = n := by rw [List.length_take]; omega
    refine ⟨below_set3l (bW.trans (b1.mono bW.size)) (Nat.le_refl _) _ _ _, by have := b1.size; simp; omega, heap_set3l e1 _ _ _, ?_, .inl ⟨a, by rw [hl], rd_cut15 h hn⟩⟩
    rw [Below.heap_setCell _ _ _ _ hne, Below.heap_setCell _ _ _ _ hne, Below.heap_setCell _ _ _ _ hne]
    exact e2
  have HE := hide he
  clear h he ok
  obtain ⟨RR, hRR⟩ : ∃ R, R = ljoin (ltk l n) es := ⟨_, rfl⟩
  rw [← hRR]
  have ST : Hid (∃ t : Lg, LOk t ∧ t.base = l.base ∧ t.bt = l.bt ∧ t.es = l.es.take n ∧ RR = ljoin t (es.drop 0)) := ⟨ltk l n, okn, rfl, rfl, rfl, hRR⟩
  clear hRR okn
  have HD : Hid (∀ w1, Below W.heap.size W w1 → w1.heap[w.heap.size]? = some (.cells #[.int .i64 l.base, .int .i64 l.bt, .slice a l.es.length cp] 28 (0, 0))) := fun w1 b1 => (b1.block _ (lt_of_block D)).trans D
  obtain ⟨⟨D0, D1, D2⟩, _⟩ := cells3l D
  obtain ⟨base, bt, les⟩ := l
  dsimp only [lv, ltk] at KU ⊢
  dsimp only at J0 ST HD D0 D1 D2 hn hW
  generalize hm : es.length = m at *
  replace hm := hide hm
  generalize les.length = q at *
  rw [hW] at D0 D1 D2 KU
  clear D Z bW sW
  go_enter Try.func35, Try.ntmps35
  go_wp2_with fail
  refine KU.out.mono ?_
  rintro e w1 ⟨rfl, b1⟩
  rw [← hW] at b1
  clear D0 D1 D2 KU hW
  obtain ⟨⟨D0, D1, D2⟩, Df⟩ := cells3l (HD.out w1 b1)
  have Df0 := Df 0
  have Df1 := Df 1
  have Df2 := Df 2
  have J1 := hide (J0.out w1 b1)
  clear Df J0 HD b1
  go_wp2
  clear D0 D1 D2 Df0 Df1 Df2
  go_loopw [16] (fun i wr => ∃ k : Nat, k ≤ m ∧ i = .int .i64 k ∧ Hid (∃ (t : Lg) (tv : Value), LOk t ∧ t.base = base ∧ t.bt = bt ∧ RR = ljoin t (es.drop k) ∧ JS w base bt wr tv t.es)) (fun i _ => m - (intOf i).toNat)
  case atStart =>
    obtain ⟨t, h1, h2, h3, h4, h5⟩ := ST.out
    exact ⟨0, Nat.zero_le _, rfl, t, _, h1, h2, h3, h5, by rw [h4]; exact J1.out⟩
  case round =>
    obtain ⟨k, hk, rfl, hI⟩ := hrel
    clear J1 ST
    obtain ⟨t, tv, ok, e1, e2, eR, J⟩ := hI.out
    obtain ⟨tb, tt, tes⟩ := t
    dsimp only at e1 e2 J
    replace e1 := e1.symm
    replace e2 := e2.symm
    subst e1 e2
    obtain ⟨ta, tc, rfl⟩ := J.rd.slice
    have lk := ok.bd
    dsimp only at lk
    by_cases hlt : k < m
    · have hq : (k : Int) < (m : Int) := by omega
      obtain ⟨y, hy⟩ := some_el15 es (k := k) (by rw [hm.out]; exact hlt)
      have hdr : es.drop k = y :: es.drop (k + 1) := by
        obtain ⟨q1, q2⟩ := List.getElem?_eq_some_iff.1 hy
        rw [List.drop_eq_getElem_cons q1, q2]
      rw [hdr] at eR
      have hr0 := HE.out
      obtain ⟨bl, ol, u, rfl, x0, x1, hr⟩ := (HE.out.to0 J.bel).wrt hy
      obtain ⟨_, _, u0, e0, _, y1, hr0⟩ := HE.out.wrt hy
      simp only [Option.some.injEq, Addr.mk.injEq, and_true] at e0
      obtain ⟨rfl, rfl⟩ := e0
      have hu0 : u0 = u := by
        have := (J.bel.cell (cell_lt y1)).trans y1
        rw [x1] at this
        exact (Option.some.inj this).symm
      subst hu0
      obtain ⟨au, cu, rfl⟩ := hr.slice
      obtain ⟨X, hX, X0, bX, sX⟩ := boxedN wr #[.int .i64 y.1, .slice au y.2.length cu] 27
      have JX := J.to bX
      have KF := hide (pref15_any X ⟨base, bt, tes⟩ _ y _ JX.rd ok.lb (hr.to bX))
      have NO : Hid (lref ⟨base, bt, tes⟩ y ≠ 0 → RR = (lnil, lref ⟨base, bt, tes⟩ y)) := fun q => eR.trans (ljoin_no q)
      have YES : Hid (lref ⟨base, bt, tes⟩ y = 0 → LOk ⟨base, bt, tes ++ [y]⟩ ∧ RR = ljoin ⟨base, bt, tes ++ [y]⟩ (es.drop (k + 1))) := fun q => ⟨lref_ok ok q, eR.trans (ljoin_yes q)⟩
      have JXH := hide JX
      have AP : Hid (∀ w2, Below X.heap.size X w2 → ∃ v' w', (Builtin.append_ #[22, 22] 22 #[.slice ta tes.length tc, .slice (some ⟨w2.heap.size, 0, none⟩) 1 1]).run Try.prog (w2.alloc (.cells #[.int .i64 y.1, .slice au y.2.length cu] 27)) = .ok v' w' ∧
          Hid (JS w base bt (w'.setCell ⟨w.heap.size, 2, none⟩ v') v' (tes ++ [y])) ∧ Hid (w'.heap[w.heap.size]? = some (.cells #[.int .i64 base, .int .i64 bt, .slice ta tes.length tc] 28 (0, 0)))) := fun w2 b2 => by
        have b3 : Below w2.heap.size w2 (w2.alloc (.cells #[.int .i64 y.1, .slice au y.2.length cu] 27)) := (Below.refl _ _).alloc (Nat.le_refl _) _
        have J3 := (JX.to b2).to b3
        obtain ⟨v', w', q1, q2, q3⟩ := J3.ev.app J3.bel J3.sz 22 (g := w2.heap.size) (c := 1) (y := y) (heap_alloc_last w2 _) hr0 (by omega)
        exact ⟨v', w', q1, J3.put q3 q2, (q3.block _ (by omega)).trans J3.box⟩
      obtain ⟨⟨p0, p1⟩, _⟩ := cells2l X0
      obtain ⟨⟨D0, D1, D2⟩, _⟩ := cells3l JX.box
      have XX : Hid (∀ U, Below X.heap.size X U → (U.cell? ⟨wr.heap.size, 0, none⟩ = some (.int .i64 y.1) ∧ U.cell? ⟨wr.heap.size, 1, none⟩ = some (.slice au y.2.length cu))) := fun U b => ⟨(b.cell (cell_lt p0)).trans p0, (b.cell (cell_lt p1)).trans p1⟩
      dsimp only [lv, ev] at KF
      clear hr hr0 hy bX sX X0 eR hI J JX hdr ok y1
      obtain ⟨t, x⟩ := y
      dsimp only at x0 x1 p0 p1 KF XX AP hX
      generalize lref ⟨base, bt, tes⟩ (t, x) = F at *
      generalize hL : x.length = L at *
      replace hL := hide hL
      rw [hX] at p0 p1 D0 D1 D2 KF
      go_wp2_with fail
      refine KF.out.mono ?_
      rintro e w2 ⟨rfl, b2⟩
      rw [← hX] at b2
      have B2 := hide b2
      clear p0 p1 D0 D1 D2 KF x0 x1 b2
      replace hX := hide hX
      have J2 := JXH.out.to B2.out
      obtain ⟨⟨D0, D1, D2⟩, Df⟩ := cells3l J2.box
      obtain ⟨⟨Q0, Q1, Q2⟩, Qf⟩ := cells3l J2.res
      have Qf0 := Qf 0
      have Qf1 := Qf 1
      have Qf2 := Qf 2
      by_cases g : F = 0
      case neg =>
        have hE := hide (NO.out g)
        have g' : (F != 0) = true := by simpa using g
        have J2H := hide J2
        clear Df Qf J2
        replace g := hide g
        go_wp2
        refine retNT rfl rfl (w.heap.size + 1) rfl _ _ (0, 0) (J2H.out.res3 _ _ _).1 _ Try.underlying28 rfl info_lgP (.int .i64 F) rfl ?_
        rw [hE.out]
        exact ⟨.slice none 0 0, rfl, Own.nil _ _ _ _, (J2H.out.res3 _ _ _).2⟩
      obtain ⟨p0, p1⟩ := XX.out _ B2.out
      have hN := hide (YES.out g)
      subst g
      obtain ⟨v', w', hap, JN, hbx⟩ := AP.out w2 B2.out
      obtain ⟨va, vc, rfl⟩ : ∃ va vc, v' = .slice va (tes.length + 1) vc := by
        obtain ⟨va, vc, e⟩ := JN.out.rd.slice
        exact ⟨va, vc, by rw [e]; simp⟩
      obtain ⟨⟨G0, G1, G2⟩, Gf⟩ := cells3l hbx.out
      have Gf2 := Gf 2
      clear Df Qf Gf J2 Q0 Q1 Q2 Qf0 Qf1 Qf2 NO YES AP
      go_wp2_with (at_builtin; refine Lib.wpList_append_run _ rfl _ _ _ _ rfl _ _ rfl rfl _ _ hap ?_)
      go_roundw
      case rel => exact ⟨k + 1, by omega, by go_num, hide ⟨⟨base, bt, tes ++ [(t, x)]⟩, _, hN.out.1, rfl, rfl, hN.out.2, JN.out⟩⟩
      case measure => simp [intOf]; omega
    · have hq : ¬ (k : Int) < (m : Int) := by omega
      obtain rfl : k = m := by omega
      have hE : Hid (RR = (⟨base, bt, tes⟩, 0)) := by
        show _ = _
        rw [eR, List.drop_of_length_le (by rw [hm.out]; omega)]
        rfl
      have KC := hide (pcopy15_any wr ⟨base, bt, tes⟩ _ J.rd (by dsimp only; omega) (fun x hx => by have := ok.len x hx; omega))
      obtain ⟨⟨D0, D1, D2⟩, _⟩ := cells3l J.box
      have JH := hide J
      dsimp only [lv] at KC
      clear eR hI J ok
      go_wp2_with fail
      refine KC.out.mono ?_
      rintro e w2 ⟨v', rfl, o2, b2⟩
      clear D0 D1 D2 KC
      have J2 := hide (JH.out.to b2)
      obtain ⟨⟨Q0, Q1, Q2⟩, Qf⟩ := cells3l J2.out.res
      have Qf0 := Qf 0
      have Qf1 := Qf 1
      have Qf2 := Qf 2
      have hs := JH.out.sz
      have OO := hide ((own_set3l o2 (g := w.heap.size + 1) (by omega) (.int .i64 base) (.int .i64 bt) v').mono (show w.heap.size ≤ wr.heap.size by omega))
      obtain ⟨va, vc, rfl⟩ := o2.rdS.slice
      clear Qf o2 b2
      go_wp2
      refine retNT rfl rfl (w.heap.size + 1) rfl _ _ (0, 0) (J2.out.res3 _ _ _).1 _ Try.underlying28 rfl info_lgP (.int .i64 0) rfl ?_
      rw [hE.out]
      exact ⟨_, rfl, OO.out, (J2.out.res3 _ _ _).2⟩
end Go.Proofs.Ytfalhboahdccmaa
