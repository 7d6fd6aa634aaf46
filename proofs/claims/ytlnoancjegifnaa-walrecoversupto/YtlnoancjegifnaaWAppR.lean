/-
  The page's Append of logs.
-/
import Derived.Test.YtlnoancjegifnaaWOwnR
namespace Go.Proofs.Ytlnoancjegifnaa
open Go.RowKit
set_option linter.unusedVariables false

theorem own_wzero (T B : Nat) (w : World) : Own (SLg T) B w [.slice none 0 0, .int .i64 0, .slice none 0 0] wzero := ⟨[], (ownLg_nil T w 0).1, List.nodup_nil, fun b hb => by cases hb⟩
theorem WOk.fit {l : Wlg} (h : WOk l) (hm : ∀ s ∈ l.1, s.2.length ≤ 16777216) : wfit l := by
  obtain ⟨⟨k1, _, k2⟩, k3, _⟩ := h
  exact ⟨by omega, fun x hx => by have := hm x hx; omega, by omega, fun y hy => by have := k3 y hy; omega⟩
/-- a log's box, and the answer's behind it -/
theorem boxes3 (w : World) (x y z : Value) (t : TypeId) : ∃ W, W = (w.alloc (.cells #[x, y, z] t)).alloc (.cells #[.slice none 0 0, .int .i64 0, .slice none 0 0] t) ∧ W.heap[w.heap.size]? = some (.cells #[x, y, z] t (0, 0)) ∧ W.heap[w.heap.size + 1]? = some (.cells #[.slice none 0 0, .int .i64 0, .slice none 0 0] t (0, 0)) ∧ Below w.heap.size w W ∧ W.heap.size = w.heap.size + 1 + 1 := by
  refine ⟨_, rfl, ?_, ?_, ((Below.refl _ _).alloc (Nat.le_refl _) _).alloc (by simp) _, by simp⟩
  · rw [Below.heap_alloc _ _ _ (by simp)]; exact heap_alloc_last w _
  · have := heap_alloc_last (w.alloc (.cells #[x, y, z] t)) (.cells #[.slice none 0 0, .int .i64 0, .slice none 0 0] t); simpa using this

set_option maxRecDepth 100000 in
set_option maxHeartbeats 4000000 in
theorem rwappend_any (w : World) (sv wv rv : Value) (l : Wlg) (rs : List (List UInt8)) (h1 : RdC w sv l.1) (h2 : RdSec w wv l.2.2) (h3 : RdSec w rv rs) (hm : ∀ s ∈ l.1, s.2.length ≤ 16777216) (hrl : rs.length ≤ 10000000000000) :
    Calls Try.prog 12 #[.agg #[sv, .int .i64 l.2.1, wv], rv] w fun e w' => ∃ sv' wv', e = .returned (.tuple #[.agg #[sv', .int .i64 (wappend l rs).1.2.1, wv'], .int .i64 (wappend l rs).2]) ∧ Own SLogR w.heap.size w' [sv', .int .i64 (wappend l rs).1.2.1, wv'] (wappend l rs).1 ∧ Below w.heap.size w w' := by
  obtain ⟨i0, hi, hz0, hz1, hz2⟩ := info_parts infoB
  obtain ⟨a1, c1, rfl⟩ := h1.slice
  obtain ⟨a2, c2, rfl⟩ := h2.slice
  obtain ⟨a3, c3, rfl⟩ := h3.slice
  obtain ⟨W, hW, hA, hZ, bW, sW⟩ := boxes3 w (.slice a1 l.1.length c1) (.int .i64 l.2.1) (.slice a2 l.2.2.length c2) 25
  have KC := hide (rwcheck_any W _ _ l (h1.to0 bW) (h2.to0 bW) hm)
  obtain ⟨⟨A0, A1, A2⟩, _⟩ := cells3 hA
  rw [hW] at A0 A1 A2
  go_enter Try.func12, Try.ntmps12
  by_cases hok : WOk l
  · rw [wcheck_ok hok] at KC
    go_wp2_with fail
    rw [← hW]
    replace hW := hide hW
    refine KC.out.mono ?_
    rintro e w1 ⟨rfl, b1⟩
    clear KC A0 A1 A2
    have c1w := hide (bW.trans (b1.mono bW.size))
    have A' := hide ((b1.block _ (lt_of_block hA)).trans hA)
    have Z' := hide ((b1.block _ (lt_of_block hZ)).trans hZ)
    have H1 := hide (h1.to0 c1w.out)
    have H2 := hide (h2.to0 c1w.out)
    have H3 := hide (h3.to0 c1w.out)
    have s1 : w.heap.size + 1 + 1 ≤ w1.heap.size := by have := b1.size; omega
    have HOK := hide hok
    clear hA hZ bW b1 h1 h2 h3 hok
    go_wp2
    go_loopw [6] (fun i wr => ∃ K : Nat, K ≤ rs.length ∧ i = .int .i64 K ∧ w1 = wr ∧ Hid (∀ j r, j < K → rs[j]? = some r → r.length ≤ 4096)) (fun i _ => rs.length - (intOf i).toNat)
    case atStart => exact ⟨0, Nat.zero_le _, rfl, rfl, hide (fun j r hj => by omega)⟩
    case round =>
      obtain ⟨K, hK, rfl, rfl, hI⟩ := hrel
      by_cases hlt : K < rs.length
      · have hq : (K : Int) < (rs.length : Int) := by omega
        obtain ⟨r, hr, hrm⟩ := some_at rs hlt
        obtain ⟨b1, o1, u, rfl, hc, hru⟩ := H3.out.oct hr
        obtain ⟨ua, uc, rfl⟩ := hru.slice
        by_cases hl : 4096 < r.length
        · have hql : (4096 : Int) < (r.length : Int) := by omega
          have hE := hide (wappend_5 (l := l) (rs := rs) HOK.out (fun h => by have := h r hrm; omega))
          obtain ⟨⟨z0, z1, z2⟩, zf⟩ := cells3 Z'.out
          have y0 := zf 0
          have y1 := zf 1
          have y2 := zf 2
          clear hru hr
          go_wp2
          refine retNT rfl rfl (w.heap.size + 1) rfl _ _ (0, 0) (heap_set3 (u := w1) Z'.out _ _ _) _ Try.underlying25 rfl info_lgR _ rfl ?_
          rw [hE.out]
          exact ⟨_, _, rfl, own_wzero _ _ _, below_set3 c1w.out (show w.heap.size ≤ w.heap.size + 1 by omega) _ _ _⟩
        · have hql : ¬ (4096 : Int) < (r.length : Int) := by omega
          have hI' : Hid (∀ j r, j < K + 1 → rs[j]? = some r → r.length ≤ 4096) := fun j r' hj hr' => by
            by_cases e : j = K
            · subst e; rw [hr] at hr'; cases hr'; omega
            · exact hI.out j r' (by omega) hr'
          clear hru hr
          go_wp2
          go_roundw
          case rel => exact ⟨K + 1, by omega, by go_num, trivial, hI'⟩
          case measure => simp [intOf]; omega
      · have hq : ¬ (K : Int) < (rs.length : Int) := by omega
        obtain rfl : K = rs.length := by omega
        have hW3 : Hid (wwaitOk rs) := fun r hr => by
          obtain ⟨j, hj, e⟩ := List.mem_iff_getElem.1 hr
          exact hI.out j r hj (by rw [List.getElem?_eq_getElem hj, e])
        obtain ⟨⟨A0, A1, A2⟩, _⟩ := cells3 A'.out
        have hwl : l.2.2.length ≤ 4096 := HOK.out.1.2.2
        clear hI
        by_cases hs : 4096 < l.2.2.length + rs.length
        · have hqs : (4096 : Int) < (l.2.2.length : Int) + (rs.length : Int) := by omega
          have hE := hide (wappend_3 (l := l) (rs := rs) HOK.out hW3.out hs)
          obtain ⟨⟨z0, z1, z2⟩, zf⟩ := cells3 Z'.out
          have y0 := zf 0
          have y1 := zf 1
          have y2 := zf 2
          replace hs := hide hs
          go_wp2
          refine retNT rfl rfl (w.heap.size + 1) rfl _ _ (0, 0) (heap_set3 (u := w1) Z'.out _ _ _) _ Try.underlying25 rfl info_lgR _ rfl ?_
          rw [hE.out]
          exact ⟨_, _, rfl, own_wzero _ _ _, below_set3 c1w.out (show w.heap.size ≤ w.heap.size + 1 by omega) _ _ _⟩
        · have hqs : ¬ (4096 : Int) < (l.2.2.length : Int) + (rs.length : Int) := by omega
          have hE := hide (wappend_0 (l := l) (rs := rs) HOK.out hW3.out hs)
          have KO := hide (rwown_any w1 _ _ l H1.out H2.out (HOK.out.fit hm))
          replace hs := hide hs
          go_wp2_with fail
          refine KO.out.mono ?_
          rintro e w2 ⟨ts, tw, rfl, o2, b2⟩
          clear KO A0 A1 A2
          obtain ⟨F0, hF0, hFB0⟩ := o2.foot
          obtain ⟨ta, tc, tb, td, rfl, rfl⟩ : ∃ ta tc tb td, ts = .slice ta l.1.length tc ∧ tw = .slice tb l.2.2.length td := by
            obtain ⟨F1, F2, _, p1, p2, _⟩ := OwnF.split (c := [ts]) (d := [.int .i64 l.2.1, tw]) hF0 rfl
            obtain ⟨F3, F4, _, p3, p4, _⟩ := OwnF.split (c := [.int .i64 l.2.1]) (d := [tw]) p2 rfl
            obtain ⟨v, e1, r1⟩ := p1.rd
            obtain ⟨v', e2, r2⟩ := p4.rd
            simp at e1 e2; subst e1 e2
            obtain ⟨ta, tc, rfl⟩ := r1.slice
            obtain ⟨tb, td, rfl⟩ := r2.slice
            exact ⟨_, _, _, _, rfl, rfl⟩
          obtain ⟨X, hX, X0, bX, sX⟩ := boxedN w2 #[.slice ta l.1.length tc, .int .i64 l.2.1, .slice tb l.2.2.length td] 25
          obtain ⟨g7, hg7⟩ : ∃ g, g = w2.heap.size := ⟨_, rfl⟩
          have s2 := b2.size
          rw [← hg7] at X0
          have ST0 : Hid (BoxLg SLogR 25 g7 w1.heap.size X (.slice ta l.1.length tc) (.slice tb l.2.2.length td) (l.1, l.2.1, l.2.2 ++ rs.take 0) ∧ Below w1.heap.size w1 X) :=
            ⟨⟨X0, F0, by rw [List.take_zero, List.append_nil]; exact hF0.to bX, hFB0, fun h => by have := hF0.lt _ h; omega⟩, b2.trans (bX.mono s2)⟩
          have hl7 : w1.heap.size ≤ g7 := by omega
          clear hF0 hFB0 o2 b2 bX X0
          go_wp2
          rw [← hX, ← hg7]
          replace hX := hide hX
          replace hg7 := hide hg7
          go_loopw [8] (fun i wr => ∃ (k : Nat) (c : Value), k ≤ rs.length ∧ i = .int .i64 k ∧ Hid (BoxLg SLogR 25 g7 w1.heap.size wr (.slice ta l.1.length tc) c (l.1, l.2.1, l.2.2 ++ rs.take k) ∧ Below w1.heap.size w1 wr)) (fun i _ => rs.length - (intOf i).toNat)
          case atStart => exact ⟨0, _, Nat.zero_le _, rfl, ST0⟩
          case round =>
            obtain ⟨k, c, hk, rfl, hI⟩ := hrel
            clear ST0
            obtain ⟨⟨hT, F, hF, hFB, hgF⟩, hb⟩ := hI.out
            dsimp only at hT
            obtain ⟨⟨T0, T1, T2⟩, _⟩ := cells3 hT
            have hsz : g7 < wr.heap.size := lt_of_block hT
            by_cases hlt : k < rs.length
            · have hq : (k : Int) < (rs.length : Int) := by omega
              obtain ⟨x, hxk, hxm⟩ := some_at rs hlt
              obtain ⟨b1, o1, u, rfl, hc, hr⟩ := (H3.out.to0 hb).oct hxk
              obtain ⟨au, cu, rfl⟩ := hr.slice
              obtain ⟨N, hN⟩ : ∃ N, N = l.2.2.length + k := ⟨_, rfl⟩
              obtain ⟨cc, rowT, fin⟩ := OwnF.litSnd (c0 := [.slice ta l.1.length tc, .int .i64 l.2.1]) (OwnF.assoc hF) rfl (n := N) (by simp; omega)
              have hsn : l.2.2 ++ rs.take k ++ [x] = l.2.2 ++ rs.take (k + 1) := by rw [List.append_assoc, snoc_take rs hxk]
              have hxl := hW3.out x hxm
              have FIN : Hid (∀ (w2 : World) (v2 : Value) (w5 : World) (g cap : Nat), Below wr.heap.size wr.drew w2 → OwnB wr.heap.size w2 v2 x → (w2.alloc (.cells #[v2] 54)).grownBy w5 c.ownBlock →
                  w5.ownsRow 0 54 1 (.slice (some ⟨g, 0, none⟩) (N + 1) cap) (N + 1) (cc ++ [v2]) → (c.ownBlock = some g ∨ g = w2.heap.size + 1) →
                  (w5.cell? ⟨g7, 2, none⟩ = some c ∧ w5.frozen? ⟨g7, 2, none⟩ = false) ∧ Hid (BoxLg SLogR 25 g7 w1.heap.size (w5.setCell ⟨g7, 2, none⟩ (.slice (some ⟨g, 0, none⟩) (N + 1) cap)) (.slice ta l.1.length tc) (.slice (some ⟨g, 0, none⟩) (N + 1) cap) (l.1, l.2.1, l.2.2 ++ rs.take (k + 1)) ∧ Below w1.heap.size w1 (w5.setCell ⟨g7, 2, none⟩ (.slice (some ⟨g, 0, none⟩) (N + 1) cap)))) := fun w2 v2 w5 g cap k1 k2 k3 k4 k5 => by
                obtain ⟨⟨F', q1, q2⟩, q3, q4⟩ := fin w2 [v2] x 54 _ w5 g cap ((Below.refl _ _).drew.trans k1) k2.toOwn rfl rfl rfl rfl k3 k4 k5
                rw [hsn] at q1
                have hT5 := (q4 _ hsz hgF).trans hT
                obtain ⟨⟨_, _, t0⟩, tf⟩ := cells3 hT5
                have t2 := tf 2
                have hgF' : g7 ∉ F' := fun hm => (q2 _ hm).elim hgF (fun h => by omega)
                refine ⟨⟨t0, t2⟩, ⟨set3_2 hT5 _, F', (OwnF.assoc' q1).set hgF' _, fun b hb' => (q2 b hb').elim (hFB b) (fun h => by have := hb.size; omega), hgF'⟩, ?_⟩
                exact (hb.trans (q3 w1.heap.size hFB hb.size)).setCell (p := ⟨g7, 2, none⟩) hl7 _
              have ROW : Hid (∀ u, Below wr.heap.size wr.drew u → ∀ o : Obj, (u.alloc o).ownsRow 0 54 1 c N cc) := fun u hu o => rowT _ (((Below.refl _ _).drew.trans hu).alloc hu.size o)
              have KS := hide (rcopied_any wr.drew _ x (hr.to (Below.refl _ _).drew) (by omega))
              have h63 : N + 1 ≤ maxLen := by rw [show maxLen = 9223372036854775807 from rfl]; have := hs.out; omega
              have hby : (N + 1) * 24 ≤ 140737488355328 := by have := hs.out; omega
              clear fin rowT hsn hF hFB hr hb hxk hxm hT hI
              replace hN := hide hN
              obtain ⟨ll, lc, hl⟩ : ∃ ll lc, c = .slice ll N lc := by
                rcases (ROW.out wr.drew (Below.refl _ _) (.cells #[] 0)).2 with ⟨rfl, rfl⟩ | ⟨g, cap, cur, rfl, _⟩
                · exact ⟨_, _, rfl⟩
                · exact ⟨_, _, rfl⟩
              subst hl
              generalize x.length = L at *
              go_wp2
              refine wp_region_mid (fun w' => w'.cell? ⟨b1, o1 + k, none⟩ = some (.slice au L cu) ∧ w'.cell? ⟨g7, 2, none⟩ = some (.slice ll N lc)) 6 8 mixed (by kernel_rfl) (fun _ _ _ _ h => h) ⟨hc, T2⟩ ?_
              dsimp only [List.take, List.drop]
              iterate 6
                refine take_one (v := ?_) (by rfl) ?_ ?_
                rotate_left
                · rintro w' ⟨s1, s2⟩
                  go_simp
                  try with_reducible rfl
                try simp only [Act.put, List.setIfInBounds_toArray, List.set_cons_zero, List.set_cons_succ]
              refine mid_one fun K hK => ?_
              refine step_call (by rfl) 37 _ _ (by rfl) #[.slice au L cu] (by simp [Act.eval]) (Try.call37 _ _) KS.out ?_
              rintro e w2 ⟨v2, rfl, o2, b2⟩
              obtain ⟨av, cv2, hv2⟩ := o2.rd.slice
              subst hv2
              have x1 := (b2.cell (p := ⟨b1, o1 + k, none⟩) (cell_lt hc)).trans hc
              have x3 := (b2.cell (p := ⟨g7, 2, none⟩) (cell_lt T2)).trans T2
              refine ⟨_, rfl, hK _ _ ⟨x1, x3⟩ ?_⟩
              clear hK K
              try simp only [Act.put, List.setIfInBounds_toArray, List.set_cons_zero, List.set_cons_succ]
              refine mid_one fun K hK => ?_
              rw [if_pos (by rfl)]
              go_simp
              refine hK _ _ ⟨cell_alloc x1 _, cell_alloc x3 _⟩ ?_
              clear hK K
              show wpList _ _ _ _ _ _
              go_wp2_with (at_builtin; refine wpList_append_lies _ rfl _ _ 23 rfl 0 54 i0 _ 1 24 Try.underlying23 hi hz0 hz1 hz2 rfl (by decide) (.slice ll N lc) N cc rfl (ROW.out w2 b2 _) ⟨w2.heap.size, 0, none⟩ 1 1 [.slice av x.length cv2] rfl rfl (World.news_of_block (heap_alloc_last w2 _)) (by simp [Value.oneCell']) (by decide) h63 hby (Nat.zero_le _) (w2.heap.size + 1) (by simp) ?_; intro g cap w5 ho5 hg5 hat5 hlt5; obtain ⟨⟨y5, y6⟩, HF⟩ := FIN.out w2 _ w5 g cap b2 o2 hg5 ho5 hat5; clear ho5 hg5 hat5 FIN ROW KS o2 b2)
              go_roundw
              case rel => exact ⟨k + 1, _, by omega, by go_num, HF⟩
              case measure => simp [intOf]; omega
            · have hq : ¬ (k : Int) < (rs.length : Int) := by omega
              obtain rfl : k = rs.length := by omega
              rw [List.take_of_length_le (Nat.le_refl _)] at hF
              have Z2 := (hb.block (w.heap.size + 1) (by omega)).trans Z'.out
              obtain ⟨⟨z0, z1, z2⟩, zf⟩ := cells3 Z2
              have y0 := zf 0
              have y1 := zf 1
              have y2 := zf 2
              obtain ⟨p2, e2, r2⟩ : ∃ v, [c] = [v] ∧ RdS Shp.octs wr v (l.2.2 ++ rs) := by
                obtain ⟨F1, F2, _, o1, o2, _⟩ := OwnF.split (c := [.slice ta l.1.length tc]) (d := [.int .i64 l.2.1, c]) hF rfl
                obtain ⟨F3, F4, _, o3, o4, _⟩ := OwnF.split (c := [.int .i64 l.2.1]) (d := [c]) o2 rfl
                exact o4.rd
              simp at e2; subst e2
              obtain ⟨ac, cc', hc'⟩ := r2.slice
              obtain ⟨N, hN⟩ : ∃ N, N = (l.2.2 ++ rs).length := ⟨_, rfl⟩
              rw [← hN] at hc'
              replace hN := hide hN
              subst hc'
              have hgF2 : w.heap.size + 1 ∉ F := fun hm => by have := hFB _ hm; omega
              have OO := hide (((hF.set (a := ⟨w.heap.size + 1, 0, none⟩) hgF2 (.slice ta l.1.length tc)).set (a := ⟨w.heap.size + 1, 1, none⟩) hgF2 (.int .i64 l.2.1)).set (a := ⟨w.heap.size + 1, 2, none⟩) hgF2 (.slice ac N cc'))
              have ZZ := hide Z2
              have FB := hide hFB
              have CC := hide (c1w.out.trans (hb.mono c1w.out.size))
              clear hF hFB hgF hT hb Z2 r2 hI
              go_wp2
              refine retNT rfl rfl (w.heap.size + 1) rfl _ _ (0, 0) (heap_set3 (u := wr) ZZ.out _ _ _) _ Try.underlying25 rfl info_lgR _ rfl ?_
              rw [hE.out]
              exact ⟨_, _, rfl, OO.out.own fun b hb => by have := FB.out b hb; omega, below_set3 CC.out (show w.heap.size ≤ w.heap.size + 1 by omega) _ _ _⟩
  · rw [wcheck_no hok] at KC
    have hE := hide (wappend_9 (rs := rs) hok)
    replace hok := hide hok
    go_wp2_with fail
    rw [← hW]
    replace hW := hide hW
    refine KC.out.mono ?_
    rintro e w1 ⟨rfl, b1⟩
    have Z1 := (b1.block _ (lt_of_block hZ)).trans hZ
    obtain ⟨⟨z0, z1, z2⟩, zf⟩ := cells3 Z1
    have y0 := zf 0
    have y1 := zf 1
    have y2 := zf 2
    have cw := bW.trans (b1.mono bW.size)
    clear KC A0 A1 A2
    go_wp2
    refine retNT rfl rfl (w.heap.size + 1) rfl _ _ (0, 0) (heap_set3 (u := w1) Z1 _ _ _) _ Try.underlying25 rfl info_lgR _ rfl ?_
    rw [hE.out]
    exact ⟨_, _, rfl, own_wzero _ _ _, below_set3 cw (show w.heap.size ≤ w.heap.size + 1 by omega) _ _ _⟩

end Go.Proofs.Ytlnoancjegifnaa
