/- Several texts in one. -/
import Derived.Test.YtlnoancjegifnaaMergeP
import Derived.Test.YtlnoancjegifnaaMergeS
import Derived.Deep.CutRange
import Derived.Test.YtlnoancjegifnaaWFlushR
import Derived.Test.YtlnoancjegifnaaRSched
import Derived.Test.YtlnoancjegifnaaOwn
import Derived.Laws.BitsAllLaws
/-
  The program's Append of logs.
-/
namespace Go.Proofs.Ytlnoancjegifnaa
open Go.RowKit
set_option linter.unusedVariables false
set_option linter.unusedSimpArgs false

abbrev TSP : Nat := 56

set_option maxRecDepth 100000 in
set_option maxHeartbeats 4000000 in
theorem pwappend_any (w : World) (sv wv rv : Value) (l : Wlg) (rs : List (List UInt8)) (h1 : RdC w sv l.1) (h2 : RdSec w wv l.2.2) (h3 : RdSec w rv rs) (hm : ∀ s ∈ l.1, s.2.length ≤ 16777216) (hrl : rs.length ≤ 10000000000000) :
    Calls Try.prog 11 #[.agg #[sv, .int .i64 l.2.1, wv], rv] w fun e w' => ∃ sv' wv', e = .returned (.tuple #[.agg #[sv', .int .i64 (wappend l rs).1.2.1, wv'], .int .i64 (wappend l rs).2]) ∧ LgF TSP w.heap.size w' sv' wv' (wappend l rs).1 ∧ Below w.heap.size w w' := by
  obtain ⟨a1, c1, rfl⟩ := h1.slice
  obtain ⟨a2, c2, rfl⟩ := h2.slice
  obtain ⟨a3, c3, rfl⟩ := h3.slice
  obtain ⟨W, hW, hA, hZ, bW, sW⟩ := boxes3 w (.slice a1 l.1.length c1) (.int .i64 l.2.1) (.slice a2 l.2.2.length c2) 28
  have KC := hide (pwcheck_any W _ _ l (h1.to0 bW) (h2.to0 bW) hm)
  obtain ⟨⟨A0, A1, A2⟩, _⟩ := cells3 hA
  rw [hW] at A0 A1 A2
  go_enter Try.func11, Try.ntmps11
  by_cases hok : WOk l
  · rw [wcheck_ok hok] at KC
    go_wp2_with fail
    rw [← hW]
    replace hW := hide hW
    refine KC.out.mono ?_
    rintro e w1 ⟨rfl, b1⟩
    clear KC A0 A1 A2
    have c1w := hide (bW.trans (b1.mono bW.size))
    have A' := hide ((b1.block _ (lt_of_block hA)).trans hA)
    have Z' := hide ((b1.block _ (lt_of_block hZ)).trans hZ)
    have H1 := hide (h1.to0 c1w.out)
    have H2 := hide (h2.to0 c1w.out)
    have H3 := hide (h3.to0 c1w.out)
    have s1 : w.heap.size + 1 + 1 ≤ w1.heap.size := by have := b1.size; omega
    have HOK := hide hok
    have hfit := hok.fit hm
    have hwl : l.2.2.length ≤ 4096 := hok.1.2.2
    have hsl : l.1.length ≤ 4096 := hok.1.1
    clear hA hZ bW b1 h1 h2 h3 hok
    have KL := hide (plonger_any w1)
    go_wp2_with fail
    refine KL.out.mono ?_
    rintro e w2 ⟨rfl, hc2, b2⟩
    clear KL
    have KF := hide (pcontains_any w2 _ _ rs (H3.out.to0 b2) hc2)
    have B2 := hide b2
    clear hc2 b2
    go_wp2_with fail
    refine KF.out.mono ?_
    rintro e w' ⟨bb, rfl, hbb, rfl⟩
    clear KF
    have Z2 := hide ((B2.out.block _ (lt_of_block Z'.out)).trans Z'.out)
    have A2' := hide ((B2.out.block _ (lt_of_block A'.out)).trans A'.out)
    have c2w := hide (c1w.out.trans (B2.out.mono c1w.out.size))
    have s2 : w1.heap.size ≤ w2.heap.size := B2.out.size
    by_cases hW3 : wwaitOk rs
    · have hb0 : bb = false := by cases bb with | false => rfl | true => exact absurd hW3 (hbb.1 rfl)
      subst hb0
      have HW3 := hide hW3
      obtain ⟨⟨A0, A1, A2⟩, _⟩ := cells3 A2'.out
      clear hbb hW3
      by_cases hs : 4096 < l.2.2.length + rs.length
      · have hqs : (4096 : Int) < (l.2.2.length : Int) + (rs.length : Int) := by omega
        have hE := hide (wappend_3 (l := l) (rs := rs) HOK.out HW3.out hs)
        obtain ⟨⟨z0, z1, z2⟩, zf⟩ := cells3 Z2.out
        have y0 := zf 0
        have y1 := zf 1
        have y2 := zf 2
        replace hs := hide hs
        go_wp2
        refine retNT rfl rfl (w.heap.size + 1) rfl _ _ (0, 0) (heap_set3 (u := w2) Z2.out _ _ _) _ Try.underlying28 rfl info_lgP _ rfl ?_
        rw [hE.out]
        exact ⟨_, _, rfl, LgF.zero _ _ _, below_set3 c2w.out (show w.heap.size ≤ w.heap.size + 1 by omega) _ _ _⟩
      · have hqs : ¬ (4096 : Int) < (l.2.2.length : Int) + (rs.length : Int) := by omega
        have hE := hide (wappend_0 (l := l) (rs := rs) HOK.out HW3.out hs)
        have hrs2 : rs.length ≤ 4096 := by omega
        have K1 := hide (pcopies_any w2 _ l.2.2 (H2.out.to0 B2.out) (by omega) (fun x hx => hfit.2.2.2 x hx))
        replace hs := hide hs
        go_wp2_with fail
        refine K1.out.mono ?_
        rintro e w3 ⟨v3, rfl, o3, b3⟩
        clear K1
        obtain ⟨va, vc, hv3⟩ := o3.rd.slice
        subst hv3
        have c3w := hide (B2.out.trans (b3.mono B2.out.size))
        have K2 := hide (pcopies_any w3 _ rs (H3.out.to0 c3w.out) (by omega) (fun x hx => by have := HW3.out x hx; omega))
        have O3 := hide o3
        have B3 := hide b3
        clear o3 b3 A0 A1 A2
        go_wp2_with fail
        refine K2.out.mono ?_
        rintro e w4 ⟨v4, rfl, o4, b4⟩
        clear K2
        obtain ⟨va4, vc4, hv4⟩ := o4.rd.slice
        subst hv4
        have O1 := hide (O3.out.below b4)
        have O2 := hide (o4.mono (B' := 0) (C' := w2.heap.size) (Nat.zero_le _) B3.out.size)
        have B4 := hide (B3.out.trans (b4.mono B3.out.size))
        have hln : (l.2.2.length + rs.length) * 24 ≤ 140737488355328 := by omega
        have hBU : w2.heap.size ≤ w4.heap.size := B4.out.size
        clear o4 b4 O3 B3
        go_upto_region 9 with (at_builtin; refine wpList_append_lists2 rfl _ _ rfl w2.heap.size 0 w2.heap.size _ _ _ _ rfl rfl O1.out O2.out hln hBU ?_; intro v5 w5 o5 b5 _)
        obtain ⟨va5, vc5, hv5⟩ := o5.rd.slice
        have B5 := hide (B4.out.trans b5)
        obtain ⟨N5, hN5⟩ : ∃ N5, N5 = (l.2.2 ++ rs).length := ⟨_, rfl⟩
        rw [← hN5] at hv5
        replace hN5 := hide hN5
        subst hv5
        have O5 := hide o5
        have A5 := hide ((B5.out.block _ (lt_of_block A2'.out)).trans A2'.out)
        have Z5 := hide ((B5.out.block _ (lt_of_block Z2.out)).trans Z2.out)
        obtain ⟨⟨A0, A1, A2⟩, _⟩ := cells3 A5.out
        have b0 : Below w5.heap.size w5 w5.drew := (Below.refl _ _).drew
        have HS : Hid (∀ w9, Below w5.heap.size w5 w9 → w9.cell? ⟨w.heap.size, 0, none⟩ = some (.slice a1 l.1.length c1) ∧ w9.cell? ⟨w.heap.size, 1, none⟩ = some (.int .i64 l.2.1)) := fun w9 b9 =>
          ⟨(b9.cell (cell_lt A0)).trans A0, (b9.cell (cell_lt A1)).trans A1⟩
        have c5w := hide (B2.out.trans (B5.out.mono B2.out.size))
        have KS := hide (psegs_any w5.drew _ l.1 ((H1.out.to0 c5w.out).to0 b0) (by omega) (fun x hx => hfit.2.1 x hx))
        clear O1 O2 B4 o5 b5 A0 A1 A2
        refine wp_region_sched (fun w9 => w9.cell? ⟨w.heap.size, 0, none⟩ = some (.slice a1 l.1.length c1) ∧ w9.cell? ⟨w.heap.size, 1, none⟩ = some (.int .i64 l.2.1)) [(0, true), (1, true), (3, true), (4, true), (5, true), (2, false)] 6 mixed (by kernel_rfl) (fun _ _ _ _ h => h) ?_
        iterate 5
          refine sched_take (v := ?_) rfl (by kernel_rfl) (HS.out _ b0) ?_ ?_
          rotate_left
          · rintro w9 ⟨q0, q1⟩
            go_simp
            try with_reducible rfl
          try simp only [Act.put, List.setIfInBounds_toArray, List.set_cons_zero, List.set_cons_succ]
        refine sched_run rfl (by kernel_rfl) fun K hK => ?_
        refine wp_call_of 35 _ _ (by rfl) #[.slice a1 l.1.length c1] (by simp [Act.eval]) (Try.call35 _ _) KS.out ?_
        rintro e w6 ⟨v6, rfl, o6, b6⟩
        have d6 : Below w5.heap.size w5 w6 := b0.trans (b6.mono b0.size)
        refine ⟨_, rfl, hK _ _ (HS.out _ d6) ?_⟩
        clear hK K
        try simp only [Act.put, List.setIfInBounds_toArray, List.set_cons_zero, List.set_cons_succ]
        obtain ⟨va6, vc6, hv6⟩ := o6.rdS.slice
        have s5 : w2.heap.size ≤ w5.heap.size := B5.out.size
        have LG : LgF TSP w2.heap.size w6 v6 (.slice va5 N5 vc5) (l.1, l.2.1, l.2.2 ++ rs) := ⟨o6.mono s5, O5.out.below d6⟩
        have LG3 := hide (LG.set3 (g := w.heap.size + 1) (by omega) v6 (.int .i64 l.2.1) (.slice va5 N5 vc5))
        have Z6 := hide ((d6.block _ (lt_of_block Z5.out)).trans Z5.out)
        obtain ⟨⟨z0, z1, z2⟩, zf⟩ := cells3 Z6.out
        have y0 := zf 0
        have y1 := zf 1
        have y2 := zf 2
        have CC : Hid (Below w.heap.size w w6) := c2w.out.trans ((B5.out.trans (d6.mono B5.out.size)).mono c2w.out.size)
        clear o6 b6 d6 LG HS KS zf O5
        subst hv6
        show wpList _ _ _ _ _ _
        dsimp only [List.drop]
        go_wp2
        refine retNT rfl rfl (w.heap.size + 1) rfl _ _ (0, 0) (heap_set3 (u := w6) Z6.out _ _ _) _ Try.underlying28 rfl info_lgP _ rfl ?_
        rw [hE.out]
        exact ⟨_, _, rfl, LG3.out.mono (by omega), below_set3 CC.out (show w.heap.size ≤ w.heap.size + 1 by omega) _ _ _⟩
    · have hb0 := hbb.2 hW3
      subst hb0
      have hE := hide (wappend_5 (l := l) (rs := rs) HOK.out hW3)
      replace hW3 := hide hW3
      obtain ⟨⟨z0, z1, z2⟩, zf⟩ := cells3 Z2.out
      have y0 := zf 0
      have y1 := zf 1
      have y2 := zf 2
      clear hbb
      go_wp2
      refine retNT rfl rfl (w.heap.size + 1) rfl _ _ (0, 0) (heap_set3 (u := w2) Z2.out _ _ _) _ Try.underlying28 rfl info_lgP _ rfl ?_
      rw [hE.out]
      exact ⟨_, _, rfl, LgF.zero _ _ _, below_set3 c2w.out (show w.heap.size ≤ w.heap.size + 1 by omega) _ _ _⟩
  · rw [wcheck_no hok] at KC
    have hE := hide (wappend_9 (rs := rs) hok)
    replace hok := hide hok
    go_wp2_with fail
    rw [← hW]
    replace hW := hide hW
    refine KC.out.mono ?_
    rintro e w1 ⟨rfl, b1⟩
    have Z1 := (b1.block _ (lt_of_block hZ)).trans hZ
    obtain ⟨⟨z0, z1, z2⟩, zf⟩ := cells3 Z1
    have y0 := zf 0
    have y1 := zf 1
    have y2 := zf 2
    have cw := bW.trans (b1.mono bW.size)
    clear KC A0 A1 A2
    go_wp2
    refine retNT rfl rfl (w.heap.size + 1) rfl _ _ (0, 0) (heap_set3 (u := w1) Z1 _ _ _) _ Try.underlying28 rfl info_lgP _ rfl ?_
    rw [hE.out]
    exact ⟨_, _, rfl, LgF.zero _ _ _, below_set3 cw (show w.heap.size ≤ w.heap.size + 1 by omega) _ _ _⟩

end Go.Proofs.Ytlnoancjegifnaa

/-
  The program's written: a record laid at a log's end.
-/
namespace Go.Proofs.Ytlnoancjegifnaa
open Go.RowKit
set_option linter.unusedVariables false
set_option linter.unusedSimpArgs false

/-- all blocks but those of F are kept -/
def KpF2 (F : List Nat) (w U : World) : Prop := (∀ b, b < w.heap.size → b ∉ F → U.heap[b]? = w.heap[b]?) ∧ ∀ B, (∀ b, b ∈ F → B ≤ b) → B ≤ w.heap.size → Below B w U
theorem KpF2.refl (F : List Nat) (w : World) : KpF2 F w w := ⟨fun _ _ _ => rfl, fun _ _ _ => Below.refl _ _⟩
/-- what is kept behind a step that writes what was owned, or is new -/
theorem KpF2.step {F F1 : List Nat} {w U V : World} (h : KpF2 F w U) (hF : ∀ b, b ∈ F1 → b ∈ F ∨ w.heap.size ≤ b) (k : KpF2 F1 U V) (hs : w.heap.size ≤ U.heap.size) : KpF2 F w V := by
  refine ⟨fun b hb hn => ?_, fun B hB hw => (h.2 B hB hw).trans (k.2 B (fun b hb => (hF b hb).elim (hB b) (fun q => by omega)) (by omega))⟩
  rw [k.1 b (by omega) (fun q => (hF b q).elim hn (fun q => by omega)), h.1 b hb hn]
theorem KpF2.below {F : List Nat} {w U V : World} (h : KpF2 F w U) (hs : w.heap.size ≤ U.heap.size) (k : Below U.heap.size U V) : KpF2 F w V :=
  ⟨fun b hb hn => (k.block b (by omega)).trans (h.1 b hb hn), fun B hB hw => (h.2 B hB hw).trans (k.mono (by omega))⟩
theorem KpF2.set {F : List Nat} {w U : World} (h : KpF2 F w U) {a : Addr} (ha : w.heap.size ≤ a.block) (u : Value) : KpF2 F w (U.setCell a u) :=
  ⟨fun b hb hn => (Below.heap_setCell _ _ _ _ (fun e => by omega)).trans (h.1 b hb hn), fun B hB hw => (h.2 B hB hw).setCell (p := a) (by omega) u⟩
/-- the log's box at g, the answer's behind it -/
structure WSt (F : List Nat) (w U : World) (g : Nat) (cU : Value) (R : List Wrt) (n : Int) : Prop where
  box : U.heap[g]? = some (.cells #[cU, .int .i64 n, .slice none 0 0] 28 (0, 0))
  ans : U.heap[g + 1]? = some (.cells #[.slice none 0 0, .int .i64 0, .slice none 0 0] 28 (0, 0))
  own : ∃ F1, OwnF (SLg TSP) F1 U [cU, .int .i64 n, .slice none 0 0] (R, n, []) ∧ (∀ b, b ∈ F1 → b ∈ F ∨ w.heap.size ≤ b) ∧ g ∉ F1 ∧ g + 1 ∉ F1
  kp : KpF2 F w U
  hg : w.heap.size ≤ g
  sz : w.heap.size ≤ U.heap.size
theorem WSt.to {F : List Nat} {w U V : World} {g : Nat} {cU : Value} {R : List Wrt} {n : Int} (h : WSt F w U g cU R n) (hb : Below U.heap.size U V) : WSt F w V g cU R n := by
  obtain ⟨F1, o1, o2, o3, o4⟩ := h.own
  exact ⟨(hb.block _ (lt_of_block h.box)).trans h.box, (hb.block _ (lt_of_block h.ans)).trans h.ans, ⟨F1, o1.to hb, o2, o3, o4⟩, h.kp.below h.sz hb, h.hg, Nat.le_trans h.sz hb.size⟩

set_option maxRecDepth 100000 in
set_option maxHeartbeats 8000000 in
theorem pwritten_any (w : World) (sv rv : Value) (F : List Nat) (segs : List Wrt) (n : Int) (r : List UInt8) (limit : Int) (hF : OwnF (SLg TSP) F w [sv, .int .i64 n, .slice none 0 0] (segs, n, [])) (hr : ∀ w', KpF2 F w w' → Rd w' rv r) (hrl : r.length ≤ 4096)
    (hsl : segs.length ≤ 1000000) (hsd : ∀ s ∈ segs, s.2.length ≤ 1000000000) (hn0 : 0 ≤ n) (hn1 : n ≤ 2000000000000) :
    Calls Try.prog 38 #[.agg #[sv, .int .i64 n, .slice none 0 0], rv, .int .i64 limit] w fun e w' => ∃ sv' F', e = .returned (.agg #[sv', .int .i64 (n + 1), .slice none 0 0]) ∧ OwnF (SLg TSP) F' w' [sv', .int .i64 (n + 1), .slice none 0 0] (wlay (wroom limit segs n) r, n + 1, []) ∧ (∀ b, b ∈ F' → b ∈ F ∨ w.heap.size ≤ b) ∧ KpF2 F w w' := by
  obtain ⟨j0, ji, jz0, jz1, jz2⟩ := info_parts infoSP
  obtain ⟨ca, cc0, hcs⟩ := (OwnF.waits hF).2.slice
  obtain ⟨ra, rc, hrv⟩ := (hr w (KpF2.refl _ _)).slice
  obtain ⟨m', hm'⟩ : ∃ m', m' = segs.length := ⟨_, rfl⟩
  rw [← hm'] at hcs hsl
  obtain ⟨RL, hRL⟩ : ∃ RL, RL = r.length := ⟨_, rfl⟩
  rw [← hRL] at hrv
  subst hcs hrv
  obtain ⟨W, hW, hA, hZ, bW, sW⟩ := boxes3 w (.slice ca m' cc0) (.int .i64 n) (.slice none 0 0) 28
  have hlt := hF.lt
  have st0 : WSt F w W w.heap.size (.slice ca m' cc0) segs n :=
    ⟨hA, hZ, ⟨F, hF.to bW, fun b hb => .inl hb, fun h => by have := hlt _ h; omega, fun h => by have := hlt _ h; omega⟩, (KpF2.refl F w).below (Nat.le_refl _) bW, Nat.le_refl _, by omega⟩
  have ST0 := hide st0
  replace sW := hide sW
  obtain ⟨⟨A0, A1, A2⟩, af⟩ := cells3 hA
  have f0 := af 0
  have HR := hide hr
  have HSD := hide hsd
  have hmi : (0 : Int) ≤ (m' : Int) := by omega
  replace hm' := hide hm'
  replace hRL := hide hRL
  rw [hW] at A0 A1 A2 f0
  clear st0 hA hZ bW hF hr hsd hlt af
  go_enter Try.func38, Try.ntmps38
  go_upto_region 2 with fail
  rw [← hW]
  rw [← hW] at A0 A1 A2 f0
  replace hW := hide hW
  obtain ⟨bb, hbb⟩ : ∃ b : Bool, b = decide (segs.length = 0 ∨ limit ≤ ((wlast segs).2.length : Nat)) := ⟨_, rfl⟩
  replace hbb := hide hbb
  go_cut [26] from 14 to 26 (fun s wx => s = .bool bb ∧ W = wx)
  case first =>
    by_cases hz : m' = 0
    · have hb : Hid (bb = true) := hbb.out.trans (decide_eq_true (.inl (by rw [← hm'.out]; exact hz)))
      have hz1 : (m' : Int) - 1 < 0 := by omega
      replace hz := hide hz
      go_wp2_with fail
      go_meet
      exact ⟨by rw [hb.out], rfl⟩
    · obtain ⟨m, hmm⟩ : ∃ m, m' = m + 1 := ⟨m' - 1, by omega⟩
      have hz1 : ¬ (m' : Int) - 1 < 0 := by omega
      have hidx : (m' : Int) - 1 = (m : Int) := by omega
      have hqq0 : (m : Int) < (m' : Int) := by omega
      have hsm : segs.length = m + 1 := by rw [← hm'.out, hmm]
      obtain ⟨⟨lz, lx⟩, hlx, hlm⟩ := some_at segs (k := m) (by omega)
      have hlast := hide (wlast_at hsm hlx)
      have hlb := HSD.out _ hlm
      obtain ⟨F1, o1, _⟩ := ST0.out.own
      obtain ⟨gL, capL, ldv, hsL, hgL, e0L, e1L, efL, odL, _⟩ := OwnF.seg o1 hlx
      simp only [Value.slice.injEq] at hsL
      obtain ⟨rfl, hxx, rfl⟩ := hsL
      clear hxx
      obtain ⟨la, lc, rfl⟩ := odL.rd.slice
      obtain ⟨LL, hLL⟩ : ∃ LL, LL = lx.length := ⟨_, rfl⟩
      dsimp only at hlb
      rw [← hLL] at e1L hlb
      have hmb : (m : Int) ≤ 1000000 := by omega
      by_cases hfl : limit ≤ (LL : Int)
      · have hb : Hid (bb = true) := hbb.out.trans (decide_eq_true (.inr (by rw [hlast.out]; dsimp only; rw [← hLL]; exact hfl)))
        clear o1 odL hlx hlm
        replace hz := hide hz
        replace hmm := hide hmm
        replace hsm := hide hsm
        replace hLL := hide hLL
        rw [hidx]
        go_wp2_with fail
        rw [← hidx]
        go_meet
        exact ⟨by rw [hb.out], rfl⟩
      · have hb : Hid (bb = false) := hbb.out.trans (decide_eq_false (fun h => h.elim (fun h => hz (by rw [hm'.out]; exact h)) (fun h => hfl (by rw [hlast.out] at h; dsimp only at h; rw [← hLL] at h; exact h))))
        clear o1 odL hlx hlm
        replace hz := hide hz
        replace hmm := hide hmm
        replace hsm := hide hsm
        replace hLL := hide hLL
        rw [hidx]
        go_wp2_with fail
        rw [← hidx]
        go_meet
        exact ⟨by rw [hb.out]; try (simp only [Value.bool.injEq, decide_eq_false_iff_not]; omega), rfl⟩
  case rest =>
  obtain ⟨rfl, rfl⟩ := hcut
  go_upto_if 26 with fail
  go_cut [7] from 27 to 36 (fun s wx => ∃ (cU : Value) (q : Nat) (R : List Wrt), s = .int .i64 (q : Int) ∧ R.length = q + 1 ∧ q ≤ 1000000 ∧ Hid (R = wroom limit segs n ∧ ∀ s ∈ R, s.2.length ≤ 1000000000) ∧ Hid (WSt F w wx w.heap.size cU R n))
  case first =>
    by_cases hp : segs.length = 0 ∨ limit ≤ ((wlast segs).2.length : Nat)
    · have hb := hbb.out.trans (decide_eq_true hp)
      clear hbb
      subst hb
      have hRm : Hid (segs ++ [(n, [])] = wroom limit segs n ∧ ∀ s ∈ segs ++ [(n, [])], s.2.length ≤ 1000000000) := ⟨(wroom_push hp).symm, fun s hs => by
        rcases List.mem_append.1 hs with hs | hs
        · exact HSD.out s hs
        · simp only [List.mem_singleton] at hs; subst hs; simp⟩
      obtain ⟨F1, o1, o2, o3, o4⟩ := ST0.out.own
      obtain ⟨cc, rowT, fin⟩ := OwnF.litFst (c0 := [.int .i64 n, .slice none 0 0]) o1 (n := m') hm'.out.symm
      have FIN : Hid (∀ (w5 : World) (g cap : Nat), (W.alloc (.cells #[.int .i64 n, .slice none 0 0] 56)).grownBy w5 (Value.slice ca m' cc0).ownBlock → w5.ownsRow 0 56 2 (.slice (some ⟨g, 0, none⟩) (m' + 1) cap) (m' + 1) (cc ++ [.int .i64 n, .slice none 0 0]) → ((Value.slice ca m' cc0).ownBlock = some g ∨ g = W.heap.size + 1) →
          (w5.cell? ⟨w.heap.size, 0, none⟩ = some (.slice ca m' cc0) ∧ w5.frozen? ⟨w.heap.size, 0, none⟩ = false) ∧ Hid (WSt F w (w5.setCell ⟨w.heap.size, 0, none⟩ (.slice (some ⟨g, 0, none⟩) (m' + 1) cap)) w.heap.size (.slice (some ⟨g, 0, none⟩) (m' + 1) cap) (segs ++ [(n, [])]) n)) := fun w5 g cap k3 k4 k5 => by
        obtain ⟨⟨F', q1, q2⟩, q3, q4⟩ := fin W [.int .i64 n, .slice none 0 0] (n, []) 56 _ w5 g cap (Below.refl _ _) (own_wrt (World.ownsRow_nil _ _ _ _)) rfl rfl rfl rfl k3 k4 k5
        have hbl := lt_of_block ST0.out.box
        have hal := lt_of_block ST0.out.ans
        have hT5 := (q4 _ hbl o3).trans ST0.out.box
        have hZ5 := (q4 _ hal o4).trans ST0.out.ans
        obtain ⟨⟨t0, _, _⟩, tf⟩ := cells3 hT5
        have g1 : w.heap.size ∉ F' := fun hm => (q2 _ hm).elim o3 (fun h => by omega)
        have g2 : w.heap.size + 1 ∉ F' := fun hm => (q2 _ hm).elim o4 (fun h => by omega)
        have hs5 : W.heap.size ≤ w5.heap.size := (q3 0 (fun _ _ => Nat.zero_le _) (Nat.zero_le _)).size
        refine ⟨⟨t0, tf 0⟩, set3_0 hT5 _, ?_, ⟨F', q1.set g1 _, fun b hb' => (q2 b hb').elim (o2 b) (fun h => by omega), g1, g2⟩, ?_, Nat.le_refl _, by simp; omega⟩
        · rw [Below.heap_setCell _ _ _ _ (show w.heap.size + 1 ≠ w.heap.size by omega)]; exact hZ5
        · exact (ST0.out.kp.step o2 ⟨fun b hb hn => q4 b hb hn, fun B hB hw => q3 B hB hw⟩ ST0.out.sz).set (a := ⟨w.heap.size, 0, none⟩) (Nat.le_refl _) _
      have ROW := hide (rowT _ ((Below.refl _ _).alloc (Nat.le_refl _) (.cells #[.int .i64 n, .slice none 0 0] 56)))
      have h63 : m' + 1 ≤ maxLen := by rw [show maxLen = 9223372036854775807 from rfl]; omega
      have hby : (m' + 1) * 32 ≤ 140737488355328 := by omega
      have hRl : Hid ((segs ++ [(n, [])] : List Wrt).length = m' + 1) := by show _ = _; rw [List.length_append, ← hm'.out]; rfl
      clear fin rowT o1 o2 o3 o4
      replace hp := hide hp
      go_wp2_with (at_builtin; refine wpList_append_lies _ rfl _ _ 26 rfl 0 56 j0 _ 2 32 Try.underlying26 ji jz0 jz1 jz2 rfl (by decide) (.slice ca m' cc0) m' cc rfl ROW.out ⟨W.heap.size, 0, none⟩ 1 1 [.int .i64 n, .slice none 0 0] rfl rfl (World.news_of_block (heap_alloc_last W _)) (by simp [Value.oneCell']) (by decide) h63 hby (Nat.zero_le _) (W.heap.size + 1) (by simp) ?_; intro gR capR w5 ho5 hg5 hat5 hlt5; obtain ⟨⟨y5, y6⟩, HB⟩ := FIN.out w5 gR capR hg5 ho5 hat5; clear ho5 hg5 hat5)
      go_meet
      exact ⟨_, m', _, by go_num, hRl.out, hsl, hRm, HB⟩
    · have hb := hbb.out.trans (decide_eq_false hp)
      clear hbb
      subst hb
      have hz : ¬ m' = 0 := fun e => hp (.inl (by rw [← hm'.out]; exact e))
      have hRm : Hid (segs = wroom limit segs n ∧ ∀ s ∈ segs, s.2.length ≤ 1000000000) := ⟨(wroom_keep hp).symm, HSD.out⟩
      have hln : Hid (segs.length = (m' - 1) + 1) := by show _ = _; rw [← hm'.out]; omega
      have hidx : Hid ((m' : Int) - 1 = ((m' - 1 : Nat) : Int)) := by show _ = _; omega
      replace hp := hide hp
      replace hz := hide hz
      go_wp2_with fail
      go_meet
      exact ⟨_, m' - 1, _, by rw [← hidx.out]; try go_num, hln.out, by omega, hRm, ST0⟩
  case rest =>
  clear hbb ST0 A0 A1 A2 f0
  obtain ⟨cU, q, R, rfl, hRl, hq6, hRm, HS⟩ := hcut
  obtain ⟨U, hU⟩ : ∃ U, U = wc := ⟨_, rfl⟩
  rw [← hU] at HS ⊢
  replace hU := hide hU
  obtain ⟨⟨z, x⟩, hRx, hRxm⟩ := some_at R (k := q) (by omega)
  have hxl := hRm.out.2 _ hRxm
  have hlay := hide (wlay_at (r := r) hRl hRx)
  dsimp only at hxl
  have HRx := hide hRx
  have KS := hide (fseal_any U 1 _ r (HR.out U HS.out.kp) (by omega))
  rw [show fsealO 1 r = fseal 1 r from if_neg (by omega), show fsealE r = 0 from if_neg (by omega), show (((1 : UInt8).toNat : Nat) : Int) = 1 from rfl] at KS
  have hfl := fseal_len 1 r
  obtain ⟨B, hB⟩ : ∃ B, B = fseal 1 r := ⟨_, rfl⟩
  rw [← hB] at KS hfl hlay
  rw [← hRL.out] at hfl
  have hRL2 : RL ≤ 4096 := by rw [hRL.out]; exact hrl
  replace hB := hide hB
  replace hRl := hide hRl
  clear hRx hRxm
  go_wp2_with fail
  refine KS.out.mono ?_
  rintro e w6 ⟨bv, rfl, ob, bb6⟩
  clear KS
  have bd : Below U.heap.size U w6.drew := bb6.drew
  have S6 := hide (HS.out.to bd)
  have obr := hide (ob.rd.to (Below.refl _ _).drew)
  obtain ⟨F1, o1, o2, o3, o4⟩ := S6.out.own
  obtain ⟨gR, capR, dv, hsR, hgR, e0, e1, ef, od, fin⟩ := OwnF.seg o1 HRx.out
  rw [hRl.out] at hsR
  subst hsR
  obtain ⟨da, dc, hdv⟩ := od.rd.slice
  obtain ⟨ba, bc, hbv⟩ := ob.rd.slice
  subst hbv
  obtain ⟨BL, hBL⟩ : ∃ BL, BL = B.length := ⟨_, rfl⟩
  obtain ⟨XL, hXL⟩ : ∃ XL, XL = x.length := ⟨_, rfl⟩
  rw [← hXL] at hdv hxl
  rw [← hBL] at obr hfl
  rw [← hBL]
  subst hdv
  have hgs : w.heap.size ≠ gR := fun e => o3 (by rw [e]; exact hgR)
  have hgs1 : w.heap.size + 1 ≠ gR := fun e => o4 (by rw [e]; exact hgR)
  have hs6 : U.heap.size ≤ w6.drew.heap.size := bd.size
  obtain ⟨⟨T0, T1, T2⟩, _⟩ := cells3 S6.out.box
  have FIN : Hid (∀ (g' cap' : Nat) (w7 : World), OwnB 0 w7 (.slice (some ⟨g', 0, none⟩) (XL + BL) cap') (x ++ B) → w6.drew.grownBy w7 (Value.slice da XL dc).ownBlock → ((Value.slice da XL dc).ownBlock = some g' ∨ g' = w6.drew.heap.size) →
      (w7.cell? ⟨gR, q * 2 + 1, none⟩ = some (.slice da XL dc) ∧ w7.frozen? ⟨gR, q * 2 + 1, none⟩ = false ∧ w7.cell? ⟨w.heap.size, 0, none⟩ = some (.slice (some ⟨gR, 0, none⟩) (q + 1) capR)) ∧
      ∃ V, V = w7.setCell ⟨gR, q * 2 + 1, none⟩ (.slice (some ⟨g', 0, none⟩) (XL + BL) cap') ∧ Hid (WSt F w V w.heap.size (.slice (some ⟨gR, 0, none⟩) (q + 1) capR) (wlay R r) n)) := fun g' cap' w7 o7 k3 k5 => by
    have hlen : (x ++ B).length = XL + BL := by rw [List.length_append, hXL, hBL]
    rw [← hlen] at o7
    obtain ⟨q0, F', q1, q2, q3, q4⟩ := fin w7 g' cap' (x ++ B) o7 k3 k5
    rw [hlen] at q1 q3 q4
    have hbl := lt_of_block S6.out.box
    have hal := lt_of_block S6.out.ans
    have hT7 := (q4 _ hbl o3).trans S6.out.box
    have hZ7 := (q4 _ hal o4).trans S6.out.ans
    have g1 : w.heap.size ∉ F' := fun hm => (q2 _ hm).elim o3 (fun h => by omega)
    have g2 : w.heap.size + 1 ∉ F' := fun hm => (q2 _ hm).elim o4 (fun h => by omega)
    have h60 : w7.cell? ⟨w.heap.size, 0, none⟩ = some (.slice (some ⟨gR, 0, none⟩) (q + 1) capR) := by
      have : w7.heap[w.heap.size]? = _ := (Below.heap_setCell w7 ⟨gR, q * 2 + 1, none⟩ (.slice (some ⟨g', 0, none⟩) (XL + BL) cap') w.heap.size hgs).symm.trans hT7
      exact (cells3 this).1.1
    have hsz7 := (q3 0 (fun _ _ => Nat.zero_le _) (Nat.zero_le _)).size
    have hs6w := S6.out.sz
    refine ⟨⟨q0.1, q0.2, h60⟩, _, rfl, hT7, hZ7, ⟨F', by rw [hlay.out]; exact q1, fun b hb' => (q2 b hb').elim (o2 b) (fun h => by omega), g1, g2⟩, S6.out.kp.step o2 ⟨q4, q3⟩ S6.out.sz, Nat.le_refl _, by omega⟩
  have hbp : 0 < B.length := by omega
  have hbl : x.length + B.length ≤ 140737488355328 := by omega
  have hqq : (q : Int) < (q : Int) + 1 := by omega
  have hwq : IntKind.i64.wrap (q : Int) = (q : Int) := by rw [IntKind.wrap_i64]; omega
  have S : Hid (w6.drew.cell? ⟨w.heap.size, 0, none⟩ = some (.slice (some ⟨gR, 0, none⟩) (q + 1) capR) ∧ w6.drew.cell? ⟨gR, q * 2 + 1, none⟩ = some (.slice da XL dc)) := ⟨T0, e1⟩
  replace hXL := hide hXL
  replace hBL := hide hBL
  replace hfl := hide hfl
  replace od := hide od
  clear o1 o2 o3 o4 fin ob bb6 bd S6 HS T0 T1 T2 e0 e1 ef
  go_wp2_with fail
  refine wp_region_mid (fun w9 => w9.cell? ⟨w.heap.size, 0, none⟩ = some (.slice (some ⟨gR, 0, none⟩) (q + 1) capR) ∧ w9.cell? ⟨gR, q * 2 + 1, none⟩ = some (.slice da XL dc)) 10 11 mixed (by kernel_rfl) (fun _ _ _ _ h => h) S.out ?_
  dsimp only [List.take, List.drop]
  iterate 10
    refine take_one (v := ?_) (by rfl) ?_ ?_
    rotate_left
    · rintro w9 ⟨s1, s2⟩
      go_simp
      try with_reducible rfl
    try simp only [Act.put, List.setIfInBounds_toArray, List.set_cons_zero, List.set_cons_succ]
  refine mid_one fun K hK => ?_
  rw [if_pos (by rfl)]
  refine wp_append_octs_lies _ _ rfl (.slice da XL dc) (.slice ba BL bc) x B (by rfl) (by rfl) od.out obr.out hbp hbl ?_
  intro g' cap' w7 o7 k3 k5
  rw [← hXL.out, ← hBL.out] at o7 ⊢
  obtain ⟨⟨y5, y6, y9⟩, V, hV, SV⟩ := FIN.out g' cap' w7 o7 k3 k5
  refine hK _ _ ⟨y9, y5⟩ ?_
  clear hK K o7 k3 k5 FIN
  try simp only [Act.put, List.setIfInBounds_toArray, List.set_cons_zero, List.set_cons_succ]
  show wpList _ _ _ _ _ _
  go_upto_region 7 with fail
  rw [← hV]
  replace hV := hide hV
  clear y5 y6 y9 S
  obtain ⟨⟨T0, T1, T2⟩, tf⟩ := cells3 SV.out.box
  have t1 := tf 1
  have B2 := hide (set3_1 SV.out.box (.int .i64 (n + 1)))
  obtain ⟨V2, hV2⟩ : ∃ V2, V2 = V.setCell ⟨w.heap.size, 1, none⟩ (.int .i64 (n + 1)) := ⟨_, rfl⟩
  rw [← hV2] at B2
  have Z2 : Hid (V2.heap[w.heap.size + 1]? = some (.cells #[.slice none 0 0, .int .i64 0, .slice none 0 0] 28 (0, 0))) := by
    show _ = _
    rw [hV2, Below.heap_setCell _ _ _ _ (show w.heap.size + 1 ≠ w.heap.size by omega)]; exact SV.out.ans
  obtain ⟨⟨t20, t21, t22⟩, _⟩ := cells3 B2.out
  obtain ⟨⟨z0, z1, z2⟩, zf⟩ := cells3 Z2.out
  have y0 := zf 0
  have y1 := zf 1
  have y2 := zf 2
  have FN : Hid (∃ F', OwnF (SLg TSP) F' (((V2.setCell ⟨w.heap.size + 1, 0, none⟩ (.slice (some ⟨gR, 0, none⟩) (q + 1) capR)).setCell ⟨w.heap.size + 1, 1, none⟩ (.int .i64 (n + 1))).setCell ⟨w.heap.size + 1, 2, none⟩ (.slice none 0 0)) [.slice (some ⟨gR, 0, none⟩) (q + 1) capR, .int .i64 (n + 1), .slice none 0 0] (wlay R r, n + 1, []) ∧ (∀ b, b ∈ F' → b ∈ F ∨ w.heap.size ≤ b) ∧ KpF2 F w (((V2.setCell ⟨w.heap.size + 1, 0, none⟩ (.slice (some ⟨gR, 0, none⟩) (q + 1) capR)).setCell ⟨w.heap.size + 1, 1, none⟩ (.int .i64 (n + 1))).setCell ⟨w.heap.size + 1, 2, none⟩ (.slice none 0 0))) := by
    obtain ⟨F1, o1, o2, o3, o4⟩ := SV.out.own
    have k2 : KpF2 F w V2 := by rw [hV2]; exact SV.out.kp.set (a := ⟨w.heap.size, 1, none⟩) (Nat.le_refl _) _
    have p2 : OwnF (SLg TSP) F1 V2 [.slice (some ⟨gR, 0, none⟩) (q + 1) capR, .int .i64 (n + 1), .slice none 0 0] (wlay R r, n + 1, []) := by rw [hV2]; exact (o1.num (n + 1)).set (a := ⟨w.heap.size, 1, none⟩) o3 _
    exact ⟨F1, ((p2.set (a := ⟨w.heap.size + 1, 0, none⟩) o4 _).set (a := ⟨w.heap.size + 1, 1, none⟩) o4 _).set (a := ⟨w.heap.size + 1, 2, none⟩) o4 _, o2, ((k2.set (a := ⟨w.heap.size + 1, 0, none⟩) (show w.heap.size ≤ w.heap.size + 1 by omega) _).set (a := ⟨w.heap.size + 1, 1, none⟩) (show w.heap.size ≤ w.heap.size + 1 by omega) _).set (a := ⟨w.heap.size + 1, 2, none⟩) (show w.heap.size ≤ w.heap.size + 1 by omega) _⟩
  clear zf tf
  rw [hV2] at t20 t21 t22 z0 z1 z2 y0 y1 y2
  go_wp2
  rw [← hV2]
  refine retN rfl rfl (w.heap.size + 1) rfl _ _ (0, 0) (heap_set3 (u := V2) Z2.out _ _ _) _ Try.underlying28 rfl info_lgP ?_
  obtain ⟨F', p1, p2, p3⟩ := FN.out
  rw [← hRm.out.1]
  exact ⟨_, F', rfl, p1, p2, p3⟩

end Go.Proofs.Ytlnoancjegifnaa

/-
  A region that draws its order, walked step by step: an operation that only reads is taken where it can come ('fan_take'); where one, two or three operations can come and no order is told, each is walked ('fan_one', 'fan_two', 'fan_three'). From m on a chain that all others precede. Nothing of the program is named.
-/
namespace Go.Proofs.Ytlnoancjegifnaa
open Go.RowKit
set_option linter.unusedVariables false

section
variable {P : Program} {ops : Array Oper} {Q : Exit → Act → World → Prop} {S : World → Prop} {Z : Act → World → Prop} {m : Nat}

/-- what is left to be walked, n operations ahead of the chain -/
def Fan (P : Program) (ops : Array Oper) (Q : Exit → Act → World → Prop) (S : World → Prop) (Z : Act → World → Prop) (m n : Nat) (listed : Array Bool) (a : Act) (w : World) : Prop :=
  HeadInv .any ops m listed → wpAnyM P .any ops Q S m (fun listed' a' w' => Region.seqB .any ops (ops.size - m) m listed' = true ∧ Z a' w') n listed a w
/-- a step: what is asked of operation i, all told -/
def fanStep (P : Program) (ops : Array Oper) (Q : Exit → Act → World → Prop) (S : World → Prop) (Z : Act → World → Prop) (m n i : Nat) (listed : Array Bool) (a : Act) (w : World) : Prop :=
  ∃ o, ops[i]? = some o ∧ ∀ K : Act → World → Prop, (∀ a' w', S w' → Fan P ops Q S Z m n (listed.setIfInBounds i true) a' w' → K a' w') → if Region.wanted o (yielded ops a.tmps) = true then o.wp P a w K Q else K (a.put o.dst undef) w
def fanOk (ops : Array Oper) (m : Nat) : Bool := Region.noSelect ops && decide (m < ops.size) && Region.sinkB .any ops m && Region.chainB .any ops m
def takeOk (ops : Array Oper) (m i : Nat) (listed : Array Bool) : Bool := fanOk ops m && decide (i < m) && (Region.ready .any ops listed).contains i && Region.free .any ops listed i
def readyOk (ops : Array Oper) (m : Nat) (is : List Nat) (listed : Array Bool) : Bool := decide (Region.ready .any ops listed = is) && is.all (fun i => decide (i < m)) && !is.isEmpty

theorem fan_take {i n : Nat} {listed : Array Bool} {a : Act} {w : World} {o : Oper} {v : Value} (ho : ops[i]? = some o) (hB : takeOk ops m i listed = true) (hQ : ∀ c (a : Act) t w, Q (.panic c) { a with tmps := t } w → Q (.panic c) a w) (hw : Region.wanted o (yielded ops a.tmps) = true) (hS : S w)
    (hy : ∀ w, S w → (execOp a.eval o).run P w = .ok (.value v) w) (h : Fan P ops Q S Z m n (listed.setIfInBounds i true) (a.put o.dst v) w) : Fan P ops Q S Z m (n + 1) listed a w := by
  intro inv
  simp only [takeOk, fanOk, Bool.and_eq_true, decide_eq_true_eq] at hB
  obtain ⟨⟨⟨⟨⟨⟨hsel, hm⟩, hs⟩, hc⟩, him⟩, hr⟩, hf⟩ := hB
  have hr' : i ∈ Region.ready .any ops listed := by simpa using hr
  exact wpAnyM_first ho (Region.noSelect_spec hsel) hs hc hm him (fun c a w h => hQ c a (a.put o.dst v).tmps w (by rw [← put_tmps]; exact h)) (fun listed a w hL => seqB_ready hL.1) _ listed a w inv (Region.free_spec ho hf) hr' (.inl ⟨hw, hy⟩) hS (h (inv.set hr' him))
theorem fan_all {is : List Nat} {n : Nat} {listed : Array Bool} {a : Act} {w : World} (hB : readyOk ops m is listed = true) (h : ∀ i ∈ is, fanStep P ops Q S Z m n i listed a w) : Fan P ops Q S Z m (n + 1) listed a w := by
  intro inv
  simp only [readyOk, Bool.and_eq_true, decide_eq_true_eq, List.all_eq_true] at hB
  obtain ⟨⟨hr, hlt⟩, hne⟩ := hB
  refine ⟨fun h1 => ?_, fun j hj => ?_⟩
  · rw [hr] at h1; subst h1; simp at hne
  · have hj0 := hj
    rw [hr] at hj
    have him := hlt j hj
    refine ⟨him, ?_⟩
    obtain ⟨o, ho, hK⟩ := h j hj
    have := hK (fun a' w' => S w' ∧ Fan P ops Q S Z m n (listed.setIfInBounds j true) a' w') (fun a' w' h1 h2 => ⟨h1, h2⟩)
    have hw : wpOp P ops Q j (fun a' w' => S w' ∧ Fan P ops Q S Z m n (listed.setIfInBounds j true) a' w') a w := by
      unfold wpOp
      simp only [ho]
      split
      · rename_i hwd; rw [if_pos hwd] at this; exact .inl this
      · rename_i hwd; rw [if_neg hwd] at this; exact this
    exact wpOp_mono (fun a' w' h' => ⟨h'.1, h'.2 (inv.set hj0 him)⟩) hw
theorem fan_one {n : Nat} {listed : Array Bool} {a : Act} {w : World} (i : Nat) (hB : readyOk ops m [i] listed = true) (h : fanStep P ops Q S Z m n i listed a w) : Fan P ops Q S Z m (n + 1) listed a w :=
  fan_all hB fun j hj => by simp at hj; subst hj; exact h
theorem fan_two {n : Nat} {listed : Array Bool} {a : Act} {w : World} (i j : Nat) (hB : readyOk ops m [i, j] listed = true) (h1 : fanStep P ops Q S Z m n i listed a w) (h2 : fanStep P ops Q S Z m n j listed a w) : Fan P ops Q S Z m (n + 1) listed a w :=
  fan_all hB fun k hk => by
    simp at hk
    rcases hk with rfl | rfl
    · exact h1
    · exact h2
theorem fan_three {n : Nat} {listed : Array Bool} {a : Act} {w : World} (i j k : Nat) (hB : readyOk ops m [i, j, k] listed = true) (h1 : fanStep P ops Q S Z m n i listed a w) (h2 : fanStep P ops Q S Z m n j listed a w) (h3 : fanStep P ops Q S Z m n k listed a w) : Fan P ops Q S Z m (n + 1) listed a w :=
  fan_all hB fun q hq => by
    simp at hq
    rcases hq with rfl | rfl | rfl
    · exact h1
    · exact h2
    · exact h3
/-- an operation that is wanted -/
theorem fan_step {i n : Nat} {listed : Array Bool} {a : Act} {w : World} {o : Oper} (ho : ops[i]? = some o) (hw : Region.wanted o (yielded ops a.tmps) = true) (h : ∀ K : Act → World → Prop, (∀ a' w', S w' → Fan P ops Q S Z m n (listed.setIfInBounds i true) a' w' → K a' w') → o.wp P a w K Q) : fanStep P ops Q S Z m n i listed a w :=
  ⟨o, ho, fun K hK => by rw [if_pos hw]; exact h K hK⟩
theorem fan_done {listed : Array Bool} {a : Act} {w : World} (hB : Region.seqB .any ops (ops.size - m) m listed = true) (h : Z a w) : Fan P ops Q S Z m 0 listed a w := fun _ => ⟨hB, h⟩

theorem wp_region_fan {id : Nat} {a : Act} {w : World} {l : List Oper} (S : World → Prop) (m : Nat) (hf : P.follows .mixedOrders = true) (hm : m < l.length)
    (h : Fan P l.toArray Q S (fun a'' w'' => wpList P l.toArray Q (l.drop m) a'' w'') m m (Array.replicate l.toArray.size false) a w.drew) : (Code.region id l.toArray true).wp P Q a w := by
  have hld : (l.drop m).length = l.length - m := by simp
  have inv0 : HeadInv .any l.toArray m (Array.replicate l.toArray.size false) :=
    ⟨by simp, fun j oj _ hl => (by rw [getD_replicate_false] at hl; cases hl), fun t _ ht => getD_in (by simpa using ht) (getD_replicate_false _ _)⟩
  have H := h inv0
  refine wp_region_any hf ?_
  have := wpAny_of_mid (Q := Q) (g := l.length - m) (fun listed a' w' hL => by
    have := wpAny_of_seq (md := .any) (Q' := Q) (l.drop m) m listed a' w' (fun j => by simp [List.getElem?_drop]) (by rw [hld]; simpa using hL.1) hL.2
    rwa [hld] at this) _ _ _ _ H
  rw [show m + (l.length - m) = l.toArray.size by simp; omega] at this
  exact this

end
end Go.Proofs.Ytlnoancjegifnaa

/-
  The program's Flush of logs.
-/
namespace Go.Proofs.Ytlnoancjegifnaa
open Go.RowKit
set_option linter.unusedVariables false
set_option linter.unusedSimpArgs false

theorem ownF_lg {T : Nat} {F : List Nat} {w : World} {sv : Value} {segs : List Wrt} (n : Int) (h : OwnF (Shp.list T SWr) F w [sv] segs) : OwnF (SLg T) F w [sv, .int .i64 n, .slice none 0 0] (segs, n, []) := by
  have := OwnF.join (c := [sv]) (d := [.int .i64 n, .slice none 0 0]) h (OwnF.join (c := [.int .i64 n]) (d := [.slice none 0 0]) (s := Shp.int .i64) (t := SSec) (F1 := []) (F2 := []) (x := n) (y := []) ⟨⟨rfl, rfl⟩, List.nodup_nil⟩ ⟨⟨_, [], [], rfl, World.ownsRow_nil _ _ _ _, ⟨rfl, rfl⟩, by simp [Value.ownBlock]⟩, List.nodup_nil⟩ (fun b hb => by cases hb)) (fun b _ hb => by cases hb)
  simpa using this
theorem lgF_of {T B : Nat} {F : List Nat} {w : World} {sv : Value} {segs : List Wrt} {n : Int} (h : OwnF (SLg T) F w [sv, .int .i64 n, .slice none 0 0] (segs, n, [])) (hB : ∀ b, b ∈ F → B ≤ b) : LgF T B w sv (.slice none 0 0) (segs, n, []) := by
  obtain ⟨F1, F2, rfl, h1, h2, _⟩ := OwnF.split (c := [sv]) (d := [.int .i64 n, .slice none 0 0]) h rfl
  exact ⟨h1.own fun b hb => hB b (by simp [hb]), OwnV.nil _ _ _⟩
theorem pfs_bd {limit : Int} {l : Wlg} (h0 : 0 ≤ l.2.1) (h1 : l.1.length ≤ 4096) (h2 : l.2.1 ≤ 1099511627776) (h3 : ∀ s ∈ l.1, s.2.length ≤ 16777216) (h4 : wwaitOk l.2.2) : ∀ k, k ≤ l.2.2.length → (0 ≤ (pfs limit l k).2 ∧ (pfs limit l k).2 ≤ 1099511627776 + (k : Int)) ∧ (pfs limit l k).1.length ≤ 4096 + k ∧ ∀ s ∈ (pfs limit l k).1, s.2.length ≤ 16777216 + 4104 * k
  | 0, _ => ⟨⟨h0, by show l.2.1 ≤ 1099511627776 + ((0 : Nat) : Int); omega⟩, h1, fun s hs => by have := h3 s hs; omega⟩
  | k + 1, hk => by
    obtain ⟨r, hr⟩ : ∃ r, l.2.2[k]? = some r := ⟨l.2.2[k], List.getElem?_eq_getElem (by omega)⟩
    have hrl := h4 r (List.mem_of_getElem? hr)
    obtain ⟨⟨i1, i2⟩, i3, i4⟩ := pfs_bd (limit := limit) h0 h1 h2 h3 h4 k (by omega)
    rw [pfs_next hr]
    obtain ⟨st, hst⟩ : ∃ st, st = pfs limit l k := ⟨_, rfl⟩
    rw [← hst] at i1 i2 i3 i4 ⊢
    have hg := wroom_ge limit st.1 st.2
    refine ⟨⟨by show 0 ≤ st.2 + 1; omega, by show st.2 + 1 ≤ _; push_cast; omega⟩, by show (wlay _ _).length ≤ _; rw [wlay_len]; omega, fun s hs => ?_⟩
    have hroom : ∀ s ∈ wroom limit st.1 st.2, s.2.length ≤ 16777216 + 4104 * k := fun s hs => by
      unfold wroom at hs
      split at hs
      · rcases List.mem_append.1 hs with hs | hs
        · exact i4 s hs
        · simp only [List.mem_singleton] at hs; subst hs; simp
      · exact i4 s hs
    have hs' : s ∈ wlay (wroom limit st.1 st.2) r := hs
    unfold wlay at hs'
    rcases List.mem_or_eq_of_mem_set hs' with hs | hs
    · have := hroom s hs; omega
    · subst hs
      show (_ ++ fseal 1 r).length ≤ _
      rw [List.length_append, fseal_len]
      have : (wlast (wroom limit st.1 st.2)).2.length ≤ 16777216 + 4104 * k := by
        unfold wlast
        rw [List.getD_eq_getElem?_getD]
        cases hq : (wroom limit st.1 st.2)[(wroom limit st.1 st.2).length - 1]? with
        | none => simp
        | some y => exact hroom y (List.mem_of_getElem? hq)
      omega

set_option maxRecDepth 100000 in
set_option maxHeartbeats 8000000 in
theorem pwflush_any (w : World) (sv wv : Value) (l : Wlg) (limit : Int) (h1 : RdC w sv l.1) (h2 : RdSec w wv l.2.2) (hm : ∀ s ∈ l.1, s.2.length ≤ 16777216) :
    Calls Try.prog 13 #[.agg #[sv, .int .i64 l.2.1, wv], .int .i64 limit] w fun e w' => ∃ sv' wv', e = .returned (.tuple #[.agg #[sv', .int .i64 (wflush l limit).1.2.1, wv'], .int .i64 (wflush l limit).2]) ∧ LgF TSP w.heap.size w' sv' wv' (wflush l limit).1 ∧ Below w.heap.size w w' := by
  obtain ⟨a1, c1, rfl⟩ := h1.slice
  obtain ⟨a2, c2, rfl⟩ := h2.slice
  obtain ⟨W, hW, hA, hZ, bW, sW⟩ := boxes3 w (.slice a1 l.1.length c1) (.int .i64 l.2.1) (.slice a2 l.2.2.length c2) 28
  have KC := hide (pwcheck_any W _ _ l (h1.to0 bW) (h2.to0 bW) hm)
  obtain ⟨⟨A0, A1, A2⟩, _⟩ := cells3 hA
  rw [hW] at A0 A1 A2
  go_enter Try.func13, Try.ntmps13
  by_cases hok : WOk l
  · rw [wcheck_ok hok] at KC
    go_wp2_with fail
    rw [← hW]
    replace hW := hide hW
    refine KC.out.mono ?_
    rintro e w1 ⟨rfl, b1⟩
    clear KC A0 A1 A2
    have c1w := hide (bW.trans (b1.mono bW.size))
    have A' := hide ((b1.block _ (lt_of_block hA)).trans hA)
    have Z' := hide ((b1.block _ (lt_of_block hZ)).trans hZ)
    have H1 := hide (h1.to0 c1w.out)
    have H2 := hide (h2.to0 c1w.out)
    have s1 : w.heap.size + 1 + 1 ≤ w1.heap.size := by have := b1.size; omega
    have HOK := hide hok
    have hfit := hide (hok.fit hm)
    have hwl : l.2.2.length ≤ 4096 := hok.1.2.2
    have hsl : l.1.length ≤ 4096 := hok.1.1
    have PB := hide (fun k hk => pfs_bd (limit := limit) (l := l) hok.1.2.1.1 hok.1.1 hok.1.2.1.2 hm hok.2.1 k hk)
    clear hA hZ bW b1 h1 h2 hok sW
    by_cases hlim : limit < 1 ∨ 1048576 < limit
    · have hE := hide (wflush_4 HOK.out hlim)
      have Z1 := Z'.out
      obtain ⟨⟨z0, z1, z2⟩, zf⟩ := cells3 Z1
      have y0 := zf 0
      have y1 := zf 1
      have y2 := zf 2
      by_cases hl1 : limit < 1
      · replace hlim := hide hlim
        go_wp2
        refine retNT rfl rfl (w.heap.size + 1) rfl _ _ (0, 0) (heap_set3 (u := w1) Z1 _ _ _) _ Try.underlying28 rfl info_lgP _ rfl ?_
        rw [hE.out]
        exact ⟨_, _, rfl, LgF.zero _ _ _, below_set3 c1w.out (show w.heap.size ≤ w.heap.size + 1 by omega) _ _ _⟩
      · have hl2 : 1048576 < limit := by omega
        replace hlim := hide hlim
        go_wp2
        refine retNT rfl rfl (w.heap.size + 1) rfl _ _ (0, 0) (heap_set3 (u := w1) Z1 _ _ _) _ Try.underlying28 rfl info_lgP _ rfl ?_
        rw [hE.out]
        exact ⟨_, _, rfl, LgF.zero _ _ _, below_set3 c1w.out (show w.heap.size ≤ w.heap.size + 1 by omega) _ _ _⟩
    · have hl1 : ¬ limit < 1 := by omega
      have hl2 : ¬ 1048576 < limit := by omega
      have hyes := hide (fun h => wflush_fit HOK.out hlim h)
      have hno := hide (fun h => wflush_nofit HOK.out hlim h)
      replace hlim := hide hlim
      obtain ⟨⟨A0, A1, A2⟩, _⟩ := cells3 A'.out
      have HS : Hid (∀ w9, Below w1.heap.size w1 w9 → w9.cell? ⟨w.heap.size, 0, none⟩ = some (.slice a1 l.1.length c1) ∧ w9.cell? ⟨w.heap.size, 1, none⟩ = some (.int .i64 l.2.1)) := fun w9 b9 =>
        ⟨(b9.cell (cell_lt A0)).trans A0, (b9.cell (cell_lt A1)).trans A1⟩
      have KS := hide (fun w9 (b9 : Below w1.heap.size w1 w9) => psegs_any w9 _ l.1 (H1.out.to0 b9) (by omega) (fun x hx => hfit.out.2.1 x hx))
      go_upto_region 6 with fail
      clear A0 A1 A2
      go_cut [7] from 23 to 28 (fun pp wx => ∃ (g7 : Nat) (v7 : Value), pp = .pointer (some ⟨g7, 0, none⟩) ∧ w1.heap.size ≤ g7 ∧ Hid (BoxLg (SLg TSP) 28 g7 w1.heap.size wx v7 (.slice none 0 0) (l.1, l.2.1, []) ∧ Below w1.heap.size w1 wx))
      case first =>
        have b0 : Below w1.heap.size w1 w1.drew := (Below.refl _ _).drew
        refine wp_region_fan (fun w9 => w9.cell? ⟨w.heap.size, 0, none⟩ = some (.slice a1 l.1.length c1) ∧ w9.cell? ⟨w.heap.size, 1, none⟩ = some (.int .i64 l.2.1)) 7 mixed (by simp) ?_
        generalize w1.drew = c0 at *
        refine fan_take (i := 0) (v := ?_) rfl (by kernel_rfl) (fun _ _ _ _ h => h) (by kernel_rfl) (HS.out _ b0) ?_ ?_
        rotate_left
        · rintro w9 ⟨t0, t1⟩
          go_simp
          try with_reducible rfl
        try simp only [Act.put, List.setIfInBounds_toArray, List.set_cons_zero, List.set_cons_succ]
        refine fan_take (i := 1) (v := ?_) rfl (by kernel_rfl) (fun _ _ _ _ h => h) (by kernel_rfl) (HS.out _ b0) ?_ ?_
        rotate_left
        · rintro w9 ⟨t0, t1⟩
          go_simp
          try with_reducible rfl
        try simp only [Act.put, List.setIfInBounds_toArray, List.set_cons_zero, List.set_cons_succ]
        refine fan_take (i := 3) (v := ?_) rfl (by kernel_rfl) (fun _ _ _ _ h => h) (by kernel_rfl) (HS.out _ b0) ?_ ?_
        rotate_left
        · rintro w9 ⟨t0, t1⟩
          go_simp
          try with_reducible rfl
        try simp only [Act.put, List.setIfInBounds_toArray, List.set_cons_zero, List.set_cons_succ]
        refine fan_take (i := 4) (v := ?_) rfl (by kernel_rfl) (fun _ _ _ _ h => h) (by kernel_rfl) (HS.out _ b0) ?_ ?_
        rotate_left
        · rintro w9 ⟨t0, t1⟩
          go_simp
          try with_reducible rfl
        try simp only [Act.put, List.setIfInBounds_toArray, List.set_cons_zero, List.set_cons_succ]
        refine fan_two 2 6 (by kernel_rfl) ?_ ?_
        · refine fan_step rfl (by kernel_rfl) fun K hK => ?_
          refine wp_call_of 35 _ _ (by rfl) #[.slice a1 l.1.length c1] (by simp [Act.eval]) (Try.call35 _ _) (KS.out _ b0) ?_
          rintro e d1 ⟨v7, rfl, o7, b7⟩
          have b1 := b0.trans (b7.mono b0.size)
          refine ⟨_, rfl, hK _ _ (HS.out _ b1) ?_⟩
          clear hK K
          try simp only [Act.put, List.setIfInBounds_toArray, List.set_cons_zero, List.set_cons_succ]
          obtain ⟨va, vc, hv⟩ := o7.rdS.slice
          subst hv
          refine fan_take (i := 5) (v := ?_) rfl (by kernel_rfl) (fun _ _ _ _ h => h) (by kernel_rfl) (HS.out _ b1) ?_ ?_
          rotate_left
          · rintro w9 ⟨t0, t1⟩
            go_simp
            try with_reducible rfl
          try simp only [Act.put, List.setIfInBounds_toArray, List.set_cons_zero, List.set_cons_succ]
          refine fan_one 6 (by kernel_rfl) ?_
          refine fan_step rfl (by kernel_rfl) fun K hK => ?_
          go_simp
          obtain ⟨d2, hc, h9, bc, sc⟩ := boxedN d1 #[.slice none 0 0, .int .i64 0, .slice none 0 0] 28
          rw [← hc]
          have b2 := b1.trans (bc.mono b1.size)
          obtain ⟨g9, hg9⟩ : ∃ g, g = d1.heap.size := ⟨_, rfl⟩
          rw [← hg9] at h9
          rw [← hg9]
          have l9 : w1.heap.size ≤ g9 := by have := b1.size; omega
          have HO : Hid (∃ F, OwnF (Shp.list TSP SWr) F d2 [.slice va l.1.length vc] l.1 ∧ (∀ b, b ∈ F → w1.heap.size ≤ b) ∧ g9 ∉ F) := by
            obtain ⟨F, f1, f2⟩ := o7.foot
            exact ⟨F, f1.to bc, fun b hb => by have := f2 b hb; have := b0.size; omega, fun hh => by have := f1.lt _ hh; omega⟩
          refine hK _ _ (HS.out _ b2) ?_
          clear hK K hc bc sc hg9 o7 b7
          try simp only [Act.put, List.setIfInBounds_toArray, List.set_cons_zero, List.set_cons_succ]
          refine fan_done (by kernel_rfl) ?_
          show wpList _ _ _ _ _ _
          obtain ⟨⟨y0, y1, y2⟩, yf⟩ := cells3 h9
          have f0 := yf 0
          have f1 := yf 1
          have f2 := yf 2
          have FN : Hid (BoxLg (SLg TSP) 28 g9 w1.heap.size (((d2.setCell ⟨g9, 0, none⟩ (.slice va l.1.length vc)).setCell ⟨g9, 1, none⟩ (.int .i64 l.2.1)).setCell ⟨g9, 2, none⟩ (.slice none 0 0)) (.slice va l.1.length vc) (.slice none 0 0) (l.1, l.2.1, []) ∧ Below w1.heap.size w1 (((d2.setCell ⟨g9, 0, none⟩ (.slice va l.1.length vc)).setCell ⟨g9, 1, none⟩ (.int .i64 l.2.1)).setCell ⟨g9, 2, none⟩ (.slice none 0 0))) := by
            obtain ⟨F, p1, p2, p3⟩ := HO.out
            exact ⟨⟨heap_set3 h9 _ _ _, F, (((ownF_lg l.2.1 p1).set (a := ⟨g9, 0, none⟩) p3 _).set (a := ⟨g9, 1, none⟩) p3 _).set (a := ⟨g9, 2, none⟩) p3 _, p2, p3⟩, below_set3 b2 l9 _ _ _⟩
          clear HO h9 b2 yf b1
          dsimp only [List.drop]
          go_wp2_with fail
          go_meet
          exact ⟨g9, _, rfl, l9, FN⟩
        · refine fan_step rfl (by kernel_rfl) fun K hK => ?_
          go_simp
          obtain ⟨d1, hc, h9, bc, sc⟩ := boxedN c0 #[.slice none 0 0, .int .i64 0, .slice none 0 0] 28
          rw [← hc]
          have b1 := b0.trans (bc.mono b0.size)
          obtain ⟨g9, hg9⟩ : ∃ g, g = c0.heap.size := ⟨_, rfl⟩
          rw [← hg9] at h9
          rw [← hg9]
          have l9 : w1.heap.size ≤ g9 := by have := b0.size; omega
          have s9 : g9 < d1.heap.size := lt_of_block h9
          refine hK _ _ (HS.out _ b1) ?_
          clear hK K hc bc sc hg9
          try simp only [Act.put, List.setIfInBounds_toArray, List.set_cons_zero, List.set_cons_succ]
          refine fan_one 2 (by kernel_rfl) ?_
          refine fan_step rfl (by kernel_rfl) fun K hK => ?_
          refine wp_call_of 35 _ _ (by rfl) #[.slice a1 l.1.length c1] (by simp [Act.eval]) (Try.call35 _ _) (KS.out _ b1) ?_
          rintro e d2 ⟨v7, rfl, o7, b7⟩
          have b2 := b1.trans (b7.mono b1.size)
          replace h9 := (b7.block _ (lt_of_block h9)).trans h9
          have HO : Hid (∃ F, OwnF (Shp.list TSP SWr) F d2 [v7] l.1 ∧ (∀ b, b ∈ F → w1.heap.size ≤ b) ∧ g9 ∉ F) := by
            obtain ⟨F, f1, f2⟩ := o7.foot
            exact ⟨F, f1, fun b hb => by have := f2 b hb; have := b1.size; omega, fun hh => by have := f2 _ hh; omega⟩
          refine ⟨_, rfl, hK _ _ (HS.out _ b2) ?_⟩
          clear hK K b7
          try simp only [Act.put, List.setIfInBounds_toArray, List.set_cons_zero, List.set_cons_succ]
          obtain ⟨va, vc, hv⟩ := o7.rdS.slice
          subst hv
          refine fan_take (i := 5) (v := ?_) rfl (by kernel_rfl) (fun _ _ _ _ h => h) (by kernel_rfl) (HS.out _ b2) ?_ ?_
          rotate_left
          · rintro w9 ⟨t0, t1⟩
            go_simp
            try with_reducible rfl
          try simp only [Act.put, List.setIfInBounds_toArray, List.set_cons_zero, List.set_cons_succ]
          refine fan_done (by kernel_rfl) ?_
          show wpList _ _ _ _ _ _
          obtain ⟨⟨y0, y1, y2⟩, yf⟩ := cells3 h9
          have f0 := yf 0
          have f1 := yf 1
          have f2 := yf 2
          have FN : Hid (BoxLg (SLg TSP) 28 g9 w1.heap.size (((d2.setCell ⟨g9, 0, none⟩ (.slice va l.1.length vc)).setCell ⟨g9, 1, none⟩ (.int .i64 l.2.1)).setCell ⟨g9, 2, none⟩ (.slice none 0 0)) (.slice va l.1.length vc) (.slice none 0 0) (l.1, l.2.1, []) ∧ Below w1.heap.size w1 (((d2.setCell ⟨g9, 0, none⟩ (.slice va l.1.length vc)).setCell ⟨g9, 1, none⟩ (.int .i64 l.2.1)).setCell ⟨g9, 2, none⟩ (.slice none 0 0))) := by
            obtain ⟨F, p1, p2, p3⟩ := HO.out
            exact ⟨⟨heap_set3 h9 _ _ _, F, (((ownF_lg l.2.1 p1).set (a := ⟨g9, 0, none⟩) p3 _).set (a := ⟨g9, 1, none⟩) p3 _).set (a := ⟨g9, 2, none⟩) p3 _, p2, p3⟩, below_set3 b2 l9 _ _ _⟩
          clear HO h9 b2 yf b1 o7 s9
          dsimp only [List.drop]
          go_wp2_with fail
          go_meet
          exact ⟨g9, _, rfl, l9, FN⟩
      case rest =>
      obtain ⟨g7, v7, rfl, hl7, HB⟩ := hcut
      obtain ⟨U, hU⟩ : ∃ U, U = wc := ⟨_, rfl⟩
      rw [← hU] at HB ⊢
      replace hU := hide hU
      clear HS KS
      obtain ⟨⟨A0, A1, A2⟩, _⟩ := cells3 ((HB.out.2.block _ (by omega)).trans A'.out)
      go_wp2
      clear A0 A1 A2
      go_loopw [32] (fun i wr => ∃ (k : Nat) (c : Value), k ≤ l.2.2.length ∧ i = .int .i64 k ∧ Hid (BoxLg (SLg TSP) 28 g7 w1.heap.size wr c (.slice none 0 0) ((pfs limit l k).1, (pfs limit l k).2, []) ∧ Below w1.heap.size w1 wr)) (fun i _ => l.2.2.length - (intOf i).toNat)
      case atStart => exact ⟨0, _, Nat.zero_le _, rfl, HB⟩
      case round =>
        obtain ⟨k, c, hk, rfl, hI⟩ := hrel
        clear HB
        obtain ⟨⟨hT, F, hF, hFB, hgF⟩, hb⟩ := hI.out
        have PBk := hide (PB.out k hk)
        dsimp only at hT hF
        by_cases hlt : k < l.2.2.length
        · have hq : (k : Int) < (l.2.2.length : Int) := by omega
          obtain ⟨r, hr, hrm⟩ := some_at l.2.2 hlt
          have hrl := HOK.out.2.1 r hrm
          have hpn := hide (pfs_next (limit := limit) (l := l) hr)
          obtain ⟨b1, o1, u, e2, hc, hru⟩ := H2.out.oct hr
          have hcr := (hb.cell (cell_lt hc)).trans hc
          have HR : ∀ w', KpF2 F wr w' → Rd w' u r := fun w' kp => hru.to (hb.trans (kp.2 w1.heap.size hFB hb.size))
          obtain ⟨⟨p1, p2⟩, p3, p4⟩ := PBk.out
          obtain ⟨st, hst⟩ : ∃ st, st = pfs limit l k := ⟨_, rfl⟩
          rw [← hst] at hT hF p1 p2 p3 p4 hpn
          have KW := hide (pwritten_any wr c u F st.1 st.2 r limit hF HR hrl (by omega) (fun s hs => by have := p4 s hs; omega) p1 (by omega))
          obtain ⟨⟨T0, T1, T2⟩, _⟩ := cells3 hT
          obtain ⟨ua, uc, hu⟩ := hru.slice
          have GO : Hid (∀ (w' : World) (sv' : Value) (F' : List Nat), OwnF (SLg TSP) F' w' [sv', .int .i64 (st.2 + 1), .slice none 0 0] (wlay (wroom limit st.1 st.2) r, st.2 + 1, []) → (∀ b, b ∈ F' → b ∈ F ∨ wr.heap.size ≤ b) → KpF2 F wr w' →
              w'.heap[g7]? = some (.cells #[c, .int .i64 st.2, .slice none 0 0] 28 (0, 0)) ∧ Hid (BoxLg (SLg TSP) 28 g7 w1.heap.size (((w'.setCell ⟨g7, 0, none⟩ sv').setCell ⟨g7, 1, none⟩ (.int .i64 (st.2 + 1))).setCell ⟨g7, 2, none⟩ (.slice none 0 0)) sv' (.slice none 0 0) ((pfs limit l (k + 1)).1, (pfs limit l (k + 1)).2, []) ∧ Below w1.heap.size w1 (((w'.setCell ⟨g7, 0, none⟩ sv').setCell ⟨g7, 1, none⟩ (.int .i64 (st.2 + 1))).setCell ⟨g7, 2, none⟩ (.slice none 0 0)))) := fun w' sv' F' q1 q2 q3 => by
            have hT' := (q3.1 g7 (lt_of_block hT) hgF).trans hT
            have hlt7 := lt_of_block hT
            have gF' : g7 ∉ F' := fun h => (q2 _ h).elim hgF (fun h => by omega)
            refine ⟨hT', ⟨?_, F', ?_, fun b hb' => (q2 b hb').elim (hFB b) (fun h => by have := hb.size; omega), gF'⟩, ?_⟩
            · rw [hpn.out]; exact heap_set3 hT' _ _ _
            · rw [hpn.out]; exact ((q1.set (a := ⟨g7, 0, none⟩) gF' _).set (a := ⟨g7, 1, none⟩) gF' _).set (a := ⟨g7, 2, none⟩) gF' _
            · exact below_set3 (hb.trans (q3.2 w1.heap.size hFB hb.size)) hl7 _ _ _
          clear hT hF hFB hgF hb hI hr hrm HR hru hc p4 hst
          subst e2
          subst hu
          go_wp2_with fail
          refine KW.out.mono ?_
          rintro e w6 ⟨sv6, F6, rfl, q1, q2, q3⟩
          clear KW T0 T1 T2
          obtain ⟨BX6, FN6⟩ := GO.out w6 sv6 F6 q1 q2 q3
          obtain ⟨va, vc, hv⟩ := (OwnF.waits q1).2.slice
          obtain ⟨NN, hNN⟩ : ∃ NN, NN = (wlay (wroom limit st.1 st.2) r).length := ⟨_, rfl⟩
          rw [← hNN] at hv
          replace hNN := hide hNN
          subst hv
          obtain ⟨⟨T0, T1, T2⟩, tf⟩ := cells3 BX6
          have f0 := tf 0
          have f1 := tf 1
          have f2 := tf 2
          clear q1 q2 q3 GO tf BX6
          go_wp2
          go_roundw
          case rel => exact ⟨k + 1, _, by omega, by go_num, FN6⟩
          case measure => simp [intOf]; omega
        · have hq : ¬ (k : Int) < (l.2.2.length : Int) := by omega
          obtain rfl : k = l.2.2.length := by omega
          obtain ⟨⟨p1, p2⟩, p3, p4⟩ := PBk.out
          obtain ⟨st, hst⟩ : ∃ st, st = pfs limit l l.2.2.length := ⟨_, rfl⟩
          rw [← hst] at hT hF p1 p2 p3 p4
          obtain ⟨⟨T0, T1, T2⟩, _⟩ := cells3 hT
          have Z2 := hide ((hb.block (w.heap.size + 1) (by omega)).trans Z'.out)
          obtain ⟨⟨z0, z1, z2⟩, zf⟩ := cells3 Z2.out
          have y0 := zf 0
          have y1 := zf 1
          have y2 := zf 2
          have CU := hide (c1w.out.trans (hb.mono c1w.out.size))
          obtain ⟨va, vc, hv⟩ := (OwnF.waits hF).2.slice
          obtain ⟨NN, hNN⟩ : ∃ NN, NN = st.1.length := ⟨_, rfl⟩
          rw [← hNN] at hv p3
          subst hv
          have LG := hide ((lgF_of (B := w1.heap.size) hF hFB).set3 (g := w.heap.size + 1) (by omega) (.slice va NN vc) (.int .i64 st.2) (.slice none 0 0))
          by_cases hfit2 : pfit st
          · have hE := hide (hyes.out (by rw [← hst]; exact hfit2))
            rw [← hst] at hE
            have n1 : ¬ (1099511627776 : Int) < st.2 := by have := hfit2.1; omega
            have n2 : ¬ (4096 : Int) < (NN : Int) := by have := hfit2.2; omega
            replace hfit2 := hide hfit2
            replace hNN := hide hNN
            clear hT hF hFB hgF hb hI p4 hst zf
            go_wp2
            refine retNT rfl rfl (w.heap.size + 1) rfl _ _ (0, 0) (heap_set3 (u := wr) Z2.out _ _ _) _ Try.underlying28 rfl info_lgP _ rfl ?_
            rw [hE.out]
            exact ⟨_, _, rfl, LG.out.mono (by omega), below_set3 CU.out (show w.heap.size ≤ w.heap.size + 1 by omega) _ _ _⟩
          · have hE := hide (hno.out (by rw [← hst]; exact hfit2))
            by_cases n1 : (1099511627776 : Int) < st.2
            · replace hfit2 := hide hfit2
              replace hNN := hide hNN
              clear hT hF hFB hgF hb hI p4 hst zf
              go_wp2
              refine retNT rfl rfl (w.heap.size + 1) rfl _ _ (0, 0) (heap_set3 (u := wr) Z2.out _ _ _) _ Try.underlying28 rfl info_lgP _ rfl ?_
              rw [hE.out]
              exact ⟨_, _, rfl, LgF.zero _ _ _, below_set3 CU.out (show w.heap.size ≤ w.heap.size + 1 by omega) _ _ _⟩
            · have n2 : (4096 : Int) < (NN : Int) := by
                apply Decidable.byContradiction
                intro h
                exact hfit2 ⟨by omega, by omega⟩
              replace hfit2 := hide hfit2
              replace hNN := hide hNN
              clear hT hF hFB hgF hb hI p4 hst zf
              go_wp2
              refine retNT rfl rfl (w.heap.size + 1) rfl _ _ (0, 0) (heap_set3 (u := wr) Z2.out _ _ _) _ Try.underlying28 rfl info_lgP _ rfl ?_
              rw [hE.out]
              exact ⟨_, _, rfl, LgF.zero _ _ _, below_set3 CU.out (show w.heap.size ≤ w.heap.size + 1 by omega) _ _ _⟩
  · rw [wcheck_no hok] at KC
    have hE := hide (wflush_9 (limit := limit) hok)
    replace hok := hide hok
    go_wp2_with fail
    rw [← hW]
    replace hW := hide hW
    refine KC.out.mono ?_
    rintro e w1 ⟨rfl, b1⟩
    have Z1 := (b1.block _ (lt_of_block hZ)).trans hZ
    obtain ⟨⟨z0, z1, z2⟩, zf⟩ := cells3 Z1
    have y0 := zf 0
    have y1 := zf 1
    have y2 := zf 2
    have cw := bW.trans (b1.mono bW.size)
    clear KC A0 A1 A2
    go_wp2
    refine retNT rfl rfl (w.heap.size + 1) rfl _ _ (0, 0) (heap_set3 (u := w1) Z1 _ _ _) _ Try.underlying28 rfl info_lgP _ rfl ?_
    rw [hE.out]
    exact ⟨_, _, rfl, LgF.zero _ _ _, below_set3 cw (show w.heap.size ≤ w.heap.size + 1 by omega) _ _ _⟩

end Go.Proofs.Ytlnoancjegifnaa

/-
  The program's wholeOf and Recover of logs: the answer is told by its readings.
-/
namespace Go.Proofs.Ytlnoancjegifnaa
open Go.RowKit
set_option linter.unusedVariables false
set_option linter.unusedSimpArgs false

abbrev TLP : Nat := 28
theorem wn_pos (x : List UInt8) : 0 < wn x ↔ 0 < (wrecs x).length := by
  have h := wsz_len (wrecs x)
  have e : wn x = wsz (wrecs x) := rfl
  constructor
  · intro h1
    apply Decidable.byContradiction
    intro h2
    have h0 : wrecs x = [] := List.eq_nil_of_length_eq_zero (by omega)
    rw [h0] at e
    simp [wsz] at e
    omega
  · intro h1; omega
theorem wgone_push' {i n : Nat} {ss : List Wrt} {nx : Int} {rs r : List (List UInt8)} {s : Wrt} (h : 0 < n ∨ i = 0) : wgone i ((ss, nx), rs) s r n = ((ss ++ [(s.1, s.2.take n)], nx + (r.length : Nat)), rs ++ r) := by unfold wgone; rw [if_pos h]
theorem wgone_keep' {i n : Nat} {ss : List Wrt} {nx : Int} {rs r : List (List UInt8)} {s : Wrt} (h : ¬ (0 < n ∨ i = 0)) : wgone i ((ss, nx), rs) s r n = ((ss, nx + (r.length : Nat)), rs ++ r) := by unfold wgone; rw [if_neg h]
theorem s3_keep {TL g : Nat} {u : World} {a b c : Value} (h : u.heap[g]? = some (.cells #[a, b, c] TL (0, 0))) (x y z : Value) : ∀ e, e ≠ TL → KeepT e u (S3 g u x y z) := fun e he =>
  ((KeepT.set (a := ⟨g, 0, none⟩) h he x).trans (KeepT.set (a := ⟨g, 1, none⟩) (set3_0 h x) he y)).trans (KeepT.set (a := ⟨g, 2, none⟩) (set3_1 (set3_0 h x) y) he z)
theorem RInv.ret2 {TS TL : Nat} {w u : World} {o c : Value} {ss : List Wrt} {nx : Int} {rs : List (List UInt8)} (h : RInv TS TL w u o c ((ss, nx), rs)) (t3 : TL ≠ 5) (t4 : TL ≠ 54) (t5 : TL ≠ TS) (x y z : Value) :
    OwnW TS w.heap.size (S3 w.heap.size u x y z) c ss ∧ OwnV w.heap.size 0 (S3 w.heap.size u x y z) o rs ∧ Below w.heap.size w (S3 w.heap.size u x y z) := by
  have k0 := s3_keep h.ans x y z
  exact ⟨h.segs.keepT (k0 _ t3.symm) (k0 _ t5.symm), h.recs.keepT (k0 _ t3.symm) (k0 _ t4.symm), below_set3 h.bel (Nat.le_refl _) _ _ _⟩
/-- the zero log at w's end, and a log that begins behind it -/
theorem boxes3z (w : World) (n : Int) (t : TypeId) : ∃ W, W = (w.alloc (.cells #[.slice none 0 0, .int .i64 0, .slice none 0 0] t)).alloc (.cells #[.slice none 0 0, .int .i64 n, .slice none 0 0] t) ∧ W.heap[w.heap.size]? = some (.cells #[.slice none 0 0, .int .i64 0, .slice none 0 0] t (0, 0)) ∧ W.heap[w.heap.size + 1]? = some (.cells #[.slice none 0 0, .int .i64 n, .slice none 0 0] t (0, 0)) ∧ Below w.heap.size w W ∧ W.heap.size = w.heap.size + 1 + 1 := by
  refine ⟨_, rfl, ?_, ?_, ((Below.refl _ _).alloc (Nat.le_refl _) _).alloc (by simp) _, by simp⟩
  · rw [Below.heap_alloc _ _ _ (by simp)]; exact heap_alloc_last w _
  · have := heap_alloc_last (w.alloc (.cells #[.slice none 0 0, .int .i64 0, .slice none 0 0] t)) (.cells #[.slice none 0 0, .int .i64 n, .slice none 0 0] t); simpa using this

set_option maxRecDepth 100000 in
set_option maxHeartbeats 4000000 in
theorem pwholeOf_any (w : World) (sv : Value) (segs : List Wrt) (h1 : RdC w sv segs) (hm : ∀ s ∈ segs, s.2.length ≤ 16777216) (h0 : 0 < segs.length) (hsl : segs.length ≤ 4096) (hix : widx (wseg segs 0).1) :
    Calls Try.prog 47 #[sv] w fun e w' => ∃ (sv' rv : Value) (ss : List Wrt) (nx : Int) (rs : List (List UInt8)) (n : Nat), e = .returned (.tuple #[.agg #[sv', .int .i64 nx, .slice none 0 0], rv, .int .i64 (n : Int)]) ∧ PWhole segs ((ss, nx), rs) n ∧ (OwnW TSP w.heap.size w' sv' ss ∧ OwnV w.heap.size 0 w' rv rs) ∧ Below w.heap.size w w' := by
  obtain ⟨j0, ji, jz0, jz1, jz2⟩ := info_parts infoSP
  have lb1 := h1.bd
  obtain ⟨a1, c1, rfl⟩ := h1.slice
  obtain ⟨f, hf, hfm⟩ := some_at segs (k := 0) (by omega)
  rw [wseg_at hf] at hix
  have hf0 := hide (wseg_at hf)
  have H1 := hide h1
  obtain ⟨b0, o0, u0, e0, hc0, _, _⟩ := h1.wrt hf
  subst e0
  obtain ⟨fz, fx⟩ := f
  dsimp only at hc0 hix
  rw [Nat.zero_mul, Nat.add_zero] at hc0
  obtain ⟨X, hX, X0, X1, bX, sX⟩ := boxes3z w fz 28
  have hcX := (bX.cell (cell_lt hc0)).trans hc0
  have hcA : (w.alloc (.cells #[.slice none 0 0, .int .i64 0, .slice none 0 0] 28)).cell? ⟨b0, o0, none⟩ = some (.int .i64 fz) := cell_alloc hc0 _
  have hpos : (0 : Int) < (segs.length : Int) := by omega
  have st0 : Hid (RInv TSP TLP w X (.slice none 0 0) (.slice none 0 0) (pws segs 0)) := by
    show RInv _ _ _ _ _ _ (([], (wseg segs 0).1), [])
    rw [hf0.out]
    exact ⟨X1, X0, OwnW.nil _ _ _, OwnV.nil _ _ _, bX⟩
  have hp0 : Hid (0 ≤ (pws segs 0).1.2 ∧ (pws segs 0).1.2 ≤ 1099511627776) := by
    show 0 ≤ (wseg segs 0).1 ∧ (wseg segs 0).1 ≤ _
    rw [hf0.out]; exact hix
  clear X0 X1 bX hf hfm h1 sX hc0
  go_enter Try.func47, Try.ntmps47
  go_wp2
  rw [← hX]
  replace hX := hide hX
  clear hcX hcA
  go_loopw [6, 18] (fun o i wr => ∃ (k : Nat) (c : Value), k ≤ segs.length ∧ i = .int .i64 k ∧ Hid (RInv TSP TLP w wr o c (pws segs k) ∧ (pws segs k).1.1.length ≤ k ∧ (pws segs k).2.length ≤ k * 2097152 ∧ (0 ≤ (pws segs k).1.2 ∧ (pws segs k).1.2 ≤ 1099511627776 + (k : Int) * 2097152) ∧ ∀ j, j < k → wgood segs j)) (fun _ i _ => segs.length - (intOf i).toNat)
  case atStart => exact ⟨0, _, Nat.zero_le _, rfl, st0.out, Nat.le_refl _, Nat.zero_le _, ⟨hp0.out.1, by have := hp0.out.2; omega⟩, fun j hj => by omega⟩
  case round =>
    obtain ⟨k, c, hk, rfl, hI⟩ := hrel
    clear st0 hp0
    obtain ⟨RI, hssl, hrsl, ⟨hn0, hn1⟩, hgood⟩ := hI.out
    obtain ⟨st, hst⟩ : ∃ st, st = pws segs k := ⟨_, rfl⟩
    rw [← hst] at RI hssl hrsl hn0 hn1
    have HST := hide hst
    clear hst
    obtain ⟨⟨ss, nx⟩, rs⟩ := st
    dsimp only at hssl hrsl hn0 hn1
    have HG := hide hgood
    obtain ⟨ca, cc0, hcs⟩ := RI.segs.rd.slice
    obtain ⟨oa, oc, hou⟩ := RI.recs.rd.slice
    dsimp only at hcs hou
    obtain ⟨M, hM⟩ : ∃ M, M = ss.length := ⟨_, rfl⟩
    obtain ⟨N, hN⟩ : ∃ N, N = rs.length := ⟨_, rfl⟩
    rw [← hM] at hcs hssl
    rw [← hN] at hou hrsl
    subst hcs hou
    replace hM := hide hM
    replace hN := hide hN
    clear hgood
    by_cases hlt : k < segs.length
    · have hq : (k : Int) < (segs.length : Int) := by omega
      obtain ⟨y, hy, hym⟩ := some_at segs hlt
      obtain ⟨b1, o1, u, e1, hc0, hc1, hru⟩ := (H1.out.to0 RI.bel).wrt hy
      simp only [Option.some.injEq, Addr.mk.injEq, and_true] at e1
      obtain ⟨⟨rfl, rfl⟩, _⟩ := e1
      have hyl := hm y hym
      have hsg := hide (wseg_at hy)
      obtain ⟨yz, yx⟩ := y
      dsimp only at hc0 hc1 hru hyl
      obtain ⟨ua, uc, rfl⟩ := hru.slice
      have hcap : yx.length ≤ uc := by obtain ⟨_, _, e, l1, _⟩ := hru; simp only [Value.slice.injEq] at e; omega
      obtain ⟨Y, hY, Y0, bY, sY⟩ := boxedN wr #[.int .i64 yz, .slice ua yx.length uc] 56
      have RY := hide (RI.to bY)
      obtain ⟨e8, e9, _, _⟩ := row2_cells Y0
      obtain ⟨⟨T0, T1, T2⟩, _⟩ := cells3 RY.out.box
      obtain ⟨⟨z0, z1, z2⟩, zf⟩ := cells3 RY.out.ans
      have y0 := zf 0
      have y1 := zf 1
      have y2 := zf 2
      have KW := hide (pread_any Y _ yx (hru.to bY) hyl)
      have hru8 := hide (hru.to bY)
      have hwl := wn_le yx
      have hwl1 := hwl.1
      have hwr := hwl.2.1
      dsimp only at T0 T1 T2
      obtain ⟨L, hL⟩ : ∃ L, L = yx.length := ⟨_, rfl⟩
      rw [← hL] at hc1 hY e9 KW hru8 hyl hwl1 hwr hcap Y0
      obtain ⟨NW, hNW⟩ : ∃ NW, NW = wn yx := ⟨_, rfl⟩
      rw [← hNW] at KW hwl1
      obtain ⟨NR, hNR⟩ : ∃ NR, NR = (wrecs yx).length := ⟨_, rfl⟩
      rw [← hNR] at hwr
      replace hL := hide hL
      replace hNW := hide hNW
      replace hNR := hide hNR
      have hrow8 : Hid (∀ kk, (Value.slice ca M cc0).ownBlock = some kk → kk < wr.heap.size) := by
        obtain ⟨_, _, row0, _⟩ := RI.segs
        exact rows_lt row0
      have hslt : w.heap.size + 1 < wr.heap.size := lt_of_block RI.box
      have Y0' := hide Y0
      clear hru RI hI bY hwl Y0 hy hym zf
      by_cases hz : yz = nx
      · subst hz
        have hnext : Hid (pws segs (k + 1) = wgone k ((ss, yz), rs) (yz, yx) (wrecs yx) (wn yx)) := by
          show wgone k (pws segs k) (wseg segs k) _ _ = _
          rw [← HST.out, hsg.out]
        rw [hY] at e8 e9 T0 T1 T2 z0 z1 z2 y0 y1 y2
        go_wp2_with fail
        rw [← hY]
        rw [← hY] at e8 e9 T0 T1 T2 z0 z1 z2 y0 y1 y2
        replace hY := hide hY
        refine KW.out.mono ?_
        rintro e w5 ⟨rv, rfl, o5, b5⟩
        clear KW hc0 hc1
        have R5 := hide (RY.out.to b5)
        obtain ⟨ra, rc, hrv⟩ := o5.rd.slice
        rw [← hNR.out] at hrv
        subst hrv
        have O5 := hide (o5.mono (B' := 0) (C' := 0) (Nat.zero_le _) (Nat.zero_le _))
        have e8 := (b5.cell (p := ⟨wr.heap.size, 0, none⟩) (cell_lt e8)).trans e8
        have e9 := (b5.cell (p := ⟨wr.heap.size, 1, none⟩) (cell_lt e9)).trans e9
        have hru5 := hide (hru8.out.to b5)
        have B8 := hide ((b5.block _ (lt_of_block Y0'.out)).trans Y0'.out)
        obtain ⟨⟨T0, T1, T2⟩, tf⟩ := cells3 R5.out.box
        obtain ⟨⟨z0, z1, z2⟩, zf⟩ := cells3 R5.out.ans
        have y0 := zf 0
        have y1 := zf 1
        have y2 := zf 2
        dsimp only at T0 T1 T2
        clear RY o5 b5 hru8 Y0' zf
        go_upto_region 9 with fail
        obtain ⟨bb, hbb⟩ : ∃ b : Bool, b = decide (0 < NW ∨ k = 0) := ⟨_, rfl⟩
        have hwp : Hid (0 < NW ↔ 0 < NR) := by show _ ↔ _; rw [hNW.out, hNR.out]; exact wn_pos yx
        replace hbb := hide hbb
        go_cut [43] from 37 to 43 (fun s wx => s = .bool bb ∧ w5 = wx)
        case first =>
          by_cases hp1 : k = 0
          · have hb : Hid (bb = true) := hbb.out.trans (decide_eq_true (.inr hp1))
            have j1 : ((k : Int) == 0) = true := by simp [hp1]
            replace hp1 := hide hp1
            go_wp2_with fail
            go_meet
            exact ⟨by rw [hb.out], rfl⟩
          · have j1 : ((k : Int) == 0) = false := by simp [hp1]
            by_cases hp0 : 0 < NR
            · have hb : Hid (bb = true) := hbb.out.trans (decide_eq_true (.inl (hwp.out.2 hp0)))
              have j0 : (0 : Int) < (NR : Int) := by omega
              replace hp1 := hide hp1
              go_wp2_with fail
              go_meet
              exact ⟨by rw [hb.out], rfl⟩
            · have hb : Hid (bb = false) := hbb.out.trans (decide_eq_false (fun h => h.elim (fun h => hp0 (hwp.out.1 h)) hp1))
              have j0 : ¬ (0 : Int) < (NR : Int) := by omega
              replace hp1 := hide hp1
              replace hp0 := hide hp0
              go_wp2_with fail
              go_meet
              exact ⟨by rw [hb.out, decide_eq_false hp0.out], rfl⟩
        case rest =>
        obtain ⟨rfl, rfl⟩ := hcut
        go_upto_if 43 with fail
        go_cut [] from 44 to 51 (fun wx => ∃ (SS : List Wrt) (cU : Value), Hid (wgone k ((ss, yz), rs) (yz, yx) (wrecs yx) (wn yx) = ((SS, yz + (NR : Int)), rs ++ wrecs yx)) ∧ SS.length ≤ k + 1 ∧ Hid (RInv TSP TLP w wx (.slice oa N oc) cU ((SS, yz), rs) ∧ OwnV 0 0 wx (.slice ra NR rc) (wrecs yx) ∧ wx.heap[wr.heap.size]? = some (.cells #[.int .i64 yz, .slice ua L uc] 56 (0, 0))))
        case first =>
          by_cases hp : 0 < NW ∨ k = 0
          · have hb := hbb.out.trans (decide_eq_true hp)
            clear hbb
            subst hb
            have hgone : Hid (wgone k ((ss, yz), rs) (yz, yx) (wrecs yx) (wn yx) = ((ss ++ [(yz, yx.take NW)], yz + (NR : Int)), rs ++ wrecs yx)) := by
              show _ = _
              rw [wgone_push' (by rw [← hNW.out]; exact hp), ← hNW.out, ← hNR.out]
            obtain ⟨TK, hTK⟩ : ∃ TK, TK = yx.take NW := ⟨_, rfl⟩
            rw [← hTK] at hgone
            have KS := hide (pcopy_any w5.drew (.slice ua L uc) yz yx NW (hru5.out.to (Below.refl _ _).drew) (by rw [← hL.out]; exact hwl1) (by rw [← hL.out]; omega))
            rw [← hTK] at KS
            replace hTK := hide hTK
            replace hp := hide hp
            have h63 : M + 1 ≤ maxLen := by rw [show maxLen = 9223372036854775807 from rfl]; omega
            have hby : (M + 1) * 32 ≤ 140737488355328 := by omega
            go_wp2_with fail
            refine wp_region_mid (fun w' => w'.cell? ⟨w.heap.size + 1, 0, none⟩ = some (.slice ca M cc0) ∧ w'.cell? ⟨wr.heap.size, 0, none⟩ = some (.int .i64 yz) ∧ w'.cell? ⟨wr.heap.size, 1, none⟩ = some (.slice ua L uc)) 4 6 mixed (by kernel_rfl) (fun _ _ _ _ h => h) ⟨T0, e8, e9⟩ ?_
            dsimp only [List.take, List.drop]
            iterate 4
              refine take_one (v := ?_) (by rfl) ?_ ?_
              rotate_left
              · rintro w' ⟨s1, s2, s3⟩
                go_simp
                try with_reducible rfl
              try simp only [Act.put, List.setIfInBounds_toArray, List.set_cons_zero, List.set_cons_succ]
            refine mid_one fun K hK => ?_
            refine step_call (by rfl) 41 _ _ (by rfl) #[.agg #[.int .i64 yz, .slice ua L uc], .int .i64 (NW : Int)] (by simp [Act.eval]) (Try.call41 _ _) KS.out ?_
            rintro e w2 ⟨v2, rfl, o2, b2⟩
            obtain ⟨av, cv2, hv2⟩ := o2.rd.slice
            obtain ⟨KL, hKL⟩ : ∃ KL, KL = TK.length := ⟨_, rfl⟩
            rw [← hKL] at hv2
            replace hKL := hide hKL
            subst hv2
            have x0 := (b2.cell (p := ⟨w.heap.size + 1, 0, none⟩) (cell_lt T0)).trans T0
            have x1 := (b2.cell (p := ⟨wr.heap.size, 0, none⟩) (cell_lt e8)).trans e8
            have x2 := (b2.cell (p := ⟨wr.heap.size, 1, none⟩) (cell_lt e9)).trans e9
            refine ⟨_, rfl, hK _ _ ⟨x0, x1, x2⟩ ?_⟩
            clear hK K
            try simp only [Act.put, List.setIfInBounds_toArray, List.set_cons_zero, List.set_cons_succ]
            refine mid_one fun K hK => ?_
            rw [if_pos (by rfl)]
            go_simp
            refine hK _ _ ⟨cell_alloc x0 _, cell_alloc x1 _, cell_alloc x2 _⟩ ?_
            clear hK K
            show wpList _ _ _ _ _ _
            have bu : Below w5.heap.size w5 (w2.alloc (.cells #[.int .i64 yz, .slice av KL cv2] 56)) := ((Below.refl _ _).drew.trans b2).alloc b2.size _
            obtain ⟨cc, row, fin⟩ := RInv.push (R5.out.to bu) (by decide) (by decide) (by decide) (by decide) (by decide)
            rw [← hM.out] at row fin
            have OB : OwnB 0 (w2.alloc (.cells #[.int .i64 yz, .slice av KL cv2] 56)) (.slice av KL cv2) TK := (o2.mono (Nat.zero_le _)).below (Nat.le_refl _) ((Below.refl _ _).alloc (Nat.le_refl _) _)
            have FIN : Hid (∀ (g cap : Nat) (w6 : World), (w2.alloc (.cells #[.int .i64 yz, .slice av KL cv2] 56)).grownBy w6 (Value.slice ca M cc0).ownBlock → w6.ownsRow 0 56 2 (.slice (some ⟨g, 0, none⟩) (M + 1) cap) (M + 1) (cc ++ [.int .i64 yz, .slice av KL cv2]) → ((Value.slice ca M cc0).ownBlock = some g ∨ g = w2.heap.size + 1) →
                (w6.cell? ⟨w.heap.size + 1, 0, none⟩ = some (.slice ca M cc0) ∧ w6.frozen? ⟨w.heap.size + 1, 0, none⟩ = false) ∧ Hid (RInv TSP TLP w (w6.setCell ⟨w.heap.size + 1, 0, none⟩ (.slice (some ⟨g, 0, none⟩) (M + 1) cap)) (.slice oa N oc) (.slice (some ⟨g, 0, none⟩) (M + 1) cap) ((ss ++ [(yz, TK)], yz), rs) ∧
                  OwnV 0 0 (w6.setCell ⟨w.heap.size + 1, 0, none⟩ (.slice (some ⟨g, 0, none⟩) (M + 1) cap)) (.slice ra NR rc) (wrecs yx) ∧ (w6.setCell ⟨w.heap.size + 1, 0, none⟩ (.slice (some ⟨g, 0, none⟩) (M + 1) cap)).heap[wr.heap.size]? = some (.cells #[.int .i64 yz, .slice ua L uc] 56 (0, 0)))) := fun g cap w6 k3 k4 k5 => by
              obtain ⟨q0, q1, q2⟩ := fin w6 yz TK _ g cap OB k3 k4 (k5.imp id fun e => by rw [e]; simp)
              have q2' : ∀ e, e ≠ TSP → e ≠ TLP → KeepT e w5 (w6.setCell ⟨w.heap.size + 1, 0, none⟩ (.slice (some ⟨g, 0, none⟩) (M + 1) cap)) := fun e h1 h2 => (KeepT.below bu).trans (q2 e h1 h2)
              refine ⟨q0, q1, O5.out.keepT (q2' _ (by decide) (by decide)) (q2' _ (by decide) (by decide)), ?_⟩
              rw [Below.heap_setCell _ _ _ _ (show wr.heap.size ≠ w.heap.size + 1 by omega)]
              have hu8 := (bu.block _ (lt_of_block B8.out)).trans B8.out
              exact (k3.block _ (lt_of_block hu8) (fun e => absurd (hrow8.out _ e.symm) (Nat.lt_irrefl _))).trans hu8
            replace row := hide row
            clear fin OB bu o2 b2 KS
            go_wp2_with (at_builtin; refine wpList_append_lies _ rfl _ _ 26 rfl 0 56 j0 _ 2 32 Try.underlying26 ji jz0 jz1 jz2 rfl (by decide) (.slice ca M cc0) M cc rfl row.out ⟨w2.heap.size, 0, none⟩ 1 1 [.int .i64 yz, .slice av KL cv2] rfl rfl (World.news_of_block (heap_alloc_last w2 _)) (by simp [Value.oneCell']) (by decide) h63 hby (Nat.zero_le _) (w2.heap.size + 1) (by simp) ?_; intro gR capR w6 ho6 hg6 hat6 hlt6; obtain ⟨⟨y5, y6⟩, HF⟩ := FIN.out gR capR w6 hg6 ho6 hat6; clear ho6 hg6 hat6)
            go_meet
            exact ⟨_, _, hgone, by rw [List.length_append, ← hM.out]; simp; omega, HF⟩
          · have hb := hbb.out.trans (decide_eq_false hp)
            clear hbb
            subst hb
            have hgone : Hid (wgone k ((ss, yz), rs) (yz, yx) (wrecs yx) (wn yx) = ((ss, yz + (NR : Int)), rs ++ wrecs yx)) := by
              show _ = _
              rw [wgone_keep' (by rw [← hNW.out]; exact hp), ← hNR.out]
            replace hp := hide hp
            have HF : Hid (RInv TSP TLP w w5 (.slice oa N oc) (.slice ca M cc0) ((ss, yz), rs) ∧ OwnV 0 0 w5 (.slice ra NR rc) (wrecs yx) ∧ w5.heap[wr.heap.size]? = some (.cells #[.int .i64 yz, .slice ua L uc] 56 (0, 0))) := ⟨R5.out, O5.out, B8.out⟩
            go_wp2_with fail
            go_meet
            exact ⟨_, _, hgone, by rw [← hM.out]; omega, HF⟩
        case rest =>
        clear hbb
        obtain ⟨SS, cU, hgone, hSl, HF⟩ := hcut
        obtain ⟨da, dc, hcU⟩ := HF.out.1.segs.rd.slice
        dsimp only at hcU
        obtain ⟨M2, hM2⟩ : ∃ M2, M2 = SS.length := ⟨_, rfl⟩
        rw [← hM2] at hcU
        subst hcU
        replace hM2 := hide hM2
        obtain ⟨U, hU⟩ : ∃ U, U = wc := ⟨_, rfl⟩
        rw [← hU] at HF ⊢
        replace hU := hide hU
        clear hrow8 O5 R5 B8 hru5 T0 T1 T2 tf e8 e9 z0 z1 z2 y0 y1 y2
        have O1 := hide HF.out.1.recs
        have O2 := hide HF.out.2.1
        have hBU := HF.out.1.bel.size
        have hln : (rs.length + (wrecs yx).length) * 24 ≤ 140737488355328 := by rw [← hN.out, ← hNR.out]; omega
        have hw8 : Hid (0 ≤ yz + (NR : Int) ∧ yz + (NR : Int) ≤ 1099511627776 + ((k + 1 : Nat) : Int) * 2097152) := ⟨by omega, by push_cast; omega⟩
        have hrl : Hid ((rs ++ wrecs yx).length ≤ (k + 1) * 2097152) := by show _ ≤ _; rw [List.length_append, ← hN.out, ← hNR.out]; omega
        replace hSl := hide hSl
        rw [hgone.out] at hnext
        have STEP : Hid (∀ (v7 : Value) (w7 : World), OwnV w.heap.size 0 w7 v7 (rs ++ wrecs yx) → Below w.heap.size U w7 → (∀ e, e ≠ 54 → KeepT e U w7) → (w7.cell? ⟨w.heap.size + 1, 1, none⟩ = some (.int .i64 yz) ∧ w7.frozen? ⟨w.heap.size + 1, 1, none⟩ = false) ∧ ∃ w8, w8 = w7.setCell ⟨w.heap.size + 1, 1, none⟩ (.int .i64 (yz + (NR : Int))) ∧ Hid (RInv TSP TLP w w8 v7 (.slice da M2 dc) ((SS, yz + (NR : Int)), rs ++ wrecs yx)) ∧ w8.cell? ⟨wr.heap.size, 1, none⟩ = some (.slice ua L uc)) := fun v7 w7 o7 b7 k7 => by
          have R7 := HF.out.1.all (by decide) (by decide) o7 b7 k7
          obtain ⟨⟨_, t1, _⟩, tf7⟩ := cells3 R7.box
          refine ⟨⟨t1, tf7 1⟩, _, rfl, R7.num (by decide) (by decide) (by decide) _, ?_⟩
          have q8 := k7 56 (by decide) _ _ _ HF.out.2.2
          have q9 : (w7.setCell ⟨w.heap.size + 1, 1, none⟩ (.int .i64 (yz + (NR : Int)))).heap[wr.heap.size]? = _ := (Below.heap_setCell _ _ _ _ (show wr.heap.size ≠ w.heap.size + 1 by omega)).trans q8
          exact (row2_cells q9).2.1
        clear HF hgone
        go_upto_region 13 with (at_builtin; refine wpList_append_lists2 rfl _ _ rfl w.heap.size 0 0 _ _ _ _ rfl rfl O1.out O2.out hln hBU ?_; intro v7 w7 o7 b7 k7; obtain ⟨va, vc, hv7⟩ := o7.rd.slice; obtain ⟨⟨t71, t7f⟩, w8, hw8e, R8, e81⟩ := STEP.out v7 w7 o7 b7 k7; clear o7 b7 k7; subst hw8e; obtain ⟨N7, hN7⟩ : ∃ N7, N7 = (rs ++ wrecs yx).length := ⟨_, rfl⟩; rw [← hN7] at hv7; replace hN7 := hide hN7; subst hv7)
        obtain ⟨⟨t80, t81, t82⟩, _⟩ := cells3 R8.out.box
        obtain ⟨⟨z80, z81, z82⟩, zf8⟩ := cells3 R8.out.ans
        have y80 := zf8 0
        have y81 := zf8 1
        have y82 := zf8 2
        dsimp only at t80 t81 t82
        obtain ⟨U8, hU8⟩ : ∃ U8, U8 = w7.setCell ⟨w.heap.size + 1, 1, none⟩ (.int .i64 (yz + (NR : Int))) := ⟨_, rfl⟩
        rw [← hU8] at R8 e81 t80 t81 t82 z80 z81 z82 y80 y81 y82 ⊢
        clear zf8 t71 t7f STEP O1 O2
        replace hU8 := hide hU8
        by_cases hnl : NW < L
        · have hq3 : (NW : Int) < (L : Int) := by omega
          have hPW : Hid (PWhole segs ((SS, yz + (NR : Int)), rs ++ wrecs yx) (k + 1)) := ⟨k, HG.out, .inr (.inr ⟨hlt, by rw [hsg.out, ← HST.out], by rw [hsg.out]; dsimp only; rw [← hNW.out, ← hL.out]; omega, hnext.out.symm, rfl⟩)⟩
          have hFN := hide (R8.out.ret2 (by decide) (by decide) (by decide))
          have ZA := hide R8.out.ans
          replace hnl := hide hnl
          clear R8
          go_wp2
          refine retNTT rfl rfl w.heap.size rfl _ _ (0, 0) (heap_set3 (u := U8) ZA.out _ _ _) _ Try.underlying28 rfl info_lgP _ rfl _ rfl ?_
          exact ⟨_, _, SS, yz + (NR : Int), rs ++ wrecs yx, k + 1, by first | rfl | (congr 1), hPW.out, ⟨(hFN.out _ _ _).1, (hFN.out _ _ _).2.1⟩, (hFN.out _ _ _).2.2⟩
        · have hq3 : ¬ (NW : Int) < (L : Int) := by omega
          have hgood' : Hid (∀ j, j < k + 1 → wgood segs j) := fun j hj => by
            by_cases e : j = k
            · subst e
              exact ⟨by rw [hsg.out, ← HST.out], by rw [hsg.out]; dsimp only; rw [← hNW.out, ← hL.out]; omega⟩
            · exact HG.out j (by omega)
          have FIN : Hid (RInv TSP TLP w U8 (.slice va N7 vc) (.slice da M2 dc) (pws segs (k + 1)) ∧ (pws segs (k + 1)).1.1.length ≤ k + 1 ∧ (pws segs (k + 1)).2.length ≤ (k + 1) * 2097152 ∧ (0 ≤ (pws segs (k + 1)).1.2 ∧ (pws segs (k + 1)).1.2 ≤ 1099511627776 + ((k + 1 : Nat) : Int) * 2097152) ∧ ∀ j, j < k + 1 → wgood segs j) := by
            rw [hnext.out]
            exact ⟨R8.out, hSl.out, hrl.out, hw8.out, hgood'.out⟩
          replace hnl := hide hnl
          clear t80 t81 t82 z80 z81 z82 y80 y81 y82
          go_wp2_with fail
          go_roundw
          case rel => exact ⟨_, _, _, _, _, _, _, .int .i64 ((k + 1 : Nat) : Int), ⟨k + 1, by omega, rfl, _, FIN⟩, rfl, rfl, rfl, rfl, rfl, rfl, rfl, rfl⟩
          case measure => simp [intOf]; omega
      · have hPW : Hid (PWhole segs ((ss, nx), rs) k) := ⟨k, HG.out, .inr (.inl ⟨hlt, by rw [hsg.out, ← HST.out]; exact hz, HST.out, rfl⟩)⟩
        have hFN := hide (RY.out.ret2 (by decide) (by decide) (by decide))
        have ZA := hide RY.out.ans
        clear KW RY hru8
        rw [hY] at e8 e9 T0 T1 T2 z0 z1 z2 y0 y1 y2
        go_wp2
        rw [← hY]
        refine retNTT rfl rfl w.heap.size rfl _ _ (0, 0) (heap_set3 (u := Y) ZA.out _ _ _) _ Try.underlying28 rfl info_lgP _ rfl _ rfl ?_
        exact ⟨_, _, ss, nx, rs, k, rfl, hPW.out, ⟨(hFN.out _ _ _).1, (hFN.out _ _ _).2.1⟩, (hFN.out _ _ _).2.2⟩
    · have hq : ¬ (k : Int) < (segs.length : Int) := by omega
      obtain rfl : k = segs.length := by omega
      have hPW : Hid (PWhole segs ((ss, nx), rs) segs.length) := ⟨segs.length, HG.out, .inl ⟨rfl, HST.out, rfl⟩⟩
      have hFN := hide (RI.ret2 (by decide) (by decide) (by decide))
      have ZA := hide RI.ans
      obtain ⟨⟨T0, T1, T2⟩, _⟩ := cells3 RI.box
      obtain ⟨⟨z0, z1, z2⟩, zf⟩ := cells3 RI.ans
      have y0 := zf 0
      have y1 := zf 1
      have y2 := zf 2
      dsimp only at T0 T1 T2
      clear hI RI zf
      go_wp2
      refine retNTT rfl rfl w.heap.size rfl _ _ (0, 0) (heap_set3 (u := wr) ZA.out _ _ _) _ Try.underlying28 rfl info_lgP _ rfl _ rfl ?_
      exact ⟨_, _, ss, nx, rs, segs.length, rfl, hPW.out, ⟨(hFN.out _ _ _).1, (hFN.out _ _ _).2.1⟩, (hFN.out _ _ _).2.2⟩

set_option maxRecDepth 100000 in
set_option maxHeartbeats 2000000 in
theorem pwrecover_any (w : World) (sv : Value) (segs : List Wrt) (h1 : RdC w sv segs) (hm : ∀ s ∈ segs, s.2.length ≤ 16777216) :
    Calls Try.prog 26 #[sv] w fun e w' => ∃ sv' wv' rv, e = .returned (.tuple #[.agg #[sv', .int .i64 (wrecover segs).1.2.1, wv'], rv, .int .i64 (wrecover segs).2.2]) ∧ (OwnW TSP w.heap.size w' sv' (wrecover segs).1.1 ∧ RdSec w' wv' (wrecover segs).1.2.2 ∧ OwnV w.heap.size 0 w' rv (wrecover segs).2.1) ∧ Below w.heap.size w w' := by
  have lb1 := h1.bd
  obtain ⟨a1, c1, rfl⟩ := h1.slice
  obtain ⟨V, hV, V0, bV, sV⟩ := boxedN w #[.slice none 0 0, .int .i64 0, .slice none 0 0] 28
  obtain ⟨⟨z0, z1, z2⟩, zf⟩ := cells3 V0
  have y0 := zf 0
  have y1 := zf 1
  have y2 := zf 2
  clear zf
  go_enter Try.func26, Try.ntmps26
  by_cases h0 : segs.length = 0
  · have hE : Hid (wrecover segs = (wzero, [], 0)) := if_pos h0
    have : segs = [] := List.eq_nil_of_length_eq_zero h0
    subst this
    rw [hV] at z0 z1 z2 y0 y1 y2
    go_wp2
    rw [← hV]
    refine retNTT rfl rfl w.heap.size rfl _ _ (0, 0) V0 _ Try.underlying28 rfl info_lgP _ rfl _ rfl ?_
    rw [hE.out]
    exact ⟨_, _, _, rfl, ⟨OwnW.nil _ _ _, RdS.nil _ _, OwnV.nil _ _ _⟩, bV⟩
  · have hi0 : ¬ (segs.length : Int) = 0 := by omega
    by_cases q1 : 4096 < segs.length
    · have hq1 : (4096 : Int) < (segs.length : Int) := by omega
      have hE : Hid (wrecover segs = (wzero, [], 81)) := by show _ = _; unfold wrecover; rw [if_neg h0, if_pos (.inl q1)]
      rw [hV] at z0 z1 z2 y0 y1 y2
      go_wp2
      rw [← hV]
      refine retNTT rfl rfl w.heap.size rfl _ _ (0, 0) V0 _ Try.underlying28 rfl info_lgP _ rfl _ rfl ?_
      rw [hE.out]
      exact ⟨_, _, _, rfl, ⟨OwnW.nil _ _ _, RdS.nil _ _, OwnV.nil _ _ _⟩, bV⟩
    · have hq1 : ¬ (4096 : Int) < (segs.length : Int) := by omega
      obtain ⟨f, hf, hfm⟩ := some_at segs (k := 0) (by omega)
      have hf0 := wseg_at hf
      obtain ⟨b0, o0, u0, e0, hc0, _, _⟩ := (h1.to0 bV).wrt hf
      subst e0
      have hc0' := hc0
      rw [Nat.zero_mul, Nat.add_zero] at hc0
      have KI := hide (pindex_any V f.1)
      rw [hV] at hc0 z0 z1 z2 y0 y1 y2
      have hpos : (0 : Int) < (segs.length : Int) := by omega
      have hb : Hid (∀ p1 : widx f.1, ¬ (4096 < segs.length ∨ ¬ widx (wseg segs 0).1)) := fun p1 h => h.elim q1 (fun h => h (by rw [hf0]; exact p1))
      have h81 : Hid (¬ widx f.1 → wrecover segs = (wzero, [], 81)) := fun h => by unfold wrecover; rw [if_neg h0, if_pos (.inr (by show ¬ widx (wseg segs 0).1; rw [hf0]; exact h))]
      have HH := hide (h1.to0 bV)
      have H0 := hide h0
      have HF0 := hide hf0
      have hsl : segs.length ≤ 4096 := by omega
      clear h1 hf hfm hf0 hc0'
      go_wp2_with fail
      rw [← hV]
      rw [← hV] at hc0 z0 z1 z2 y0 y1 y2
      replace hV := hide hV
      refine KI.out.mono ?_
      rintro e w' ⟨rfl, rfl⟩
      clear KI
      by_cases p1 : widx f.1
      · rw [decide_eq_true p1]
        have KW := hide (pwholeOf_any V _ segs HH.out hm (by omega) hsl (by rw [HF0.out]; exact p1))
        have HB := hide (hb.out p1)
        replace p1 := hide p1
        clear hc0 z0 z1 z2 y0 y1 y2
        go_wp2_with fail
        refine KW.out.mono ?_
        rintro e w2 ⟨sv2, rv2, ss, nx, rs, n, rfl, hP, ⟨r1, r2⟩, b2⟩
        clear KW
        have hEq := wrecover_whole H0.out HB.out hP
        have hnl := pwhole_le hP
        dsimp only at hEq
        obtain ⟨va, vc, hv⟩ := r1.rd.slice
        obtain ⟨ra, rc, hr⟩ := r2.rd.slice
        obtain ⟨SL, hSL⟩ : ∃ SL, SL = ss.length := ⟨_, rfl⟩
        obtain ⟨RL, hRL⟩ : ∃ RL, RL = rs.length := ⟨_, rfl⟩
        rw [← hSL] at hv
        rw [← hRL] at hr
        replace hSL := hide hSL
        replace hRL := hide hRL
        subst hv hr
        obtain ⟨X, hX, X0, bX, sX⟩ := boxedN w2 #[.slice va SL vc, .int .i64 nx, .slice none 0 0] 28
        have c2 := b2.trans (bX.mono b2.size)
        have VX := hide ((c2.block _ (lt_of_block V0)).trans V0)
        obtain ⟨⟨T0, T1, T2⟩, _⟩ := cells3 X0
        obtain ⟨⟨z0, z1, z2⟩, zf⟩ := cells3 VX.out
        have y0 := zf 0
        have y1 := zf 1
        have y2 := zf 2
        have RR : Hid (∀ x y z, OwnW TSP w.heap.size (S3 w.heap.size X x y z) (.slice va SL vc) ss ∧ OwnV w.heap.size 0 (S3 w.heap.size X x y z) (.slice ra RL rc) rs) := fun x y z => by
          have k0 := s3_keep VX.out x y z
          exact ⟨((r1.keepT (KeepT.below bX) (KeepT.below bX)).keepT (k0 _ (by decide)) (k0 _ (by decide))).mono bV.size, ((r2.keepT (KeepT.below bX) (KeepT.below bX)).keepT (k0 _ (by decide)) (k0 _ (by decide))).mono bV.size (Nat.le_refl _)⟩
        have BB : Hid (∀ x y z, Below w.heap.size w (S3 w.heap.size X x y z)) := fun x y z => below_set3 (bV.trans (c2.mono bV.size)) (Nat.le_refl _) x y z
        rw [hX] at T0 T1 T2 z0 z1 z2 y0 y1 y2
        clear r1 r2 b2 c2 bX X0 zf hP
        by_cases n1 : (1099511627776 : Int) < nx
        · rw [if_pos n1] at hEq
          have hE := hide hEq
          clear hEq
          go_wp2
          rw [← hX]
          refine retNTT rfl rfl w.heap.size rfl _ _ (0, 0) (heap_set3 (u := X) VX.out _ _ _) _ Try.underlying28 rfl info_lgP _ rfl _ rfl ?_
          rw [hE.out]
          exact ⟨_, _, _, rfl, ⟨OwnW.nil _ _ _, RdS.nil _ _, OwnV.nil _ _ _⟩, BB.out _ _ _⟩
        · rw [if_neg n1] at hEq
          by_cases n2 : n < segs.length
          · have n2' : (n : Int) < (segs.length : Int) := by omega
            rw [if_pos n2] at hEq
            have hE := hide hEq
            clear hEq
            go_wp2
            rw [← hX]
            refine retNTT rfl rfl w.heap.size rfl _ _ (0, 0) (heap_set3 (u := X) VX.out _ _ _) _ Try.underlying28 rfl info_lgP _ rfl _ rfl ?_
            rw [hE.out]
            exact ⟨_, _, _, rfl, ⟨(RR.out _ _ _).1, RdS.nil _ _, (RR.out _ _ _).2⟩, BB.out _ _ _⟩
          · have n2' : ¬ (n : Int) < (segs.length : Int) := by omega
            rw [if_neg n2] at hEq
            have hE := hide hEq
            clear hEq
            go_wp2
            rw [← hX]
            refine retNTT rfl rfl w.heap.size rfl _ _ (0, 0) (heap_set3 (u := X) VX.out _ _ _) _ Try.underlying28 rfl info_lgP _ rfl _ rfl ?_
            rw [hE.out]
            exact ⟨_, _, _, rfl, ⟨(RR.out _ _ _).1, RdS.nil _ _, (RR.out _ _ _).2⟩, BB.out _ _ _⟩
      · rw [decide_eq_false p1]
        have hE := hide (h81.out p1)
        replace p1 := hide p1
        clear hc0
        go_wp2
        refine retNTT rfl rfl w.heap.size rfl _ _ (0, 0) (heap_set3 (u := V) V0 _ _ _) _ Try.underlying28 rfl info_lgP _ rfl _ rfl ?_
        rw [hE.out]
        exact ⟨_, _, _, rfl, ⟨OwnW.nil _ _ _, RdS.nil _ _, OwnV.nil _ _ _⟩, below_set3 bV (Nat.le_refl _) _ _ _⟩

end Go.Proofs.Ytlnoancjegifnaa

/-
  The program's Records of logs.
-/
namespace Go.Proofs.Ytlnoancjegifnaa
open Go.RowKit
set_option linter.unusedVariables false
set_option linter.unusedSimpArgs false

theorem wall_lenP (segs : List Wrt) (h : ∀ s ∈ segs, s.2.length ≤ 16777216) : ∀ k, k ≤ segs.length → (wall (segs.take k)).length ≤ k * 2097152
  | 0, _ => by simp [wall]
  | k + 1, hk => by
    obtain ⟨s, hs⟩ : ∃ s, segs[k]? = some s := ⟨segs[k], List.getElem?_eq_getElem (by omega)⟩
    have ih := wall_lenP segs h k (by omega)
    have := (wn_le s.2).2.1
    have := h s (List.mem_of_getElem? hs)
    rw [wall_next hs, List.length_append]
    omega

set_option maxRecDepth 100000 in
set_option maxHeartbeats 4000000 in
theorem pwrecords_any (w : World) (sv wv : Value) (l : Wlg) (h1 : RdC w sv l.1) (h2 : RdSec w wv l.2.2) (hm : ∀ s ∈ l.1, s.2.length ≤ 16777216) :
    Calls Try.prog 17 #[.agg #[sv, .int .i64 l.2.1, wv]] w fun e w' => ∃ v', e = .returned (.tuple #[v', .int .i64 (wrecords l).2.1, .int .i64 (wrecords l).2.2]) ∧ RdSec w' v' (wrecords l).1 ∧ Below w.heap.size w w' := by
  obtain ⟨a1, c1, rfl⟩ := h1.slice
  obtain ⟨a2, c2, rfl⟩ := h2.slice
  obtain ⟨W, hW, hA, bW, sW⟩ := boxedN w #[.slice a1 l.1.length c1, .int .i64 l.2.1, .slice a2 l.2.2.length c2] 28
  have KC := hide (pwcheck_any W _ _ l (h1.to0 bW) (h2.to0 bW) hm)
  obtain ⟨⟨A0, A1, A2⟩, _⟩ := cells3 hA
  rw [hW] at A0 A1 A2
  go_enter Try.func17, Try.ntmps17
  by_cases hok : WOk l
  · rw [wcheck_ok hok] at KC
    have hE := hide (wrecords_p hok)
    go_wp2_with fail
    rw [← hW]
    replace hW := hide hW
    refine KC.out.mono ?_
    rintro e w1 ⟨rfl, b1⟩
    clear KC A0 A1 A2
    have c1w := hide (bW.trans (b1.mono bW.size))
    have A' := hide ((b1.block _ (lt_of_block hA)).trans hA)
    have H1 := hide (h1.to0 c1w.out)
    have s1 : w.heap.size + 1 ≤ w1.heap.size := by have := b1.size; omega
    have hsl : l.1.length ≤ 4096 := hok.1.1
    obtain ⟨⟨A0, A1, A2⟩, _⟩ := cells3 A'.out
    clear hA bW b1 h1 h2 hok sW
    go_wp2
    clear A0 A1 A2
    go_loopw [6, 19] (fun o i wr => ∃ k : Nat, k ≤ l.1.length ∧ i = .int .i64 k ∧ Hid (OwnV w1.heap.size 0 wr o (wall (l.1.take k)) ∧ Below w1.heap.size w1 wr)) (fun _ i _ => l.1.length - (intOf i).toNat)
    case atStart => exact ⟨0, Nat.zero_le _, rfl, hide ⟨OwnV.nil _ _ _, Below.refl _ _⟩⟩
    case round =>
      obtain ⟨k, hk, rfl, hI⟩ := hrel
      have hwl := wall_lenP l.1 hm k hk
      obtain ⟨oa, oc, hou⟩ := hI.out.1.rd.slice
      obtain ⟨N, hN⟩ : ∃ N, N = (wall (l.1.take k)).length := ⟨_, rfl⟩
      rw [← hN] at hou hwl
      subst hou
      replace hN := hide hN
      by_cases hlt : k < l.1.length
      · have hq : (k : Int) < (l.1.length : Int) := by omega
        obtain ⟨y, hy, hym⟩ := some_at l.1 hlt
        obtain ⟨b1, o1, u, rfl, hc0, hc1, hru⟩ := (H1.out.to0 hI.out.2).wrt hy
        have hyl := hm y hym
        have hnx := hide (wall_next hy)
        obtain ⟨yz, yx⟩ := y
        dsimp only at hc0 hc1 hru hyl hnx
        obtain ⟨ua, uc, rfl⟩ := hru.slice
        obtain ⟨Y, hY, Y0, bY, sY⟩ := boxedN wr #[.int .i64 yz, .slice ua yx.length uc] 56
        obtain ⟨e8, e9, _, _⟩ := row2_cells Y0
        have KW := hide (pread_any Y _ yx (hru.to bY) hyl)
        have VY := hide (hI.out.1.below bY)
        have CY := hide (hI.out.2.trans (bY.mono hI.out.2.size))
        have hwr := (wn_le yx).2.1
        obtain ⟨NR, hNR⟩ : ∃ NR, NR = (wrecs yx).length := ⟨_, rfl⟩
        rw [← hNR] at hwr
        replace hNR := hide hNR
        rw [hY] at e8 e9
        clear hru bY Y0 hy hym hI
        go_wp2_with fail
        rw [← hY]
        replace hY := hide hY
        clear e8 e9 hc0 hc1
        refine KW.out.mono ?_
        rintro e w5 ⟨rv, rfl, o5, b5⟩
        clear KW
        obtain ⟨ra, rc, hrv⟩ := o5.rd.slice
        rw [← hNR.out] at hrv
        subst hrv
        have O1 := hide (VY.out.below b5)
        have O2 := hide (o5.mono (B' := 0) (C' := 0) (Nat.zero_le _) (Nat.zero_le _))
        have C5 := hide (CY.out.trans (b5.mono CY.out.size))
        have hBU : w1.heap.size ≤ w5.heap.size := C5.out.size
        have hln : ((wall (l.1.take k)).length + (wrecs yx).length) * 24 ≤ 140737488355328 := by rw [← hN.out, ← hNR.out]; omega
        clear o5 b5 VY CY
        go_wp2_with (at_builtin; refine wpList_append_lists2 rfl _ _ rfl w1.heap.size 0 0 _ _ _ _ rfl rfl O1.out O2.out hln hBU ?_; intro v7 w7 o7 b7 _; have F7 := hide (And.intro o7 (C5.out.trans b7)); clear o7 b7)
        rw [← hnx.out] at F7
        go_roundw
        case rel => exact ⟨k + 1, by omega, by go_num, F7⟩
        case measure => simp [intOf]; omega
      · have hq : ¬ (k : Int) < (l.1.length : Int) := by omega
        obtain rfl : k = l.1.length := by omega
        have HI := hI
        rw [List.take_of_length_le (Nat.le_refl _)] at HI
        obtain ⟨⟨A0, A1, A2⟩, _⟩ := cells3 ((hI.out.2.block _ (by omega)).trans A'.out)
        have KF := hide (pfirst_any wr _ (.slice a2 l.2.2.length c2) l (H1.out.to0 hI.out.2))
        clear hI
        go_wp2_with fail
        refine KF.out.mono ?_
        rintro e w6 ⟨rfl, b6⟩
        clear KF
        have FN := hide (And.intro (HI.out.1.below b6).rd (c1w.out.trans ((HI.out.2.trans (b6.mono HI.out.2.size)).mono c1w.out.size)))
        clear b6 HI
        go_wp2
        go_ret3
        rw [hE.out]
        exact ⟨_, rfl, FN.out⟩
  · rw [wcheck_no hok] at KC
    have hE := hide (wrecords_no hok)
    replace hok := hide hok
    go_wp2_with fail
    rw [← hW]
    replace hW := hide hW
    refine KC.out.mono ?_
    rintro e w1 ⟨rfl, b1⟩
    have cw := hide (bW.trans (b1.mono bW.size))
    clear KC A0 A1 A2
    go_wp2
    go_ret3
    rw [hE.out]
    exact ⟨_, rfl, RdS.nil _ _, cw.out⟩

end Go.Proofs.Ytlnoancjegifnaa

/-
  The program keeps its contracts of logs.
-/
namespace Go.Proofs.Ytlnoancjegifnaa
open Go.RowKit

theorem wal_say : WalSay where
  checkS := fun w sv wv l h1 h2 hm => pwcheck_any w sv wv l h1 h2 hm
  appendS := fun w sv wv rv l rs h1 h2 h3 hm hl => pwappend_any w sv wv rv l rs h1 h2 h3 hm hl
  flushS := fun w sv wv l limit h1 h2 hm => pwflush_any w sv wv l limit h1 h2 hm
  recordsS := fun w sv wv l h1 h2 hm => pwrecords_any w sv wv l h1 h2 hm
  recoverS := fun w sv segs h1 hm => pwrecover_any w sv segs h1 hm

end Go.Proofs.Ytlnoancjegifnaa

/-
  The contract of transeptplain.Spoil: it writes over its own octets and touches nothing else.
-/
namespace Go.Proofs.Ytlnoancjegifnaa
open Go.RowKit
set_option linter.unusedVariables false

theorem grown_trans {a b c : World} {r : Option Nat} (h : a.grownBy b r) (k : b.grownBy c r) : a.grownBy c r :=
  ⟨k.os.trans h.os, k.tape.trans h.tape, k.output.trans h.output, Nat.le_trans h.size k.size, fun j hj hne => (k.block j (Nat.lt_of_lt_of_le hj h.size) hne).trans (h.block j hj hne)⟩

set_option maxRecDepth 100000 in
set_option maxHeartbeats 400000 in
theorem spoil_own (B : Nat) (w : World) (v : Value) (xs : List UInt8) (h : OwnB B w v xs) (hm : xs.length ≤ 140737488355328) :
    Calls Try.prog 30 #[v] w fun e w' => e = .returned (.tuple #[]) ∧ w.grownBy w' v.ownBlock ∧ ∃ ys : List UInt8, ys.length = xs.length ∧ OwnB B w' v ys := by
  rcases h.2 with ⟨rfl, h0⟩ | ⟨g, cap, cur, rfl, hb, hg, hn, hmx, hs, ht⟩
  · go_enter Try.func30, Try.ntmps30
    go_wp2
    refine wp_loop_rounds 1 ?_
    rw [rounds_succ]
    go_wp2
    go_end0
    exact ⟨rfl, World.grownBy.refl _ _, xs, rfl, h⟩
  · obtain ⟨n, hnn⟩ : ∃ n, xs.length = n := ⟨_, rfl⟩
    unfold OwnB at h
    rw [hnn] at h hm ⊢
    have hn' := hnn
    have h0 : ∃ ys : List UInt8, ys.length = n ∧ w.ownsRow B 5 1 (.slice (some ⟨g, 0, none⟩) n cap) n (ys.map enc) := ⟨xs, hnn, h⟩
    clear h hg hs ht hn hmx hnn
    go_enter Try.func30, Try.ntmps30
    go_wp2
    go_loopw [2] (fun i wr => ∃ k : Nat, k ≤ n ∧ i = .int .i64 k ∧ (∃ ys : List UInt8, ys.length = n ∧ wr.ownsRow B 5 1 (.slice (some ⟨g, 0, none⟩) n cap) n (ys.map enc)) ∧ w.grownBy wr (some g)) (fun i _ => n - (intOf i).toNat)
    case atStart => exact ⟨0, Nat.zero_le _, rfl, h0, World.grownBy.refl _ _⟩
    case round =>
      obtain ⟨k, hk, rfl, ⟨ys, hyl, ho⟩, hgr⟩ := hrel
      clear h0
      by_cases hlt : k < n
      · have hq : (k : Int) < (n : Int) := by omega
        have fz := ho.frozenAt k
        have cl : wr.cell? ⟨g, k, none⟩ = some (.int .u8 (bt ys k)) := by
          rw [ho.cellAt k (by omega)]
          simp [enc, bt, show k < ys.length by omega]
        have hx : bits .xor .u8 (bt ys k) 85 = ((ys.getD k 0 ^^^ 85).toNat : Int) := by
          unfold bt
          rw [show (85 : Int) = ((85 : Nat) : Int) from rfl, u8_xor_nat _ _ (UInt8.toNat_lt _) (by omega), UInt8.toNat_xor]
          rfl
        have hst := ho.stored k (enc (ys.getD k 0 ^^^ 85))
        have HS : Hid (∃ zs : List UInt8, zs.length = n ∧ (wr.setCell ⟨g, k, none⟩ (enc (ys.getD k 0 ^^^ 85))).ownsRow B 5 1 (.slice (some ⟨g, 0, none⟩) n cap) n (zs.map enc)) :=
          ⟨ys.set k (ys.getD k 0 ^^^ 85), by simpa using hyl, by rw [List.map_set]; exact hst.1⟩
        have HG : Hid (w.grownBy (wr.setCell ⟨g, k, none⟩ (enc (ys.getD k 0 ^^^ 85))) (some g)) :=
          grown_trans hgr hst.2
        have hbd := bt_bd ys k
        unfold enc at HS HG
        generalize (ys.getD k 0 ^^^ 85).toNat = z at *
        clear ho hgr hst
        go_wp2
        go_roundw
        case rel => exact ⟨k + 1, by omega, by go_num, HS.out, HG.out⟩
        case measure => simp [intOf]; omega
      · go_wp2
        go_end0
        exact ⟨rfl, hgr, ys, hyl, by unfold OwnB; rw [hyl]; exact ho⟩

theorem spoil_any (B : Nat) (w : World) (v : Value) (xs : List UInt8) (h : OwnB B w v xs) (hm : xs.length ≤ 140737488355328) :
    Calls Try.prog 30 #[v] w fun e w' => e = .returned (.tuple #[]) ∧ w.grownBy w' v.ownBlock :=
  (spoil_own B w v xs h hm).mono fun e w' h => ⟨h.1, h.2.1⟩

end Go.Proofs.Ytlnoancjegifnaa

namespace Go.Proofs.Ytlnoancjegifnaa.walOwn
open Go.ChangeShapes Go.WideShapes Go.ChangeAt Go.RowKit
set_option linter.unusedVariables false

/-- all blocks below L, and all from U on that were there, are as they were -/
structure KOut (L U : Nat) (w w' : World) : Prop where
  os : w'.os = w.os
  tape : w'.tape = w.tape
  output : w'.output = w.output
  size : w.heap.size ≤ w'.heap.size
  block : ∀ k, k < w.heap.size → (k < L ∨ U ≤ k) → w'.heap[k]? = w.heap[k]?
theorem KOut.refl (L U : Nat) (w : World) : KOut L U w w := ⟨rfl, rfl, rfl, Nat.le_refl _, fun _ _ _ => rfl⟩
theorem KOut.grown {L U : Nat} {w u u' : World} {row : Option Nat} (h : KOut L U w u) (hg : u.grownBy u' row) (hr : ∀ k, row = some k → L ≤ k ∧ k < U) : KOut L U w u' :=
  ⟨hg.os.trans h.os, hg.tape.trans h.tape, hg.output.trans h.output, Nat.le_trans h.size hg.size, fun k hk ho => (hg.block k (Nat.lt_of_lt_of_le hk h.size) (fun e => by have := hr k e.symm; omega)).trans (h.block k hk ho)⟩
theorem KOut.below {L U : Nat} {w w' : World} (h : KOut L U w w') {B : Nat} (hB : B ≤ L) (hw : B ≤ w.heap.size) : Below B w w' := ⟨h.os, h.tape, h.output, h.size, fun k hk => h.block k (by omega) (.inl (by omega))⟩
theorem wappend_err {l : Wlg} {rs : List (List UInt8)} (h : (wappend l rs).2 ≠ 0) : (wappend l rs).1 = wzero := by
  unfold wappend at *
  split
  · rfl
  · rename_i h1
    rw [if_neg h1] at h
    split
    · rfl
    · rename_i h2
      rw [if_neg h2] at h
      split
      · rfl
      · rename_i h3
        rw [if_neg h3] at h
        exact absurd rfl h
theorem own_spoilt {T : Nat} {F : List Nat} {w : World} {v : Value} {xs : List (List UInt8)} (h : OwnF (Shp.list T Shp.octs) F w [v] xs) {k : Nat} {x : List UInt8} (hx : xs[k]? = some x) :
    ∃ b cap u, v = .slice (some ⟨b, 0, none⟩) xs.length cap ∧ w.cell? ⟨b, k, none⟩ = some u ∧ OwnB 0 w u x ∧ (∀ b, u.ownBlock = some b → b ∈ F) ∧ ∀ w' y, OwnB 0 w' u y → (∀ b, b ∈ F → some b ≠ u.ownBlock → w'.heap[b]? = w.heap[b]?) → OwnF (Shp.list T Shp.octs) F w' [v] (xs.set k y) := by
  obtain ⟨b, cap, F2, c, hv, _, _, hgF, ⟨u, rfl, ho, rfl⟩, hF2, hc, fin⟩ := OwnF.at h hx
  refine ⟨b, cap, u, hv, ?_, ho, fun b' hb' => (hF2 b' (by simp [hb'])).1, fun w' y oy hk => fin w' y ⟨u, rfl, oy, rfl⟩ fun b' hb' hn => hk b' hb' fun e => hn (by simp [← e])⟩
  have := hc 0 _ rfl
  rw [show (Shp.octs).n = 1 from rfl] at this
  simpa using this
theorem seg_spoilt {T : Nat} {F : List Nat} {w : World} {cv : Value} {ws : List Wrt} (h : OwnF (Shp.list T SWr) F w [cv] ws) {k : Nat} {y : Wrt} (hy : ws[k]? = some y) :
    ∃ g cap u, cv = .slice (some ⟨g, 0, none⟩) ws.length cap ∧ w.cell? ⟨g, k * 2 + 1, none⟩ = some u ∧ OwnB 0 w u y.2 ∧ (∀ b, u.ownBlock = some b → b ∈ F) ∧
      ∀ w' x', OwnB 0 w' u x' → (∀ b, b ∈ F → some b ≠ u.ownBlock → w'.heap[b]? = w.heap[b]?) → OwnF (Shp.list T SWr) F w' [cv] (ws.set k (y.1, x')) := by
  obtain ⟨g, cap, F2, c, hv, hcap, _, hgF, ⟨c1, c2, G, H, rfl, rfl, ⟨rfl, rfl⟩, u, rfl, ho, rfl⟩, hF2, hc, fin⟩ := OwnF.at h hy
  refine ⟨g, cap, u, hv, ?_, ho, fun b hb => (hF2 b (by simp [hb])).1, fun w' x' ho' hk => fin w' (y.1, x') ⟨_, _, [], _, rfl, rfl, ⟨rfl, rfl⟩, u, rfl, ho', rfl⟩ fun b hb hn => hk b hb fun e => hn (by simp [← e])⟩
  have := hc 1 _ rfl
  rw [show (SWr).n = 2 from rfl] at this
  simpa using this

/-- lists of octets of a length that are spoilt one by one, in blocks from L on, below U -/
structure SpO (L U n : Nat) (w : World) (v : Value) (F : List Nat) (ys : List (List UInt8)) : Prop where
  own : OwnF SSec F w [v] ys
  len : ys.length = n
  sh : ∀ y ∈ ys, y.length ≤ 1048576
  rng : ∀ b, b ∈ F → L ≤ b ∧ b < U
structure SpS (L U n : Nat) (w : World) (v : Value) (F : List Nat) (ys : List Wrt) : Prop where
  own : OwnF (Shp.list 56 SWr) F w [v] ys
  len : ys.length = n
  sh : ∀ y ∈ ys, y.2.length ≤ 1048576
  rng : ∀ b, b ∈ F → L ≤ b ∧ b < U
theorem SpO.keep {L U n : Nat} {w w' : World} {v : Value} {F : List Nat} {ys : List (List UInt8)} (h : SpO L U n w v F ys) (k : ∀ b, b ∈ F → w'.heap[b]? = w.heap[b]?) : SpO L U n w' v F ys := ⟨h.own.keep k, h.len, h.sh, h.rng⟩
theorem SpS.keep {L U n : Nat} {w w' : World} {v : Value} {F : List Nat} {ys : List Wrt} (h : SpS L U n w v F ys) (k : ∀ b, b ∈ F → w'.heap[b]? = w.heap[b]?) : SpS L U n w' v F ys := ⟨h.own.keep k, h.len, h.sh, h.rng⟩
theorem SpO.step {L U n : Nat} {w : World} {v : Value} {F : List Nat} {ys : List (List UInt8)} (h : SpO L U n w v F ys) {k : Nat} (hk : k < n) :
    ∃ b cap a c len, v = .slice (some ⟨b, 0, none⟩) n cap ∧ w.cell? ⟨b, k, none⟩ = some (.slice a len c) ∧ Calls Try.prog 30 #[.slice a len c] w fun e w' => e = .returned (.tuple #[]) ∧ ∃ ys', SpO L U n w' v F ys' ∧ w.grownBy w' (Value.slice a len c).ownBlock ∧ ∀ b, (Value.slice a len c).ownBlock = some b → b ∈ F := by
  obtain ⟨x, hx⟩ : ∃ x, ys[k]? = some x := ⟨ys[k]'(by rw [h.len]; exact hk), List.getElem?_eq_getElem _⟩
  obtain ⟨b, cap, u, hv, hc, ho, hm, fin⟩ := own_spoilt h.own hx
  have hxl := h.sh x (List.mem_of_getElem? hx)
  obtain ⟨a, c, rfl⟩ := ho.rd.slice
  refine ⟨b, cap, a, c, x.length, by rw [hv, h.len], hc, (spoil_own 0 w _ x ho (by omega)).mono ?_⟩
  rintro e w' ⟨rfl, hg, ys', hl, ho'⟩
  refine ⟨rfl, ys.set k ys', ⟨fin w' ys' ho' fun b hb hne => hg.block b (h.own.lt b hb) hne, by rw [List.length_set, h.len], fun y hy => ?_, h.rng⟩, hg, hm⟩
  rcases List.mem_or_eq_of_mem_set hy with hy | hy
  · exact h.sh y hy
  · rw [hy, hl]; exact hxl
theorem SpS.step {L U n : Nat} {w : World} {v : Value} {F : List Nat} {ys : List Wrt} (h : SpS L U n w v F ys) {k : Nat} (hk : k < n) :
    ∃ b cap a c len, v = .slice (some ⟨b, 0, none⟩) n cap ∧ w.cell? ⟨b, k * 2 + 1, none⟩ = some (.slice a len c) ∧ Calls Try.prog 30 #[.slice a len c] w fun e w' => e = .returned (.tuple #[]) ∧ ∃ ys', SpS L U n w' v F ys' ∧ w.grownBy w' (Value.slice a len c).ownBlock ∧ ∀ b, (Value.slice a len c).ownBlock = some b → b ∈ F := by
  obtain ⟨x, hx⟩ : ∃ x, ys[k]? = some x := ⟨ys[k]'(by rw [h.len]; exact hk), List.getElem?_eq_getElem _⟩
  obtain ⟨b, cap, u, hv, hc, ho, hm, fin⟩ := seg_spoilt h.own hx
  have hxl := h.sh x (List.mem_of_getElem? hx)
  obtain ⟨a, c, rfl⟩ := ho.rd.slice
  refine ⟨b, cap, a, c, x.2.length, by rw [hv, h.len], hc, (spoil_own 0 w _ x.2 ho (by omega)).mono ?_⟩
  rintro e w' ⟨rfl, hg, ys', hl, ho'⟩
  refine ⟨rfl, ys.set k (x.1, ys'), ⟨fin w' ys' ho' fun b hb hne => hg.block b (h.own.lt b hb) hne, by rw [List.length_set, h.len], fun y hy => ?_, h.rng⟩, hg, hm⟩
  rcases List.mem_or_eq_of_mem_set hy with hy | hy
  · exact h.sh y hy
  · rw [hy]; dsimp only; rw [hl]; exact hxl

set_option maxRecDepth 100000 in
set_option maxHeartbeats 4000000 in
theorem walk (w : World) (cs0 : Array Value) (x0 : Wlg) (g0 : SLogR.rd w cs0.toList x0) (m0 : (x0.1.map (fun y => 1 + y.2.length)).sum + (1 + (x0.2.2.map (fun x => x.length + 1)).sum) ≤ 1048576)
    (a1 : Option Addr) (len1 cap1 : Nat) (x1 : List (List UInt8)) (g1 : SSec.rd w [.slice a1 len1 cap1] x1) (m1 : (x1.map (fun x => x.length + 1)).sum ≤ 1048576) :
    Calls Try.prog 6 #[.agg cs0, .slice a1 len1 cap1] w fun e w' => e = .returned (.bool true) ∧ Below w.heap.size w w' := by
  obtain ⟨sv, wv, rfl, h1, h2⟩ := wlog_form g0
  obtain ⟨v, e, h3⟩ := g1
  simp only [List.cons.injEq, and_true] at e
  subst e
  obtain ⟨a, c, e⟩ := h3.slice
  simp only [Value.slice.injEq] at e
  obtain ⟨rfl, rfl, rfl⟩ := e
  obtain ⟨hfit, hsh⟩ := wlog_small m0
  have l1 := (bulk_segs (segs := x0.1) (n := 1048576) (by omega)).1
  have l2 := (bulk_lists (xs := x0.2.2) (n := 1048576) (by omega)).1
  have k1 := hide ((bulk_segs (segs := x0.1) (n := 1048576) (by omega)).2)
  have k2 := hide ((bulk_lists (xs := x0.2.2) (n := 1048576) (by omega)).2)
  obtain ⟨n1, n2⟩ := bulk_lists (n := 1048576) m1
  obtain ⟨sa, sc, rfl⟩ := h1.slice
  obtain ⟨wa, wc, rfl⟩ := h2.slice
  obtain ⟨X0, hX0, B0, bX0, sX0⟩ := boxedN w #[.slice sa x0.1.length sc, .int .i64 x0.2.1, .slice wa x0.2.2.length wc] 25
  have H1 := hide (h1.to0 bX0)
  have H2 := hide (h2.to0 bX0)
  have H3 := hide (h3.to0 bX0)
  have HB0 := hide B0
  have BX0 := hide bX0
  have FIT := hide hfit
  have SH := hide hsh
  have N2 := hide n2
  clear h1 h2 h3 g0 m0 m1 B0 bX0 hfit hsh n2
  go_enter Try.func6, Try.ntmps6
  go_wp2_with fail
  rw [← hX0]
  replace hX0 := hide hX0
  refine (walive_any wal_say _).mono ?_
  rintro e w1 ⟨rfl, b1⟩
  have c1 := hide (BX0.out.trans (b1.mono BX0.out.size))
  have A1 := hide ((b1.block _ (lt_of_block HB0.out)).trans HB0.out)
  obtain ⟨⟨t0, t1, t2⟩, _⟩ := cells3 A1.out
  have KO := hide (wof_any w1 _ _ x0 (H1.out.to0 b1) (H2.out.to0 b1) FIT.out)
  have R1 := hide (And.intro (H1.out.to0 b1) (And.intro (H2.out.to0 b1) (H3.out.to0 b1)))
  have hw1 : w.heap.size < w1.heap.size := lt_of_block A1.out
  clear b1 H1 H2 H3
  go_wp2_with fail
  refine KO.out.mono ?_
  rintro e w2 ⟨sv2, wv2, rfl, o2, b2⟩
  clear KO t0 t1 t2
  obtain ⟨FX, hFX, hFB⟩ := o2.foot
  obtain ⟨F1, F2', e12, p1, p2', d12⟩ := OwnF.split (c := [sv2]) (d := [.int .i64 x0.2.1, wv2]) hFX rfl
  obtain ⟨F3, F2, e3, p3, p2, _⟩ := OwnF.split (c := [.int .i64 x0.2.1]) (d := [wv2]) p2' rfl
  have S1 : Hid (SpS w1.heap.size w2.heap.size x0.1.length w2 sv2 F1 x0.1) := ⟨p1, rfl, k1.out, fun b hb => ⟨hFB b (by rw [e12]; simp [hb]), p1.lt b hb⟩⟩
  have S2 : Hid (SpO w1.heap.size w2.heap.size x0.2.2.length w2 wv2 F2 x0.2.2) := ⟨p2, rfl, k2.out, fun b hb => ⟨hFB b (by rw [e12, e3]; simp [hb]), p2.lt b hb⟩⟩
  have DJ : Hid (∀ b, b ∈ F1 → b ∉ F2) := fun b hb hb2 => d12 b hb (by rw [e3]; simp [hb2])
  obtain ⟨q1, q2⟩ : RdC w2 sv2 x0.1 ∧ RdSec w2 wv2 x0.2.2 := ⟨(OwnF.waits hFX).2, (OwnF.waits hFX).1⟩
  have KC := hide (copyLists_any w2 _ x1 (R1.out.2.2.to0 b2) (by omega) (fun x hx => by have := N2.out x hx; omega))
  have Q12 := hide (And.intro q1 q2)
  have R2 := hide (And.intro (R1.out.1.to0 b2) (And.intro (R1.out.2.1.to0 b2) (R1.out.2.2.to0 b2)))
  obtain ⟨xa, xc, hsv2⟩ := q1.slice
  obtain ⟨ya, yc, hwv2⟩ := q2.slice
  subst hsv2 hwv2
  have c2 := hide (c1.out.trans (b2.mono c1.out.size))
  have A2 := hide ((b2.block _ (lt_of_block A1.out)).trans A1.out)
  have hw2 : w1.heap.size ≤ w2.heap.size := b2.size
  clear o2 b2 hFX hFB p1 p2' p3 p2 d12 e12 e3 q1 q2 R1 A1 c1
  go_wp2_with fail
  refine KC.out.mono ?_
  rintro e w3 ⟨v3, rfl, o3, b3⟩
  clear KC
  obtain ⟨FO, hFO, hFOB⟩ := o3.foot
  have S3o : Hid (SpO w2.heap.size w3.heap.size x1.length w3 v3 FO x1) := ⟨hFO, rfl, fun y hy => N2.out y hy, fun b hb => ⟨hFOB b hb, hFO.lt b hb⟩⟩
  have S1' := hide (S1.out.keep fun b hb => b3.block b (S1.out.rng b hb).2)
  have S2' := hide (S2.out.keep fun b hb => b3.block b (S2.out.rng b hb).2)
  obtain ⟨oa, oc, hv3⟩ := o3.rdS.slice
  subst hv3
  obtain ⟨X, hX, BX, bX, sX⟩ := boxedN w3 #[.slice xa x0.1.length xc, .int .i64 x0.2.1, .slice ya x0.2.2.length yc] 28
  obtain ⟨⟨t0, t1, t2⟩, _⟩ := cells3 BX
  have b3X := b3.trans (bX.mono b3.size)
  have KA := hide (wal_say.appendS X _ _ _ x0 x1 (Q12.out.1.to0 b3X) (Q12.out.2.to0 b3X) (o3.rdS.to0 bX) SH.out (by omega))
  have c3 := hide (c2.out.trans (b3X.mono c2.out.size))
  have A3 := hide ((b3X.block _ (lt_of_block A2.out)).trans A2.out)
  have HBX := hide BX
  have SX := hide (And.intro (S1'.out.keep fun b hb => bX.block b (by have := (S1'.out.rng b hb).2; have := b3.size; omega)) (And.intro (S2'.out.keep fun b hb => bX.block b (by have := (S2'.out.rng b hb).2; have := b3.size; omega)) (S3o.out.keep fun b hb => bX.block b (S3o.out.rng b hb).2)))
  have R3 := hide (And.intro (R2.out.1.to0 b3X) (And.intro (R2.out.2.1.to0 b3X) (R2.out.2.2.to0 b3X)))
  have hw3 : w2.heap.size ≤ w3.heap.size := b3.size
  rw [hX] at t0 t1 t2
  clear S1 S2 S3o S1' S2' o3 b3 bX b3X hFO hFOB BX R2 Q12 A2 c2
  go_wp2_with fail
  rw [← hX]
  replace hX := hide hX
  clear t0 t1 t2
  refine KA.out.mono ?_
  rintro e w4 ⟨sv4, wv4, rfl, o4, b4⟩
  clear KA
  obtain ⟨AP, hAP⟩ : ∃ AP, AP = wappend x0 x1 := ⟨_, rfl⟩
  rw [← hAP] at o4 ⊢
  replace hAP := hide hAP
  obtain ⟨ba, bc, hs4⟩ := o4.rd3.1.slice
  obtain ⟨da, dc, hw4⟩ := o4.rd3.2.slice
  obtain ⟨GS, hGS⟩ : ∃ GS, GS = AP.1.1.length := ⟨_, rfl⟩
  obtain ⟨GW, hGW⟩ : ∃ GW, GW = AP.1.2.2.length := ⟨_, rfl⟩
  rw [← hGS] at hs4
  rw [← hGW] at hw4
  replace hGW := hide hGW
  replace hGS := hide hGS
  subst hs4 hw4
  obtain ⟨Y, hY, BY, bY, sY⟩ := boxedN w4 #[.slice ba GS bc, .int .i64 AP.1.2.1, .slice da GW dc] 28
  obtain ⟨⟨t0, t1, t2⟩, _⟩ := cells3 BY
  have b4Y := b4.trans (bY.mono b4.size)
  have c4 := hide (c3.out.trans (b4Y.mono c3.out.size))
  have A4 := hide ((b4Y.block _ (lt_of_block A3.out)).trans A3.out)
  have HBX4 := hide ((b4Y.block _ (lt_of_block HBX.out)).trans HBX.out)
  have SY := hide (And.intro (SX.out.1.keep fun b hb => b4Y.block b (by have := (SX.out.1.rng b hb).2; omega)) (And.intro (SX.out.2.1.keep fun b hb => b4Y.block b (by have := (SX.out.2.1.rng b hb).2; omega)) (SX.out.2.2.keep fun b hb => b4Y.block b (by have := (SX.out.2.2.rng b hb).2; omega))))
  have R4 := hide (And.intro (R3.out.1.to0 b4Y) (And.intro (R3.out.2.1.to0 b4Y) (R3.out.2.2.to0 b4Y)))
  have O4 := hide (o4.to bY)
  have HBY := hide BY
  have hX3 : w3.heap.size < X.heap.size := by omega
  have hwX : X.heap.size ≤ w4.heap.size := b4.size
  rw [hY] at t0 t1 t2
  clear o4 b4 bY b4Y BY SX R3 A3 c3 HBX
  go_wp2_with fail
  rw [← hY]
  rw [← hY] at t0 t1 t2
  replace hY := hide hY
  refine (num8_any _ _).mono ?_
  rintro e w' ⟨rfl, rfl⟩
  by_cases hne : AP.2 = 0
  · rw [hne]
    obtain ⟨⟨z0, z1, z2⟩, _⟩ := cells3 A4.out
    have KR := hide (rwappend_any Y _ _ _ x0 x1 R4.out.1 R4.out.2.1 R4.out.2.2 SH.out (by omega))
    rw [← hAP.out] at KR
    replace hne := hide hne
    clear t0 t1 t2
    go_wp2_with fail
    refine KR.out.mono ?_
    rintro e w5 ⟨sv5, wv5, rfl, o5, b5⟩
    clear KR z0 z1 z2
    obtain ⟨F5, hF5, hFB5⟩ := o5.foot
    obtain ⟨ea, ec, hs5⟩ := (OwnF.waits hF5).2.slice
    obtain ⟨fa, fc, hw5⟩ := (OwnF.waits hF5).1.slice
    rw [← hGS.out] at hs5
    rw [← hGW.out] at hw5
    subst hs5 hw5
    obtain ⟨Z, hZ, BZ, bZ, sZ⟩ := boxedN w5 #[.slice ea GS ec, .int .i64 AP.1.2.1, .slice fa GW fc] 25
    have b5Z := b5.trans (bZ.mono b5.size)
    have c5 := hide (c4.out.trans (b5Z.mono c4.out.size))
    have HBX5 := hide ((b5Z.block _ (lt_of_block HBX4.out)).trans HBX4.out)
    have HBY5 := hide ((b5Z.block _ (lt_of_block HBY.out)).trans HBY.out)
    have HBZ := hide BZ
    have SZ := hide (And.intro (SY.out.1.keep fun b hb => b5Z.block b (by have := (SY.out.1.rng b hb).2; omega)) (And.intro (SY.out.2.1.keep fun b hb => b5Z.block b (by have := (SY.out.2.1.rng b hb).2; omega)) (SY.out.2.2.keep fun b hb => b5Z.block b (by have := (SY.out.2.2.rng b hb).2; omega))))
    have O4' := hide (O4.out.to b5Z)
    have O5 := hide (o5.to bZ)
    have hYs : w4.heap.size < Y.heap.size := by omega
    have hY5 : Y.heap.size ≤ w5.heap.size := b5.size
    clear o5 b5 bZ b5Z hF5 hFB5 BZ SY R4 A4 c4 HBX4 HBY O4
    go_wp2_with fail
    rw [← hZ]
    replace hZ := hide hZ
    go_loopw [11] (fun i wr => ∃ (k : Nat), k ≤ x1.length ∧ i = .int .i64 k ∧ Hid (KOut w1.heap.size w3.heap.size Z wr ∧ SpS w1.heap.size w2.heap.size x0.1.length wr (.slice xa x0.1.length xc) F1 x0.1 ∧ SpO w1.heap.size w2.heap.size x0.2.2.length wr (.slice ya x0.2.2.length yc) F2 x0.2.2 ∧ ∃ ys, SpO w2.heap.size w3.heap.size x1.length wr (.slice oa x1.length oc) FO ys)) (fun i _ => x1.length - (intOf i).toNat)
    case atStart => exact ⟨0, Nat.zero_le _, rfl, hide ⟨KOut.refl _ _ _, SZ.out.1, SZ.out.2.1, x1, SZ.out.2.2⟩⟩
    case round =>
      obtain ⟨k, hk, rfl, hI⟩ := hrel
      clear SZ
      by_cases hlt : k < x1.length
      · have hq : (k : Int) < (x1.length : Int) := by omega
        obtain ⟨K0, s1, s2, ys, s3⟩ := hI.out
        obtain ⟨b, cap, pa, pc, plen, hv, hc, KS⟩ := s3.step hlt
        simp only [Value.slice.injEq, true_and] at hv
        obtain ⟨rfl, rfl⟩ := hv
        have KK := hide KS
        have GO : Hid (∀ w' ys', SpO w2.heap.size w3.heap.size x1.length w' (.slice (some ⟨b, 0, none⟩) x1.length oc) FO ys' → wr.grownBy w' (Value.slice pa plen pc).ownBlock → (∀ b, (Value.slice pa plen pc).ownBlock = some b → b ∈ FO) → Hid (KOut w1.heap.size w3.heap.size Z w' ∧ SpS w1.heap.size w2.heap.size x0.1.length w' (.slice xa x0.1.length xc) F1 x0.1 ∧ SpO w1.heap.size w2.heap.size x0.2.2.length w' (.slice ya x0.2.2.length yc) F2 x0.2.2 ∧ ∃ ys, SpO w2.heap.size w3.heap.size x1.length w' (.slice (some ⟨b, 0, none⟩) x1.length oc) FO ys)) := fun w' ys' q1 q2 q3 => by
          have out : ∀ b, b < w2.heap.size → some b ≠ (Value.slice pa plen pc).ownBlock := fun b hb e => by have := (s3.rng b (q3 b e.symm)).1; omega
          refine ⟨K0.grown q2 fun k hk => ⟨?_, (s3.rng k (q3 k hk)).2⟩, s1.keep fun b hb => q2.block b (s1.own.lt b hb) (out b (s1.rng b hb).2), s2.keep fun b hb => q2.block b (s2.own.lt b hb) (out b (s2.rng b hb).2), ys', q1⟩
          have := (s3.rng k (q3 k hk)).1
          omega
        clear hI K0 s1 s2 s3 KS
        go_wp2_with fail
        refine KK.out.mono ?_
        rintro e w6 ⟨rfl, ys', q1, q2, q3⟩
        have FN := GO.out w6 ys' q1 q2 q3
        clear q1 q2 q3 GO KK hc
        go_wp2
        go_roundw
        case rel => exact ⟨k + 1, by omega, by go_num, FN⟩
        case measure => simp [intOf]; omega
      · have hq : ¬ (k : Int) < (x1.length : Int) := by omega
        clear hlt hk
        have HI : Hid (KOut w1.heap.size w3.heap.size Z wr ∧ SpS w1.heap.size w2.heap.size x0.1.length wr (.slice xa x0.1.length xc) F1 x0.1 ∧ SpO w1.heap.size w2.heap.size x0.2.2.length wr (.slice ya x0.2.2.length yc) F2 x0.2.2) := ⟨hI.out.1, hI.out.2.1, hI.out.2.2.1⟩
        clear hI
        go_wp2
        go_loopw [12] (fun i wr => ∃ (k : Nat), k ≤ x0.1.length ∧ i = .int .i64 k ∧ Hid (KOut w1.heap.size w3.heap.size Z wr ∧ (∃ ss, SpS w1.heap.size w2.heap.size x0.1.length wr (.slice xa x0.1.length xc) F1 ss) ∧ SpO w1.heap.size w2.heap.size x0.2.2.length wr (.slice ya x0.2.2.length yc) F2 x0.2.2)) (fun i _ => x0.1.length - (intOf i).toNat)
        case atStart => exact ⟨0, Nat.zero_le _, rfl, hide ⟨HI.out.1, ⟨_, HI.out.2.1⟩, HI.out.2.2⟩⟩
        case round =>
          obtain ⟨k, hk, rfl, hI⟩ := hrel
          clear HI
          obtain ⟨⟨t0, t1, t2⟩, _⟩ := cells3 ((hI.out.1.block _ (lt_of_block HBX5.out) (.inr (by omega))).trans HBX5.out)
          by_cases hlt : k < x0.1.length
          · have hq : (k : Int) < (x0.1.length : Int) := by omega
            obtain ⟨K0, ⟨ss, s1⟩, s2⟩ := hI.out
            obtain ⟨b, cap, pa, pc, plen, hv, hc, KS⟩ := s1.step hlt
            simp only [Value.slice.injEq, true_and] at hv
            obtain ⟨rfl, rfl⟩ := hv
            have KK := hide KS
            have GO : Hid (∀ w' ss', SpS w1.heap.size w2.heap.size x0.1.length w' (.slice (some ⟨b, 0, none⟩) x0.1.length xc) F1 ss' → wr.grownBy w' (Value.slice pa plen pc).ownBlock → (∀ b, (Value.slice pa plen pc).ownBlock = some b → b ∈ F1) → Hid (KOut w1.heap.size w3.heap.size Z w' ∧ (∃ ss, SpS w1.heap.size w2.heap.size x0.1.length w' (.slice (some ⟨b, 0, none⟩) x0.1.length xc) F1 ss) ∧ SpO w1.heap.size w2.heap.size x0.2.2.length w' (.slice ya x0.2.2.length yc) F2 x0.2.2)) := fun w' ss' q1 q2 q3 => by
              refine ⟨K0.grown q2 fun k hk => ?_, ⟨ss', q1⟩, s2.keep fun b hb => q2.block b (s2.own.lt b hb) fun e => DJ.out b (q3 b e.symm) hb⟩
              have := s1.rng k (q3 k hk)
              omega
            clear hI K0 s1 s2 KS
            go_wp2_with fail
            refine KK.out.mono ?_
            rintro e w6 ⟨rfl, ss', q1, q2, q3⟩
            have FN := GO.out w6 ss' q1 q2 q3
            clear q1 q2 q3 GO KK hc
            go_wp2
            go_roundw
            case rel => exact ⟨k + 1, by omega, by go_num, FN⟩
            case measure => simp [intOf]; omega
          · have hq : ¬ (k : Int) < (x0.1.length : Int) := by omega
            clear hlt hk
            have HI : Hid (KOut w1.heap.size w3.heap.size Z wr ∧ SpO w1.heap.size w2.heap.size x0.2.2.length wr (.slice ya x0.2.2.length yc) F2 x0.2.2) := ⟨hI.out.1, hI.out.2.2⟩
            clear hI
            go_wp2
            clear t0 t1 t2
            go_loopw [13] (fun i wr => ∃ (k : Nat), k ≤ x0.2.2.length ∧ i = .int .i64 k ∧ Hid (KOut w1.heap.size w3.heap.size Z wr ∧ ∃ ys, SpO w1.heap.size w2.heap.size x0.2.2.length wr (.slice ya x0.2.2.length yc) F2 ys)) (fun i _ => x0.2.2.length - (intOf i).toNat)
            case atStart => exact ⟨0, Nat.zero_le _, rfl, hide ⟨HI.out.1, _, HI.out.2⟩⟩
            case round =>
              obtain ⟨k, hk, rfl, hI⟩ := hrel
              clear HI
              obtain ⟨⟨t0, t1, t2⟩, _⟩ := cells3 ((hI.out.1.block _ (lt_of_block HBX5.out) (.inr (by omega))).trans HBX5.out)
              by_cases hlt : k < x0.2.2.length
              · have hq : (k : Int) < (x0.2.2.length : Int) := by omega
                obtain ⟨K0, ys, s2⟩ := hI.out
                obtain ⟨b, cap, pa, pc, plen, hv, hc, KS⟩ := s2.step hlt
                simp only [Value.slice.injEq, true_and] at hv
                obtain ⟨rfl, rfl⟩ := hv
                have KK := hide KS
                have GO : Hid (∀ w' ys', SpO w1.heap.size w2.heap.size x0.2.2.length w' (.slice (some ⟨b, 0, none⟩) x0.2.2.length yc) F2 ys' → wr.grownBy w' (Value.slice pa plen pc).ownBlock → (∀ b, (Value.slice pa plen pc).ownBlock = some b → b ∈ F2) → Hid (KOut w1.heap.size w3.heap.size Z w' ∧ ∃ ys, SpO w1.heap.size w2.heap.size x0.2.2.length w' (.slice (some ⟨b, 0, none⟩) x0.2.2.length yc) F2 ys)) := fun w' ys' q1 q2 q3 => by
                  refine ⟨K0.grown q2 fun k hk => ?_, ys', q1⟩
                  have := s2.rng k (q3 k hk)
                  omega
                clear hI K0 s2 KS
                go_wp2_with fail
                refine KK.out.mono ?_
                rintro e w6 ⟨rfl, ys', q1, q2, q3⟩
                have FN := GO.out w6 ys' q1 q2 q3
                clear q1 q2 q3 GO KK hc
                go_wp2
                go_roundw
                case rel => exact ⟨k + 1, by omega, by go_num, FN⟩
                case measure => simp [intOf]; omega
              · have hq : ¬ (k : Int) < (x0.2.2.length : Int) := by omega
                have K0 := hI.out.1
                have hw4X : w3.heap.size ≤ X.heap.size := by omega
                obtain ⟨⟨u0, u1, u2⟩, _⟩ := cells3 ((K0.block _ (lt_of_block HBY5.out) (.inr (by omega))).trans HBY5.out)
                obtain ⟨⟨v0, v1, v2⟩, _⟩ := cells3 ((K0.block _ (lt_of_block HBZ.out) (.inr (by omega))).trans HBZ.out)
                have OA := (O4'.out.keepB (fun b hb hb' => K0.block b hb' (.inr (by omega)))).rd3
                have OB := (O5.out.keepB (fun b hb hb' => K0.block b hb' (.inr (by omega))))
                obtain ⟨F6, hF6, _⟩ := OB.foot
                have KS := hide (wsame_any wr _ _ _ _ AP.1 OA.1 OA.2 (OwnF.waits hF6).2 (OwnF.waits hF6).1)
                have CC := hide (c5.out.trans (K0.below (B := w.heap.size) (by omega) c5.out.size))
                clear OA OB hF6 hI K0
                go_wp2_with fail
                refine KS.out.mono ?_
                rintro e w7 ⟨rfl, b7⟩
                have C7 := hide (CC.out.trans (b7.mono CC.out.size))
                clear b7 KS
                go_wp2
                go_ret
                exact ⟨rfl, C7.out⟩
  · have hz := hide (show AP.1 = wzero by rw [hAP.out]; exact wappend_err (by rw [← hAP.out]; exact hne))
    have hG0 : GS = 0 := by rw [hGS.out, hz.out]; rfl
    have hd : (AP.2 != 0) = true := by simpa using hne
    clear hGS
    subst hG0
    replace hne := hide hne
    go_wp2
    go_ret
    exact ⟨rfl, c4.out⟩

set_option maxRecDepth 100000 in
theorem lifted (os : Os) (started : os.Started) (H : Type) (enc : TypeId × Value → H) (F : Stop.Interp) :
    ReturnsInHanded {} Try.checked os 6 .any ((Rows.OpenSpec.upto Rows.walOwnSpec).pre6 enc Try.prog Try.f6 Rows.walOwnUptoRow.domain false) (((Rows.OpenSpec.upto Rows.walOwnSpec).at F).post enc Try.prog Try.f6 false true false false) := by
  refine returnsInHanded_of_cond (C := Try.checked) (s := Rows.OpenSpec.upto Rows.walOwnSpec) (k := Rows.uptoSmall) rfl own started (by kernel_rfl) Try.func6
    (OpenSpec.witness (enc := enc) (C := Try.checked) (s := Rows.OpenSpec.upto Rows.walOwnSpec) (k := Rows.uptoSmall) rfl false ⟨#[], #[.agg #[.slice none 0 0, .int .i64 0, .slice none 0 0], .slice none 0 0], []⟩ 8 (by kernel_rfl) (by kernel_rfl) (by kernel_rfl)
      (x := ([.agg [.nil, .lit (.int .i64 0), .nil], .nil], [], [])) (by kernel_rfl) rfl (by kernel_rfl)) ?_
  intro W base args ds gs before hval0 hW _ hk _
  have hval : ∀ (j : Nat) t v, Try.f6.params[j]? = some t → args[j]? = some v → Value.okWide Try.prog W .any base t v := hval0
  have hW' := hW
  obtain ⟨p, q, hA0, hV, rfl, hfz, hnd⟩ := hW
  have hA : DataW.TrodAll enc Try.prog W 0 (fun _ => true) true Try.f6.params.toList args.toList ds p := hA0
  rw [Try.params6] at hA hval
  obtain ⟨v0, vs0, d0, ds0, p0, q0, hargs, rfl, rfl, h0, r0⟩ := trodAll_cons hA
  obtain ⟨v1, vs1, d1, ds1, p1, q1, rfl, rfl, rfl, h1, r1⟩ := trodAll_cons r0
  obtain ⟨rfl, rfl, rfl⟩ := trodAll_nil r1
  obtain rfl : args = #[v0, v1] := by cases args; simp_all
  obtain ⟨rfl, rfl⟩ := trodVars_none hV
  obtain ⟨cs0, rfl, _⟩ := okWide_struct Try.underlying25 (hval 0 25 v0 rfl rfl)
  have lt0 : ∀ x ∈ p0, x.block < W.heap.size := by obtain ⟨m, hm⟩ := h0; exact DataW.trod_lt m _ _ _ hm
  have hh0 := h0
  obtain ⟨fu0, hf0⟩ := hh0
  obtain ⟨x0, g0, f0, b0⟩ := open_wlog.opened hf0
  obtain ⟨a1, len1, cap1, rfl⟩ := okWide_slice Try.underlying23 (hval 1 23 v1 rfl rfl)
  have lt1 : ∀ x ∈ p1, x.block < W.heap.size := by obtain ⟨m, hm⟩ := h1; exact DataW.trod_lt m _ _ _ hm
  have hh1 := h1
  obtain ⟨fu1, hf1⟩ := hh1
  obtain ⟨x1, g1, f1, b1⟩ := open_sectors.opened hf1
  simp only [List.append_nil] at hk
  have m0 := small_of hk (d := d0) (by simp) b0
  have m1 := small_of hk (d := d1) (by simp) b1
  clear hA0 hval0
  refine (walk W cs0 x0 g0 m0 a1 len1 cap1 x1 g1 m1).mono fun e W' ⟨he, bel⟩ => ?_
  subst he
  exact ⟨_, rfl, _, _, _, [], _, [], hW', trodAll_mk1 (shut_bool Try.underlying4 _), (trodAll_cons_mk (Below.trod laidOut (by kernel_rfl) (of_decide_eq_true (by kernel_rfl)) h0 bel lt0) (trodAll_cons_mk (Below.trod laidOut (by kernel_rfl) (of_decide_eq_true (by kernel_rfl)) h1 bel lt1) trodAll_mk0)), rfl, bel.frame _, fun h => by cases h⟩

theorem over : Rows.walOwnUptoRow.holds Try.pinned (Rows.OpenSpec.upto Rows.walOwnSpec) :=
  OpenClaim.holds_of_cond 6 Try.f6 rfl rfl rfl rfl rfl rfl rfl ⟨rfl, rfl, rfl, rfl, rfl⟩ rfl rfl rfl rfl rfl (by kernel_rfl) Try.func6 (by kernel_rfl)
    (of_decide_eq_true (by kernel_rfl)) (by unfold Func.isWrapper; first | (rw [if_pos (by decide +kernel)]; kernel_rfl) | (rw [if_neg (by decide +kernel)]; exact ⟨rfl, rfl⟩))
    (fun os started H enc _ F => lifted os started H enc F)

end Go.Proofs.Ytlnoancjegifnaa.walOwn
namespace Go.Proofs.Ytlnoancjegifnaa
/-- THE STATEMENT -/
theorem walOwn_holds : Rows.WalOwnUptoSaid := walOwn.over
end Go.Proofs.Ytlnoancjegifnaa
