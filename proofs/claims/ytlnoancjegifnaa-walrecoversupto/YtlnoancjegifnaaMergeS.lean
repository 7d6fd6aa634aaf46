/- Several texts in one. -/
import Derived.Test.YtlnoancjegifnaaWRecR
import Derived.Test.YtlnoancjegifnaaRSched
import Derived.Test.YtlnoancjegifnaaDSame
import Derived.Test.YtlnoancjegifnaaWRow
import Derived.Test.YtlnoancjegifnaaWLaid
import Derived.Laws.IdiomStrings
import Derived.Test.YtlnoancjegifnaaConv
import Derived.Test.YtlnoancjegifnaaShpIn
/-
  The law's Segs and Of: a log for the program, in memory of its own.
-/
namespace Go.Proofs.Ytlnoancjegifnaa
open Go.RowKit
set_option linter.unusedVariables false
set_option linter.unusedSimpArgs false

abbrev SLogP : Shp Wlg := SLg 56
theorem infoSP : (Try.prog.info? 56).map (fun i => (i.zero, i.size, i.bytes)) = some (some (.agg #[.int .i64 0, .slice none 0 0]), 2, 32) := by kernel_rfl
theorem info_lgP : (Try.prog.info? 28).map (·.size) = some 3 := by kernel_rfl

set_option maxRecDepth 100000 in
set_option maxHeartbeats 2000000 in
theorem segs_any (w : World) (v : Value) (ws : List Wrt) (h : RdC w v ws) (f1 : ws.length * 32 ≤ 140737488351232) (f2 : ∀ x ∈ ws, x.2.length ≤ 140737488351232) :
    Calls Try.prog 25 #[v] w fun e w' => ∃ v', e = .returned v' ∧ Own (Shp.list 56 SWr) w.heap.size w' [v'] ws ∧ Below w.heap.size w w' := by
  obtain ⟨j0, ji, jz0, jz1, jz2⟩ := info_parts infoSP
  have lb := h.bd
  obtain ⟨a1, c1, rfl⟩ := h.slice
  have HR := hide h
  clear h
  go_enter Try.func25, Try.ntmps25
  go_wp2
  go_loopw [3, 4] (fun o i wr => ∃ k : Nat, k ≤ ws.length ∧ i = .int .i64 k ∧ Hid (∃ F, OwnF (Shp.list 56 SWr) F wr [o] (ws.take k) ∧ (∀ b, b ∈ F → w.heap.size ≤ b) ∧ Below w.heap.size w wr)) (fun _ i _ => ws.length - (intOf i).toNat)
  case atStart => exact ⟨0, Nat.zero_le _, rfl, [], ⟨⟨_, [], [], rfl, World.ownsRow_nil _ _ _ _, ⟨rfl, rfl⟩, by simp [Value.ownBlock]⟩, List.nodup_nil⟩, fun b hb => by (cases hb), Below.refl _ _⟩
  case round =>
    obtain ⟨k, hk, rfl, hI⟩ := hrel
    by_cases hlt : k < ws.length
    · have hq : (k : Int) < (ws.length : Int) := by omega
      obtain ⟨F, hF, hFB, hb⟩ := hI.out
      obtain ⟨y, hyk, hym⟩ := some_at ws hlt
      obtain ⟨b1, o1, u, rfl, hc1, hc2, hr⟩ := (HR.out.to0 hb).wrt hyk
      obtain ⟨au, cu, rfl⟩ := hr.slice
      obtain ⟨cc, rowT, fin⟩ := OwnF.lit hF (n := k) (by simp; omega)
      have hsn := snoc_take ws hyk
      have hxl := f2 y hym
      obtain ⟨z, x⟩ := y
      dsimp only at hc1 hc2 hr hxl
      have FIN : Hid (∀ (w2 : World) (v2 : Value) (w5 : World) (g cap : Nat), Below wr.heap.size wr.drew w2 → OwnB wr.heap.size w2 v2 x → (w2.alloc (.cells #[.int .i64 z, v2] 56)).grownBy w5 u3.ownBlock →
          w5.ownsRow 0 56 2 (.slice (some ⟨g, 0, none⟩) (k + 1) cap) (k + 1) (cc ++ [.int .i64 z, v2]) → (u3.ownBlock = some g ∨ g = w2.heap.size + 1) →
          Hid (∃ F, OwnF (Shp.list 56 SWr) F w5 [.slice (some ⟨g, 0, none⟩) (k + 1) cap] (ws.take (k + 1)) ∧ (∀ b, b ∈ F → w.heap.size ≤ b) ∧ Below w.heap.size w w5)) := fun w2 v2 w5 g cap k1 k2 k3 k4 k5 => by
        obtain ⟨⟨F', q1, q2⟩, q3, q4⟩ := fin w2 [.int .i64 z, v2] (z, x) 56 _ w5 g cap ((Below.refl _ _).drew.trans k1) (own_wrt k2) rfl rfl rfl rfl k3 k4 k5
        rw [hsn] at q1
        exact ⟨F', q1, fun b hb' => (q2 b hb').elim (hFB b) (fun h => by have := hb.size; omega), hb.trans (q3 w.heap.size hFB hb.size)⟩
      have ROW : Hid (∀ u, Below wr.heap.size wr.drew u → ∀ o : Obj, (u.alloc o).ownsRow 0 56 2 u3 k cc) := fun u hu o => rowT _ (((Below.refl _ _).drew.trans hu).alloc hu.size o)
      have KS := hide (copy_any wr.drew _ x (hr.to (Below.refl _ _).drew) (by omega))
      have h63 : k + 1 ≤ maxLen := by rw [show maxLen = 9223372036854775807 from rfl]; omega
      have hby : (k + 1) * 32 ≤ 140737488355328 := by omega
      clear fin rowT hsn hF hFB hr hb hyk hym hI
      obtain ⟨ll, lc, hl⟩ : ∃ ll lc, u3 = .slice ll k lc := by
        rcases (ROW.out wr.drew (Below.refl _ _) (.cells #[] 0)).2 with ⟨rfl, rfl⟩ | ⟨g, cap, cur, rfl, _⟩
        · exact ⟨_, _, rfl⟩
        · exact ⟨_, _, rfl⟩
      subst hl
      generalize x.length = L at *
      go_wp2
      refine wp_region_mid (fun w' => w'.cell? ⟨b1, o1 + k * 2, none⟩ = some (.int .i64 z) ∧ w'.cell? ⟨b1, o1 + k * 2 + 1, none⟩ = some (.slice au L cu)) 11 14 mixed (by kernel_rfl) (fun _ _ _ _ h => h) ⟨hc1, hc2⟩ ?_
      dsimp only [List.take, List.drop]
      iterate 11
        refine take_one (v := ?_) (by rfl) ?_ ?_
        rotate_left
        · rintro w' ⟨s1, s2⟩
          go_simp
          try with_reducible rfl
        try simp only [Act.put, List.setIfInBounds_toArray, List.set_cons_zero, List.set_cons_succ]
      refine mid_one fun K hK => ?_
      refine step_call (by rfl) 31 _ _ (by rfl) #[.slice au L cu] (by simp [Act.eval]) (Try.call31 _ _) KS.out ?_
      rintro e w2 ⟨v2, rfl, o2, b2⟩
      obtain ⟨av, cv2, hv2⟩ := o2.rd.slice
      subst hv2
      have x1 := (b2.cell (p := ⟨b1, o1 + k * 2, none⟩) (cell_lt hc1)).trans hc1
      have x2 := (b2.cell (p := ⟨b1, o1 + k * 2 + 1, none⟩) (cell_lt hc2)).trans hc2
      refine ⟨_, rfl, hK _ _ ⟨x1, x2⟩ ?_⟩
      clear hK K
      try simp only [Act.put, List.setIfInBounds_toArray, List.set_cons_zero, List.set_cons_succ]
      refine mid_one fun K hK => ?_
      rw [if_pos (by rfl)]
      go_simp
      refine hK _ _ ⟨x1, x2⟩ ?_
      clear hK K
      refine mid_one fun K hK => ?_
      rw [if_pos (by rfl)]
      go_simp
      refine hK _ _ ⟨cell_alloc x1 _, cell_alloc x2 _⟩ ?_
      clear hK K
      show wpList _ _ _ _ _ _
      go_wp2_with (at_builtin; refine wpList_append_lies _ rfl _ _ 26 rfl 0 56 j0 _ 2 32 Try.underlying26 ji jz0 jz1 jz2 rfl (by decide) (.slice ll k lc) k cc rfl (ROW.out w2 b2 _) ⟨w2.heap.size, 0, none⟩ 1 1 [.int .i64 z, .slice av x.length cv2] rfl rfl (World.news_of_block (heap_alloc_last w2 _)) (by simp [Value.oneCell']) (by decide) h63 hby (Nat.zero_le _) (w2.heap.size + 1) (by simp) ?_; intro g cap w5 ho5 hg5 hat5 hlt5; have HF := FIN.out w2 _ w5 g cap b2 o2 hg5 ho5 hat5; clear ho5 hg5 hat5 FIN ROW KS o2 b2)
      go_roundw
      case rel => exact ⟨k + 1, by omega, by go_num, HF⟩
      case measure => simp [intOf]; omega
    · have hq : ¬ (k : Int) < (ws.length : Int) := by omega
      obtain rfl : k = ws.length := by omega
      obtain ⟨F, hF, hFB, hb⟩ := hI.out
      rw [List.take_of_length_le (Nat.le_refl _)] at hF
      have OO := hide (And.intro (hF.own hFB) hb)
      clear hF hFB hb hI
      go_wp2
      go_ret
      exact ⟨_, rfl, OO.out.1, OO.out.2⟩

theorem boxes3t (w : World) (x y z : Value) (t t' : TypeId) : ∃ W, W = (w.alloc (.cells #[x, y, z] t)).alloc (.cells #[.slice none 0 0, .int .i64 0, .slice none 0 0] t') ∧ W.heap[w.heap.size]? = some (.cells #[x, y, z] t (0, 0)) ∧ W.heap[w.heap.size + 1]? = some (.cells #[.slice none 0 0, .int .i64 0, .slice none 0 0] t' (0, 0)) ∧ Below w.heap.size w W ∧ W.heap.size = w.heap.size + 1 + 1 := by
  refine ⟨_, rfl, ?_, ?_, ((Below.refl _ _).alloc (Nat.le_refl _) _).alloc (by simp) _, by simp⟩
  · rw [Below.heap_alloc _ _ _ (by simp)]; exact heap_alloc_last w _
  · have := heap_alloc_last (w.alloc (.cells #[x, y, z] t)) (.cells #[.slice none 0 0, .int .i64 0, .slice none 0 0] t'); simpa using this
theorem ownLg_join {T B C : Nat} {w1 w2 : World} {a b : Value} {n : Int} {s : List Wrt} {wt : List (List UInt8)} (h1 : Own (Shp.list T SWr) B w1 [a] s) (h2 : Own SSec C w2 [b] wt) (hC : w1.heap.size ≤ C) (hb : Below w1.heap.size w1 w2) (hB : B ≤ C) : ∃ F, OwnF (SLg T) F w2 [a, .int .i64 n, b] (s, n, wt) ∧ ∀ x, x ∈ F → B ≤ x := by
  obtain ⟨F1, p1, q1⟩ := h1.foot
  obtain ⟨F2, p2, q2⟩ := h2.foot
  refine ⟨F1 ++ ([] ++ F2), OwnF.join (c := [a]) (d := [.int .i64 n, b]) (p1.to hb) (OwnF.join (c := [.int .i64 n]) (d := [b]) (s := Shp.int .i64) ⟨⟨rfl, rfl⟩, List.nodup_nil⟩ p2 (fun b hb => by cases hb)) (fun x hx hx' => ?_), fun x hx => ?_⟩
  · have := p1.lt x hx
    have := q2 x (by simpa using hx')
    omega
  · rcases List.mem_append.1 hx with hx | hx
    · exact q1 x hx
    · have := q2 x (by simpa using hx); omega

set_option maxRecDepth 100000 in
set_option maxHeartbeats 2000000 in
theorem wof_any (w : World) (sv wv : Value) (l : Wlg) (h1 : RdC w sv l.1) (h2 : RdSec w wv l.2.2) (hf : wfit l) :
    Calls Try.prog 9 #[.agg #[sv, .int .i64 l.2.1, wv]] w fun e w' => ∃ sv' wv', e = .returned (.agg #[sv', .int .i64 l.2.1, wv']) ∧ Own SLogP w.heap.size w' [sv', .int .i64 l.2.1, wv'] l ∧ Below w.heap.size w w' := by
  obtain ⟨f1, f2, f3, f4⟩ := hf
  obtain ⟨a1, c1, rfl⟩ := h1.slice
  obtain ⟨a2, c2, rfl⟩ := h2.slice
  obtain ⟨W, hW, hA, hZ, bW, sW⟩ := boxes3t w (.slice a1 l.1.length c1) (.int .i64 l.2.1) (.slice a2 l.2.2.length c2) 25 28
  obtain ⟨⟨A0, A1, A2⟩, _⟩ := cells3 hA
  have b0 : Below W.heap.size W W.drew := (Below.refl _ _).drew
  have KS := hide (segs_any W.drew _ l.1 (h1.to0 (bW.trans (b0.mono bW.size))) f1 f2)
  have KL := hide (fun w1 (b1 : Below W.heap.size W w1) => copyLists_any w1 _ l.2.2 (h2.to0 (bW.trans (b1.mono bW.size))) f3 f4)
  have HS : Hid (∀ w9, Below W.heap.size W w9 → w9.cell? ⟨w.heap.size, 0, none⟩ = some (.slice a1 l.1.length c1) ∧ w9.cell? ⟨w.heap.size, 1, none⟩ = some (.int .i64 l.2.1) ∧ w9.cell? ⟨w.heap.size, 2, none⟩ = some (.slice a2 l.2.2.length c2)) := fun w9 b9 =>
    ⟨(b9.cell (p := ⟨w.heap.size, 0, none⟩) (cell_lt A0)).trans A0, (b9.cell (p := ⟨w.heap.size, 1, none⟩) (cell_lt A1)).trans A1, (b9.cell (p := ⟨w.heap.size, 2, none⟩) (cell_lt A2)).trans A2⟩
  have HZ := hide hZ
  have BW := hide bW
  clear A0 A1 A2 hA hZ bW h1 h2 f1 f2 f3 f4
  go_enter Try.func9, Try.ntmps9
  go_wp2
  rw [← hW]
  replace hW := hide hW
  refine wp_region_sched (fun w9 => w9.cell? ⟨w.heap.size, 0, none⟩ = some (.slice a1 l.1.length c1) ∧ w9.cell? ⟨w.heap.size, 1, none⟩ = some (.int .i64 l.2.1) ∧ w9.cell? ⟨w.heap.size, 2, none⟩ = some (.slice a2 l.2.2.length c2)) [(0, true), (1, true), (3, true), (4, true), (5, true), (6, true), (2, false), (7, false)] 8 mixed (by kernel_rfl) (fun _ _ _ _ h => h) ?_
  iterate 6
    refine sched_take (v := ?_) rfl (by kernel_rfl) (HS.out _ b0) ?_ ?_
    rotate_left
    · rintro w9 ⟨q0, q1, q2⟩
      go_simp
      try with_reducible rfl
    try simp only [Act.put, List.setIfInBounds_toArray, List.set_cons_zero, List.set_cons_succ]
  refine sched_run rfl (by kernel_rfl) fun K hK => ?_
  refine wp_call_of 25 _ _ (by rfl) #[.slice a1 l.1.length c1] (by simp [Act.eval]) (Try.call25 _ _) KS.out ?_
  rintro e w1 ⟨v1, rfl, o1, b1⟩
  have d1 : Below W.heap.size W w1 := b0.trans (b1.mono b0.size)
  refine ⟨_, rfl, hK _ _ (HS.out _ d1) ?_⟩
  clear hK K
  try simp only [Act.put, List.setIfInBounds_toArray, List.set_cons_zero, List.set_cons_succ]
  refine sched_run rfl (by kernel_rfl) fun K hK => ?_
  refine wp_call_of 10 _ _ (by rfl) #[.slice a2 l.2.2.length c2] (by simp [Act.eval]) (Try.call10 _ _) (KL.out w1 d1) ?_
  rintro e w2 ⟨v2, rfl, o2, b2⟩
  have d2 : Below W.heap.size W w2 := d1.trans (b2.mono d1.size)
  refine ⟨_, rfl, hK _ _ (HS.out _ d2) ?_⟩
  clear hK K
  try simp only [Act.put, List.setIfInBounds_toArray, List.set_cons_zero, List.set_cons_succ]
  obtain ⟨F, hF, hFB⟩ := ownLg_join (n := l.2.1) o1 o2 (Nat.le_refl _) b2 b1.size
  have hWs : W.heap.size ≤ W.drew.heap.size := b0.size
  have hgF : w.heap.size + 1 ∉ F := fun h => by have := hFB _ h; omega
  have OO := hide (((hF.set (a := ⟨w.heap.size + 1, 0, none⟩) hgF v1).set (a := ⟨w.heap.size + 1, 1, none⟩) hgF (.int .i64 l.2.1)).set (a := ⟨w.heap.size + 1, 2, none⟩) hgF v2)
  have FB : Hid (∀ b, b ∈ F → w.heap.size ≤ b) := fun b hb => by have := hFB b hb; omega
  obtain ⟨ta, tc, rfl⟩ : ∃ ta tc, v1 = .slice ta l.1.length tc := (OwnF.waits hF).2.slice
  obtain ⟨tb, td, rfl⟩ : ∃ tb td, v2 = .slice tb l.2.2.length td := (OwnF.waits hF).1.slice
  have Z2 := hide ((d2.block _ (lt_of_block HZ.out)).trans HZ.out)
  obtain ⟨⟨z0, z1, z2⟩, zf⟩ := cells3 Z2.out
  have y0 := zf 0
  have y1 := zf 1
  have y2 := zf 2
  have CC := hide (BW.out.trans (d2.mono BW.out.size))
  clear o1 o2 b1 b2 d1 d2 hF hFB KS KL HS zf
  show wpList _ _ _ _ _ _
  dsimp only [List.drop]
  go_wp2
  refine retN rfl rfl (w.heap.size + 1) rfl _ _ (0, 0) (heap_set3 (u := w2) Z2.out _ _ _) _ Try.underlying28 rfl info_lgP ?_
  exact ⟨_, _, rfl, OO.out.own FB.out, below_set3 CC.out (show w.heap.size ≤ w.heap.size + 1 by omega) _ _ _⟩

end Go.Proofs.Ytlnoancjegifnaa

/-
  The law's same of logs, where both sides are one; its num.
-/
namespace Go.Proofs.Ytlnoancjegifnaa
open Go.RowKit
set_option linter.unusedVariables false
set_option linter.unusedSimpArgs false

set_option maxRecDepth 100000 in
theorem num8_any (w : World) (n : Int) : Calls Try.prog 20 #[.int .i64 n] w fun e w' => e = .returned (.int .i64 n) ∧ w = w' := by
  go_enter Try.func20, Try.ntmps20
  go_wp2
  go_ret
  exact ⟨rfl, rfl⟩

set_option maxRecDepth 100000 in
set_option maxHeartbeats 2000000 in
theorem wsame_any (w : World) (sv wv sv2 wv2 : Value) (l : Wlg) (h1 : RdC w sv l.1) (h2 : RdSec w wv l.2.2) (k1 : RdC w sv2 l.1) (k2 : RdSec w wv2 l.2.2) :
    Calls Try.prog 19 #[.agg #[sv, .int .i64 l.2.1, wv], .agg #[sv2, .int .i64 l.2.1, wv2]] w fun e w' => e = .returned (.bool true) ∧ Below w.heap.size w w' := by
  have lb := h1.bd
  obtain ⟨a1, c1, rfl⟩ := h1.slice
  obtain ⟨a2, c2, rfl⟩ := h2.slice
  obtain ⟨a3, c3, rfl⟩ := k1.slice
  obtain ⟨a4, c4, rfl⟩ := k2.slice
  obtain ⟨W1, hW1, X1, bW1, sW1⟩ := boxedN w #[.slice a1 l.1.length c1, .int .i64 l.2.1, .slice a2 l.2.2.length c2] 28
  obtain ⟨W, hW, X2, bW2, sW⟩ := boxedN W1 #[.slice a3 l.1.length c3, .int .i64 l.2.1, .slice a4 l.2.2.length c4] 25
  rw [sW1] at X2
  rw [hW1] at hW
  have Y1 := (bW2.block _ (lt_of_block X1)).trans X1
  have bW := bW1.trans (bW2.mono bW1.size)
  replace h1 := h1.to0 bW
  replace h2 := h2.to0 bW
  replace k1 := k1.to0 bW
  replace k2 := k2.to0 bW
  replace hW1 := hide hW1
  obtain ⟨⟨A0, A1, A2⟩, _⟩ := cells3 Y1
  obtain ⟨⟨B0, B1, B2⟩, _⟩ := cells3 X2
  have KL := hide (dsameLists_any W _ _ l.2.2 h2 k2)
  have hnx : (l.2.1 != l.2.1) = false := by simp
  clear bW1 bW2 X1
  rw [hW] at A0 A1 A2 B0 B1 B2
  go_enter Try.func19, Try.ntmps19
  go_wp2_with fail
  rw [← hW]
  rw [← hW] at A0 A1 A2 B0 B1 B2
  replace hW := hide hW
  refine KL.out.mono ?_
  rintro e w1 ⟨rfl, n1, hw1⟩
  have b1 : Below W.heap.size W w1 := by rw [hw1]; exact below_drewN' _ _ _
  replace A0 := (b1.cell (cell_lt A0)).trans A0
  replace B0 := (b1.cell (cell_lt B0)).trans B0
  replace h1 := h1.to0 b1
  replace k1 := k1.to0 b1
  have cc := bW.trans (b1.mono bW.size)
  clear hw1 b1 bW A1 A2 B1 B2 h2 k2 KL X2 Y1
  go_wp2
  go_loopw [5] (fun i wr => ∃ k : Nat, k ≤ l.1.length ∧ i = .int .i64 k ∧ Below w1.heap.size w1 wr) (fun i _ => l.1.length - (intOf i).toNat)
  case atStart => exact ⟨0, Nat.zero_le _, rfl, Below.refl _ _⟩
  case round =>
    obtain ⟨k, hk, rfl, hb⟩ := hrel
    replace A0 := (hb.cell (cell_lt A0)).trans A0
    replace B0 := (hb.cell (cell_lt B0)).trans B0
    by_cases hlt : k < l.1.length
    · have hq : (k : Int) < (l.1.length : Int) := by omega
      obtain ⟨y, hy, _⟩ := some_at l.1 hlt
      obtain ⟨b1, o1, u1, rfl, g1, g2, q1⟩ := (h1.to0 hb).wrt hy
      obtain ⟨b2, o2, u2, rfl, g3, g4, q2⟩ := (k1.to0 hb).wrt hy
      obtain ⟨aa, ca, rfl⟩ := q1.slice
      obtain ⟨ab, cb, rfl⟩ := q2.slice
      have KS := hide (fun n => same_any (wr.drewN n) _ _ _ _ (q1.drewN n) (q2.drewN n))
      rw [sameB_self] at KS
      have HB := hide hb
      clear q1 q2 hb hy
      obtain ⟨z, x⟩ := y
      dsimp only at g1 g2 g3 g4 KS
      generalize x.length = LX at *
      have hne : (z != z) = false := by simp
      go_wp2
      go_quiet ((go_at_call 28; exact Calls.quiet_of (KS.out _)))
      have HB2 : Hid (Below w1.heap.size w1 (wr.drewN nq)) := HB.out.trans (below_drewN' _ _ _)
      go_wp2
      go_roundw
      case rel => exact ⟨k + 1, by omega, by go_num, HB2.out⟩
      case measure => simp [intOf]; omega
    · have hq : ¬ (k : Int) < (l.1.length : Int) := by omega
      go_wp2
      go_ret
      exact ⟨rfl, cc.trans (hb.mono cc.size)⟩

end Go.Proofs.Ytlnoancjegifnaa

/-
  A log that a call answers ('LgF'): its segments are the call's own, from block B on; so is what waits. Nothing of the program's functions is named.
-/
namespace Go.Proofs.Ytlnoancjegifnaa
open Go.RowKit
set_option linter.unusedVariables false

theorem rows_keepB {w w' : World} {B e s n : Nat} {v : Value} {xs : List Value} (h : w.ownsRow B e s v n xs) (k : ∀ b, B ≤ b → b < w.heap.size → w'.heap[b]? = w.heap[b]?) : w'.ownsRow B e s v n xs := by
  refine ⟨h.1, ?_⟩
  rcases h.2 with hn | ⟨g, cap, cur, hv, hgb, hg, r⟩
  · exact .inl hn
  · exact .inr ⟨g, cap, cur, hv, hgb, (k g hgb (lt_of_block hg)).trans hg, r⟩
theorem OwnV.keepB {B : Nat} {w w' : World} {v : Value} {xss : List (List UInt8)} (h : OwnV B B w v xss) (k : ∀ b, B ≤ b → b < w.heap.size → w'.heap[b]? = w.heap[b]?) : OwnV B B w' v xss := by
  obtain ⟨vs, h1, h2, h3⟩ := h
  exact ⟨vs, h1, rows_keepB h2 k, fun i hi => rows_keepB (h3 i hi) k⟩
theorem Own.keepB {α : Type} {s : Shp α} {B : Nat} {w w' : World} {cs : List Value} {x : α} (h : Own s B w cs x) (k : ∀ b, B ≤ b → b < w.heap.size → w'.heap[b]? = w.heap[b]?) : Own s B w' cs x :=
  let ⟨F, h1, h2, h3⟩ := h; ⟨F, s.own_to h1 fun b hb' => k b (h3 b hb') (s.own_lt h1 b hb'), h2, h3⟩

theorem OwnW.mono {T B C : Nat} {w : World} {v : Value} {ws : List Wrt} (h : OwnW T B w v ws) (hC : C ≤ B) : OwnW T C w v ws := by
  obtain ⟨vs, h1, h2, h3⟩ := h
  exact ⟨vs, h1, rows_mono h2 hC, h3⟩

def LgF (T B : Nat) (w : World) (sv wv : Value) (l : Wlg) : Prop := Own (Shp.list T SWr) B w [sv] l.1 ∧ OwnV B B w wv l.2.2
theorem LgF.keepB {T B : Nat} {w w' : World} {sv wv : Value} {l : Wlg} (h : LgF T B w sv wv l) (k : ∀ b, B ≤ b → b < w.heap.size → w'.heap[b]? = w.heap[b]?) : LgF T B w' sv wv l := ⟨h.1.keepB k, h.2.keepB k⟩
theorem LgF.to {T B : Nat} {w w' : World} {sv wv : Value} {l : Wlg} (h : LgF T B w sv wv l) (hb : Below w.heap.size w w') : LgF T B w' sv wv l := h.keepB fun b _ hb' => hb.block b hb'
theorem LgF.set {T B : Nat} {w : World} {sv wv : Value} {l : Wlg} (h : LgF T B w sv wv l) {a : Addr} (ha : a.block < B) (u : Value) : LgF T B (w.setCell a u) sv wv l := h.keepB fun b hb _ => Below.heap_setCell _ _ _ _ (fun e => by omega)
theorem LgF.set3 {T B : Nat} {w : World} {sv wv : Value} {l : Wlg} (h : LgF T B w sv wv l) {g : Nat} (hg : g < B) (x y z : Value) : LgF T B (((w.setCell ⟨g, 0, none⟩ x).setCell ⟨g, 1, none⟩ y).setCell ⟨g, 2, none⟩ z) sv wv l :=
  ((h.set (a := ⟨g, 0, none⟩) hg x).set (a := ⟨g, 1, none⟩) hg y).set (a := ⟨g, 2, none⟩) hg z
theorem LgF.mono {T B C : Nat} {w : World} {sv wv : Value} {l : Wlg} (h : LgF T B w sv wv l) (hC : C ≤ B) : LgF T C w sv wv l := ⟨h.1.mono hC, h.2.mono hC hC⟩
theorem LgF.rd3 {T B : Nat} {w : World} {sv wv : Value} {l : Wlg} (h : LgF T B w sv wv l) : RdC w sv l.1 ∧ RdSec w wv l.2.2 := ⟨h.1.rdS, h.2.rd⟩
theorem LgF.zero (T B : Nat) (w : World) : LgF T B w (.slice none 0 0) (.slice none 0 0) wzero := ⟨Own.nil _ _ _ _, OwnV.nil _ _ _⟩

end Go.Proofs.Ytlnoancjegifnaa

/-
  What the program's functions of logs answer, as the laws need it: the structure WalSay. The page's example, plainly.
-/
namespace Go.Proofs.Ytlnoancjegifnaa
open Go.RowKit
set_option linter.unusedVariables false

def wshort (segs : List Wrt) : Prop := ∀ s ∈ segs, s.2.length ≤ 16777216
/-- the program's contracts -/
structure WalSay : Prop where
  checkS : ∀ (w : World) (sv wv : Value) (l : Wlg), RdC w sv l.1 → RdSec w wv l.2.2 → wshort l.1 →
    Calls Try.prog 22 #[.agg #[sv, .int .i64 l.2.1, wv]] w fun e w' => e = .returned (.int .i64 (wcheck l)) ∧ Below w.heap.size w w'
  appendS : ∀ (w : World) (sv wv rv : Value) (l : Wlg) (rs : List (List UInt8)), RdC w sv l.1 → RdSec w wv l.2.2 → RdSec w rv rs → wshort l.1 → rs.length ≤ 10000000000000 →
    Calls Try.prog 11 #[.agg #[sv, .int .i64 l.2.1, wv], rv] w fun e w' => ∃ sv' wv', e = .returned (.tuple #[.agg #[sv', .int .i64 (wappend l rs).1.2.1, wv'], .int .i64 (wappend l rs).2]) ∧ LgF 56 w.heap.size w' sv' wv' (wappend l rs).1 ∧ Below w.heap.size w w'
  flushS : ∀ (w : World) (sv wv : Value) (l : Wlg) (limit : Int), RdC w sv l.1 → RdSec w wv l.2.2 → wshort l.1 →
    Calls Try.prog 13 #[.agg #[sv, .int .i64 l.2.1, wv], .int .i64 limit] w fun e w' => ∃ sv' wv', e = .returned (.tuple #[.agg #[sv', .int .i64 (wflush l limit).1.2.1, wv'], .int .i64 (wflush l limit).2]) ∧ LgF 56 w.heap.size w' sv' wv' (wflush l limit).1 ∧ Below w.heap.size w w'
  recordsS : ∀ (w : World) (sv wv : Value) (l : Wlg), RdC w sv l.1 → RdSec w wv l.2.2 → wshort l.1 →
    Calls Try.prog 17 #[.agg #[sv, .int .i64 l.2.1, wv]] w fun e w' => ∃ v', e = .returned (.tuple #[v', .int .i64 (wrecords l).2.1, .int .i64 (wrecords l).2.2]) ∧ RdSec w' v' (wrecords l).1 ∧ Below w.heap.size w w'
  recoverS : ∀ (w : World) (sv : Value) (segs : List Wrt), RdC w sv segs → wshort segs →
    Calls Try.prog 26 #[sv] w fun e w' => ∃ sv' wv' rv, e = .returned (.tuple #[.agg #[sv', .int .i64 (wrecover segs).1.2.1, wv'], rv, .int .i64 (wrecover segs).2.2]) ∧ (OwnW 56 w.heap.size w' sv' (wrecover segs).1.1 ∧ RdSec w' wv' (wrecover segs).1.2.2 ∧ OwnV w.heap.size 0 w' rv (wrecover segs).2.1) ∧ Below w.heap.size w w'

/-- the page's example -/
theorem al1 : wappend wzero [[97], [98]] = ((wsegs 0 [], 0, [[97], [98]]), 0) := by
  have h : WOk wzero := wok_laid (gs := []) (wait := []) (by decide) (fun g hg => by cases hg) (by decide) (by decide) (fun r hr => by cases hr)
  rw [wappend_0 h (by intro r hr; simp at hr; rcases hr with rfl | rfl <;> decide) (by decide)]
  rfl
theorem al_g1 : ([[97], [98]] : List (List UInt8)).foldl (gput 10) [] = [[[97], [98]]] := by
  have e1 : gput 10 [] [97] = [[[97]]] := by unfold gput; rw [if_pos (.inl rfl)]; rfl
  have e2 : gput 10 [[[97]]] [98] = [[[97], [98]]] := by
    unfold gput
    rw [if_neg (fun h => by
      rcases h with h | h
      · cases h
      · rw [show ([[[97]]] : List (List (List UInt8))).getLastD [] = [[97]] from rfl, wdata_len] at h
        simp [wsz] at h)]
    rfl
  simp only [List.foldl_cons, List.foldl_nil, e1, e2]
theorem al2 : wflush (wsegs 0 [], 0, [[97], [98]]) 10 = ((wsegs 0 [[[97], [98]]], 2, []), 0) := by
  have := wflush_laid (limit := 10) (gs := []) (rs := [[97], [98]]) (by decide) (by decide) (by decide) (fun g hg => by cases hg) (by intro r hr; simp at hr; rcases hr with rfl | rfl <;> decide)
  rw [al_g1] at this
  exact this
theorem al3 : wappend (wsegs 0 [[[97], [98]]], 2, []) [[99]] = ((wsegs 0 [[[97], [98]]], 2, [[99]]), 0) := by
  have h : WOk (wsegs 0 [[[97], [98]]], 2, []) := wok_laid (gs := [[[97], [98]]]) (wait := []) (by decide) (by intro g hg r hr; simp at hg; subst hg; simp at hr; rcases hr with rfl | rfl <;> decide) (by decide) (by decide) (fun r hr => by cases hr)
  rw [wappend_0 h (by intro r hr; simp at hr; subst hr; decide) (by decide)]
  rfl
theorem al_g2 : ([[99]] : List (List UInt8)).foldl (gput 10) [[[97], [98]]] = [[[97], [98]], [[99]]] := by
  have e2 : gput 10 [[[97], [98]]] [99] = [[[97], [98]], [[99]]] := by
    unfold gput
    rw [if_pos (.inr (by
      rw [show ([[[97], [98]]] : List (List (List UInt8))).getLastD [] = [[97], [98]] from rfl, wdata_len]
      simp [wsz]))]
    rfl
  simp only [List.foldl_cons, List.foldl_nil, e2]
theorem al4 : wflush (wsegs 0 [[[97], [98]]], 2, [[99]]) 10 = ((wsegs 0 [[[97], [98]], [[99]]], 3, []), 0) := by
  have := wflush_laid (limit := 10) (gs := [[[97], [98]]]) (rs := [[99]]) (by decide) (by decide) (by decide) (by intro g hg r hr; simp at hg; subst hg; simp at hr; rcases hr with rfl | rfl <;> decide) (by intro r hr; simp at hr; subst hr; decide)
  rw [al_g2] at this
  exact this
theorem al_short1 : wshort (wsegs 0 [[[97], [98]]]) := by
  intro s hs
  simp only [wsegs, List.mem_cons, List.not_mem_nil, or_false] at hs
  subst hs
  dsimp only
  rw [wdata_len]; simp [wsz]

end Go.Proofs.Ytlnoancjegifnaa

/-
  The law's own 'alive' (the page's example of logs) answers true; it makes memory of its own and changes none that was there.
-/
namespace Go.Proofs.Ytlnoancjegifnaa
open Go.RowKit
set_option linter.unusedVariables false
set_option linter.unusedSimpArgs false

theorem rdSec_lit1 {X : World} {g : Nat} {v1 : Value} {a : List UInt8} {T : TypeId} (h : X.heap[g]? = some (.cells #[v1] T (0, 0))) (h1 : Rd X v1 a) : RdSec X (.slice (some ⟨g, 0, none⟩) 1 1) [a] := by
  refine ⟨some ⟨g, 0, none⟩, 1, rfl, Nat.le_refl _, by unfold maxLen; omega, (fun h => nomatch h), .inr ⟨g, 0, rfl, fun i x hx => ?_⟩⟩
  match i, hx with
  | 0, hx =>
    simp only [List.getElem?_cons_zero, Option.some.injEq] at hx
    subst hx
    refine ⟨[v1], ⟨_, rfl, h1⟩, fun j u hj => ?_⟩
    match j, hj with
    | 0, hj => simp only [List.getElem?_cons_zero, Option.some.injEq] at hj; subst hj; rw [cell_of_row _ _ _ _ _ (0, 0) h]; rfl
    | j + 1, hj => simp at hj
  | i + 1, hx => simp at hx
theorem rdSec_lit2 {X : World} {g : Nat} {v1 v2 : Value} {a b : List UInt8} {T : TypeId} (h : X.heap[g]? = some (.cells #[v1, v2] T (0, 0))) (h1 : Rd X v1 a) (h2 : Rd X v2 b) : RdSec X (.slice (some ⟨g, 0, none⟩) 2 2) [a, b] := by
  refine ⟨some ⟨g, 0, none⟩, 2, rfl, Nat.le_refl _, by unfold maxLen; omega, (fun h => nomatch h), .inr ⟨g, 0, rfl, fun i x hx => ?_⟩⟩
  match i, hx with
  | 0, hx =>
    simp only [List.getElem?_cons_zero, Option.some.injEq] at hx
    subst hx
    refine ⟨[v1], ⟨_, rfl, h1⟩, fun j u hj => ?_⟩
    match j, hj with
    | 0, hj => simp only [List.getElem?_cons_zero, Option.some.injEq] at hj; subst hj; rw [cell_of_row _ _ _ _ _ (0, 0) h]; rfl
    | j + 1, hj => simp at hj
  | 1, hx =>
    simp only [List.getElem?_cons_succ, List.getElem?_cons_zero, Option.some.injEq] at hx
    subst hx
    refine ⟨[v2], ⟨_, rfl, h2⟩, fun j u hj => ?_⟩
    match j, hj with
    | 0, hj => simp only [List.getElem?_cons_zero, Option.some.injEq] at hj; subst hj; rw [cell_of_row _ _ _ _ _ (0, 0) h]; rfl
    | j + 1, hj => simp at hj
  | i + 2, hx => simp at hx
theorem freeze_size (w : World) (p : Addr) (n : Nat) : (w.freeze p n).heap.size = w.heap.size := by
  unfold World.freeze
  split
  · rfl
  · simp
/-- an answer stored into the box at g -/
theorem box3_put {T TL B g : Nat} {w w' : World} {x y z sv wv : Value} {s : List Wrt} {n : Int} {wt : List (List UInt8)} (hA : w'.heap[g]? = some (.cells #[x, y, z] TL (0, 0))) (o : LgF T B w' sv wv (s, n, wt)) (hB : g < B) (cc : Below w.heap.size w w') (hw : w.heap.size ≤ g) :
    ∃ U, U = ((w'.setCell ⟨g, 0, none⟩ sv).setCell ⟨g, 1, none⟩ (.int .i64 n)).setCell ⟨g, 2, none⟩ wv ∧ U.heap[g]? = some (.cells #[sv, .int .i64 n, wv] TL (0, 0)) ∧ LgF T B U sv wv (s, n, wt) ∧ Below w.heap.size w U ∧ U.heap.size = w'.heap.size :=
  ⟨_, rfl, heap_set3 hA _ _ _, o.set3 hB _ _ _, below_set3 cc hw _ _ _, by simp⟩

set_option maxRecDepth 100000 in
set_option maxHeartbeats 4000000 in
theorem walive_any (S : WalSay) (w : World) : Calls Try.prog 24 #[] w fun e w' => e = .returned (.bool true) ∧ Below w.heap.size w w' := by
  obtain ⟨u1, hu1⟩ : ∃ u, u = w.alloc (.cells #[.int .u8 97] 5) := ⟨_, rfl⟩
  have r1 : Rd (u1.freeze ⟨w.heap.size, 1, none⟩ 1) (.slice (some ⟨w.heap.size, 0, none⟩) 1 1) [97] := Rd.freeze (by rw [hu1]; exact rd_lit w [97] _ _ _ rfl rfl rfl (by decide)) _ _
  have b1 : Below w.heap.size w (u1.freeze ⟨w.heap.size, 1, none⟩ 1) := Lib.below_freeze (by rw [hu1]; exact (Below.refl _ _).alloc (Nat.le_refl _) _) (p := ⟨w.heap.size, 1, none⟩) (Nat.le_refl _) 1
  have hcv1 := conv_same u1 w.heap.size 1 1 5 1 (by rw [hu1, World.shape?, heap_alloc_last]; rfl)
  obtain ⟨Y1, hY1⟩ : ∃ Y, Y = u1.freeze ⟨w.heap.size, 1, none⟩ 1 := ⟨_, rfl⟩
  have s1 : Y1.heap.size = w.heap.size + 1 := by rw [hY1, freeze_size, hu1]; simp
  rw [← hY1] at r1 b1
  obtain ⟨u2, hu2⟩ : ∃ u, u = Y1.alloc (.cells #[.int .u8 98] 5) := ⟨_, rfl⟩
  have r2 : Rd (u2.freeze ⟨w.heap.size + 1, 1, none⟩ 1) (.slice (some ⟨w.heap.size + 1, 0, none⟩) 1 1) [98] := Rd.freeze (by rw [hu2]; exact rd_lit Y1 [98] _ _ _ rfl s1.symm rfl (by decide)) _ _
  have b2 : Below Y1.heap.size Y1 (u2.freeze ⟨w.heap.size + 1, 1, none⟩ 1) := Lib.below_freeze (by rw [hu2]; exact (Below.refl _ _).alloc (Nat.le_refl _) _) (p := ⟨w.heap.size + 1, 1, none⟩) (by rw [s1]; exact Nat.le_refl _) 1
  have hcv2 := conv_same u2 (w.heap.size + 1) 1 1 5 1 (by rw [hu2, World.shape?, ← s1, heap_alloc_last]; rfl)
  obtain ⟨Y2, hY2⟩ : ∃ Y, Y = u2.freeze ⟨w.heap.size + 1, 1, none⟩ 1 := ⟨_, rfl⟩
  have s2 : Y2.heap.size = w.heap.size + 1 + 1 := by rw [hY2, freeze_size, hu2]; simp [s1]
  rw [← hY2] at r2 b2
  obtain ⟨X, hX, X0, bX, sX⟩ := boxedN Y2 #[.slice (some ⟨w.heap.size, 0, none⟩) 1 1, .slice (some ⟨w.heap.size + 1, 0, none⟩) 1 1] 54
  rw [s2] at X0
  have RS := rdSec_lit2 X0 ((r1.to b2).to bX) (r2.to bX)
  have cX := b1.trans ((b2.trans (bX.mono b2.size)).mono b1.size)
  have KA := hide (S.appendS X _ _ _ wzero [[97], [98]] (RdS.nil _ _) (RdS.nil _ _) RS (fun s hs => by cases hs) (by decide))
  rw [al1] at KA
  rw [hY1, hu1] at s1
  rw [hY2, hu2, hY1, hu1] at s2
  rw [hY2, hu2, hY1, hu1] at hX
  rw [hu2, hY1, hu1] at hcv2
  rw [hu1] at hcv1
  clear r1 r2 b1 b2 bX X0 RS hY2 hu2 hY1 hu1
  go_enter Try.func24, Try.ntmps24
  go_wp2_with fail
  rw [← hX]
  clear hcv1 hcv2 s1 s2
  replace hX := hide hX
  refine KA.out.mono ?_
  rintro e w1 ⟨sv1, wv1, rfl, o1, d1⟩
  clear KA
  obtain ⟨p1, p2⟩ := o1.rd3
  obtain ⟨a1, c1, hv1⟩ := p1.slice
  obtain ⟨a2, c2, hv2⟩ := p2.slice
  rw [show (wsegs 0 []).length = 0 from rfl] at hv1
  dsimp only [List.length] at hv1 hv2
  subst hv1 hv2
  obtain ⟨V, hV, V0, bV, sV⟩ := boxedN w1 #[.slice a1 0 c1, .int .i64 0, .slice a2 2 c2] 28
  have cV := hide (cX.trans ((d1.trans (bV.mono d1.size)).mono cX.size))
  have KF := hide (S.flushS V _ _ (wsegs 0 [], 0, [[97], [98]]) 10 (p1.to0 bV) (p2.to0 bV) (fun s hs => by cases hs))
  rw [al2] at KF
  obtain ⟨⟨T0, T1, T2⟩, _⟩ := cells3 V0
  have V0' := hide V0
  have hgw : w.heap.size ≤ w1.heap.size := by have := cX.size; have := d1.size; omega
  rw [hV] at T0 T1 T2
  clear p1 p2 o1 d1 bV V0 cX
  go_wp2_with fail
  rw [← hV]
  replace hV := hide hV
  refine KF.out.mono ?_
  rintro e w2 ⟨sv2, wv2, rfl, o2, d2⟩
  clear KF T0 T1 T2
  obtain ⟨p1, p2⟩ := o2.rd3
  obtain ⟨a1, c1, hv1⟩ := p1.slice
  obtain ⟨a2, c2, hv2⟩ := p2.slice
  rw [show (wsegs 0 [[[97], [98]]]).length = 1 from rfl] at hv1
  dsimp only [List.length] at hv2
  subst hv1 hv2
  have B2 := (d2.block _ (lt_of_block V0'.out)).trans V0'.out
  obtain ⟨⟨t0, t1, t2⟩, tf⟩ := cells3 B2
  have f0 := tf 0
  have f1 := tf 1
  have f2 := tf 2
  obtain ⟨U2, hU2, E2, oU2, cU2, sU2⟩ := box3_put (w := w) B2 o2 (by rw [sV]; exact Nat.lt_succ_self _) (cV.out.trans (d2.mono cV.out.size)) hgw
  obtain ⟨⟨T0, T1, T2⟩, _⟩ := cells3 E2
  have E2' := hide E2
  rw [hU2] at T0 T1 T2
  clear p1 p2 tf o2 d2 B2 E2 sU2
  go_upto_region 4 with fail
  rw [← hU2]
  rw [← hU2] at T0 T1 T2
  replace hU2 := hide hU2
  replace cU2 := hide cU2
  clear t0 t1 t2 f0 f1 f2
  obtain ⟨u3, hu3⟩ : ∃ u, u = U2.alloc (.cells #[.int .u8 99] 5) := ⟨_, rfl⟩
  have r3 : Rd (u3.freeze ⟨U2.heap.size, 1, none⟩ 1) (.slice (some ⟨U2.heap.size, 0, none⟩) 1 1) [99] := Rd.freeze (by rw [hu3]; exact rd_lit U2 [99] _ _ _ rfl rfl rfl (by decide)) _ _
  have b3 : Below U2.heap.size U2 (u3.freeze ⟨U2.heap.size, 1, none⟩ 1) := Lib.below_freeze (by rw [hu3]; exact (Below.refl _ _).alloc (Nat.le_refl _) _) (p := ⟨U2.heap.size, 1, none⟩) (Nat.le_refl _) 1
  have hcv3 := conv_same u3 U2.heap.size 1 1 5 1 (by rw [hu3, World.shape?, heap_alloc_last]; rfl)
  obtain ⟨Y3, hY3⟩ : ∃ Y, Y = u3.freeze ⟨U2.heap.size, 1, none⟩ 1 := ⟨_, rfl⟩
  have s3 : Y3.heap.size = U2.heap.size + 1 := by rw [hY3, freeze_size, hu3]; simp
  rw [← hY3] at r3 b3
  obtain ⟨X3, hX3, X30, bX3, sX3⟩ := boxedN Y3 #[.slice (some ⟨U2.heap.size, 0, none⟩) 1 1] 54
  rw [s3] at X30
  have RS3 := rdSec_lit1 X30 (r3.to bX3)
  have b3X := b3.trans (bX3.mono b3.size)
  obtain ⟨p1, p2⟩ := oU2.rd3
  have KA := hide (S.appendS X3 _ _ _ (wsegs 0 [[[97], [98]]], 2, []) [[99]] (p1.to0 b3X) (p2.to0 b3X) RS3 al_short1 (by decide))
  rw [al3] at KA
  have cX3 := hide (cU2.out.trans (b3X.mono cU2.out.size))
  have BX3 := hide ((b3X.block _ (lt_of_block E2'.out)).trans E2'.out)
  have hlt3 : w1.heap.size < X3.heap.size := lt_of_block BX3.out
  rw [hY3, hu3] at hX3 s3
  rw [hu3] at hcv3
  clear r3 b3 bX3 X30 RS3 hY3 hu3 p1 p2 b3X oU2
  go_wp2_with fail
  rw [← hX3]
  clear hcv3 s3 T0 T1 T2
  replace hX3 := hide hX3
  refine KA.out.mono ?_
  rintro e w3 ⟨sv3, wv3, rfl, o3, d3⟩
  clear KA
  obtain ⟨p1, p2⟩ := o3.rd3
  obtain ⟨a1, c1, hv1⟩ := p1.slice
  obtain ⟨a2, c2, hv2⟩ := p2.slice
  rw [show (wsegs 0 [[[97], [98]]]).length = 1 from rfl] at hv1
  dsimp only [List.length] at hv2
  subst hv1 hv2
  have B3 := (d3.block _ (lt_of_block BX3.out)).trans BX3.out
  obtain ⟨⟨t0, t1, t2⟩, tf⟩ := cells3 B3
  have f0 := tf 0
  have f1 := tf 1
  have f2 := tf 2
  obtain ⟨U3, hU3, E3, oU3, cU3, sU3⟩ := box3_put (w := w) B3 o3 (hlt3) (cX3.out.trans (d3.mono cX3.out.size)) hgw
  obtain ⟨⟨T0, T1, T2⟩, _⟩ := cells3 E3
  have E3' := hide E3
  rw [hU3] at T0 T1 T2
  clear p1 p2 tf o3 d3 B3 E3 sU3
  go_upto_region 5 with fail
  rw [← hU3]
  rw [← hU3] at T0 T1 T2
  replace hU3 := hide hU3
  replace cU3 := hide cU3
  clear t0 t1 t2 f0 f1 f2
  obtain ⟨p1, p2⟩ := oU3.rd3
  have KF := hide (S.flushS U3 _ _ (wsegs 0 [[[97], [98]]], 2, [[99]]) 10 p1 p2 al_short1)
  rw [al4] at KF
  have hlt4 : w1.heap.size < U3.heap.size := lt_of_block E3'.out
  clear p1 p2 oU3
  go_wp2_with fail
  refine KF.out.mono ?_
  rintro e w4 ⟨sv4, wv4, rfl, o4, d4⟩
  clear KF T0 T1 T2
  obtain ⟨p1, p2⟩ := o4.rd3
  obtain ⟨a1, c1, hv1⟩ := p1.slice
  obtain ⟨a2, c2, hv2⟩ := p2.slice
  rw [show (wsegs 0 [[[97], [98]], [[99]]]).length = 2 from rfl] at hv1
  dsimp only [List.length] at hv2
  subst hv1 hv2
  have B4 := (d4.block _ (lt_of_block E3'.out)).trans E3'.out
  obtain ⟨⟨t0, t1, t2⟩, tf⟩ := cells3 B4
  have f0 := tf 0
  have f1 := tf 1
  have f2 := tf 2
  obtain ⟨U4, hU4, E4, oU4, cU4, sU4⟩ := box3_put (w := w) B4 o4 (hlt4) (cU3.out.trans (d4.mono cU3.out.size)) hgw
  obtain ⟨⟨T0, T1, T2⟩, _⟩ := cells3 E4
  have E4' := hide E4
  rw [hU4] at T0 T1 T2
  clear p1 p2 tf o4 d4 B4 E4 sU4
  go_upto_region 6 with fail
  rw [← hU4]
  rw [← hU4] at T0 T1 T2
  replace hU4 := hide hU4
  replace cU4 := hide cU4
  clear t0 t1 t2 f0 f1 f2
  obtain ⟨p1, p2⟩ := oU4.rd3
  obtain ⟨b9, o9, u9, rfl, g1, _, _⟩ := p1.wrt (y := (2, wdata [[99]])) (show (wsegs 0 [[[97], [98]], [[99]]])[1]? = some (2, wdata [[99]]) from rfl)
  dsimp only at g1
  clear p1 p2 oU4
  iterate 4
    go_wp2_with fail
    refine (num8_any _ _).mono ?_
    rintro e w' ⟨rfl, rfl⟩
  go_wp2
  go_ret
  exact ⟨rfl, cU4.out⟩

end Go.Proofs.Ytlnoancjegifnaa

/-
  What a law's walk is told of a log, of segments and of batches that came in.
-/
namespace Go.Proofs.Ytlnoancjegifnaa
open Go.ChangeShapes Go.WideShapes Go.ChangeAt Go.RowKit
set_option linter.unusedVariables false

theorem opens_octs1 : Opens Shp.octs 54 (fun x => x.length ≤ 140737488351232) (fun x => x.length + 1) := by
  refine ⟨by kernel_rfl, fun {H enc W fuel cs x} h => ?_⟩
  obtain ⟨d, p⟩ := x
  obtain ⟨a, len, cap, rfl⟩ : ∃ a len cap, cs = [.slice a len cap] := by
    rcases open_ints Try.underlying54 Try.underlying5 (by kernel_rfl) h with ⟨hcs, _⟩ | ⟨x, l, c, zs, hcs, _⟩
    · exact ⟨_, _, _, hcs⟩
    · exact ⟨_, _, _, hcs⟩
  obtain ⟨xs, e, r, s⟩ := open_octs (d := d) (p := p) ⟨fuel, h⟩
  refine ⟨xs, ⟨_, rfl, r⟩, fun hw => ?_, ?_⟩
  · rcases s with s | ⟨el, sp, rfl, hel⟩
    · omega
    · have := hw ((el.length + sp.length) * Try.prog.bytesOf 5) (by simp [DataW.weights, Try.underlying54])
      rw [bytes8] at this
      simp only [reachBytes] at this
      omega
  · rcases s with s | ⟨el, sp, rfl, hel⟩
    · have := bulk_pos d
      dsimp only
      omega
    · have := bulk_len el
      simp only [Rows.uptoBulk]
      omega
theorem open_sectors : Opens SSec 23 (fun xs => xs.length * 24 ≤ 140737488351232 ∧ ∀ x ∈ xs, x.length ≤ 140737488351232) (fun xs => (xs.map (fun x => x.length + 1)).sum) :=
  opens_octs1.list Try.underlying23 (by kernel_rfl) (by kernel_rfl) (by decide)
theorem open_seg : Opens SWr 57 (fun z => True ∧ z.2.length ≤ 140737488351232) (fun z => 1 + z.2.length) :=
  (opens_int Try.underlying3 (by kernel_rfl)).pair opens_octs Try.underlying57 (by kernel_rfl) rfl rfl
abbrev SSegs : Shp (List Wrt) := Shp.list 57 SWr
theorem open_wsegs : Opens SSegs 22 (fun xs => xs.length * 32 ≤ 140737488351232 ∧ ∀ z ∈ xs, True ∧ z.2.length ≤ 140737488351232) (fun xs => (xs.map (fun z => 1 + z.2.length)).sum) :=
  open_seg.list Try.underlying22 (by kernel_rfl) (by kernel_rfl) (by decide)
theorem open_i64 : Opens (Shp.int .i64) 3 (fun _ => True) (fun _ => 1) := opens_int Try.underlying3 (by kernel_rfl)
set_option maxRecDepth 100000 in
theorem open_wlog : Opens SLogR 25 (fun z => (z.1.length * 32 ≤ 140737488351232 ∧ ∀ y ∈ z.1, True ∧ y.2.length ≤ 140737488351232) ∧ (True ∧ (z.2.2.length * 24 ≤ 140737488351232 ∧ ∀ x ∈ z.2.2, x.length ≤ 140737488351232))) (fun z => (z.1.map (fun y => 1 + y.2.length)).sum + (1 + (z.2.2.map (fun x => x.length + 1)).sum)) :=
  open_wsegs.three open_i64 open_sectors Try.underlying25 (by kernel_rfl) rfl rfl rfl
abbrev SBat : Shp (List (List (List UInt8))) := Shp.list 23 SSec
theorem open_batches : Opens SBat 60 (fun xs => xs.length * 24 ≤ 140737488351232 ∧ ∀ z ∈ xs, z.length * 24 ≤ 140737488351232 ∧ ∀ x ∈ z, x.length ≤ 140737488351232) (fun xs => (xs.map (fun z => (z.map (fun x => x.length + 1)).sum)).sum) :=
  open_sectors.list Try.underlying60 (by kernel_rfl) (by kernel_rfl) (by decide)

theorem wlog_fit {l : Wlg} (h : (l.1.length * 32 ≤ 140737488351232 ∧ ∀ y ∈ l.1, True ∧ y.2.length ≤ 140737488351232) ∧ (True ∧ (l.2.2.length * 24 ≤ 140737488351232 ∧ ∀ x ∈ l.2.2, x.length ≤ 140737488351232))) : wfit l :=
  ⟨h.1.1, fun y hy => (h.1.2 y hy).2, h.2.2.1, h.2.2.2⟩
theorem wlog_form {w : World} {cs : Array Value} {l : Wlg} (h : SLogR.rd w cs.toList l) : ∃ sv wv, cs = #[sv, .int .i64 l.2.1, wv] ∧ RdC w sv l.1 ∧ RdSec w wv l.2.2 := by
  obtain ⟨c, e, hc, ⟨v1, rfl, r1⟩, ⟨c2, e2, rfl, rfl, ⟨v2, rfl, r2⟩⟩⟩ := h
  refine ⟨v1, v2, ?_, r1, r2⟩
  cases cs
  simpa using hc
theorem bulk_lists : ∀ {xs : List (List UInt8)} {n : Nat}, (xs.map (fun x => x.length + 1)).sum ≤ n → xs.length ≤ n ∧ ∀ x ∈ xs, x.length ≤ n
  | [], n, h => ⟨Nat.zero_le _, fun x hx => by cases hx⟩
  | y :: xs, n, h => by
    simp only [List.map_cons, List.sum_cons] at h
    obtain ⟨i1, i2⟩ := bulk_lists (xs := xs) (n := n - (y.length + 1)) (by omega)
    refine ⟨by simp only [List.length_cons]; omega, fun x hx => ?_⟩
    rcases List.mem_cons.1 hx with rfl | hx
    · omega
    · have := i2 x hx; omega
theorem bulk_segs : ∀ {segs : List Wrt} {n : Nat}, (segs.map (fun y => 1 + y.2.length)).sum ≤ n → segs.length ≤ n ∧ ∀ s ∈ segs, s.2.length ≤ n
  | [], n, h => ⟨Nat.zero_le _, fun x hx => by cases hx⟩
  | y :: xs, n, h => by
    simp only [List.map_cons, List.sum_cons] at h
    obtain ⟨i1, i2⟩ := bulk_segs (segs := xs) (n := n - (1 + y.2.length)) (by omega)
    refine ⟨by simp only [List.length_cons]; omega, fun x hx => ?_⟩
    rcases List.mem_cons.1 hx with rfl | hx
    · omega
    · have := i2 x hx; omega
/-- a log of small bulk fits -/
theorem wlog_small {l : Wlg} (h : (l.1.map (fun y => 1 + y.2.length)).sum + (1 + (l.2.2.map (fun x => x.length + 1)).sum) ≤ 1048576) : wfit l ∧ wshort l.1 := by
  obtain ⟨a1, a2⟩ := bulk_segs (segs := l.1) (n := 1048576) (by omega)
  obtain ⟨b1, b2⟩ := bulk_lists (xs := l.2.2) (n := 1048576) (by omega)
  exact ⟨⟨by omega, fun x hx => by have := a2 x hx; omega, by omega, fun y hy => by have := b2 y hy; omega⟩, fun s hs => by have := a2 s hs; omega⟩
/-- a log of small bulk has short segments -/
theorem wshort_bulk : ∀ {segs : List Wrt} {n : Nat}, (segs.map (fun y => 1 + y.2.length)).sum ≤ n → ∀ s ∈ segs, s.2.length ≤ n
  | [], n, h, s, hs => by cases hs
  | y :: segs, n, h, s, hs => by
    simp only [List.map_cons, List.sum_cons] at h
    rcases List.mem_cons.1 hs with rfl | hs
    · omega
    · exact wshort_bulk (segs := segs) (n := n) (by omega) s hs

end Go.Proofs.Ytlnoancjegifnaa
