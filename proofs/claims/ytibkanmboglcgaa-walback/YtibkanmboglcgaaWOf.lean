/-
  The law's Segs and Of: a log for the program, in memory of its own.
-/
import Derived.Test.YtibkanmboglcgaaWRecR
import Derived.Test.YtibkanmboglcgaaRSched
namespace Go.Proofs.Ytibkanmboglcgaa
open Go.RowKit
set_option linter.unusedVariables false
set_option linter.unusedSimpArgs false

abbrev SLogP : Shp Wlg := SLg 56
theorem infoSP : (Try.prog.info? 56).map (fun i => (i.zero, i.size, i.bytes)) = some (some (.agg #[.int .i64 0, .slice none 0 0]), 2, 32) := by kernel_rfl
theorem info_lgP : (Try.prog.info? 28).map (·.size) = some 3 := by kernel_rfl

set_option maxRecDepth 100000 in
set_option maxHeartbeats 2000000 in
theorem segs_any (w : World) (v : Value) (ws : List Wrt) (h : RdC w v ws) (f1 : ws.length * 32 ≤ 140737488351232) (f2 : ∀ x ∈ ws, x.2.length ≤ 140737488351232) :
    Calls Try.prog 25 #[v] w fun e w' => ∃ v', e = .returned v' ∧ Own (Shp.list 56 SWr) w.heap.size w' [v'] ws ∧ Below w.heap.size w w' := by
  obtain ⟨j0, ji, jz0, jz1, jz2⟩ := info_parts infoSP
  have lb := h.bd
  obtain ⟨a1, c1, rfl⟩ := h.slice
  have HR := hide h
  clear h
  go_enter Try.func25, Try.ntmps25
  go_wp2
  go_loopw [3, 4] (fun o i wr => ∃ k : Nat, k ≤ ws.length ∧ i = .int .i64 k ∧ Hid (∃ F, OwnF (Shp.list 56 SWr) F wr [o] (ws.take k) ∧ (∀ b, b ∈ F → w.heap.size ≤ b) ∧ Below w.heap.size w wr)) (fun _ i _ => ws.length - (intOf i).toNat)
  case atStart => exact ⟨0, Nat.zero_le _, rfl, [], ⟨⟨_, [], [], rfl, World.ownsRow_nil _ _ _ _, ⟨rfl, rfl⟩, by simp [Value.ownBlock]⟩, List.nodup_nil⟩, fun b hb => by (cases hb), Below.refl _ _⟩
  case round =>
    obtain ⟨k, hk, rfl, hI⟩ := hrel
    by_cases hlt : k < ws.length
    · have hq : (k : Int) < (ws.length : Int) := by omega
      obtain ⟨F, hF, hFB, hb⟩ := hI.out
      obtain ⟨y, hyk, hym⟩ := some_at ws hlt
      obtain ⟨b1, o1, u, rfl, hc1, hc2, hr⟩ := (HR.out.to0 hb).wrt hyk
      obtain ⟨au, cu, rfl⟩ := hr.slice
      obtain ⟨cc, rowT, fin⟩ := OwnF.lit hF (n := k) (by simp; omega)
      have hsn := snoc_take ws hyk
      have hxl := f2 y hym
      obtain ⟨z, x⟩ := y
      dsimp only at hc1 hc2 hr hxl
      have FIN : Hid (∀ (w2 : World) (v2 : Value) (w5 : World) (g cap : Nat), Below wr.heap.size wr.drew w2 → OwnB wr.heap.size w2 v2 x → (w2.alloc (.cells #[.int .i64 z, v2] 56)).grownBy w5 u3.ownBlock →
          w5.ownsRow 0 56 2 (.slice (some ⟨g, 0, none⟩) (k + 1) cap) (k + 1) (cc ++ [.int .i64 z, v2]) → (u3.ownBlock = some g ∨ g = w2.heap.size + 1) →
          Hid (∃ F, OwnF (Shp.list 56 SWr) F w5 [.slice (some ⟨g, 0, none⟩) (k + 1) cap] (ws.take (k + 1)) ∧ (∀ b, b ∈ F → w.heap.size ≤ b) ∧ Below w.heap.size w w5)) := fun w2 v2 w5 g cap k1 k2 k3 k4 k5 => by
        obtain ⟨⟨F', q1, q2⟩, q3, q4⟩ := fin w2 [.int .i64 z, v2] (z, x) 56 _ w5 g cap ((Below.refl _ _).drew.trans k1) (own_wrt k2) rfl rfl rfl rfl k3 k4 k5
        rw [hsn] at q1
        exact ⟨F', q1, fun b hb' => (q2 b hb').elim (hFB b) (fun h => by have := hb.size; omega), hb.trans (q3 w.heap.size hFB hb.size)⟩
      have ROW : Hid (∀ u, Below wr.heap.size wr.drew u → ∀ o : Obj, (u.alloc o).ownsRow 0 56 2 u3 k cc) := fun u hu o => rowT _ (((Below.refl _ _).drew.trans hu).alloc hu.size o)
      have KS := hide (copy_any wr.drew _ x (hr.to (Below.refl _ _).drew) (by omega))
      have h63 : k + 1 ≤ maxLen := by rw [show maxLen = 9223372036854775807 from rfl]; omega
      have hby : (k + 1) * 32 ≤ 140737488355328 := by omega
      clear fin rowT hsn hF hFB hr hb hyk hym hI
      obtain ⟨ll, lc, hl⟩ : ∃ ll lc, u3 = .slice ll k lc := by
        rcases (ROW.out wr.drew (Below.refl _ _) (.cells #[] 0)).2 with ⟨rfl, rfl⟩ | ⟨g, cap, cur, rfl, _⟩
        · exact ⟨_, _, rfl⟩
        · exact ⟨_, _, rfl⟩
      subst hl
      generalize x.length = L at *
      go_wp2
      refine wp_region_mid (fun w' => w'.cell? ⟨b1, o1 + k * 2, none⟩ = some (.int .i64 z) ∧ w'.cell? ⟨b1, o1 + k * 2 + 1, none⟩ = some (.slice au L cu)) 11 14 mixed (by kernel_rfl) (fun _ _ _ _ h => h) ⟨hc1, hc2⟩ ?_
      dsimp only [List.take, List.drop]
      iterate 11
        refine take_one (v := ?_) (by rfl) ?_ ?_
        rotate_left
        · rintro w' ⟨s1, s2⟩
          go_simp
          try with_reducible rfl
        try simp only [Act.put, List.setIfInBounds_toArray, List.set_cons_zero, List.set_cons_succ]
      refine mid_one fun K hK => ?_
      refine step_call (by rfl) 31 _ _ (by rfl) #[.slice au L cu] (by simp [Act.eval]) (Try.call31 _ _) KS.out ?_
      rintro e w2 ⟨v2, rfl, o2, b2⟩
      obtain ⟨av, cv2, hv2⟩ := o2.rd.slice
      subst hv2
      have x1 := (b2.cell (p := ⟨b1, o1 + k * 2, none⟩) (cell_lt hc1)).trans hc1
      have x2 := (b2.cell (p := ⟨b1, o1 + k * 2 + 1, none⟩) (cell_lt hc2)).trans hc2
      refine ⟨_, rfl, hK _ _ ⟨x1, x2⟩ ?_⟩
      clear hK K
      try simp only [Act.put, List.setIfInBounds_toArray, List.set_cons_zero, List.set_cons_succ]
      refine mid_one fun K hK => ?_
      rw [if_pos (by rfl)]
      go_simp
      refine hK _ _ ⟨x1, x2⟩ ?_
      clear hK K
      refine mid_one fun K hK => ?_
      rw [if_pos (by rfl)]
      go_simp
      refine hK _ _ ⟨cell_alloc x1 _, cell_alloc x2 _⟩ ?_
      clear hK K
      show wpList _ _ _ _ _ _
      go_wp2_with (at_builtin; refine wpList_append_lies _ rfl _ _ 26 rfl 0 56 j0 _ 2 32 Try.underlying26 ji jz0 jz1 jz2 rfl (by decide) (.slice ll k lc) k cc rfl (ROW.out w2 b2 _) ⟨w2.heap.size, 0, none⟩ 1 1 [.int .i64 z, .slice av x.length cv2] rfl rfl (World.news_of_block (heap_alloc_last w2 _)) (by simp [Value.oneCell']) (by decide) h63 hby (Nat.zero_le _) (w2.heap.size + 1) (by simp) ?_; intro g cap w5 ho5 hg5 hat5 hlt5; have HF := FIN.out w2 _ w5 g cap b2 o2 hg5 ho5 hat5; clear ho5 hg5 hat5 FIN ROW KS o2 b2)
      go_roundw
      case rel => exact ⟨k + 1, by omega, by go_num, HF⟩
      case measure => simp [intOf]; omega
    · have hq : ¬ (k : Int) < (ws.length : Int) := by omega
      obtain rfl : k = ws.length := by omega
      obtain ⟨F, hF, hFB, hb⟩ := hI.out
      rw [List.take_of_length_le (Nat.le_refl _)] at hF
      have OO := hide (And.intro (hF.own hFB) hb)
      clear hF hFB hb hI
      go_wp2
      go_ret
      exact ⟨_, rfl, OO.out.1, OO.out.2⟩

theorem boxes3t (w : World) (x y z : Value) (t t' : TypeId) : ∃ W, W = (w.alloc (.cells #[x, y, z] t)).alloc (.cells #[.slice none 0 0, .int .i64 0, .slice none 0 0] t') ∧ W.heap[w.heap.size]? = some (.cells #[x, y, z] t (0, 0)) ∧ W.heap[w.heap.size + 1]? = some (.cells #[.slice none 0 0, .int .i64 0, .slice none 0 0] t' (0, 0)) ∧ Below w.heap.size w W ∧ W.heap.size = w.heap.size + 1 + 1 := by
  refine ⟨_, rfl, ?_, ?_, ((Below.refl _ _).alloc (Nat.le_refl _) _).alloc (by simp) _, by simp⟩
  · rw [Below.heap_alloc _ _ _ (by simp)]; exact heap_alloc_last w _
  · have := heap_alloc_last (w.alloc (.cells #[x, y, z] t)) (.cells #[.slice none 0 0, .int .i64 0, .slice none 0 0] t'); simpa using this
theorem ownLg_join {T B C : Nat} {w1 w2 : World} {a b : Value} {n : Int} {s : List Wrt} {wt : List (List UInt8)} (h1 : Own (Shp.list T SWr) B w1 [a] s) (h2 : Own SSec C w2 [b] wt) (hC : w1.heap.size ≤ C) (hb : Below w1.heap.size w1 w2) (hB : B ≤ C) : ∃ F, OwnF (SLg T) F w2 [a, .int .i64 n, b] (s, n, wt) ∧ ∀ x, x ∈ F → B ≤ x := by
  obtain ⟨F1, p1, q1⟩ := h1.foot
  obtain ⟨F2, p2, q2⟩ := h2.foot
  refine ⟨F1 ++ ([] ++ F2), OwnF.join (c := [a]) (d := [.int .i64 n, b]) (p1.to hb) (OwnF.join (c := [.int .i64 n]) (d := [b]) (s := Shp.int .i64) ⟨⟨rfl, rfl⟩, List.nodup_nil⟩ p2 (fun b hb => by cases hb)) (fun x hx hx' => ?_), fun x hx => ?_⟩
  · have := p1.lt x hx
    have := q2 x (by simpa using hx')
    omega
  · rcases List.mem_append.1 hx with hx | hx
    · exact q1 x hx
    · have := q2 x (by simpa using hx); omega

set_option maxRecDepth 100000 in
set_option maxHeartbeats 2000000 in
theorem wof_any (w : World) (sv wv : Value) (l : Wlg) (h1 : RdC w sv l.1) (h2 : RdSec w wv l.2.2) (hf : wfit l) :
    Calls Try.prog 9 #[.agg #[sv, .int .i64 l.2.1, wv]] w fun e w' => ∃ sv' wv', e = .returned (.agg #[sv', .int .i64 l.2.1, wv']) ∧ Own SLogP w.heap.size w' [sv', .int .i64 l.2.1, wv'] l ∧ Below w.heap.size w w' := by
  obtain ⟨f1, f2, f3, f4⟩ := hf
  obtain ⟨a1, c1, rfl⟩ := h1.slice
  obtain ⟨a2, c2, rfl⟩ := h2.slice
  obtain ⟨W, hW, hA, hZ, bW, sW⟩ := boxes3t w (.slice a1 l.1.length c1) (.int .i64 l.2.1) (.slice a2 l.2.2.length c2) 25 28
  obtain ⟨⟨A0, A1, A2⟩, _⟩ := cells3 hA
  have b0 : Below W.heap.size W W.drew := (Below.refl _ _).drew
  have KS := hide (segs_any W.drew _ l.1 (h1.to0 (bW.trans (b0.mono bW.size))) f1 f2)
  have KL := hide (fun w1 (b1 : Below W.heap.size W w1) => copyLists_any w1 _ l.2.2 (h2.to0 (bW.trans (b1.mono bW.size))) f3 f4)
  have HS : Hid (∀ w9, Below W.heap.size W w9 → w9.cell? ⟨w.heap.size, 0, none⟩ = some (.slice a1 l.1.length c1) ∧ w9.cell? ⟨w.heap.size, 1, none⟩ = some (.int .i64 l.2.1) ∧ w9.cell? ⟨w.heap.size, 2, none⟩ = some (.slice a2 l.2.2.length c2)) := fun w9 b9 =>
    ⟨(b9.cell (p := ⟨w.heap.size, 0, none⟩) (cell_lt A0)).trans A0, (b9.cell (p := ⟨w.heap.size, 1, none⟩) (cell_lt A1)).trans A1, (b9.cell (p := ⟨w.heap.size, 2, none⟩) (cell_lt A2)).trans A2⟩
  have HZ := hide hZ
  have BW := hide bW
  clear A0 A1 A2 hA hZ bW h1 h2 f1 f2 f3 f4
  go_enter Try.func9, Try.ntmps9
  go_wp2
  rw [← hW]
  replace hW := hide hW
  refine wp_region_sched (fun w9 => w9.cell? ⟨w.heap.size, 0, none⟩ = some (.slice a1 l.1.length c1) ∧ w9.cell? ⟨w.heap.size, 1, none⟩ = some (.int .i64 l.2.1) ∧ w9.cell? ⟨w.heap.size, 2, none⟩ = some (.slice a2 l.2.2.length c2)) [(0, true), (1, true), (3, true), (4, true), (5, true), (6, true), (2, false), (7, false)] 8 mixed (by kernel_rfl) (fun _ _ _ _ h => h) ?_
  iterate 6
    refine sched_take (v := ?_) rfl (by kernel_rfl) (HS.out _ b0) ?_ ?_
    rotate_left
    · rintro w9 ⟨q0, q1, q2⟩
      go_simp
      try with_reducible rfl
    try simp only [Act.put, List.setIfInBounds_toArray, List.set_cons_zero, List.set_cons_succ]
  refine sched_run rfl (by kernel_rfl) fun K hK => ?_
  refine wp_call_of 25 _ _ (by rfl) #[.slice a1 l.1.length c1] (by simp [Act.eval]) (Try.call25 _ _) KS.out ?_
  rintro e w1 ⟨v1, rfl, o1, b1⟩
  have d1 : Below W.heap.size W w1 := b0.trans (b1.mono b0.size)
  refine ⟨_, rfl, hK _ _ (HS.out _ d1) ?_⟩
  clear hK K
  try simp only [Act.put, List.setIfInBounds_toArray, List.set_cons_zero, List.set_cons_succ]
  refine sched_run rfl (by kernel_rfl) fun K hK => ?_
  refine wp_call_of 10 _ _ (by rfl) #[.slice a2 l.2.2.length c2] (by simp [Act.eval]) (Try.call10 _ _) (KL.out w1 d1) ?_
  rintro e w2 ⟨v2, rfl, o2, b2⟩
  have d2 : Below W.heap.size W w2 := d1.trans (b2.mono d1.size)
  refine ⟨_, rfl, hK _ _ (HS.out _ d2) ?_⟩
  clear hK K
  try simp only [Act.put, List.setIfInBounds_toArray, List.set_cons_zero, List.set_cons_succ]
  obtain ⟨F, hF, hFB⟩ := ownLg_join (n := l.2.1) o1 o2 (Nat.le_refl _) b2 b1.size
  have hWs : W.heap.size ≤ W.drew.heap.size := b0.size
  have hgF : w.heap.size + 1 ∉ F := fun h => by have := hFB _ h; omega
  have OO := hide (((hF.set (a := ⟨w.heap.size + 1, 0, none⟩) hgF v1).set (a := ⟨w.heap.size + 1, 1, none⟩) hgF (.int .i64 l.2.1)).set (a := ⟨w.heap.size + 1, 2, none⟩) hgF v2)
  have FB : Hid (∀ b, b ∈ F → w.heap.size ≤ b) := fun b hb => by have := hFB b hb; omega
  obtain ⟨ta, tc, rfl⟩ : ∃ ta tc, v1 = .slice ta l.1.length tc := (OwnF.waits hF).2.slice
  obtain ⟨tb, td, rfl⟩ : ∃ tb td, v2 = .slice tb l.2.2.length td := (OwnF.waits hF).1.slice
  have Z2 := hide ((d2.block _ (lt_of_block HZ.out)).trans HZ.out)
  obtain ⟨⟨z0, z1, z2⟩, zf⟩ := cells3 Z2.out
  have y0 := zf 0
  have y1 := zf 1
  have y2 := zf 2
  have CC := hide (BW.out.trans (d2.mono BW.out.size))
  clear o1 o2 b1 b2 d1 d2 hF hFB KS KL HS zf
  show wpList _ _ _ _ _ _
  dsimp only [List.drop]
  go_wp2
  refine retN rfl rfl (w.heap.size + 1) rfl _ _ (0, 0) (heap_set3 (u := w2) Z2.out _ _ _) _ Try.underlying28 rfl info_lgP ?_
  exact ⟨_, _, rfl, OO.out.own FB.out, below_set3 CC.out (show w.heap.size ≤ w.heap.size + 1 by omega) _ _ _⟩

end Go.Proofs.Ytibkanmboglcgaa
