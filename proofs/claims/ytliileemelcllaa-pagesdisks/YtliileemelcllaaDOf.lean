/-
  The law's Of: the page's state for the program, in memory of its own.
-/
import Derived.Test.YtliileemelcllaaDOwnR
namespace Go.Proofs.Ytliileemelcllaa
open Go.RowKit
set_option linter.unusedVariables false

set_option maxRecDepth 100000 in
set_option maxHeartbeats 2000000 in
theorem of_any (w : World) (sv cv : Value) (d : Dsk) (h1 : RdSec w sv d.1) (h2 : RdC w cv d.2) (hf : dfit d) :
    Calls Try.prog 17 #[.agg #[sv, cv]] w fun e w' => ∃ sv' cv', e = .returned (.agg #[sv', cv']) ∧ Own SStP w.heap.size w' [sv', cv'] d ∧ Below w.heap.size w w' := by
  obtain ⟨j0, ji, jz0, jz1, jz2⟩ := info_parts infoW
  obtain ⟨f1, f2, f3, f4⟩ := hf
  obtain ⟨a1, c1, rfl⟩ := h1.slice
  obtain ⟨a2, c2, rfl⟩ := h2.slice
  obtain ⟨W, hW⟩ : ∃ W, W = (w.alloc (.cells #[.slice a1 d.1.length c1, .slice a2 d.2.length c2] 40)).alloc (.cells #[.slice none 0 0, .slice none 0 0] 43) := ⟨_, rfl⟩
  have bW : Below w.heap.size w W := by rw [hW]; exact ((Below.refl _ _).alloc (Nat.le_refl _) _).alloc (by simp) _
  have sW : W.heap.size = w.heap.size + 1 + 1 := by rw [hW]; simp
  have hA : W.heap[w.heap.size]? = some (.cells #[.slice a1 d.1.length c1, .slice a2 d.2.length c2] 40 (0, 0)) := by
    rw [hW, Below.heap_alloc _ _ _ (by simp)]; exact heap_alloc_last w _
  have hZ : W.heap[w.heap.size + 1]? = some (.cells #[.slice none 0 0, .slice none 0 0] 43 (0, 0)) := by
    rw [hW]; have := heap_alloc_last (w.alloc (.cells #[.slice a1 d.1.length c1, .slice a2 d.2.length c2] 40)) (.cells #[.slice none 0 0, .slice none 0 0] 43); simpa using this
  have q1 := h1.to0 bW
  obtain ⟨A0, _, _, _⟩ := row2_cells hA
  have HA := hide hA
  have HZ := hide hZ
  have BW := hide bW
  clear hA hZ bW
  go_enter Try.func17, Try.ntmps17
  go_wp2_with fail
  rw [← hW]
  replace hW := hide hW
  refine (copyLists_any _ _ d.1 q1 f1 f2).mono ?_
  rintro e w1 ⟨v1, rfl, o1, b1⟩
  obtain ⟨al, cl, rfl⟩ := o1.rdS.slice
  obtain ⟨X, hX, X0, X1, bX, sX⟩ := boxed2 w1 (.slice al d.1.length cl) (.slice none 0 0) 43
  have hTX : X.heap[w1.heap.size]? = some (.cells #[.slice al d.1.length cl, .slice none 0 0] 43 (0, 0)) := by rw [hX]; exact heap_alloc_last w1 _
  obtain ⟨gb, hgbe⟩ : ∃ gb, gb = w1.heap.size := ⟨_, rfl⟩
  have hgb : w.heap.size + 1 + 1 ≤ gb := by have := b1.size; omega
  rw [← hgbe] at hTX
  obtain ⟨F1, p1, p2⟩ := o1.foot
  have hnF : gb ∉ F1 := fun hm => by have := p1.lt gb hm; omega
  have nilF : OwnF SCacheP [] X [.slice none 0 0] [] := ⟨⟨_, [], [], rfl, World.ownsRow_nil _ _ _ _, ⟨rfl, rfl⟩, by simp [Value.ownBlock]⟩, List.nodup_nil⟩
  have st1 : BoxSt SStP 43 gb (w.heap.size + 1 + 1) X (.slice al d.1.length cl) (.slice none 0 0) (d.1, []) :=
    ⟨hTX, F1 ++ [], OwnF.join (p1.to bX) nilF (fun b _ h => by cases h), fun b hb => by rw [List.append_nil] at hb; have := p2 b hb; omega, by rw [List.append_nil]; exact hnF⟩
  have ST1 := hide st1
  have HB : Hid (Below (w.heap.size + 1 + 1) W X) := (b1.mono (by omega)).trans (bX.mono (by omega))
  replace hgbe := hide hgbe
  clear st1 nilF p1 p2 hnF o1 b1 hTX X0 X1 bX
  go_wp2
  rw [← hX, ← hgbe.out]
  replace hX := hide hX
  go_loopw [4] (fun i wr => ∃ (k : Nat) (c : Value), k ≤ d.2.length ∧ i = .int .i64 k ∧ BoxSt SStP 43 gb (w.heap.size + 1 + 1) wr (.slice al d.1.length cl) c (d.1, d.2.take k) ∧ Below (w.heap.size + 1 + 1) W wr) (fun i _ => d.2.length - (intOf i).toNat)
  case atStart => exact ⟨0, _, Nat.zero_le _, rfl, ST1.out, HB.out⟩
  case round =>
    obtain ⟨k, c, hk, rfl, ⟨hT, F, hF, hFB, hgF⟩, hb⟩ := hrel
    clear ST1 HB
    have hA := (hb.block w.heap.size (by omega)).trans HA.out
    obtain ⟨A0, A1, _, _⟩ := row2_cells hA
    obtain ⟨T0, T1, _, _⟩ := row2_cells hT
    have hsz : gb < wr.heap.size := lt_of_block hT
    have cw := BW.out.trans (hb.mono (show w.heap.size ≤ w.heap.size + 1 + 1 by omega))
    by_cases hlt : k < d.2.length
    · have hq : (k : Int) < (d.2.length : Int) := by omega
      obtain ⟨y, hyk, hym⟩ := some_at d.2 hlt
      obtain ⟨b1, o1, u, rfl, hc1, hc2, hr⟩ := (h2.to0 cw).wrt hyk
      obtain ⟨_, _, _, e', hcw, _, _⟩ := h2.wrt hyk
      cases e'
      obtain ⟨au, cu, rfl⟩ := hr.slice
      obtain ⟨cc, rowT, fin⟩ := OwnF.litSnd (c0 := [.slice al d.1.length cl]) hF rfl (n := k) (by simp; omega)
      have hsn := snoc_take d.2 hyk
      have hxl := f4 y hym
      obtain ⟨z, x⟩ := y
      dsimp only at hc1 hc2 hr hxl
      have FIN : Hid (∀ (w2 : World) (v2 : Value) (w5 : World) (g cap : Nat), Below wr.heap.size wr.drew w2 → OwnB wr.heap.size w2 v2 x → (w2.alloc (.cells #[.int .i64 z, v2] 79)).grownBy w5 c.ownBlock →
          w5.ownsRow 0 79 2 (.slice (some ⟨g, 0, none⟩) (k + 1) cap) (k + 1) (cc ++ [.int .i64 z, v2]) → (c.ownBlock = some g ∨ g = w2.heap.size + 1) →
          (w5.cell? ⟨gb, 1, none⟩ = some c ∧ w5.frozen? ⟨gb, 1, none⟩ = false ∧ Below (w.heap.size + 1 + 1) wr w5) ∧ Hid (BoxSt SStP 43 gb (w.heap.size + 1 + 1) (w5.setCell ⟨gb, 1, none⟩ (.slice (some ⟨g, 0, none⟩) (k + 1) cap)) (.slice al d.1.length cl) (.slice (some ⟨g, 0, none⟩) (k + 1) cap) (d.1, d.2.take (k + 1)) ∧ Below (w.heap.size + 1 + 1) W (w5.setCell ⟨gb, 1, none⟩ (.slice (some ⟨g, 0, none⟩) (k + 1) cap)))) := fun w2 v2 w5 g cap k1 k2 k3 k4 k5 => by
        obtain ⟨⟨F', q1, q2⟩, q3, q4⟩ := fin w2 [.int .i64 z, v2] (z, x) 79 _ w5 g cap ((Below.refl _ _).drew.trans k1) (own_wrt k2) rfl rfl rfl rfl k3 k4 k5
        rw [hsn] at q1
        have hT5 := (q4 _ hsz hgF).trans hT
        obtain ⟨_, t0, _, t2⟩ := row2_cells hT5
        have hgF' : gb ∉ F' := fun hm => (q2 _ hm).elim hgF (fun h => by omega)
        refine ⟨⟨t0, t2, q3 (w.heap.size + 1 + 1) hFB (by omega)⟩, ⟨set_row1 hT5 _, F', q1.set hgF' _, fun b hb' => (q2 b hb').elim (hFB b) (fun h => by omega), hgF'⟩, ?_⟩
        exact (hb.trans (q3 (w.heap.size + 1 + 1) hFB (by omega))).setCell (p := ⟨gb, 1, none⟩) hgb _
      have ROW : Hid (∀ u, Below wr.heap.size wr.drew u → ∀ o : Obj, (u.alloc o).ownsRow 0 79 2 c k cc) := fun u hu o => rowT _ (((Below.refl _ _).drew.trans hu).alloc hu.size o)
      have KS := hide (copy_any wr.drew _ x (hr.to (Below.refl _ _).drew) (by omega))
      have h63 : k + 1 ≤ maxLen := by rw [show maxLen = 9223372036854775807 from rfl]; omega
      have hby : (k + 1) * 32 ≤ 140737488355328 := by omega
      clear fin rowT hsn hF hFB hr hb hyk hym hT hA cw
      obtain ⟨ll, lc, hl⟩ : ∃ ll lc, c = .slice ll k lc := by
        rcases (ROW.out wr.drew (Below.refl _ _) (.cells #[] 0)).2 with ⟨rfl, rfl⟩ | ⟨g, cap, cur, rfl, _⟩
        · exact ⟨_, _, rfl⟩
        · exact ⟨_, _, rfl⟩
      subst hl
      have hbl : b1 < w.heap.size := cell_lt hcw
      generalize x.length = L at *
      go_wp2
      refine wp_region_mid (fun w' => w'.cell? ⟨w.heap.size, 1, none⟩ = some (.slice (some ⟨b1, o1, none⟩) d.2.length c2) ∧ w'.cell? ⟨b1, o1 + k * 2, none⟩ = some (.int .i64 z) ∧ w'.cell? ⟨b1, o1 + k * 2 + 1, none⟩ = some (.slice au L cu) ∧ w'.cell? ⟨gb, 1, none⟩ = some (.slice ll k lc)) 14 17 mixed (by kernel_rfl) (fun _ _ _ _ h => h) ⟨A1, hc1, hc2, T1⟩ ?_
      dsimp only [List.take, List.drop]
      iterate 14
        refine take_one (v := ?_) (by rfl) ?_ ?_
        rotate_left
        · rintro w' ⟨s1, s2, s3, s4⟩
          go_simp
          try with_reducible rfl
        try simp only [Act.put, List.setIfInBounds_toArray, List.set_cons_zero, List.set_cons_succ]
      refine mid_one fun K hK => ?_
      refine step_call (by rfl) 9 _ _ (by rfl) #[.slice au L cu] (by simp [Act.eval]) (Try.call9 _ _) KS.out ?_
      rintro e w2 ⟨v2, rfl, o2, b2⟩
      obtain ⟨av, cv2, hv2⟩ := o2.rd.slice
      subst hv2
      have x0 := (b2.cell (p := ⟨w.heap.size, 1, none⟩) (cell_lt A1)).trans A1
      have x1 := (b2.cell (p := ⟨b1, o1 + k * 2, none⟩) (cell_lt hc1)).trans hc1
      have x2 := (b2.cell (p := ⟨b1, o1 + k * 2 + 1, none⟩) (cell_lt hc2)).trans hc2
      have x3 := (b2.cell (p := ⟨gb, 1, none⟩) (cell_lt T1)).trans T1
      refine ⟨_, rfl, hK _ _ ⟨x0, x1, x2, x3⟩ ?_⟩
      clear hK K
      try simp only [Act.put, List.setIfInBounds_toArray, List.set_cons_zero, List.set_cons_succ]
      refine mid_one fun K hK => ?_
      rw [if_pos (by rfl)]
      go_simp
      refine hK _ _ ⟨x0, x1, x2, x3⟩ ?_
      clear hK K
      refine mid_one fun K hK => ?_
      rw [if_pos (by rfl)]
      go_simp
      refine hK _ _ ⟨cell_alloc x0 _, cell_alloc x1 _, cell_alloc x2 _, cell_alloc x3 _⟩ ?_
      clear hK K
      show wpList _ _ _ _ _ _
      go_wp2_with (at_builtin; refine wpList_append_lies _ rfl _ _ 41 rfl 0 79 j0 _ 2 32 Try.underlying41 ji jz0 jz1 jz2 rfl (by decide) (.slice ll k lc) k cc rfl (ROW.out w2 b2 _) ⟨w2.heap.size, 0, none⟩ 1 1 [.int .i64 z, .slice av x.length cv2] rfl rfl (World.news_of_block (heap_alloc_last w2 _)) (by simp [Value.oneCell']) (by decide) h63 hby (Nat.zero_le _) (w2.heap.size + 1) (by simp) ?_; intro g cap w5 ho5 hg5 hat5 hlt5; obtain ⟨⟨y5, y6, _⟩, HF⟩ := FIN.out w2 _ w5 g cap b2 o2 hg5 ho5 hat5; clear ho5 hg5 hat5 FIN ROW KS o2 b2)
      go_roundw
      case rel => exact ⟨k + 1, _, by omega, by go_num, HF.out⟩
      case measure => simp [intOf]; omega
    · obtain rfl : k = d.2.length := by omega
      rw [List.take_of_length_le (Nat.le_refl _)] at hF
      have Z2 := (hb.block (w.heap.size + 1) (by omega)).trans HZ.out
      obtain ⟨z0, z1, z2, z3⟩ := row2_cells Z2
      obtain ⟨p2, e2, r2⟩ : ∃ v, [c] = [v] ∧ RdS SWr wr v d.2 := by
        obtain ⟨F1, F2, _, o1, o2, _⟩ := OwnF.split (c := [.slice al d.1.length cl]) (d := [c]) hF rfl
        exact o2.rd
      simp at e2; subst e2
      obtain ⟨ac, cc', rfl⟩ := r2.slice
      have hgF2 : w.heap.size + 1 ∉ F := fun hm => by have := hFB _ hm; omega
      have OO := hide ((hF.set (a := ⟨w.heap.size + 1, 0, none⟩) hgF2 (.slice al d.1.length cl)).set (a := ⟨w.heap.size + 1, 1, none⟩) hgF2 (.slice ac d.2.length cc'))
      have ZZ := hide Z2
      have FB := hide hFB
      have CC := hide cw
      clear hF hFB hgF hT hA hb cw Z2 r2
      go_wp2
      refine ret_cell rfl rfl (w.heap.size + 1) rfl _ _ _ _ (heap_set2 ZZ.out _ _) _ Try.underlying43 rfl info_stP ?_
      exact ⟨_, _, rfl, OO.out.own fun b hb => by have := FB.out b hb; omega, below_set2 CC.out (show w.heap.size ≤ w.heap.size + 1 by omega) _ _⟩

end Go.Proofs.Ytliileemelcllaa
