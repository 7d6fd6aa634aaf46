/-
  The page's Put of disks.
-/
import Derived.Test.YtliileemelcllaaDOwnR
import Derived.Test.YtliileemelcllaaDCheckR
namespace Go.Proofs.Ytliileemelcllaa
open Go.RowKit
set_option linter.unusedVariables false

theorem DOk.fit {d : Dsk} (h : DOk d) : dfit d := by
  obtain ⟨_, h2, h3, h4, h5⟩ := h
  refine ⟨by omega, fun x hx => by rw [h4 x hx]; omega, by omega, fun y hy => by rw [(h5 y hy).2]; omega⟩
theorem own_none (T B : Nat) (w : World) : Own (SSec.pair (Shp.list T SWr)) B w [.slice none 0 0, .slice none 0 0] ([], []) :=
  ⟨[], ⟨[.slice none 0 0], [.slice none 0 0], [], [], rfl, rfl, ⟨_, [], [], rfl, World.ownsRow_nil _ _ _ _, ⟨rfl, rfl⟩, by simp [Value.ownBlock]⟩, ⟨_, [], [], rfl, World.ownsRow_nil _ _ _ _, ⟨rfl, rfl⟩, by simp [Value.ownBlock]⟩⟩, List.nodup_nil, fun b hb => by cases hb⟩
theorem pad_short {y : List UInt8} (h : y.length ≤ 64) : pad y = y ++ List.replicate (64 - y.length) 0 := by
  unfold pad over
  rw [List.length_replicate, List.take_of_length_le h, List.drop_replicate]
theorem pad_take (x : List UInt8) {k : Nat} {c : UInt8} (hx : x[k]? = some c) (hl : x.length ≤ 64) : (pad (x.take k)).set k c = pad (x.take (k + 1)) := by
  have hk : k < x.length := (List.getElem?_eq_some_iff.1 hx).1
  have e1 : (x.take k).length = k := by rw [List.length_take]; omega
  have e2 : (x.take (k + 1)).length = k + 1 := by rw [List.length_take]; omega
  rw [pad_short (by omega), pad_short (by omega), e1, e2, List.take_add_one, hx]
  rw [List.set_append_right _ _ (by omega), e1, Nat.sub_self, show 64 - k = (64 - (k + 1)) + 1 from by omega, List.replicate_succ, List.set_cons_zero]
  simp
theorem pad_nil : pad [] = List.replicate 64 0 := by unfold pad; exact over_nil _

/-- the two boxes that a call on a state begins with -/
theorem boxes (w : World) (x y : Value) (t : TypeId) : ∃ W, W = (w.alloc (.cells #[x, y] t)).alloc (.cells #[.slice none 0 0, .slice none 0 0] t) ∧ W.heap[w.heap.size]? = some (.cells #[x, y] t (0, 0)) ∧ W.heap[w.heap.size + 1]? = some (.cells #[.slice none 0 0, .slice none 0 0] t (0, 0)) ∧ Below w.heap.size w W ∧ W.heap.size = w.heap.size + 1 + 1 := by
  refine ⟨_, rfl, ?_, ?_, ((Below.refl _ _).alloc (Nat.le_refl _) _).alloc (by simp) _, by simp⟩
  · rw [Below.heap_alloc _ _ _ (by simp)]; exact heap_alloc_last w _
  · have := heap_alloc_last (w.alloc (.cells #[x, y] t)) (.cells #[.slice none 0 0, .slice none 0 0] t); simpa using this

set_option maxRecDepth 100000 in
set_option maxHeartbeats 2000000 in
theorem rput_any (w : World) (sv cv v : Value) (d : Dsk) (z : Int) (x : List UInt8) (h1 : RdSec w sv d.1) (h2 : RdC w cv d.2) (hx : Rd w v x) :
    Calls Try.prog 45 #[.agg #[sv, cv], .int .i64 z, v] w fun e w' => ∃ sv' cv', e = .returned (.tuple #[.agg #[sv', cv'], .int .i64 (dput d z x).2]) ∧ Own SStR w.heap.size w' [sv', cv'] (dput d z x).1 ∧ Below w.heap.size w w' := by
  obtain ⟨j0, ji, jz0, jz1, jz2⟩ := info_parts infoWR
  have hmk := make_64
  obtain ⟨a1, c1, rfl⟩ := h1.slice
  obtain ⟨a2, c2, rfl⟩ := h2.slice
  obtain ⟨a3, c3, rfl⟩ := hx.slice
  obtain ⟨W, hW, hA, hZ, bW, sW⟩ := boxes w (.slice a1 d.1.length c1) (.slice a2 d.2.length c2) 40
  replace h1 := h1.to0 bW
  replace h2 := h2.to0 bW
  obtain ⟨A0, A1, _, _⟩ := row2_cells hA
  go_enter Try.func45, Try.ntmps45
  go_wp2_with fail
  rw [← hW]
  replace hW := hide hW
  refine (rcheck_any _ _ _ d h1 h2).mono ?_
  rintro e w1 ⟨rfl, b1⟩
  have c1w := bW.trans (b1.mono bW.size)
  by_cases hok : DOk d
  · rw [dcheck_ok hok]
    have A0' := (b1.cell (cell_lt A0)).trans A0
    have A1' := (b1.cell (cell_lt A1)).trans A1
    have g1 := h1.to0 b1
    have g2 := h2.to0 b1
    go_wp2_with fail
    refine (rhas_any _ _ _ d z g1 g2).mono ?_
    rintro e w2 ⟨rfl, b2⟩
    have b12 := b1.trans (b2.mono b1.size)
    have c2w := c1w.trans (b2.mono c1w.size)
    clear A0' A1' g1 g2
    by_cases hh : dhas d z
    · rw [decide_eq_true hh]
      have hs0 : dsect d z = 0 := dsect_zero.2 ⟨hok, hh⟩
      by_cases hl : 64 < x.length
      · have hq : (64 : Int) < (x.length : Int) := by omega
        have hR : Hid (dput d z x = (([], []), 5)) := by show _ = _; unfold dput; rw [if_neg (by simp [hs0]), if_pos hl]
        have Z2 := (b12.block (w.heap.size + 1) (by omega)).trans hZ
        obtain ⟨y0, y1, y2, y3⟩ := row2_cells Z2
        clear hs0
        go_wp2
        refine ret_cellT rfl rfl (w.heap.size + 1) rfl _ _ _ _ (heap_set2 Z2 _ _) _ Try.underlying40 rfl info_stR _ rfl ?_
        rw [hR.out]
        exact ⟨_, _, rfl, own_none _ _ _, below_set2 c2w (show w.heap.size ≤ w.heap.size + 1 by omega) _ _⟩
      have hq : ¬ (64 : Int) < (x.length : Int) := by omega
      have A1' := (b12.cell (cell_lt A1)).trans A1
      by_cases hc : 4096 ≤ d.2.length
      · have hq2 : (4096 : Int) ≤ (d.2.length : Int) := by omega
        have hR : Hid (dput d z x = (([], []), 51)) := by show _ = _; unfold dput; rw [if_neg (by simp [hs0]), if_neg hl, if_pos hc]
        have Z2 := (b12.block (w.heap.size + 1) (by omega)).trans hZ
        obtain ⟨y0, y1, y2, y3⟩ := row2_cells Z2
        clear hs0
        go_wp2
        refine ret_cellT rfl rfl (w.heap.size + 1) rfl _ _ _ _ (heap_set2 Z2 _ _) _ Try.underlying40 rfl info_stR _ rfl ?_
        rw [hR.out]
        exact ⟨_, _, rfl, own_none _ _ _, below_set2 c2w (show w.heap.size ≤ w.heap.size + 1 by omega) _ _⟩
      have hq2 : (d.2.length : Int) < 4096 := by omega
      have hR : Hid (dput d z x = ((d.1, d.2 ++ [(z, pad x)]), 0)) := by show _ = _; unfold dput; rw [if_neg (by simp [hs0]), if_neg hl, if_neg hc]
      have A0' := (b12.cell (cell_lt A0)).trans A0
      have g1 := h1.to0 b12
      have g2 := h2.to0 b12
      have HLL := hide (And.intro hl hc)
      have HFT := hide (DOk.fit hok)
      clear hs0 hl hc
      go_wp2_with fail
      refine (rown_any _ _ _ d g1 g2 HFT.out).mono ?_
      rintro e w3 ⟨sv', cv', rfl, o3, b3⟩
      have c3w := c2w.trans (b3.mono c2w.size)
      have b13 := b12.trans (b3.mono b12.size)
      obtain ⟨F, hF, hFB⟩ := o3.foot
      obtain ⟨al, cl, ac, cc', rfl, rfl⟩ : ∃ al cl ac cc', sv' = .slice al d.1.length cl ∧ cv' = .slice ac d.2.length cc' := by
        obtain ⟨F1, F2, _, p1, p2, _⟩ := OwnF.split (c := [sv']) (d := [cv']) hF rfl
        obtain ⟨v1, e1, r1⟩ := p1.rd
        obtain ⟨v2, e2, r2⟩ := p2.rd
        simp at e1 e2; subst e1 e2
        obtain ⟨al, cl, rfl⟩ := r1.slice
        obtain ⟨ac, cc', rfl⟩ := r2.slice
        exact ⟨al, cl, ac, cc', rfl, rfl⟩
      obtain ⟨X, hX, X0, X1, bX, sX⟩ := boxed2 w3 (.slice al d.1.length cl) (.slice ac d.2.length cc') 40
      have hT : X.heap[w3.heap.size]? = some (.cells #[.slice al d.1.length cl, .slice ac d.2.length cc'] 40 (0, 0)) := by rw [hX]; exact heap_alloc_last w3 _
      obtain ⟨gb, hgb⟩ : ∃ gb, gb = w3.heap.size := ⟨_, rfl⟩
      rw [← hgb] at hT
      have hgF : gb ∉ F := fun hm => by have := hF.lt gb hm; omega
      have Z3 := ((b13.trans (bX.mono b13.size)).block (w.heap.size + 1) (by omega)).trans hZ
      have hs3 : w.heap.size + 1 + 1 ≤ gb := by have := b13.size; omega
      have hs2 : w.heap.size + 1 + 1 ≤ w2.heap.size := by have := b12.size; omega
      have om := own_made X 64 (by unfold maxLen; omega)
      obtain ⟨Y, hY⟩ : ∃ Y, Y = X.alloc (.cells (madeCells #[.int .u8 0] 64) 5) := ⟨_, rfl⟩
      rw [← hY, sX, ← hgb, ← pad_nil] at om
      have bY : Below X.heap.size X Y := by rw [hY]; exact (Below.refl _ _).alloc (Nat.le_refl _) _
      have cX := c3w.trans (bX.mono c3w.size)
      obtain ⟨cc, rowT, fin⟩ := OwnF.litSnd (c0 := [.slice al d.1.length cl]) (hF.to bX) rfl (n := d.2.length) rfl
      have FIN : Hid (∀ (w5 w6 : World) (u : Value) (g cap : Nat), Below X.heap.size X w5 → OwnB X.heap.size w5 u (pad x) → (w5.alloc (.cells #[.int .i64 z, u] 78)).grownBy w6 (Value.slice ac d.2.length cc').ownBlock →
          w6.ownsRow 0 78 2 (.slice (some ⟨g, 0, none⟩) (d.2.length + 1) cap) (d.2.length + 1) (cc ++ [.int .i64 z, u]) → ((Value.slice ac d.2.length cc').ownBlock = some g ∨ g = w5.heap.size + 1) →
          w6.heap[gb]? = some (.cells #[.slice al d.1.length cl, .slice ac d.2.length cc'] 40 (0, 0)) ∧ w6.heap[w.heap.size + 1]? = some (.cells #[.slice none 0 0, .slice none 0 0] 40 (0, 0)) ∧ Hid (∃ F', OwnF SStR F' w6 [.slice al d.1.length cl, .slice (some ⟨g, 0, none⟩) (d.2.length + 1) cap] (d.1, d.2 ++ [(z, pad x)]) ∧ (∀ b, b ∈ F' → w.heap.size + 1 + 1 ≤ b) ∧ gb ∉ F') ∧ Hid (Below w.heap.size w w6)) := fun w5 w6 u g cap k1 k2 k3 k4 k5 => by
        obtain ⟨⟨F', q1, q2⟩, q3, q4⟩ := fin w5 [.int .i64 z, u] (z, pad x) 78 _ w6 g cap k1 (own_wrt k2) rfl rfl rfl rfl k3 k4 k5
        refine ⟨(q4 _ (by omega) hgF).trans hT, (q4 _ (by omega) fun hm => by have := hFB _ hm; omega).trans Z3, ⟨F', q1, fun b hb => (q2 b hb).elim (fun h => by have := hFB b h; omega) (fun h => by omega), fun hm => (q2 _ hm).elim hgF (fun h => by omega)⟩, ?_⟩
        exact cX.trans (q3 w.heap.size (fun b hb => by have := hFB b hb; omega) (by omega))
      have ROW := hide rowT
      have h63 : d.2.length + 1 ≤ maxLen := by rw [show maxLen = 9223372036854775807 from rfl]; have := hq2; omega
      have hby : (d.2.length + 1) * 32 ≤ 140737488355328 := by have := hq2; omega
      have OM := hide om
      have BY := hide bY
      have CX := hide cX
      have hgb' := hide hgb
      have TX := hide hT
      clear fin rowT hF hFB o3 b3 c3w hT Z3 om bY cX X0 X1 bX A0' A1' g1 g2 b13 b12 c2w c1w b1 b2 h1 h2 hA hZ bW A0 A1 hok hh hgF
      go_wp2
      rw [← hX, ← hY, ← hgb]
      clear hgb
      replace hX := hide hX
      replace hY := hide hY
      go_loopw [10] (fun i wr => ∃ k : Nat, k ≤ x.length ∧ i = .int .i64 k ∧ OwnB (gb + 1) wr (.slice (some ⟨gb + 1, 0, none⟩) 64 64) (pad (x.take k)) ∧ Below X.heap.size X wr) (fun i _ => x.length - (intOf i).toNat)
      case atStart => exact ⟨0, Nat.zero_le _, rfl, OM.out, BY.out⟩
      case round =>
        obtain ⟨k, hk, rfl, ho, hb⟩ := hrel
        clear OM BY
        by_cases hlt : k < x.length
        · have hqk : (k : Int) < (x.length : Int) := by omega
          have hqk2 : (k : Int) < 64 := by have := HLL.out.1; omega
          have cw := CX.out.trans (hb.mono CX.out.size)
          obtain ⟨b, hbx⟩ : ∃ b, x[k]? = some b := ⟨_, List.getElem?_eq_getElem hlt⟩
          have hpt := pad_take x hbx (by have := HLL.out.1; omega)
          have hcell : ∃ bb oo, a3 = some ⟨bb, oo, none⟩ ∧ wr.cell? ⟨bb, oo + k, none⟩ = some (enc b) := by
            obtain ⟨_, _, ee, _, _, _, r⟩ := hx.to cw
            cases ee
            rcases r with r | ⟨bb, oo, rfl, r⟩
            · rw [r] at hlt; simp at hlt
            · refine ⟨bb, oo, rfl, ?_⟩
              rw [r k hlt]
              simp [enc, bt, List.getD_eq_getElem?_getD, hbx]
          obtain ⟨bb, oo, rfl, hc⟩ := hcell
          have ho' := ho
          unfold OwnB at ho'
          rw [pad_len] at ho'
          have fz := ho'.frozenAt k
          have cl' : ∃ u, wr.cell? ⟨gb + 1, k, none⟩ = some u := by
            rw [ho'.cellAt k (by omega)]
            exact ⟨_, List.getElem?_eq_getElem (by rw [List.length_map, pad_len]; omega)⟩
          obtain ⟨u0, cl0⟩ := cl'
          have hst := (ho'.stored k (enc b)).1
          rw [← List.map_set, hpt] at hst
          have HS : Hid (OwnB (gb + 1) (wr.setCell ⟨gb + 1, k, none⟩ (enc b)) (.slice (some ⟨gb + 1, 0, none⟩) 64 64) (pad (x.take (k + 1)))) := by
            show OwnB _ _ _ _
            unfold OwnB
            rw [pad_len]
            exact hst
          have HB := hide (hb.setCell (p := ⟨gb + 1, k, none⟩) (by show X.heap.size ≤ gb + 1; have := hgb'.out; omega) (enc b))
          clear ho ho' hst hb cw hpt hbx hx
          unfold enc at hc HS HB
          generalize b.toNat = bn at *
          go_wp2
          go_roundw
          case rel => exact ⟨k + 1, by omega, by go_num, HS.out, HB.out⟩
          case measure => simp [intOf]; omega
        · obtain rfl : k = x.length := by omega
          rw [List.take_of_length_le (Nat.le_refl _)] at ho
          have hsX : X.heap.size = gb + 1 := by have := hgb'.out; omega
          have t5 := (hb.block gb (by omega)).trans TX.out
          obtain ⟨y0, y1, _, _⟩ := row2_cells t5
          rw [← hsX] at ho
          have O5 := hide ho
          have B5 := hide hb
          clear ho hb t5 hx
          go_wp2_with (at_builtin; refine wpList_append_lies _ rfl _ _ 38 rfl 0 78 j0 _ 2 32 Try.underlying38 ji jz0 jz1 jz2 rfl (by decide) (.slice ac d.2.length cc') d.2.length cc rfl (ROW.out _ (B5.out.alloc B5.out.size _)) ⟨wr.heap.size, 0, none⟩ 1 1 [.int .i64 z, .slice (some ⟨gb + 1, 0, none⟩) 64 64] rfl rfl (World.news_of_block (heap_alloc_last wr _)) (by simp [Value.oneCell']) (by decide) h63 hby (Nat.zero_le _) (wr.heap.size + 1) (by simp) ?_; intro g cap w6 ho6 hg6 hat6 hlt6; obtain ⟨T6, Z6, HO, HB6⟩ := FIN.out wr w6 _ g cap B5.out (by rw [← hsX]; exact O5.out) hg6 ho6 hat6; obtain ⟨t0, t1, t2, t3⟩ := row2_cells T6; have T7 := set_row1 T6 (.slice (some ⟨g, 0, none⟩) (d.2.length + 1) cap); obtain ⟨e0, e1, e2, e3⟩ := row2_cells T7; have Z7 := (Below.heap_setCell w6 ⟨gb, 1, none⟩ (.slice (some ⟨g, 0, none⟩) (d.2.length + 1) cap) (w.heap.size + 1) (by show w.heap.size + 1 ≠ gb; omega)).trans Z6; obtain ⟨i0', i1, i2, i3⟩ := row2_cells Z7; have ZZ := hide Z7; clear T6 Z6 T7 Z7 ho6 hg6 hat6 FIN ROW O5 B5)
          refine ret_cellT rfl rfl (w.heap.size + 1) rfl _ _ _ _ (heap_set2 ZZ.out _ _) _ Try.underlying40 rfl info_stR _ rfl ?_
          rw [hR.out]
          obtain ⟨F', q1, q2, q3⟩ := HO.out
          have nB1 : w.heap.size + 1 ∉ F' := fun hm => by have := q2 _ hm; omega
          exact ⟨_, _, rfl, (((q1.set (a := ⟨gb, 1, none⟩) q3 _).set (a := ⟨w.heap.size + 1, 0, none⟩) nB1 _).set (a := ⟨w.heap.size + 1, 1, none⟩) nB1 _).own (fun b hb => by have := q2 b hb; omega), below_set2 (HB6.out.setCell (p := ⟨gb, 1, none⟩) (by show w.heap.size ≤ gb; omega) _) (show w.heap.size ≤ w.heap.size + 1 by omega) _ _⟩
    · rw [decide_eq_false hh]
      have hs0 : dsect d z = 41 := by unfold dsect; rw [if_pos hok, if_neg hh]
      have hR : Hid (dput d z x = (([], []), 41)) := by show _ = _; unfold dput; rw [if_pos (by simp [hs0]), hs0]
      have Z2 := (b12.block (w.heap.size + 1) (by omega)).trans hZ
      obtain ⟨y0, y1, y2, y3⟩ := row2_cells Z2
      clear hs0
      go_wp2
      refine ret_cellT rfl rfl (w.heap.size + 1) rfl _ _ _ _ (heap_set2 Z2 _ _) _ Try.underlying40 rfl info_stR _ rfl ?_
      rw [hR.out]
      exact ⟨_, _, rfl, own_none _ _ _, below_set2 c2w (show w.heap.size ≤ w.heap.size + 1 by omega) _ _⟩
  · rw [dcheck_no hok]
    have hs0 : dsect d z = 9 := by unfold dsect; rw [if_neg hok]
    have hR : Hid (dput d z x = (([], []), 9)) := by show _ = _; unfold dput; rw [if_pos (by simp [hs0]), hs0]
    have Z2 := (b1.block (w.heap.size + 1) (by omega)).trans hZ
    obtain ⟨y0, y1, y2, y3⟩ := row2_cells Z2
    clear hs0
    go_wp2
    refine ret_cellT rfl rfl (w.heap.size + 1) rfl _ _ _ _ (heap_set2 Z2 _ _) _ Try.underlying40 rfl info_stR _ rfl ?_
    rw [hR.out]
    exact ⟨_, _, rfl, own_none _ _ _, below_set2 c1w (show w.heap.size ≤ w.heap.size + 1 by omega) _ _⟩

end Go.Proofs.Ytliileemelcllaa
