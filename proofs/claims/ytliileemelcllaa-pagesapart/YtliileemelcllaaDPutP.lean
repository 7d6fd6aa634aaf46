/-
  The program's Put of disks.
-/
import Derived.Test.YtliileemelcllaaDPutR
import Derived.Test.YtliileemelcllaaDCheckP
namespace Go.Proofs.Ytliileemelcllaa
open Go.RowKit
set_option linter.unusedVariables false

/-- a state's values, written out -/
theorem own_form' {T : Nat} {F : List Nat} {w : World} {sv cv : Value} {d : Dsk} (h : OwnF (SSec.pair (Shp.list T SWr)) F w [sv, cv] d) : ∃ al cl ac cc, sv = .slice al d.1.length cl ∧ cv = .slice ac d.2.length cc := by
  obtain ⟨F1, F2, _, p1, p2, _⟩ := OwnF.split (c := [sv]) (d := [cv]) h rfl
  obtain ⟨v1, e1, r1⟩ := p1.rd
  obtain ⟨v2, e2, r2⟩ := p2.rd
  simp at e1 e2; subst e1 e2
  obtain ⟨al, cl, rfl⟩ := r1.slice
  obtain ⟨ac, cc', rfl⟩ := r2.slice
  exact ⟨al, cl, ac, cc', rfl, rfl⟩
theorem padW_id {d : Dsk} (h : DOk d) : d.1.map pad = d.1 ∧ d.2.map padW = d.2 := by
  refine ⟨?_, ?_⟩
  · conv => rhs; rw [← List.map_id d.1]
    exact List.map_congr_left fun x hx => pad_id (h.2.2.2.1 x hx)
  · conv => rhs; rw [← List.map_id d.2]
    exact List.map_congr_left fun y hy => by unfold padW; rw [pad_id (h.2.2.2.2 y hy).2]; rfl

set_option maxRecDepth 100000 in
set_option maxHeartbeats 2000000 in
theorem dput_any (w : World) (sv cv v : Value) (d : Dsk) (z : Int) (x : List UInt8) (h1 : RdSec w sv d.1) (h2 : RdC w cv d.2) (hx : Rd w v x) :
    Calls Try.prog 43 #[.agg #[sv, cv], .int .i64 z, v] w fun e w' => ∃ sv' cv', e = .returned (.tuple #[.agg #[sv', cv'], .int .i64 (dput d z x).2]) ∧ Own SStP w.heap.size w' [sv', cv'] (dput d z x).1 ∧ Below w.heap.size w w' := by
  obtain ⟨j0, ji, jz0, jz1, jz2⟩ := info_parts infoW
  obtain ⟨a1, c1, rfl⟩ := h1.slice
  obtain ⟨a2, c2, rfl⟩ := h2.slice
  obtain ⟨a3, c3, rfl⟩ := hx.slice
  obtain ⟨W, hW, hA, hZ, bW, sW⟩ := boxes w (.slice a1 d.1.length c1) (.slice a2 d.2.length c2) 43
  replace h1 := h1.to0 bW
  replace h2 := h2.to0 bW
  obtain ⟨A0, A1, _, _⟩ := row2_cells hA
  go_enter Try.func43, Try.ntmps43
  go_wp2_with fail
  rw [← hW]
  replace hW := hide hW
  refine (dsector_any _ _ _ d z h1 h2).mono ?_
  rintro e w1 ⟨rfl, b1⟩
  have c1w := bW.trans (b1.mono bW.size)
  have Z1 := (b1.block (w.heap.size + 1) (by omega)).trans hZ
  obtain ⟨y0, y1, y2, y3⟩ := row2_cells Z1
  by_cases hs0 : dsect d z = 0
  · obtain ⟨hok, hh⟩ := dsect_zero.1 hs0
    rw [hs0]
    have A0' := (b1.cell (cell_lt A0)).trans A0
    have A1' := (b1.cell (cell_lt A1)).trans A1
    by_cases hl : 64 < x.length
    · have hq : (64 : Int) < (x.length : Int) := by omega
      have hR : Hid (dput d z x = (([], []), 5)) := by show _ = _; unfold dput; rw [if_neg (by simp [hs0]), if_pos hl]
      clear hs0
      go_wp2
      refine ret_cellT rfl rfl (w.heap.size + 1) rfl _ _ _ _ (heap_set2 Z1 _ _) _ Try.underlying43 rfl info_stP _ rfl ?_
      rw [hR.out]
      exact ⟨_, _, rfl, own_none _ _ _, below_set2 c1w (show w.heap.size ≤ w.heap.size + 1 by omega) _ _⟩
    have hq : ¬ (64 : Int) < (x.length : Int) := by omega
    by_cases hc : 4096 ≤ d.2.length
    · have hq2 : (4096 : Int) ≤ (d.2.length : Int) := by omega
      have hR : Hid (dput d z x = (([], []), 51)) := by show _ = _; unfold dput; rw [if_neg (by simp [hs0]), if_neg hl, if_pos hc]
      clear hs0
      go_wp2
      refine ret_cellT rfl rfl (w.heap.size + 1) rfl _ _ _ _ (heap_set2 Z1 _ _) _ Try.underlying43 rfl info_stP _ rfl ?_
      rw [hR.out]
      exact ⟨_, _, rfl, own_none _ _ _, below_set2 c1w (show w.heap.size ≤ w.heap.size + 1 by omega) _ _⟩
    have hq2 : (d.2.length : Int) < 4096 := by omega
    have hR : Hid (dput d z x = ((d.1, d.2 ++ [(z, pad x)]), 0)) := by show _ = _; unfold dput; rw [if_neg (by simp [hs0]), if_neg hl, if_neg hc]
    have HLL := hide (And.intro hl hc)
    have g1 := h1.to0 b1
    have g2 := h2.to0 b1
    have hlen1 := hok.2.1
    obtain ⟨pd1, pd2⟩ := padW_id hok
    have PD := hide (And.intro pd1 pd2)
    clear hs0 hl hc pd1 pd2
    go_wp2_with fail
    refine (renewed_any _ _ _ d g1 g2 (by omega) (by have := hq2; omega)).mono ?_
    rintro e w3 ⟨sv', cv', rfl, o3, b3⟩
    rw [PD.out.1, PD.out.2] at o3
    have c3w := c1w.trans (b3.mono c1w.size)
    have b13 := b1.trans (b3.mono b1.size)
    obtain ⟨F, hF, hFB⟩ := o3.foot
    obtain ⟨al, cl, ac, cc', rfl, rfl⟩ : ∃ al cl ac cc', sv' = .slice al d.1.length cl ∧ cv' = .slice ac d.2.length cc' := by
      obtain ⟨F1, F2, _, p1, p2, _⟩ := OwnF.split (c := [sv']) (d := [cv']) hF rfl
      obtain ⟨v1, e1, r1⟩ := p1.rd
      obtain ⟨v2, e2, r2⟩ := p2.rd
      simp at e1 e2; subst e1 e2
      obtain ⟨al, cl, rfl⟩ := r1.slice
      obtain ⟨ac, cc', rfl⟩ := r2.slice
      exact ⟨al, cl, ac, cc', rfl, rfl⟩
    obtain ⟨X, hX, X0, X1, bX, sX⟩ := boxed2 w3 (.slice al d.1.length cl) (.slice ac d.2.length cc') 43
    have hT : X.heap[w3.heap.size]? = some (.cells #[.slice al d.1.length cl, .slice ac d.2.length cc'] 43 (0, 0)) := by rw [hX]; exact heap_alloc_last w3 _
    obtain ⟨gb, hgb⟩ : ∃ gb, gb = w3.heap.size := ⟨_, rfl⟩
    rw [← hgb] at hT X0 X1
    have hgF : gb ∉ F := fun hm => by have := hF.lt gb hm; omega
    have Z3 := ((b13.trans (bX.mono b13.size)).block (w.heap.size + 1) (by omega)).trans hZ
    have hs3 : w.heap.size + 1 + 1 ≤ gb := by have := b13.size; omega
    have hs2 : w.heap.size + 1 + 1 ≤ w1.heap.size := by have := b1.size; omega
    have cX := c3w.trans (bX.mono c3w.size)
    have hxX := hx.to cX
    obtain ⟨cc, rowT, fin⟩ := OwnF.litSnd (c0 := [.slice al d.1.length cl]) (hF.to bX) rfl (n := d.2.length) rfl
    have FIN : Hid (∀ (w5 w6 : World) (u : Value) (g cap : Nat), Below X.heap.size X.drew w5 → OwnB X.heap.size w5 u (pad x) → (w5.alloc (.cells #[.int .i64 z, u] 79)).grownBy w6 (Value.slice ac d.2.length cc').ownBlock →
        w6.ownsRow 0 79 2 (.slice (some ⟨g, 0, none⟩) (d.2.length + 1) cap) (d.2.length + 1) (cc ++ [.int .i64 z, u]) → ((Value.slice ac d.2.length cc').ownBlock = some g ∨ g = w5.heap.size + 1) →
        w6.heap[gb]? = some (.cells #[.slice al d.1.length cl, .slice ac d.2.length cc'] 43 (0, 0)) ∧ w6.heap[w.heap.size + 1]? = some (.cells #[.slice none 0 0, .slice none 0 0] 43 (0, 0)) ∧ Hid (∃ F', OwnF SStP F' w6 [.slice al d.1.length cl, .slice (some ⟨g, 0, none⟩) (d.2.length + 1) cap] (d.1, d.2 ++ [(z, pad x)]) ∧ (∀ b, b ∈ F' → w.heap.size + 1 + 1 ≤ b) ∧ gb ∉ F') ∧ Hid (Below w.heap.size w w6)) := fun w5 w6 u g cap k1 k2 k3 k4 k5 => by
      obtain ⟨⟨F', q1, q2⟩, q3, q4⟩ := fin w5 [.int .i64 z, u] (z, pad x) 79 _ w6 g cap ((Below.refl _ _).drew.trans k1) (own_wrt k2) rfl rfl rfl rfl k3 k4 k5
      refine ⟨(q4 _ (by omega) hgF).trans hT, (q4 _ (by omega) fun hm => by have := hFB _ hm; omega).trans Z3, ⟨F', q1, fun b hb => (q2 b hb).elim (fun h => by have := hFB b h; omega) (fun h => by omega), fun hm => (q2 _ hm).elim hgF (fun h => by omega)⟩, ?_⟩
      exact cX.trans (q3 w.heap.size (fun b hb => by have := hFB b hb; omega) (by omega))
    have ROW : Hid (∀ u, Below X.heap.size X.drew u → ∀ o : Obj, (u.alloc o).ownsRow 0 79 2 (.slice ac d.2.length cc') d.2.length cc) := fun u hu o => rowT _ (((Below.refl _ _).drew.trans hu).alloc hu.size o)
    have KS := hide (sectorOf_any X.drew _ x (hxX.to (Below.refl _ _).drew))
    have h63 : d.2.length + 1 ≤ maxLen := by rw [show maxLen = 9223372036854775807 from rfl]; have := hq2; omega
    have hby : (d.2.length + 1) * 32 ≤ 140737488355328 := by have := hq2; omega
    clear fin rowT hF hFB o3 b3 c3w hT Z3 cX bX A0' A1' g1 g2 b13 c1w b1 h1 h2 hA hZ bW A0 A1 hok hh hgF hx hxX y0 y1 y2 y3 Z1
    obtain ⟨PX, hPX⟩ : ∃ PX, PX = pad x := ⟨_, rfl⟩
    have hPL : PX.length = 64 := by rw [hPX]; exact pad_len _
    rw [← hPX] at FIN KS hR
    replace hPX := hide hPX
    replace hPL := hide hPL
    generalize x.length = L at *
    go_wp2
    rw [← hX, ← hgb]
    replace hX := hide hX
    replace hgb := hide hgb
    refine wp_region_mid (fun w' => w'.cell? ⟨gb, 1, none⟩ = some (.slice ac d.2.length cc')) 4 7 mixed (by kernel_rfl) (fun _ _ _ _ h => h) X1 ?_
    dsimp only [List.take, List.drop]
    iterate 4
      refine take_one (v := ?_) (by rfl) ?_ ?_
      rotate_left
      · intro w' s1
        go_simp
        try with_reducible rfl
      try simp only [Act.put, List.setIfInBounds_toArray, List.set_cons_zero, List.set_cons_succ]
    refine mid_one fun K hK => ?_
    refine step_call (by rfl) 62 _ _ (by rfl) #[.slice a3 L c3] (by simp [Act.eval]) (Try.call62 _ _) KS.out ?_
    rintro e w5 ⟨v5, rfl, o5, b5⟩
    obtain ⟨av, cv5, hv5⟩ := o5.rd.slice
    rw [hPL.out] at hv5
    subst hv5
    have x1 := (b5.cell (p := ⟨gb, 1, none⟩) (cell_lt X1)).trans X1
    refine ⟨_, rfl, hK _ _ x1 ?_⟩
    clear hK K
    try simp only [Act.put, List.setIfInBounds_toArray, List.set_cons_zero, List.set_cons_succ]
    refine mid_one fun K hK => ?_
    rw [if_pos (by rfl)]
    go_simp
    refine hK _ _ x1 ?_
    clear hK K
    refine mid_one fun K hK => ?_
    rw [if_pos (by rfl)]
    go_simp
    refine hK _ _ (cell_alloc x1 _) ?_
    clear hK K
    show wpList _ _ _ _ _ _
    go_wp2_with (at_builtin; refine wpList_append_lies _ rfl _ _ 41 rfl 0 79 j0 _ 2 32 Try.underlying41 ji jz0 jz1 jz2 rfl (by decide) (.slice ac d.2.length cc') d.2.length cc rfl (ROW.out w5 b5 _) ⟨w5.heap.size, 0, none⟩ 1 1 [.int .i64 z, .slice av 64 cv5] rfl rfl (World.news_of_block (heap_alloc_last w5 _)) (by simp [Value.oneCell']) (by decide) h63 hby (Nat.zero_le _) (w5.heap.size + 1) (by simp) ?_; intro g cap w6 ho6 hg6 hat6 hlt6; obtain ⟨T6, Z6, HO, HB6⟩ := FIN.out w5 w6 _ g cap b5 o5 hg6 ho6 hat6; obtain ⟨t0, t1, t2, t3⟩ := row2_cells T6; have T7 := set_row1 T6 (.slice (some ⟨g, 0, none⟩) (d.2.length + 1) cap); obtain ⟨e0, e1, e2, e3⟩ := row2_cells T7; have Z7 := (Below.heap_setCell w6 ⟨gb, 1, none⟩ (.slice (some ⟨g, 0, none⟩) (d.2.length + 1) cap) (w.heap.size + 1) (by show w.heap.size + 1 ≠ gb; omega)).trans Z6; obtain ⟨i0', i1, i2, i3⟩ := row2_cells Z7; have ZZ := hide Z7; clear T6 Z6 T7 Z7 ho6 hg6 hat6 FIN ROW o5 b5 KS)
    refine ret_cellT rfl rfl (w.heap.size + 1) rfl _ _ _ _ (heap_set2 ZZ.out _ _) _ Try.underlying43 rfl info_stP _ rfl ?_
    rw [hR.out]
    obtain ⟨F', q1, q2, q3⟩ := HO.out
    have nB1 : w.heap.size + 1 ∉ F' := fun hm => by have := q2 _ hm; omega
    exact ⟨_, _, rfl, (((q1.set (a := ⟨gb, 1, none⟩) q3 _).set (a := ⟨w.heap.size + 1, 0, none⟩) nB1 _).set (a := ⟨w.heap.size + 1, 1, none⟩) nB1 _).own (fun b hb => by have := q2 b hb; omega), below_set2 (HB6.out.setCell (p := ⟨gb, 1, none⟩) (by show w.heap.size ≤ gb; omega) _) (show w.heap.size ≤ w.heap.size + 1 by omega) _ _⟩
  · have hne : (dsect d z != 0) = true := by simpa using hs0
    have hR : Hid (dput d z x = (([], []), dsect d z)) := by show _ = _; unfold dput; rw [if_pos hs0]
    generalize hD : dsect d z = D at *
    clear hD hs0
    go_wp2
    refine ret_cellT rfl rfl (w.heap.size + 1) rfl _ _ _ _ (heap_set2 Z1 _ _) _ Try.underlying43 rfl info_stP _ rfl ?_
    rw [hR.out]
    exact ⟨_, _, rfl, own_none _ _ _, below_set2 c1w (show w.heap.size ≤ w.heap.size + 1 by omega) _ _⟩

end Go.Proofs.Ytliileemelcllaa
