/-
  Rot of disks, the page's and the program's.
-/
import Derived.Test.YtliileemelcllaaDGetR
import Derived.Test.YtliileemelcllaaDPutP
namespace Go.Proofs.Ytliileemelcllaa
open Go.RowKit
set_option linter.unusedVariables false

/-- one octet of one sector of a state, where it lies -/
theorem OwnF.poke {T : Nat} {F : List Nat} {w : World} {sv cv : Value} {d : Dsk} (h : OwnF (SSec.pair (Shp.list T SWr)) F w [sv, cv] d) {k : Nat} {x : List UInt8} (hx : d.1[k]? = some x) {j : Nat} (hj : j < x.length) :
    ∃ g cap gu capu, sv = .slice (some ⟨g, 0, none⟩) d.1.length cap ∧ d.1.length ≤ cap ∧ w.cell? ⟨g, k, none⟩ = some (.slice (some ⟨gu, 0, none⟩) x.length capu) ∧ x.length ≤ capu ∧ w.cell? ⟨gu, j, none⟩ = some (.int .u8 (bt x j)) ∧ w.frozen? ⟨gu, j, none⟩ = false ∧ gu ∈ F ∧
      ∀ b : UInt8, OwnF (SSec.pair (Shp.list T SWr)) F (w.setCell ⟨gu, j, none⟩ (.int .u8 (b.toNat : Int))) [sv, cv] (d.1.set k (x.set j b), d.2) := by
  obtain ⟨F1, F2, rfl, p1, p2, hd⟩ := OwnF.split (c := [sv]) (d := [cv]) h rfl
  obtain ⟨g, cap, u, hv, hcap, hc, ho, hgF, huF, fin⟩ := p1.sector hx
  obtain ⟨gu, capu, rfl, _, hgl⟩ := World.ownsRow.form ho (by omega)
  have hcu : x.length ≤ capu := by
    rcases ho.2 with ⟨e, _⟩ | ⟨g', cap', cur, e, _, _, hn, _⟩
    · cases e
    · cases e; exact hn
  have hgu := (huF gu rfl).1
  refine ⟨g, cap, gu, capu, hv, hcap, hc, hcu, ?_, World.ownsRow.frozenAt ho j, by simp [hgu], fun b => ?_⟩
  · rw [World.ownsRow.cellAt ho j (by omega)]
    simp [enc, bt, hj]
  · refine OwnF.join (fin _ _ ?_ fun q hq hne => ?_) (p2.keep fun q hq => ?_) hd
    · have := (World.ownsRow.stored ho j (enc b)).1
      unfold OwnB
      rw [List.length_set, List.map_set]
      exact this
    · exact Below.heap_setCell _ _ _ _ (fun e => hne (by rw [e]; rfl))
    · exact Below.heap_setCell _ _ _ _ (fun e => by have e' : q = gu := e; exact hd gu hgu (by rw [← e']; exact hq))
theorem xor8 (a b : UInt8) : bits .xor .u8 (a.toNat : Int) (b.toNat : Int) = ((a ^^^ b).toNat : Int) := by
  rw [u8_xor_nat _ _ (UInt8.toNat_lt _) (UInt8.toNat_lt _), UInt8.toNat_xor]
/-- a state in a box, its values written out -/
theorem own_form {T : Nat} {F : List Nat} {w : World} {sv cv : Value} {d : Dsk} (h : OwnF (SSec.pair (Shp.list T SWr)) F w [sv, cv] d) : ∃ al cl ac cc, sv = .slice al d.1.length cl ∧ cv = .slice ac d.2.length cc := by
  obtain ⟨F1, F2, _, p1, p2, _⟩ := OwnF.split (c := [sv]) (d := [cv]) h rfl
  obtain ⟨v1, e1, r1⟩ := p1.rd
  obtain ⟨v2, e2, r2⟩ := p2.rd
  simp at e1 e2; subst e1 e2
  obtain ⟨al, cl, rfl⟩ := r1.slice
  obtain ⟨ac, cc', rfl⟩ := r2.slice
  exact ⟨al, cl, ac, cc', rfl, rfl⟩

set_option maxRecDepth 100000 in
set_option maxHeartbeats 2000000 in
theorem drot_any (w : World) (sv cv : Value) (d : Dsk) (z at' : Int) (b : UInt8) (h1 : RdSec w sv d.1) (h2 : RdC w cv d.2) :
    Calls Try.prog 29 #[.agg #[sv, cv], .int .i64 z, .int .i64 at', .int .u8 (b.toNat : Int)] w fun e w' => ∃ sv' cv', e = .returned (.tuple #[.agg #[sv', cv'], .int .i64 (drot d z at' b).2]) ∧ Own SStP w.heap.size w' [sv', cv'] (drot d z at' b).1 ∧ Below w.heap.size w w' := by
  obtain ⟨a1, c1, rfl⟩ := h1.slice
  obtain ⟨a2, c2, rfl⟩ := h2.slice
  obtain ⟨W, hW, hA, hZ, bW, sW⟩ := boxes w (.slice a1 d.1.length c1) (.slice a2 d.2.length c2) 43
  replace h1 := h1.to0 bW
  replace h2 := h2.to0 bW
  obtain ⟨A0, A1, _, _⟩ := row2_cells hA
  go_enter Try.func29, Try.ntmps29
  go_wp2_with fail
  rw [← hW]
  replace hW := hide hW
  refine (dsector_any _ _ _ d z h1 h2).mono ?_
  rintro e w1 ⟨rfl, b1⟩
  have c1w := bW.trans (b1.mono bW.size)
  have Z1 := (b1.block (w.heap.size + 1) (by omega)).trans hZ
  obtain ⟨y0, y1, y2, y3⟩ := row2_cells Z1
  by_cases hs0 : dsect d z = 0
  · obtain ⟨hok, hh⟩ := dsect_zero.1 hs0
    rw [hs0]
    have A0' := (b1.cell (cell_lt A0)).trans A0
    have A1' := (b1.cell (cell_lt A1)).trans A1
    by_cases hl : at' < 0
    · have hR : Hid (drot d z at' b = (([], []), 4)) := by show _ = _; unfold drot; rw [if_neg (by simp [hs0]), if_pos (.inl hl)]
      clear hs0
      go_wp2
      refine ret_cellT rfl rfl (w.heap.size + 1) rfl _ _ _ _ (heap_set2 Z1 _ _) _ Try.underlying43 rfl info_stP _ rfl ?_
      rw [hR.out]
      exact ⟨_, _, rfl, own_none _ _ _, below_set2 c1w (show w.heap.size ≤ w.heap.size + 1 by omega) _ _⟩
    by_cases hg : 64 ≤ at'
    · have hR : Hid (drot d z at' b = (([], []), 4)) := by show _ = _; unfold drot; rw [if_neg (by simp [hs0]), if_pos (.inr hg)]
      clear hs0
      go_wp2
      refine ret_cellT rfl rfl (w.heap.size + 1) rfl _ _ _ _ (heap_set2 Z1 _ _) _ Try.underlying43 rfl info_stP _ rfl ?_
      rw [hR.out]
      exact ⟨_, _, rfl, own_none _ _ _, below_set2 c1w (show w.heap.size ≤ w.heap.size + 1 by omega) _ _⟩
    obtain ⟨j, rfl⟩ : ∃ j : Nat, at' = (j : Int) := ⟨at'.toNat, by omega⟩
    obtain ⟨kz, x, rfl, hkl, hkx⟩ := dhas_nat hh
    have hx64 : x.length = 64 := hok.2.2.2.1 x (List.mem_of_getElem? hkx)
    have hR : Hid (drot d kz j b = ((d.1.set kz (x.set j (x.getD j 0 ^^^ b)), d.2), 0)) := by
      show _ = _; unfold drot; rw [if_neg (by simp [hs0]), if_neg (by omega)]
      rw [show ((kz : Int)).toNat = kz from by omega, show ((j : Int)).toNat = j from by omega, getD_some hkx]
    have g1 := h1.to0 b1
    have g2 := h2.to0 b1
    have hlen1 := hok.2.1
    have hlen2 := hok.2.2.1
    obtain ⟨pd1, pd2⟩ := padW_id hok
    have PD := hide (And.intro pd1 pd2)
    have hj64 : j < x.length := by omega
    have hq1 : (kz : Int) < (d.1.length : Int) := by omega
    have hq3 : (j : Int) < 64 := by omega
    clear hs0 pd1 pd2
    go_wp2_with fail
    refine (renewed_any _ _ _ d g1 g2 (by omega) (by omega)).mono ?_
    rintro e w3 ⟨sv', cv', rfl, o3, b3⟩
    rw [PD.out.1, PD.out.2] at o3
    have c3w := c1w.trans (b3.mono c1w.size)
    have b13 := b1.trans (b3.mono b1.size)
    obtain ⟨F, hF, hFB⟩ := o3.foot
    obtain ⟨al, cl, ac, cc', rfl, rfl⟩ := own_form hF
    obtain ⟨X, hX, X0, X1, bX, sX⟩ := boxed2 w3 (.slice al d.1.length cl) (.slice ac d.2.length cc') 43
    have hT : X.heap[w3.heap.size]? = some (.cells #[.slice al d.1.length cl, .slice ac d.2.length cc'] 43 (0, 0)) := by rw [hX]; exact heap_alloc_last w3 _
    obtain ⟨gb, hgb⟩ : ∃ gb, gb = w3.heap.size := ⟨_, rfl⟩
    rw [← hgb] at hT X0 X1
    have hgF : gb ∉ F := fun hm => by have := hF.lt gb hm; omega
    have Z3 := ((b13.trans (bX.mono b13.size)).block (w.heap.size + 1) (by omega)).trans hZ
    have hs3 : w.heap.size + 1 + 1 ≤ gb := by have := b13.size; omega
    have hs2 : w.heap.size + 1 + 1 ≤ w1.heap.size := by have := b1.size; omega
    have cX := c3w.trans (bX.mono c3w.size)
    obtain ⟨g, cap, gu, capu, ev, hcap, hcg, hcapu, hcu, hfz, hguF, fin⟩ := (hF.to bX).poke hkx hj64
    cases ev
    rw [hx64] at hcg hcapu
    have hgb1 : gu ≠ gb := fun e => hgF (by rw [← e]; exact hguF)
    have hguB := hFB gu hguF
    have hbx : bt x j = ((x.getD j 0).toNat : Int) := rfl
    have hxo := xor8 (x.getD j 0) b
    rw [← hbx] at hxo
    have FINO := hide (fin (x.getD j 0 ^^^ b))
    obtain ⟨nb, hnb⟩ : ∃ nb, nb = ((x.getD j 0 ^^^ b).toNat : Int) := ⟨_, rfl⟩
    rw [← hnb] at hxo FINO
    have nbd : 0 ≤ nb ∧ nb ≤ 255 := by rw [hnb]; have := (x.getD j 0 ^^^ b).toNat_lt; omega
    have T7 : (X.setCell ⟨gu, j, none⟩ (.int .u8 nb)).heap[gb]? = some (.cells #[.slice (some ⟨g, 0, none⟩) d.1.length cl, .slice ac d.2.length cc'] 43 (0, 0)) := (Below.heap_setCell _ _ _ _ (Ne.symm hgb1)).trans hT
    have Z7 : (X.setCell ⟨gu, j, none⟩ (.int .u8 nb)).heap[w.heap.size + 1]? = some (.cells #[.slice none 0 0, .slice none 0 0] 43 (0, 0)) := (Below.heap_setCell _ _ _ _ (by show w.heap.size + 1 ≠ gu; omega)).trans Z3
    obtain ⟨e0, e1, e2, e3⟩ := row2_cells T7
    obtain ⟨i0', i1, i2, i3⟩ := row2_cells Z7
    have ZZ := hide Z7
    have CX := hide (cX.setCell (p := ⟨gu, j, none⟩) (by show w.heap.size ≤ gu; omega) (.int .u8 nb))
    have HFB := hide hFB
    replace hnb := hide hnb
    have hbd := bt_bd x j
    have hb2 : (0 : Int) ≤ (b.toNat : Int) ∧ (b.toNat : Int) ≤ 255 := by have := b.toNat_lt; omega
    clear fin hF hFB o3 b3 c3w hT Z3 cX bX A0' A1' g1 g2 b13 c1w b1 h1 h2 hA hZ bW A0 A1 hok hh hgF y0 y1 y2 y3 Z1 Z7 T7 hbx hx64 hkx hgb1
    generalize bt x j = xb at *
    generalize (b.toNat : Int) = bn at *
    subst hX hgb
    go_wp2
    refine ret_cellT rfl rfl (w.heap.size + 1) rfl _ _ _ _ (heap_set2 ZZ.out _ _) _ Try.underlying43 rfl info_stP _ rfl ?_
    rw [hR.out]
    have nB1 : w.heap.size + 1 ∉ F := fun hm => by have := HFB.out _ hm; omega
    exact ⟨_, _, rfl, ((FINO.out.set (a := ⟨w.heap.size + 1, 0, none⟩) nB1 _).set (a := ⟨w.heap.size + 1, 1, none⟩) nB1 _).own (fun b hb => by have := HFB.out b hb; omega), below_set2 CX.out (show w.heap.size ≤ w.heap.size + 1 by omega) _ _⟩
  · have hne : (dsect d z != 0) = true := by simpa using hs0
    have hR : Hid (drot d z at' b = (([], []), dsect d z)) := by show _ = _; unfold drot; rw [if_pos hs0]
    generalize hD : dsect d z = D at *
    clear hD hs0
    go_wp2
    refine ret_cellT rfl rfl (w.heap.size + 1) rfl _ _ _ _ (heap_set2 Z1 _ _) _ Try.underlying43 rfl info_stP _ rfl ?_
    rw [hR.out]
    exact ⟨_, _, rfl, own_none _ _ _, below_set2 c1w (show w.heap.size ≤ w.heap.size + 1 by omega) _ _⟩


end Go.Proofs.Ytliileemelcllaa
