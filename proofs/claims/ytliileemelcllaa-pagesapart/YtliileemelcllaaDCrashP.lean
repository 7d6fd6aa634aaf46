/-
  The program's Flush, Crash and New of disks.
-/
import Derived.Shelf.Abstract
import Derived.Test.YtliileemelcllaaDLand
namespace Go.Proofs.Ytliileemelcllaa
open Go.RowKit
set_option linter.unusedVariables false

set_option maxRecDepth 100000 in
theorem flush1_any (W : World) (i : Nat) : Calls Try.prog 52 (#[.int .i64 (i : Int)] ++ #[]) W fun e w' => e = .returned (.int .i64 ((64 : Nat) : Int)) ∧ W = w' := by
  go_enter Try.func52, Try.ntmps52
  go_wp2
  go_ret
  exact ⟨rfl, rfl⟩

set_option maxRecDepth 100000 in
set_option maxHeartbeats 1000000 in
theorem dflush_any (w : World) (sv cv : Value) (d : Dsk) (h1 : RdSec w sv d.1) (h2 : RdC w cv d.2) :
    Calls Try.prog 24 #[.agg #[sv, cv]] w fun e w' => ∃ sv' cv', e = .returned (.tuple #[.agg #[sv', cv'], .int .i64 (dflush d).2]) ∧ Own SStP w.heap.size w' [sv', cv'] (dflush d).1 ∧ Below w.heap.size w w' := by
  obtain ⟨a1, c1, rfl⟩ := h1.slice
  obtain ⟨a2, c2, rfl⟩ := h2.slice
  obtain ⟨W, hW, hA, hZ, bW, sW⟩ := boxes w (.slice a1 d.1.length c1) (.slice a2 d.2.length c2) 43
  replace h1 := h1.to0 bW
  replace h2 := h2.to0 bW
  obtain ⟨A0, A1, _, _⟩ := row2_cells hA
  go_enter Try.func24, Try.ntmps24
  go_wp2_with fail
  rw [← hW]
  replace hW := hide hW
  refine (dcheck_any _ _ _ d h1 h2).mono ?_
  rintro e w1 ⟨rfl, b1⟩
  have c1w := bW.trans (b1.mono bW.size)
  have Z1 := (b1.block (w.heap.size + 1) (by omega)).trans hZ
  by_cases hok : DOk d
  · rw [dcheck_ok hok]
    have hR : Hid (dflush d = ((lands (fun _ => 64) d.1 d.2 d.2.length, []), 0)) := if_pos hok
    have A0' := (b1.cell (cell_lt A0)).trans A0
    have A1' := (b1.cell (cell_lt A1)).trans A1
    have KL := hide (landed_any w1 _ _ d 52 #[] (fun _ => 64) (h1.to0 b1) (h2.to0 b1) hok (fun _ => Nat.le_refl _) (enters_of Try.func52 (by kernel_rfl) rfl) (fun W i _ => flush1_any W i))
    have hs1 : w.heap.size + 1 + 1 ≤ w1.heap.size := by have := b1.size; omega
    clear h1 h2 A0 A1 hA hok b1 bW
    go_wp2_with fail
    refine KL.out.mono ?_
    rintro e w2 ⟨sv', rfl, o2, b2⟩
    have Z2 := (b2.block (w.heap.size + 1) (by omega)).trans Z1
    obtain ⟨y0, y1, y2, y3⟩ := row2_cells Z2
    have c2w := c1w.trans (b2.mono c1w.size)
    obtain ⟨F, hF, hFB⟩ := o2.foot
    obtain ⟨al, cl, ac, cc', rfl, ecv⟩ := own_form' hF
    have OO := hide ((o2.set (a := ⟨w.heap.size + 1, 0, none⟩) (by show w.heap.size + 1 < _; omega) (.slice al (lands (fun _ => 64) d.1 d.2 d.2.length).length cl)).set (a := ⟨w.heap.size + 1, 1, none⟩) (by show w.heap.size + 1 < _; omega) (.slice none 0 0))
    rw [lands_len] at OO
    have ZZ := hide Z2
    have CC := hide c2w
    clear hF hFB o2 Z2 c2w b2 ecv Z1 c1w hZ KL
    rw [lands_len]
    go_wp2
    refine ret_cellT rfl rfl (w.heap.size + 1) rfl _ _ _ _ (heap_set2 ZZ.out _ _) _ Try.underlying43 rfl info_stP _ rfl ?_
    rw [hR.out]
    exact ⟨_, _, rfl, OO.out.mono (by omega), below_set2 CC.out (show w.heap.size ≤ w.heap.size + 1 by omega) _ _⟩
  · rw [dcheck_no hok]
    have hR : Hid (dflush d = (([], []), 9)) := if_neg hok
    obtain ⟨y0, y1, y2, y3⟩ := row2_cells Z1
    go_wp2
    refine ret_cellT rfl rfl (w.heap.size + 1) rfl _ _ _ _ (heap_set2 Z1 _ _) _ Try.underlying43 rfl info_stP _ rfl ?_
    rw [hR.out]
    exact ⟨_, _, rfl, own_none _ _ _, below_set2 c1w (show w.heap.size ≤ w.heap.size + 1 by omega) _ _⟩

abbrev RdK (w : World) (v : Value) (keep : List Bool) : Prop := RdS Shp.bool w v keep
theorem RdS.bl {w : World} {a : Option Addr} {n cap : Nat} {ks : List Bool} (h : RdK w (.slice a n cap) ks) {i : Nat} {x : Bool} (hx : ks[i]? = some x) :
    ∃ b off, a = some ⟨b, off, none⟩ ∧ w.cell? ⟨b, off + i, none⟩ = some (.bool x) := by
  obtain ⟨b, off, u, e, hc, e2⟩ := RdS.at1 rfl h hx
  have : [u] = [Value.bool x] := e2
  simp at this; subst this
  exact ⟨b, off, e, hc⟩

set_option maxRecDepth 100000 in
set_option maxHeartbeats 1000000 in
theorem crash1_any (W : World) (p : Nat) (kv : Value) (keep : List Bool) (torn cut : Int) (i : Nat) (hk : RdK W kv keep) (c1 : W.cell? ⟨p, 0, none⟩ = some kv) (c2 : W.cell? ⟨p + 1, 0, none⟩ = some (.int .i64 torn)) (c3 : W.cell? ⟨p + 1 + 1, 0, none⟩ = some (.int .i64 cut)) :
    Calls Try.prog 53 (#[.int .i64 (i : Int)] ++ #[.pointer (some ⟨p, 0, none⟩), .pointer (some ⟨p + 1, 0, none⟩), .pointer (some ⟨p + 1 + 1, 0, none⟩)]) W fun e w' => e = .returned (.int .i64 (crashF keep torn cut i : Nat)) ∧ W = w' := by
  obtain ⟨a, c, rfl⟩ := hk.slice
  by_cases hl : keep.length ≤ i
  · have hq : (keep.length : Int) ≤ (i : Int) := by omega
    have hR : Hid (crashF keep torn cut i = 0) := by show _ = _; unfold crashF; rw [List.getElem?_eq_none hl]; rfl
    go_enter Try.func53, Try.ntmps53
    go_wp2
    go_ret
    rw [hR.out]
    exact ⟨rfl, rfl⟩
  have hq : (i : Int) < (keep.length : Int) := by omega
  have hq' : ¬ (keep.length : Int) ≤ (i : Int) := by omega
  obtain ⟨x, hx, _⟩ := some_at keep (k := i) (by omega)
  obtain ⟨b, off, rfl, hc⟩ := hk.bl hx
  clear hl
  cases x with
  | false =>
    have hR : Hid (crashF keep torn cut i = 0) := by show _ = _; unfold crashF; rw [hx]; rfl
    clear hx hk
    go_enter Try.func53, Try.ntmps53
    go_wp2
    go_ret
    rw [hR.out]
    exact ⟨rfl, rfl⟩
  | true =>
    by_cases ht : (i : Int) = torn
    · have hR : Hid (((crashF keep torn cut i : Nat) : Int) = min (max cut 0) 64) := by
        show _ = _; unfold crashF clamp; rw [hx, if_pos rfl, if_pos ht]; omega
      have hbe : ((i : Int) == torn) = true := by simp [ht]
      clear hx hk ht
      go_enter Try.func53, Try.ntmps53
      go_wp2
      all_goals
        go_ret
        refine ⟨ret_int ?_, rfl⟩
        rw [hR.out]
        omega
    · have hR : Hid (crashF keep torn cut i = 64) := by show _ = _; unfold crashF; rw [hx, if_pos rfl, if_neg ht]
      have hbe : ((i : Int) == torn) = false := by simpa using ht
      clear hx hk ht
      go_enter Try.func53, Try.ntmps53
      go_wp2
      go_ret
      rw [hR.out]
      exact ⟨rfl, rfl⟩

set_option maxRecDepth 100000 in
set_option maxHeartbeats 1000000 in
theorem dcrash_any (w : World) (sv cv kv : Value) (d : Dsk) (keep : List Bool) (torn cut : Int) (h1 : RdSec w sv d.1) (h2 : RdC w cv d.2) (hk : RdK w kv keep) :
    Calls Try.prog 25 #[.agg #[sv, cv], kv, .int .i64 torn, .int .i64 cut] w fun e w' => ∃ sv' cv', e = .returned (.tuple #[.agg #[sv', cv'], .int .i64 (dcrash d keep torn cut).2]) ∧ Own SStP w.heap.size w' [sv', cv'] (dcrash d keep torn cut).1 ∧ Below w.heap.size w w' := by
  obtain ⟨a1, c1, rfl⟩ := h1.slice
  obtain ⟨a2, c2, rfl⟩ := h2.slice
  obtain ⟨a3, c3, rfl⟩ := hk.slice
  obtain ⟨W, hW⟩ : ∃ W, W = ((((w.alloc (.cells #[.slice a1 d.1.length c1, .slice a2 d.2.length c2] 43)).alloc (.cells #[.slice a3 keep.length c3] 55)).alloc (.cells #[.int .i64 torn] 3)).alloc (.cells #[.int .i64 cut] 3)).alloc (.cells #[.slice none 0 0, .slice none 0 0] 43) := ⟨_, rfl⟩
  have sW : W.heap.size = w.heap.size + 1 + 1 + 1 + 1 + 1 := by rw [hW]; simp
  have bW : Below w.heap.size w W := by rw [hW]; exact (((((Below.refl _ _).alloc (Nat.le_refl _) _).alloc (by simp) _).alloc (by simp <;> omega) _).alloc (by simp <;> omega) _).alloc (by simp <;> omega) _
  have hA : W.heap[w.heap.size]? = some (.cells #[.slice a1 d.1.length c1, .slice a2 d.2.length c2] 43 (0, 0)) := by
    rw [hW, Below.heap_alloc _ _ _ (by simp <;> omega), Below.heap_alloc _ _ _ (by simp <;> omega), Below.heap_alloc _ _ _ (by simp <;> omega), Below.heap_alloc _ _ _ (by simp)]; exact heap_alloc_last w _
  have hB : W.heap[w.heap.size + 1]? = some (.cells #[.slice a3 keep.length c3] 55 (0, 0)) := by
    rw [hW, Below.heap_alloc _ _ _ (by simp <;> omega), Below.heap_alloc _ _ _ (by simp <;> omega), Below.heap_alloc _ _ _ (by simp)]
    have := heap_alloc_last (w.alloc (.cells #[.slice a1 d.1.length c1, .slice a2 d.2.length c2] 43)) (.cells #[.slice a3 keep.length c3] 55); simpa using this
  have hC : W.heap[w.heap.size + 1 + 1]? = some (.cells #[.int .i64 torn] 3 (0, 0)) := by
    rw [hW, Below.heap_alloc _ _ _ (by simp <;> omega), Below.heap_alloc _ _ _ (by simp)]
    have := heap_alloc_last ((w.alloc (.cells #[.slice a1 d.1.length c1, .slice a2 d.2.length c2] 43)).alloc (.cells #[.slice a3 keep.length c3] 55)) (.cells #[.int .i64 torn] 3); simpa using this
  have hD : W.heap[w.heap.size + 1 + 1 + 1]? = some (.cells #[.int .i64 cut] 3 (0, 0)) := by
    rw [hW, Below.heap_alloc _ _ _ (by simp)]
    have := heap_alloc_last (((w.alloc (.cells #[.slice a1 d.1.length c1, .slice a2 d.2.length c2] 43)).alloc (.cells #[.slice a3 keep.length c3] 55)).alloc (.cells #[.int .i64 torn] 3)) (.cells #[.int .i64 cut] 3); simpa using this
  have hZ : W.heap[w.heap.size + 1 + 1 + 1 + 1]? = some (.cells #[.slice none 0 0, .slice none 0 0] 43 (0, 0)) := by
    rw [hW]
    have := heap_alloc_last ((((w.alloc (.cells #[.slice a1 d.1.length c1, .slice a2 d.2.length c2] 43)).alloc (.cells #[.slice a3 keep.length c3] 55)).alloc (.cells #[.int .i64 torn] 3)).alloc (.cells #[.int .i64 cut] 3)) (.cells #[.slice none 0 0, .slice none 0 0] 43); simpa using this
  replace h1 := h1.to0 bW
  replace h2 := h2.to0 bW
  replace hk := hk.to0 bW
  obtain ⟨A0, A1, _, _⟩ := row2_cells hA
  have HX := hide (And.intro hB (And.intro hC hD))
  clear hB hC hD
  go_enter Try.func25, Try.ntmps25
  go_wp2_with fail
  rw [← hW]
  replace hW := hide hW
  refine (dcheck_any _ _ _ d h1 h2).mono ?_
  rintro e w1 ⟨rfl, b1⟩
  have c1w := bW.trans (b1.mono bW.size)
  have Z1 := (b1.block (w.heap.size + 1 + 1 + 1 + 1) (by omega)).trans hZ
  by_cases hok : DOk d
  · rw [dcheck_ok hok]
    have hR : Hid (dcrash d keep torn cut = ((lands (crashF keep torn cut) d.1 d.2 d.2.length, []), 0)) := if_pos hok
    have A0' := (b1.cell (cell_lt A0)).trans A0
    have A1' := (b1.cell (cell_lt A1)).trans A1
    have hs1 : w.heap.size + 1 + 1 + 1 + 1 + 1 ≤ w1.heap.size := by have := b1.size; omega
    have k1 := hk.to0 b1
    have e1 := (b1.block (w.heap.size + 1) (by omega)).trans HX.out.1
    have e2 := (b1.block (w.heap.size + 1 + 1) (by omega)).trans HX.out.2.1
    have e3 := (b1.block (w.heap.size + 1 + 1 + 1) (by omega)).trans HX.out.2.2
    have KL := hide (landed_any w1 _ _ d 53 #[.pointer (some ⟨w.heap.size + 1, 0, none⟩), .pointer (some ⟨w.heap.size + 1 + 1, 0, none⟩), .pointer (some ⟨w.heap.size + 1 + 1 + 1, 0, none⟩)] (crashF keep torn cut) (h1.to0 b1) (h2.to0 b1) hok (crashF_le keep torn cut) (enters_of Try.func53 (by kernel_rfl) rfl)
      (fun V i hV => crash1_any V (w.heap.size + 1) _ keep torn cut i (k1.to0 hV) (by rw [cell_of_row _ _ 0 _ _ (0, 0) ((hV.block _ (by omega)).trans e1)]; rfl) (by rw [cell_of_row _ _ 0 _ _ (0, 0) ((hV.block _ (by omega)).trans e2)]; rfl) (by rw [cell_of_row _ _ 0 _ _ (0, 0) ((hV.block _ (by omega)).trans e3)]; rfl)))
    clear h1 h2 A0 A1 hA hok b1 bW hk k1 e1 e2 e3 HX
    go_wp2_with fail
    refine KL.out.mono ?_
    rintro e w2 ⟨sv', rfl, o2, b2⟩
    have Z2 := (b2.block (w.heap.size + 1 + 1 + 1 + 1) (by omega)).trans Z1
    obtain ⟨y0, y1, y2, y3⟩ := row2_cells Z2
    have c2w := c1w.trans (b2.mono c1w.size)
    obtain ⟨F, hF, hFB⟩ := o2.foot
    obtain ⟨al, cl, ac, cc', rfl, ecv⟩ := own_form' hF
    have OO := hide ((o2.set (a := ⟨w.heap.size + 1 + 1 + 1 + 1, 0, none⟩) (by show w.heap.size + 1 + 1 + 1 + 1 < _; omega) (.slice al (lands (crashF keep torn cut) d.1 d.2 d.2.length).length cl)).set (a := ⟨w.heap.size + 1 + 1 + 1 + 1, 1, none⟩) (by show w.heap.size + 1 + 1 + 1 + 1 < _; omega) (.slice none 0 0))
    rw [lands_len] at OO
    have ZZ := hide Z2
    have CC := hide c2w
    clear hF hFB o2 Z2 c2w b2 ecv Z1 c1w hZ KL
    rw [lands_len]
    go_wp2
    refine ret_cellT rfl rfl (w.heap.size + 1 + 1 + 1 + 1) rfl _ _ _ _ (heap_set2 ZZ.out _ _) _ Try.underlying43 rfl info_stP _ rfl ?_
    rw [hR.out]
    exact ⟨_, _, rfl, OO.out.mono (by omega), below_set2 CC.out (show w.heap.size ≤ w.heap.size + 1 + 1 + 1 + 1 by omega) _ _⟩
  · rw [dcheck_no hok]
    have hR : Hid (dcrash d keep torn cut = (([], []), 9)) := if_neg hok
    obtain ⟨y0, y1, y2, y3⟩ := row2_cells Z1
    go_wp2
    refine ret_cellT rfl rfl (w.heap.size + 1 + 1 + 1 + 1) rfl _ _ _ _ (heap_set2 Z1 _ _) _ Try.underlying43 rfl info_stP _ rfl ?_
    rw [hR.out]
    exact ⟨_, _, rfl, own_none _ _ _, below_set2 c1w (show w.heap.size ≤ w.heap.size + 1 + 1 + 1 + 1 by omega) _ _⟩

theorem map_pad_nil (n : Nat) : (List.replicate n ([] : List UInt8)).map pad = List.replicate n (List.replicate 64 0) := by
  rw [List.map_replicate, pad_nil]

set_option maxRecDepth 100000 in
set_option maxHeartbeats 1000000 in
theorem dnew_any (w : World) (n : Int) :
    Calls Try.prog 23 #[.int .i64 n] w fun e w' => ∃ sv' cv', e = .returned (.tuple #[.agg #[sv', cv'], .int .i64 (dnew n).2]) ∧ Own SStP w.heap.size w' [sv', cv'] (dnew n).1 ∧ Below w.heap.size w w' := by
  obtain ⟨W, hW⟩ : ∃ W, W = w.alloc (.cells #[.slice none 0 0, .slice none 0 0] 43) := ⟨_, rfl⟩
  have hZ : W.heap[w.heap.size]? = some (.cells #[.slice none 0 0, .slice none 0 0] 43 (0, 0)) := by rw [hW]; exact heap_alloc_last w _
  have bW : Below w.heap.size w W := by rw [hW]; exact (Below.refl _ _).alloc (Nat.le_refl _) _
  have sW : W.heap.size = w.heap.size + 1 := by rw [hW]; simp
  by_cases hl : n < 1
  · have hR : Hid (dnew n = (([], []), 4)) := if_pos (.inl hl)
    obtain ⟨y0, y1, y2, y3⟩ := row2_cells hZ
    rw [hW] at y0 y1 y2 y3
    go_enter Try.func23, Try.ntmps23
    go_wp2
    rw [← hW]
    refine ret_cellT rfl rfl w.heap.size rfl _ _ _ _ hZ _ Try.underlying43 rfl info_stP _ rfl ?_
    rw [hR.out]
    exact ⟨_, _, rfl, own_none _ _ _, bW⟩
  by_cases hg : 1024 < n
  · have hR : Hid (dnew n = (([], []), 4)) := if_pos (.inr hg)
    obtain ⟨y0, y1, y2, y3⟩ := row2_cells hZ
    rw [hW] at y0 y1 y2 y3
    go_enter Try.func23, Try.ntmps23
    go_wp2
    rw [← hW]
    refine ret_cellT rfl rfl w.heap.size rfl _ _ _ _ hZ _ Try.underlying43 rfl info_stP _ rfl ?_
    rw [hR.out]
    exact ⟨_, _, rfl, own_none _ _ _, bW⟩
  obtain ⟨m, rfl⟩ : ∃ m : Nat, n = (m : Int) := ⟨n.toNat, by omega⟩
  have hR : Hid (dnew m = ((List.replicate m (List.replicate 64 0), []), 0)) := by
    show _ = _; unfold dnew; rw [if_neg (by omega), show ((m : Int)).toNat = m from by omega]
  have hmk := fun u => make_lists (n := m) (by omega) u
  have ol := own_lists W m (by omega)
  obtain ⟨X, hX⟩ : ∃ X, X = W.alloc (.cells (madeCells #[.slice none 0 0] m) 22) := ⟨_, rfl⟩
  rw [← hX, sW] at ol
  have bX : Below W.heap.size W X := by rw [hX]; exact (Below.refl _ _).alloc (Nat.le_refl _) _
  rw [hW] at hX
  have KS := hide (sectorsOf_any X _ (List.replicate m []) ol.rdS (by simp <;> omega))
  rw [map_pad_nil] at KS
  have Z1 := (bX.block w.heap.size (by omega)).trans hZ
  have c1 := bW.trans (bX.mono bW.size)
  have hsX : w.heap.size + 1 ≤ X.heap.size := by have := bX.size; omega
  have hl' : ¬ ((m : Int) < 1) := hl
  clear ol bX bW hZ
  go_enter Try.func23, Try.ntmps23
  go_wp2_with fail
  rw [← hX]
  replace hX := hide hX
  replace hW := hide hW
  refine KS.out.mono ?_
  rintro e w2 ⟨sv', rfl, o2, b2⟩
  have Z2 := (b2.block w.heap.size (by omega)).trans Z1
  obtain ⟨y0, y1, y2, y3⟩ := row2_cells Z2
  have c2 := c1.trans (b2.mono c1.size)
  obtain ⟨F, hF, hFB⟩ := o2.foot
  obtain ⟨al, cl, hv⟩ := o2.rdS.slice
  rw [List.length_replicate] at hv
  subst hv
  have nF : w.heap.size ∉ F := fun hm => by have := hFB _ hm; omega
  have OO := hide ((((hF.cacheNil 79).set (a := ⟨w.heap.size, 0, none⟩) nF (.slice al m cl)).set (a := ⟨w.heap.size, 1, none⟩) nF (.slice none 0 0)).own (B := w.heap.size) (fun b hb => by have := hFB b hb; omega))
  have ZZ := hide Z2
  have CC := hide c2
  clear hF hFB o2 Z2 c2 b2 Z1 c1 KS hmk
  go_wp2
  refine ret_cellT rfl rfl w.heap.size rfl _ _ _ _ (heap_set2 ZZ.out _ _) _ Try.underlying43 rfl info_stP _ rfl ?_
  rw [hR.out]
  exact ⟨_, _, rfl, OO.out, below_set2 CC.out (Nat.le_refl _) _ _⟩

end Go.Proofs.Ytliileemelcllaa
