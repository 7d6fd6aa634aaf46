/-
  The page's Flush of disks.
-/
import Derived.Test.YtliileemelcllaaDCrashR
namespace Go.Proofs.Ytliileemelcllaa
open Go.RowKit
set_option linter.unusedVariables false

abbrev SKeep : Shp (List Bool) := Shp.list 4 Shp.bool
theorem infoK : (Try.prog.info? 4).map (fun i => (i.zero, i.size, i.bytes)) = some (some (.bool false), 1, 1) := by kernel_rfl
theorem make_keep {n : Nat} (hn : n ≤ 281474976710656) (u : World) : (Instr.makeSlice 55 (.int .i64 (n : Int)) (.int .i64 (n : Int))).run Try.prog u =
      .ok (.slice (some ⟨u.heap.size, 0, none⟩) n n) (u.alloc (.cells (madeCells #[.bool false] n) 4)) := by
  obtain ⟨i0, hi, hz0, hz1, hz2⟩ := info_parts infoK
  have h := run_make (P := Try.prog) u 55 4 i0 (.bool false) Try.underlying55 hi hz0 .i64 .i64 (n : Int) (n : Int) (by omega) (Int.le_refl _) (by rw [hz2]; omega) (by omega)
  simpa [hz1, Value.cells] using h
theorem own_keep (w : World) (n : Nat) (h : n ≤ 281474976710656) : Own SKeep w.heap.size (w.alloc (.cells (madeCells #[.bool false] n) 4)) [.slice (some ⟨w.heap.size, 0, none⟩) n n] (List.replicate n false) := by
  refine Own.made (fun _ => ⟨rfl, rfl⟩) ?_
  have := World.ownsRow_lit (base := w.heap.size) (e := 4) (size := 1) w (madeCells #[.bool false] n) n (Nat.le_refl _) (by unfold maxLen; omega) (by simp [madeCells])
  rw [toList_madeCells_one] at this
  exact this
theorem lands_congr {f g : Nat → Nat} {ss : List (List UInt8)} {ws : List Wrt} : ∀ {k : Nat}, (∀ i, i < k → f i = g i) → lands f ss ws k = lands g ss ws k
  | 0, _ => rfl
  | k + 1, h => by
    have ih := lands_congr (ss := ss) (ws := ws) fun i hi => h i (Nat.lt_succ_of_lt hi)
    unfold lands
    rw [ih, h k (Nat.lt_succ_self k)]
theorem flush_crash (d : Dsk) : dcrash d (List.replicate d.2.length true) (-1) 0 = dflush d := by
  unfold dcrash dflush dland
  by_cases h : DOk d
  · rw [if_pos h, if_pos h]
    rw [lands_congr (g := fun _ => 64) fun i hi => by
      unfold crashF
      rw [List.getElem?_replicate, if_pos hi, if_pos rfl, if_neg (by omega)]]
  · rw [if_neg h, if_neg h]
theorem keep_set (n k : Nat) (h : k < n) : (List.replicate k true ++ List.replicate (n - k) false).set k true = List.replicate (k + 1) true ++ List.replicate (n - (k + 1)) false := by
  rw [List.set_append_right _ _ (by simp), List.length_replicate, Nat.sub_self, show n - k = (n - (k + 1)) + 1 from by omega, List.replicate_succ, List.set_cons_zero, List.replicate_succ']
  simp

set_option maxRecDepth 100000 in
set_option maxHeartbeats 1000000 in
theorem rflush_any (w : World) (sv cv : Value) (d : Dsk) (h1 : RdSec w sv d.1) (h2 : RdC w cv d.2) (hm : d.2.length ≤ 281474976710656) :
    Calls Try.prog 27 #[.agg #[sv, cv]] w fun e w' => ∃ sv' cv', e = .returned (.tuple #[.agg #[sv', cv'], .int .i64 (dflush d).2]) ∧ Own SStR w.heap.size w' [sv', cv'] (dflush d).1 ∧ Below w.heap.size w w' := by
  have hmk := fun u => make_keep hm u
  obtain ⟨a1, c1, rfl⟩ := h1.slice
  obtain ⟨a2, c2, rfl⟩ := h2.slice
  obtain ⟨W, hW, hA, hZ, bW, sW⟩ := boxes w (.slice a1 d.1.length c1) (.slice a2 d.2.length c2) 40
  obtain ⟨A0, A1, _, _⟩ := row2_cells hA
  have ok0 := own_keep W d.2.length hm
  obtain ⟨X, hX⟩ : ∃ X, X = W.alloc (.cells (madeCells #[.bool false] d.2.length) 4) := ⟨_, rfl⟩
  rw [← hX, sW] at ok0
  have bX : Below W.heap.size W X := by rw [hX]; exact (Below.refl _ _).alloc (Nat.le_refl _) _
  rw [hW] at hX
  have OK0 := hide ok0
  have BX := hide bX
  have HZ := hide hZ
  have BW := hide bW
  have HA := hide hA
  clear ok0 bX hZ bW hA
  go_enter Try.func27, Try.ntmps27
  go_wp2
  rw [← hX]
  replace hX := hide hX
  replace hW := hide hW
  clear hmk
  go_loopw [5] (fun i wr => ∃ k : Nat, k ≤ d.2.length ∧ i = .int .i64 k ∧ Own SKeep (w.heap.size + 1 + 1) wr [.slice (some ⟨w.heap.size + 1 + 1, 0, none⟩) d.2.length d.2.length] (List.replicate k true ++ List.replicate (d.2.length - k) false) ∧ Below W.heap.size W wr) (fun i _ => d.2.length - (intOf i).toNat)
  case atStart => exact ⟨0, Nat.zero_le _, rfl, by simpa using OK0.out, BX.out⟩
  case round =>
    obtain ⟨k, hk, rfl, ho, hb⟩ := hrel
    clear OK0 BX
    by_cases hlt : k < d.2.length
    · have hq : (k : Int) < (d.2.length : Int) := by omega
      obtain ⟨g, cap, e, hcap, hBg, hgl, hfz, ⟨u0, hc0⟩, fin⟩ := ho.store rfl (by have := hb.size; omega) (i := k) (by simp; omega)
      have hlen : (List.replicate k true ++ List.replicate (d.2.length - k) false).length = d.2.length := by simp; omega
      rw [hlen] at e
      cases e
      have f2 := fin wr (.bool true) true (Below.refl _ _) ⟨[], ⟨rfl, rfl⟩, List.nodup_nil, fun b hb => by cases hb⟩
      rw [keep_set _ _ hlt] at f2
      have F2 := hide f2
      have HB := hide (hb.setCell (p := ⟨w.heap.size + 1 + 1, k, none⟩) (by show W.heap.size ≤ w.heap.size + 1 + 1; omega) (.bool true))
      clear f2 fin ho hb hlen hcap
      go_wp2
      go_roundw
      case rel => exact ⟨k + 1, by omega, by go_num, F2.out, HB.out⟩
      case measure => simp [intOf]; omega
    · obtain rfl : k = d.2.length := by omega
      rw [Nat.sub_self, List.replicate_zero, List.append_nil] at ho
      have A0' := (hb.cell (cell_lt A0)).trans A0
      have A1' := (hb.cell (cell_lt A1)).trans A1
      have cw := BW.out.trans (hb.mono BW.out.size)
      have Z1 := (hb.block (w.heap.size + 1) (by omega)).trans HZ.out
      have KC := hide (rcrash_any wr _ _ _ d (List.replicate d.2.length true) (-1) 0 (h1.to0 cw) (h2.to0 cw) ho.rdS)
      rw [flush_crash] at KC
      obtain ⟨D1, D2, er, hD⟩ : ∃ D1 D2 er, dflush d = ((D1, D2), er) := ⟨_, _, _, rfl⟩
      rw [hD] at KC
      replace hD := hide hD
      have hs1 : w.heap.size + 1 + 1 ≤ wr.heap.size := by have := hb.size; omega
      clear ho hb A0 A1
      go_wp2_with fail
      refine KC.out.mono ?_
      rintro e w2 ⟨sv', cv', rfl, o2, b2⟩
      have Z2 := (b2.block (w.heap.size + 1) (by omega)).trans Z1
      obtain ⟨y0, y1, y2, y3⟩ := row2_cells Z2
      have c2w := cw.trans (b2.mono cw.size)
      obtain ⟨F, hF, hFB⟩ := o2.foot
      obtain ⟨al, cl, ac, cc', rfl, rfl⟩ := own_form hF
      dsimp only
      have OO := hide ((o2.set (a := ⟨w.heap.size + 1, 0, none⟩) (by show w.heap.size + 1 < _; omega) (.slice al D1.length cl)).set (a := ⟨w.heap.size + 1, 1, none⟩) (by show w.heap.size + 1 < _; omega) (.slice ac D2.length cc'))
      have ZZ := hide Z2
      have CC := hide c2w
      clear hF hFB o2 Z2 c2w b2 Z1 cw KC
      go_wp2
      refine ret_cellT rfl rfl (w.heap.size + 1) rfl _ _ _ _ (heap_set2 ZZ.out _ _) _ Try.underlying40 rfl info_stR _ rfl ?_
      rw [hD.out]
      exact ⟨_, _, rfl, OO.out.mono (show w.heap.size ≤ wr.heap.size by omega), below_set2 CC.out (show w.heap.size ≤ w.heap.size + 1 by omega) _ _⟩

end Go.Proofs.Ytliileemelcllaa
