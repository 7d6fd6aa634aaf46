/-
  The program's sectorOf and sectorsOf of disks.
-/
import Derived.Test.YtlnoancjegifnaaDMath
namespace Go.Proofs.Ytlnoancjegifnaa
open Go.RowKit
set_option linter.unusedVariables false

abbrev SSec : Shp (List (List UInt8)) := Shp.list 54 Shp.octs

theorem make_64 (u : World) : (Instr.makeSlice 54 (.int .i64 64) (.int .i64 64)).run Try.prog u =
      .ok (.slice (some ⟨u.heap.size, 0, none⟩) 64 64) (u.alloc (.cells (madeCells #[.int .u8 0] 64) 5)) := make_octs (n := 64) (by omega) u

theorem infoB : (Try.prog.info? 54).map (fun i => (i.zero, i.size, i.bytes)) = some (some (.slice none 0 0), 1, 24) := by kernel_rfl
/-- make([][]byte, n) -/
theorem make_lists {n : Nat} (hn : n ≤ 10000000000000) (u : World) : (Instr.makeSlice 23 (.int .i64 (n : Int)) (.int .i64 (n : Int))).run Try.prog u =
      .ok (.slice (some ⟨u.heap.size, 0, none⟩) n n) (u.alloc (.cells (madeCells #[.slice none 0 0] n) 54)) := by
  obtain ⟨i0, hi, hz0, hz1, hz2⟩ := info_parts infoB
  have h := run_make (P := Try.prog) u 23 54 i0 (.slice none 0 0) Try.underlying23 hi hz0 .i64 .i64 (n : Int) (n : Int) (by omega) (Int.le_refl _) (by rw [hz2]; omega) (by omega)
  simpa [hz1, Value.cells] using h
theorem own_lists (w : World) (n : Nat) (h : n ≤ 10000000000000) : Own SSec w.heap.size (w.alloc (.cells (madeCells #[.slice none 0 0] n) 54)) [.slice (some ⟨w.heap.size, 0, none⟩) n n] (List.replicate n []) := by
  refine Own.made octs_nil ?_
  have := World.ownsRow_lit (base := w.heap.size) (e := 54) (size := 1) w (madeCells #[.slice none 0 0] n) n (Nat.le_refl _) (by unfold maxLen; omega) (by simp [madeCells])
  rw [toList_madeCells_one] at this
  exact this

theorem map_part {α β : Type} (f : α → β) (z : β) (xs : List α) {k : Nat} {x : α} (hx : xs[k]? = some x) : ((xs.take k).map f ++ List.replicate (xs.length - k) z).set k (f x) = (xs.take (k + 1)).map f ++ List.replicate (xs.length - (k + 1)) z := by
  have hk : k < xs.length := (List.getElem?_eq_some_iff.1 hx).1
  rw [show xs.length - k = (xs.length - (k + 1)) + 1 from by omega, List.replicate_succ]
  rw [List.set_append_right _ _ (by simp; omega)]
  have e : k - ((xs.take k).map f).length = 0 := by simp; omega
  rw [e, List.set_cons_zero, List.take_add_one, hx]
  simp

/-- one sector where it lies -/
theorem OwnF.sector {F : List Nat} {w : World} {sv : Value} {ss : List (List UInt8)} (h : OwnF SSec F w [sv] ss) {k : Nat} {x : List UInt8} (hx : ss[k]? = some x) :
    ∃ g cap u, sv = .slice (some ⟨g, 0, none⟩) ss.length cap ∧ ss.length ≤ cap ∧ w.cell? ⟨g, k, none⟩ = some u ∧ OwnB 0 w u x ∧ g ∈ F ∧ (∀ b, u.ownBlock = some b → b ∈ F ∧ b ≠ g) ∧
      ∀ w' x', OwnB 0 w' u x' → (∀ b, b ∈ F → some b ≠ u.ownBlock → w'.heap[b]? = w.heap[b]?) → OwnF SSec F w' [sv] (ss.set k x') := by
  obtain ⟨g, cap, F2, c, hv, hcap, _, hgF, ⟨u, rfl, ho, rfl⟩, hF2, hc, fin⟩ := OwnF.at h hx
  refine ⟨g, cap, u, hv, hcap, ?_, ho, hgF, fun b hb => hF2 b (by simp [hb]), fun w' x' ho' hk => fin w' x' ⟨u, rfl, ho', rfl⟩ fun b hb hn => hk b hb fun e => hn (by simp [← e])⟩
  have := hc 0 u rfl
  simpa [Shp.octs] using this

end Go.Proofs.Ytlnoancjegifnaa
