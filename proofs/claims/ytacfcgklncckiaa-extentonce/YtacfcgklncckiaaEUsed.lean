/-
  A list of bools of one's own (ExtentOnce): made, read, set.
-/
import Derived.Test.YtacfcgklncckiaaEOnceIn
namespace Go.Proofs.Ytacfcgklncckiaa
open Go.ChangeShapes Go.WideShapes Go.ChangeAt Go.RowKit
set_option linter.unusedVariables false

theorem infoBool : (Try.prog.info? 4).map (fun i => (i.zero, i.size, i.bytes)) = some (some (.bool false), 1, 1) := by kernel_rfl
def URow (g n : Nat) (us : List Bool) (w : World) : Prop := w.ownsRow g 4 1 (.slice (some ⟨g, 0, none⟩) n n) n (us.map Value.bool)
/-- make([]bool, n) -/
theorem make_bools {n : Nat} (hn : n ≤ 281474976710656) (u : World) : (Instr.makeSlice 55 (.int .i64 (n : Int)) (.int .i64 (n : Int))).run Try.prog u =
      .ok (.slice (some ⟨u.heap.size, 0, none⟩) n n) (u.alloc (.cells (madeCells #[.bool false] n) 4)) := by
  obtain ⟨i0, hi, hz0, hz1, hz2⟩ := info_parts infoBool
  have h := run_make (P := Try.prog) u 55 4 i0 (.bool false) Try.underlying55 hi hz0 .i64 .i64 (n : Int) (n : Int) (by omega) (Int.le_refl _) (by rw [hz2]; omega) (by omega)
  simpa [hz1, Value.cells] using h
theorem URow.made (w : World) (n : Nat) (h : n ≤ 281474976710656) : URow w.heap.size n (List.replicate n false) (w.alloc (.cells (madeCells #[.bool false] n) 4)) := by
  have := World.ownsRow_lit (base := w.heap.size) (e := 4) (size := 1) w (madeCells #[.bool false] n) n (Nat.le_refl _) (by unfold maxLen; omega) (by simp [madeCells])
  rw [toList_madeCells_one] at this
  unfold URow
  rw [List.map_replicate]
  exact this
theorem URow.len {g n : Nat} {us : List Bool} {w : World} (h : URow g n us w) : us.length = n := by
  have := h.1
  simpa using this
theorem URow.cell {g n : Nat} {us : List Bool} {w : World} (h : URow g n us w) {k : Nat} {b : Bool} (hk : us[k]? = some b) : w.cell? ⟨g, k, none⟩ = some (.bool b) :=
  rows_at (rows_base h fun _ _ => Nat.zero_le _) rfl (by rw [List.getElem?_map, hk]; rfl)
theorem URow.frozen {g n : Nat} {us : List Bool} {w : World} (h : URow g n us w) (k : Nat) : w.frozen? ⟨g, k, none⟩ = false := by
  exact World.ownsRow.frozenAt h k
theorem URow.put {g n : Nat} {us : List Bool} {w : World} (h : URow g n us w) (k : Nat) : URow g n (us.set k true) (w.setCell ⟨g, k, none⟩ (.bool true)) := by
  have := (World.ownsRow.stored h k (.bool true)).1
  unfold URow
  rw [List.map_set]
  exact this
theorem URow.to {g n : Nat} {us : List Bool} {w w' : World} (h : URow g n us w) (hb : Below w.heap.size w w') : URow g n us w' := rows_to h hb
theorem eTotal_take {l : List Ext} {k : Nat} {y : Ext} (h : l[k]? = some y) : eTotal (l.take (k + 1)) = eTotal (l.take k) + y.2 := by
  rw [List.take_add_one, h, eTotal_app, Option.toList, eTotal_cons, eTotal_nil]
  omega
theorem eTotal_pos : ∀ {l : List Ext}, (∀ x ∈ l, 1 ≤ x.2) → 0 ≤ eTotal l
  | [], _ => Int.le_refl _
  | x :: r, h => by
    have := eTotal_pos (l := r) fun z hz => h z (List.mem_cons_of_mem _ hz)
    have := h x (List.mem_cons_self ..)
    rw [eTotal_cons]; omega
theorem eTotal_take_le {l : List Ext} (h : ∀ x ∈ l, 1 ≤ x.2) (k : Nat) : 0 ≤ eTotal (l.take k) ∧ eTotal (l.take k) ≤ eTotal l := by
  have h1 : eTotal l = eTotal (l.take k) + eTotal (l.drop k) := by rw [← eTotal_app, List.take_append_drop]
  have := eTotal_pos (l := l.take k) fun x hx => h x (List.mem_of_mem_take hx)
  have := eTotal_pos (l := l.drop k) fun x hx => h x (List.mem_of_mem_drop hx)
  omega
theorem pair_at {l : List Ext} (h : l.Pairwise eApart) {k : Nat} {y : Ext} (hk : l[k]? = some y) : ∀ z ∈ l.take k, eApart z y := by
  obtain ⟨hl, rfl⟩ := List.getElem?_eq_some_iff.1 hk
  have : l = l.take k ++ l[k] :: l.drop (k + 1) := by
    conv => lhs; rw [← List.take_append_drop k l]
    rw [List.drop_eq_getElem_cons hl]
  rw [this, List.pairwise_append] at h
  exact fun z hz => h.2.2 z hz _ (List.mem_cons_self ..)
theorem take_next {l : List Ext} {k : Nat} {y : Ext} (h : l[k]? = some y) : l.take (k + 1) = l.take k ++ [y] := by
  rw [List.take_add_one, h]; rfl
/-- a list that is not empty has a block -/
theorem OwnE.block {B : Nat} {w : World} {v : Value} {l : List Ext} (h : OwnE B w v l) (hl : 0 < l.length) : ∃ b c, v = .slice (some ⟨b, 0, none⟩) l.length c ∧ B ≤ b ∧ l.length ≤ c := by
  rcases h.2 with ⟨_, h2⟩ | ⟨g, cap, cur, hv, hb, hg, hn, _⟩
  · omega
  · exact ⟨g, cap, hv, hb, hn⟩
theorem OwnE.cells {B : Nat} {w : World} {b c : Nat} {l : List Ext} (h : OwnE B w (.slice (some ⟨b, 0, none⟩) l.length c) l) {k : Nat} {x : Ext} (hk : l[k]? = some x) : w.cell? ⟨b, k * 2, none⟩ = some (.int .i64 x.1) ∧ w.cell? ⟨b, k * 2 + 1, none⟩ = some (.int .i64 x.2) ∧ w.frozen? ⟨b, k * 2, none⟩ = false ∧ w.frozen? ⟨b, k * 2 + 1, none⟩ = false := by
  obtain ⟨b', off, e, h0, h1⟩ := RdS.ext (ownE_rd h) hk
  simp only [Option.some.injEq, Addr.mk.injEq, and_true] at e
  obtain ⟨rfl, rfl⟩ := e
  exact ⟨by simpa using h0, by simpa using h1, World.ownsRow.frozenAt h _, World.ownsRow.frozenAt h _⟩

end Go.Proofs.Ytacfcgklncckiaa
