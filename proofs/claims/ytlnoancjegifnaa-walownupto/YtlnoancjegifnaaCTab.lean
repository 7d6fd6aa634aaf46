/-
  The contract of crc.octetSteps: the array of what each octet makes of a register; it touches nothing of before.
-/
import Derived.Test.YtlnoancjegifnaaCStep
import Derived.Test.YtlnoancjegifnaaOwn
import Derived.BigRegion
import Derived.Deep.WholeRow
import Derived.Laws.ResultCell
namespace Go.Proofs.Ytlnoancjegifnaa
open Go.RowKit
set_option linter.unusedVariables false

def cv (c : Nat → Nat) : List Value := (List.range 256).map fun i => .int .u32 (c i : Nat)
def up (c : Nat → Nat) (i v : Nat) : Nat → Nat := fun j => if j = i then v else c j
theorem cv_len (c : Nat → Nat) : (cv c).length = 256 := by simp [cv]
theorem cv_up (c : Nat → Nat) (i v : Nat) : (cv c).set i (.int .u32 (v : Nat)) = cv (up c i v) := by
  apply List.ext_getElem
  · simp [cv]
  · intro j h1 h2
    simp only [cv, List.getElem_set, List.getElem_map, List.getElem_range, up]
    by_cases h : i = j
    · simp [h]
    · simp [h, Ne.symm h]
theorem cv_at (c : Nat → Nat) (i : Nat) (h : i < 256) : (cv c)[i]? = some (.int .u32 (c i : Nat)) := by
  simp [cv, h]

/-- the block g (made by the call itself) holds the array c -/
def Tab (B : Nat) (w : World) (g : Nat) (c : Nat → Nat) : Prop := w.ownsRow B 113 1 (.slice (some ⟨g, 0, none⟩) 256 256) 256 (cv c)
theorem Tab.cell {B : Nat} {w : World} {g : Nat} {c : Nat → Nat} (h : Tab B w g c) (i : Nat) (hi : i < 256) : w.cell? ⟨g, i, none⟩ = some (.int .u32 (c i : Nat)) := by
  rw [h.cellAt i (by omega), cv_at c i hi]
theorem Tab.frozen {B : Nat} {w : World} {g : Nat} {c : Nat → Nat} (h : Tab B w g c) (i : Nat) : w.frozen? ⟨g, i, none⟩ = false := h.frozenAt i
theorem Tab.set {B : Nat} {w : World} {g : Nat} {c : Nat → Nat} (h : Tab B w g c) (i v : Nat) : Tab B (w.setCell ⟨g, i, none⟩ (.int .u32 (v : Nat))) g (up c i v) := by
  unfold Tab; rw [← cv_up]; exact (h.stored i _).1

def low (k : Nat) : Nat := (bits .and .i64 (k : Int) (-(k : Int))).toNat
theorem low_is : ∀ k : Nat, k < 256 → bits .and .i64 (k : Int) (-(k : Int)) = (low k : Int) ∧ low k ≤ k ∧ low k ^^^ (k - low k) = k ∧ (k = 0 ∨ (k - low k < k ∧ ∃ j, j < 8 ∧ low k = 128 / 2 ^ j)) := by
  decide +kernel
theorem top_is : ∀ k : Nat, k < 8 → stn (k + 1) 1 = stn 8 (128 / 2 ^ k) ∧ (128 : Int) / 2 ^ k = ((128 / 2 ^ k : Nat) : Int) ∧ 128 / 2 ^ k < 256 := by
  decide +kernel

theorem zero43 : (∀ w, (zeroValue 113).run Try.prog w = .ok (.agg (Array.replicate 256 (.int .u32 0))) w) ∧ (Try.prog.info? 113).map (·.size) = some 256 :=
  zero_of_info (by kernel_rfl)

theorem Tab.blk {B : Nat} {w w' : World} {g : Nat} {c : Nat → Nat} (h : Tab B w g c) (e : w'.heap[g]? = w.heap[g]?) : Tab B w' g c := by
  refine ⟨h.1, ?_⟩
  rcases h.2 with hn | ⟨g', cap, cur, hv, hb, hg, r⟩
  · exact .inl hn
  · refine .inr ⟨g', cap, cur, hv, hb, ?_, r⟩
    simp only [Value.slice.injEq, Option.some.injEq, Addr.mk.injEq] at hv
    obtain ⟨⟨rfl, _⟩, _⟩ := hv
    rw [e]; exact hg
theorem Tab.row {B : Nat} {w : World} {g : Nat} {c : Nat → Nat} (h : Tab B w g c) : B ≤ g ∧ w.heap[g]? = some (.cells (cv c).toArray 113 (0, 0)) := by
  rcases h.2 with hn | ⟨g', cap, cur, hv, hb, hg, _, _, hs, ht⟩
  · simp at hn
  · simp only [Value.slice.injEq, Option.some.injEq, Addr.mk.injEq, true_and, and_true] at hv
    obtain ⟨rfl, rfl⟩ := hv
    refine ⟨hb, ?_⟩
    rw [hg]
    have : cur = (cv c).toArray := by
      apply Array.ext'
      rw [← ht, List.take_of_length_le (by simp; omega)]
    rw [this]
theorem Tab.of {B : Nat} {w : World} {g : Nat} {c : Nat → Nat} (hB : B ≤ g) (h : w.heap[g]? = some (.cells (cv c).toArray 113 (0, 0))) : Tab B w g c :=
  ⟨by simp [cv_len], .inr ⟨g, 256, _, rfl, hB, h, by omega, by decide, by simp [cv_len], by rw [List.take_of_length_le (by simp [cv_len])]⟩⟩
theorem Tab.other {B : Nat} {w : World} {g g' : Nat} {c : Nat → Nat} (h : Tab B w g c) (hne : g ≠ g') (i : Nat) (v : Value) : Tab B (w.setCell ⟨g', i, none⟩ v) g c :=
  h.blk (by simp [World.setCell, Array.getElem?_modify, Ne.symm hne])
theorem zeros_cv : Array.replicate 256 (Value.int .u32 0) = (cv fun _ => 0).toArray := by
  apply Array.ext'; simp [cv, List.map_const']

theorem up_lt {c : Nat → Nat} (h : ∀ i, c i < M32) (k : Nat) {v : Nat} (hv : v < M32) : ∀ i, up c k v i < M32 := by
  intro i; unfold up; split
  · exact hv
  · exact h i
theorem up_low {c : Nat → Nat} {k : Nat} (hk : k < 8) (h : ∀ j, j < k → c (128 / 2 ^ j) = stn 8 (128 / 2 ^ j)) : ∀ j, j < k + 1 → up c (128 / 2 ^ k) (stn 8 (128 / 2 ^ k)) (128 / 2 ^ j) = stn 8 (128 / 2 ^ j) := by
  intro j hj
  unfold up
  by_cases e : 128 / 2 ^ j = 128 / 2 ^ k
  · rw [if_pos e, e]
  · rw [if_neg e]
    exact h j (by rcases Nat.lt_or_eq_of_le (Nat.le_of_lt_succ hj) with h1 | h1; exact h1; subst h1; exact absurd rfl e)
theorem up_all {c : Nat → Nat} {k : Nat} (hk : k < 256) (h8 : ∀ j, j < 8 → c (128 / 2 ^ j) = stn 8 (128 / 2 ^ j)) (h : ∀ j, j < k → c j = stn 8 j) :
    c (low k) ^^^ c (k - low k) = stn 8 k ∧ (∀ j, j < 8 → up c k (stn 8 k) (128 / 2 ^ j) = stn 8 (128 / 2 ^ j)) ∧ (∀ j, j < k + 1 → up c k (stn 8 k) j = stn 8 j) := by
  obtain ⟨_, _, h1, h2⟩ := low_is k hk
  refine ⟨?_, fun j hj => ?_, fun j hj => ?_⟩
  · rcases h2 with h2 | ⟨h2, j, hj, e⟩
    · subst h2
      have : low 0 = 0 := by decide
      rw [this, show (0 : Nat) - 0 = 0 from rfl, Nat.xor_self, stn_zero]
    · have e2 : c (low k) = stn 8 (low k) := by rw [e]; exact h8 j hj
      rw [e2, h _ h2, ← stn_xor, h1]
  · unfold up
    by_cases e : 128 / 2 ^ j = k
    · rw [if_pos e, e]
    · rw [if_neg e]; exact h8 j hj
  · unfold up
    by_cases e : j = k
    · rw [if_pos e, e]
    · rw [if_neg e]; exact h j (by omega)

theorem below_drew {B : Nat} {w w' : World} (h : Below B w w') : Below B w w'.drew := ⟨h.os, h.tape, h.output, h.size, h.block⟩

theorem below_setRow {B : Nat} {w w' : World} (h : Below B w w') {g : Nat} (hg : B ≤ g) (cs : Array Value) : Below B w (w'.setRow g cs) :=
  ⟨h.os, h.tape, h.output, by simpa [World.setRow] using h.size, fun k hk => by
    rw [← h.block k hk]
    simp [World.setRow, Array.getElem?_modify, show ¬ g = k by omega]⟩
theorem all_one (c : Nat → Nat) : (cv c).toArray.all (·.oneCell') = true := by
  rw [Array.all_eq_true_iff_forall_mem]
  intro v hv
  simp only [cv, List.mem_toArray, List.mem_map] at hv
  obtain ⟨i, _, rfl⟩ := hv
  rfl

set_option maxRecDepth 100000 in
set_option maxHeartbeats 1000000 in
theorem steps_any (w : World) :
    Calls Try.prog 68 #[] w fun e w' => e = .returned (.agg (cv (stn 8)).toArray) ∧ Below w.heap.size w w' := by
  have hv := zero43.1
  rw [zeros_cv] at hv
  have h0 : Tab w.heap.size ((w.alloc (.cells (cv fun _ => 0).toArray 113)).alloc (.cells (cv fun _ => 0).toArray 113)) w.heap.size (fun _ => 0) :=
    .of (Nat.le_refl _) (by show ((w.heap.push _).push _)[_]? = _; simp [Array.getElem?_push])
  have h1 : Tab w.heap.size ((w.alloc (.cells (cv fun _ => 0).toArray 113)).alloc (.cells (cv fun _ => 0).toArray 113)) (w.heap.size + 1) (fun _ => 0) :=
    .of (Nat.le_succ _) (by have := heap_alloc_last (w.alloc (.cells (cv fun _ => 0).toArray 113)) (.cells (cv fun _ => 0).toArray 113); simpa using this)
  have hb0 : Below w.heap.size w ((w.alloc (.cells (cv fun _ => 0).toArray 113)).alloc (.cells (cv fun _ => 0).toArray 113)) :=
    ((Below.refl _ _).alloc (Nat.le_refl _) _).alloc (by simp) _
  go_enter Try.func68, Try.ntmps68
  go_wp2
  go_loopw [2, 6] (fun r i wr => ∃ (k : Nat) (c : Nat → Nat), k ≤ 8 ∧ (∀ i, c i < M32) ∧ i = .int .i64 k ∧ r = .int .u32 (stn k 1 : Nat) ∧ Tab w.heap.size wr w.heap.size (fun _ => 0) ∧ Tab w.heap.size wr (w.heap.size + 1) c ∧ (∀ j, j < k → c (128 / 2 ^ j) = stn 8 (128 / 2 ^ j)) ∧ Below w.heap.size w wr) (fun _ i _ => 8 - (intOf i).toNat)
  case atStart => exact ⟨0, _, Nat.zero_le _, fun _ => by decide, rfl, rfl, h0, h1, fun j hj => absurd hj (Nat.not_lt_zero _), hb0⟩
  case round =>
    obtain ⟨k, c, hk, hcl, rfl, rfl, hA, hT, hc, hb⟩ := hrel
    clear h0 h1 hb0
    by_cases hlt : k < 8
    · have hq : (k : Int) < 8 := by omega
      obtain ⟨p1, p2, p3⟩ := top_is k hlt
      have hs := stn_lt k (show 1 < M32 by decide)
      have hx := hT.cell _ p3
      have hf := hT.frozen (128 / 2 ^ k)
      have H1 := hide (hT.set (128 / 2 ^ k) (stn 8 (128 / 2 ^ k)))
      have H2 := hide (hA.other (show w.heap.size ≠ w.heap.size + 1 by omega) (128 / 2 ^ k) (.int .u32 (stn 8 (128 / 2 ^ k) : Nat)))
      have H3 := hide (up_low hlt hc)
      have H4 := hide (hb.setCell (p := ⟨w.heap.size + 1, 128 / 2 ^ k, none⟩) (Nat.le_succ _) (.int .u32 (stn 8 (128 / 2 ^ k) : Nat)))
      have H5 := hide (stn_succ k 1)
      have H6 := hide (up_lt hcl (128 / 2 ^ k) (stn_lt 8 (m := 128 / 2 ^ k) (by unfold M32; omega)))
      rw [← p1, stn_succ] at H1 H2 H4 H6
      rw [← p1, stn_succ] at H3
      clear hT hA hb hc hcl
      replace p1 := hide p1
      generalize stn k 1 = s at *
      generalize 128 / 2 ^ k = p at *
      go_wp2_with (go_at_call 70; refine (step_any _ _ (by assumption)).mono ?_; rintro e w' ⟨rfl, rfl⟩)
      go_roundw
      case rel => exact ⟨k + 1, _, by omega, H6.out, by go_num, by rw [H5.out], H2.out, H1.out, H3.out, H4.out⟩
      case measure => simp [intOf]; omega
    · obtain rfl : k = 8 := by omega
      have hc8 := hide hc
      clear hc
      replace hcl := hide hcl
      go_wp2
      go_loopw [16] (fun i wx => ∃ (k : Nat) (c : Nat → Nat), k ≤ 256 ∧ (∀ i, c i < M32) ∧ i = .int .i64 k ∧ Tab w.heap.size wx w.heap.size (fun _ => 0) ∧ Tab w.heap.size wx (w.heap.size + 1) c ∧ Hid (∀ j, j < 8 → c (128 / 2 ^ j) = stn 8 (128 / 2 ^ j)) ∧ Hid (∀ j, j < k → c j = stn 8 j) ∧ Below w.heap.size w wx) (fun i _ => 256 - (intOf i).toNat)
      case atStart => exact ⟨0, c, Nat.zero_le _, hcl.out, rfl, hA, hT, hc8, hide (fun j hj => absurd hj (Nat.not_lt_zero _)), hb⟩
      case round =>
        clear hA hT hb hc8 hcl
        rename_i K1 a1
        replace a1 := hide a1
        obtain ⟨k, c, hk, hcl, rfl, hA, hT, hc8, hc, hb⟩ := hrel
        by_cases hlt : k < 256
        · have hq : (k : Int) < 256 := by omega
          obtain ⟨p1, p2, _, _⟩ := low_is k hlt
          obtain ⟨q1, q2, q3⟩ := up_all hlt hc8.out hc.out
          have hx := hT.cell (low k) (by omega)
          have hy := hT.cell (k - low k) (by omega)
          have hz := hT.cell k hlt
          have hf := hT.frozen k
          have HX := xor_int (c (low k)) (c (k - low k)) (hcl _) (hcl _)
          rw [q1] at HX
          have H1 := hide (hT.set k (stn 8 k))
          have H2 := hide (hA.other (show w.heap.size ≠ w.heap.size + 1 by omega) k (.int .u32 (stn 8 k : Nat)))
          have H4 := hide (hb.setCell (p := ⟨w.heap.size + 1, k, none⟩) (Nat.le_succ _) (.int .u32 (stn 8 k : Nat)))
          have H3 := hide q2
          have H6 := hide (up_lt hcl k (stn_lt 8 (m := k) (by unfold M32; omega)))
          have H5 := hide q3
          clear hT hA hb hc hc8 q1 q2 q3 hcl
          generalize stn 8 k = s at *
          generalize c (low k) = cl at *
          generalize c (k - low k) = cm at *
          have hl1 : ((low k : Nat) : Int) < 256 := by omega
          have hl2 : (k : Int) - ((low k : Nat) : Int) = ((k - low k : Nat) : Int) := by omega
          have hl3 : ((k - low k : Nat) : Int) < 256 := by omega
          go_wp2
          go_region
          go_wp2
          go_roundw
          case rel => exact ⟨k + 1, _, by omega, H6.out, by go_num, H2.out.blk rfl, H1.out.blk rfl, H3, H5, below_drew H4.out⟩
          case measure => simp [intOf]; omega
        · obtain rfl : k = 256 := by omega
          have hcv : cv c = cv (stn 8) := by
            unfold cv
            exact List.map_congr_left fun i hi => by rw [hc.out i (List.mem_range.1 hi)]
          clear hc hc8 hcl
          have hB := hb.size
          have hr := hT.row.2
          have hr0 := hA.row.2
          rw [hcv] at hr
          clear hA hT
          go_wp2
          refine a1.out _ _ ?_
          refine wp_seq (wp_region_list ?_)
          refine wpList_load_row rfl _ _ rfl (w.heap.size + 1) rfl _ _ _ _ hr Try.underlying113 rfl (by rw [show (cv (stn 8)).toArray.size = 256 from by simp [cv_len]]; exact zero43.2) ?_
          refine wpList_store_row rfl _ _ _ rfl w.heap.size _ rfl rfl _ _ hr0 (by rw [show (cv (stn 8)).toArray.size = 256 from by simp [cv_len]]; exact zero43.2) ?_ ?_ ?_
          · simp [cv_len]
          · exact all_one _
          · refine wp_ret ?_
            refine bodyPost_ret (v := .agg (cv (stn 8)).toArray) ?_ rfl ⟨rfl, below_setRow hb (Nat.le_refl _) _⟩
            exact results_cell_row rfl _ _ w.heap.size _ _ _ _ rfl (setRow_heap _ _ _ _ _ _ hr0) Try.underlying113 rfl (by rw [show (cv (stn 8)).toArray.size = 256 from by simp [cv_len]]; exact zero43.2)

end Go.Proofs.Ytlnoancjegifnaa
