/-
  The contract of the program's Open of frames.
-/
import Derived.RangeFuncNested
import Derived.RangeFuncBound
import Derived.RangeFuncCalls
import Derived.RangeFuncLeaves
import Derived.Shelf.Abstract
import Derived.Shelf.RegionOpen
import Derived.WalkKit
import Derived.OwnWalkIn
import Derived.TacticsInMore
import Derived.LoopNIn
import Derived.LoopIn
import Derived.RangeFuncBox
import Derived.Test.YtibkanmboglcgaaOwn
import Derived.BigRegionIn
import Derived.Test.YtibkanmboglcgaaNums
import Derived.Test.YtibkanmboglcgaaFRefO
import Derived.Test.YtibkanmboglcgaaCpy
/-
  The iterator octets.places: it hands out each place of a number of 'size' octets and its shift, in order; and the closure that it answers.
-/
namespace Go.Proofs.Ytibkanmboglcgaa
open Go.RowKit Go.Shelf
attribute [local go_sem] Oper.semAt_some
set_option linter.unusedVariables false

/-- a place of a number of 'size' octets -/
abbrev Pl (size : Nat) : Type := { k : Nat // k < size }
/-- what the loop is handed: where the octet stands, by how many bits it is shifted -/
def plEncs (size : Nat) (x : Pl size) : Array Value := #[.int .i64 (x.1 : Int), .int .i64 (8 * ((size : Int) - 1 - (x.1 : Int)))]
/-- the first k places -/
def plTo (size k : Nat) (h : k ≤ size) : List (Pl size) := (List.finRange k).map fun i => ⟨i.1, Nat.lt_of_lt_of_le i.2 h⟩
theorem plTo_length (size k : Nat) (h : k ≤ size) : (plTo size k h).length = k := by simp [plTo]
theorem plTo_succ (size k : Nat) (h : k < size) : plTo size (k + 1) h = plTo size k (Nat.le_of_lt h) ++ [⟨k, h⟩] := by
  apply List.ext_getElem
  · simp [plTo]
  · intro i h1 h2
    simp only [plTo, List.length_map, List.length_finRange] at h1
    by_cases hk : i < k
    · rw [List.getElem_append_left (by simp [plTo]; exact hk)]
      simp [plTo]
    · obtain rfl : i = k := by omega
      rw [List.getElem_append_right (by simp [plTo])]
      simp [plTo]

/-- what the iterator asks of a round: the box of its size lies as it lay -/
def KeepsBox (Bs : Nat) (W W' : World) : Prop := W'.heap[Bs]? = W.heap[Bs]?
theorem KeepsBox.refl (Bs : Nat) (W : World) : KeepsBox Bs W W := rfl
theorem KeepsBox.trans {Bs : Nat} {A B C : World} (h : KeepsBox Bs A B) (k : KeepsBox Bs B C) : KeepsBox Bs A C := Eq.trans k h
theorem KeepsBox.boxed {Bs : Nat} {A B : World} (h : KeepsBox Bs A B) {t : TypeId} {v : Value} (k : Boxed A Bs t v) : Boxed B Bs t v := Eq.trans h k
theorem KeepsBox.put {Bs : Nat} {w : World} (hl : Bs < w.heap.size) (W : World) (l : Nat) (o o' : Obj) (h : w.heap.size ≤ l) (_ : W.heap[l]? = some o) (_ : o.isCells = false) (_ : o.isWalk = false) : KeepsBox Bs W (W.putObj l o') :=
  World.putObj_heap_other (by omega)
theorem KeepsBox.setCell {Bs b off : Nat} {W : World} (v : Value) (h : Bs ≠ b) : KeepsBox Bs W (W.setCell ⟨b, off, none⟩ v) := Below.heap_setCell _ _ _ _ h

set_option maxRecDepth 100000 in
set_option maxHeartbeats 1000000 in
theorem places1_in (F : Fence) (n : Nat) (hf : F.fn 69) (hro : F.round = none) (hn : 1 ≤ n) (l Bs size : Nat) (hs8 : size ≤ 8) (J Jx : List (Pl size) → World → Prop)
    (hY : ∀ pre x W, J pre W → pre.length < size → YieldAt F (n - 1) Try.prog l (plEncs size x) W fun e W' =>
      (e = .returned (.bool true) ∧ J (pre ++ [x]) W' ∧ KeepsBox Bs W W') ∨ (e = .returned (.bool false) ∧ Jx (pre ++ [x]) W'))
    (W : World) (hBs : Boxed W Bs 3 (.int .i64 (size : Int))) (h0 : J [] W) :
    CallsIn F n Try.prog 69 #[.func (.yield l) #[] #[], .pointer (some ⟨Bs, 0, none⟩)] W fun e W' => (∃ v, e = .returned v) ∧
      ((∃ ys, ys = plTo size size (Nat.le_refl _) ∧ J ys W') ∨ (∃ pre, True ∧ Jx pre W')) := by
  refine callsIn_of_wp Try.func69 rfl hf ?_ hro
  simp only [Try.ntmps69, List.size_toArray, List.length_cons, List.length_nil, Nat.reduceAdd, Nat.reduceSub, Array.replicate_succ, Array.replicate_zero, List.push_toArray, List.append_toArray, List.nil_append, List.cons_append]
  have hc0 := hBs.cell
  gi_wp2
  gi_loopw [5] (fun i wr => ∃ (k : Nat) (h : k ≤ size), i = .int .i64 k ∧ J (plTo size k h) wr ∧ KeepsBox Bs W wr)
    (fun i _ => size - (intOf i).toNat)
  case atStart => exact ⟨0, Nat.zero_le _, rfl, h0, KeepsBox.refl _ _⟩
  case round =>
    obtain ⟨k, hk, rfl, hJs, hnx⟩ := hrel
    have hcx : wr.cell? ⟨Bs, 0, none⟩ = some (.int .i64 (size : Int)) := (hnx.boxed hBs).cell
    by_cases hlt : k < size
    · obtain ⟨fn, tmps, assign, body, hy, hR⟩ := hY _ ⟨k, hlt⟩ wr hJs (by rw [plTo_length]; exact hlt)
      dsimp only [plEncs] at hy
      have hq : (k : Int) < (size : Int) := by omega
      gi_wp2
      refine hR.mono ?_
      rintro e W3 (⟨rfl, hJ3, hk3⟩ | ⟨rfl, hJx3⟩)
      · gi_wp2
        go_roundw
        case rel => exact ⟨k + 1, hlt, by simp, by rw [plTo_succ]; exact hJ3, hnx.trans hk3⟩
        case measure => simp [intOf]; omega
      · gi_wp2
        refine bodyPost_ret (results_none rfl _ _ _) rfl ?_
        exact ⟨⟨_, rfl⟩, .inr ⟨_, trivial, hJx3⟩⟩
    · obtain rfl : k = size := by omega
      gi_wp2
      go_end0
      exact ⟨⟨_, rfl⟩, .inl ⟨_, rfl, hJs⟩⟩

set_option maxRecDepth 100000 in
set_option maxHeartbeats 1000000 in
theorem places_in (F : Fence) (n : Nat) (hf : F.fn 67) (hro : F.round = none) (size : Int) (w : World) :
    CallsIn F n Try.prog 67 #[.int .i64 size] w fun e w' => e = .returned (.func (.func 69) #[] #[.pointer (some ⟨w.heap.size, 0, none⟩)]) ∧ w' = w.alloc (.cells #[.int .i64 size] 3) := by
  refine callsIn_of_wp Try.func67 rfl hf ?_ hro
  simp only [Try.ntmps67, List.size_toArray, List.length_cons, List.length_nil, Nat.reduceAdd, Nat.reduceSub, Array.replicate_succ, Array.replicate_zero, List.push_toArray, List.append_toArray, List.nil_append, List.cons_append]
  gi_wp2
  go_ret
  exact ⟨rfl, rfl⟩

theorem places_stops (F : Fence) (n : Nat) (hf : F.fn 69) (hro : F.round = none) (hn : 1 ≤ n) (Bs size : Nat) (hs8 : size ≤ 8) (w : World) (hc : Boxed w Bs 3 (.int .i64 (size : Int))) :
    SeqStopsK F n Try.prog 69 #[.pointer (some ⟨Bs, 0, none⟩)] (plEncs size) (KeepsBox Bs) (fun ys => ys = plTo size size (Nat.le_refl _)) (fun _ => True) size w := fun l J Jx W hW _ _ hY h0 => by
  have hc' : Boxed W Bs 3 (.int .i64 (size : Int)) := (hW.block Bs hc.lt).trans hc
  exact places1_in F n hf hro hn l Bs size hs8 J Jx hY W hc' h0

end Go.Proofs.Ytibkanmboglcgaa

/-
  The contract of octets.Put: n as 'size' octets, the highest first; refused where it does not fit.
-/
namespace Go.Proofs.Ytibkanmboglcgaa
open Go.RowKit Go.Shelf
attribute [local go_sem] Oper.semAt_some
set_option linter.unusedVariables false

/-- behind some of the rounds -/
def putOf (n s : Nat) (pre : List (Pl s)) : List UInt8 := (List.range s).map fun j => if j ∈ pre.map (·.1) then ob n (s - 1 - j) else 0
theorem putOf_length (n s : Nat) (pre : List (Pl s)) : (putOf n s pre).length = s := by simp [putOf]
theorem putOf_nil (n s : Nat) : (putOf n s []).map enc = List.replicate s (.int .u8 0) := by
  apply List.ext_getElem
  · simp [putOf]
  · intro i h1 h2; simp [putOf, enc]
theorem putOf_snoc (n s : Nat) (pre : List (Pl s)) (x : Pl s) : ((putOf n s pre).map enc).set x.1 (enc (ob n (s - 1 - x.1))) = (putOf n s (pre ++ [x])).map enc := by
  rw [← List.map_set]
  congr 1
  apply List.ext_getElem
  · simp [putOf]
  · intro i h1 h2
    rw [List.getElem_set]
    by_cases h : x.1 = i
    · subst h; simp [putOf]
    · have h' : ¬ i = x.1 := fun e => h e.symm
      rw [if_neg h]
      simp [putOf, h']
theorem mem_plTo (s j : Nat) (h : j < s) : j ∈ (plTo s s (Nat.le_refl _)).map (·.1) := by
  simp [plTo]; exact ⟨⟨j, h⟩, rfl⟩
theorem putOf_all (n s : Nat) : putOf n s (plTo s s (Nat.le_refl _)) = oc n s := by
  unfold putOf oc
  apply List.map_congr_left
  intro j hj
  rw [if_pos (mem_plTo s j (List.mem_range.1 hj))]

theorem place_own {β : Type} (n₀ g e s : Nat) (f : β → List Value) : Own (fun (x : β) W => W.ownsRow n₀ e 1 (.slice (some ⟨g, 0, none⟩) s s) s (f x)) := by
  intro x X Y row hr hg hrow
  refine hr.kept hg (.inr fun e' => ?_)
  rcases hr.2 with ⟨h, _⟩ | ⟨g', cap, cur, hv, _, hgb, _⟩
  · cases h
  · obtain ⟨rfl, rfl⟩ : g = g' ∧ s = cap := by simpa using hv
    obtain ⟨o, ho, hc⟩ := hrow g (by simpa [Value.ownBlock] using e'.symm)
    rw [hgb] at ho; cases ho; cases hc

set_option maxRecDepth 100000 in
set_option maxHeartbeats 400000 in
theorem put_range (n : Nat) (size : Int) (w : World) (h : size < 1 ∨ 8 < size) :
    Calls Try.prog 62 #[.int .u64 (n : Int), .int .i64 size] w fun e w' => e = .returned (.tuple #[.slice none 0 0, .int .i64 4]) ∧ Below w.heap.size w w' := by
  have hB : Below w.heap.size w (w.alloc (.cells #[.int .u64 (n : Int)] 91)) := (Below.refl _ _).alloc (Nat.le_refl _) _
  by_cases h0 : size < 1
  · go_enter Try.func62, Try.ntmps62
    go_wp2
    go_ret2
    exact ⟨rfl, hB⟩
  · have h' : 8 < size := by omega
    go_enter Try.func62, Try.ntmps62
    go_wp2
    go_ret2
    exact ⟨rfl, hB⟩

set_option maxRecDepth 100000 in
set_option maxHeartbeats 400000 in
theorem put_wide (n s : Nat) (w : World) (h1 : 1 ≤ s) (h8 : s ≤ 8) (hn : 2 ^ (8 * s) ≤ n) :
    Calls Try.prog 62 #[.int .u64 (n : Int), .int .i64 (s : Int)] w fun e w' => e = .returned (.tuple #[.slice none 0 0, .int .i64 4]) ∧ Below w.heap.size w w' := by
  have hB : Below w.heap.size w (w.alloc (.cells #[.int .u64 (n : Int)] 91)) := (Below.refl _ _).alloc (Nat.le_refl _) _
  have hd1 : decide ((s : Int) < 1) = false := by simp; omega
  have hd2 : decide (8 < (s : Int)) = false := by simp; omega
  have hz : ((n : Int) / 2 ^ (8 * s) != 0) = true := by
    have : 0 < n / 2 ^ (8 * s) := Nat.div_pos hn (Nat.two_pow_pos _)
    simp only [bne_iff_ne, ne_eq]
    intro h
    have : n / 2 ^ (8 * s) = 0 := by exact_mod_cast h
    omega
  clear hn
  go_enter Try.func62, Try.ntmps62
  go_wp2
  go_ret2
  exact ⟨rfl, hB⟩

theorem wrap_ob (n s k : Nat) (h : k < s) : Value.int .u8 (IntKind.u8.wrap ((n : Int) / 2 ^ (8 * ((s : Int) - 1 - (k : Int))).toNat)) = enc (ob n (s - 1 - k)) := by
  rw [enc_ob, show (8 * ((s : Int) - 1 - (k : Int))).toNat = 8 * (s - 1 - k) from by omega, IntKind.wrap_u8']

theorem put_step {n s B k : Nat} (hk : k < s) {pre : List (Pl s)} {w W : World} (bn : Boxed W B 91 (.int .u64 (n : Int))) (bb : Boxed W (B + 1 + 1) 54 (.slice (some ⟨B + 1, 0, none⟩) s s))
    (hr : W.ownsRow B 5 1 (.slice (some ⟨B + 1, 0, none⟩) s s) s ((putOf n s pre).map enc)) (hB : Below B w W) :
    KeepsOthers W (W.setCell ⟨B + 1, k, none⟩ (.int .u8 (IntKind.u8.wrap ((n : Int) / 2 ^ (8 * ((s : Int) - 1 - (k : Int))).toNat)))).drew ∧
    KeepsBox (B + 1 + 1 + 1) W (W.setCell ⟨B + 1, k, none⟩ (.int .u8 (IntKind.u8.wrap ((n : Int) / 2 ^ (8 * ((s : Int) - 1 - (k : Int))).toNat)))).drew ∧
    (Boxed (W.setCell ⟨B + 1, k, none⟩ (.int .u8 (IntKind.u8.wrap ((n : Int) / 2 ^ (8 * ((s : Int) - 1 - (k : Int))).toNat)))).drew B 91 (.int .u64 (n : Int)) ∧
      Boxed (W.setCell ⟨B + 1, k, none⟩ (.int .u8 (IntKind.u8.wrap ((n : Int) / 2 ^ (8 * ((s : Int) - 1 - (k : Int))).toNat)))).drew (B + 1 + 1) 54 (.slice (some ⟨B + 1, 0, none⟩) s s) ∧
      (W.setCell ⟨B + 1, k, none⟩ (.int .u8 (IntKind.u8.wrap ((n : Int) / 2 ^ (8 * ((s : Int) - 1 - (k : Int))).toNat)))).drew.ownsRow B 5 1 (.slice (some ⟨B + 1, 0, none⟩) s s) s ((putOf n s (pre ++ [⟨k, hk⟩])).map enc)) ∧
    Below B w (W.setCell ⟨B + 1, k, none⟩ (.int .u8 (IntKind.u8.wrap ((n : Int) / 2 ^ (8 * ((s : Int) - 1 - (k : Int))).toNat)))).drew := by
  rw [wrap_ob n s k hk]
  refine ⟨(KeepsOthers.setCell W _ _).trans (KeepsOthers.drew _), KeepsBox.setCell _ (by omega), ⟨?_, ?_, ?_⟩, (hB.setCell (p := ⟨B + 1, k, none⟩) (by simp) _).drew⟩
  · exact (Below.heap_setCell W ⟨B + 1, k, none⟩ _ B (by simp)).trans bn
  · exact (Below.heap_setCell W ⟨B + 1, k, none⟩ _ (B + 1 + 1) (by simp)).trans bb
  · rw [← putOf_snoc n s pre ⟨k, hk⟩]
    exact (hr.stored k (enc (ob n (s - 1 - k)))).1

set_option maxHeartbeats 2000000 in
set_option maxRecDepth 100000 in
theorem put_in (F : Fence) (m : Nat) (hro : F.round = none) (f0 : F.fn 62) (f1 : F.fn 67) (f2 : F.fn 69) (hm : 4 ≤ m) (n s : Nat) (w : World) (h1 : 1 ≤ s) (h8 : s ≤ 8) (hn : n < 2 ^ (8 * s)) (hn64 : n < 18446744073709551616) :
    CallsIn F m Try.prog 62 #[.int .u64 (n : Int), .int .i64 (s : Int)] w fun e w' => ∃ v, e = .returned (.tuple #[v, .int .i64 0]) ∧ OwnB w.heap.size w' v (oc n s) ∧ Below w.heap.size w w' := by
  have hm1 : 1 ≤ m := by omega
  obtain ⟨i0, hi, hz0, hz1, hz2⟩ := info_parts info8
  have hd1 : decide ((s : Int) < 1) = false := by simp; omega
  have hd2 : decide (8 < (s : Int)) = false := by simp; omega
  have hz : ((n : Int) / 2 ^ (8 * s) != 0) = false := by
    simp
    exact_mod_cast Nat.div_eq_of_lt hn
  have hmk : ∀ u : World, (Instr.makeSlice 54 (.int .i64 (s : Int)) (.int .i64 (s : Int))).run Try.prog u =
      .ok (.slice (some ⟨u.heap.size, 0, none⟩) s s) (u.alloc (.cells (madeCells #[.int .u8 0] s) 5)) := fun u => by
    have h := run_make (P := Try.prog) u 54 5 i0 (.int .u8 0) Try.underlying54 hi hz0 .i64 .i64 (s : Int) (s : Int) (by omega) (Int.le_refl _) (by rw [hz2]; omega) (by omega)
    simpa [hz1, Value.cells] using h
  have HN : Hid (n < 2 ^ (8 * s)) := hn
  clear hn
  refine callsIn_of_wp_marks Try.func62 rfl f0 ?_ hro
  simp only [Try.ntmps62, List.size_toArray, List.length_cons, List.length_nil, Nat.reduceAdd, Nat.reduceSub, Array.replicate_succ, Array.replicate_zero, List.push_toArray, List.append_toArray, List.nil_append, List.cons_append]
  gi_wp2_with (gi_at_call 67; refine (places_in F _ f1 hro _ _).mono ?_; rintro e w' ⟨rfl, rfl⟩)
  obtain ⟨B, hBd⟩ : ∃ B, w.heap.size = B := ⟨_, rfl⟩
  rw [hBd]
  obtain ⟨W0, hW0⟩ : ∃ W0, (((w.alloc (.cells #[.int .u64 (n : Int)] 91)).alloc (.cells (madeCells #[.int .u8 0] s) 5)).alloc (.cells #[.slice (some ⟨B + 1, 0, none⟩) s s] 54)).alloc (.cells #[.int .i64 (s : Int)] 3) = W0 := ⟨_, rfl⟩
  have hsz : W0.heap.size = B + 4 := by rw [← hW0]; simp [hBd]
  have bn : Boxed W0 B 91 (.int .u64 (n : Int)) := by
    rw [← hW0, ← hBd]; exact (((Boxed.new w _ _).alloc _).alloc _).alloc _
  have bb : Boxed W0 (B + 1 + 1) 54 (.slice (some ⟨B + 1, 0, none⟩) s s) := by
    rw [← hW0]
    have := Boxed.new ((w.alloc (.cells #[.int .u64 (n : Int)] 91)).alloc (.cells (madeCells #[.int .u8 0] s) 5)) 54 (.slice (some ⟨B + 1, 0, none⟩) s s)
    simp only [World.size_alloc, hBd] at this
    exact this.alloc _
  have bs : Boxed W0 (B + 1 + 1 + 1) 3 (.int .i64 (s : Int)) := by
    rw [← hW0]
    have := Boxed.new (((w.alloc (.cells #[.int .u64 (n : Int)] 91)).alloc (.cells (madeCells #[.int .u8 0] s) 5)).alloc (.cells #[.slice (some ⟨B + 1, 0, none⟩) s s] 54)) 3 (.int .i64 (s : Int))
    simp only [World.size_alloc, hBd] at this
    exact this
  have hrow : W0.ownsRow B 5 1 (.slice (some ⟨B + 1, 0, none⟩) s s) s ((putOf n s []).map enc) := by
    rw [putOf_nil, ← hW0, ← toList_madeCells_one]
    have := World.ownsRow_lit (base := B) (e := 5) (size := 1) (w.alloc (.cells #[.int .u64 (n : Int)] 91)) (madeCells #[.int .u8 0] s) s (by simp [hBd]) (by unfold maxLen; omega) (by simp [madeCells])
    simp only [World.size_alloc, hBd] at this
    exact (this.alloc _).alloc _
  have hB0 : Below B w W0 := by
    rw [← hW0, ← hBd]; exact ((((Below.refl _ w).alloc (Nat.le_refl _) _).alloc (by simp) _).alloc (by simp; omega) _).alloc (by simp; omega) _
  rw [hW0]
  refine wpIn_rangeFunc_ownF hro hm1 (gf := 69) (lb := #[.pointer (some ⟨B + 1 + 1 + 1, 0, none⟩)]) rfl f2 (enters_of Try.func69 (by kernel_rfl) rfl)
    (places_stops F (m - 1) f2 hro (by omega) (B + 1 + 1 + 1) s h8 W0 bs) KeepsBox.trans (KeepsBox.put (by omega)) (Below.refl _ _) (fun _ => rfl)
    (fun pre W => (Boxed W B 91 (.int .u64 (n : Int)) ∧ Boxed W (B + 1 + 1) 54 (.slice (some ⟨B + 1, 0, none⟩) s s) ∧ W.ownsRow B 5 1 (.slice (some ⟨B + 1, 0, none⟩) s s) s ((putOf n s pre).map enc)) ∧ Below B w W)
    (fun _ _ _ => False)
    (OwnFrom.and (OwnFrom.and (Own.from (boxed_own _ _ _) _) (OwnFrom.and (Own.from (boxed_own _ _ _) _) (Own.from (place_own _ _ _ _ _) _))) (ownFrom_below (by omega) (by omega)))
    (fun _ _ _ _ _ hs _ _ => hs)
    ⟨⟨bn, bb, hrow⟩, hB0⟩
    (fun x => { tmps := #[.int .u64 (n : Int), .int .i64 (s : Int), .pointer (some ⟨B, 0, none⟩), undef, .slice none 0 0, .int .i64 0, .pointer (some ⟨B + 1 + 1, 0, none⟩), .int .i64 (x.1 : Int), .int .i64 (8 * ((s : Int) - 1 - (x.1 : Int))), .int .i64 (s : Int), .bool false, .bool false, .int .i64 (s : Int), .bool false, .bool false, .int .u64 (n : Int), .int .i64 (s : Int), .int .i64 (8 * (s : Int)), .int .u64 ((n : Int) / 2 ^ (8 * s)), .bool false, .int .i64 (s : Int), .slice (some ⟨B + 1, 0, none⟩) s s, .int .i64 (s : Int), .func (.func 69) #[] #[.pointer (some ⟨B + 1 + 1 + 1, 0, none⟩)], .int .i64 (x.1 : Int), .int .i64 (8 * ((s : Int) - 1 - (x.1 : Int))), undef, undef, undef, undef, undef, undef, undef, undef], defers := [] }) ?assign ?body ?done ?stop
  case assign =>
    intro l x W K hK
    dsimp only [plEncs]
    gi_wp2
    exact hK
  case body =>
    rintro l pre ⟨k, hk⟩ W ⟨⟨bn, bb, hr⟩, hB⟩ _
    have cn := bn.cell
    have cb := bb.cell
    have hq : (k : Int) < (s : Int) := by omega
    have fz := hr.frozenAt k
    obtain ⟨u, cl⟩ : ∃ u, W.cell? ⟨B + 1, k, none⟩ = some u := by
      rw [hr.cellAt k (by omega)]
      exact ⟨_, List.getElem?_eq_getElem (by simp [putOf_length]; exact hk)⟩
    have fin := put_step hk bn bb hr hB
    have FIN := hide fin
    clear fin hmk hW0 hrow bs hB0 hi hz0 hz1 hz2 hB hr bb bn hz hd1 hd2 hro f0 f1 f2
    gi_wp2
    gi_region
    all_goals gi_wp2
    all_goals exact FIN.out
  case done =>
    rintro D ys W hD rfl ⟨⟨bn, bb, hr⟩, hB⟩ hK
    have cb := bb.cell
    gi_wp2
    refine ⟨by simp, .inl ⟨_, _, rfl, run_takeDeferred hK, ?_⟩⟩
    refine ⟨_, results_tmp2 rfl _ _ _, _, rfl, ?_, ?_⟩
    · unfold OwnB
      rw [oc_length, hBd, ← putOf_all]
      exact ownsRow_putObj hr _ hK rfl
    · rw [hBd]
      exact hB.trans (belowK_b (w := W0) (by omega) W D _ _ hD hK rfl rfl)
  case stop =>
    rintro D c pre W _ _ h _
    exact h.elim

theorem put_yes (n s : Nat) (w : World) (h1 : 1 ≤ s) (h8 : s ≤ 8) (hn : n < 2 ^ (8 * s)) (hn64 : n < 18446744073709551616) :
    Calls Try.prog 62 #[.int .u64 (n : Int), .int .i64 (s : Int)] w fun e w' => ∃ v, e = .returned (.tuple #[v, .int .i64 0]) ∧ OwnB w.heap.size w' v (oc n s) ∧ Below w.heap.size w w' :=
  (callsIn_wide (n := 5)).1 (put_in Fence.wide 5 rfl trivial trivial trivial (by omega) n s w h1 h8 hn hn64)

end Go.Proofs.Ytibkanmboglcgaa

/-
  The contract of octets.Get: the number that 1 to 8 octets are, the highest first; Get of what Put gives is the number.
-/
namespace Go.Proofs.Ytibkanmboglcgaa
open Go.RowKit Go.Shelf
attribute [local go_sem] Oper.semAt_some
set_option linter.unusedVariables false

/-- behind some of the rounds -/
def getOf (xs : List UInt8) {s : Nat} (pre : List (Pl s)) : Nat := pre.foldl (fun a k => a ||| (xs.getD k.1 0).toNat * 2 ^ (8 * (s - 1 - k.1))) 0
theorem getOf_snoc (xs : List UInt8) {s : Nat} (pre : List (Pl s)) (k : Pl s) : getOf xs (pre ++ [k]) = getOf xs pre ||| (xs.getD k.1 0).toNat * 2 ^ (8 * (s - 1 - k.1)) := by
  simp [getOf]
theorem piece_lt (xs : List UInt8) {s k : Nat} (hk : k < s) : (xs.getD k 0).toNat * 2 ^ (8 * (s - 1 - k)) < 2 ^ (8 * (s - k)) := by
  have := (xs.getD k 0).toNat_lt
  rw [show s - k = (s - 1 - k) + 1 from by omega, show 8 * (s - 1 - k + 1) = 8 * (s - 1 - k) + 8 from by omega, Nat.pow_add]
  have h2 := Nat.two_pow_pos (8 * (s - 1 - k))
  rw [Nat.mul_comm (2 ^ _) (2 ^ 8)]
  exact (Nat.mul_lt_mul_right h2).2 this
theorem getOf_lt (xs : List UInt8) {s : Nat} (h8 : s ≤ 8) (pre : List (Pl s)) : getOf xs pre < 18446744073709551616 := by
  have h64 : (18446744073709551616 : Nat) = 2 ^ 64 := by decide
  rw [h64]
  unfold getOf
  have h : ∀ (l : List (Pl s)) (a : Nat), a < 2 ^ 64 → l.foldl (fun a k => a ||| (xs.getD k.1 0).toNat * 2 ^ (8 * (s - 1 - k.1))) a < 2 ^ 64 := by
    intro l
    induction l with
    | nil => intro a ha; exact ha
    | cons k r ih =>
      intro a ha
      refine ih _ (Nat.or_lt_two_pow ha ?_)
      exact Nat.lt_of_lt_of_le (piece_lt xs k.2) (Nat.pow_le_pow_right (by omega) (by omega))
  exact h pre 0 (by decide)
theorem getOf_to (xs : List UInt8) (s k : Nat) (hk : k ≤ s) : getOf xs (plTo s k hk) = numTo xs k * 2 ^ (8 * (s - k)) := by
  induction k with
  | zero => simp [getOf, plTo, numTo]
  | succ k ih =>
    rw [plTo_succ s k hk, getOf_snoc, ih (by omega)]
    simp only
    rw [nat_join (8 * (s - k)) _ _ (Nat.mul_mod_left _ _) (piece_lt xs hk)]
    simp only [numTo]
    rw [show s - k = (s - 1 - k) + 1 from by omega, show s - (k + 1) = s - 1 - k from by omega, show 8 * (s - 1 - k + 1) = 8 * (s - 1 - k) + 8 from by omega, Nat.pow_add, Nat.add_mul]
    congr 1
    rw [Nat.mul_comm (2 ^ (8 * (s - 1 - k))) (2 ^ 8), ← Nat.mul_assoc]
theorem getOf_all (xs : List UInt8) : getOf xs (plTo xs.length xs.length (Nat.le_refl _)) = numOf xs := by
  rw [getOf_to]; simp [numOf]

theorem box_nat_own {β : Type} (B : Nat) (t : TypeId) (f : β → Value) : Own (fun (x : β) W => Boxed W B t (f x)) := boxed_own B t f

set_option maxRecDepth 100000 in
set_option maxHeartbeats 400000 in
theorem get_no (w : World) (v : Value) (xs : List UInt8) (h : Rd w v xs) (hl : xs.length < 1 ∨ 8 < xs.length) :
    Calls Try.prog 65 #[v] w fun e w' => e = .returned (.tuple #[.int .u64 0, .int .i64 3]) ∧ Below w.heap.size w w' := by
  obtain ⟨a, c, rfl, l1, m1, n1, r1⟩ := h
  unfold maxLen at m1
  have hB : Below w.heap.size w (w.alloc (.cells #[.slice a xs.length c] 54)) := (Below.refl _ _).alloc (Nat.le_refl _) _
  by_cases h0 : xs.length < 1
  · go_enter Try.func65, Try.ntmps65
    go_wp2
    go_ret2
    exact ⟨rfl, hB⟩
  · have h' : 8 < xs.length := by omega
    go_enter Try.func65, Try.ntmps65
    go_wp2
    go_ret2
    exact ⟨rfl, hB⟩

theorem wrap_piece (xs : List UInt8) (s k : Nat) (hk : k < s) (h8 : s ≤ 8) : IntKind.u64.wrap (IntKind.u64.wrap (bt xs k) * 2 ^ (8 * ((s : Int) - 1 - (k : Int))).toNat) = (((xs.getD k 0).toNat * 2 ^ (8 * (s - 1 - k)) : Nat) : Int) := by
  have hb := bt_bd xs k
  have hl := piece_lt xs hk
  have h64 : 2 ^ (8 * (s - k)) ≤ 2 ^ 64 := Nat.pow_le_pow_right (by omega) (by omega)
  have e64 : (2 : Nat) ^ 64 = 18446744073709551616 := by decide
  rw [e64] at h64
  rw [show (8 * ((s : Int) - 1 - (k : Int))).toNat = 8 * (s - 1 - k) from by omega, IntKind.wrap_u64, IntKind.wrap_u64, Int.emod_eq_of_lt hb.1 (by omega)]
  have e : bt xs k * 2 ^ (8 * (s - 1 - k)) = (((xs.getD k 0).toNat * 2 ^ (8 * (s - 1 - k)) : Nat) : Int) := by
    unfold bt; rw [Int.natCast_mul, Int.natCast_pow]; rfl
  rw [e]
  omega

theorem get_step {xs : List UInt8} {s B k : Nat} (hk : k < s) (h8 : s ≤ 8) {pre : List (Pl s)} {w W : World} {sv : Value} (bb : Boxed W B 54 sv) (bn : Boxed W (B + 1) 91 (.int .u64 (getOf xs pre : Nat))) (hB : Below B w W) :
    KeepsOthers W (W.setCell ⟨B + 1, 0, none⟩ (.int .u64 (bits .or .u64 (getOf xs pre : Nat) (IntKind.u64.wrap (IntKind.u64.wrap (bt xs k) * 2 ^ (8 * ((s : Int) - 1 - (k : Int))).toNat))))).drew ∧
    KeepsBox (B + 1 + 1) W (W.setCell ⟨B + 1, 0, none⟩ (.int .u64 (bits .or .u64 (getOf xs pre : Nat) (IntKind.u64.wrap (IntKind.u64.wrap (bt xs k) * 2 ^ (8 * ((s : Int) - 1 - (k : Int))).toNat))))).drew ∧
    (Boxed (W.setCell ⟨B + 1, 0, none⟩ (.int .u64 (bits .or .u64 (getOf xs pre : Nat) (IntKind.u64.wrap (IntKind.u64.wrap (bt xs k) * 2 ^ (8 * ((s : Int) - 1 - (k : Int))).toNat))))).drew B 54 sv ∧
      Boxed (W.setCell ⟨B + 1, 0, none⟩ (.int .u64 (bits .or .u64 (getOf xs pre : Nat) (IntKind.u64.wrap (IntKind.u64.wrap (bt xs k) * 2 ^ (8 * ((s : Int) - 1 - (k : Int))).toNat))))).drew (B + 1) 91 (.int .u64 (getOf xs (pre ++ [⟨k, hk⟩]) : Nat))) ∧
    Below B w (W.setCell ⟨B + 1, 0, none⟩ (.int .u64 (bits .or .u64 (getOf xs pre : Nat) (IntKind.u64.wrap (IntKind.u64.wrap (bt xs k) * 2 ^ (8 * ((s : Int) - 1 - (k : Int))).toNat))))).drew := by
  have e64 : (2 : Nat) ^ 64 = 18446744073709551616 := by decide
  have h64 : 2 ^ (8 * (s - k)) ≤ 2 ^ 64 := Nat.pow_le_pow_right (by omega) (by omega)
  rw [wrap_piece xs s k hk h8, u64_or_nat _ _ (getOf_lt xs h8 pre) (by have := piece_lt xs hk; omega), ← getOf_snoc xs pre ⟨k, hk⟩]
  refine ⟨(KeepsOthers.setCell W _ _).trans (KeepsOthers.drew _), KeepsBox.setCell _ (by omega), ⟨?_, ?_⟩, (hB.setCell (p := ⟨B + 1, 0, none⟩) (by simp) _).drew⟩
  · exact (Below.heap_setCell W ⟨B + 1, 0, none⟩ _ B (by simp)).trans bb
  · exact bn.set _

set_option maxHeartbeats 4000000 in
set_option maxRecDepth 100000 in
theorem get_in (F : Fence) (m : Nat) (hro : F.round = none) (f0 : F.fn 65) (f1 : F.fn 67) (f2 : F.fn 69) (hm : 4 ≤ m) (w : World) (v : Value) (xs : List UInt8) (hv : Rd w v xs) (h1 : 1 ≤ xs.length) (h8 : xs.length ≤ 8) :
    CallsIn F m Try.prog 65 #[v] w fun e w' => e = .returned (.tuple #[.int .u64 (numOf xs : Nat), .int .i64 0]) ∧ Below w.heap.size w w' := by
  have hm1 : 1 ≤ m := by omega
  obtain ⟨a, c, rfl, l1, mx, n1, r1⟩ := hv
  rw [show maxLen = 9223372036854775807 from rfl] at mx
  rcases r1 with rfl | ⟨b, off, rfl, hc⟩
  · simp at h1
  have hbl : b < w.heap.size := cell_lt (hc 0 (by omega))
  obtain ⟨s, hs⟩ : ∃ s, xs.length = s := ⟨_, rfl⟩
  have HS := hide hs
  rw [hs] at h1 h8 l1 hc ⊢
  clear hs
  have hd1 : decide ((s : Int) < 1) = false := by simp; omega
  have hd2 : decide (8 < (s : Int)) = false := by simp; omega
  refine callsIn_of_wp_marks Try.func65 rfl f0 ?_ hro
  simp only [Try.ntmps65, List.size_toArray, List.length_cons, List.length_nil, Nat.reduceAdd, Nat.reduceSub, Array.replicate_succ, Array.replicate_zero, List.push_toArray, List.append_toArray, List.nil_append, List.cons_append]
  gi_wp2_with (gi_at_call 67; refine (places_in F _ f1 hro _ _).mono ?_; rintro e w' ⟨rfl, rfl⟩)
  obtain ⟨B, hBd⟩ : ∃ B, w.heap.size = B := ⟨_, rfl⟩
  rw [hBd]
  obtain ⟨W0, hW0⟩ : ∃ W0, ((w.alloc (.cells #[.slice (some ⟨b, off, none⟩) s c] 54)).alloc (.cells #[.int .u64 0] 91)).alloc (.cells #[.int .i64 (s : Int)] 3) = W0 := ⟨_, rfl⟩
  have hsz : W0.heap.size = B + 3 := by rw [← hW0]; simp [hBd]
  have bb : Boxed W0 B 54 (.slice (some ⟨b, off, none⟩) s c) := by
    rw [← hW0, ← hBd]; exact ((Boxed.new w _ _).alloc _).alloc _
  have bn : Boxed W0 (B + 1) 91 (.int .u64 (getOf xs (s := s) [] : Nat)) := by
    rw [← hW0]
    have := Boxed.new (w.alloc (.cells #[.slice (some ⟨b, off, none⟩) s c] 54)) 91 (.int .u64 0)
    simp only [World.size_alloc, hBd] at this
    exact this.alloc _
  have bs : Boxed W0 (B + 1 + 1) 3 (.int .i64 (s : Int)) := by
    rw [← hW0]
    have := Boxed.new ((w.alloc (.cells #[.slice (some ⟨b, off, none⟩) s c] 54)).alloc (.cells #[.int .u64 0] 91)) 3 (.int .i64 (s : Int))
    simp only [World.size_alloc, hBd] at this
    exact this
  have hB0 : Below B w W0 := by
    rw [← hW0, ← hBd]; exact (((Below.refl _ w).alloc (Nat.le_refl _) _).alloc (by simp) _).alloc (by simp; omega) _
  rw [hW0]
  refine wpIn_rangeFunc_ownF hro hm1 (gf := 69) (lb := #[.pointer (some ⟨B + 1 + 1, 0, none⟩)]) rfl f2 (enters_of Try.func69 (by kernel_rfl) rfl)
    (places_stops F (m - 1) f2 hro (by omega) (B + 1 + 1) s h8 W0 bs) KeepsBox.trans (KeepsBox.put (by omega)) (Below.refl _ _) (fun _ => rfl)
    (fun pre W => (Boxed W B 54 (.slice (some ⟨b, off, none⟩) s c) ∧ Boxed W (B + 1) 91 (.int .u64 (getOf xs pre : Nat))) ∧ Below B w W)
    (fun _ _ _ => False)
    (OwnFrom.and (OwnFrom.and (Own.from (boxed_own _ _ _) _) (Own.from (boxed_own _ _ _) _)) (ownFrom_below (by omega) (by omega)))
    (fun _ _ _ _ _ hs _ _ => hs)
    ⟨⟨bb, bn⟩, hB0⟩
    (fun x => { tmps := #[.slice (some ⟨b, off, none⟩) s c, .pointer (some ⟨B, 0, none⟩), .int .u64 0, .int .i64 0, .pointer (some ⟨B + 1, 0, none⟩), .int .i64 (x.1 : Int), .int .i64 (8 * ((s : Int) - 1 - (x.1 : Int))), .slice (some ⟨b, off, none⟩) s c, .int .i64 (s : Int), .bool false, .bool false, .slice (some ⟨b, off, none⟩) s c, .int .i64 (s : Int), .bool false, .bool false, .slice (some ⟨b, off, none⟩) s c, .int .i64 (s : Int), .func (.func 69) #[] #[.pointer (some ⟨B + 1 + 1, 0, none⟩)], .int .i64 (x.1 : Int), .int .i64 (8 * ((s : Int) - 1 - (x.1 : Int))), undef, undef, undef, undef, undef, undef, undef, undef, undef, undef], defers := [] }) ?assign ?body ?done ?stop
  case assign =>
    intro l x W K hK
    dsimp only [plEncs]
    gi_wp2
    exact hK
  case body =>
    rintro l pre ⟨k, hk⟩ W ⟨⟨bb, bn⟩, hB⟩ _
    have cb := bb.cell
    have cn := bn.cell
    have fn := bn.frozen
    have hq : (k : Int) < (s : Int) := by omega
    have cc : W.cell? ⟨b, off + k, none⟩ = some (.int .u8 (bt xs k)) := (hB.cell (p := ⟨b, off + k, none⟩) (by rw [← hBd]; exact hbl)).trans (hc k hk)
    have hbd := bt_bd xs k
    have fin := get_step hk h8 bb bn hB
    have FIN := hide fin
    clear fin hW0 bs hB0 hro f0 f1 f2 hc bb bn hB
    gi_wp2
    gi_region
    all_goals gi_wp2
    all_goals exact FIN.out
  case done =>
    rintro D ys W hD rfl ⟨⟨bb, bn⟩, hB⟩ hK
    have cn := bn.cell
    gi_wp2
    refine ⟨by simp, .inl ⟨_, _, rfl, run_takeDeferred hK, ?_⟩⟩
    refine ⟨_, results_tmp2 rfl _ _ _, ?_, ?_⟩
    · have e : getOf xs (plTo s s (Nat.le_refl _)) = numOf xs := by
        have := HS.out
        subst this
        exact getOf_all xs
      rw [← e]
      rfl
    · rw [hBd]
      exact hB.trans (belowK_b (w := W0) (by omega) W D _ _ hD hK rfl rfl)
  case stop =>
    rintro D c pre W _ _ h _
    exact h.elim

theorem get_yes (w : World) (v : Value) (xs : List UInt8) (hv : Rd w v xs) (h1 : 1 ≤ xs.length) (h8 : xs.length ≤ 8) :
    Calls Try.prog 65 #[v] w fun e w' => e = .returned (.tuple #[.int .u64 (numOf xs : Nat), .int .i64 0]) ∧ Below w.heap.size w w' :=
  (callsIn_wide (n := 5)).1 (get_in Fence.wide 5 rfl trivial trivial trivial (by omega) w v xs hv h1 h8)

end Go.Proofs.Ytibkanmboglcgaa

/-
  The program's own small functions of frames: number, told, measure; and Seal.
-/
namespace Go.Proofs.Ytibkanmboglcgaa
open Go.RowKit
set_option linter.unusedVariables false

set_option maxRecDepth 100000 in
theorem fnumber_any (w : World) (n s : Nat) (h1 : 1 ≤ s) (h8 : s ≤ 8) (hn : n < 2 ^ (8 * s)) (hn64 : n < 18446744073709551616) :
    Calls Try.prog 56 #[.int .u64 (n : Int), .int .i64 (s : Int)] w fun e w' => ∃ v, e = .returned v ∧ OwnB w.heap.size w' v (oc n s) ∧ Below w.heap.size w w' := by
  go_enter Try.func56, Try.ntmps56
  go_wp2_with fail
  refine (put_yes n s _ h1 h8 hn hn64).mono ?_
  rintro e w1 ⟨v, rfl, o1, b1⟩
  go_wp2
  go_ret
  exact ⟨_, rfl, o1, b1⟩

set_option maxRecDepth 100000 in
theorem ftold_any (w : World) (v : Value) (xs : List UInt8) (hv : Rd w v xs) (h1 : 1 ≤ xs.length) (h8 : xs.length ≤ 8) :
    Calls Try.prog 60 #[v] w fun e w' => e = .returned (.int .u64 (numOf xs : Nat)) ∧ Below w.heap.size w w' := by
  go_enter Try.func60, Try.ntmps60
  go_wp2_with fail
  refine (get_yes _ _ _ hv h1 h8).mono ?_
  rintro e w1 ⟨rfl, b1⟩
  go_wp2
  go_ret
  exact ⟨rfl, b1⟩

/-- what measure answers: how many octets, the error -/
def fmeas (b : List UInt8) : Nat × Nat :=
  if b.length < 8 then (0, 8)
  else if b.getD 0 0 ≠ 167 then (0, 22)
  else if 4096 < ftold b then (0, 5)
  else if b.length < ftold b + 8 then (0, 8)
  else (ftold b + 8, 0)
theorem fmeas_no {b : List UInt8} (h : (fmeas b).2 ≠ 0) : (fmeas b).1 = 0 ∧ fopen b = ((fmeas b).2, (0, []), 0) := by
  unfold fmeas at *
  unfold fopen
  by_cases h1 : b.length < 8
  · simp [h1]
  rw [if_neg h1] at *
  by_cases h2 : b.getD 0 0 ≠ 167
  · rw [if_pos h2] at *; rw [if_neg h1, if_pos h2]; exact ⟨rfl, rfl⟩
  rw [if_neg h2] at *
  by_cases h3 : 4096 < ftold b
  · rw [if_pos h3] at *; rw [if_neg h1, if_neg h2, if_pos h3]; exact ⟨rfl, rfl⟩
  rw [if_neg h3] at *
  by_cases h4 : b.length < ftold b + 8
  · rw [if_pos h4] at *; rw [if_neg h1, if_neg h2, if_neg h3, if_pos h4]; exact ⟨rfl, rfl⟩
  rw [if_neg h4] at h
  exact absurd rfl h
theorem fmeas_yes {b : List UInt8} (h : (fmeas b).2 = 0) : (fmeas b).1 = ftold b + 8 ∧ 8 ≤ b.length ∧ ftold b ≤ 4096 ∧ ftold b + 8 ≤ b.length ∧
    fopen b = if numOf ((b.drop (ftold b + 4)).take 4) ≠ sum (b.take (ftold b + 4)) then (21, (0, []), 0) else (0, (b.getD 1 0, (b.drop 4).take (ftold b)), ftold b + 8) := by
  unfold fmeas at *
  unfold fopen
  by_cases h1 : b.length < 8
  · simp [h1] at h
  rw [if_neg h1] at *
  by_cases h2 : b.getD 0 0 ≠ 167
  · rw [if_pos h2] at h; simp at h
  rw [if_neg h2] at *
  by_cases h3 : 4096 < ftold b
  · simp [h3] at h
  rw [if_neg h3] at *
  by_cases h4 : b.length < ftold b + 8
  · simp [h4] at h
  rw [if_neg h4] at *
  rw [if_neg h1, if_neg h2, if_neg h3, if_neg h4]
  exact ⟨rfl, by omega, by omega, by omega, rfl⟩

set_option maxRecDepth 100000 in
set_option maxHeartbeats 1000000 in
theorem fmeasure_any (w : World) (v : Value) (b : List UInt8) (hrd : Rd w v b) (hm : b.length ≤ 1000000000000000) :
    Calls Try.prog 59 #[v] w fun e w' => e = .returned (.tuple #[.int .i64 ((fmeas b).1 : Nat), .int .i64 ((fmeas b).2 : Nat)]) ∧ Below w.heap.size w w' := by
  obtain ⟨ao, cap, rfl⟩ := hrd.slice
  by_cases h1 : b.length < 8
  · have hq : (b.length : Int) < 8 := by omega
    have hF : Hid (fmeas b = (0, 8)) := by show _ = _; unfold fmeas; rw [if_pos h1]
    go_enter Try.func59, Try.ntmps59
    go_wp2
    go_ret2
    rw [hF.out]
    exact ⟨rfl, Below.refl _ _⟩
  have hq : ¬ (b.length : Int) < 8 := by omega
  have hrd0 := hrd
  obtain ⟨a1, c1, e1, l1, m1, n1, r1⟩ := hrd
  cases e1
  rcases r1 with r1 | ⟨b1, o1, rfl, hc1⟩
  · rw [r1] at h1; simp at h1
  have t0 := hc1 0 (by omega)
  simp only [Nat.add_zero] at t0
  have q0 : (0 : Int) < (b.length : Int) := by omega
  clear hc1
  by_cases h2 : b.getD 0 0 ≠ 167
  · have hF : Hid (fmeas b = (0, 22)) := by show _ = _; unfold fmeas; rw [if_neg h1, if_pos h2]
    have hd : (bt b 0 != 167) = true := by
      simp only [bne_iff_ne]
      intro e; apply h2; unfold bt at e
      exact UInt8.toNat_inj.1 (show (b.getD 0 0).toNat = 167 by omega)
    go_enter Try.func59, Try.ntmps59
    go_wp2
    go_ret2
    rw [hF.out]
    exact ⟨rfl, Below.refl _ _⟩
  have hd : (bt b 0 != 167) = false := by
    have : b.getD 0 0 = 167 := Decidable.not_not.1 h2
    unfold bt; rw [this]; rfl
  have rT : Rd w (.slice (some ⟨b1, o1 + 2, none⟩) 2 (cap - 2)) ((b.drop 2).take 2) := by
    have := (rd_sub hrd0 (q := 2) (to := 4) (by omega) (by omega)).1
    rw [List.drop_take] at this
    simpa [Addr.add] using this
  have hT : Calls Try.prog 60 #[.slice (some ⟨b1, o1 + 2, none⟩) 2 (cap - 2)] w fun e w' => e = .returned (.int .u64 (ftold b : Nat)) ∧ Below w.heap.size w w' :=
    ftold_any w _ _ rT (by simp; omega) (by simp; omega)
  have hlt := (told_int b (by omega)).2
  have x1 : (4 : Int) ≤ (cap : Int) := by omega
  have x2 : ¬ cap = 2 := by omega
  have HT := hide hT
  clear hT rT hrd0
  by_cases h3 : 4096 < ftold b
  · have hF : Hid (fmeas b = (0, 5)) := by show _ = _; unfold fmeas; rw [if_neg h1, if_neg h2, if_pos h3]
    have hd3 : (4096 : Int) < (ftold b : Int) := by omega
    go_enter Try.func59, Try.ntmps59
    go_wp2_with fail
    refine HT.out.mono ?_
    rintro e w1 ⟨rfl, b1⟩
    go_wp2
    go_ret2
    rw [hF.out]
    exact ⟨rfl, b1⟩
  have hd3 : ¬ (4096 : Int) < (ftold b : Int) := by omega
  have hw : IntKind.i64.wrap (ftold b : Int) = (ftold b : Int) := by rw [IntKind.wrap_i64]; omega
  by_cases h4 : b.length < ftold b + 8
  · have hF : Hid (fmeas b = (0, 8)) := by show _ = _; unfold fmeas; rw [if_neg h1, if_neg h2, if_neg h3, if_pos h4]
    have hd4 : (b.length : Int) < 8 + (ftold b : Int) := by omega
    go_enter Try.func59, Try.ntmps59
    go_wp2_with fail
    refine HT.out.mono ?_
    rintro e w1 ⟨rfl, b1⟩
    go_wp2
    go_ret2
    rw [hF.out]
    exact ⟨rfl, b1⟩
  have hd4 : ¬ (b.length : Int) < 8 + (ftold b : Int) := by omega
  have hF : Hid (fmeas b = (ftold b + 8, 0)) := by show _ = _; unfold fmeas; rw [if_neg h1, if_neg h2, if_neg h3, if_neg h4]
  go_enter Try.func59, Try.ntmps59
  go_wp2_with fail
  refine HT.out.mono ?_
  rintro e w1 ⟨rfl, b1⟩
  go_wp2
  go_ret2
  rw [hF.out]
  refine ⟨?_, b1⟩
  simp [Int.add_comm]

theorem make_cap {n : Nat} (hn : n ≤ 281474976710656) (u : World) : (Instr.makeSlice 54 (.int .i64 0) (.int .i64 (n : Int))).run Try.prog u =
      .ok (.slice (some ⟨u.heap.size, 0, none⟩) 0 n) (u.alloc (.cells (madeCells #[.int .u8 0] n) 5)) := by
  obtain ⟨i0, hi, hz0, hz1, hz2⟩ := info_parts info8
  have h := run_make (P := Try.prog) u 54 5 i0 (.int .u8 0) Try.underlying54 hi hz0 .i64 .i64 0 (n : Int) (by omega) (by omega) (by rw [hz2]; omega) (by omega)
  simpa [hz1, Value.cells] using h
theorem own_cap (w : World) (n : Nat) (h : n ≤ maxLen) : OwnB w.heap.size (w.alloc (.cells (madeCells #[.int .u8 0] n) 5)) (.slice (some ⟨w.heap.size, 0, none⟩) 0 n) [] :=
  ⟨rfl, .inr ⟨w.heap.size, n, _, rfl, Nat.le_refl _, heap_alloc_last w _, Nat.zero_le _, h, by simp [madeCells], by simp⟩⟩

set_option maxRecDepth 100000 in
set_option maxHeartbeats 1000000 in
theorem fseal_any (w : World) (k : UInt8) (v : Value) (d : List UInt8) (hrd : Rd w v d) (hm : d.length ≤ 140737488351232) :
    Calls Try.prog 51 #[.agg #[.int .u8 (k.toNat : Int), v]] w fun e w' => ∃ v', e = .returned (.tuple #[v', .int .i64 (fsealE d)]) ∧ OwnB w.heap.size w' v' (fsealO k d) ∧ Below w.heap.size w w' := by
  obtain ⟨w1, hw1, c0, c1, b1, s1⟩ := boxed2 w (.int .u8 (k.toNat : Int)) v 89
  obtain ⟨ao, cap, rfl⟩ := hrd.slice
  by_cases hl : 4096 < d.length
  · have hq : (4096 : Int) < (d.length : Int) := by omega
    have he : Hid (fsealE d = 5) := by show _ = _; simp [fsealE, hl]
    have ho : Hid (fsealO k d = []) := by show _ = _; simp [fsealO, hl]
    go_enter Try.func51, Try.ntmps51
    go_wp2
    go_ret2
    exact ⟨_, by rw [he.out]; rfl, by rw [ho.out]; exact World.ownsRow_nil _ _ _ _, by rw [← hw1]; exact b1⟩
  have hq : ¬ (4096 : Int) < (d.length : Int) := by omega
  have he : Hid (fsealE d = 0) := by show _ = _; simp [fsealE, hl]
  have ho : Hid (fsealO k d = fseal k d) := by show _ = _; simp [fsealO, hl]
  have hmk : ∀ u : World, (Instr.makeSlice 54 (.int .i64 0) (.int .i64 (8 + (d.length : Int)))).run Try.prog u = .ok (.slice (some ⟨u.heap.size, 0, none⟩) 0 (8 + d.length)) (u.alloc (.cells (madeCells #[.int .u8 0] (8 + d.length)) 5)) := fun u => by
    have := make_cap (n := 8 + d.length) (by omega) u
    simpa using this
  have hwl : IntKind.u64.wrap (d.length : Int) = (d.length : Int) := by rw [IntKind.wrap_u64]; omega
  have oo := own_cap w1 (8 + d.length) (by rw [show maxLen = 9223372036854775807 from rfl]; omega)
  obtain ⟨w2, hw2⟩ : ∃ w2, w2 = w1.alloc (.cells (madeCells #[.int .u8 0] (8 + d.length)) 5) := ⟨_, rfl⟩
  rw [← hw2, s1] at oo
  have b2 : Below w.heap.size w w2 := by rw [hw2]; exact b1.alloc (by omega) _
  have b12 : Below w1.heap.size w1 w2 := by rw [hw2]; exact (Below.refl _ _).alloc (Nat.le_refl _) _
  have s2 : w2.heap.size = w.heap.size + 2 := by rw [hw2]; simp [s1]
  have d0 : w2.cell? ⟨w.heap.size, 0, none⟩ = some (.int .u8 (k.toNat : Int)) := (b12.cell (cell_lt c0)).trans c0
  have d1 : w2.cell? ⟨w.heap.size, 1, none⟩ = some (.slice ao d.length cap) := (b12.cell (cell_lt c1)).trans c1
  have b23 : Below w2.heap.size w2 (w2.alloc (.cells #[.int .u8 167, .int .u8 (k.toNat : Int)] 5)) := (Below.refl _ _).alloc (Nat.le_refl _) _
  have oo3 := oo.below (Nat.le_refl _) b23
  have rl := rd_lit w2 [167, k] #[.int .u8 167, .int .u8 (k.toNat : Int)] (w.heap.size + 1 + 1) 2 rfl (by omega) rfl (by simp)
  have b3 : Below w.heap.size w (w2.alloc (.cells #[.int .u8 167, .int .u8 (k.toNat : Int)] 5)) := b2.trans (b23.mono (by omega))
  have hsz3 : w.heap.size + 1 ≤ (w2.alloc (.cells #[.int .u8 167, .int .u8 (k.toNat : Int)] 5)).heap.size := by simp; omega
  have e1 := (b23.cell (cell_lt d1)).trans d1
  have hlen1 : ([] : List UInt8).length + ([167, k] : List UInt8).length ≤ 140737488355328 := by simp
  have HB := hide (And.intro b3 hrd)
  have HL := hide hm
  clear b1 b2 b12 b23 b3 oo d0 d1 c0 hrd hm
  have OO := hide oo3
  have RL := hide rl
  have E1 := hide e1
  clear oo3 rl e1
  go_enter Try.func51, Try.ntmps51
  go_wp2_with (at_builtin; rw [← hw1, ← hw2]; refine wpList_append_octs rfl _ _ rfl (w.heap.size + 1) _ _ [] [167, k] rfl rfl OO.out RL.out hlen1 hsz3 ?_; intro v3 w3 o3 b3 _; have b4 := HB.out.1.trans (b3.mono (by omega)); have f1 := (b3.cell (p := ⟨w.heap.size, 1, none⟩) (by show w.heap.size < _; omega)).trans E1.out; replace hw1 := hide hw1; replace hw2 := hide hw2; have B4 := hide b4; have O3 := hide o3; have hs3 : w.heap.size + 1 ≤ w3.heap.size := Nat.le_trans hsz3 b3.size; clear OO RL E1 hsz3 b3 b4 o3)
  have hO : ∀ u, Calls Try.prog 56 #[.int .u64 (d.length : Int), .int .i64 2] u fun e w' => ∃ v, e = .returned v ∧ OwnB u.heap.size w' v (oc d.length 2) ∧ Below u.heap.size u w' := fun u => fnumber_any u d.length 2 (by decide) (by decide) (by omega) (by omega)
  refine (hO _).mono ?_
  rintro e w4 ⟨v4, rfl, o4, b4⟩
  have o3 := O3.out.below (Nat.le_refl _) b4
  have c4 := B4.out.trans (b4.mono B4.out.size)
  have f4 := (b4.cell (p := ⟨w.heap.size, 1, none⟩) (by show w.heap.size < _; omega)).trans f1
  have r4 := o4.rd
  have hs4 : w.heap.size + 1 ≤ w4.heap.size := Nat.le_trans hs3 b4.size
  clear hO O3 B4 b4 f1 o4 hs3 hmk
  have C4 := hide c4
  have O4 := hide o3
  have R4 := hide r4
  have hlen2 : ([] ++ [167, k] : List UInt8).length + (oc d.length 2).length ≤ 140737488355328 := by rw [oc_length]; simp
  clear c4 o3 r4
  have HR := hide HB.out.2
  have hlen3 : ([] ++ [167, k] ++ oc d.length 2 : List UInt8).length + d.length ≤ 140737488355328 := by rw [List.length_append, oc_length]; simp; omega
  go_wp2_with (first
    | (at_builtin; refine wpList_append_octs rfl _ _ rfl (w.heap.size + 1) _ _ ([] ++ [167, k]) (oc d.length 2) rfl rfl O4.out R4.out hlen2 hs4 ?_; intro v5 w5 o5 b5 _; have c5 := hide (C4.out.trans (b5.mono (by omega))); have f5 := (b5.cell (p := ⟨w.heap.size, 1, none⟩) (by show w.heap.size < _; omega)).trans f4; have O5 := hide o5; have hs5 : w.heap.size + 1 ≤ w5.heap.size := Nat.le_trans hs4 b5.size; clear O4 R4 C4 f4 b5 o5 hs4)
    | (at_builtin; refine wpList_append_octs rfl _ _ rfl (w.heap.size + 1) _ _ ([] ++ [167, k] ++ oc d.length 2) d rfl rfl O5.out (HR.out.to c5.out) hlen3 hs5 ?_; intro v6 w6 o6 b6 _; have C6 := hide (c5.out.trans (b6.mono (by omega))); have O6 : Hid (OwnB (w.heap.size + 1) w6 v6 (fhead k d)) := hide o6; have hs6 : w.heap.size + 1 ≤ w6.heap.size := Nat.le_trans hs5 b6.size; clear O5 c5 f5 b6 o6 hs5))
  have hfl : (fhead k d).length ≤ 4100 := by rw [fhead_len]; omega
  have hS := sum_lt (fhead k d)
  refine (sum_any _ _ (fhead k d) O6.out.rd (by omega)).mono ?_
  rintro e w7 ⟨rfl, b7⟩
  have hws : IntKind.u64.wrap ((sum (fhead k d) : Nat) : Int) = ((sum (fhead k d) : Nat) : Int) := by unfold M32 at hS; rw [IntKind.wrap_u64]; omega
  have C7 := hide (C6.out.trans (b7.mono C6.out.size))
  have O7 := hide (O6.out.below (Nat.le_refl _) b7)
  have hs7 : w.heap.size + 1 ≤ w7.heap.size := Nat.le_trans hs6 b7.size
  clear C6 O6 b7 hs6
  go_wp2_with fail
  refine (fnumber_any _ (sum (fhead k d)) 4 (by decide) (by decide) (by unfold M32 at hS; omega) (by unfold M32 at hS; omega)).mono ?_
  rintro e w8 ⟨v8, rfl, o8, b8⟩
  have C8 := hide (C7.out.trans (b8.mono C7.out.size))
  have O8 := hide (O7.out.below (Nat.le_refl _) b8)
  have R8 := hide o8.rd
  have hs8 : w.heap.size + 1 ≤ w8.heap.size := Nat.le_trans hs7 b8.size
  have hlen4 : (fhead k d).length + (oc (sum (fhead k d)) 4).length ≤ 140737488355328 := by rw [oc_length]; omega
  clear C7 O7 b8 o8 hs7 hws
  go_wp2_with (at_builtin; refine wpList_append_octs rfl _ _ rfl (w.heap.size + 1) _ _ (fhead k d) (oc (sum (fhead k d)) 4) rfl rfl O8.out R8.out hlen4 hs8 ?_; intro v9 w9 o9 b9 _)
  go_ret2
  refine ⟨_, by rw [he.out]; rfl, ?_, C8.out.trans (b9.mono (by omega))⟩
  rw [ho.out]
  exact OwnB.mono o9 (by omega)

end Go.Proofs.Ytibkanmboglcgaa

namespace Go.Proofs.Ytibkanmboglcgaa
open Go.RowKit
set_option linter.unusedVariables false

theorem frame_info_p : (Try.prog.info? 89).map (·.size) = some 2 := by kernel_rfl

set_option maxRecDepth 100000 in
set_option maxHeartbeats 1000000 in
theorem fopen_any (w : World) (v : Value) (b : List UInt8) (hrd : Rd w v b) (hm : b.length ≤ 140737488351232) :
    Calls Try.prog 54 #[v] w fun e w' => ∃ sv, e = .returned (.tuple #[.agg #[.int .u8 ((fopen b).2.1.1.toNat : Int), sv], .int .i64 ((fopen b).2.2 : Nat), .int .i64 ((fopen b).1 : Nat)]) ∧ OwnB w.heap.size w' sv (fopen b).2.1.2 ∧ Below w.heap.size w w' := by
  obtain ⟨ao, cap, rfl⟩ := hrd.slice
  have hz := heap_alloc_last w (.cells #[.int .u8 0, .slice none 0 0] 89)
  have hb1 : Below w.heap.size w (w.alloc (.cells #[.int .u8 0, .slice none 0 0] 89)) := (Below.refl _ _).alloc (Nat.le_refl _) _
  obtain ⟨W, hW⟩ : ∃ W, W = w.alloc (.cells #[.int .u8 0, .slice none 0 0] 89) := ⟨_, rfl⟩
  have hsW : W.heap.size = w.heap.size + 1 := by rw [hW]; simp
  rw [← hW] at hb1 hz
  have hM := fmeasure_any W _ b (hrd.to hb1) (by omega)
  by_cases h0 : (fmeas b).2 ≠ 0
  · obtain ⟨e1, e2⟩ := fmeas_no h0
    have hd : (((fmeas b).2 : Int) != 0) = true := by simp only [bne_iff_ne]; omega
    have hF := hide e2
    rw [e1] at hM
    clear e1 e2
    generalize (fmeas b).2 = er at *
    go_enter Try.func54, Try.ntmps54
    go_wp2_with fail
    rw [← hW]
    replace hW := hide hW
    refine hM.mono ?_
    rintro e w1 ⟨rfl, b1⟩
    have hz1 := (b1.block w.heap.size (by omega)).trans hz
    have cz0 : w1.cell? ⟨w.heap.size, 0, none⟩ = some (.int .u8 0) := by rw [cell_of_row _ _ 0 _ _ (0, 0) hz1]; rfl
    have cz1 : w1.cell? ⟨w.heap.size, 1, none⟩ = some (.slice none 0 0) := by rw [cell_of_row _ _ 1 _ _ (0, 0) hz1]; rfl
    have fz0 : w1.frozen? ⟨w.heap.size, 0, none⟩ = false := frozen_of_row w1 w.heap.size 0 _ _ hz1
    have fz1 : w1.frozen? ⟨w.heap.size, 1, none⟩ = false := frozen_of_row w1 w.heap.size 1 _ _ hz1
    have c1 := hb1.trans (b1.mono (by omega))
    clear hM hz hb1 b1
    go_wp2
    refine ret_frame rfl rfl w.heap.size rfl _ _ _ _ (heap_set2 (u := w1) hz1 _ _) _ Try.underlying89 rfl frame_info_p _ _ rfl rfl ?_
    rw [hF.out]
    exact ⟨_, rfl, World.ownsRow_nil _ _ _ _, below_set2 c1 (Nat.le_refl _) _ _⟩
  obtain ⟨e1, l8, l4, lb, e2⟩ := fmeas_yes (Decidable.not_not.1 h0)
  have e3 := Decidable.not_not.1 h0
  rw [e1, e3] at hM
  clear e1 e3 h0
  obtain ⟨n, hne⟩ : ∃ n, ftold b = n := ⟨_, rfl⟩
  rw [hne] at l4 lb e2 hM
  have hF0 := hide e2
  clear e2 hne
  have hR := hrd.to hb1
  obtain ⟨a1, c1, ea, l1, m1, n1, r1⟩ := hR
  cases ea
  rcases r1 with r1 | ⟨b1, o1, rfl, hc1⟩
  · rw [r1] at l8; simp at l8
  have t1 := hc1 1 (by omega)
  clear hc1 m1 n1
  go_enter Try.func54, Try.ntmps54
  go_wp2_with fail
  rw [← hW]
  replace hW := hide hW
  refine hM.mono ?_
  rintro e w1 ⟨rfl, bM⟩
  have hz1 := (bM.block w.heap.size (by omega)).trans hz
  have c1 := hb1.trans (bM.mono (by omega))
  have R1 := hrd.to c1
  have rN : Rd w1 (.slice (some ⟨b1, o1 + (n + 4), none⟩) 4 (cap - (n + 4))) ((b.drop (n + 4)).take 4) := by
    have := (rd_sub R1 (q := n + 4) (to := n + 8) (by omega) (by omega)).1
    rw [List.drop_take, show n + 8 - (n + 4) = 4 from by omega] at this
    simpa [Addr.add] using this
  have rS : Rd w1 (.slice (some ⟨b1, o1, none⟩) (n + 4) cap) (b.take (n + 4)) := by
    have := (rd_sub R1 (q := 0) (to := n + 4) (by omega) (by omega)).1
    simpa [Addr.add] using this
  have rC : Rd w1 (.slice (some ⟨b1, o1 + 4, none⟩) n (cap - 4)) ((b.drop 4).take n) := by
    have := (rd_sub R1 (q := 4) (to := n + 4) (by omega) (by omega)).1
    rw [List.drop_take, show n + 4 - 4 = n from by omega] at this
    simpa [Addr.add] using this
  replace t1 := (bM.cell (p := ⟨b1, o1 + 1, none⟩) (cell_lt t1)).trans t1
  have hs1 : w.heap.size + 1 ≤ w1.heap.size := by have := bM.size; omega
  clear hM hz hb1 bM hrd R1
  go_wp2
  rw [show (n : Int) + 8 - 4 = (n : Int) + 4 from by omega]
  have x1 : (n : Int) + 4 ≤ (n : Int) + 8 := by omega
  have x2 : (n : Int) + 8 ≤ (cap : Int) := by omega
  have x3 : (n : Int) + 4 ≤ (cap : Int) := by omega
  have x4 : ¬ cap = n + 4 := by omega
  have y1 : (4 : Int) ≤ (cap : Int) := by omega
  have y2 : (0 : Int) ≤ (n : Int) + 4 := by omega
  have y3 : ((n : Int) + 4).toNat = n + 4 := by omega
  have y4 : ((n : Int) + 8).toNat = n + 8 := by omega
  have y5 : (0 : Int) ≤ (n : Int) + 8 := by omega
  obtain ⟨z1, z2, z3, z4⟩ := wr4 n (by omega)
  have kN : ∀ u, Rd u (.slice (some ⟨b1, o1 + (n + 4), none⟩) 4 (cap - (n + 4))) ((b.drop (n + 4)).take 4) → Calls Try.prog 60 #[.slice (some ⟨b1, o1 + (n + 4), none⟩) 4 (cap - (n + 4))] u fun e w' => e = .returned (.int .u64 (numOf ((b.drop (n + 4)).take 4) : Nat)) ∧ Below u.heap.size u w' :=
    fun u h => ftold_any u _ _ h (by simp; omega) (by simp; omega)
  have kS : ∀ u, Rd u (.slice (some ⟨b1, o1, none⟩) (n + 4) cap) (b.take (n + 4)) → Calls Try.prog 57 #[.slice (some ⟨b1, o1, none⟩) (n + 4) cap] u fun e w' => e = .returned (.int .u32 (sum (b.take (n + 4)) : Nat)) ∧ Below u.heap.size u w' :=
    fun u h => sum_any u _ _ h (by simp; omega)
  have hsl := sum_lt (b.take (n + 4))
  have hwr : IntKind.u64.wrap ((sum (b.take (n + 4)) : Nat) : Int) = ((sum (b.take (n + 4)) : Nat) : Int) := by unfold M32 at hsl; rw [IntKind.wrap_u64]; omega
  have KN := hide kN
  have KS := hide kS
  have RN := hide rN.drew
  have RS := hide rS.drew
  have RC := hide rC.drew
  have HZ := hide hz1
  have HC := hide c1
  have T1 := hide t1
  clear kN kS rN rS rC hz1 c1 t1
  go_region_law (first
    | (refine step_call (by rfl) 60 _ _ (by rfl) #[.slice (some ⟨b1, o1 + (n + 4), none⟩) 4 (cap - (n + 4))] (by simp [Act.eval, Act.put]) (Try.call60 _ _) (KN.out _ RN.out) ?_; rintro e w2 ⟨rfl, b2⟩; refine ⟨_, rfl, ?_⟩)
    | (refine step_call (by rfl) 57 _ _ (by rfl) #[.slice (some ⟨b1, o1, none⟩) (n + 4) cap] (by simp [Act.eval]) (Try.call57 _ _) (KS.out _ (RS.out.to b2)) ?_; rintro e w3 ⟨rfl, b3⟩; refine ⟨_, rfl, ?_⟩))
  have c3 : Below w.heap.size w w3 := by
    have h1 : Below w.heap.size w w1.drew := below_drew HC.out
    exact (h1.trans (b2.mono h1.size)).trans (b3.mono (Nat.le_trans h1.size b2.size))
  have bb : Below w1.heap.size w1 w3 := by
    have h1 : Below w1.heap.size w1 w1.drew := below_drew (Below.refl _ _)
    exact (h1.trans (b2.mono h1.size)).trans (b3.mono (Nat.le_trans h1.size b2.size))
  have hz3 := (bb.block w.heap.size (by omega)).trans HZ.out
  have rC := (RC.out.to b2).to b3
  have t3 := (bb.cell (p := ⟨b1, o1 + 1, none⟩) (cell_lt T1.out)).trans T1.out
  have hs3 : w.heap.size + 1 ≤ w3.heap.size := Nat.le_trans hs1 bb.size
  clear b2 b3 KN KS RN RS RC HZ HC T1 bb
  by_cases h5 : numOf ((b.drop (n + 4)).take 4) ≠ sum (b.take (n + 4))
  · have hF := hF0.out
    rw [if_pos h5] at hF
    replace hF := hide hF
    have hd5 : (((numOf ((b.drop (n + 4)).take 4) : Nat) : Int) != ((sum (b.take (n + 4)) : Nat) : Int)) = true := by
      simp only [bne_iff_ne]; omega
    clear hF0 h5 t3 rC
    have cz0 : w3.cell? ⟨w.heap.size, 0, none⟩ = some (.int .u8 0) := by rw [cell_of_row _ _ 0 _ _ (0, 0) hz3]; rfl
    have cz1 : w3.cell? ⟨w.heap.size, 1, none⟩ = some (.slice none 0 0) := by rw [cell_of_row _ _ 1 _ _ (0, 0) hz3]; rfl
    have fz0 : w3.frozen? ⟨w.heap.size, 0, none⟩ = false := frozen_of_row w3 w.heap.size 0 _ _ hz3
    have fz1 : w3.frozen? ⟨w.heap.size, 1, none⟩ = false := frozen_of_row w3 w.heap.size 1 _ _ hz3
    generalize numOf ((b.drop (n + 4)).take 4) = N at *
    generalize sum (b.take (n + 4)) = S at *
    go_wp2
    refine ret_frame rfl rfl w.heap.size rfl _ _ _ _ (heap_set2 (u := w3) hz3 _ _) _ Try.underlying89 rfl frame_info_p _ _ rfl rfl ?_
    rw [hF.out]
    exact ⟨_, rfl, World.ownsRow_nil _ _ _ _, below_set2 c3 (Nat.le_refl _) _ _⟩
  have hF := hF0.out
  rw [if_neg h5] at hF
  replace hF := hide hF
  have hd5 : (((numOf ((b.drop (n + 4)).take 4) : Nat) : Int) != ((sum (b.take (n + 4)) : Nat) : Int)) = false := by
    rw [Decidable.not_not.1 h5]; simp
  have hmk : ∀ u : World, (Instr.makeSlice 54 (.int .i64 (n : Int)) (.int .i64 (n : Int))).run Try.prog u = .ok (.slice (some ⟨u.heap.size, 0, none⟩) n n) (u.alloc (.cells (madeCells #[.int .u8 0] n) 5)) := fun u => make_octs (n := n) (by omega) u
  have om := own_made w3 n (by rw [show maxLen = 9223372036854775807 from rfl]; omega)
  obtain ⟨w4, hw4⟩ : ∃ w4, w4 = w3.alloc (.cells (madeCells #[.int .u8 0] n) 5) := ⟨_, rfl⟩
  rw [← hw4] at om
  have b4 : Below w3.heap.size w3 w4 := by rw [hw4]; exact (Below.refl _ _).alloc (Nat.le_refl _) _
  have c4 := c3.trans (b4.mono c3.size)
  have rC4 := rC.to b4
  have hz4 := (b4.block w.heap.size (by omega)).trans hz3
  have t4 := (b4.cell (p := ⟨b1, o1 + 1, none⟩) (cell_lt t3)).trans t3
  have OM := hide om
  have RC := hide rC4
  have HZ := hide hz4
  have HC := hide c4
  have T4 := hide t4
  have KEEP : Hid (∀ w5, Below w3.heap.size w4 w5 → w5.cell? ⟨b1, o1 + 1, none⟩ = some (.int .u8 (bt b 1)) ∧ w5.cell? ⟨w.heap.size, 0, none⟩ = some (.int .u8 0) ∧ w5.cell? ⟨w.heap.size, 1, none⟩ = some (.slice none 0 0) ∧ w5.frozen? ⟨w.heap.size, 0, none⟩ = false ∧ w5.frozen? ⟨w.heap.size, 1, none⟩ = false ∧ Hid (w5.heap[w.heap.size]? = some (.cells #[.int .u8 0, .slice none 0 0] 89 (0, 0))) ∧ Hid (Below w.heap.size w w5)) := by
    intro w5 hb
    have hg5 := (hb.block w.heap.size (by omega)).trans hz4
    exact ⟨(hb.cell (p := ⟨b1, o1 + 1, none⟩) (cell_lt t3)).trans t4, by rw [cell_of_row _ _ 0 _ _ (0, 0) hg5]; rfl, by rw [cell_of_row _ _ 1 _ _ (0, 0) hg5]; rfl, frozen_of_row _ _ 0 _ _ hg5, frozen_of_row _ _ 1 _ _ hg5, hg5, c4.trans (hb.mono (by omega))⟩
  have hdl : ((b.drop 4).take n).length = n := by simp; omega
  have ho : over (List.replicate n 0) ((b.drop 4).take n) = (b.drop 4).take n := over_all (by rw [hdl]; simp)
  have HO := hide ho
  have HDL := hide hdl
  have q1 : (1 : Int) < (b.length : Int) := by omega
  have y6 : (4 : Int) ≤ (n : Int) + 4 := by omega
  have y7 : ¬ cap = 4 := by omega
  clear hF0 h5 t3 t4 rC rC4 hz3 hz4 c3 c4 b4 om ho hdl
  generalize numOf ((b.drop (n + 4)).take 4) = N at *
  generalize sum (b.take (n + 4)) = S at *
  obtain ⟨w5, hrun, o5, b5, _⟩ := run_copy_octs 3 OM.out RC.out
  rw [HO.out] at o5
  rw [HDL.out, hw4] at hrun
  have hmn : Nat.min n (List.replicate n (0 : UInt8)).length = n := by simp
  rw [hmn] at hrun
  obtain ⟨k1, k2, k3, k4, k5, K6, K7⟩ := KEEP.out w5 b5
  have hsz5 : w.heap.size < w3.heap.size := by omega
  have O6 := hide (own_set (own_set o5 (g := w.heap.size) hsz5 0 (.int .u8 (bt b 1))) (g := w.heap.size) hsz5 1 (.slice (some ⟨w3.heap.size, 0, none⟩) n n))
  replace hw4 := hide hw4
  clear OM RC HZ HC T4 KEEP b5 hmn o5
  go_wp2
  refine ret_frame rfl rfl w.heap.size rfl _ _ _ _ (heap_set2 K6.out _ _) _ Try.underlying89 rfl frame_info_p _ _ rfl rfl ?_
  rw [hF.out]
  exact ⟨_, rfl, O6.out.mono (by omega), below_set2 K7.out (Nat.le_refl _) _ _⟩

end Go.Proofs.Ytibkanmboglcgaa
