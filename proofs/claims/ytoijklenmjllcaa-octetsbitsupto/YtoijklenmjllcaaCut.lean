/-
  The contract of octets.Cut: octets in pieces of one size, each in memory of its own; refused where the size is out of range. (Of at most 1048576 octets.)
-/
import Derived.Laws.CopyOwn
import Derived.StillTailTactics
import Derived.Test.YtoijklenmjllcaaLists
namespace Go.Proofs.Ytoijklenmjllcaa
open Go.RowKit
set_option linter.unusedVariables false

/-- how many pieces -/
def cutN (len s : Nat) : Nat := (len + s - 1) / s
/-- the i-th piece -/
def piece (xs : List UInt8) (s i : Nat) : List UInt8 := (xs.drop (i * s)).take s
def cutL (xs : List UInt8) (s : Nat) : List (List UInt8) := (List.range (cutN xs.length s)).map (piece xs s)
theorem cutL_length (xs : List UInt8) (s : Nat) : (cutL xs s).length = cutN xs.length s := by simp [cutL]
theorem cutL_getD (xs : List UInt8) (s i : Nat) (h : i < cutN xs.length s) : (cutL xs s).getD i [] = piece xs s i := by simp [cutL, h]
theorem cutN_lt {len s k : Nat} (hs : 1 ≤ s) (hk : k < cutN len s) : k * s < len := by
  unfold cutN at hk
  have h := (Nat.le_div_iff_mul_le (show 0 < s by omega)).1 (show k + 1 ≤ (len + s - 1) / s by omega)
  rw [Nat.add_mul] at h
  omega
theorem cutN_le {len s : Nat} (hs : 1 ≤ s) : cutN len s ≤ len := by
  unfold cutN
  by_cases h0 : len = 0
  · subst h0; rw [Nat.div_eq_of_lt (by omega)]; omega
  · refine (Nat.div_le_iff_le_mul_add_pred (by omega)).2 ?_
    have : len ≤ s * len := Nat.le_mul_of_pos_left _ (by omega)
    omega
theorem piece_length (xs : List UInt8) (s i : Nat) : (piece xs s i).length = min s (xs.length - i * s) := by simp [piece]

theorem info22 : (Try.prog.info? 22).map (fun i => (i.zero, i.size, i.bytes)) = some (some (.slice none 0 0), 1, 24) := by kernel_rfl
theorem mixed : Try.prog.follows .mixedOrders = true := by kernel_rfl

/-- a region that draws its order, whose first n operations only read and whose others come behind them all -/
theorem wp_tail {P : Program} {id : Nat} {Q : Exit → Act → World → Prop} {a : Act} {w : World} {l : List Oper} (n : Nat) (hm : P.follows .mixedOrders = true) (hB : Region.lexTailB .any l.toArray n = true)
    (h : wpStill P l.toArray w.drew (fun a' => wpList P l.toArray Q (l.drop n) a' w.drew) (l.take n) a) : (Code.region id l.toArray true).wp P Q a w :=
  wp_region_still_tail n hm hB h

set_option maxHeartbeats 400000 in
theorem cut_no (w : World) (v : Value) (xs : List UInt8) (h : Rd w v xs) (size : Int) (hs : size < 1 ∨ 65536 < size) :
    Calls Try.prog 11 #[v, .int .i64 size] w fun e w' => e = .returned (.tuple #[.slice none 0 0, .int .i64 4]) ∧ w' = w := by
  obtain ⟨a, c, rfl, l1, m1, n1, r1⟩ := h
  by_cases h0 : size < 1
  · go_enter Try.func11, Try.ntmps11
    go_wp2
    go_ret2
    exact ⟨rfl, rfl⟩
  · have h' : 65536 < size := by omega
    go_enter Try.func11, Try.ntmps11
    go_wp2
    go_ret2
    exact ⟨rfl, rfl⟩

/-- behind k rounds: the outer row, and the pieces that are made -/
def CutTo (B : Nat) (w wr : World) (xs : List UInt8) (s N k : Nat) : Prop :=
  ∃ vs : List Value, vs.length = k ∧ wr.ownsRow B 22 1 (.slice (some ⟨B, 0, none⟩) N N) N (vs ++ List.replicate (N - k) (.slice none 0 0)) ∧
    (∀ i, i < k → OwnB B wr (vs.getD i undef) (piece xs s i)) ∧ Below B w wr

theorem heap_new (w : World) (o : Obj) : (w.alloc o).heap[w.heap.size]? = some o := by
  show (w.heap.push o)[w.heap.size]? = _
  simp

theorem row_ne {w : World} {B B' : Nat} {e e' : TypeId} {n n' : Nat} {v v' : Value} {xs xs' : List Value} (hne : e ≠ e') (h : w.ownsRow B e 1 v n xs) (h' : w.ownsRow B' e' 1 v' n' xs') {g : Nat} (hg : v'.ownBlock = some g) : v.ownBlock ≠ some g := by
  intro hv
  rcases h.2 with ⟨rfl, _⟩ | ⟨g1, c1, cur1, rfl, _, hh1, _⟩
  · cases hv
  rcases h'.2 with ⟨rfl, _⟩ | ⟨g2, c2, cur2, rfl, _, hh2, _⟩
  · cases hg
  simp only [Value.ownBlock, Option.some.injEq] at hv hg
  rw [hv, ← hg, hh2] at hh1
  simp at hh1
  exact hne hh1.2.symm

theorem cut_step {B : Nat} {w wr : World} {xs : List UInt8} {s N k L : Nat} {vs : List Value} (hB : w.heap.size = B) (hk : k < N) (hvl : vs.length = k) (hL : (piece xs s k).length = L) (hLm : L ≤ 1048576)
    (ho : wr.ownsRow B 22 1 (.slice (some ⟨B, 0, none⟩) N N) N (vs ++ List.replicate (N - k) (.slice none 0 0)))
    (he : ∀ i, i < k → OwnB B wr (vs.getD i undef) (piece xs s i)) (hb : Below B w wr) (R : Array Value) (hR : R = ((piece xs s k).map enc).toArray) :
    CutTo B w ((((wr.setCell ⟨B, k, none⟩ (.slice (some ⟨wr.heap.size, 0, none⟩) L L)).alloc (.cells (madeCells #[.int .u8 0] L) 5)).drew).setRow wr.heap.size R) xs s N (k + 1) := by
  have hlt : B < wr.heap.size := (ho.lt B rfl).2
  have o1 := (ho.stored k (.slice (some ⟨wr.heap.size, 0, none⟩) L L)).1
  have e1 : (vs ++ List.replicate (N - k) (Value.slice none 0 0)).set k (.slice (some ⟨wr.heap.size, 0, none⟩) L L) = (vs ++ [Value.slice (some ⟨wr.heap.size, 0, none⟩) L L]) ++ List.replicate (N - (k + 1)) (Value.slice none 0 0) := by
    rw [List.set_append_right _ _ (by omega), hvl, Nat.sub_self, show N - k = (N - (k + 1)) + 1 from by omega, List.replicate_succ]
    simp
  rw [e1] at o1
  have gset : ∀ X : World, X.heap.size = wr.heap.size + 1 → X.grownBy (X.setRow wr.heap.size R) (some wr.heap.size) := fun X hX =>
    ⟨rfl, rfl, rfl, by simp [World.setRow], fun j _ hj => setRow_other X wr.heap.size j R (fun e => hj (by rw [e]))⟩
  have hsz : ((wr.setCell ⟨B, k, none⟩ (.slice (some ⟨wr.heap.size, 0, none⟩) L L)).alloc (.cells (madeCells #[.int .u8 0] L) 5)).drew.heap.size = wr.heap.size + 1 := by
    show ((wr.setCell ⟨B, k, none⟩ (.slice (some ⟨wr.heap.size, 0, none⟩) L L)).alloc (.cells (madeCells #[.int .u8 0] L) 5)).heap.size = _
    simp
  refine ⟨vs ++ [.slice (some ⟨wr.heap.size, 0, none⟩) L L], by simp [hvl], ?_, ?_, ?_⟩
  · exact (o1.alloc _).drew.kept (gset _ hsz) (.inr (by simp [Value.ownBlock]; omega))
  · intro i hi
    by_cases hik : i < k
    · have eg : (vs ++ [Value.slice (some ⟨wr.heap.size, 0, none⟩) L L]).getD i undef = vs.getD i undef := by
        simp [List.getElem?_append_left (show i < vs.length by omega)]
      rw [eg]
      have hi' := he i hik
      have hne : (vs.getD i undef).ownBlock ≠ some B := row_ne (by decide) hi' ho rfl
      have hlt' := World.ownsRow.lt hi'
      refine World.ownsRow.kept ((ownsRow_setCell_other hi' hne _).alloc _).drew (gset _ hsz) ?_
      right
      intro e
      have := (hlt' _ e).2
      omega
    · obtain rfl : i = k := by omega
      have eg : (vs ++ [Value.slice (some ⟨wr.heap.size, 0, none⟩) L L]).getD i undef = .slice (some ⟨wr.heap.size, 0, none⟩) L L := by
        simp [← hvl]
      rw [eg]
      unfold OwnB
      rw [hL]
      refine ⟨by simp [hL], .inr ⟨wr.heap.size, L, R, rfl, by omega, ?_, Nat.le_refl _, by unfold maxLen; omega, by rw [hR]; simp [hL], ?_⟩⟩
      · refine setRow_heap _ _ (madeCells #[.int .u8 0] L) _ _ _ ?_
        have := heap_new (wr.setCell ⟨B, i, none⟩ (.slice (some ⟨wr.heap.size, 0, none⟩) L L)) (.cells (madeCells #[.int .u8 0] L) 5)
        rw [show (wr.setCell ⟨B, i, none⟩ (.slice (some ⟨wr.heap.size, 0, none⟩) L L)).heap.size = wr.heap.size from by simp] at this
        exact this
      · rw [hR]; exact List.take_of_length_le (by simp [hL])
  · refine below_setRow ?_ (by omega) R
    exact (((hb.setCell (p := ⟨B, k, none⟩) (Nat.le_refl _) _).alloc (by have := hb.size; simp; omega) _)).drew

set_option maxHeartbeats 1000000 in
theorem cut_yes (w : World) (v : Value) (xs : List UInt8) (h : Rd w v xs) (s : Nat) (hs1 : 1 ≤ s) (hs2 : s ≤ 65536) (hm : xs.length ≤ 1048576) :
    Calls Try.prog 11 #[v, .int .i64 (s : Int)] w fun e w' => ∃ v', e = .returned (.tuple #[v', .int .i64 0]) ∧ OwnL w.heap.size w' v' (cutL xs s) ∧ Below w.heap.size w w' := by
  obtain ⟨a, c, rfl, l1, m1, n1, r1⟩ := h
  rw [show maxLen = 9223372036854775807 from rfl] at m1
  obtain ⟨i0, hi, hz0, hz1, hz2⟩ := info_parts info22
  obtain ⟨N, hN⟩ : ∃ N, cutN xs.length s = N := ⟨_, rfl⟩
  have hNl : N ≤ xs.length := by rw [← hN]; exact cutN_le hs1
  have hdiv : ((xs.length : Int) + (s : Int) - 1) / (s : Int) = (N : Int) := by
    rw [← hN]; unfold cutN
    rw [Int.natCast_ediv]
    congr 1
    omega
  have hmk : ∀ u : World, (Instr.makeSlice 29 (.int .i64 (N : Int)) (.int .i64 (N : Int))).run Try.prog u =
      .ok (.slice (some ⟨u.heap.size, 0, none⟩) N N) (u.alloc (.cells (madeCells #[.slice none 0 0] N) 22)) := fun u => by
    have h := run_make (P := Try.prog) u 29 22 i0 (.slice none 0 0) Try.underlying29 hi hz0 .i64 .i64 (N : Int) (N : Int) (by omega) (Int.le_refl _) (by rw [hz2]; omega) (by omega)
    simpa [hz1, Value.cells] using h
  have hd1 : decide ((s : Int) < 1) = false := by simp; omega
  have hd2 : decide (65536 < (s : Int)) = false := by simp; omega
  go_enter Try.func11, Try.ntmps11
  go_wp2
  have h0 : CutTo w.heap.size w (w.alloc (.cells (madeCells #[.slice none 0 0] N) 22)) xs s N 0 := by
    refine ⟨[], rfl, ?_, fun i hi => absurd hi (Nat.not_lt_zero _), (Below.refl _ _).alloc (Nat.le_refl _) _⟩
    have := World.ownsRow_lit (base := w.heap.size) (e := 22) (size := 1) w (madeCells #[.slice none 0 0] N) N (Nat.le_refl _) (by unfold maxLen; omega) (by simp [madeCells])
    rw [toList_madeCells_one] at this
    exact this
  have Hdiv := hide hdiv
  have HN := hide hN
  clear hmk hdiv hN hi hz0 hz1 hz2
  go_loopw [26] (fun i wr => ∃ k : Nat, k ≤ N ∧ i = .int .i64 k ∧ CutTo w.heap.size w wr xs s N k) (fun i _ => N - (intOf i).toNat)
  case atStart => exact ⟨0, Nat.zero_le _, rfl, h0⟩
  case round =>
    obtain ⟨k, hk, rfl, hct⟩ := hrel
    clear h0
    by_cases hlt : k < N
    · obtain ⟨vs, hvl, ho, he, hb⟩ := hct
      have hks : k * s < xs.length := cutN_lt hs1 (by rw [HN.out]; exact hlt)
      rcases r1 with r1 | ⟨b1, o1, rfl, hc1⟩
      · rw [r1] at hks; simp at hks
      obtain ⟨F, hF0⟩ : ∃ F, k * s = F := ⟨_, rfl⟩
      have hF : (k : Int) * (s : Int) = (F : Int) := by rw [← hF0]; simp
      rw [hF0] at hks
      obtain ⟨T, hT0⟩ : ∃ T, min (F + s) xs.length = T := ⟨_, rfl⟩
      have hmin : ∀ u : World, (Builtin.min_ #[3, 3] 3 #[.int .i64 ((F : Int) + (s : Int)), .int .i64 (xs.length : Int)]).run Try.prog u = .ok (.int .i64 (T : Int)) u := fun u => by
        rw [run_min_int2]
        congr 2
        split <;> omega
      obtain ⟨L, hL0⟩ : ∃ L, T - F = L := ⟨_, rfl⟩
      have hsub : (T : Int) - (F : Int) = (L : Int) := by omega
      have hL1 : 1 ≤ L := by omega
      have hTl : T ≤ xs.length := by omega
      have hmk2 := fun u => make_octs (n := L) (by omega) u
      have hq : (k : Int) < (N : Int) := by omega
      have hgl : w.heap.size < wr.heap.size := (ho.lt w.heap.size rfl).2
      have ho2 := ho.alloc (.cells (madeCells #[.int .u8 0] L) 5)
      have fz := ho2.frozenAt k
      have cl : (wr.alloc (.cells (madeCells #[.int .u8 0] L) 5)).cell? ⟨w.heap.size, k, none⟩ = some (.slice none 0 0) := by
        rw [ho2.cellAt k (by omega), List.getElem?_append_right (by omega), hvl, Nat.sub_self, List.getElem?_replicate, if_pos (by omega)]
      have HO := hide ho
      have HE := hide he
      have HC := hide hc1
      have HB := hide hb
      clear ho he hc1 hb ho2
      have hFT : (F : Int) ≤ (T : Int) := by omega
      have hTc : (T : Int) ≤ (c : Int) := by omega
      go_wp2
      obtain ⟨W, hW⟩ : ∃ W, (wr.setCell ⟨w.heap.size, k, none⟩ (.slice (some ⟨wr.heap.size, 0, none⟩) L L)).alloc (.cells (madeCells #[.int .u8 0] L) 5) = W := ⟨_, rfl⟩
      rw [hW]
      have hWs : W.heap.size = wr.heap.size + 1 := by rw [← hW]; simp
      have hWc : W.cell? ⟨w.heap.size, k, none⟩ = some (.slice (some ⟨wr.heap.size, 0, none⟩) L L) := by
        have := (HO.out.stored k (.slice (some ⟨wr.heap.size, 0, none⟩) L L)).1.alloc (.cells (madeCells #[.int .u8 0] L) 5)
        rw [hW] at this
        rw [this.cellAt k (by omega), List.getElem?_set_self (by simp; omega)]
      clear cl fz
      refine wp_tail 8 mixed (by kernel_rfl) ?_
      simp only [List.take_succ_cons, List.take_zero, List.drop_succ_cons, List.drop_zero]
      repeat still_step
      refine wpStill_nil ?_
      have hpl : (piece xs s k).length = L := by rw [piece_length, hF0]; omega
      have hnew : W.heap[wr.heap.size]? = some (.cells (madeCells #[.int .u8 0] L) 5 (0, 0)) := by
        have := heap_new (wr.setCell ⟨w.heap.size, k, none⟩ (.slice (some ⟨wr.heap.size, 0, none⟩) L L)) (.cells (madeCells #[.int .u8 0] L) 5)
        rw [hW] at this
        simpa using this
      have HBW : Below w.heap.size w W := by rw [← hW]; exact (HB.out.setCell (p := ⟨w.heap.size, k, none⟩) (Nat.le_refl _) _).alloc (by have := HB.out.size; simp; omega) _
      refine wpList_copy_own rfl _ _ 22 22 rfl 5 Try.underlying22 (by kernel_rfl) wr.heap.size 0 L L ⟨b1, o1 + F, none⟩ L (c - F) rfl ?_ (madeCells #[.int .u8 0] L) 5 hnew ((piece xs s k).map enc) ?_ ?_ ?_ ?_ ?_
      · simp [go_sem]
        omega
      · simp [hpl]
      · intro j u hj
        have hj' : j < L := by
          have := (List.getElem?_eq_some_iff.1 hj).1
          simpa [hpl] using this
        have hcell := HC.out (F + j) (by omega)
        show W.cell? _ = _
        have ea : (⟨b1, o1 + F, none⟩ : Addr).add j = ⟨b1, o1 + (F + j), none⟩ := by
          by_cases h0 : j = 0
          · subst h0; simp [Addr.add]
          · simp [Addr.add, h0]; omega
        rw [ea, HBW.cell (p := ⟨b1, o1 + (F + j), none⟩) (cell_lt hcell), hcell]
        rw [← hj]
        simp [piece, hF0, bt, enc, List.getElem?_drop, show j < s by omega, show F + j < xs.length by omega]
      · simp [madeCells, hpl]
      · intro u hu
        obtain ⟨x, _, rfl⟩ := List.mem_map.1 hu
        rfl
      have HCT := hide (cut_step (N := N) rfl hlt hvl hpl (by omega) HO.out HE.out HB.out ((piece xs s k).map enc ++ List.drop L (madeCells #[.int .u8 0] L).toList).toArray (by simp [madeCells]))
      rw [hW] at HCT
      clear HO HE HC HB HBW hnew hWc hWs hW hmin hmk2 hsub hF hF0 hT0 hL0
      go_wp2
      go_roundw
      case rel => exact ⟨k + 1, by omega, by go_num, HCT.out⟩
      case measure => simp [intOf]; omega
    · go_wp2
      go_ret2
      obtain rfl : k = N := by omega
      obtain ⟨vs, hvl, ho, he, hb⟩ := hct
      refine ⟨_, rfl, ⟨vs, by rw [cutL_length, HN.out]; exact hvl, ?_, fun i hi => ?_⟩, hb⟩
      · rw [cutL_length, HN.out]
        simpa using ho
      · rw [cutL_length, HN.out] at hi
        rw [cutL_getD xs s i (by rw [HN.out]; exact hi)]
        exact he i hi
end Go.Proofs.Ytoijklenmjllcaa
