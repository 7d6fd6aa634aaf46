/-
  The contract of octets.Put: n as 'size' octets, the highest first; refused where it does not fit.
-/
import Derived.RangeFuncBox
import Derived.BigRegionIn
import Derived.Test.YtgmkknonnidgaaaPlaces
import Derived.Test.YtgmkknonnidgaaaNums
namespace Go.Proofs.Ytgmkknonnidgaaa
open Go.RowKit Go.Shelf
attribute [local go_sem] Oper.semAt_some
set_option linter.unusedVariables false

/-- behind some of the rounds -/
def putOf (n s : Nat) (pre : List (Pl s)) : List UInt8 := (List.range s).map fun j => if j ∈ pre.map (·.1) then ob n (s - 1 - j) else 0
theorem putOf_length (n s : Nat) (pre : List (Pl s)) : (putOf n s pre).length = s := by simp [putOf]
theorem putOf_nil (n s : Nat) : (putOf n s []).map enc = List.replicate s (.int .u8 0) := by
  apply List.ext_getElem
  · simp [putOf]
  · intro i h1 h2; simp [putOf, enc]
theorem putOf_snoc (n s : Nat) (pre : List (Pl s)) (x : Pl s) : ((putOf n s pre).map enc).set x.1 (enc (ob n (s - 1 - x.1))) = (putOf n s (pre ++ [x])).map enc := by
  rw [← List.map_set]
  congr 1
  apply List.ext_getElem
  · simp [putOf]
  · intro i h1 h2
    rw [List.getElem_set]
    by_cases h : x.1 = i
    · subst h; simp [putOf]
    · have h' : ¬ i = x.1 := fun e => h e.symm
      rw [if_neg h]
      simp [putOf, h']
theorem mem_plTo (s j : Nat) (h : j < s) : j ∈ (plTo s s (Nat.le_refl _)).map (·.1) := by
  simp [plTo]; exact ⟨⟨j, h⟩, rfl⟩
theorem putOf_all (n s : Nat) : putOf n s (plTo s s (Nat.le_refl _)) = oc n s := by
  unfold putOf oc
  apply List.map_congr_left
  intro j hj
  rw [if_pos (mem_plTo s j (List.mem_range.1 hj))]

theorem place_own {β : Type} (n₀ g e s : Nat) (f : β → List Value) : Own (fun (x : β) W => W.ownsRow n₀ e 1 (.slice (some ⟨g, 0, none⟩) s s) s (f x)) := by
  intro x X Y row hr hg hrow
  refine hr.kept hg (.inr fun e' => ?_)
  rcases hr.2 with ⟨h, _⟩ | ⟨g', cap, cur, hv, _, hgb, _⟩
  · cases h
  · obtain ⟨rfl, rfl⟩ : g = g' ∧ s = cap := by simpa using hv
    obtain ⟨o, ho, hc⟩ := hrow g (by simpa [Value.ownBlock] using e'.symm)
    rw [hgb] at ho; cases ho; cases hc

set_option maxRecDepth 100000 in
set_option maxHeartbeats 400000 in
theorem put_range (n : Nat) (size : Int) (w : World) (h : size < 1 ∨ 8 < size) :
    Calls Try.prog 96 #[.int .u64 (n : Int), .int .i64 size] w fun e w' => e = .returned (.tuple #[.slice none 0 0, .int .i64 4]) ∧ Below w.heap.size w w' := by
  have hB : Below w.heap.size w (w.alloc (.cells #[.int .u64 (n : Int)] 161)) := (Below.refl _ _).alloc (Nat.le_refl _) _
  by_cases h0 : size < 1
  · go_enter Try.func96, Try.ntmps96
    go_wp2
    go_ret2
    exact ⟨rfl, hB⟩
  · have h' : 8 < size := by omega
    go_enter Try.func96, Try.ntmps96
    go_wp2
    go_ret2
    exact ⟨rfl, hB⟩

set_option maxRecDepth 100000 in
set_option maxHeartbeats 400000 in
theorem put_wide (n s : Nat) (w : World) (h1 : 1 ≤ s) (h8 : s ≤ 8) (hn : 2 ^ (8 * s) ≤ n) :
    Calls Try.prog 96 #[.int .u64 (n : Int), .int .i64 (s : Int)] w fun e w' => e = .returned (.tuple #[.slice none 0 0, .int .i64 4]) ∧ Below w.heap.size w w' := by
  have hB : Below w.heap.size w (w.alloc (.cells #[.int .u64 (n : Int)] 161)) := (Below.refl _ _).alloc (Nat.le_refl _) _
  have hd1 : decide ((s : Int) < 1) = false := by simp; omega
  have hd2 : decide (8 < (s : Int)) = false := by simp; omega
  have hz : ((n : Int) / 2 ^ (8 * s) != 0) = true := by
    have : 0 < n / 2 ^ (8 * s) := Nat.div_pos hn (Nat.two_pow_pos _)
    simp only [bne_iff_ne, ne_eq]
    intro h
    have : n / 2 ^ (8 * s) = 0 := by exact_mod_cast h
    omega
  clear hn
  go_enter Try.func96, Try.ntmps96
  go_wp2
  go_ret2
  exact ⟨rfl, hB⟩

theorem wrap_ob (n s k : Nat) (h : k < s) : Value.int .u8 (IntKind.u8.wrap ((n : Int) / 2 ^ (8 * ((s : Int) - 1 - (k : Int))).toNat)) = enc (ob n (s - 1 - k)) := by
  rw [enc_ob, show (8 * ((s : Int) - 1 - (k : Int))).toNat = 8 * (s - 1 - k) from by omega, IntKind.wrap_u8']

theorem put_step {n s B k : Nat} (hk : k < s) {pre : List (Pl s)} {w W : World} (bn : Boxed W B 161 (.int .u64 (n : Int))) (bb : Boxed W (B + 1 + 1) 41 (.slice (some ⟨B + 1, 0, none⟩) s s))
    (hr : W.ownsRow B 5 1 (.slice (some ⟨B + 1, 0, none⟩) s s) s ((putOf n s pre).map enc)) (hB : Below B w W) :
    KeepsOthers W (W.setCell ⟨B + 1, k, none⟩ (.int .u8 (IntKind.u8.wrap ((n : Int) / 2 ^ (8 * ((s : Int) - 1 - (k : Int))).toNat)))).drew ∧
    KeepsBox (B + 1 + 1 + 1) W (W.setCell ⟨B + 1, k, none⟩ (.int .u8 (IntKind.u8.wrap ((n : Int) / 2 ^ (8 * ((s : Int) - 1 - (k : Int))).toNat)))).drew ∧
    (Boxed (W.setCell ⟨B + 1, k, none⟩ (.int .u8 (IntKind.u8.wrap ((n : Int) / 2 ^ (8 * ((s : Int) - 1 - (k : Int))).toNat)))).drew B 161 (.int .u64 (n : Int)) ∧
      Boxed (W.setCell ⟨B + 1, k, none⟩ (.int .u8 (IntKind.u8.wrap ((n : Int) / 2 ^ (8 * ((s : Int) - 1 - (k : Int))).toNat)))).drew (B + 1 + 1) 41 (.slice (some ⟨B + 1, 0, none⟩) s s) ∧
      (W.setCell ⟨B + 1, k, none⟩ (.int .u8 (IntKind.u8.wrap ((n : Int) / 2 ^ (8 * ((s : Int) - 1 - (k : Int))).toNat)))).drew.ownsRow B 5 1 (.slice (some ⟨B + 1, 0, none⟩) s s) s ((putOf n s (pre ++ [⟨k, hk⟩])).map enc)) ∧
    Below B w (W.setCell ⟨B + 1, k, none⟩ (.int .u8 (IntKind.u8.wrap ((n : Int) / 2 ^ (8 * ((s : Int) - 1 - (k : Int))).toNat)))).drew := by
  rw [wrap_ob n s k hk]
  refine ⟨(KeepsOthers.setCell W _ _).trans (KeepsOthers.drew _), KeepsBox.setCell _ (by omega), ⟨?_, ?_, ?_⟩, (hB.setCell (p := ⟨B + 1, k, none⟩) (by simp) _).drew⟩
  · exact (Below.heap_setCell W ⟨B + 1, k, none⟩ _ B (by simp)).trans bn
  · exact (Below.heap_setCell W ⟨B + 1, k, none⟩ _ (B + 1 + 1) (by simp)).trans bb
  · rw [← putOf_snoc n s pre ⟨k, hk⟩]
    exact (hr.stored k (enc (ob n (s - 1 - k)))).1

set_option maxHeartbeats 2000000 in
set_option maxRecDepth 100000 in
theorem put_in (F : Fence) (m : Nat) (hro : F.round = none) (f0 : F.fn 96) (f1 : F.fn 106) (f2 : F.fn 112) (hm : 4 ≤ m) (n s : Nat) (w : World) (h1 : 1 ≤ s) (h8 : s ≤ 8) (hn : n < 2 ^ (8 * s)) (hn64 : n < 18446744073709551616) :
    CallsIn F m Try.prog 96 #[.int .u64 (n : Int), .int .i64 (s : Int)] w fun e w' => ∃ v, e = .returned (.tuple #[v, .int .i64 0]) ∧ OwnB w.heap.size w' v (oc n s) ∧ Below w.heap.size w w' := by
  have hm1 : 1 ≤ m := by omega
  obtain ⟨i0, hi, hz0, hz1, hz2⟩ := info_parts info8
  have hd1 : decide ((s : Int) < 1) = false := by simp; omega
  have hd2 : decide (8 < (s : Int)) = false := by simp; omega
  have hz : ((n : Int) / 2 ^ (8 * s) != 0) = false := by
    simp
    exact_mod_cast Nat.div_eq_of_lt hn
  have hmk : ∀ u : World, (Instr.makeSlice 41 (.int .i64 (s : Int)) (.int .i64 (s : Int))).run Try.prog u =
      .ok (.slice (some ⟨u.heap.size, 0, none⟩) s s) (u.alloc (.cells (madeCells #[.int .u8 0] s) 5)) := fun u => by
    have h := run_make (P := Try.prog) u 41 5 i0 (.int .u8 0) Try.underlying41 hi hz0 .i64 .i64 (s : Int) (s : Int) (by omega) (Int.le_refl _) (by rw [hz2]; omega) (by omega)
    simpa [hz1, Value.cells] using h
  have HN : Hid (n < 2 ^ (8 * s)) := hn
  clear hn
  refine callsIn_of_wp_marks Try.func96 rfl f0 ?_ hro
  simp only [Try.ntmps96, List.size_toArray, List.length_cons, List.length_nil, Nat.reduceAdd, Nat.reduceSub, Array.replicate_succ, Array.replicate_zero, List.push_toArray, List.append_toArray, List.nil_append, List.cons_append]
  gi_wp2_with (gi_at_call 106; refine (places_in F _ f1 hro _ _).mono ?_; rintro e w' ⟨rfl, rfl⟩)
  obtain ⟨B, hBd⟩ : ∃ B, w.heap.size = B := ⟨_, rfl⟩
  rw [hBd]
  obtain ⟨W0, hW0⟩ : ∃ W0, (((w.alloc (.cells #[.int .u64 (n : Int)] 161)).alloc (.cells (madeCells #[.int .u8 0] s) 5)).alloc (.cells #[.slice (some ⟨B + 1, 0, none⟩) s s] 41)).alloc (.cells #[.int .i64 (s : Int)] 3) = W0 := ⟨_, rfl⟩
  have hsz : W0.heap.size = B + 4 := by rw [← hW0]; simp [hBd]
  have bn : Boxed W0 B 161 (.int .u64 (n : Int)) := by
    rw [← hW0, ← hBd]; exact (((Boxed.new w _ _).alloc _).alloc _).alloc _
  have bb : Boxed W0 (B + 1 + 1) 41 (.slice (some ⟨B + 1, 0, none⟩) s s) := by
    rw [← hW0]
    have := Boxed.new ((w.alloc (.cells #[.int .u64 (n : Int)] 161)).alloc (.cells (madeCells #[.int .u8 0] s) 5)) 41 (.slice (some ⟨B + 1, 0, none⟩) s s)
    simp only [World.size_alloc, hBd] at this
    exact this.alloc _
  have bs : Boxed W0 (B + 1 + 1 + 1) 3 (.int .i64 (s : Int)) := by
    rw [← hW0]
    have := Boxed.new (((w.alloc (.cells #[.int .u64 (n : Int)] 161)).alloc (.cells (madeCells #[.int .u8 0] s) 5)).alloc (.cells #[.slice (some ⟨B + 1, 0, none⟩) s s] 41)) 3 (.int .i64 (s : Int))
    simp only [World.size_alloc, hBd] at this
    exact this
  have hrow : W0.ownsRow B 5 1 (.slice (some ⟨B + 1, 0, none⟩) s s) s ((putOf n s []).map enc) := by
    rw [putOf_nil, ← hW0, ← toList_madeCells_one]
    have := World.ownsRow_lit (base := B) (e := 5) (size := 1) (w.alloc (.cells #[.int .u64 (n : Int)] 161)) (madeCells #[.int .u8 0] s) s (by simp [hBd]) (by unfold maxLen; omega) (by simp [madeCells])
    simp only [World.size_alloc, hBd] at this
    exact (this.alloc _).alloc _
  have hB0 : Below B w W0 := by
    rw [← hW0, ← hBd]; exact ((((Below.refl _ w).alloc (Nat.le_refl _) _).alloc (by simp) _).alloc (by simp; omega) _).alloc (by simp; omega) _
  rw [hW0]
  refine wpIn_rangeFunc_ownF hro hm1 (gf := 112) (lb := #[.pointer (some ⟨B + 1 + 1 + 1, 0, none⟩)]) rfl f2 (enters_of Try.func112 (by kernel_rfl) rfl)
    (places_stops F (m - 1) f2 hro (by omega) (B + 1 + 1 + 1) s h8 W0 bs) KeepsBox.trans (KeepsBox.put (by omega)) (Below.refl _ _) (fun _ => rfl)
    (fun pre W => (Boxed W B 161 (.int .u64 (n : Int)) ∧ Boxed W (B + 1 + 1) 41 (.slice (some ⟨B + 1, 0, none⟩) s s) ∧ W.ownsRow B 5 1 (.slice (some ⟨B + 1, 0, none⟩) s s) s ((putOf n s pre).map enc)) ∧ Below B w W)
    (fun _ _ _ => False)
    (OwnFrom.and (OwnFrom.and (Own.from (boxed_own _ _ _) _) (OwnFrom.and (Own.from (boxed_own _ _ _) _) (Own.from (place_own _ _ _ _ _) _))) (ownFrom_below (by omega) (by omega)))
    (fun _ _ _ _ _ hs _ _ => hs)
    ⟨⟨bn, bb, hrow⟩, hB0⟩
    (fun x => { tmps := #[.int .u64 (n : Int), .int .i64 (s : Int), .pointer (some ⟨B, 0, none⟩), undef, .slice none 0 0, .int .i64 0, .pointer (some ⟨B + 1 + 1, 0, none⟩), .int .i64 (x.1 : Int), .int .i64 (8 * ((s : Int) - 1 - (x.1 : Int))), .int .i64 (s : Int), .bool false, .bool false, .int .i64 (s : Int), .bool false, .bool false, .int .u64 (n : Int), .int .i64 (s : Int), .int .i64 (8 * (s : Int)), .int .u64 ((n : Int) / 2 ^ (8 * s)), .bool false, .int .i64 (s : Int), .slice (some ⟨B + 1, 0, none⟩) s s, .int .i64 (s : Int), .func (.func 112) #[] #[.pointer (some ⟨B + 1 + 1 + 1, 0, none⟩)], .int .i64 (x.1 : Int), .int .i64 (8 * ((s : Int) - 1 - (x.1 : Int))), undef, undef, undef, undef, undef, undef, undef, undef], defers := [] }) ?assign ?body ?done ?stop
  case assign =>
    intro l x W K hK
    dsimp only [plEncs]
    gi_wp2
    exact hK
  case body =>
    rintro l pre ⟨k, hk⟩ W ⟨⟨bn, bb, hr⟩, hB⟩ _
    have cn := bn.cell
    have cb := bb.cell
    have hq : (k : Int) < (s : Int) := by omega
    have fz := hr.frozenAt k
    obtain ⟨u, cl⟩ : ∃ u, W.cell? ⟨B + 1, k, none⟩ = some u := by
      rw [hr.cellAt k (by omega)]
      exact ⟨_, List.getElem?_eq_getElem (by simp [putOf_length]; exact hk)⟩
    have fin := put_step hk bn bb hr hB
    have FIN := hide fin
    clear fin hmk hW0 hrow bs hB0 hi hz0 hz1 hz2 hB hr bb bn hz hd1 hd2 hro f0 f1 f2
    gi_wp2
    gi_region
    all_goals gi_wp2
    all_goals exact FIN.out
  case done =>
    rintro D ys W hD rfl ⟨⟨bn, bb, hr⟩, hB⟩ hK
    have cb := bb.cell
    gi_wp2
    refine ⟨by simp, .inl ⟨_, _, rfl, run_takeDeferred hK, ?_⟩⟩
    refine ⟨_, results_tmp2 rfl _ _ _, _, rfl, ?_, ?_⟩
    · unfold OwnB
      rw [oc_length, hBd, ← putOf_all]
      exact ownsRow_putObj hr _ hK rfl
    · rw [hBd]
      exact hB.trans (belowK_b (w := W0) (by omega) W D _ _ hD hK rfl rfl)
  case stop =>
    rintro D c pre W _ _ h _
    exact h.elim

theorem put_yes (n s : Nat) (w : World) (h1 : 1 ≤ s) (h8 : s ≤ 8) (hn : n < 2 ^ (8 * s)) (hn64 : n < 18446744073709551616) :
    Calls Try.prog 96 #[.int .u64 (n : Int), .int .i64 (s : Int)] w fun e w' => ∃ v, e = .returned (.tuple #[v, .int .i64 0]) ∧ OwnB w.heap.size w' v (oc n s) ∧ Below w.heap.size w w' :=
  (callsIn_wide (n := 5)).1 (put_in Fence.wide 5 rfl trivial trivial trivial (by omega) n s w h1 h8 hn hn64)

end Go.Proofs.Ytgmkknonnidgaaa
