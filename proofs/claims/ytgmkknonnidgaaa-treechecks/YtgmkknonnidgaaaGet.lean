/-
  The contract of octets.Get: the number that 1 to 8 octets are, the highest first; Get of what Put gives is the number.
-/
import Derived.Test.YtgmkknonnidgaaaPut
namespace Go.Proofs.Ytgmkknonnidgaaa
open Go.RowKit Go.Shelf
attribute [local go_sem] Oper.semAt_some
set_option linter.unusedVariables false

/-- behind some of the rounds -/
def getOf (xs : List UInt8) {s : Nat} (pre : List (Pl s)) : Nat := pre.foldl (fun a k => a ||| (xs.getD k.1 0).toNat * 2 ^ (8 * (s - 1 - k.1))) 0
theorem getOf_snoc (xs : List UInt8) {s : Nat} (pre : List (Pl s)) (k : Pl s) : getOf xs (pre ++ [k]) = getOf xs pre ||| (xs.getD k.1 0).toNat * 2 ^ (8 * (s - 1 - k.1)) := by
  simp [getOf]
theorem piece_lt (xs : List UInt8) {s k : Nat} (hk : k < s) : (xs.getD k 0).toNat * 2 ^ (8 * (s - 1 - k)) < 2 ^ (8 * (s - k)) := by
  have := (xs.getD k 0).toNat_lt
  rw [show s - k = (s - 1 - k) + 1 from by omega, show 8 * (s - 1 - k + 1) = 8 * (s - 1 - k) + 8 from by omega, Nat.pow_add]
  have h2 := Nat.two_pow_pos (8 * (s - 1 - k))
  rw [Nat.mul_comm (2 ^ _) (2 ^ 8)]
  exact (Nat.mul_lt_mul_right h2).2 this
theorem getOf_lt (xs : List UInt8) {s : Nat} (h8 : s ≤ 8) (pre : List (Pl s)) : getOf xs pre < 18446744073709551616 := by
  have h64 : (18446744073709551616 : Nat) = 2 ^ 64 := by decide
  rw [h64]
  unfold getOf
  have h : ∀ (l : List (Pl s)) (a : Nat), a < 2 ^ 64 → l.foldl (fun a k => a ||| (xs.getD k.1 0).toNat * 2 ^ (8 * (s - 1 - k.1))) a < 2 ^ 64 := by
    intro l
    induction l with
    | nil => intro a ha; exact ha
    | cons k r ih =>
      intro a ha
      refine ih _ (Nat.or_lt_two_pow ha ?_)
      exact Nat.lt_of_lt_of_le (piece_lt xs k.2) (Nat.pow_le_pow_right (by omega) (by omega))
  exact h pre 0 (by decide)
theorem getOf_to (xs : List UInt8) (s k : Nat) (hk : k ≤ s) : getOf xs (plTo s k hk) = numTo xs k * 2 ^ (8 * (s - k)) := by
  induction k with
  | zero => simp [getOf, plTo, numTo]
  | succ k ih =>
    rw [plTo_succ s k hk, getOf_snoc, ih (by omega)]
    simp only
    rw [nat_join (8 * (s - k)) _ _ (Nat.mul_mod_left _ _) (piece_lt xs hk)]
    simp only [numTo]
    rw [show s - k = (s - 1 - k) + 1 from by omega, show s - (k + 1) = s - 1 - k from by omega, show 8 * (s - 1 - k + 1) = 8 * (s - 1 - k) + 8 from by omega, Nat.pow_add, Nat.add_mul]
    congr 1
    rw [Nat.mul_comm (2 ^ (8 * (s - 1 - k))) (2 ^ 8), ← Nat.mul_assoc]
theorem getOf_all (xs : List UInt8) : getOf xs (plTo xs.length xs.length (Nat.le_refl _)) = numOf xs := by
  rw [getOf_to]; simp [numOf]

theorem box_nat_own {β : Type} (B : Nat) (t : TypeId) (f : β → Value) : Own (fun (x : β) W => Boxed W B t (f x)) := boxed_own B t f

set_option maxRecDepth 100000 in
set_option maxHeartbeats 400000 in
theorem get_no (w : World) (v : Value) (xs : List UInt8) (h : Rd w v xs) (hl : xs.length < 1 ∨ 8 < xs.length) :
    Calls Try.prog 109 #[v] w fun e w' => e = .returned (.tuple #[.int .u64 0, .int .i64 3]) ∧ Below w.heap.size w w' := by
  obtain ⟨a, c, rfl, l1, m1, n1, r1⟩ := h
  unfold maxLen at m1
  have hB : Below w.heap.size w (w.alloc (.cells #[.slice a xs.length c] 41)) := (Below.refl _ _).alloc (Nat.le_refl _) _
  by_cases h0 : xs.length < 1
  · go_enter Try.func109, Try.ntmps109
    go_wp2
    go_ret2
    exact ⟨rfl, hB⟩
  · have h' : 8 < xs.length := by omega
    go_enter Try.func109, Try.ntmps109
    go_wp2
    go_ret2
    exact ⟨rfl, hB⟩

theorem wrap_piece (xs : List UInt8) (s k : Nat) (hk : k < s) (h8 : s ≤ 8) : IntKind.u64.wrap (IntKind.u64.wrap (bt xs k) * 2 ^ (8 * ((s : Int) - 1 - (k : Int))).toNat) = (((xs.getD k 0).toNat * 2 ^ (8 * (s - 1 - k)) : Nat) : Int) := by
  have hb := bt_bd xs k
  have hl := piece_lt xs hk
  have h64 : 2 ^ (8 * (s - k)) ≤ 2 ^ 64 := Nat.pow_le_pow_right (by omega) (by omega)
  have e64 : (2 : Nat) ^ 64 = 18446744073709551616 := by decide
  rw [e64] at h64
  rw [show (8 * ((s : Int) - 1 - (k : Int))).toNat = 8 * (s - 1 - k) from by omega, IntKind.wrap_u64, IntKind.wrap_u64, Int.emod_eq_of_lt hb.1 (by omega)]
  have e : bt xs k * 2 ^ (8 * (s - 1 - k)) = (((xs.getD k 0).toNat * 2 ^ (8 * (s - 1 - k)) : Nat) : Int) := by
    unfold bt; rw [Int.natCast_mul, Int.natCast_pow]; rfl
  rw [e]
  omega

theorem get_step {xs : List UInt8} {s B k : Nat} (hk : k < s) (h8 : s ≤ 8) {pre : List (Pl s)} {w W : World} {sv : Value} (bb : Boxed W B 41 sv) (bn : Boxed W (B + 1) 161 (.int .u64 (getOf xs pre : Nat))) (hB : Below B w W) :
    KeepsOthers W (W.setCell ⟨B + 1, 0, none⟩ (.int .u64 (bits .or .u64 (getOf xs pre : Nat) (IntKind.u64.wrap (IntKind.u64.wrap (bt xs k) * 2 ^ (8 * ((s : Int) - 1 - (k : Int))).toNat))))).drew ∧
    KeepsBox (B + 1 + 1) W (W.setCell ⟨B + 1, 0, none⟩ (.int .u64 (bits .or .u64 (getOf xs pre : Nat) (IntKind.u64.wrap (IntKind.u64.wrap (bt xs k) * 2 ^ (8 * ((s : Int) - 1 - (k : Int))).toNat))))).drew ∧
    (Boxed (W.setCell ⟨B + 1, 0, none⟩ (.int .u64 (bits .or .u64 (getOf xs pre : Nat) (IntKind.u64.wrap (IntKind.u64.wrap (bt xs k) * 2 ^ (8 * ((s : Int) - 1 - (k : Int))).toNat))))).drew B 41 sv ∧
      Boxed (W.setCell ⟨B + 1, 0, none⟩ (.int .u64 (bits .or .u64 (getOf xs pre : Nat) (IntKind.u64.wrap (IntKind.u64.wrap (bt xs k) * 2 ^ (8 * ((s : Int) - 1 - (k : Int))).toNat))))).drew (B + 1) 161 (.int .u64 (getOf xs (pre ++ [⟨k, hk⟩]) : Nat))) ∧
    Below B w (W.setCell ⟨B + 1, 0, none⟩ (.int .u64 (bits .or .u64 (getOf xs pre : Nat) (IntKind.u64.wrap (IntKind.u64.wrap (bt xs k) * 2 ^ (8 * ((s : Int) - 1 - (k : Int))).toNat))))).drew := by
  have e64 : (2 : Nat) ^ 64 = 18446744073709551616 := by decide
  have h64 : 2 ^ (8 * (s - k)) ≤ 2 ^ 64 := Nat.pow_le_pow_right (by omega) (by omega)
  rw [wrap_piece xs s k hk h8, u64_or_nat _ _ (getOf_lt xs h8 pre) (by have := piece_lt xs hk; omega), ← getOf_snoc xs pre ⟨k, hk⟩]
  refine ⟨(KeepsOthers.setCell W _ _).trans (KeepsOthers.drew _), KeepsBox.setCell _ (by omega), ⟨?_, ?_⟩, (hB.setCell (p := ⟨B + 1, 0, none⟩) (by simp) _).drew⟩
  · exact (Below.heap_setCell W ⟨B + 1, 0, none⟩ _ B (by simp)).trans bb
  · exact bn.set _

set_option maxHeartbeats 4000000 in
set_option maxRecDepth 100000 in
theorem get_in (F : Fence) (m : Nat) (hro : F.round = none) (f0 : F.fn 109) (f1 : F.fn 106) (f2 : F.fn 112) (hm : 4 ≤ m) (w : World) (v : Value) (xs : List UInt8) (hv : Rd w v xs) (h1 : 1 ≤ xs.length) (h8 : xs.length ≤ 8) :
    CallsIn F m Try.prog 109 #[v] w fun e w' => e = .returned (.tuple #[.int .u64 (numOf xs : Nat), .int .i64 0]) ∧ Below w.heap.size w w' := by
  have hm1 : 1 ≤ m := by omega
  obtain ⟨a, c, rfl, l1, mx, n1, r1⟩ := hv
  rw [show maxLen = 9223372036854775807 from rfl] at mx
  rcases r1 with rfl | ⟨b, off, rfl, hc⟩
  · simp at h1
  have hbl : b < w.heap.size := cell_lt (hc 0 (by omega))
  obtain ⟨s, hs⟩ : ∃ s, xs.length = s := ⟨_, rfl⟩
  have HS := hide hs
  rw [hs] at h1 h8 l1 hc ⊢
  clear hs
  have hd1 : decide ((s : Int) < 1) = false := by simp; omega
  have hd2 : decide (8 < (s : Int)) = false := by simp; omega
  refine callsIn_of_wp_marks Try.func109 rfl f0 ?_ hro
  simp only [Try.ntmps109, List.size_toArray, List.length_cons, List.length_nil, Nat.reduceAdd, Nat.reduceSub, Array.replicate_succ, Array.replicate_zero, List.push_toArray, List.append_toArray, List.nil_append, List.cons_append]
  gi_wp2_with (gi_at_call 106; refine (places_in F _ f1 hro _ _).mono ?_; rintro e w' ⟨rfl, rfl⟩)
  obtain ⟨B, hBd⟩ : ∃ B, w.heap.size = B := ⟨_, rfl⟩
  rw [hBd]
  obtain ⟨W0, hW0⟩ : ∃ W0, ((w.alloc (.cells #[.slice (some ⟨b, off, none⟩) s c] 41)).alloc (.cells #[.int .u64 0] 161)).alloc (.cells #[.int .i64 (s : Int)] 3) = W0 := ⟨_, rfl⟩
  have hsz : W0.heap.size = B + 3 := by rw [← hW0]; simp [hBd]
  have bb : Boxed W0 B 41 (.slice (some ⟨b, off, none⟩) s c) := by
    rw [← hW0, ← hBd]; exact ((Boxed.new w _ _).alloc _).alloc _
  have bn : Boxed W0 (B + 1) 161 (.int .u64 (getOf xs (s := s) [] : Nat)) := by
    rw [← hW0]
    have := Boxed.new (w.alloc (.cells #[.slice (some ⟨b, off, none⟩) s c] 41)) 161 (.int .u64 0)
    simp only [World.size_alloc, hBd] at this
    exact this.alloc _
  have bs : Boxed W0 (B + 1 + 1) 3 (.int .i64 (s : Int)) := by
    rw [← hW0]
    have := Boxed.new ((w.alloc (.cells #[.slice (some ⟨b, off, none⟩) s c] 41)).alloc (.cells #[.int .u64 0] 161)) 3 (.int .i64 (s : Int))
    simp only [World.size_alloc, hBd] at this
    exact this
  have hB0 : Below B w W0 := by
    rw [← hW0, ← hBd]; exact (((Below.refl _ w).alloc (Nat.le_refl _) _).alloc (by simp) _).alloc (by simp; omega) _
  rw [hW0]
  refine wpIn_rangeFunc_ownF hro hm1 (gf := 112) (lb := #[.pointer (some ⟨B + 1 + 1, 0, none⟩)]) rfl f2 (enters_of Try.func112 (by kernel_rfl) rfl)
    (places_stops F (m - 1) f2 hro (by omega) (B + 1 + 1) s h8 W0 bs) KeepsBox.trans (KeepsBox.put (by omega)) (Below.refl _ _) (fun _ => rfl)
    (fun pre W => (Boxed W B 41 (.slice (some ⟨b, off, none⟩) s c) ∧ Boxed W (B + 1) 161 (.int .u64 (getOf xs pre : Nat))) ∧ Below B w W)
    (fun _ _ _ => False)
    (OwnFrom.and (OwnFrom.and (Own.from (boxed_own _ _ _) _) (Own.from (boxed_own _ _ _) _)) (ownFrom_below (by omega) (by omega)))
    (fun _ _ _ _ _ hs _ _ => hs)
    ⟨⟨bb, bn⟩, hB0⟩
    (fun x => { tmps := #[.slice (some ⟨b, off, none⟩) s c, .pointer (some ⟨B, 0, none⟩), .int .u64 0, .int .i64 0, .pointer (some ⟨B + 1, 0, none⟩), .int .i64 (x.1 : Int), .int .i64 (8 * ((s : Int) - 1 - (x.1 : Int))), .slice (some ⟨b, off, none⟩) s c, .int .i64 (s : Int), .bool false, .bool false, .slice (some ⟨b, off, none⟩) s c, .int .i64 (s : Int), .bool false, .bool false, .slice (some ⟨b, off, none⟩) s c, .int .i64 (s : Int), .func (.func 112) #[] #[.pointer (some ⟨B + 1 + 1, 0, none⟩)], .int .i64 (x.1 : Int), .int .i64 (8 * ((s : Int) - 1 - (x.1 : Int))), undef, undef, undef, undef, undef, undef, undef, undef, undef, undef], defers := [] }) ?assign ?body ?done ?stop
  case assign =>
    intro l x W K hK
    dsimp only [plEncs]
    gi_wp2
    exact hK
  case body =>
    rintro l pre ⟨k, hk⟩ W ⟨⟨bb, bn⟩, hB⟩ _
    have cb := bb.cell
    have cn := bn.cell
    have fn := bn.frozen
    have hq : (k : Int) < (s : Int) := by omega
    have cc : W.cell? ⟨b, off + k, none⟩ = some (.int .u8 (bt xs k)) := (hB.cell (p := ⟨b, off + k, none⟩) (by rw [← hBd]; exact hbl)).trans (hc k hk)
    have hbd := bt_bd xs k
    have fin := get_step hk h8 bb bn hB
    have FIN := hide fin
    clear fin hW0 bs hB0 hro f0 f1 f2 hc bb bn hB
    gi_wp2
    gi_region
    all_goals gi_wp2
    all_goals exact FIN.out
  case done =>
    rintro D ys W hD rfl ⟨⟨bb, bn⟩, hB⟩ hK
    have cn := bn.cell
    gi_wp2
    refine ⟨by simp, .inl ⟨_, _, rfl, run_takeDeferred hK, ?_⟩⟩
    refine ⟨_, results_tmp2 rfl _ _ _, ?_, ?_⟩
    · have e : getOf xs (plTo s s (Nat.le_refl _)) = numOf xs := by
        have := HS.out
        subst this
        exact getOf_all xs
      rw [← e]
      rfl
    · rw [hBd]
      exact hB.trans (belowK_b (w := W0) (by omega) W D _ _ hD hK rfl rfl)
  case stop =>
    rintro D c pre W _ _ h _
    exact h.elim

theorem get_yes (w : World) (v : Value) (xs : List UInt8) (hv : Rd w v xs) (h1 : 1 ≤ xs.length) (h8 : xs.length ≤ 8) :
    Calls Try.prog 109 #[v] w fun e w' => e = .returned (.tuple #[.int .u64 (numOf xs : Nat), .int .i64 0]) ∧ Below w.heap.size w w' :=
  (callsIn_wide (n := 5)).1 (get_in Fence.wide 5 rfl trivial trivial trivial (by omega) w v xs hv h1 h8)

end Go.Proofs.Ytgmkknonnidgaaa
