/-
  copy(x, y) of octets: x the call's own, y any octets; one law for a plain region.
-/
import Derived.Laws.CopyOwn
import Derived.Test.YtfalhboahdccmaaApp
namespace Go.Proofs.Ytfalhboahdccmaa
open Go.RowKit
set_option linter.unusedVariables false

/-- what copy leaves in x -/
def over (xs ys : List UInt8) : List UInt8 := ys.take xs.length ++ xs.drop ys.length
theorem over_length (xs ys : List UInt8) : (over xs ys).length = xs.length := by simp [over]; omega
theorem over_all {xs ys : List UInt8} (h : xs.length = ys.length) : over xs ys = ys := by
  unfold over; rw [List.take_of_length_le (by omega), List.drop_of_length_le (by omega), List.append_nil]

set_option maxRecDepth 100000 in
theorem run_copy_octs {w : World} {B : Nat} {v v2 : Value} {xs ys : List UInt8} (ty : TypeId) (hown : OwnB B w v xs) (hrd : Rd w v2 ys) :
    ∃ w', (Builtin.copy_ #[25, 25] ty #[v, v2]).run Try.prog w = .ok (goInt (Nat.min ys.length xs.length)) w' ∧ OwnB B w' v (over xs ys) ∧ Below B w w' ∧ w.grownBy w' v.ownBlock := by
  have hi : (Try.prog.info? 5).map (·.size) = some 1 := by kernel_rfl
  obtain ⟨ao, c, rfl, l1, m1, n1, r1⟩ := hrd
  obtain ⟨dp, dc, rfl⟩ := hown.rd.slice
  by_cases h0 : Nat.min ys.length xs.length = 0
  · have hrun := run_copy_none (P := Try.prog) w 25 25 ty 5 dp ao xs.length dc ys.length c Try.underlying25 hi h0
    have e : over xs ys = xs := by
      have h0' : min ys.length xs.length = 0 := h0
      unfold over
      by_cases hy : ys.length = 0
      · rw [List.eq_nil_of_length_eq_zero hy]; simp
      · have hx : xs.length = 0 := by omega
        rw [List.eq_nil_of_length_eq_zero hx]; simp
    refine ⟨w, ?_, by rw [e]; exact hown, Below.refl _ _, World.grownBy.refl _ _⟩
    rw [h0]
    exact hrun
  · have h0' : ¬ min ys.length xs.length = 0 := h0
    rcases hown with ⟨_, ⟨e, h1⟩ | ⟨g, cap, cur, e, hb, hg, hn, hmx, hsz, ht⟩⟩
    · omega
    cases e
    rcases r1 with r1 | ⟨b, off, rfl, hc⟩
    · rw [r1] at h0'; simp at h0'
    have ecs : ((ys.take xs.length).map enc).length = Nat.min ys.length xs.length := by
      simp only [List.length_map, List.length_take]; exact Nat.min_comm _ _
    have ecs' : ((ys.take xs.length).map enc).length = min ys.length xs.length := ecs
    have hsrc : ∀ j u, ((ys.take xs.length).map enc)[j]? = some u → w.cell? ((⟨b, off, none⟩ : Addr).add j) = some u := by
      intro j u hj
      refine news_octs (xs := ys) hc j u ?_
      have hjl : j < xs.length := by
        have := (List.getElem?_eq_some_iff.1 hj).1
        rw [ecs'] at this; omega
      rw [← hj, List.map_take, List.getElem?_take, if_pos hjl]
    have hrun := run_copy_row (P := Try.prog) w 25 25 ty 5 g 0 xs.length dc ⟨b, off, none⟩ ys.length c cur 5 ((ys.take xs.length).map enc) Try.underlying25 hi hg ecs hsrc (by rw [ecs']; omega) (fun u hu => enc_one _ u hu)
    · rw [ecs] at hrun
      have hgl : g < w.heap.size := lt_of_block hg
      have hL : ((ys.take xs.length).map enc).length ≤ cur.toList.length := by
        have hq : cur.toList.length = cur.size := Array.length_toList
        have hmm : min ys.length xs.length ≤ xs.length := Nat.min_le_right _ _
        rw [ecs', hq]; omega
      refine ⟨_, hrun, ?_, below_setRow (Below.refl _ _) hb _, ⟨rfl, rfl, rfl, by simp [World.setRow], fun k _ hk => setRow_other w g k _ (by rintro rfl; exact hk rfl)⟩⟩
      have hcl : cur.toList.length = dc := by rw [Array.length_toList]; omega
      have hmx' : min ys.length xs.length ≤ xs.length := Nat.min_le_right _ _
      have emin : Nat.min ys.length xs.length = min ys.length xs.length := rfl
      try rw [emin]
      refine ⟨by simp [over_length], .inr ⟨g, dc, _, by rw [over_length], hb, setRow_heap w g _ _ _ _ hg, by rw [over_length]; exact hn, hmx, ?_, ?_⟩⟩
      · simp only [List.take_zero, List.nil_append, Nat.zero_add, List.size_toArray, List.length_append, List.length_drop]
        rw [ecs', hcl]
        omega
      · rw [over_length]
        simp only [List.take_zero, List.nil_append, Nat.zero_add, Nat.mul_one] at ht ⊢
        have e1 : over xs ys = ys.take xs.length ++ xs.drop (min ys.length xs.length) := by
          unfold over
          congr 1
          by_cases hxy : ys.length ≤ xs.length
          · rw [Nat.min_eq_left hxy]
          · rw [Nat.min_eq_right (by omega), List.drop_of_length_le (by omega), List.drop_of_length_le (Nat.le_refl _)]
        rw [e1, List.map_append, List.map_drop, ← ht, List.drop_take, List.take_append, ecs', List.take_of_length_le (by rw [ecs']; omega)]

set_option maxRecDepth 100000 in
theorem wpList_copy_octs {ops : Array Oper} {rest : List Oper} {o : Oper} {a : Act} {w : World} {Q : Exit → Act → World → Prop} (hgd : o.guard = none) (d s : Operand)
    (ho : o.op = .call { callee := .builtin .copy, args := #[d, s], argTypes := #[25, 25] }) (B : Nat) (v v2 : Value) (xs ys : List UInt8) (hd : a.eval d = v) (hs : a.eval s = v2)
    (hown : OwnB B w v xs) (hrd : Rd w v2 ys)
    (h : ∀ w', OwnB B w' v (over xs ys) → Below B w w' → w.grownBy w' v.ownBlock → wpList Try.prog ops Q rest (a.put o.dst (goInt (Nat.min ys.length xs.length))) w') : wpList Try.prog ops Q (o :: rest) a w := by
  refine wpList_plain hgd fun K hK => ?_
  obtain ⟨w', hrun, h1, h2, h3⟩ := run_copy_octs o.type hown hrd
  unfold Oper.wp
  simp [execOp, ho, resolve, invoke, builtin, hd, hs, hrun, Result.andThen]
  exact hK _ _ (h w' h1 h2 h3)

end Go.Proofs.Ytfalhboahdccmaa
