/-
  The contracts of transeptref01.Put and transeptref01.Get: they come to what octets.Put and octets.Get come to.
-/
import Derived.Test.YtlnoancjegifnaaOwn
import Derived.Test.YtlnoancjegifnaaNums
namespace Go.Proofs.Ytlnoancjegifnaa
open Go.RowKit
set_option linter.unusedVariables false

theorem oc_take (n s k : Nat) (hk : k < s) : (oc n s).take (k + 1) = (oc n s).take k ++ [ob n (s - 1 - k)] := by
  rw [List.take_succ_eq_append_getElem (by rw [oc_length]; exact hk)]
  congr 1
  simp [oc]

theorem heap_new1 (w : World) (o : Obj) : (w.alloc o).heap[w.heap.size]? = some o := by
  show (w.heap.push o)[w.heap.size]? = _
  simp
theorem news_one (w : World) (x : Value) (t : TypeId) : ∀ j u, ([x] : List Value)[j]? = some u → (w.alloc (.cells #[x] t)).cell? ((⟨w.heap.size, 0, none⟩ : Addr).add j) = some u := by
  intro j u hj
  match j, hj with
  | 0, hj =>
    simp at hj
    subst hj
    have h := heap_new1 w (.cells #[x] t)
    show (w.alloc (.cells #[x] t)).cell? ⟨w.heap.size, 0, none⟩ = some x
    unfold World.cell?
    simp only [h]
    rfl

set_option maxRecDepth 100000 in
set_option maxHeartbeats 1000000 in
theorem refOctets_any (w : World) (n s : Nat) (h8 : s ≤ 8) (hn64 : n < 18446744073709551616) :
    Calls Try.prog 52 #[.int .u64 (n : Int), .int .i64 (s : Int)] w fun e w' => ∃ v, e = .returned v ∧ OwnB w.heap.size w' v (oc n s) ∧ Below w.heap.size w w' := by
  obtain ⟨i0, hi, hz0, hz1, hz2⟩ := info_parts info8
  go_enter Try.func52, Try.ntmps52
  go_wp2
  go_loopw [5, 6] (fun v i wr => ∃ k : Nat, k ≤ s ∧ i = .int .i64 ((s : Int) - 1 - (k : Int)) ∧ OwnB w.heap.size wr v ((oc n s).take k) ∧ Below w.heap.size w wr) (fun _ i _ => (intOf i + 1).toNat)
  case atStart => exact ⟨0, Nat.zero_le _, by go_num, by rw [List.take_zero]; exact World.ownsRow_nil _ _ _ _, Below.refl _ _⟩
  case round =>
    obtain ⟨k, hk, rfl, hown, hb⟩ := hrel
    by_cases hlt : k < s
    · have htl : ((oc n s).take k).length = k := by rw [List.length_take, oc_length]; omega
      have hst := oc_take n s k hlt
      unfold OwnB at hown
      rw [htl] at hown
      obtain ⟨I, hI0⟩ : ∃ I : Nat, s - 1 - k = I := ⟨_, rfl⟩
      have hI : (s : Int) - 1 - (k : Int) = (I : Int) := by omega
      have hvx : Value.int .u8 (IntKind.u8.wrap ((n : Int) / 2 ^ (8 * I))) = enc (ob n I) := by rw [enc_ob, IntKind.wrap_u8']
      rw [hI0] at hst
      obtain ⟨X, hX⟩ : ∃ X, (oc n s).take k = X := ⟨_, rfl⟩
      rw [hX] at hown htl hst
      have n4 : k + 1 ≤ maxLen := by rw [show maxLen = 9223372036854775807 from rfl]; omega
      have n5 : (k + 1) * 1 ≤ 140737488355328 := by omega
      have n6 := hb.size
      have HFIN : Hid (∀ v1 w3 tmp, w3.ownsRow w.heap.size 5 1 v1 (k + 1) (X.map enc ++ [.int .u8 (IntKind.u8.wrap ((n : Int) / 2 ^ (8 * I)))]) → (wr.alloc tmp).grownBy w3 u5.ownBlock → OwnB w.heap.size w3 v1 ((oc n s).take (k + 1)) ∧ Below w.heap.size w w3) := fun v1 w3 tmp h hg => by
        refine ⟨?_, (hb.alloc n6 _).grown hg (by simp; omega) (fun j hj => (hown.lt j hj).1)⟩
        unfold OwnB
        rw [hst, List.length_append, htl, List.map_append]
        rw [hvx] at h
        exact h
      have HOWN := hide hown
      clear hown hb hst hX hvx
      rw [hI]
      have hI7 : (I : Int) ≤ 7 := by omega
      have HI := hide hI
      clear hI hI0
      go_wp2_with (at_builtin; refine wpList_append_own _ rfl _ _ 54 rfl w.heap.size 5 i0 (.int .u8 0) 1 1 Try.underlying54 hi hz0 hz1 hz2 rfl (by decide) _ _ _ rfl (HOWN.out.alloc _) ⟨wr.heap.size, 0, none⟩ 1 1 [_] rfl rfl (news_one _ _ _) (by intro u hu; simp at hu; subst hu; rfl) n4 n5 (by simp; omega) ?_; intro v1 w3 hown1 hgrow1 hnil1; have HF := hide (HFIN.out _ _ _ hown1 hgrow1); clear hown1 hgrow1 hnil1)
      go_roundw
      case rel => exact ⟨k + 1, by omega, by rw [show ((s : Int) - 1 - ((k + 1 : Nat) : Int)) = (I : Int) - 1 from by have := HI.out; omega], HF.out.1, HF.out.2⟩
      case measure => simp [intOf]
    · have hks : k = s := by omega
      subst hks
      go_wp2
      go_ret
      exact ⟨_, rfl, by rw [List.take_of_length_le (by rw [oc_length]; exact Nat.le_refl _)] at hown; exact hown, hb⟩

set_option maxRecDepth 100000 in
set_option maxHeartbeats 400000 in
theorem refNumber_any (w : World) (v : Value) (xs : List UInt8) (h : Rd w v xs) (h8 : xs.length ≤ 8) :
    Calls Try.prog 66 #[v] w fun e w' => e = .returned (.int .u64 (numOf xs : Nat)) ∧ w = w' := by
  obtain ⟨a1, c1, rfl, l1, m1, n1, r1⟩ := h
  rw [show maxLen = 9223372036854775807 from rfl] at m1
  go_enter Try.func66, Try.ntmps66
  go_wp2
  go_loop [3, 4] (fun s i => ∃ k : Nat, k ≤ xs.length ∧ i = .int .i64 k ∧ s = .int .u64 (numTo xs k : Nat)) (fun _ i => xs.length - (intOf i).toNat)
  case atStart => exact ⟨0, Nat.zero_le _, rfl, rfl⟩
  case round =>
    obtain ⟨k, hk, rfl, rfl⟩ := hrel
    by_cases hlt : k < xs.length
    · rcases r1 with r1 | ⟨b1, o1, rfl, hc1⟩
      · rw [r1] at hlt; simp at hlt
      have g1 := hc1 k hlt
      have hq : (k : Int) < (xs.length : Int) := by omega
      have hb := bt_bd xs k
      have hnl : numTo xs k < 72057594037927936 := by
        have h1 := numTo_lt xs k
        have h2 : (2 : Nat) ^ (8 * k) ≤ 2 ^ 56 := Nat.pow_le_pow_right (by omega) (by omega)
        have h3 : (2 : Nat) ^ 56 = 72057594037927936 := by decide
        omega
      have HS : Hid (((numTo xs (k + 1) : Nat) : Int) = (numTo xs k : Nat) * 256 + bt xs k) := by
        show ((numTo xs k * 256 + (xs.getD k 0).toNat : Nat) : Int) = _
        rw [Int.natCast_add, Int.natCast_mul]; rfl
      generalize numTo xs k = z at *
      generalize bt xs k = y at *
      clear hc1
      go_wp2
      go_round
      case rel => exact ⟨k + 1, by omega, by go_num, by rw [HS.out]⟩
      case measure => simp [intOf]; omega
    · go_wp2
      go_ret
      exact ⟨by rw [show k = xs.length from by omega]; rfl, rfl⟩

end Go.Proofs.Ytlnoancjegifnaa
