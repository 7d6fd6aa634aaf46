/-
  The program's appendNumber and appendText.
-/
import Derived.Lib.AppendStr
import Derived.Test.YtgmkknonnidgaaaNPB
import Derived.Test.YtgmkknonnidgaaaApp
import Derived.Test.YtgmkknonnidgaaaPut
namespace Go.Proofs.Ytgmkknonnidgaaa
open Go.RowKit
set_option linter.unusedVariables false
set_option linter.unusedSimpArgs false

theorem oc_one (k : Nat) : oc k 1 = [UInt8.ofNat k] := by simp [oc, ob, List.range_succ]
theorem oc_four (z : Int) : oc z.toNat 4 = n4 z := by simp [oc, ob, n4, List.range_succ]
theorem strCells_enc (x : Str) : Lib.strCells ⟨x.toArray⟩ = x.map enc := by
  unfold Lib.strCells enc
  rfl

set_option maxRecDepth 100000 in
set_option maxHeartbeats 1000000 in
theorem pnum_any (w : World) (B : Nat) (v : Value) (xs : List UInt8) (n s : Nat) (ho : OwnB B w v xs) (hB : B ≤ w.heap.size) (h1 : 1 ≤ s) (h8 : s ≤ 8) (hn : n < 2 ^ (8 * s)) (h63 : n < 9223372036854775808) (hl : xs.length ≤ 1000000) :
    Calls Try.prog 76 #[v, .int .i64 (n : Int), .int .i64 (s : Int)] w fun e w' => ∃ v', e = .returned v' ∧ OwnB B w' v' (xs ++ oc n s) ∧ Below B w w' := by
  have KK := hide (put_yes n s w h1 h8 hn (by omega))
  have hw : IntKind.u64.wrap (n : Int) = (n : Int) := by unfold IntKind.wrap; simp [IntKind.bits, IntKind.signed]; omega
  obtain ⟨a, c, hv⟩ := ho.rd.slice
  have HO := hide ho
  have hlo := hide (oc_length n s)
  clear ho
  subst hv
  go_enter Try.func76, Try.ntmps76
  go_wp2_with fail
  refine KK.out.mono ?_
  rintro e w1 ⟨v1, rfl, o1, b1⟩
  obtain ⟨a1, c1, rfl⟩ := o1.rd.slice
  rw [hlo.out]
  rw [hlo.out] at o1
  have o2 := HO.out.below (Nat.le_refl _) b1
  have r1 := o1.rd
  have hsz : B ≤ w1.heap.size := Nat.le_trans hB b1.size
  have hL : xs.length + (oc n s).length ≤ 140737488355328 := by rw [hlo.out]; omega
  have bb := hide (b1.mono hB)
  clear o1 b1 KK
  go_wp2_with (at_builtin; refine wpList_append_octs rfl _ _ rfl B _ _ _ _ rfl rfl o2 r1 hL hsz ?_; intro v6 w6 o6 b6 _)
  go_ret
  exact ⟨_, rfl, o6, bb.out.trans b6⟩

set_option maxRecDepth 100000 in
set_option maxHeartbeats 1000000 in
theorem ptext_any (w : World) (B : Nat) (v : Value) (xs : List UInt8) (x : Str) (ho : OwnB B w v xs) (hB : B ≤ w.heap.size) (hx : x.length ≤ 255) (hl : xs.length ≤ 1000000) :
    Calls Try.prog 77 #[v, st x] w fun e w' => ∃ v', e = .returned v' ∧ OwnB B w' v' (xs ++ [UInt8.ofNat x.length] ++ x) ∧ Below B w w' := by
  have KK := hide (pnum_any w B v xs x.length 1 ho hB (by decide) (by decide) (by omega) (by omega) hl)
  obtain ⟨a, c, hv⟩ := ho.rd.slice
  obtain ⟨i0, hi, hz0, hz1, hz2⟩ := info_parts info8
  clear ho
  subst hv
  go_enter Try.func77, Try.ntmps77
  go_wp2_with fail
  refine KK.out.mono ?_
  rintro e w1 ⟨v1, rfl, o1, b1⟩
  clear KK
  rw [oc_one] at o1
  obtain ⟨a1, c1, rfl⟩ := o1.rd.slice
  have hsz : B ≤ w1.heap.size := Nat.le_trans hB b1.size
  have BB := hide b1
  have hL1 : (xs ++ [UInt8.ofNat x.length]).length + (ByteArray.mk x.toArray).size ≤ maxLen := by rw [size_st, show maxLen = 9223372036854775807 from rfl]; simp; omega
  have hL2 : (xs ++ [UInt8.ofNat x.length]).length + (ByteArray.mk x.toArray).size ≤ 140737488355328 := by rw [size_st]; simp; omega
  have fr := hide o1.from
  generalize hX : xs ++ [UInt8.ofNat x.length] = X at *
  replace hX := hide hX
  clear b1
  go_wp2_with (at_builtin; (refine Lib.wpList_append_own_string _ rfl _ _ 41 9 rfl B 5 i0 Try.underlying41 Try.underlying9 hi hz0 hz1 hz2 _ _ _ rfl o1 _ rfl hL1 hL2 hsz ?_; intro v6 w6 o6 g6 _))
  go_ret
  refine ⟨_, rfl, ?_, BB.out.trans ((Below.refl _ _).grown g6 hsz fr.out)⟩
  rw [strCells_enc, size_st] at o6
  rw [hX.out]
  unfold OwnB
  simpa using o6

end Go.Proofs.Ytgmkknonnidgaaa
