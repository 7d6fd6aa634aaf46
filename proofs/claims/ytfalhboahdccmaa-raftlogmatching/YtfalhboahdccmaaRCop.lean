/-
  The contract of transeptref03.Copied.
-/
import Derived.Test.YtfalhboahdccmaaOwn
namespace Go.Proofs.Ytfalhboahdccmaa
open Go.RowKit
set_option linter.unusedVariables false

set_option maxRecDepth 100000 in
set_option maxHeartbeats 400000 in
theorem rcopied_any (w : World) (v : Value) (xs : List UInt8) (h : Rd w v xs) (hm : xs.length ≤ 140737488355328) :
    Calls Try.prog 37 #[v] w fun e w' => ∃ v', e = .returned v' ∧ OwnB w.heap.size w' v' xs ∧ Below w.heap.size w w' := by
  obtain ⟨a, c, rfl, l1, m1, n1, r1⟩ := h
  obtain ⟨i0, hi, hz0, hz1, hz2⟩ := info_parts info8
  cases a with
  | none =>
    have : xs = [] := by
      rcases r1 with r1 | ⟨b, off, h, _⟩
      · exact r1
      · cases h
    subst this
    obtain rfl : c = 0 := n1 rfl
    go_enter Try.func37, Try.ntmps37
    go_wp2_with (at_builtin; refine wpList_append_own_none rfl _ _ 25 rfl w.heap.size 5 i0 1 Try.underlying25 hi (.slice none 0 0) 0 [] rfl (World.ownsRow_nil _ _ _ _) rfl ?_)
    go_ret
    exact ⟨_, rfl, World.ownsRow_nil _ _ _ _, Below.refl _ _⟩
  | some ad =>
    have n1 : (xs.map enc).length = xs.length * 1 := by simp
    have n2 : ∀ j u, (xs.map enc)[j]? = some u → w.cell? (ad.add j) = some u := by
      rcases r1 with rfl | ⟨b, off, h, hc⟩
      · intro j u hj; simp at hj
      · obtain rfl : ad = ⟨b, off, none⟩ := by simpa using h
        exact news_octs hc
    have n3 := enc_one xs
    have n4 : 0 + xs.length ≤ maxLen := by rw [show maxLen = 9223372036854775807 from rfl]; omega
    have n5 : (0 + xs.length) * 1 ≤ 140737488355328 := by omega
    have N2 := hide n2
    clear n2 r1
    go_enter Try.func37, Try.ntmps37
    go_wp2_with (at_builtin; refine wpList_append_own _ rfl _ _ 25 rfl w.heap.size 5 i0 (.int .u8 0) 1 1 Try.underlying25 hi hz0 hz1 hz2 rfl (by decide) (.slice none 0 0) 0 [] rfl (World.ownsRow_nil _ _ _ _) ad xs.length c (xs.map enc) rfl n1 N2.out n3 n4 n5 (Nat.le_refl _) ?_; intro v1 w3 hown1 hgrow1 hnil1)
    go_ret
    refine ⟨_, rfl, ?_, (Below.refl _ _).grown hgrow1 (Nat.le_refl _) (fun k h => by cases h)⟩
    unfold OwnB
    simpa using hown1

end Go.Proofs.Ytfalhboahdccmaa
