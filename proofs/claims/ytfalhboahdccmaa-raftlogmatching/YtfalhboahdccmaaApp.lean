/-
  append(x, y...) of octets: x the call's own, y any octets; one law for a plain region, whatever y is (nil, empty, octets).
-/
import Derived.Test.YtfalhboahdccmaaOwn
namespace Go.Proofs.Ytfalhboahdccmaa
open Go.RowKit
set_option linter.unusedVariables false

theorem OwnB.from {B : Nat} {w : World} {v : Value} {xs : List UInt8} (h : OwnB B w v xs) : ∀ k, v.ownBlock = some k → B ≤ k := by
  intro k hk
  rcases h.2 with ⟨rfl, _⟩ | ⟨g, cap, cur, rfl, hb, _⟩
  · cases hk
  · simp only [Value.ownBlock, Option.some.injEq] at hk
    omega

theorem wpList_append_octs {ops : Array Oper} {rest : List Oper} {o : Oper} {a : Act} {w : World} {Q : Exit → Act → World → Prop} (hgd : o.guard = none) (s x : Operand)
    (ho : o.op = .call { callee := .builtin .append, args := #[s, x], argTypes := #[25, 25] }) (B : Nat) (v v2 : Value) (xs ys : List UInt8) (hs : a.eval s = v) (hx : a.eval x = v2)
    (hown : OwnB B w v xs) (hrd : Rd w v2 ys) (hlen : xs.length + ys.length ≤ 140737488355328) (hB : B ≤ w.heap.size)
    (h : ∀ v' w', OwnB B w' v' (xs ++ ys) → Below B w w' → w.grownBy w' v.ownBlock → wpList Try.prog ops Q rest (a.put o.dst v') w') : wpList Try.prog ops Q (o :: rest) a w := by
  obtain ⟨i0, hi, hz0, hz1, hz2⟩ := info_parts info8
  obtain ⟨ao, c, rfl, l1, m1, n1, r1⟩ := hrd
  cases ao with
  | none =>
    have : ys = [] := by
      rcases r1 with r1 | ⟨b, off, h, _⟩
      · exact r1
      · cases h
    subst this
    obtain rfl : c = 0 := n1 rfl
    refine wpList_append_own_none hgd s x 25 ho B 5 i0 1 Try.underlying25 hi v xs.length (xs.map enc) hs hown hx ?_
    exact h v w (by simpa using hown) (Below.refl _ _) (World.grownBy.refl _ _)
  | some ad =>
    have e1 : (ys.map enc).length = ys.length * 1 := by simp
    have e2 : ∀ j u, (ys.map enc)[j]? = some u → w.cell? (ad.add j) = some u := by
      rcases r1 with rfl | ⟨b, off, h, hc⟩
      · intro j u hj; simp at hj
      · obtain rfl : ad = ⟨b, off, none⟩ := by simpa using h
        exact news_octs hc
    refine wpList_append_own _ hgd s x 25 ho B 5 i0 (.int .u8 0) 1 1 Try.underlying25 hi hz0 hz1 hz2 rfl (by decide) v xs.length (xs.map enc) hs hown ad ys.length c (ys.map enc) hx e1 e2 (enc_one ys)
      (by rw [show maxLen = 9223372036854775807 from rfl]; omega) (by omega) hB ?_
    intro v' w' h1 h2 _
    refine h v' w' ?_ ((Below.refl _ _).grown h2 hB hown.from) h2
    unfold OwnB
    simpa using h1

end Go.Proofs.Ytfalhboahdccmaa
