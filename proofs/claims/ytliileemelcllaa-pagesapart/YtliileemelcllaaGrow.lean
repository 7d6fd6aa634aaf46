/-
  append onto octets that are full. General.
-/
import Derived.ArgAppend
import Derived.Test.YtliileemelcllaaOwn
import Derived.Test.YtliileemelcllaaApp
namespace Go.Proofs.Ytliileemelcllaa
open Go.RowKit
set_option linter.unusedVariables false

/-- append onto octets that are full: they are laid anew -/
theorem wpList_grow_octs {ops : Array Oper} {rest : List Oper} {o : Oper} {a : Act} {w : World} {Q : Exit → Act → World → Prop} (hgd : o.guard = none) (s x : Operand)
    (ho : o.op = .call { callee := .builtin .append, args := #[s, x], argTypes := #[22, 22] }) (g n : Nat) (v2 : Value) (xs ys : List UInt8) (hs : a.eval s = .slice (some ⟨g, 0, none⟩) n n) (hx : a.eval x = v2)
    (h1 : Rd w (.slice (some ⟨g, 0, none⟩) n n) xs) (h2 : Rd w v2 ys) (h0 : 0 < xs.length) (hy : 0 < ys.length) (hlen : xs.length + ys.length ≤ 140737488355328)
    (h : ∀ v' w', OwnB w.heap.size w' v' (xs ++ ys) → Below w.heap.size w w' → wpList Try.prog ops Q rest (a.put o.dst v') w') : wpList Try.prog ops Q (o :: rest) a w := by
  obtain ⟨i0, hi, hz0, hz1, hz2⟩ := info_parts info8
  obtain ⟨ao, c, e, l1, m1, n1, r1⟩ := h1
  simp only [Value.slice.injEq] at e
  obtain ⟨rfl, rfl, rfl⟩ := e
  rcases r1 with r1 | ⟨b1, off1, e1, hc1⟩
  · subst r1; simp at h0
  · simp only [Option.some.injEq, Addr.mk.injEq, and_true] at e1
    obtain ⟨rfl, rfl⟩ := e1
    obtain ⟨ao2, c2, rfl, l2, m2, n2, r2⟩ := h2
    rcases r2 with r2 | ⟨b2, off2, rfl, hc2⟩
    · subst r2; simp at hy
    · refine wpList_append_grows w hgd s x 22 ho 5 i0 (.int .u8 0) 1 1 Try.underlying22 hi hz0 hz1 hz2 rfl (by decide) (some ⟨g, 0, none⟩) xs.length xs.length (xs.map enc) hs (fun e => by cases e) (by simp)
        (fun b hb => by cases hb; exact news_octs hc1) ⟨b2, off2, none⟩ ys.length c2 (ys.map enc) hx (by simp) (news_octs hc2) (enc_one ys) (by omega) (by rw [show maxLen = 9223372036854775807 from rfl]; omega) (by omega) ?_
      intro v' w' k1 k2
      refine h v' w' ?_ ((Below.refl _ _).grown k2 (Nat.le_refl _) (fun k hk => by cases hk))
      unfold OwnB
      simpa using k1

end Go.Proofs.Ytliileemelcllaa
