/-
  A piece x[q:to] of octets reads as that piece.
-/
import Derived.Test.YtccklmhagabkaaaBase
namespace Go.Proofs.Ytccklmhagabkaaa
open Go.RowKit
set_option linter.unusedVariables false

theorem rd_sub {w : World} {a : Option Addr} {len cap : Nat} {xs : List UInt8} (h : Rd w (.slice a len cap) xs) {q to : Nat} (h1 : q ≤ to) (h2 : to ≤ len) :
    Rd w (.slice (a.map fun x => x.add q) (to - q) (cap - q)) ((xs.take to).drop q) ∧ (cap = q → Rd w (.slice a (to - q) 0) ((xs.take to).drop q)) := by
  obtain ⟨ao, c, e, l1, m1, n1, r1⟩ := h
  simp only [Value.slice.injEq] at e
  obtain ⟨rfl, rfl, rfl⟩ := e
  have el : ((xs.take to).drop q).length = to - q := by simp; omega
  refine ⟨⟨a.map fun x => x.add q, cap - q, by rw [el], by rw [el]; omega, by omega, ?_, ?_⟩, fun hc => ?_⟩
  · intro h
    cases a with
    | none => rw [n1 rfl]; simp
    | some x => cases h
  · rcases r1 with rfl | ⟨b, off, rfl, hc⟩
    · left; simp
    · by_cases h0 : to = q
      · left; apply List.eq_nil_of_length_eq_zero; rw [el]; omega
      · right
        refine ⟨b, off + q, ?_, fun i hi => ?_⟩
        · simp [Addr.add]
        · rw [el] at hi
          have := hc (q + i) (by omega)
          rw [show off + q + i = off + (q + i) from by omega, this]
          simp only [bt]
          congr 3
          simp only [List.getD_eq_getElem?_getD, List.getElem?_drop, List.getElem?_take]
          rw [if_pos (by omega)]
  · have h0 : to - q = 0 := by omega
    have en : (xs.take to).drop q = [] := List.eq_nil_of_length_eq_zero (by rw [el, h0])
    rw [en, h0]
    exact ⟨a, 0, rfl, Nat.le_refl _, Nat.zero_le _, fun _ => rfl, .inl rfl⟩

theorem rd_cut {w : World} {a : Option Addr} {len cap : Nat} {xs : List UInt8} (h : Rd w (.slice a len cap) xs) {q to : Nat} (h1 : q ≤ to) (h2 : to ≤ len) :
    ∃ A, (if cap = q then a else Option.map (fun x => x.add q) a) = A ∧ Rd w (.slice A (to - q) (cap - q)) ((xs.take to).drop q) := by
  obtain ⟨s1, s2⟩ := rd_sub h h1 h2
  by_cases hc : cap = q
  · refine ⟨a, if_pos hc, ?_⟩
    rw [show cap - q = 0 from by omega]
    exact s2 hc
  · exact ⟨_, if_neg hc, s1⟩

end Go.Proofs.Ytccklmhagabkaaa
