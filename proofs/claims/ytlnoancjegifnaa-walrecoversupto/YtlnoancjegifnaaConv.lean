/-
  []byte of a text's own letters. For every seat.
-/
import Derived.Lib.UnsafeStr
import Derived.Test.YtlnoancjegifnaaOwn
namespace Go.Proofs.Ytlnoancjegifnaa
open Go.RowKit
set_option linter.unusedVariables false

/-- []byte of a text's own letters: the block is marked, its octets stay -/
theorem conv_same (w : World) (g l c : Nat) (t : TypeId) (n : Nat) (hs : w.shape? g = some (t, n)) :
    (convert 54 54 (.slice (some ⟨g, 0, none⟩) l c)).run Try.prog w = .ok (.slice (some ⟨g, 0, none⟩) l c) (w.freeze ⟨g, n, none⟩ 1) := by
  have e : (shape g).run Try.prog w = .ok (some (t, n)) w := by rw [← hs]; rfl
  simp [convert, markStringish, e]
theorem cell_freeze (w : World) (p : Addr) (n : Nat) (a : Addr) : (w.freeze p n).cell? a = w.cell? a := by
  unfold World.freeze
  split
  · rfl
  · simp only [World.cell?, Array.getElem?_modify]
    by_cases h : p.block = a.block
    · rw [if_pos h]
      cases w.heap[a.block]? with
      | none => rfl
      | some o => cases o <;> simp
    · rw [if_neg h]
theorem Rd.freeze {w : World} {v : Value} {xs : List UInt8} (h : Rd w v xs) (p : Addr) (n : Nat) : Rd (w.freeze p n) v xs := by
  obtain ⟨ao, cap, rfl, h1, h2, h3, h4⟩ := h
  refine ⟨ao, cap, rfl, h1, h2, h3, ?_⟩
  rcases h4 with h4 | ⟨b, off, rfl, hc⟩
  · exact .inl h4
  · exact .inr ⟨b, off, rfl, fun i hi => by rw [cell_freeze]; exact hc i hi⟩

end Go.Proofs.Ytlnoancjegifnaa
