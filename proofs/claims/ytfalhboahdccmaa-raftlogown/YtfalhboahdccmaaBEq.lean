/-
  bytes.Equal and bytes.Clone. General.
-/
import Derived.Laws.IdiomStrings
import Derived.Lib.SliceRun
import Derived.Test.YtfalhboahdccmaaBx
import Derived.Test.YtfalhboahdccmaaApp
namespace Go.Proofs.Ytfalhboahdccmaa
open Go.RowKit
set_option linter.unusedVariables false

/-- string(b) of octets that have a place, even of none -/
theorem conv_at {w : World} {b o c n : Nat} {xs : List UInt8} (hn : xs.length = n) (h : Rd w (.slice (some ⟨b, o, none⟩) n c) xs) : (convert 25 9 (.slice (some ⟨b, o, none⟩) n c)).run Try.prog w = .ok (.string ⟨xs.toArray⟩) w := by
  subst hn
  obtain ⟨ao, cap, e, h1, h2, h3, h4⟩ := h
  simp only [Value.slice.injEq, true_and] at e
  obtain ⟨rfl, rfl⟩ := e
  refine run_convert_bytes_back w 25 9 5 ⟨b, o, none⟩ c xs Try.underlying25 Try.underlying5 Try.underlying9 fun j hj => ?_
  rcases h4 with h4 | ⟨b', off, e, hc⟩
  · subst h4; simp at hj
  · simp only [Option.some.injEq, Addr.mk.injEq, and_true] at e
    obtain ⟨rfl, rfl⟩ := e
    have := hc j hj
    rw [show (⟨b, o, none⟩ : Addr).add j = ⟨b, o + j, none⟩ by simp [Addr.add], this]
    unfold bt
    simp [List.getD_eq_getElem?_getD, hj]
set_option maxRecDepth 100000 in
theorem bclone_at (w : World) (b o n c : Nat) (xs : List UInt8) (h : Rd w (.slice (some ⟨b, o, none⟩) n c) xs) (hm : xs.length ≤ 140737488351232) :
    Calls Try.prog 45 #[.slice (some ⟨b, o, none⟩) n c] w fun e w' => ∃ v', e = .returned v' ∧ OwnB w.heap.size w' v' xs ∧ Below w.heap.size w w' := by
  obtain ⟨X, hX⟩ : ∃ u, u = w.alloc (.cells #[] 5) := ⟨_, rfl⟩
  have oX : OwnB w.heap.size X (.slice (some ⟨w.heap.size, 0, none⟩) 0 0) [] := by rw [hX]; exact own_lit w [] (by decide)
  have bX : Below w.heap.size w X := by rw [hX]; exact (Below.refl _ _).alloc (Nat.le_refl _) _
  have rX := h.to bX
  have hl : ([] : List UInt8).length + xs.length ≤ 140737488355328 := by simp; omega
  have hsz := bX.size
  have hnil : (binOp .eql 25 (.slice (some ⟨b, o, none⟩) n c) (.slice none 0 0)).run Try.prog w = .ok (.bool false) w := Lib.run_eql_slice_nil w 25 5 _ n c 0 0 Try.underlying25
  clear h
  go_enter Try.func45, Try.ntmps45
  go_wp2_with (at_builtin; rw [← hX]; refine wpList_append_octs rfl _ _ rfl w.heap.size _ _ _ _ rfl rfl oX rX hl hsz ?_; intro v6 w6 o6 b6 _)
  go_ret
  exact ⟨_, rfl, by simpa using o6, bX.trans b6⟩

end Go.Proofs.Ytfalhboahdccmaa
