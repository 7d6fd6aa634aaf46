/-
  What the program's calls say of votes: all of it holds.
-/
import Derived.Test.YtccklmhagabkaaaVtS
namespace Go.Proofs.Ytccklmhagabkaaa
open Go.RowKit

theorem vote_say : VoteSay where
  chk := fun w s _ => pcheck16_any w s
  newer := fun w l lt o ot _ _ _ _ => (pnewer16_any w l lt o ot).mono (by rintro e w' ⟨rfl, rfl⟩; exact ⟨rfl, Below.refl _ _⟩)
  turn := fun w s t _ _ => pturn16_any w s t
  dec := fun w s own ot a _ _ _ _ => pdec16_any w s own ot a
end Go.Proofs.Ytccklmhagabkaaa
