/-
  DERIVED. GIVEN WITH THE SEED: THE CARDS: each row of YtoijklenmjllcaaDoorRows.lean that lists a variable, with what it lists TIED to the program's text (the seventh form; the later family's looks); each row that meets fmt, with fmt's text TOLD by the authors' own Lean function (tested against real Go, not proved from fmt's source: count such statements apart). THE CARD IS WHAT COUNTS. Prove the row's statement (the work); the ties are given (YtoijklenmjllcaaDoorTie.lean); close each card by the builder's one call (the guide's Derived/Test/ToyasCard.lean, 'card_holds'). Laid BY PROGRAM, IN A SANDBOX (cutbox-door.mjs). By AI agents, Wed Nov 11 2026. No macro, syntax, notation, axiom, sorry.
-/
import Derived.Test.YtoijklenmjllcaaDoorRows
import GoSem.ClaimSeven
namespace Go.Proofs.YtoijklenmjllcaaDoor
namespace Rows

/-- THE TIED CARD OF 'transeptlaw01.OctetsTells'. -/
def octetsTellsCard : Claim7 := { stood := { row := octetsTellsRow, standIns := [], harness := (true, "e92477aed0d20b7af910b7751b246840002bf9c53c81275a91e9972d80b143f5"), looks := false }, kinds := [], alts := [], laidByText := true, laidKinds := [.data, .data, .data], laidTests := true, laidLooks := .later }
def OctetsTellsCardSaid : Prop := Claim7.holds Tryd.pinned (.plain (OpenSpec.ofChange octetsTellsSpec)) octetsTellsCard

/-- THE SECOND FORM's CARD OF 'transeptlaw01.OctetsTells'. -/
def octetsTellsUptoCard : Claim7 := { stood := { row := octetsTellsUptoRow, standIns := [], harness := (true, "e92477aed0d20b7af910b7751b246840002bf9c53c81275a91e9972d80b143f5"), looks := false }, kinds := [], alts := [], laidByText := true, laidKinds := [.data, .data, .data], laidTests := true, laidLooks := .later }
def OctetsTellsUptoCardSaid : Prop := Claim7.holds Tryd.pinned (.plain (OpenSpec.upto octetsTellsSpec)) octetsTellsUptoCard
end Rows
end Go.Proofs.YtoijklenmjllcaaDoor
