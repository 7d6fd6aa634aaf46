/-
  No cell of these rows narrows 'for every input' (looked for: loops, veiled, ifaces, maps, wideKeys, modest, calm, conditions, laid).
  DERIVED. THE GIVEN ROWS OF THIS SEAT. 6 by the template 'for every input the law returns true; each argument reads behind the call as it read before'; 0 by the template 'total and deterministic' (their statements: YtliileemelcllaaTotals.lean).
  GIVEN WITH THE SEED: the statements are not yours to turn. If you find one false, say at which input.
  Laid BY PROGRAM, IN A SANDBOX (cutbox-rows.mjs): the forced cells as the released guide's own fill.sh prints them over the translation 929bfcf5560bbcaf… (all of the seat's roots in one cut). By AI agents, Wed Nov 11 2026. No macro, syntax, notation, axiom, sorry.
-/
import Derived.Test.YtliileemelcllaaChecked
import GoSem.Claim
import GoSem.ClaimJoined
import GoSem.ClaimMapViews
import Derived.JoinedTies
import Derived.KernelRfl
namespace Go.Proofs.Ytliileemelcllaa
/- THE CELL 'sum', in the pinned program and in every row, IS THE sha256 OF THE DUMP (.gsa) THAT YtliileemelcllaaProg.lean LOADS. Nothing in Lean hashes anything: it is a label: what it is worth is what the hold of that sum in a sandbox is worth. -/
noncomputable def Try.pinned : Pinned := { name := "ytliileemelcllaa", sum := "929bfcf5560bbcafbcb02b0e6f820de1e13a5fbe92d454f3e53a2770c4d1cecb", checked := Try.checked }
namespace Rows
def none {H : Type} : Left H := { results := [], args := [] }

/-- 'transeptlaw07.PagesTells': WHATEVER THE INPUT: true; the input reads as it did. -/
def pagesTellsSpec : ChangeSpec := { name := "pagesTells", fn := fun _ => fun
  | [d1, d2, d3] => { results := [.lit (.bool true)], args := [d1, d2, d3] }
  | _ => none }
def pagesTellsRow : OpenClaim := { program := "ytliileemelcllaa", sum := "929bfcf5560bbcafbcb02b0e6f820de1e13a5fbe92d454f3e53a2770c4d1cecb", func := "transept/transeptlaw07.PagesTells", spec := "pagesTells", unfollowed := true, recurses := true, apart := false }
def PagesTellsSaid : Prop := pagesTellsRow.holds Try.pinned (OpenSpec.ofChange pagesTellsSpec)

/-- ITS FALSE NEIGHBOUR: 'it returns false'. Refute it at one input. -/
def pagesTellsWrong : ChangeSpec := { name := "pagesTells", fn := fun _ => fun
  | [d1, d2, d3] => { results := [.lit (.bool false)], args := [d1, d2, d3] }
  | _ => none }
def PagesTellsWrongFalsely : Prop := pagesTellsRow.holds Try.pinned (OpenSpec.ofChange pagesTellsWrong)

/-- 'transeptlaw07.PagesDisks': WHATEVER THE INPUT: true; the input reads as it did. -/
def pagesDisksSpec : ChangeSpec := { name := "pagesDisks", fn := fun _ => fun
  | [d1, d2, d3, d4] => { results := [.lit (.bool true)], args := [d1, d2, d3, d4] }
  | _ => none }
def pagesDisksRow : OpenClaim := { program := "ytliileemelcllaa", sum := "929bfcf5560bbcafbcb02b0e6f820de1e13a5fbe92d454f3e53a2770c4d1cecb", func := "transept/transeptlaw07.PagesDisks", spec := "pagesDisks", unfollowed := true, recurses := true, apart := false }
def PagesDisksSaid : Prop := pagesDisksRow.holds Try.pinned (OpenSpec.ofChange pagesDisksSpec)

/-- ITS FALSE NEIGHBOUR: 'it returns false'. Refute it at one input. -/
def pagesDisksWrong : ChangeSpec := { name := "pagesDisks", fn := fun _ => fun
  | [d1, d2, d3, d4] => { results := [.lit (.bool false)], args := [d1, d2, d3, d4] }
  | _ => none }
def PagesDisksWrongFalsely : Prop := pagesDisksRow.holds Try.pinned (OpenSpec.ofChange pagesDisksWrong)

/-- 'transeptlaw07.PagesBack': WHATEVER THE INPUT: true; the input reads as it did. -/
def pagesBackSpec : ChangeSpec := { name := "pagesBack", fn := fun _ => fun
  | [d1, d2, d3] => { results := [.lit (.bool true)], args := [d1, d2, d3] }
  | _ => none }
def pagesBackRow : OpenClaim := { program := "ytliileemelcllaa", sum := "929bfcf5560bbcafbcb02b0e6f820de1e13a5fbe92d454f3e53a2770c4d1cecb", func := "transept/transeptlaw07.PagesBack", spec := "pagesBack", unfollowed := true, recurses := true, apart := false }
def PagesBackSaid : Prop := pagesBackRow.holds Try.pinned (OpenSpec.ofChange pagesBackSpec)

/-- ITS FALSE NEIGHBOUR: 'it returns false'. Refute it at one input. -/
def pagesBackWrong : ChangeSpec := { name := "pagesBack", fn := fun _ => fun
  | [d1, d2, d3] => { results := [.lit (.bool false)], args := [d1, d2, d3] }
  | _ => none }
def PagesBackWrongFalsely : Prop := pagesBackRow.holds Try.pinned (OpenSpec.ofChange pagesBackWrong)

/-- 'transeptlaw07.PagesCrash': WHATEVER THE INPUT: true; the input reads as it did. -/
def pagesCrashSpec : ChangeSpec := { name := "pagesCrash", fn := fun _ => fun
  | [d1, d2, d3, d4, d5] => { results := [.lit (.bool true)], args := [d1, d2, d3, d4, d5] }
  | _ => none }
def pagesCrashRow : OpenClaim := { program := "ytliileemelcllaa", sum := "929bfcf5560bbcafbcb02b0e6f820de1e13a5fbe92d454f3e53a2770c4d1cecb", func := "transept/transeptlaw07.PagesCrash", spec := "pagesCrash", unfollowed := true, recurses := true, apart := false }
def PagesCrashSaid : Prop := pagesCrashRow.holds Try.pinned (OpenSpec.ofChange pagesCrashSpec)

/-- ITS FALSE NEIGHBOUR: 'it returns false'. Refute it at one input. -/
def pagesCrashWrong : ChangeSpec := { name := "pagesCrash", fn := fun _ => fun
  | [d1, d2, d3, d4, d5] => { results := [.lit (.bool false)], args := [d1, d2, d3, d4, d5] }
  | _ => none }
def PagesCrashWrongFalsely : Prop := pagesCrashRow.holds Try.pinned (OpenSpec.ofChange pagesCrashWrong)

/-- 'transeptlaw07.PagesRot': WHATEVER THE INPUT: true; the input reads as it did. -/
def pagesRotSpec : ChangeSpec := { name := "pagesRot", fn := fun _ => fun
  | [d1, d2, d3, d4] => { results := [.lit (.bool true)], args := [d1, d2, d3, d4] }
  | _ => none }
def pagesRotRow : OpenClaim := { program := "ytliileemelcllaa", sum := "929bfcf5560bbcafbcb02b0e6f820de1e13a5fbe92d454f3e53a2770c4d1cecb", func := "transept/transeptlaw07.PagesRot", spec := "pagesRot", unfollowed := true, recurses := true, apart := false }
def PagesRotSaid : Prop := pagesRotRow.holds Try.pinned (OpenSpec.ofChange pagesRotSpec)

/-- ITS FALSE NEIGHBOUR: 'it returns false'. Refute it at one input. -/
def pagesRotWrong : ChangeSpec := { name := "pagesRot", fn := fun _ => fun
  | [d1, d2, d3, d4] => { results := [.lit (.bool false)], args := [d1, d2, d3, d4] }
  | _ => none }
def PagesRotWrongFalsely : Prop := pagesRotRow.holds Try.pinned (OpenSpec.ofChange pagesRotWrong)

/-- 'transeptlaw07.PagesApart': WHATEVER THE INPUT: true; the input reads as it did. -/
def pagesApartSpec : ChangeSpec := { name := "pagesApart", fn := fun _ => fun
  | [d1, d2] => { results := [.lit (.bool true)], args := [d1, d2] }
  | _ => none }
def pagesApartRow : OpenClaim := { program := "ytliileemelcllaa", sum := "929bfcf5560bbcafbcb02b0e6f820de1e13a5fbe92d454f3e53a2770c4d1cecb", func := "transept/transeptlaw07.PagesApart", spec := "pagesApart", unfollowed := true, recurses := true, apart := false }
def PagesApartSaid : Prop := pagesApartRow.holds Try.pinned (OpenSpec.ofChange pagesApartSpec)

/-- ITS FALSE NEIGHBOUR: 'it returns false'. Refute it at one input. -/
def pagesApartWrong : ChangeSpec := { name := "pagesApart", fn := fun _ => fun
  | [d1, d2] => { results := [.lit (.bool false)], args := [d1, d2] }
  | _ => none }
def PagesApartWrongFalsely : Prop := pagesApartRow.holds Try.pinned (OpenSpec.ofChange pagesApartWrong)

/- THE SECOND FORM. 'bulk': how many values and letters a reading holds, each counted each time it is reached (what is shared counts as often as it is met; a slice's spare places count too). A statement '..UptoSaid' is the law's where the arguments, and the package variables that the reading takes, are together of bulk at most 1048576: NARROWER than '..Said'. Prove '..Said' where nothing that the law and all that it calls make is longer than what came in: it says more and counts as full. Else prove '..UptoSaid'. A law counts once. -/
mutual
def uptoBulk {H : Type} : DataW H → Nat
  | .lit (.string bytes) => bytes.length + 1
  | .lit _ => 1
  | .nil => 1
  | .ptr d => uptoBulk d + 1
  | .slice elems spare => uptoBulkAll elems + uptoBulkAll spare + 1
  | .agg parts => uptoBulkAll parts + 1
  | .iface _ d => uptoBulk d + 1
  | .map entries => uptoBulkEntries entries + 1
  | .held _ => 1
def uptoBulkAll {H : Type} : List (DataW H) → Nat
  | [] => 0
  | d :: r => uptoBulk d + uptoBulkAll r
def uptoBulkEntries {H : Type} : List (Lit × DataW H) → Nat
  | [] => 0
  | x :: r => uptoBulkEntry x + uptoBulkEntries r
def uptoBulkEntry {H : Type} : Lit × DataW H → Nat
  | (.string bytes, d) => bytes.length + uptoBulk d + 1
  | (_, d) => uptoBulk d + 1
 end
def uptoSmall : (H : Type) → List (DataW H) → Bool := fun _ ds => decide (uptoBulkAll ds ≤ 1048576)
def OpenSpec.upto (s : _root_.Go.ChangeSpec) : _root_.Go.OpenSpec := { _root_.Go.OpenSpec.ofChange s with cond := some uptoSmall }

/-- 'transeptlaw07.PagesTells', WHERE WHAT IT READS IS OF BULK AT MOST 1048576: true; the input reads as it did. -/
def pagesTellsUptoRow : OpenClaim := { program := "ytliileemelcllaa", sum := "929bfcf5560bbcafbcb02b0e6f820de1e13a5fbe92d454f3e53a2770c4d1cecb", func := "transept/transeptlaw07.PagesTells", spec := "pagesTells", unfollowed := true, recurses := true, apart := false, narrowed := true }
def PagesTellsUptoSaid : Prop := pagesTellsUptoRow.holds Try.pinned (OpenSpec.upto pagesTellsSpec)

/-- 'transeptlaw07.PagesDisks', WHERE WHAT IT READS IS OF BULK AT MOST 1048576: true; the input reads as it did. -/
def pagesDisksUptoRow : OpenClaim := { program := "ytliileemelcllaa", sum := "929bfcf5560bbcafbcb02b0e6f820de1e13a5fbe92d454f3e53a2770c4d1cecb", func := "transept/transeptlaw07.PagesDisks", spec := "pagesDisks", unfollowed := true, recurses := true, apart := false, narrowed := true }
def PagesDisksUptoSaid : Prop := pagesDisksUptoRow.holds Try.pinned (OpenSpec.upto pagesDisksSpec)

/-- 'transeptlaw07.PagesBack', WHERE WHAT IT READS IS OF BULK AT MOST 1048576: true; the input reads as it did. -/
def pagesBackUptoRow : OpenClaim := { program := "ytliileemelcllaa", sum := "929bfcf5560bbcafbcb02b0e6f820de1e13a5fbe92d454f3e53a2770c4d1cecb", func := "transept/transeptlaw07.PagesBack", spec := "pagesBack", unfollowed := true, recurses := true, apart := false, narrowed := true }
def PagesBackUptoSaid : Prop := pagesBackUptoRow.holds Try.pinned (OpenSpec.upto pagesBackSpec)

/-- 'transeptlaw07.PagesCrash', WHERE WHAT IT READS IS OF BULK AT MOST 1048576: true; the input reads as it did. -/
def pagesCrashUptoRow : OpenClaim := { program := "ytliileemelcllaa", sum := "929bfcf5560bbcafbcb02b0e6f820de1e13a5fbe92d454f3e53a2770c4d1cecb", func := "transept/transeptlaw07.PagesCrash", spec := "pagesCrash", unfollowed := true, recurses := true, apart := false, narrowed := true }
def PagesCrashUptoSaid : Prop := pagesCrashUptoRow.holds Try.pinned (OpenSpec.upto pagesCrashSpec)

/-- 'transeptlaw07.PagesRot', WHERE WHAT IT READS IS OF BULK AT MOST 1048576: true; the input reads as it did. -/
def pagesRotUptoRow : OpenClaim := { program := "ytliileemelcllaa", sum := "929bfcf5560bbcafbcb02b0e6f820de1e13a5fbe92d454f3e53a2770c4d1cecb", func := "transept/transeptlaw07.PagesRot", spec := "pagesRot", unfollowed := true, recurses := true, apart := false, narrowed := true }
def PagesRotUptoSaid : Prop := pagesRotUptoRow.holds Try.pinned (OpenSpec.upto pagesRotSpec)

/-- 'transeptlaw07.PagesApart', WHERE WHAT IT READS IS OF BULK AT MOST 1048576: true; the input reads as it did. -/
def pagesApartUptoRow : OpenClaim := { program := "ytliileemelcllaa", sum := "929bfcf5560bbcafbcb02b0e6f820de1e13a5fbe92d454f3e53a2770c4d1cecb", func := "transept/transeptlaw07.PagesApart", spec := "pagesApart", unfollowed := true, recurses := true, apart := false, narrowed := true }
def PagesApartUptoSaid : Prop := pagesApartUptoRow.holds Try.pinned (OpenSpec.upto pagesApartSpec)

end Rows
end Go.Proofs.Ytliileemelcllaa
