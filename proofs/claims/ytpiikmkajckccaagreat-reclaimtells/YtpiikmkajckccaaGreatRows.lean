/-
  No cell of these rows narrows 'for every input' (looked for: loops, veiled, ifaces, maps, wideKeys, modest, calm, conditions, laid).
  DERIVED. THE GIVEN ROWS OF THIS SEAT. 3 by the template 'for every input the law returns true; each argument reads behind the call as it read before'; 0 by the template 'total and deterministic' (their statements: YtpiikmkajckccaaGreatTotals.lean).
  GIVEN WITH THE SEED: the statements are not yours to turn. If you find one false, say at which input.
  Laid BY PROGRAM, IN A SANDBOX (cutbox-rows.mjs): the forced cells as the released guide's own fill.sh prints them over the translation bdbfbe0ac085ff64… (all of the seat's roots in one cut). By AI agents, Wed Nov 11 2026. No macro, syntax, notation, axiom, sorry.
-/
import Derived.Test.YtpiikmkajckccaaGreatChecked
import GoSem.Claim
import GoSem.ClaimJoined
import GoSem.ClaimMapViews
import Derived.JoinedTies
import Derived.KernelRfl
namespace Go.Proofs.YtpiikmkajckccaaGreat
/- THE CELL 'sum', in the pinned program and in every row, IS THE sha256 OF THE DUMP (.gsa) THAT YtpiikmkajckccaaGreatProg.lean LOADS. Nothing in Lean hashes anything: it is a label: what it is worth is what the hold of that sum in a sandbox is worth. -/
noncomputable def Tryz.pinned : Pinned := { name := "ytpiikmkajckccaagreat", sum := "bdbfbe0ac085ff6469fbcf2fe5ca802dd4543c4aa8cf85d3075650083033e107", checked := Tryz.checked }
namespace Rows
def none {H : Type} : Left H := { results := [], args := [] }

/-- 'transeptlaw11.ReclaimTells': WHATEVER THE INPUT: true; the input reads as it did. -/
def reclaimTellsSpec : ChangeSpec := { name := "reclaimTells", fn := fun _ => fun
  | [d1, d2] => { results := [.lit (.bool true)], args := [d1, d2] }
  | _ => none }
def reclaimTellsRow : OpenClaim := { program := "ytpiikmkajckccaagreat", sum := "bdbfbe0ac085ff6469fbcf2fe5ca802dd4543c4aa8cf85d3075650083033e107", func := "transept/transeptlaw11.ReclaimTells", spec := "reclaimTells", inPlace := ["slices.overlaps[string]", "slices.overlaps[transept/tree.branch]"], unfollowed := true, recurses := true, apart := false }
def ReclaimTellsSaid : Prop := reclaimTellsRow.holds Tryz.pinned (OpenSpec.ofChange reclaimTellsSpec)

/-- ITS FALSE NEIGHBOUR: 'it returns false'. Refute it at one input. -/
def reclaimTellsWrong : ChangeSpec := { name := "reclaimTells", fn := fun _ => fun
  | [d1, d2] => { results := [.lit (.bool false)], args := [d1, d2] }
  | _ => none }
def ReclaimTellsWrongFalsely : Prop := reclaimTellsRow.holds Tryz.pinned (OpenSpec.ofChange reclaimTellsWrong)

/-- 'transeptlaw11.ReclaimAll': WHATEVER THE INPUT: true; the input reads as it did. -/
def reclaimAllSpec : ChangeSpec := { name := "reclaimAll", fn := fun _ => fun
  | [d] => { results := [.lit (.bool true)], args := [d] }
  | _ => none }
def reclaimAllRow : OpenClaim := { program := "ytpiikmkajckccaagreat", sum := "bdbfbe0ac085ff6469fbcf2fe5ca802dd4543c4aa8cf85d3075650083033e107", func := "transept/transeptlaw11.ReclaimAll", spec := "reclaimAll", inPlace := ["slices.overlaps[string]", "slices.overlaps[transept/tree.branch]"], unfollowed := true, recurses := true, apart := false }
def ReclaimAllSaid : Prop := reclaimAllRow.holds Tryz.pinned (OpenSpec.ofChange reclaimAllSpec)

/-- ITS FALSE NEIGHBOUR: 'it returns false'. Refute it at one input. -/
def reclaimAllWrong : ChangeSpec := { name := "reclaimAll", fn := fun _ => fun
  | [d] => { results := [.lit (.bool false)], args := [d] }
  | _ => none }
def ReclaimAllWrongFalsely : Prop := reclaimAllRow.holds Tryz.pinned (OpenSpec.ofChange reclaimAllWrong)

/-- 'transeptlaw11.ReclaimGrows': WHATEVER THE INPUT: true; the input reads as it did. -/
def reclaimGrowsSpec : ChangeSpec := { name := "reclaimGrows", fn := fun _ => fun
  | [d1, d2] => { results := [.lit (.bool true)], args := [d1, d2] }
  | _ => none }
def reclaimGrowsRow : OpenClaim := { program := "ytpiikmkajckccaagreat", sum := "bdbfbe0ac085ff6469fbcf2fe5ca802dd4543c4aa8cf85d3075650083033e107", func := "transept/transeptlaw11.ReclaimGrows", spec := "reclaimGrows", inPlace := ["slices.overlaps[string]", "slices.overlaps[transept/tree.branch]"], unfollowed := true, recurses := true, apart := false }
def ReclaimGrowsSaid : Prop := reclaimGrowsRow.holds Tryz.pinned (OpenSpec.ofChange reclaimGrowsSpec)

/-- ITS FALSE NEIGHBOUR: 'it returns false'. Refute it at one input. -/
def reclaimGrowsWrong : ChangeSpec := { name := "reclaimGrows", fn := fun _ => fun
  | [d1, d2] => { results := [.lit (.bool false)], args := [d1, d2] }
  | _ => none }
def ReclaimGrowsWrongFalsely : Prop := reclaimGrowsRow.holds Tryz.pinned (OpenSpec.ofChange reclaimGrowsWrong)

/- THE SECOND FORM. 'bulk': how many values and letters a reading holds, each counted each time it is reached (what is shared counts as often as it is met; a slice's spare places count too). A statement '..UptoSaid' is the law's where the arguments, and the package variables that the reading takes, are together of bulk at most 1048576: NARROWER than '..Said'. Prove '..Said' where nothing that the law and all that it calls make is longer than what came in: it says more and counts as full. Else prove '..UptoSaid'. A law counts once. -/
mutual
def uptoBulk {H : Type} : DataW H → Nat
  | .lit (.string bytes) => bytes.length + 1
  | .lit _ => 1
  | .nil => 1
  | .ptr d => uptoBulk d + 1
  | .slice elems spare => uptoBulkAll elems + uptoBulkAll spare + 1
  | .agg parts => uptoBulkAll parts + 1
  | .iface _ d => uptoBulk d + 1
  | .map entries => uptoBulkEntries entries + 1
  | .held _ => 1
def uptoBulkAll {H : Type} : List (DataW H) → Nat
  | [] => 0
  | d :: r => uptoBulk d + uptoBulkAll r
def uptoBulkEntries {H : Type} : List (Lit × DataW H) → Nat
  | [] => 0
  | x :: r => uptoBulkEntry x + uptoBulkEntries r
def uptoBulkEntry {H : Type} : Lit × DataW H → Nat
  | (.string bytes, d) => bytes.length + uptoBulk d + 1
  | (_, d) => uptoBulk d + 1
 end
def uptoSmall : (H : Type) → List (DataW H) → Bool := fun _ ds => decide (uptoBulkAll ds ≤ 1048576)
def OpenSpec.upto (s : _root_.Go.ChangeSpec) : _root_.Go.OpenSpec := { _root_.Go.OpenSpec.ofChange s with cond := some uptoSmall }

/-- 'transeptlaw11.ReclaimTells', WHERE WHAT IT READS IS OF BULK AT MOST 1048576: true; the input reads as it did. -/
def reclaimTellsUptoRow : OpenClaim := { program := "ytpiikmkajckccaagreat", sum := "bdbfbe0ac085ff6469fbcf2fe5ca802dd4543c4aa8cf85d3075650083033e107", func := "transept/transeptlaw11.ReclaimTells", spec := "reclaimTells", inPlace := ["slices.overlaps[string]", "slices.overlaps[transept/tree.branch]"], unfollowed := true, recurses := true, apart := false, narrowed := true }
def ReclaimTellsUptoSaid : Prop := reclaimTellsUptoRow.holds Tryz.pinned (OpenSpec.upto reclaimTellsSpec)

/-- 'transeptlaw11.ReclaimAll', WHERE WHAT IT READS IS OF BULK AT MOST 1048576: true; the input reads as it did. -/
def reclaimAllUptoRow : OpenClaim := { program := "ytpiikmkajckccaagreat", sum := "bdbfbe0ac085ff6469fbcf2fe5ca802dd4543c4aa8cf85d3075650083033e107", func := "transept/transeptlaw11.ReclaimAll", spec := "reclaimAll", inPlace := ["slices.overlaps[string]", "slices.overlaps[transept/tree.branch]"], unfollowed := true, recurses := true, apart := false, narrowed := true }
def ReclaimAllUptoSaid : Prop := reclaimAllUptoRow.holds Tryz.pinned (OpenSpec.upto reclaimAllSpec)

/-- 'transeptlaw11.ReclaimGrows', WHERE WHAT IT READS IS OF BULK AT MOST 1048576: true; the input reads as it did. -/
def reclaimGrowsUptoRow : OpenClaim := { program := "ytpiikmkajckccaagreat", sum := "bdbfbe0ac085ff6469fbcf2fe5ca802dd4543c4aa8cf85d3075650083033e107", func := "transept/transeptlaw11.ReclaimGrows", spec := "reclaimGrows", inPlace := ["slices.overlaps[string]", "slices.overlaps[transept/tree.branch]"], unfollowed := true, recurses := true, apart := false, narrowed := true }
def ReclaimGrowsUptoSaid : Prop := reclaimGrowsUptoRow.holds Tryz.pinned (OpenSpec.upto reclaimGrowsSpec)

end Rows
end Go.Proofs.YtpiikmkajckccaaGreat
