/-
  No cell of these rows narrows 'for every input' (looked for: loops, veiled, ifaces, maps, wideKeys, modest, calm, conditions, laid).
  DERIVED. THE GIVEN ROWS OF THIS SEAT. 6 by the template 'for every input the law returns true; each argument reads behind the call as it read before'; 0 by the template 'total and deterministic' (their statements: YtmdbgmnohdeoeaaTotals.lean).
  GIVEN WITH THE SEED: the statements are not yours to turn. If you find one false, say at which input.
  Laid BY PROGRAM, IN A SANDBOX (cutbox-rows.mjs): the forced cells as the released guide's own fill.sh prints them over the translation 83da6bd4fc8e1afa… (all of the seat's roots in one cut). By AI agents, Wed Nov 11 2026. No macro, syntax, notation, axiom, sorry.
-/
import Derived.Test.YtmdbgmnohdeoeaaChecked
import GoSem.Claim
import GoSem.ClaimJoined
import GoSem.ClaimMapViews
import Derived.JoinedTies
import Derived.KernelRfl
namespace Go.Proofs.Ytmdbgmnohdeoeaa
/- THE CELL 'sum', in the pinned program and in every row, IS THE sha256 OF THE DUMP (.gsa) THAT YtmdbgmnohdeoeaaProg.lean LOADS. Nothing in Lean hashes anything: it is a label: what it is worth is what the hold of that sum in a sandbox is worth. -/
noncomputable def Try.pinned : Pinned := { name := "ytmdbgmnohdeoeaa", sum := "83da6bd4fc8e1afa60a1e2b184df0861c949b1192f93839295c56f026544073d", checked := Try.checked }
namespace Rows
def none {H : Type} : Left H := { results := [], args := [] }

/-- 'transeptlaw03.FramesTells': WHATEVER THE INPUT: true; the input reads as it did. -/
def framesTellsSpec : ChangeSpec := { name := "framesTells", fn := fun _ => fun
  | [d1, d2] => { results := [.lit (.bool true)], args := [d1, d2] }
  | _ => none }
def framesTellsRow : OpenClaim := { program := "ytmdbgmnohdeoeaa", sum := "83da6bd4fc8e1afa60a1e2b184df0861c949b1192f93839295c56f026544073d", func := "transept/transeptlaw03.FramesTells", spec := "framesTells", unfollowed := true, recurses := true, apart := false }
def FramesTellsSaid : Prop := framesTellsRow.holds Try.pinned (OpenSpec.ofChange framesTellsSpec)

/-- ITS FALSE NEIGHBOUR: 'it returns false'. Refute it at one input. -/
def framesTellsWrong : ChangeSpec := { name := "framesTells", fn := fun _ => fun
  | [d1, d2] => { results := [.lit (.bool false)], args := [d1, d2] }
  | _ => none }
def FramesTellsWrongFalsely : Prop := framesTellsRow.holds Try.pinned (OpenSpec.ofChange framesTellsWrong)

/-- 'transeptlaw03.FramesBack': WHATEVER THE INPUT: true; the input reads as it did. -/
def framesBackSpec : ChangeSpec := { name := "framesBack", fn := fun _ => fun
  | [d] => { results := [.lit (.bool true)], args := [d] }
  | _ => none }
def framesBackRow : OpenClaim := { program := "ytmdbgmnohdeoeaa", sum := "83da6bd4fc8e1afa60a1e2b184df0861c949b1192f93839295c56f026544073d", func := "transept/transeptlaw03.FramesBack", spec := "framesBack", unfollowed := true, recurses := true, apart := false }
def FramesBackSaid : Prop := framesBackRow.holds Try.pinned (OpenSpec.ofChange framesBackSpec)

/-- ITS FALSE NEIGHBOUR: 'it returns false'. Refute it at one input. -/
def framesBackWrong : ChangeSpec := { name := "framesBack", fn := fun _ => fun
  | [d] => { results := [.lit (.bool false)], args := [d] }
  | _ => none }
def FramesBackWrongFalsely : Prop := framesBackRow.holds Try.pinned (OpenSpec.ofChange framesBackWrong)

/-- 'transeptlaw03.FramesTorn': WHATEVER THE INPUT: true; the input reads as it did. -/
def framesTornSpec : ChangeSpec := { name := "framesTorn", fn := fun _ => fun
  | [d1, d2] => { results := [.lit (.bool true)], args := [d1, d2] }
  | _ => none }
def framesTornRow : OpenClaim := { program := "ytmdbgmnohdeoeaa", sum := "83da6bd4fc8e1afa60a1e2b184df0861c949b1192f93839295c56f026544073d", func := "transept/transeptlaw03.FramesTorn", spec := "framesTorn", unfollowed := true, recurses := true, apart := false }
def FramesTornSaid : Prop := framesTornRow.holds Try.pinned (OpenSpec.ofChange framesTornSpec)

/-- ITS FALSE NEIGHBOUR: 'it returns false'. Refute it at one input. -/
def framesTornWrong : ChangeSpec := { name := "framesTorn", fn := fun _ => fun
  | [d1, d2] => { results := [.lit (.bool false)], args := [d1, d2] }
  | _ => none }
def FramesTornWrongFalsely : Prop := framesTornRow.holds Try.pinned (OpenSpec.ofChange framesTornWrong)

/-- 'transeptlaw03.FramesFinds': WHATEVER THE INPUT: true; the input reads as it did. -/
def framesFindsSpec : ChangeSpec := { name := "framesFinds", fn := fun _ => fun
  | [d1, d2] => { results := [.lit (.bool true)], args := [d1, d2] }
  | _ => none }
def framesFindsRow : OpenClaim := { program := "ytmdbgmnohdeoeaa", sum := "83da6bd4fc8e1afa60a1e2b184df0861c949b1192f93839295c56f026544073d", func := "transept/transeptlaw03.FramesFinds", spec := "framesFinds", unfollowed := true, recurses := true, apart := false }
def FramesFindsSaid : Prop := framesFindsRow.holds Try.pinned (OpenSpec.ofChange framesFindsSpec)

/-- ITS FALSE NEIGHBOUR: 'it returns false'. Refute it at one input. -/
def framesFindsWrong : ChangeSpec := { name := "framesFinds", fn := fun _ => fun
  | [d1, d2] => { results := [.lit (.bool false)], args := [d1, d2] }
  | _ => none }
def FramesFindsWrongFalsely : Prop := framesFindsRow.holds Try.pinned (OpenSpec.ofChange framesFindsWrong)

/-- 'transeptlaw03.FramesOwn': WHATEVER THE INPUT: true; the input reads as it did. -/
def framesOwnSpec : ChangeSpec := { name := "framesOwn", fn := fun _ => fun
  | [d] => { results := [.lit (.bool true)], args := [d] }
  | _ => none }
def framesOwnRow : OpenClaim := { program := "ytmdbgmnohdeoeaa", sum := "83da6bd4fc8e1afa60a1e2b184df0861c949b1192f93839295c56f026544073d", func := "transept/transeptlaw03.FramesOwn", spec := "framesOwn", unfollowed := true, recurses := true, apart := false }
def FramesOwnSaid : Prop := framesOwnRow.holds Try.pinned (OpenSpec.ofChange framesOwnSpec)

/-- ITS FALSE NEIGHBOUR: 'it returns false'. Refute it at one input. -/
def framesOwnWrong : ChangeSpec := { name := "framesOwn", fn := fun _ => fun
  | [d] => { results := [.lit (.bool false)], args := [d] }
  | _ => none }
def FramesOwnWrongFalsely : Prop := framesOwnRow.holds Try.pinned (OpenSpec.ofChange framesOwnWrong)

/-- 'transeptlaw03.FramesJoined': WHATEVER THE INPUT: true; the input reads as it did. -/
def framesJoinedSpec : ChangeSpec := { name := "framesJoined", fn := fun _ => fun
  | [d1, d2] => { results := [.lit (.bool true)], args := [d1, d2] }
  | _ => none }
def framesJoinedRow : OpenClaim := { program := "ytmdbgmnohdeoeaa", sum := "83da6bd4fc8e1afa60a1e2b184df0861c949b1192f93839295c56f026544073d", func := "transept/transeptlaw03.FramesJoined", spec := "framesJoined", unfollowed := true, recurses := true, apart := false }
def FramesJoinedSaid : Prop := framesJoinedRow.holds Try.pinned (OpenSpec.ofChange framesJoinedSpec)

/-- ITS FALSE NEIGHBOUR: 'it returns false'. Refute it at one input. -/
def framesJoinedWrong : ChangeSpec := { name := "framesJoined", fn := fun _ => fun
  | [d1, d2] => { results := [.lit (.bool false)], args := [d1, d2] }
  | _ => none }
def FramesJoinedWrongFalsely : Prop := framesJoinedRow.holds Try.pinned (OpenSpec.ofChange framesJoinedWrong)

/- THE SECOND FORM. 'bulk': how many values and letters a reading holds, each counted each time it is reached (what is shared counts as often as it is met; a slice's spare places count too). A statement '..UptoSaid' is the law's where the arguments, and the package variables that the reading takes, are together of bulk at most 1048576: NARROWER than '..Said'. Prove '..Said' where nothing that the law and all that it calls make is longer than what came in: it says more and counts as full. Else prove '..UptoSaid'. A law counts once. -/
mutual
def uptoBulk {H : Type} : DataW H → Nat
  | .lit (.string bytes) => bytes.length + 1
  | .lit _ => 1
  | .nil => 1
  | .ptr d => uptoBulk d + 1
  | .slice elems spare => uptoBulkAll elems + uptoBulkAll spare + 1
  | .agg parts => uptoBulkAll parts + 1
  | .iface _ d => uptoBulk d + 1
  | .map entries => uptoBulkEntries entries + 1
  | .held _ => 1
def uptoBulkAll {H : Type} : List (DataW H) → Nat
  | [] => 0
  | d :: r => uptoBulk d + uptoBulkAll r
def uptoBulkEntries {H : Type} : List (Lit × DataW H) → Nat
  | [] => 0
  | x :: r => uptoBulkEntry x + uptoBulkEntries r
def uptoBulkEntry {H : Type} : Lit × DataW H → Nat
  | (.string bytes, d) => bytes.length + uptoBulk d + 1
  | (_, d) => uptoBulk d + 1
 end
def uptoSmall : (H : Type) → List (DataW H) → Bool := fun _ ds => decide (uptoBulkAll ds ≤ 1048576)
def OpenSpec.upto (s : _root_.Go.ChangeSpec) : _root_.Go.OpenSpec := { _root_.Go.OpenSpec.ofChange s with cond := some uptoSmall }

/-- 'transeptlaw03.FramesTells', WHERE WHAT IT READS IS OF BULK AT MOST 1048576: true; the input reads as it did. -/
def framesTellsUptoRow : OpenClaim := { program := "ytmdbgmnohdeoeaa", sum := "83da6bd4fc8e1afa60a1e2b184df0861c949b1192f93839295c56f026544073d", func := "transept/transeptlaw03.FramesTells", spec := "framesTells", unfollowed := true, recurses := true, apart := false, narrowed := true }
def FramesTellsUptoSaid : Prop := framesTellsUptoRow.holds Try.pinned (OpenSpec.upto framesTellsSpec)

/-- 'transeptlaw03.FramesBack', WHERE WHAT IT READS IS OF BULK AT MOST 1048576: true; the input reads as it did. -/
def framesBackUptoRow : OpenClaim := { program := "ytmdbgmnohdeoeaa", sum := "83da6bd4fc8e1afa60a1e2b184df0861c949b1192f93839295c56f026544073d", func := "transept/transeptlaw03.FramesBack", spec := "framesBack", unfollowed := true, recurses := true, apart := false, narrowed := true }
def FramesBackUptoSaid : Prop := framesBackUptoRow.holds Try.pinned (OpenSpec.upto framesBackSpec)

/-- 'transeptlaw03.FramesTorn', WHERE WHAT IT READS IS OF BULK AT MOST 1048576: true; the input reads as it did. -/
def framesTornUptoRow : OpenClaim := { program := "ytmdbgmnohdeoeaa", sum := "83da6bd4fc8e1afa60a1e2b184df0861c949b1192f93839295c56f026544073d", func := "transept/transeptlaw03.FramesTorn", spec := "framesTorn", unfollowed := true, recurses := true, apart := false, narrowed := true }
def FramesTornUptoSaid : Prop := framesTornUptoRow.holds Try.pinned (OpenSpec.upto framesTornSpec)

/-- 'transeptlaw03.FramesFinds', WHERE WHAT IT READS IS OF BULK AT MOST 1048576: true; the input reads as it did. -/
def framesFindsUptoRow : OpenClaim := { program := "ytmdbgmnohdeoeaa", sum := "83da6bd4fc8e1afa60a1e2b184df0861c949b1192f93839295c56f026544073d", func := "transept/transeptlaw03.FramesFinds", spec := "framesFinds", unfollowed := true, recurses := true, apart := false, narrowed := true }
def FramesFindsUptoSaid : Prop := framesFindsUptoRow.holds Try.pinned (OpenSpec.upto framesFindsSpec)

/-- 'transeptlaw03.FramesOwn', WHERE WHAT IT READS IS OF BULK AT MOST 1048576: true; the input reads as it did. -/
def framesOwnUptoRow : OpenClaim := { program := "ytmdbgmnohdeoeaa", sum := "83da6bd4fc8e1afa60a1e2b184df0861c949b1192f93839295c56f026544073d", func := "transept/transeptlaw03.FramesOwn", spec := "framesOwn", unfollowed := true, recurses := true, apart := false, narrowed := true }
def FramesOwnUptoSaid : Prop := framesOwnUptoRow.holds Try.pinned (OpenSpec.upto framesOwnSpec)

/-- 'transeptlaw03.FramesJoined', WHERE WHAT IT READS IS OF BULK AT MOST 1048576: true; the input reads as it did. -/
def framesJoinedUptoRow : OpenClaim := { program := "ytmdbgmnohdeoeaa", sum := "83da6bd4fc8e1afa60a1e2b184df0861c949b1192f93839295c56f026544073d", func := "transept/transeptlaw03.FramesJoined", spec := "framesJoined", unfollowed := true, recurses := true, apart := false, narrowed := true }
def FramesJoinedUptoSaid : Prop := framesJoinedUptoRow.holds Try.pinned (OpenSpec.upto framesJoinedSpec)

end Rows
end Go.Proofs.Ytmdbgmnohdeoeaa
