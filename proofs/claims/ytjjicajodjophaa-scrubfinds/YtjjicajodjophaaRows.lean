/-
  No cell of these rows narrows 'for every input' (looked for: loops, veiled, ifaces, maps, wideKeys, modest, calm, conditions, laid).
  DERIVED. THE GIVEN ROWS OF THIS SEAT. 6 by the template 'for every input the law returns true; each argument reads behind the call as it read before'; 0 by the template 'total and deterministic' (their statements: YtjjicajodjophaaTotals.lean).
  GIVEN WITH THE SEED: the statements are not yours to turn. If you find one false, say at which input.
  Laid BY PROGRAM, IN A SANDBOX (cutbox-rows.mjs): the forced cells as the released guide's own fill.sh prints them over the translation a027fabbce0b0863… (all of the seat's roots in one cut). By AI agents, Wed Nov 11 2026. No macro, syntax, notation, axiom, sorry.
-/
import Derived.Test.YtjjicajodjophaaChecked
import GoSem.Claim
import GoSem.ClaimJoined
import GoSem.ClaimMapViews
import Derived.JoinedTies
import Derived.KernelRfl
namespace Go.Proofs.Ytjjicajodjophaa
/- THE CELL 'sum', in the pinned program and in every row, IS THE sha256 OF THE DUMP (.gsa) THAT YtjjicajodjophaaProg.lean LOADS. Nothing in Lean hashes anything: it is a label: what it is worth is what the hold of that sum in a sandbox is worth. -/
noncomputable def Try.pinned : Pinned := { name := "ytjjicajodjophaa", sum := "a027fabbce0b086388c28305ac912e795a736acf0a3b407311ed4af37e4c82bb", checked := Try.checked }
namespace Rows
def none {H : Type} : Left H := { results := [], args := [] }

/-- 'transeptlaw12.ScrubTells': WHATEVER THE INPUT: true; the input reads as it did. -/
def scrubTellsSpec : ChangeSpec := { name := "scrubTells", fn := fun _ => fun
  | [d1, d2, d3, d4] => { results := [.lit (.bool true)], args := [d1, d2, d3, d4] }
  | _ => none }
def scrubTellsRow : OpenClaim := { program := "ytjjicajodjophaa", sum := "a027fabbce0b086388c28305ac912e795a736acf0a3b407311ed4af37e4c82bb", func := "transept/transeptlaw12.ScrubTells", spec := "scrubTells", unfollowed := true, recurses := true, apart := false }
def ScrubTellsSaid : Prop := scrubTellsRow.holds Try.pinned (OpenSpec.ofChange scrubTellsSpec)

/-- ITS FALSE NEIGHBOUR: 'it returns false'. Refute it at one input. -/
def scrubTellsWrong : ChangeSpec := { name := "scrubTells", fn := fun _ => fun
  | [d1, d2, d3, d4] => { results := [.lit (.bool false)], args := [d1, d2, d3, d4] }
  | _ => none }
def ScrubTellsWrongFalsely : Prop := scrubTellsRow.holds Try.pinned (OpenSpec.ofChange scrubTellsWrong)

/-- 'transeptlaw12.ScrubFinds': WHATEVER THE INPUT: true; the input reads as it did. -/
def scrubFindsSpec : ChangeSpec := { name := "scrubFinds", fn := fun _ => fun
  | [d1, d2] => { results := [.lit (.bool true)], args := [d1, d2] }
  | _ => none }
def scrubFindsRow : OpenClaim := { program := "ytjjicajodjophaa", sum := "a027fabbce0b086388c28305ac912e795a736acf0a3b407311ed4af37e4c82bb", func := "transept/transeptlaw12.ScrubFinds", spec := "scrubFinds", unfollowed := true, recurses := true, apart := false }
def ScrubFindsSaid : Prop := scrubFindsRow.holds Try.pinned (OpenSpec.ofChange scrubFindsSpec)

/-- ITS FALSE NEIGHBOUR: 'it returns false'. Refute it at one input. -/
def scrubFindsWrong : ChangeSpec := { name := "scrubFinds", fn := fun _ => fun
  | [d1, d2] => { results := [.lit (.bool false)], args := [d1, d2] }
  | _ => none }
def ScrubFindsWrongFalsely : Prop := scrubFindsRow.holds Try.pinned (OpenSpec.ofChange scrubFindsWrong)

/-- 'transeptlaw12.ScrubRanges': WHATEVER THE INPUT: true; the input reads as it did. -/
def scrubRangesSpec : ChangeSpec := { name := "scrubRanges", fn := fun _ => fun
  | [d] => { results := [.lit (.bool true)], args := [d] }
  | _ => none }
def scrubRangesRow : OpenClaim := { program := "ytjjicajodjophaa", sum := "a027fabbce0b086388c28305ac912e795a736acf0a3b407311ed4af37e4c82bb", func := "transept/transeptlaw12.ScrubRanges", spec := "scrubRanges", recurses := true, apart := false }
def ScrubRangesSaid : Prop := scrubRangesRow.holds Try.pinned (OpenSpec.ofChange scrubRangesSpec)

/-- ITS FALSE NEIGHBOUR: 'it returns false'. Refute it at one input. -/
def scrubRangesWrong : ChangeSpec := { name := "scrubRanges", fn := fun _ => fun
  | [d] => { results := [.lit (.bool false)], args := [d] }
  | _ => none }
def ScrubRangesWrongFalsely : Prop := scrubRangesRow.holds Try.pinned (OpenSpec.ofChange scrubRangesWrong)

/-- 'transeptlaw12.ScrubSegments': WHATEVER THE INPUT: true; the input reads as it did. -/
def scrubSegmentsSpec : ChangeSpec := { name := "scrubSegments", fn := fun _ => fun
  | [d1, d2, d3, d4] => { results := [.lit (.bool true)], args := [d1, d2, d3, d4] }
  | _ => none }
def scrubSegmentsRow : OpenClaim := { program := "ytjjicajodjophaa", sum := "a027fabbce0b086388c28305ac912e795a736acf0a3b407311ed4af37e4c82bb", func := "transept/transeptlaw12.ScrubSegments", spec := "scrubSegments", unfollowed := true, recurses := true, apart := false }
def ScrubSegmentsSaid : Prop := scrubSegmentsRow.holds Try.pinned (OpenSpec.ofChange scrubSegmentsSpec)

/-- ITS FALSE NEIGHBOUR: 'it returns false'. Refute it at one input. -/
def scrubSegmentsWrong : ChangeSpec := { name := "scrubSegments", fn := fun _ => fun
  | [d1, d2, d3, d4] => { results := [.lit (.bool false)], args := [d1, d2, d3, d4] }
  | _ => none }
def ScrubSegmentsWrongFalsely : Prop := scrubSegmentsRow.holds Try.pinned (OpenSpec.ofChange scrubSegmentsWrong)

/-- 'transeptlaw07.PagesDisks': WHATEVER THE INPUT: true; the input reads as it did. -/
def pagesDisksSpec : ChangeSpec := { name := "pagesDisks", fn := fun _ => fun
  | [d1, d2, d3, d4] => { results := [.lit (.bool true)], args := [d1, d2, d3, d4] }
  | _ => none }
def pagesDisksRow : OpenClaim := { program := "ytjjicajodjophaa", sum := "a027fabbce0b086388c28305ac912e795a736acf0a3b407311ed4af37e4c82bb", func := "transept/transeptlaw07.PagesDisks", spec := "pagesDisks", unfollowed := true, recurses := true, apart := false }
def PagesDisksSaid : Prop := pagesDisksRow.holds Try.pinned (OpenSpec.ofChange pagesDisksSpec)

/-- ITS FALSE NEIGHBOUR: 'it returns false'. Refute it at one input. -/
def pagesDisksWrong : ChangeSpec := { name := "pagesDisks", fn := fun _ => fun
  | [d1, d2, d3, d4] => { results := [.lit (.bool false)], args := [d1, d2, d3, d4] }
  | _ => none }
def PagesDisksWrongFalsely : Prop := pagesDisksRow.holds Try.pinned (OpenSpec.ofChange pagesDisksWrong)

/-- 'transeptlaw08.WalRecovers': WHATEVER THE INPUT: true; the input reads as it did. -/
def walRecoversSpec : ChangeSpec := { name := "walRecovers", fn := fun _ => fun
  | [d] => { results := [.lit (.bool true)], args := [d] }
  | _ => none }
def walRecoversRow : OpenClaim := { program := "ytjjicajodjophaa", sum := "a027fabbce0b086388c28305ac912e795a736acf0a3b407311ed4af37e4c82bb", func := "transept/transeptlaw08.WalRecovers", spec := "walRecovers", unfollowed := true, recurses := true, apart := false }
def WalRecoversSaid : Prop := walRecoversRow.holds Try.pinned (OpenSpec.ofChange walRecoversSpec)

/-- ITS FALSE NEIGHBOUR: 'it returns false'. Refute it at one input. -/
def walRecoversWrong : ChangeSpec := { name := "walRecovers", fn := fun _ => fun
  | [d] => { results := [.lit (.bool false)], args := [d] }
  | _ => none }
def WalRecoversWrongFalsely : Prop := walRecoversRow.holds Try.pinned (OpenSpec.ofChange walRecoversWrong)

/- THE SECOND FORM. 'bulk': how many values and letters a reading holds, each counted each time it is reached (what is shared counts as often as it is met; a slice's spare places count too). A statement '..UptoSaid' is the law's where the arguments, and the package variables that the reading takes, are together of bulk at most 1048576: NARROWER than '..Said'. Prove '..Said' where nothing that the law and all that it calls make is longer than what came in: it says more and counts as full. Else prove '..UptoSaid'. A law counts once. -/
mutual
def uptoBulk {H : Type} : DataW H → Nat
  | .lit (.string bytes) => bytes.length + 1
  | .lit _ => 1
  | .nil => 1
  | .ptr d => uptoBulk d + 1
  | .slice elems spare => uptoBulkAll elems + uptoBulkAll spare + 1
  | .agg parts => uptoBulkAll parts + 1
  | .iface _ d => uptoBulk d + 1
  | .map entries => uptoBulkEntries entries + 1
  | .held _ => 1
def uptoBulkAll {H : Type} : List (DataW H) → Nat
  | [] => 0
  | d :: r => uptoBulk d + uptoBulkAll r
def uptoBulkEntries {H : Type} : List (Lit × DataW H) → Nat
  | [] => 0
  | x :: r => uptoBulkEntry x + uptoBulkEntries r
def uptoBulkEntry {H : Type} : Lit × DataW H → Nat
  | (.string bytes, d) => bytes.length + uptoBulk d + 1
  | (_, d) => uptoBulk d + 1
 end
def uptoSmall : (H : Type) → List (DataW H) → Bool := fun _ ds => decide (uptoBulkAll ds ≤ 1048576)
def OpenSpec.upto (s : _root_.Go.ChangeSpec) : _root_.Go.OpenSpec := { _root_.Go.OpenSpec.ofChange s with cond := some uptoSmall }

/-- 'transeptlaw12.ScrubTells', WHERE WHAT IT READS IS OF BULK AT MOST 1048576: true; the input reads as it did. -/
def scrubTellsUptoRow : OpenClaim := { program := "ytjjicajodjophaa", sum := "a027fabbce0b086388c28305ac912e795a736acf0a3b407311ed4af37e4c82bb", func := "transept/transeptlaw12.ScrubTells", spec := "scrubTells", unfollowed := true, recurses := true, apart := false, narrowed := true }
def ScrubTellsUptoSaid : Prop := scrubTellsUptoRow.holds Try.pinned (OpenSpec.upto scrubTellsSpec)

/-- 'transeptlaw12.ScrubFinds', WHERE WHAT IT READS IS OF BULK AT MOST 1048576: true; the input reads as it did. -/
def scrubFindsUptoRow : OpenClaim := { program := "ytjjicajodjophaa", sum := "a027fabbce0b086388c28305ac912e795a736acf0a3b407311ed4af37e4c82bb", func := "transept/transeptlaw12.ScrubFinds", spec := "scrubFinds", unfollowed := true, recurses := true, apart := false, narrowed := true }
def ScrubFindsUptoSaid : Prop := scrubFindsUptoRow.holds Try.pinned (OpenSpec.upto scrubFindsSpec)

/-- 'transeptlaw12.ScrubRanges', WHERE WHAT IT READS IS OF BULK AT MOST 1048576: true; the input reads as it did. -/
def scrubRangesUptoRow : OpenClaim := { program := "ytjjicajodjophaa", sum := "a027fabbce0b086388c28305ac912e795a736acf0a3b407311ed4af37e4c82bb", func := "transept/transeptlaw12.ScrubRanges", spec := "scrubRanges", recurses := true, apart := false, narrowed := true }
def ScrubRangesUptoSaid : Prop := scrubRangesUptoRow.holds Try.pinned (OpenSpec.upto scrubRangesSpec)

/-- 'transeptlaw12.ScrubSegments', WHERE WHAT IT READS IS OF BULK AT MOST 1048576: true; the input reads as it did. -/
def scrubSegmentsUptoRow : OpenClaim := { program := "ytjjicajodjophaa", sum := "a027fabbce0b086388c28305ac912e795a736acf0a3b407311ed4af37e4c82bb", func := "transept/transeptlaw12.ScrubSegments", spec := "scrubSegments", unfollowed := true, recurses := true, apart := false, narrowed := true }
def ScrubSegmentsUptoSaid : Prop := scrubSegmentsUptoRow.holds Try.pinned (OpenSpec.upto scrubSegmentsSpec)

/-- 'transeptlaw07.PagesDisks', WHERE WHAT IT READS IS OF BULK AT MOST 1048576: true; the input reads as it did. -/
def pagesDisksUptoRow : OpenClaim := { program := "ytjjicajodjophaa", sum := "a027fabbce0b086388c28305ac912e795a736acf0a3b407311ed4af37e4c82bb", func := "transept/transeptlaw07.PagesDisks", spec := "pagesDisks", unfollowed := true, recurses := true, apart := false, narrowed := true }
def PagesDisksUptoSaid : Prop := pagesDisksUptoRow.holds Try.pinned (OpenSpec.upto pagesDisksSpec)

/-- 'transeptlaw08.WalRecovers', WHERE WHAT IT READS IS OF BULK AT MOST 1048576: true; the input reads as it did. -/
def walRecoversUptoRow : OpenClaim := { program := "ytjjicajodjophaa", sum := "a027fabbce0b086388c28305ac912e795a736acf0a3b407311ed4af37e4c82bb", func := "transept/transeptlaw08.WalRecovers", spec := "walRecovers", unfollowed := true, recurses := true, apart := false, narrowed := true }
def WalRecoversUptoSaid : Prop := walRecoversUptoRow.holds Try.pinned (OpenSpec.upto walRecoversSpec)

end Rows
end Go.Proofs.Ytjjicajodjophaa
