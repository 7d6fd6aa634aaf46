/-
  The page's Find in nodes.
-/
import Derived.Test.YtgmkknonnidgaaaNCheckR
namespace Go.Proofs.Ytgmkknonnidgaaa
open Go.RowKit
set_option linter.unusedVariables false
set_option linter.unusedSimpArgs false

def nfind (n : Nd) (key : Str) : Int := if ncheck n = 0 then nfnd n.leaf key n.keys else 0
def nhas (n : Nd) (key : Str) : Bool := if ncheck n = 0 then nis key n.keys else false
theorem nfnd_take (leaf : Bool) (key : Str) {l : List Str} {k : Nat} {x : Str} (hx : l[k]? = some x) : nfnd leaf key (l.take (k + 1)) = nfnd leaf key (l.take k) + if slt x key || (!leaf && x == key) then 1 else 0 := by
  have : l.take (k + 1) = l.take k ++ [x] := by rw [List.take_add_one, hx]; rfl
  rw [this, nfnd_app]
  simp only [nfnd]
  omega
theorem nis_take (key : Str) {l : List Str} {k : Nat} {x : Str} (hx : l[k]? = some x) : nis key (l.take (k + 1)) = (nis key (l.take k) || x == key) := by
  have : l.take (k + 1) = l.take k ++ [x] := by rw [List.take_add_one, hx]; rfl
  rw [this]
  simp [nis]
theorem ret_ibi {a b : Int} {x y : Bool} {c d : Int} (h1 : a = b) (h2 : x = y) (h3 : c = d) : Ending.returned (.tuple #[.int .i64 a, .bool x, .int .i64 c]) = Ending.returned (.tuple #[.int .i64 b, .bool y, .int .i64 d]) := by rw [h1, h2, h3]


end Go.Proofs.Ytgmkknonnidgaaa
