/-
  append(x, y...) of octets: x the call's own, y any octets; one law for a plain region, whatever y is (nil, empty, octets).
-/
import Derived.Test.YtccklmhagabkaaaOwn
namespace Go.Proofs.Ytccklmhagabkaaa
open Go.RowKit
set_option linter.unusedVariables false
end Go.Proofs.Ytccklmhagabkaaa
