/-
  Octets that the call itself has made ('OwnB'), make([]byte, n), append's side goals, and the contract of transeptplain.CopyBytes. For every seat.
-/
import Derived.Laws.AppendOwnNone
import Derived.Test.YtccklmhagabkaaaBase
import Derived.Test.YtccklmhagabkaaaChecked
namespace Go.Proofs.Ytccklmhagabkaaa
open Go.RowKit
set_option linter.unusedVariables false
end Go.Proofs.Ytccklmhagabkaaa
