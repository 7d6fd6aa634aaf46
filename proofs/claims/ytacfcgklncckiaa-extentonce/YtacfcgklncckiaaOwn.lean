/-
  Octets that the call itself has made ('OwnB'), make([]byte, n), append's side goals, and the contract of transeptplain.CopyBytes. For every seat.
-/
import Derived.Laws.AppendOwnNone
import Derived.Test.YtacfcgklncckiaaBase
import Derived.Test.YtacfcgklncckiaaChecked
namespace Go.Proofs.Ytacfcgklncckiaa
open Go.RowKit
set_option linter.unusedVariables false
end Go.Proofs.Ytacfcgklncckiaa
