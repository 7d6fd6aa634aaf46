/-
  What the program's pages say.
-/
import Derived.Test.YtliileemelcllaaPgSay
import Derived.Test.YtliileemelcllaaPgPE
namespace Go.Proofs.Ytliileemelcllaa
open Go.RowKit

theorem pages_say : PagesSay where
  encS w id v d h _ _ := pgencP_any w id v d h
  decS w v x h _ := pgdecP_any w v x h
  writeS w sv cv v d at' id x h1 h2 hx _ _ _ := ppgwrite_any w sv cv v d at' id x h1 h2 hx
  readS w sv cv d at' id h1 h2 _ _ := ppgread_any w sv cv d at' id h1 h2

end Go.Proofs.Ytliileemelcllaa
