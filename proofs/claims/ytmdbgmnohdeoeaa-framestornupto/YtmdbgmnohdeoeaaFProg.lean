/-
  The program's frames do what the laws' walks are told of them.
-/
import Derived.Test.YtmdbgmnohdeoeaaFSay
import Derived.Test.YtmdbgmnohdeoeaaFProgS
namespace Go.Proofs.Ytmdbgmnohdeoeaa
open Go.RowKit

theorem frames_say : FramesSay := ⟨fseal_any, fopen_any, fscan_any⟩

end Go.Proofs.Ytmdbgmnohdeoeaa
