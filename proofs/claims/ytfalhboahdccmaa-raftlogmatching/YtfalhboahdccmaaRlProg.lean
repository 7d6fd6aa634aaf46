/-
  What the program's calls say of logs: they are the document's.
-/
import Derived.Test.YtfalhboahdccmaaRpI
import Derived.Test.YtfalhboahdccmaaRpJ
import Derived.Test.YtfalhboahdccmaaRpK
namespace Go.Proofs.Ytfalhboahdccmaa
open Go.RowKit

theorem log_say : LogSay where
  chk := fun w l v h f => pcheck15_any w l v h f.e.n
  last := fun w l v h f => plastP15_any w l v h f.e.n
  told := fun w l v i h f _ => ptold15_any w l v i h f.e.n
  app := fun w l v y dv h f hd _ => papp15_any w l v y dv h f.e.n hd
  acc := fun w l v prev pt es ev h f h1 h2 he fe hok => by
    have := pacc15_any w l v prev pt es ev h f.e.n h1 h2 he fe.n
    rw [laccept_say hok] at this
    exact this
  frm := fun w l v i n h f _ _ => pfrom15_any w l v i n h f.e.n
  cmp := fun w l v i h f _ => pcomp15_any w l v i h f.e.n
end Go.Proofs.Ytfalhboahdccmaa
