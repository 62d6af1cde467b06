/-
  The statements' own SameTexts.
-/
import Derived.Test.YtconingjdgmodaaDoorTxt
import Derived.Deep.QuietTactic
import Derived.BigQuiet
namespace Go.Proofs.YtconingjdgmodaaDoor
open Go.RowKit Go.Shelf Go.SeqLib
attribute [local go_sem] Oper.semAt_some

end Go.Proofs.YtconingjdgmodaaDoor
