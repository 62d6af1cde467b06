/-
  diff's own run: how many pairs stand one behind the other.
-/
import Derived.Test.YtfpceedjkmkidaaDWide
namespace Go.Proofs.Ytfpceedjkmkidaa
open Go.RowKit Go.Shelf Go.SeqLib Go.DiffLib
attribute [local go_sem] Oper.semAt_some

end Go.Proofs.Ytfpceedjkmkidaa
