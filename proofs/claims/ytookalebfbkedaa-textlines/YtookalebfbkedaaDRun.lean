/-
  diff's own run: how many pairs stand one behind the other.
-/
import Derived.Test.YtookalebfbkedaaDWide
namespace Go.Proofs.Ytookalebfbkedaa
open Go.RowKit Go.Shelf Go.SeqLib Go.DiffLib
attribute [local go_sem] Oper.semAt_some

end Go.Proofs.Ytookalebfbkedaa
