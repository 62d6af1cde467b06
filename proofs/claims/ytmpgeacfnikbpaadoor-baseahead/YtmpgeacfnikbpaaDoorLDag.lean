/-
  What is asked of dag's calls.
-/
import Derived.Test.YtmpgeacfnikbpaaDoorLPut
import Derived.Test.YtmpgeacfnikbpaaDoorRRefQ
import Derived.Test.YtmpgeacfnikbpaaDoorRRefI
namespace Go.Proofs.YtmpgeacfnikbpaaDoor
open Go.RowKit Go.Shelf Go.SeqLib Go.DiffLib Go.TreeLib Go.RepoLib Go.DagLib Go.BigFrame
attribute [local go_sem] Oper.semAt_some

end Go.Proofs.YtmpgeacfnikbpaaDoor
