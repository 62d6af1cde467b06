/-
  The document's own Virtual answers what is asked of it.
-/
import Derived.Test.YtakbeololabmhaaGreatDoorG14
import Derived.Test.YtakbeololabmhaaGreatDoorJRefD
namespace Go.Proofs.YtakbeololabmhaaGreatDoor
open Go.RowKit Go.Shelf Go.SeqLib Go.DiffLib Go.TreeLib Go.RepoLib Go.DagLib Go.BigFrame

theorem virRef : VirRef := fun vo va vb o a b w ho ha hb => jVir_in vo va vb o a b w ho ha hb
end Go.Proofs.YtakbeololabmhaaGreatDoor
