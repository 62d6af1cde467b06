/-
  The landed fold keeps what is asked of it.
-/
import Derived.Test.YtakbeololabmhaaGreatDoorG28
import Derived.Test.YtakbeololabmhaaGreatDoorG19
import Derived.Test.YtakbeololabmhaaGreatDoorG29
import Derived.Test.YtakbeololabmhaaGreatDoorG12
namespace Go.Proofs.YtakbeololabmhaaGreatDoor
open Go.RowKit Go.Shelf Go.SeqLib Go.DiffLib Go.TreeLib Go.RepoLib Go.DagLib Go.BigFrame

theorem foldSpec : FoldSpec LRep := {
  base := fun B s S O a b w ⟨lv, rows, D, h, _, _⟩ hF => baseK_in B s lv rows D hF a b w h
  deep := fun B s S O a b d w ⟨lv, rows, D, h, _, _⟩ hF => deepK_in B s lv rows D hF _ d a b w rfl h
  best := fun B s S O a b w ⟨lv, rows, D, h, _, _⟩ hF => bestK_in B s lv rows D a b w h hF.par hF.len
  is := fun B s S O a n w ⟨lv, rows, D, h, _, _⟩ hF => is_in B s lv rows D a n w h hF.par (by have := hF.len; omega)
  get := fun B s S O n w ⟨lv, rows, D, h, _, _⟩ hF => get_in1 B s lv rows D n w h (by have := hF.len; omega) }
end Go.Proofs.YtakbeololabmhaaGreatDoor
