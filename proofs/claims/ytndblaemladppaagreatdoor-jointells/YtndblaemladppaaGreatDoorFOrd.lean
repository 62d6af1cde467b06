/-
  How files are compared where Put sorts them; a row of files as the sort sees it.
-/
import Derived.Test.YtndblaemladppaaGreatDoorRStable
import Derived.Test.YtndblaemladppaaGreatDoorShelf
import Derived.Test.YtndblaemladppaaGreatDoorGFile
import Derived.Shelf.RegionOpenPlain
import Derived.Deep.LoopGhost
namespace Go.Proofs.YtndblaemladppaaGreatDoor
open Go.RowKit Go.Shelf Go.SeqLib Go.DiffLib Go.TreeLib Go.Sort

theorem SWK.two {w0 W : World} {blk off : Nat} {d dk : Array Fl} (R : RowK eF 2 w0 blk off d) (h : SWK eF 2 w0 blk off dk W) (hs : dk.size = d.size) {i : Nat} (hi : i < dk.size) {y : Fl} (hy : dk[i]! = y) :
    W.cell? ⟨blk, off + i * 2, none⟩ = some (.string y.1) ∧ W.cell? ⟨blk, off + i * 2 + 1, none⟩ = some (.string y.2) ∧ W.frozen? ⟨blk, off + i * 2, none⟩ = false ∧ W.frozen? ⟨blk, off + i * 2 + 1, none⟩ = false := by
  subst hy
  have hH := h.holds R.hblk R.hH hs
  have e0 := HoldsK.cell hH hi (c := 0) (by decide)
  have e1 := HoldsK.cell hH hi (c := 1) (by decide)
  exact ⟨e0.1, e1.1, e0.2, e1.2⟩

theorem eF_one (x : Fl) : ∀ v ∈ eF x, v.oneCell' = true := by
  intro v hv
  simp [eF] at hv
  rcases hv with rfl | rfl <;> rfl

end Go.Proofs.YtndblaemladppaaGreatDoor
