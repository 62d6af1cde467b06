/-
  How files are compared where Put sorts them; a row of files as the sort sees it.
-/
import Derived.Test.YtndblaemladppaaRStable
import Derived.Test.YtndblaemladppaaShelf
import Derived.Test.YtndblaemladppaaGFile
import Derived.Shelf.RegionOpenPlain
import Derived.Deep.LoopGhost
namespace Go.Proofs.Ytndblaemladppaa
open Go.RowKit Go.Shelf Go.SeqLib Go.DiffLib Go.TreeLib Go.Sort

theorem SWK.two {w0 W : World} {blk off : Nat} {d dk : Array Fl} (R : RowK eF 2 w0 blk off d) (h : SWK eF 2 w0 blk off dk W) (hs : dk.size = d.size) {i : Nat} (hi : i < dk.size) {y : Fl} (hy : dk[i]! = y) :
    W.cell? ⟨blk, off + i * 2, none⟩ = some (.string y.1) ∧ W.cell? ⟨blk, off + i * 2 + 1, none⟩ = some (.string y.2) ∧ W.frozen? ⟨blk, off + i * 2, none⟩ = false ∧ W.frozen? ⟨blk, off + i * 2 + 1, none⟩ = false := by
  subst hy
  have hH := h.holds R.hblk R.hH hs
  have e0 := HoldsK.cell hH hi (c := 0) (by decide)
  have e1 := HoldsK.cell hH hi (c := 1) (by decide)
  exact ⟨e0.1, e1.1, e0.2, e1.2⟩

theorem eF_one (x : Fl) : ∀ v ∈ eF x, v.oneCell' = true := by
  intro v hv
  simp [eF] at hv
  rcases hv with rfl | rfl <;> rfl

set_option maxHeartbeats 1000000 in
/-- Put's order, as a function value: two files are boxed, their paths compared. -/
theorem order_in (x y : Fl) (W : World) : Calls Try.prog 31 #[.agg #[.string x.1, .string x.2], .agg #[.string y.1, .string y.2]] W fun e w' => e = .returned (.int .i64 (cmpF x y)) ∧ ∃ q os', w' = grow (W.drewN q) os' := by
  have hcon := fun W' => Any.strings_Compare Try.laysCompare x.1 y.1 W'
  change ∀ W', Calls Try.prog 32 _ _ _ at hcon
  unfold cmpF
  generalize Lib.compareBytes x.1.data.toList y.1.data.toList = r at hcon ⊢
  go_enter Try.func31, Try.ntmps31
  go_wp2_with (go_at_call 32; refine (hcon _).mono ?_; rintro e w' ⟨rfl, rfl⟩)
  go_ret
  exact ⟨rfl, 0, _, by rw [alloc_eq_grow, alloc_eq_grow, grow_grow]; rfl⟩

theorem order_lays (blk off size : Nat) (w : World) : CmpLays Try.prog 31 #[] eF 2 cmpF blk off size w := fun _ _ _ _ x y => order_in x y _

end Go.Proofs.Ytndblaemladppaa
