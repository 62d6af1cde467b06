/-
  The document's own Depth.
-/
import Derived.Test.YtmpgeacfnikbpaaDoorRRefE
import Derived.Sort.CutIn
import Derived.Sort.QuietThIn
import Derived.Shelf.RegionOpen
namespace Go.DagLib
open Go.RepoLib
/-- A row of numbers, by a function. -/
def nl (M : Nat) (f : Nat → Nat) : List Value := (List.range M).map (fun j => Value.int .i64 (f j))
theorem nl_length (M : Nat) (f : Nat → Nat) : (nl M f).length = M := by unfold nl; rw [List.length_map, List.length_range]
theorem nl_get {M : Nat} {f : Nat → Nat} {j : Nat} (h : j < M) : (nl M f)[j]? = some (.int .i64 (f j)) := by
  unfold nl
  rw [List.getElem?_map, List.getElem?_range h]
  rfl
theorem nl_congr {M : Nat} {f g : Nat → Nat} (h : ∀ j, j < M → f j = g j) : nl M f = nl M g := by
  unfold nl
  exact List.map_congr_left (fun j hj => by rw [h j (List.mem_range.1 hj)])
theorem nl_set {M : Nat} {f g : Nat → Nat} {p b : Nat} (h : ∀ j, j < M → g j = if j = p then b else f j) : (nl M f).set p (.int .i64 (b : Int)) = nl M g := by
  refine List.ext_getElem? fun j => ?_
  rw [List.getElem?_set]
  by_cases hj : j < M
  · rw [nl_get hj, nl_get hj, h j hj]
    by_cases e : p = j
    · rw [if_pos e, if_pos (by rw [nl_length]; omega), if_pos e.symm]
    · rw [if_neg e, if_neg (fun x => e x.symm)]
  · have h1 : (nl M f)[j]? = none := by rw [List.getElem?_eq_none_iff, nl_length]; omega
    have h2 : (nl M g)[j]? = none := by rw [List.getElem?_eq_none_iff, nl_length]; omega
    rw [h1, h2]
    by_cases e : p = j
    · rw [if_pos e, if_neg (by rw [nl_length]; omega)]
    · rw [if_neg e]
/-- What is deepest, as the document goes. -/
def mxD (par : Nat → List Nat) (l : List Nat) : Nat := l.foldl (fun d p => max d (depA par p + 1)) 1
theorem foldl_succ (dep : Nat → Nat) : ∀ (l : List Nat) (m : Nat), l.foldl (fun d p => max d (dep p + 1)) (m + 1) = (l.map dep).foldl max m + 1
  | [], _ => rfl
  | p :: l, m => by
    simp only [List.foldl_cons, List.map_cons]
    rw [← foldl_succ dep l (max m (dep p))]
    congr 1
    omega
theorem mxD_all {par : Nat → List Nat} (hl : Low par) (n : Nat) : mxD par (par n) = depA par n := by
  rw [depA_eq hl]
  exact foldl_succ (depA par) (par n) 0
theorem mxD_snoc (par : Nat → List Nat) (l : List Nat) (p : Nat) : mxD par (l ++ [p]) = max (mxD par l) (depA par p + 1) := by unfold mxD; rw [List.foldl_append]; rfl
end Go.DagLib
namespace Go.Proofs.YtmpgeacfnikbpaaDoor
open Go.RowKit Go.Shelf Go.SeqLib Go.DiffLib Go.TreeLib Go.RepoLib Go.DagLib Go.BigFrame
attribute [local go_sem] Oper.semAt_some

abbrev OwnN (W : World) (base G M : Nat) (f : Nat → Nat) : Prop := W.ownsRow base 3 1 (.slice (some ⟨G, 0, none⟩) M M) M (nl M f)
theorem madeN (w : World) (M : Nat) (hn : M ≤ 1000000) : OwnN (w.alloc (.cells (madeCells #[.int .i64 0] M) 3)) w.heap.size w.heap.size M (fun _ => 0) := by
  refine ⟨by rw [nl_length]; omega, .inr ⟨w.heap.size, M, madeCells #[.int .i64 0] M, rfl, Nat.le_refl _, World.alloc_heap_new w _, Nat.le_refl _, by unfold maxLen; omega, by rw [size_madeCells]; omega, ?_⟩⟩
  refine List.ext_getElem? fun i => ?_
  rw [List.getElem?_take, Nat.mul_one]
  by_cases h : i < M
  · rw [nl_get h]
    simp [h, madeCells, Nat.mod_one]
  · have : (nl M (fun _ => 0))[i]? = none := by rw [List.getElem?_eq_none_iff, nl_length]; omega
    rw [this, if_neg h]
theorem OwnN.get {W : World} {base G M : Nat} {f : Nat → Nat} (h : OwnN W base G M f) {j : Nat} (hj : j < M) : W.cell? ⟨G, j, none⟩ = some (.int .i64 (f j)) := by
  have hs : SlV W (.slice (some ⟨G, 0, none⟩) M M) (nl M f) := SlV.ofRow (by rw [nl_length]; exact h)
  obtain ⟨b, off, e, hc⟩ := hs.get1 (nl_get hj)
  cases e
  simpa using hc
theorem OwnN.set {W : World} {base G M : Nat} {f g : Nat → Nat} (h : OwnN W base G M f) {p b : Nat} (hp : p < M) (hg : ∀ j, j < M → g j = if j = p then b else f j) :
    (∃ x, W.cell? ⟨G, p, none⟩ = some x) ∧ W.frozen? ⟨G, p, none⟩ = false ∧ OwnN (W.setCell ⟨G, p, none⟩ (.int .i64 (b : Int))) base G M g := by
  obtain ⟨hx, hf, hr⟩ := row_setB h hp (.int .i64 (b : Int))
  rw [nl_set hg] at hr
  exact ⟨hx, hf, hr⟩
end Go.Proofs.YtmpgeacfnikbpaaDoor
