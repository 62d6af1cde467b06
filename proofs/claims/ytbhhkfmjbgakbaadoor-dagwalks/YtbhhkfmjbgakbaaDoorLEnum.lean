/-
  All commits, each with its place; what is told of one.
-/
import Derived.Test.YtbhhkfmjbgakbaaDoorMCm
import Derived.Test.YtbhhkfmjbgakbaaDoorGSeq
namespace Go.Proofs.YtbhhkfmjbgakbaaDoor
open Go.RowKit Go.Shelf Go.SeqLib Go.DiffLib Go.TreeLib Go.RepoLib Go.BigFrame
attribute [local go_sem] Oper.semAt_some

/-- What is told of a commit: its number, and its value. -/
def TlC (T : Blk) (W : World) (vals : Array Value) (x : Nat × Cm) : Prop := ∃ v, vals = #[iv ((x.1 + 1 : Nat) : Int), v] ∧ CmD T W v x.2
theorem TlC.size {T : Blk} {W : World} {vals : Array Value} {x : Nat × Cm} (h : TlC T W vals x) : vals.size = 2 := by obtain ⟨v, rfl, _⟩ := h; rfl
theorem TlC.kept {T : Blk} {W W' : World} {vals : Array Value} {x : Nat × Cm} {S : Blk} (h : TlC T W vals x) (c : Chg S W W') (hd : ∀ k, T k → ¬ S k) : TlC T W' vals x := by
  obtain ⟨v, e, h⟩ := h
  exact ⟨v, e, h.chg c hd⟩
/-- All commits, each with its place. -/
def enumC (L : List Cm) : List (Nat × Cm) := L.zipIdx.map (fun p => (p.2, p.1))
theorem enumC_length (L : List Cm) : (enumC L).length = L.length := by unfold enumC; rw [List.length_map, List.length_zipIdx]
theorem enumC_at {L : List Cm} {i : Nat} {c : Cm} (h : L[i]? = some c) : (enumC L)[i]? = some (i, c) := by
  unfold enumC
  rw [List.getElem?_map, List.getElem?_zipIdx, h]
  simp
theorem enumC_pre {L : List Cm} {pre : List (Nat × Cm)} {x : Nat × Cm} (h : pre ++ [x] <+: enumC L) : x.1 = pre.length ∧ L[pre.length]? = some x.2 := by
  obtain ⟨t, ht⟩ := h
  have h1 : (enumC L)[pre.length]? = some x := by rw [← ht, List.append_assoc, List.getElem?_append_right (Nat.le_refl _), Nat.sub_self]; rfl
  have hl : pre.length < L.length := by
    have := (List.getElem?_eq_some_iff.1 h1).1
    rw [enumC_length] at this
    exact this
  have h2 := enumC_at (List.getElem?_eq_getElem hl)
  rw [h1] at h2
  obtain rfl := Option.some.inj h2
  exact ⟨rfl, List.getElem?_eq_getElem hl⟩

end Go.Proofs.YtbhhkfmjbgakbaaDoor
