/-
  The statements' own GreatTexts, LendTexts, KeptTexts and OverTexts.
-/
import Derived.Test.YtconingjdgmodaaDoorTxtH
namespace Go.Proofs.YtconingjdgmodaaDoor
open Go.RowKit Go.Shelf Go.SeqLib
attribute [local go_sem] Oper.semAt_some

/-- The mark of the room that is lent. -/
abbrev lentB : ByteArray := ⟨#[108, 101, 110, 116]⟩
abbrev overB : ByteArray := ⟨#[111, 118, 101, 114]⟩

/-- What GreatTexts answers. -/
def greatB (zs : List ByteArray) (most long : Nat) : Bool := decide (most < zs.length) || zs.any (fun x => decide (long < x.size))

theorem greatB_false {zs : List ByteArray} {most long : Nat} (h : greatB zs most long = false) : zs.length ≤ most ∧ ∀ x ∈ zs, x.size ≤ long := by
  unfold greatB at h
  rw [Bool.or_eq_false_iff] at h
  refine ⟨by have := of_decide_eq_false h.1; omega, fun x hx => ?_⟩
  have := List.any_eq_false.1 h.2 x hx
  simp at this
  exact this

/-- The room behind a row: k of its cells bear the mark; the row is as it was. -/
def roomRel (w : World) (g n : Nat) (vals : List Value) (k : Nat) (wr : World) : Prop :=
  wr.ownsRow w.heap.size 9 1 (.slice (some ⟨g, 0, none⟩) n (n + 3)) n vals ∧ Chg No w wr ∧ ∀ j, j < k → wr.cell? ⟨g, n + j, none⟩ = some (.string lentB)

theorem roomRel.step {w wr : World} {g n k : Nat} {vals : List Value} (h : roomRel w g n vals k wr) (hk : k < 3) (hg : w.heap.size ≤ g) :
    (∃ x, wr.cell? ⟨g, n + k, none⟩ = some x) ∧ wr.frozen? ⟨g, n + k, none⟩ = false ∧ roomRel w g n vals (k + 1) (wr.setCell ⟨g, n + k, none⟩ (.string lentB)) := by
  obtain ⟨hr, c, hl⟩ := h
  obtain ⟨⟨x, hcx⟩, hf, ys, hr2, hys⟩ := rowPut hr (j := n + k) (by omega) (.string lentB)
  obtain rfl := hys (by omega)
  refine ⟨⟨x, hcx⟩, hf, hr2, c.setCell (p := ⟨g, n + k, none⟩) (.inr hg) (.string lentB), fun j hj => ?_⟩
  by_cases e : j = k
  · subst e; exact World.cell?_setCell_same' _ _ _ (by rw [hcx]; rfl)
  · rw [World.cell?_setCell_other]
    · exact hl j (by omega)
    · intro h; rw [Addr.mk.injEq] at h; have := h.2.1; omega

/-- What is lent: the row, the mark in its room behind it, a block of its own. -/
def LentS (w w' : World) (v : Value) (vals : List Value) : Prop :=
  ∃ g, v = .slice (some ⟨g, 0, none⟩) vals.length (vals.length + 3) ∧ w.heap.size ≤ g ∧ SlV w' (.slice (some ⟨g, 0, none⟩) (vals.length + 3) (vals.length + 3)) (vals ++ [.string lentB, .string lentB, .string lentB])

theorem roomRel.lent {w wr : World} {g : Nat} {vals : List Value} (h : roomRel w g vals.length vals 3 wr) (hm : vals.length + 3 ≤ maxLen) (hg : w.heap.size ≤ g) : LentS w wr (.slice (some ⟨g, 0, none⟩) vals.length (vals.length + 3)) vals := by
  obtain ⟨hr, c, hl⟩ := h
  refine ⟨g, rfl, hg, _, _, by simp, by simp, hm, fun i x hi => ⟨g, 0, rfl, ?_⟩⟩
  rw [Nat.zero_add]
  rw [List.getElem?_append] at hi
  split at hi
  · have := hr.cells (g := g) rfl i x hi
    have e : (⟨g, 0, none⟩ : Addr).add i = ⟨g, 0 + i, none⟩ := by unfold Addr.add; split <;> simp_all
    rw [e, Nat.zero_add] at this
    exact this
  · rename_i hge
    obtain ⟨j, rfl⟩ : ∃ j, i = vals.length + j := ⟨i - vals.length, by omega⟩
    rw [show vals.length + j - vals.length = j by omega] at hi
    have hj : j < 3 := by
      have := (List.getElem?_eq_some_iff.1 hi).1
      simpa using this
    have hx : x = .string lentB := by
      match j, hj with
      | 0, _ => simpa using hi.symm
      | 1, _ => simpa using hi.symm
      | 2, _ => simpa using hi.symm
    rw [hx]
    exact hl j hj

theorem LentS.no {w w1 w2 : World} {v : Value} {vals : List Value} (h : LentS w w1 v vals) (c : Chg No w1 w2) : LentS w w2 v vals := by
  obtain ⟨g, e, hg, hs⟩ := h
  exact ⟨g, e, hg, hs.no c⟩
theorem LentS.row {w w1 : World} {v : Value} {vals : List Value} (h : LentS w w1 v vals) : SlV w1 v vals := by
  obtain ⟨g, rfl, hg, p, cap, e, h1, h2, hc⟩ := h
  rw [Value.slice.injEq] at e
  obtain ⟨rfl, _, rfl⟩ := e
  refine ⟨_, _, rfl, by omega, h2, fun i x hi => hc i x ?_⟩
  rw [List.getElem?_append_left (List.getElem?_eq_some_iff.1 hi).1]
  exact hi

end Go.Proofs.YtconingjdgmodaaDoor
