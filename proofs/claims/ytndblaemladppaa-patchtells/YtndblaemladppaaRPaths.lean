/-
  A list of texts, sorted and each but once: it is the one that rises. No program is named here.
-/
import Derived.Test.YtndblaemladppaaGPure
import Derived.Lib.SlicesCompact
import Derived.Sort.Walk0
namespace Go.TreeLib
open Go Go.Lib

/-- No text ahead of a lesser one. -/
def Ris (l : List (List UInt8)) : Prop := l.Pairwise (fun a b => Op.bytesLess b a = false)
theorem bl_le_trans {x y z : List UInt8} (h1 : Op.bytesLess y x = false) (h2 : Op.bytesLess z y = false) : Op.bytesLess z x = false := by
  cases h : Op.bytesLess z x with
  | false => rfl
  | true =>
    cases h3 : Op.bytesLess x y with
    | true => rw [bl_trans _ _ _ h h3] at h2; cases h2
    | false => rw [bl_tri _ _ h3 h1, h2] at h; cases h
theorem bl_le_total (x y : List UInt8) : Op.bytesLess y x = false ∨ Op.bytesLess x y = false := by
  cases h : Op.bytesLess y x with
  | false => exact .inl rfl
  | true =>
    right
    cases h2 : Op.bytesLess x y with
    | false => rfl
    | true => have := bl_trans _ _ _ h h2; rw [bl_irrefl] at this; cases this
theorem le_bl (x y : List UInt8) : decide (x ≤ y) = !Op.bytesLess y x := by
  rw [Go.Proofs.bytesLess_eq]
  by_cases h : y < x
  · rw [decide_eq_true h, decide_eq_false (fun h2 => h2 h)]; rfl
  · rw [decide_eq_false h, decide_eq_true (show x ≤ y from h)]; rfl
theorem sort_ris (l : List (List UInt8)) : Ris (l.mergeSort fun x y => decide (x ≤ y)) := by
  have := List.pairwise_mergeSort (le := fun x y : List UInt8 => decide (x ≤ y)) (by
    intro a b c h1 h2
    rw [le_bl] at h1 h2 ⊢
    rw [bl_le_trans (by simpa using h1) (by simpa using h2)]
    rfl) (by
    intro a b
    rw [le_bl, le_bl]
    rcases bl_le_total a b with h | h <;> rw [h] <;> simp) l
  refine this.imp (fun h => ?_)
  rw [le_bl] at h
  simpa using h
theorem mem_sort (l : List (List UInt8)) (z : List UInt8) : z ∈ (l.mergeSort fun x y => decide (x ≤ y)) ↔ z ∈ l := (List.mergeSort_perm l _).mem_iff

theorem upto_up (l : List (List UInt8)) (h : Ris l) : ∀ m, m ≤ l.length → (compactUpTo l.toArray m).Pairwise (fun a b => Op.bytesLess a b = true) ∧ (∀ z, z ∈ compactUpTo l.toArray m ↔ z ∈ l.take m) ∧ ∀ (_ : 0 < m) z, z ∈ compactUpTo l.toArray m → Op.bytesLess l.toArray[m - 1]! z = false
  | 0, _ => ⟨by simp [compactUpTo], fun z => by simp [compactUpTo], fun h0 => by omega⟩
  | m + 1, hm => by
    obtain ⟨h1, h2, h3⟩ := upto_up l h m (by omega)
    have hg : l.toArray[m]! = l[m] := by rw [getElem!_pos l.toArray m (by simp; omega)]; rfl
    have ht : l.take (m + 1) = l.take m ++ [l[m]] := List.take_succ_eq_append_getElem (by omega)
    rw [compactUpTo_succ, ht]
    have hle : 0 < m → Op.bytesLess l.toArray[m]! l.toArray[m - 1]! = false := fun h0 => by
      rw [hg, getElem!_pos l.toArray (m - 1) (by simp; omega)]
      exact List.pairwise_iff_getElem.1 h (m - 1) m (by omega) (by omega) (by omega)
    by_cases hk : keeps l.toArray m = true
    · rw [if_pos hk]
      have hlt : ∀ z ∈ compactUpTo l.toArray m, Op.bytesLess z l.toArray[m]! = true := by
        intro z hz
        have h0 : 0 < m := by
          rcases Nat.eq_zero_or_pos m with rfl | h0
          · simp [compactUpTo] at hz
          · exact h0
        have a := h3 h0 z hz
        have b := hle h0
        have hne : l.toArray[m]! ≠ l.toArray[m - 1]! := fun e => by rw [keeps_neg h0 e] at hk; cases hk
        cases hb : Op.bytesLess l.toArray[m - 1]! l.toArray[m]! with
        | false => exact absurd (bl_tri _ _ b hb) hne
        | true =>
          cases hc : Op.bytesLess z l.toArray[m]! with
          | true => rfl
          | false => rw [bl_le_trans hc a] at hb; cases hb
      refine ⟨?_, fun z => by rw [List.mem_append, List.mem_append, h2, hg], fun _ z hz => ?_⟩
      · rw [List.pairwise_append]
        exact ⟨h1, List.pairwise_singleton _ _, fun a ha b hb => by rw [List.mem_singleton.1 hb]; exact hlt a ha⟩
      · rw [Nat.add_sub_cancel]
        rcases List.mem_append.1 hz with hz | hz
        · cases hc : Op.bytesLess l.toArray[m]! z with
          | false => rfl
          | true => have := bl_trans _ _ _ hc (hlt z hz); rw [bl_irrefl] at this; cases this
        · rw [List.mem_singleton.1 hz, bl_irrefl]
    · have hk' : keeps l.toArray m = false := by simpa using hk
      rw [if_neg hk, List.append_nil]
      have h0 : 0 < m := by
        rcases Nat.eq_zero_or_pos m with rfl | h0
        · exact absurd (keeps_lt_one l.toArray 0 (by omega)) hk
        · exact h0
      have he : l.toArray[m]! = l.toArray[m - 1]! := Classical.byContradiction fun e => hk (keeps_pos e)
      refine ⟨h1, fun z => ?_, fun _ z hz => ?_⟩
      · rw [h2, List.mem_append, List.mem_singleton]
        refine ⟨.inl, fun hz => hz.elim id (fun hz => ?_)⟩
        rw [hz, ← hg, he, getElem!_pos l.toArray (m - 1) (by simp; omega)]
        exact List.mem_take_iff_getElem.2 ⟨m - 1, by omega, rfl⟩
      · rw [Nat.add_sub_cancel, he]
        exact h3 h0 z hz

/-- Sorted, each but once: it rises, and has just the texts. -/
theorem sort_compact (all : List ByteArray) : compact ((all.map Bs).mergeSort fun x y => decide (x ≤ y)) = (rise all).map Bs := by
  obtain ⟨h1, h2, _⟩ := upto_up _ (sort_ris (all.map Bs)) _ (Nat.le_refl _)
  have e : compact ((all.map Bs).mergeSort fun x y => decide (x ≤ y)) = compactUpTo ((all.map Bs).mergeSort fun x y => decide (x ≤ y)).toArray ((all.map Bs).mergeSort fun x y => decide (x ≤ y)).length := rfl
  rw [← e] at h1 h2
  generalize compact ((all.map Bs).mergeSort fun x y => decide (x ≤ y)) = C at *
  have hmk : ∀ l : List UInt8, Bs (ByteArray.mk l.toArray) = l := fun l => by simp
  have hC : C = (C.map (fun l => ByteArray.mk l.toArray)).map Bs := by
    rw [List.map_map]
    conv => lhs; rw [← List.map_id C]
    exact List.map_congr_left (fun l _ => (hmk l).symm)
  have hR : C.map (fun l => ByteArray.mk l.toArray) = rise all := by
    refine upT_unique ?_ (rise_up all) (fun z => ?_)
    · unfold UpT
      rw [List.pairwise_map]
      refine h1.imp (fun {a b} h => ?_)
      unfold lt
      rw [Go.ByteArray.toList_eq, Go.ByteArray.toList_eq]
      simpa using h
    · rw [mem_rise]
      constructor
      · intro hz
        obtain ⟨l, hl, rfl⟩ := List.mem_map.1 hz
        have := (h2 l).1 hl
        rw [List.take_length, mem_sort] at this
        obtain ⟨y, hy, rfl⟩ := List.mem_map.1 this
        simpa using hy
      · intro hz
        refine List.mem_map.2 ⟨Bs z, (h2 _).2 ?_, by simp⟩
        rw [List.take_length, mem_sort]
        exact List.mem_map.2 ⟨z, hz, rfl⟩
  rw [hC, hR]
end Go.TreeLib
