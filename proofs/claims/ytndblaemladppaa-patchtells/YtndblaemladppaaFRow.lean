/-
  Rows that are owned, as the library's contracts of sorting hold them, and back.
-/
import Derived.Test.YtndblaemladppaaFOrd
namespace Go.Proofs.Ytndblaemladppaa
open Go.RowKit Go.Shelf Go.SeqLib Go.DiffLib Go.TreeLib Go.Sort

section
variable {α : Type} [Inhabited α]
/-- A row that is owned, written over by the sort: it is owned still; no other block of what lay is changed. -/
theorem row_sorted {w : World} {base : Nat} {e : TypeId} {s g n cap : Nat} {xs : List Value} (h : w.ownsRow base e s (.slice (some ⟨g, 0, none⟩) n cap) n xs) (enc : α → Value) (d : Array α) (hd : d.size = n * s) (m : Nat) (os : Array Obj) :
    (grow (putRow enc (Sort.ahead w m) g 0 d) os).ownsRow base e s (.slice (some ⟨g, 0, none⟩) n cap) n (d.toList.map enc) ∧ Chg (fun k => k = g) w (grow (putRow enc (Sort.ahead w m) g 0 d) os) := by
  obtain ⟨h1, h2⟩ := h
  rcases h2 with ⟨h2, _⟩ | ⟨g', cap', cur, hv, hb, hg, hn, hm, hs, ht⟩
  · cases h2
  · cases hv
    have hlt : g < w.heap.size := (Array.getElem?_eq_some_iff.1 hg).1
    have hheap : ∀ k, k < w.heap.size → (grow (putRow enc (Sort.ahead w m) g 0 d) os).heap[k]? = (w.heap.modify g (onCells (putCells enc 0 d)))[k]? := by
      intro k hk
      show ((w.heap.modify g (onCells (putCells enc 0 d))) ++ os)[k]? = _
      rw [Array.getElem?_append_left (by rw [Array.size_modify]; exact hk)]
    refine ⟨⟨by rw [List.length_map, Array.length_toList, hd], .inr ⟨g, cap, putCells enc 0 d cur, rfl, hb, ?_, hn, hm, by unfold putCells; rw [Array.size_mapIdx]; exact hs, ?_⟩⟩, rfl, rfl, rfl, ?_, fun k hk hne => ?_⟩
    · rw [hheap g hlt, Array.getElem?_modify, if_pos rfl, hg]
      rfl
    · refine List.ext_getElem? fun i => ?_
      have hns : n * s ≤ cur.size := by rw [hs]; exact Nat.mul_le_mul_right _ hn
      rw [List.getElem?_take]
      by_cases hi : i < n * s
      · rw [if_pos hi, Array.getElem?_toList, List.getElem?_map, Array.getElem?_toList]
        unfold putCells
        rw [Array.getElem?_mapIdx, Array.getElem?_eq_getElem (by omega), Option.map_some, if_pos ⟨Nat.zero_le _, by omega⟩, Nat.sub_zero, getElem!_pos d i (by omega), Array.getElem?_eq_getElem (by omega)]
        rfl
      · rw [if_neg hi, List.getElem?_eq_none (by rw [List.length_map, Array.length_toList]; omega)]
    · show w.heap.size ≤ ((w.heap.modify g (onCells (putCells enc 0 d))) ++ os).size
      rw [Array.size_append, Array.size_modify]
      omega
    · rw [hheap k hk, Array.getElem?_modify, if_neg (fun e => hne e.symm)]
/-- A row that is owned holds what it is said to. -/
theorem row_holds {w : World} {base : Nat} {e : TypeId} {s g n cap : Nat} {xs : List Value} (h : w.ownsRow base e s (.slice (some ⟨g, 0, none⟩) n cap) n xs) (enc : α → Value) (d : Array α) (hd : d.toList.map enc = xs) : Holds enc w g 0 d ∧ g < w.heap.size ∧ n ≤ cap := by
  have h0 := h
  obtain ⟨h1, h2⟩ := h
  rcases h2 with ⟨h2, _⟩ | ⟨g', cap', cur, hv, hb, hg, hn, hm, hs, ht⟩
  · cases h2
  · cases hv
    refine ⟨fun j hj => ⟨?_, by simp [World.frozen?, hg]⟩, (Array.getElem?_eq_some_iff.1 hg).1, hn⟩
    have := h0.cells (g := g) rfl j (enc d[j]!) (by rw [← hd, List.getElem?_map, Array.getElem?_toList, Array.getElem?_eq_getElem hj, getElem!_pos d j hj]; rfl)
    rw [addr_add] at this
    exact this
end

theorem flatK_list (d : Array Fl) : (flatK eF 2 d).toList = d.toList.flatMap eF := by
  refine List.ext_getElem? fun t => ?_
  have hl : (d.toList.flatMap eF).length = d.size * 2 := by rw [flatF_length, Array.length_toList]
  by_cases ht : t < d.size * 2
  · have h2 : t = (t / 2) * 2 + t % 2 := by omega
    have hq : t % 2 < 2 := Nat.mod_lt _ (by omega)
    rw [Array.getElem?_toList, Array.getElem?_eq_getElem (by rw [size_flatK]; exact ht), ← getElem!_pos (flatK eF 2 d) t (by rw [size_flatK]; exact ht), get_flatK eF 2 d t ht]
    conv => rhs; rw [h2, flat_get eF_len _ _ _ hq, Array.getElem?_toList, Array.getElem?_eq_getElem (show t / 2 < d.size by omega), Option.bind_some]
    rw [getElem!_pos d (t / 2) (by omega), List.getElem?_eq_getElem (by rw [eF_len]; exact hq), getElem!_pos (eF d[t / 2]) (t % 2) (by rw [eF_len]; exact hq)]
  · rw [List.getElem?_eq_none (by rw [Array.length_toList, size_flatK]; omega), List.getElem?_eq_none (by rw [hl]; omega)]

theorem OwnF.rowK {w : World} {base g n cap : Nat} {zs : List Fl} (h : OwnF w base (.slice (some ⟨g, 0, none⟩) n cap) zs) (hn : zs.length = n) : RowK eF 2 w g 0 zs.toArray := by
  subst hn
  have := row_holds h id (flatK eF 2 zs.toArray) (by rw [List.map_id, flatK_list])
  exact ⟨eF_len, eF_one, this.1, this.2.1⟩
theorem OwnF.sorted {w W : World} {base g n cap : Nat} {zs : List Fl} (h : OwnF w base (.slice (some ⟨g, 0, none⟩) n cap) zs) (hn : zs.length = n) {d : Array Fl} (hd : d.size = n) (hS : SWK eF 2 w g 0 d W) :
    OwnF W base (.slice (some ⟨g, 0, none⟩) n cap) d.toList ∧ Chg (fun k => k = g) w W := by
  subst hn
  obtain ⟨m, os, rfl⟩ := hS
  have := row_sorted h id (flatK eF 2 d) (by rw [size_flatK, hd]) m os
  rw [List.map_id, flatK_list] at this
  refine ⟨?_, this.2⟩
  have hl : d.toList.length = zs.length := by rw [Array.length_toList]; exact hd
  show World.ownsRow _ _ _ _ _ d.toList.length _
  rw [hl]
  exact this.1

end Go.Proofs.Ytndblaemladppaa
