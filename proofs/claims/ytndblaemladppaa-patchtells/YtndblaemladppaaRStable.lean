/-
  Sorting by exchanges of neighbours, the lesser one ahead: those of one path stay in their order; so it comes to isort. No program is named here.
-/
import Derived.Test.YtndblaemladppaaGPure
import Derived.Shelf.SlSortCmp.KitK
import Derived.Sort.LotA
import Derived.Lib.Bytealg
namespace Go.TreeLib
open Go Go.Sort Go.Proofs

/-- How two files are compared: by their paths. -/
def cmpF (x y : Fl) : Int := Lib.compareBytes x.1.data.toList y.1.data.toList
theorem cmp_bytes : ∀ x y : List UInt8, decide (Lib.compareBytes x y < 0) = Op.bytesLess x y
  | [], [] => by unfold Lib.compareBytes Op.bytesLess; rfl
  | [], _ :: _ => by unfold Lib.compareBytes Op.bytesLess; rfl
  | _ :: _, [] => by unfold Lib.compareBytes Op.bytesLess; rfl
  | a :: x, b :: y => by
    have ih := cmp_bytes x y
    unfold Lib.compareBytes Op.bytesLess
    by_cases h1 : a < b
    · rw [if_pos h1, decide_eq_true h1]; rfl
    · rw [if_neg h1, decide_eq_false h1]
      by_cases h2 : b < a
      · have : (a == b) = false := by rw [beq_eq_false_iff_ne]; rintro rfl; exact h1 h2
        rw [if_pos h2, this]; rfl
      · have : a = b := UInt8.le_antisymm (UInt8.not_lt.1 h2) (UInt8.not_lt.1 h1)
        subst this
        rw [if_neg h2, ih, beq_self_eq_true]
        rfl
theorem cmp_lt (x y : Fl) : ltOf cmpF x y = lt x.1 y.1 := by
  unfold ltOf cmpF lt
  rw [cmp_bytes, Go.ByteArray.toList_eq, Go.ByteArray.toList_eq]
theorem cmp_swo : SWO (ltOf cmpF) := {
  irrefl := fun x => by rw [cmp_lt]; exact lt_irrefl _
  trans := fun x y z h1 h2 => by rw [cmp_lt] at h1 h2 ⊢; exact lt_trans h1 h2
  ntrans := fun x y z h1 h2 => by rw [cmp_lt] at h1 h2 ⊢; exact le_trans h2 h1 }

theorem bang (d : Array Fl) {i : Nat} (h : i < d.size) : d.toList[i]? = some d[i]! := by
  rw [getElem!_pos d i h]
  simp [h]
/-- Two neighbours, exchanged. -/
theorem swp_list {d : Array Fl} {A B : List Fl} {a b : Fl} (h : d.toList = A ++ a :: b :: B) : (swp d (A.length + 1) A.length).toList = A ++ b :: a :: B := by
  have hs : d.size = A.length + (B.length + 2) := by rw [← Array.length_toList, h]; simp
  have ha : d[A.length]! = a := by
    have h1 := bang d (i := A.length) (by omega)
    rw [h, List.getElem?_append_right (Nat.le_refl _), Nat.sub_self] at h1
    exact (Option.some.inj h1).symm
  have hb : d[A.length + 1]! = b := by
    have h1 := bang d (i := A.length + 1) (by omega)
    rw [h, List.getElem?_append_right (by omega), Nat.add_sub_cancel_left] at h1
    exact (Option.some.inj h1).symm
  unfold swp
  rw [ha, hb, Array.toList_setIfInBounds, Array.toList_setIfInBounds, h]
  rw [List.set_append_right _ _ (by omega), Nat.add_sub_cancel_left, List.set_append_right _ _ (Nat.le_refl _), Nat.sub_self]
  rfl
theorem split_two {d : Array Fl} {j : Nat} (h : j + 1 < d.size) : ∃ A B, A.length = j ∧ d.toList = A ++ d[j]! :: d[j + 1]! :: B := by
  refine ⟨d.toList.take j, d.toList.drop (j + 2), by rw [List.length_take, Array.length_toList]; omega, ?_⟩
  have h1 := bang d (i := j) (by omega)
  have h2 := bang d (i := j + 1) h
  have hl : d.toList.length = d.size := Array.length_toList
  conv => lhs; rw [← List.take_append_drop j d.toList]
  congr 1
  rw [List.drop_eq_getElem_cons (by omega), List.drop_eq_getElem_cons (by omega)]
  rw [List.getElem?_eq_getElem (by omega)] at h1 h2
  rw [Option.some.inj h1, Option.some.inj h2]

/-- As many, and those of one path in their order. -/
def Stab (d d' : Array Fl) : Prop := d'.size = d.size ∧ ∀ p, fil p d'.toList = fil p d.toList
theorem Stab.refl (d : Array Fl) : Stab d d := ⟨rfl, fun _ => rfl⟩
theorem Stab.trans {a b c : Array Fl} (h : Stab a b) (k : Stab b c) : Stab a c := ⟨k.1.trans h.1, fun p => (k.2 p).trans (h.2 p)⟩
theorem swp_stab {d : Array Fl} {j : Nat} (h : j + 1 < d.size) (hne : d[j + 1]!.1 ≠ d[j]!.1) : Stab d (swp d (j + 1) j) := by
  obtain ⟨A, B, rfl, hd⟩ := split_two h
  refine ⟨size_swp _ _ _, fun p => ?_⟩
  rw [swp_list hd]
  conv => rhs; rw [hd]
  rw [fil_app, fil_app]
  congr 1
  rw [fil_cons, fil_cons, fil_cons, fil_cons]
  by_cases e1 : d[A.length + 1]!.1 = p
  · rw [if_pos e1, if_pos e1, if_neg (fun e2 => hne (e1.trans e2.symm)), if_neg (fun e2 => hne (e1.trans e2.symm))]
  · rw [if_neg e1, if_neg e1]
theorem inner_stab (a : Nat) : ∀ (j : Nat) (d : Array Fl), j < d.size → Stab d (insInner (ltOf cmpF) a j d)
  | 0, d, _ => by rw [insInner_stop _ _ _ _ (.inl (Nat.zero_le _))]; exact Stab.refl d
  | j + 1, d, h => by
    by_cases hc : a < j + 1 ∧ ltOf cmpF d[j + 1]! d[j]! = true
    · rw [insInner_go _ _ _ _ hc.1 (by rw [Nat.add_sub_cancel]; exact hc.2), Nat.add_sub_cancel]
      have hne : d[j + 1]!.1 ≠ d[j]!.1 := by have := hc.2; rw [cmp_lt] at this; exact lt_ne this
      have hs := swp_stab h hne
      exact hs.trans (inner_stab a j _ (by rw [hs.1]; omega))
    · rw [insInner_stop _ _ _ _ (by
        rw [Nat.add_sub_cancel]
        by_cases h1 : a < j + 1
        · exact .inr (by
            cases h2 : ltOf cmpF d[j + 1]! d[j]! with
            | false => rfl
            | true => exact absurd ⟨h1, h2⟩ hc)
        · exact .inl (by omega))]
      exact Stab.refl d
theorem outer_stab (a b : Nat) : ∀ (m i : Nat) (d : Array Fl), b - i ≤ m → b ≤ d.size → Stab d (insOuter (ltOf cmpF) a b i d)
  | 0, i, d, h, _ => by rw [insOuter_stop _ _ _ _ _ (by omega)]; exact Stab.refl d
  | m + 1, i, d, h, hb => by
    by_cases hi : i < b
    · rw [insOuter_go _ _ _ _ _ hi]
      have hs := inner_stab a i d (by omega)
      exact hs.trans (outer_stab a b m (i + 1) _ (by omega) (by rw [hs.1]; exact hb))
    · rw [insOuter_stop _ _ _ _ _ hi]; exact Stab.refl d
theorem sort_stab (d : Array Fl) (a b : Nat) (hb : b ≤ d.size) : Stab d (Sort.insertionSort (ltOf cmpF) d a b) := outer_stab a b _ _ d (Nat.le_refl _) hb

theorem up_of_sorted {d : Array Fl} (h : SortedIn (ltOf cmpF) 0 d.size d) : Up d.toList := by
  unfold Up
  rw [List.pairwise_iff_getElem]
  intro i j hi hj hij
  have hl : d.toList.length = d.size := Array.length_toList
  have h1 := bang d (i := i) (by omega)
  have h2 := bang d (i := j) (by omega)
  rw [List.getElem?_eq_getElem (by omega)] at h1 h2
  rw [Option.some.inj h1, Option.some.inj h2, ← cmp_lt]
  exact h i j (Nat.zero_le _) hij (by omega)
/-- The whole list, sorted by insertion. -/
theorem sort_list (d : Array Fl) : (Sort.insertionSort (ltOf cmpF) d 0 d.size).toList = isort d.toList := by
  have h := insertionSort_holds (lt := ltOf cmpF) cmp_swo d 0 d.size (Nat.zero_le _) (Nat.le_refl _)
  have hs := sort_stab d 0 d.size (Nat.le_refl _)
  refine (isort_of (up_of_sorted ?_) (fun p => (hs.2 p).symm)).symm
  rw [hs.1]
  exact h.2
/-- What is put in behind all that are not greater. -/
theorem ins_split {f : Fl} : ∀ {A B : List Fl}, (∀ a ∈ A, lt f.1 a.1 = false) → (∀ b ∈ B, lt f.1 b.1 = true) → ins f (A ++ B) = A ++ f :: B
  | [], [], _, _ => rfl
  | [], b :: B, _, h => by
    show ins f (b :: B) = _
    unfold ins
    rw [if_pos (h b List.mem_cons_self)]
    rfl
  | a :: A, B, h1, h2 => by
    show ins f (a :: (A ++ B)) = _
    unfold ins
    rw [if_neg (by rw [h1 a List.mem_cons_self]; exact Bool.false_ne_true), ins_split (fun x hx => h1 x (List.mem_cons_of_mem _ hx)) h2]
    rfl

end Go.TreeLib
