/-
  Parts of a list, exchanged and merged: what a stable sort by exchanges does beyond one block. No program is named here.
-/
import Derived.Test.YtndblaemladppaaRStable
namespace Go.TreeLib
open Go Go.Sort Go.Proofs

theorem bang_at {d : Array Fl} {A B : List Fl} {a : Fl} (h : d.toList = A ++ a :: B) : d[A.length]! = a := by
  have hs : A.length < d.size := by rw [← Array.length_toList, h]; simp
  have h1 := bang d hs
  rw [h, List.getElem?_append_right (Nat.le_refl _), Nat.sub_self] at h1
  exact (Option.some.inj h1).symm
theorem bang_mid {d : Array Fl} {X Y Z : List Fl} (h : d.toList = X ++ (Y ++ Z)) {i : Nat} (hi : i < Y.length) : d[X.length + i]! = Y.getD i default := by
  have hs : X.length + i < d.size := by rw [← Array.length_toList, h]; simp; omega
  have h1 := bang d hs
  rw [h, List.getElem?_append_right (by omega), Nat.add_sub_cancel_left, List.getElem?_append_left hi] at h1
  rw [List.getD_eq_getElem?_getD, h1]
  rfl
/-- Two elements, exchanged, whatever lies between. -/
theorem swp_far {d : Array Fl} {A B C : List Fl} {a b : Fl} (h : d.toList = A ++ a :: (B ++ b :: C)) : (swp d A.length (A.length + 1 + B.length)).toList = A ++ b :: (B ++ a :: C) := by
  have ha := bang_at h
  have hb : d[A.length + 1 + B.length]! = b := by
    have h2 : d.toList = (A ++ a :: B) ++ b :: C := by rw [h]; simp
    have := bang_at h2
    rw [show (A ++ a :: B).length = A.length + 1 + B.length by simp; omega] at this
    exact this
  unfold swp
  rw [ha, hb, Array.toList_setIfInBounds, Array.toList_setIfInBounds, h]
  rw [List.set_append_right _ _ (Nat.le_refl _), Nat.sub_self, List.set_cons_zero, List.set_append_right _ _ (by omega), show A.length + 1 + B.length - A.length = B.length + 1 by omega, List.set_cons_succ, List.set_append_right _ _ (Nat.le_refl _), Nat.sub_self, List.set_cons_zero]

theorem up_get {l : List Fl} (h : Up l) {i j : Nat} (hij : i ≤ j) (hj : j < l.length) : lt (l.getD j default).1 (l.getD i default).1 = false := by
  rw [List.getD_eq_getElem?_getD, List.getD_eq_getElem?_getD, List.getElem?_eq_getElem hj, List.getElem?_eq_getElem (by omega)]
  show lt l[j].1 (l[i]'(by omega)).1 = false
  by_cases e : i = j
  · subst e; exact lt_irrefl _
  · unfold Up at h
    rw [List.pairwise_iff_getElem] at h
    exact h i j (by omega) hj (by omega)
theorem up_app {l m : List Fl} (hl : Up l) (hm : Up m) (h : ∀ a ∈ l, ∀ b ∈ m, lt b.1 a.1 = false) : Up (l ++ m) := List.pairwise_append.2 ⟨hl, hm, h⟩
theorem up_take {l : List Fl} (h : Up l) (i : Nat) : Up (l.take i) := h.sublist (List.take_sublist _ _)
theorem up_drop {l : List Fl} (h : Up l) (i : Nat) : Up (l.drop i) := h.sublist (List.drop_sublist _ _)
theorem mem_isort {x : Fl} {l : List Fl} : x ∈ isort l ↔ x ∈ l := by
  have h : x ∈ fil x.1 (isort l) ↔ x ∈ fil x.1 l := by rw [isort_fil]
  rw [mem_fil, mem_fil] at h
  simpa using h
theorem mem_take_getD {x : Fl} {l : List Fl} {i : Nat} (h : x ∈ l.take i) : ∃ t, t < i ∧ t < l.length ∧ l.getD t default = x := by
  obtain ⟨t, ht, rfl⟩ := List.mem_take_iff_getElem.1 h
  exact ⟨t, by omega, by omega, by rw [List.getD_eq_getElem?_getD, List.getElem?_eq_getElem (by omega)]; rfl⟩
theorem mem_drop_getD {x : Fl} {l : List Fl} {i : Nat} (h : x ∈ l.drop i) : ∃ t, i ≤ t ∧ t < l.length ∧ l.getD t default = x := by
  obtain ⟨t, ht, rfl⟩ := List.mem_drop_iff_getElem.1 h
  exact ⟨i + t, by omega, by omega, by rw [List.getD_eq_getElem?_getD, List.getElem?_eq_getElem (by omega)]; rfl⟩

theorem isort_merge {Y1 Y2 Z1 Z2 : List Fl} (hY : ∀ a ∈ Y1, ∀ b ∈ Y2, lt b.1 a.1 = false) (hZ : ∀ a ∈ Z1, ∀ b ∈ Z2, lt b.1 a.1 = false) (hA : ∀ a ∈ Y1, ∀ b ∈ Z2, lt b.1 a.1 = false) (hB : ∀ a ∈ Z1, ∀ b ∈ Y2, lt a.1 b.1 = true) :
    isort (Y1 ++ Z1) ++ isort (Y2 ++ Z2) = isort ((Y1 ++ Y2) ++ (Z1 ++ Z2)) := by
  refine (isort_of (up_app (isort_up _) (isort_up _) (fun a ha b hb => ?_)) (fun p => ?_)).symm
  · rcases List.mem_append.1 (mem_isort.1 ha) with ha | ha
    · rcases List.mem_append.1 (mem_isort.1 hb) with hb | hb
      · exact hY a ha b hb
      · exact hA a ha b hb
    · rcases List.mem_append.1 (mem_isort.1 hb) with hb | hb
      · exact lt_asymm (hB a ha b hb)
      · exact hZ a ha b hb
  · rw [fil_app, fil_app, fil_app, fil_app, isort_fil, isort_fil, fil_app, fil_app]
    have h : fil p Z1 = [] ∨ fil p Y2 = [] := by
      cases h1 : fil p Z1 with
      | nil => exact .inl rfl
      | cons z r =>
        cases h2 : fil p Y2 with
        | nil => exact .inr rfl
        | cons y s =>
          have hz := mem_fil.1 (show z ∈ fil p Z1 by rw [h1]; exact List.mem_cons_self)
          have hy := mem_fil.1 (show y ∈ fil p Y2 by rw [h2]; exact List.mem_cons_self)
          have := hB z hz.1 y hy.1
          rw [hz.2, hy.2, lt_irrefl] at this
          cases this
    rcases h with h | h <;> rw [h] <;> simp

theorem sym_split {Y Z : List Fl} {i j : Nat} (hY : Up Y) (hZ : Up Z) (hi : i ≤ Y.length) (hj : j ≤ Z.length)
    (hA : i = 0 ∨ j = Z.length ∨ lt (Z.getD j default).1 (Y.getD (i - 1) default).1 = false)
    (hB : i = Y.length ∨ j = 0 ∨ lt (Z.getD (j - 1) default).1 (Y.getD i default).1 = true) :
    isort (Y.take i ++ Z.take j) ++ isort (Y.drop i ++ Z.drop j) = isort (Y ++ Z) := by
  rw [isort_merge (Y1 := Y.take i) (Y2 := Y.drop i) (Z1 := Z.take j) (Z2 := Z.drop j), List.take_append_drop, List.take_append_drop]
  · intro a ha b hb
    obtain ⟨s, s1, s2, rfl⟩ := mem_take_getD ha
    obtain ⟨t, t1, t2, rfl⟩ := mem_drop_getD hb
    exact up_get hY (by omega) t2
  · intro a ha b hb
    obtain ⟨s, s1, s2, rfl⟩ := mem_take_getD ha
    obtain ⟨t, t1, t2, rfl⟩ := mem_drop_getD hb
    exact up_get hZ (by omega) t2
  · intro a ha b hb
    obtain ⟨s, s1, s2, rfl⟩ := mem_take_getD ha
    obtain ⟨t, t1, t2, rfl⟩ := mem_drop_getD hb
    rcases hA with h | h | h
    · omega
    · omega
    · exact le_trans (le_trans (up_get hY (show s ≤ i - 1 by omega) (by omega)) h) (up_get hZ t1 t2)
  · intro a ha b hb
    obtain ⟨s, s1, s2, rfl⟩ := mem_take_getD ha
    obtain ⟨t, t1, t2, rfl⟩ := mem_drop_getD hb
    rcases hB with h | h | h
    · omega
    · omega
    · have h1 := up_get hZ (show s ≤ j - 1 by omega) (by omega)
      have h2 := up_get hY t1 t2
      cases h3 : lt (Z.getD s default).1 (Y.getD t default).1 with
      | true => rfl
      | false =>
        have := le_trans h2 h3
        have := le_trans this h1
        rw [h] at this
        cases this
/-- One ahead of a sorted list, merged into it. -/
theorem sym_first {y : Fl} {Z : List Fl} {j : Nat} (hZ : Up Z) (hj : j ≤ Z.length) (hB : j = 0 ∨ lt (Z.getD (j - 1) default).1 y.1 = true) (hC : j = Z.length ∨ lt (Z.getD j default).1 y.1 = false) :
    isort (y :: Z) = Z.take j ++ y :: Z.drop j := by
  have h := sym_split (Y := [y]) (i := 0) (j := j) (List.pairwise_singleton _ _) hZ (Nat.zero_le _) hj (.inl rfl) (by
    rcases hB with h | h
    · exact .inr (.inl h)
    · exact .inr (.inr h))
  rw [List.take_zero, List.drop_zero, List.nil_append, isort_self (up_take hZ j)] at h
  rw [show y :: Z = [y] ++ Z from rfl, ← h, isort_self]
  · rfl
  · refine up_app (List.pairwise_singleton _ _) (up_drop hZ j) (fun a ha b hb => ?_)
    rw [List.mem_singleton.1 ha]
    obtain ⟨t, t1, t2, rfl⟩ := mem_drop_getD hb
    rcases hC with h | h
    · omega
    · exact le_trans h (up_get hZ t1 t2)
/-- One behind a sorted list, merged into it. -/
theorem sym_last {z : Fl} {Y : List Fl} {i : Nat} (hY : Up Y) (hi : i ≤ Y.length) (hA : i = 0 ∨ lt z.1 (Y.getD (i - 1) default).1 = false) (hB : i = Y.length ∨ lt z.1 (Y.getD i default).1 = true) :
    isort (Y ++ [z]) = Y.take i ++ z :: Y.drop i := by
  have h := sym_split (Z := [z]) (i := i) (j := 1) hY (List.pairwise_singleton _ _) hi (Nat.le_refl _) (.inr (.inl rfl)) (by
    rcases hB with h | h
    · exact .inl h
    · exact .inr (.inr h))
  rw [show [z].drop 1 = [] from rfl, show [z].take 1 = [z] from rfl, List.append_nil, isort_self (up_drop hY i)] at h
  rw [← h, isort_self, List.append_assoc]
  · rfl
  · refine up_app (up_take hY i) (List.pairwise_singleton _ _) (fun a ha b hb => ?_)
    rw [List.mem_singleton.1 hb]
    obtain ⟨t, t1, t2, rfl⟩ := mem_take_getD ha
    rcases hA with h | h
    · omega
    · exact le_trans (up_get hY (show t ≤ i - 1 by omega) (by omega)) h

/-- A step of exchanging two parts of the same length. -/
theorem swr_step {d : Array Fl} {X U V W T : List Fl} {n i : Nat} (hU : U.length = n) (hW : W.length = n) (hi : i < n)
    (hd : d.toList = X ++ ((W.take i ++ U.drop i) ++ (V ++ ((U.take i ++ W.drop i) ++ T)))) :
    (swp d (X.length + i) (X.length + n + V.length + i)).toList = X ++ ((W.take (i + 1) ++ U.drop (i + 1)) ++ (V ++ ((U.take (i + 1) ++ W.drop (i + 1)) ++ T))) := by
  have hiU : i < U.length := by omega
  have hiW : i < W.length := by omega
  have h2 : d.toList = (X ++ W.take i) ++ U[i] :: ((U.drop (i + 1) ++ (V ++ U.take i)) ++ W[i] :: (W.drop (i + 1) ++ T)) := by
    rw [hd, List.drop_eq_getElem_cons hiU, List.drop_eq_getElem_cons hiW]
    simp only [List.append_assoc, List.cons_append]
  have := swp_far h2
  rw [show (X ++ W.take i).length = X.length + i by simp; omega, show X.length + i + 1 + (U.drop (i + 1) ++ (V ++ U.take i)).length = X.length + n + V.length + i by simp; omega] at this
  rw [this, List.take_succ_eq_append_getElem hiU, List.take_succ_eq_append_getElem hiW]
  simp only [List.append_assoc, List.cons_append, List.nil_append]

/-- The insertion sort of a part. -/
theorem ins_part {d : Array Fl} {X Y T : List Fl} (hd : d.toList = X ++ (Y ++ T)) : (Sort.insertionSort (ltOf cmpF) d X.length (X.length + Y.length)).toList = X ++ (isort Y ++ T) := by
  have hsz : d.size = X.length + (Y.length + T.length) := by rw [← Array.length_toList, hd]; simp
  have hh := insertionSort_holds (lt := ltOf cmpF) cmp_swo d X.length (X.length + Y.length) (by omega) (by omega)
  have hst := sort_stab d X.length (X.length + Y.length) (by omega)
  generalize Sort.insertionSort (ltOf cmpF) d X.length (X.length + Y.length) = dk at hh hst
  obtain ⟨hperm, hsort⟩ := hh
  have hk : dk.size = d.size := hst.1
  have hdl : dk.toList.length = dk.size := Array.length_toList
  have hout : ∀ i, i < d.size → (i < X.length ∨ X.length + Y.length ≤ i) → dk.toList[i]? = d.toList[i]? := fun i hi h => by
    rw [bang dk (by omega), bang d hi, hperm.2.1 i h]
  have hsp : dk.toList = X ++ (((dk.toList.drop X.length).take Y.length) ++ T) := by
    refine List.ext_getElem? (fun i => ?_)
    by_cases h1 : i < X.length
    · rw [hout i (by omega) (.inl h1), hd, List.getElem?_append_left h1, List.getElem?_append_left h1]
    · rw [List.getElem?_append_right (by omega)]
      have hl : ((dk.toList.drop X.length).take Y.length).length = Y.length := by rw [List.length_take, List.length_drop]; omega
      by_cases h2 : i < X.length + Y.length
      · rw [List.getElem?_append_left (by omega), List.getElem?_take_of_lt (by omega), List.getElem?_drop]
        congr 1
        omega
      · rw [List.getElem?_append_right (by omega), hl]
        by_cases h3 : i < d.size
        · rw [hout i h3 (.inr (by omega)), hd, List.getElem?_append_right (by omega), List.getElem?_append_right (by omega)]
        · rw [List.getElem?_eq_none (by rw [Array.length_toList]; omega), List.getElem?_eq_none (by omega)]
  rw [hsp]
  congr 2
  refine (isort_of ?_ (fun p => ?_)).symm
  · unfold Up
    rw [List.pairwise_iff_getElem]
    intro i j hi hj hij
    rw [List.length_take, List.length_drop] at hi hj
    have h1 := bang dk (i := X.length + i) (by omega)
    have h2 := bang dk (i := X.length + j) (by omega)
    rw [List.getElem?_eq_getElem (by omega)] at h1 h2
    rw [List.getElem_take, List.getElem_take, List.getElem_drop, List.getElem_drop, Option.some.inj h1, Option.some.inj h2, ← cmp_lt]
    exact hsort _ _ (by omega) (by omega) (by omega)
  · have h := hst.2 p
    rw [hsp, hd, fil_app, fil_app, fil_app, fil_app] at h
    exact (List.append_cancel_right (List.append_cancel_left h)).symm

/-! ### Lists whose parts, of so many each, are sorted -/
def Ch (bs : Nat) (l : List Fl) : Prop := ∀ k, Up ((l.drop (k * bs)).take bs)
theorem Ch.nil (bs : Nat) : Ch bs [] := fun k => by rw [List.drop_nil, List.take_nil]; exact List.Pairwise.nil
theorem Ch.up {bs : Nat} {l : List Fl} (h : Ch bs l) : Up (l.take bs) := by
  have := h 0
  rw [Nat.zero_mul, List.drop_zero] at this
  exact this
theorem Ch.one {bs : Nat} {l : List Fl} (h : Up l) (hl : l.length ≤ bs) : Ch bs l := fun k => by
  cases k with
  | zero => rw [Nat.zero_mul, List.drop_zero, List.take_of_length_le hl]; exact h
  | succ k =>
    rw [List.drop_eq_nil_of_le (by rw [Nat.succ_mul]; omega), List.take_nil]
    exact List.Pairwise.nil
theorem Ch.drop {bs : Nat} {l : List Fl} (h : Ch bs l) (j : Nat) : Ch bs (l.drop (j * bs)) := fun k => by
  rw [List.drop_drop, ← Nat.add_mul]
  exact h (j + k)
theorem Ch.app {bs k : Nat} {l m : List Fl} (h : Ch bs l) (hk : l.length = k * bs) (hm : Ch bs m) : Ch bs (l ++ m) := fun j => by
  by_cases hj : j < k
  · have h1 : (j + 1) * bs ≤ k * bs := Nat.mul_le_mul_right _ hj
    rw [Nat.succ_mul] at h1
    rw [List.drop_append_of_le_length (by omega), List.take_append_of_le_length (by rw [List.length_drop]; omega)]
    exact h j
  · have h1 : k * bs ≤ j * bs := Nat.mul_le_mul_right _ (Nat.not_lt.1 hj)
    rw [List.drop_append, List.drop_eq_nil_of_le (by omega), List.nil_append, hk, ← Nat.sub_mul]
    exact hm (j - k)

end Go.TreeLib
