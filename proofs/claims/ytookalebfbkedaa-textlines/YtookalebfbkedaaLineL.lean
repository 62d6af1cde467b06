/-
  A text's lines, as a function on lists of bytes, and what holds of it. No program is named here.
-/
import Derived.Lib.Bytealg
import Derived.Test.YtookalebfbkedaaTxt
namespace Go.LineLib
open Go

/-- The lines of a text: it is cut behind each byte 10. -/
def linesL : List UInt8 → List (List UInt8)
  | [] => []
  | b :: r => if b = 10 then [b] :: linesL r else match linesL r with
    | [] => [[b]]
    | x :: xs => (b :: x) :: xs

theorem linesL_cons (b : UInt8) (r : List UInt8) : linesL (b :: r) = if b = 10 then [b] :: linesL r else match linesL r with
    | [] => [[b]]
    | x :: xs => (b :: x) :: xs := rfl

/-- How many bytes the first line has. -/
def endL : List UInt8 → Nat
  | [] => 0
  | b :: r => if b = 10 then 1 else endL r + 1

theorem endL_le : ∀ l, endL l ≤ l.length
  | [] => Nat.le_refl _
  | b :: r => by unfold endL; have := endL_le r; split <;> simp <;> omega
theorem endL_pos {l : List UInt8} (h : l ≠ []) : 1 ≤ endL l := by
  cases l with
  | nil => exact absurd rfl h
  | cons b r => unfold endL; split <;> omega

theorem linesL_nil {l : List UInt8} : linesL l = [] ↔ l = [] := by
  cases l with
  | nil => simp [linesL]
  | cons b r => simp only [linesL]; split <;> (try split) <;> simp

theorem linesL_first : ∀ {l : List UInt8}, l ≠ [] → linesL l = l.take (endL l) :: linesL (l.drop (endL l))
  | [], h => absurd rfl h
  | b :: r, _ => by
    rw [linesL_cons]
    unfold endL
    split
    · rename_i h; subst h; simp
    · cases hr : r with
      | nil => simp [linesL, endL]
      | cons c r' =>
        rw [← hr, linesL_first (by rw [hr]; simp)]
        simp

theorem linesL_flat : ∀ l, (linesL l).flatten = l
  | [] => rfl
  | b :: r => by
    unfold linesL
    have ih := linesL_flat r
    split
    · simp [ih]
    · split
      · rename_i h; rw [h] at ih; simp at ih; subst ih; rfl
      · rename_i x xs h; rw [h] at ih; simpa using ih

theorem linesL_len : ∀ l, (linesL l).length ≤ l.length
  | [] => Nat.le_refl _
  | b :: r => by
    unfold linesL
    have ih := linesL_len r
    split
    · simp; omega
    · split
      · simp
      · rename_i x xs h; rw [h] at ih; simp at ih ⊢; omega

theorem linesL_ne : ∀ l, ∀ x ∈ linesL l, x ≠ []
  | [], x, h => by simp [linesL] at h
  | b :: r, x, h => by
    unfold linesL at h
    have ih := linesL_ne r
    split at h
    · simp at h; rcases h with rfl | h
      · simp
      · exact ih x h
    · split at h
      · simp at h; subst h; simp
      · rename_i y ys hy
        simp at h; rcases h with rfl | h
        · simp
        · exact ih x (by rw [hy]; simp [h])

/-- A byte 10 stands at a line's end alone. -/
theorem linesL_inner : ∀ l, ∀ x ∈ linesL l, ∀ j, j + 1 < x.length → x[j]? ≠ some 10
  | [], x, h => by simp [linesL] at h
  | b :: r, x, h => by
    unfold linesL at h
    have ih := linesL_inner r
    split at h
    · simp at h; rcases h with rfl | h
      · intro j hj; simp at hj
      · exact ih x h
    · rename_i hb
      split at h
      · simp at h; subst h; intro j hj; simp at hj
      · rename_i y ys hy
        simp at h; rcases h with rfl | h
        · intro j hj
          cases j with
          | zero => simpa using hb
          | succ j => simp at hj ⊢; exact ih y (by rw [hy]; simp) j (by omega)
        · exact ih x (by rw [hy]; simp [h])

/-- Each line but the last ends with one. -/
theorem linesL_ends : ∀ l, ∀ i x, (linesL l)[i]? = some x → i + 1 < (linesL l).length → x.getLast? = some 10
  | [], i, x, h, _ => by simp [linesL] at h
  | b :: r, i, x, h, hl => by
    have ih := linesL_ends r
    have e : linesL (b :: r) = if b = 10 then [b] :: linesL r else match linesL r with
      | [] => [[b]]
      | x :: xs => (b :: x) :: xs := rfl
    rw [e] at h hl
    split at h
    · rename_i hb
      rw [if_pos hb] at hl
      cases i with
      | zero => simp at h; subst h; subst hb; rfl
      | succ i => simp at h hl; exact ih i x h (by omega)
    · rename_i hb
      rw [if_neg hb] at hl
      cases hr : linesL r with
      | nil => rw [hr] at h hl; simp at hl
      | cons y ys =>
        rw [hr] at h hl ih
        cases i with
        | zero =>
          simp at h hl; subst h
          have := ih 0 y rfl (by simp; omega)
          cases y with
          | nil => simp at this
          | cons c y' => simpa using this
        | succ i => simp at h hl; exact ih (i + 1) x (by simpa using h) (by simp; omega)

/-- A text that ends with a whole line, ahead of another. -/
theorem linesL_whole : ∀ (a b : List UInt8), a = [] ∨ a.getLast? = some 10 → linesL (a ++ b) = linesL a ++ linesL b
  | [], b, _ => rfl
  | [c], b, h => by
    have : c = 10 := by simpa using h
    subst this
    simp [linesL]
  | c :: d :: r, b, h => by
    have ih := linesL_whole (d :: r) b (.inr (by simpa using h))
    have hne : linesL (d :: r) ≠ [] := fun e => by rw [linesL_nil] at e; cases e
    show linesL (c :: (d :: r ++ b)) = _
    rw [linesL_cons, linesL_cons, ih]
    split
    · simp
    · cases h2 : linesL (d :: r) with
      | nil => exact absurd h2 hne
      | cons x xs => simp

/-- One that does not. -/
theorem linesL_part : ∀ (a b : List UInt8), a ≠ [] → a.getLast? ≠ some 10 → b ≠ [] → (linesL (a ++ b)).length + 1 = (linesL a).length + (linesL b).length
  | [], b, h, _, _ => absurd rfl h
  | [c], b, _, h, hb => by
    have hc : c ≠ 10 := by simpa using h
    have hne : linesL b ≠ [] := fun e => hb (linesL_nil.1 e)
    show (linesL (c :: b)).length + 1 = _
    rw [linesL_cons, linesL_cons, if_neg hc, if_neg hc]
    cases h2 : linesL b with
    | nil => exact absurd h2 hne
    | cons x xs => simp [linesL]; omega
  | c :: d :: r, b, _, h, hb => by
    have ih := linesL_part (d :: r) b (by simp) (by simpa using h) hb
    have hne : linesL (d :: r) ≠ [] := fun e => by rw [linesL_nil] at e; cases e
    have hne2 : linesL (d :: r ++ b) ≠ [] := fun e => by rw [linesL_nil] at e; cases e
    show (linesL (c :: (d :: r ++ b))).length + 1 = _
    rw [linesL_cons, linesL_cons c (d :: r)]
    split
    · simp only [List.length_cons]; omega
    · cases h2 : linesL (d :: r) with
      | nil => exact absurd h2 hne
      | cons x xs =>
        cases h3 : linesL (d :: r ++ b) with
        | nil => exact absurd h3 hne2
        | cons y ys => rw [h2, h3] at ih; simp only [List.length_cons] at ih ⊢; omega

theorem endL_index : ∀ l, (if 0 ≤ Lib.indexByte l 10 then Lib.indexByte l 10 + 1 else (l.length : Int)) = (endL l : Int)
  | [] => by simp [Lib.indexByte, endL]
  | b :: r => by
    have ih := endL_index r
    have hge := Lib.indexByte_ge r 10
    unfold Lib.indexByte endL
    by_cases hb : b = 10
    · subst hb; simp
    · simp only [beq_eq_false_iff_ne.2 hb, if_neg hb]
      by_cases h1 : Lib.indexByte r 10 = -1
      · rw [h1] at ih ⊢; simp at ih ⊢; omega
      · rw [if_pos (by omega)] at ih
        simp only [beq_eq_false_iff_ne.2 h1, Bool.false_eq_true, if_false]
        rw [if_pos (by omega)]
        push_cast
        omega

/-- The first line ends at n, if there is no byte 10 ahead. -/
theorem endL_at : ∀ (l : List UInt8) (n : Nat), n < l.length → (∀ j, j < n → l[j]? ≠ some 10) → (l[n]? = some 10 ∨ n + 1 = l.length) → endL l = n + 1
  | [], n, h, _, _ => by simp at h
  | b :: r, 0, h, _, h2 => by
    unfold endL
    rcases h2 with h2 | h2
    · rw [if_pos (by simpa using h2)]
    · simp at h2; subst h2; simp [endL]
  | b :: r, n + 1, h, h1, h2 => by
    unfold endL
    rw [if_neg (by have := h1 0 (by omega); simpa using this)]
    rw [endL_at r n (by simpa using h) (fun j hj => by have := h1 (j + 1) (by omega); simpa using this) (by simpa using h2)]

theorem index_has (c : UInt8) : ∀ l, (0 ≤ Lib.indexByte l c) ↔ c ∈ l
  | [] => by simp [Lib.indexByte]
  | b :: r => by
    have ih := index_has c r
    have hge := Lib.indexByte_ge r c
    unfold Lib.indexByte
    by_cases hb : b = c
    · subst hb; simp
    · simp only [beq_eq_false_iff_ne.2 hb, Bool.false_eq_true, if_false]
      by_cases h1 : Lib.indexByte r c = -1
      · rw [h1] at ih ⊢; simp at ih ⊢; exact ⟨fun e => hb e.symm, ih⟩
      · simp only [beq_eq_false_iff_ne.2 h1, Bool.false_eq_true, if_false]
        have h3 : 0 ≤ Lib.indexByte r c := by omega
        simp [ih.1 h3]
        omega

theorem linesL_many (k : Nat) (r : List UInt8) : linesL ((List.replicate k [120, 10]).flatten ++ r) = List.replicate k [120, 10] ++ linesL r := by
  induction k with
  | zero => rfl
  | succ k ih =>
    rw [List.replicate_succ, List.flatten_cons, List.append_assoc, linesL_whole _ _ (.inr rfl), ih]
    rfl

/-- A list of bytes as a text. -/
abbrev T (l : List UInt8) : ByteArray := ⟨l.toArray⟩
/-- A text's bytes. -/
abbrev L (s : ByteArray) : List UInt8 := s.data.toList
/-- A text's lines. -/
def linesB (s : ByteArray) : List ByteArray := (linesL (L s)).map T

theorem T_L (s : ByteArray) : T (L s) = s := rfl
theorem L_T (l : List UInt8) : L (T l) = l := rfl
theorem size_L (s : ByteArray) : s.size = (L s).length := rfl
theorem L_extract (s : ByteArray) (a b : Nat) : L (s.extract a b) = ((L s).drop a).take (b - a) := by
  show (s.extract a b).data.toList = _
  rw [ByteArray.data_extract, Array.toList_extract, List.extract_eq_take_drop]
theorem extract_T (s : ByteArray) (a b : Nat) : s.extract a b = T (((L s).drop a).take (b - a)) := by rw [← L_extract]
theorem L_ne {s : ByteArray} (h : s.size ≠ 0) : L s ≠ [] := fun e => h (by rw [size_L, e]; rfl)

/-- The first line, and the others. -/
theorem linesB_first {s : ByteArray} (h : s.size ≠ 0) : linesB s = s.extract 0 (endL (L s)) :: linesB (s.extract (endL (L s)) s.size) := by
  unfold linesB
  rw [linesL_first (L_ne h), List.map_cons, L_extract, extract_T, List.take_of_length_le (show ((L s).drop (endL (L s))).length ≤ s.size - endL (L s) by rw [List.length_drop, size_L]; exact Nat.le_refl _)]
  simp
theorem linesB_nil {s : ByteArray} (h : s.size = 0) : linesB s = [] := by
  have : L s = [] := List.length_eq_zero_iff.1 h
  unfold linesB; rw [this]; rfl
theorem linesB_len (s : ByteArray) : (linesB s).length ≤ s.size := by
  unfold linesB; rw [List.length_map]; exact linesL_len _
/-- Texts, one behind the other. -/
def catB (xs : List ByteArray) : ByteArray := T (xs.map L).flatten
theorem catB_lines (s : ByteArray) : catB (linesB s) = s := by
  unfold catB linesB
  rw [List.map_map, show (L ∘ T) = id from rfl, List.map_id, linesL_flat]

end Go.LineLib
