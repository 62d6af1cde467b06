/-
  The longest list that two lists have in common, its pairs, its steps, what comes of steps: on lists, with no program.
-/
import Derived.Test.YtbiholcdncndfaaSeq
namespace Go.DiffLib

theorem cons_sub' {α : Type} (x y : α) (xs ys : List α) : (x :: xs).Sublist (y :: ys) ↔ (x :: xs).Sublist ys ∨ (x = y ∧ xs.Sublist ys) := by
  rw [List.sublist_cons_iff]
  constructor
  · rintro (h | ⟨r, e, h⟩)
    · exact .inl h
    · cases e; exact .inr ⟨rfl, h⟩
  · rintro (h | ⟨rfl, h⟩)
    · exact .inl h
    · exact .inr ⟨xs, rfl, h⟩

section
variable {α : Type} [DecidableEq α]

/-- How long the longest common list is: by the first one of a, and what is left of a. -/
def tlGo (x : α) (f : List α → Nat) : List α → Nat
  | [] => 0
  | y :: ys => if x = y then f ys + 1 else max (f (y :: ys)) (tlGo x f ys)
/-- How long the longest common list is. -/
def tl : List α → List α → Nat
  | [] => fun _ => 0
  | x :: xs => tlGo x (tl xs)

theorem tl_nil (b : List α) : tl [] b = 0 := rfl
theorem tl_nil' (a : List α) : tl a [] = 0 := by cases a <;> rfl
theorem tl_cons (x y : α) (xs ys : List α) : tl (x :: xs) (y :: ys) = if x = y then tl xs ys + 1 else max (tl xs (y :: ys)) (tl (x :: xs) ys) := rfl
/-- By both lists at once. -/
theorem tl_ind {motive : List α → List α → Prop} (case1 : ∀ b, motive [] b) (case2 : ∀ x xs, motive (x :: xs) []) (case3 : ∀ xs x ys, motive xs ys → motive (x :: xs) (x :: ys))
    (case4 : ∀ x xs y ys, ¬ x = y → motive xs (y :: ys) → motive (x :: xs) ys → motive (x :: xs) (y :: ys)) (a b : List α) : motive a b := by
  induction a generalizing b with
  | nil => exact case1 b
  | cons x xs ih =>
    induction b with
    | nil => exact case2 x xs
    | cons y ys ih2 =>
      by_cases h : x = y
      · subst h; exact case3 xs x ys (ih ys)
      · exact case4 x xs y ys h (ih (y :: ys)) ih2
theorem tl_end (a b : List α) (j : Nat) : tl (a.drop a.length) (b.drop j) = 0 := by rw [List.drop_length, tl_nil]
theorem tl_end' (a b : List α) (i : Nat) : tl (a.drop i) (b.drop b.length) = 0 := by rw [List.drop_length, tl_nil']
theorem tl_at (a b : List α) (i j : Nat) (hi : i < a.length) (hj : j < b.length) :
    tl (a.drop i) (b.drop j) = if a[i] = b[j] then tl (a.drop (i + 1)) (b.drop (j + 1)) + 1 else max (tl (a.drop (i + 1)) (b.drop j)) (tl (a.drop i) (b.drop (j + 1))) := by
  rw [List.drop_eq_getElem_cons hi, List.drop_eq_getElem_cons hj, tl_cons]

theorem tl_le (a b : List α) : tl a b ≤ a.length ∧ tl a b ≤ b.length := by
  induction a, b using tl_ind with
  | case1 b => simp [tl_nil]
  | case2 x xs => simp [tl_nil']
  | case3 xs x ys ih => rw [tl_cons, if_pos rfl]; simp; omega
  | case4 x xs y ys h ih1 ih2 => rw [tl_cons, if_neg h]; simp at ih1 ih2 ⊢; omega

/-- No common list is longer. -/
theorem tl_sub (a b : List α) : ∀ l : List α, l.Sublist a → l.Sublist b → l.length ≤ tl a b := by
  induction a, b using tl_ind with
  | case1 b => intro l h _; rw [tl_nil]; simpa using h
  | case2 x xs => intro l _ h; rw [tl_nil']; simpa using h
  | case3 xs x ys ih =>
    intro l ha hb
    rw [tl_cons, if_pos rfl]
    cases l with
    | nil => simp
    | cons z l =>
      have h1 : l.Sublist xs := by
        rcases (cons_sub' _ _ _ _).1 ha with h | ⟨_, h⟩
        · exact (List.sublist_cons_self z l).trans h
        · exact h
      have h2 : l.Sublist ys := by
        rcases (cons_sub' _ _ _ _).1 hb with h | ⟨_, h⟩
        · exact (List.sublist_cons_self z l).trans h
        · exact h
      have := ih l h1 h2
      simp; omega
  | case4 x xs y ys h ih1 ih2 =>
    intro l ha hb
    rw [tl_cons, if_neg h]
    cases l with
    | nil => simp
    | cons z l =>
      rcases (cons_sub' _ _ _ _).1 ha with h1 | ⟨rfl, _⟩
      · have := ih1 _ h1 hb; simp at this ⊢; omega
      · rcases (cons_sub' _ _ _ _).1 hb with h1 | ⟨rfl, _⟩
        · have := ih2 _ ha h1; simp at this ⊢; omega
        · exact absurd rfl h
/-- One is as long. -/
theorem tl_wit (a b : List α) : ∃ l : List α, l.Sublist a ∧ l.Sublist b ∧ l.length = tl a b := by
  induction a, b using tl_ind with
  | case1 b => exact ⟨[], by simp, by simp, rfl⟩
  | case2 x xs => exact ⟨[], by simp, by simp, rfl⟩
  | case3 xs x ys ih =>
    obtain ⟨l, h1, h2, h3⟩ := ih
    exact ⟨x :: l, h1.cons_cons x, h2.cons_cons x, by rw [tl_cons, if_pos rfl]; simp [h3]⟩
  | case4 x xs y ys h ih1 ih2 =>
    obtain ⟨l1, a1, b1, e1⟩ := ih1
    obtain ⟨l2, a2, b2, e2⟩ := ih2
    rw [tl_cons, if_neg h]
    by_cases hm : tl (x :: xs) ys ≤ tl xs (y :: ys)
    · exact ⟨l1, a1.cons x, b1, by omega⟩
    · exact ⟨l2, a2, b2.cons y, by omega⟩

theorem tl_comm (a b : List α) : tl a b = tl b a := by
  obtain ⟨l, h1, h2, h3⟩ := tl_wit a b
  obtain ⟨k, k1, k2, k3⟩ := tl_wit b a
  have := tl_sub b a l h2 h1
  have := tl_sub a b k k2 k1
  omega
theorem tl_reverse (a b : List α) : tl a.reverse b.reverse = tl a b := by
  obtain ⟨l, h1, h2, h3⟩ := tl_wit a b
  obtain ⟨k, k1, k2, k3⟩ := tl_wit a.reverse b.reverse
  have h4 := tl_sub a.reverse b.reverse l.reverse (List.reverse_sublist.2 h1) (List.reverse_sublist.2 h2)
  have h5 := tl_sub a b k.reverse (by have := List.reverse_sublist.2 k1; rwa [List.reverse_reverse] at this) (by have := List.reverse_sublist.2 k2; rwa [List.reverse_reverse] at this)
  simp at h4 h5
  omega
theorem tl_head (h a b : List α) : tl (h ++ a) (h ++ b) = h.length + tl a b := by
  induction h with
  | nil => simp
  | cons x h ih => rw [List.cons_append, List.cons_append, tl_cons, if_pos rfl, ih]; simp; omega
theorem tl_tail (a b t : List α) : tl (a ++ t) (b ++ t) = tl a b + t.length := by
  rw [← tl_reverse, List.reverse_append, List.reverse_append, tl_head, tl_reverse, List.length_reverse]; omega
theorem tl_map {β : Type} [DecidableEq β] (f : α → β) (hf : ∀ x y, f x = f y → x = y) (a b : List α) : tl (a.map f) (b.map f) = tl a b := by
  induction a, b using tl_ind with
  | case1 b => simp [tl_nil]
  | case2 x xs => simp [tl_nil']
  | case3 xs x ys ih => rw [List.map_cons, List.map_cons, tl_cons, if_pos rfl, ih, tl_cons, if_pos rfl]
  | case4 x xs y ys h ih1 ih2 =>
    rw [List.map_cons, List.map_cons, tl_cons, if_neg (fun e => h (hf _ _ e)), tl_cons x y, if_neg h]
    rw [List.map_cons] at ih1 ih2
    rw [ih1, ih2]
theorem tl_self (a : List α) : tl a a = a.length := by
  have := tl_head a [] []
  simpa [tl_nil] using this

/-- The pairs: by the first one of a, and what is left of a. -/
def prGo (x : α) (xs : List α) (f : List α → Nat → Nat → List (Nat × Nat)) : List α → Nat → Nat → List (Nat × Nat)
  | [], _, _ => []
  | y :: ys, i, j => if x = y then (i, j) :: f ys (i + 1) (j + 1) else if tl (x :: xs) ys ≤ tl xs (y :: ys) then f (y :: ys) (i + 1) j else prGo x xs f ys i (j + 1)
/-- The pairs. -/
def pr : List α → List α → Nat → Nat → List (Nat × Nat)
  | [] => fun _ _ _ => []
  | x :: xs => prGo x xs (pr xs)

theorem pr_nil (b : List α) (i j : Nat) : pr [] b i j = [] := rfl
theorem pr_nil' (a : List α) (i j : Nat) : pr a [] i j = [] := by cases a <;> rfl
theorem pr_cons (x y : α) (xs ys : List α) (i j : Nat) : pr (x :: xs) (y :: ys) i j = if x = y then (i, j) :: pr xs ys (i + 1) (j + 1) else if tl (x :: xs) ys ≤ tl xs (y :: ys) then pr xs (y :: ys) (i + 1) j else pr (x :: xs) ys i (j + 1) := rfl
theorem pr_ind {motive : List α → List α → Nat → Nat → Prop} (case1 : ∀ b i j, motive [] b i j) (case2 : ∀ x xs i j, motive (x :: xs) [] i j) (case3 : ∀ xs x ys i j, motive xs ys (i + 1) (j + 1) → motive (x :: xs) (x :: ys) i j)
    (case4 : ∀ x xs y ys i j, ¬ x = y → tl (x :: xs) ys ≤ tl xs (y :: ys) → motive xs (y :: ys) (i + 1) j → motive (x :: xs) (y :: ys) i j)
    (case5 : ∀ x xs y ys i j, ¬ x = y → ¬ tl (x :: xs) ys ≤ tl xs (y :: ys) → motive (x :: xs) ys i (j + 1) → motive (x :: xs) (y :: ys) i j) (a b : List α) (i j : Nat) : motive a b i j := by
  induction a generalizing b i j with
  | nil => exact case1 b i j
  | cons x xs ih =>
    induction b generalizing i j with
    | nil => exact case2 x xs i j
    | cons y ys ih2 =>
      by_cases h : x = y
      · subst h; exact case3 xs x ys i j (ih ys _ _)
      · by_cases h2 : tl (x :: xs) ys ≤ tl xs (y :: ys)
        · exact case4 x xs y ys i j h h2 (ih (y :: ys) _ _)
        · exact case5 x xs y ys i j h h2 (ih2 _ _)
theorem pr_at (a b : List α) (i j : Nat) (hi : i < a.length) (hj : j < b.length) :
    pr (a.drop i) (b.drop j) i j = if a[i] = b[j] then (i, j) :: pr (a.drop (i + 1)) (b.drop (j + 1)) (i + 1) (j + 1)
      else if tl (a.drop i) (b.drop (j + 1)) ≤ tl (a.drop (i + 1)) (b.drop j) then pr (a.drop (i + 1)) (b.drop j) (i + 1) j else pr (a.drop i) (b.drop (j + 1)) i (j + 1) := by
  rw [List.drop_eq_getElem_cons hi, List.drop_eq_getElem_cons hj, pr_cons]
theorem pr_end (a b : List α) (i j : Nat) (h : ¬ (i < a.length ∧ j < b.length)) : pr (a.drop i) (b.drop j) i j = [] := by
  rcases Nat.lt_or_ge i a.length with h1 | h1
  · rw [List.drop_eq_nil_of_le (show b.length ≤ j by omega), pr_nil']
  · rw [List.drop_eq_nil_of_le h1, pr_nil]

theorem pr_length (a b : List α) (i j : Nat) : (pr a b i j).length = tl a b := by
  induction a, b, i, j using pr_ind with
  | case1 => rfl
  | case2 => rfl
  | case3 xs x ys i j ih => rw [pr_cons, if_pos rfl, tl_cons, if_pos rfl, List.length_cons, ih]
  | case4 x xs y ys i j h h2 ih => rw [pr_cons, if_neg h, if_pos h2, tl_cons, if_neg h, ih]; omega
  | case5 x xs y ys i j h h2 ih => rw [pr_cons, if_neg h, if_neg h2, tl_cons, if_neg h, ih]; omega
theorem pr_map {β : Type} [DecidableEq β] (f : α → β) (hf : ∀ x y, f x = f y → x = y) (a b : List α) (i j : Nat) : pr (a.map f) (b.map f) i j = pr a b i j := by
  induction a, b, i, j using pr_ind with
  | case1 => rw [List.map_nil, pr_nil, pr_nil]
  | case2 => rw [List.map_nil, pr_nil', pr_nil']
  | case3 xs x ys i j ih => rw [List.map_cons, List.map_cons, pr_cons, if_pos rfl, ih, pr_cons, if_pos rfl]
  | case4 x xs y ys i j h h2 ih =>
    have e1 := tl_map f hf xs (y :: ys)
    have e2 := tl_map f hf (x :: xs) ys
    rw [List.map_cons] at e1 e2
    rw [List.map_cons, List.map_cons, pr_cons, if_neg (fun e => h (hf _ _ e)), if_pos (by rw [e1, e2]; exact h2), pr_cons x y, if_neg h, if_pos h2]
    rw [List.map_cons] at ih
    exact ih
  | case5 x xs y ys i j h h2 ih =>
    have e1 := tl_map f hf xs (y :: ys)
    have e2 := tl_map f hf (x :: xs) ys
    rw [List.map_cons] at e1 e2
    rw [List.map_cons, List.map_cons, pr_cons, if_neg (fun e => h (hf _ _ e)), if_neg (by rw [e1, e2]; exact h2), pr_cons x y, if_neg h, if_neg h2]
    rw [List.map_cons] at ih
    exact ih

/-- Pairs that rise, from i and j on, below n and m. -/
def Inc (n m : Nat) : Nat → Nat → List (Nat × Nat) → Prop
  | i, j, [] => i ≤ n ∧ j ≤ m
  | i, j, p :: ps => i ≤ p.1 ∧ j ≤ p.2 ∧ p.1 < n ∧ p.2 < m ∧ Inc n m (p.1 + 1) (p.2 + 1) ps
theorem Inc.less {n m i j i' j' : Nat} {ps : List (Nat × Nat)} (h : Inc n m i j ps) (hi : i' ≤ i) (hj : j' ≤ j) : Inc n m i' j' ps := by
  cases ps with
  | nil => exact ⟨by have := h.1; omega, by have := h.2; omega⟩
  | cons p ps => obtain ⟨h1, h2, h3⟩ := h; exact ⟨by omega, by omega, h3⟩
theorem Inc.le {n m i j : Nat} {ps : List (Nat × Nat)} (h : Inc n m i j ps) : i ≤ n ∧ j ≤ m := by
  cases ps with
  | nil => exact h
  | cons p ps => obtain ⟨h1, h2, h3, h4, _⟩ := h; omega
theorem pr_inc (a b : List α) (i j : Nat) : Inc (i + a.length) (j + b.length) i j (pr a b i j) := by
  induction a, b, i, j using pr_ind with
  | case1 => exact ⟨by omega, by omega⟩
  | case2 => exact ⟨by omega, by omega⟩
  | case3 xs x ys i j ih =>
    rw [pr_cons, if_pos rfl]
    refine ⟨Nat.le_refl _, Nat.le_refl _, by simp, by simp, ?_⟩
    simp only [List.length_cons]
    rw [show i + (xs.length + 1) = i + 1 + xs.length by omega, show j + (ys.length + 1) = j + 1 + ys.length by omega]
    exact ih
  | case4 x xs y ys i j h h2 ih =>
    rw [pr_cons, if_neg h, if_pos h2]
    rw [show i + 1 + xs.length = i + (x :: xs).length by simp; omega] at ih
    exact ih.less (by omega) (Nat.le_refl _)
  | case5 x xs y ys i j h h2 ih =>
    rw [pr_cons, if_neg h, if_neg h2]
    rw [show j + 1 + ys.length = j + (y :: ys).length by simp; omega] at ih
    exact ih.less (Nat.le_refl _) (by omega)
/-- Each pair is of like ones. -/
theorem pr_like (a b : List α) (i j : Nat) : ∀ p ∈ pr a b i j, i ≤ p.1 ∧ j ≤ p.2 ∧ ∃ x, a[p.1 - i]? = some x ∧ b[p.2 - j]? = some x := by
  induction a, b, i, j using pr_ind with
  | case1 => simp [pr_nil]
  | case2 => simp [pr_nil']
  | case3 xs x ys i j ih =>
    intro p hp
    rw [pr_cons, if_pos rfl] at hp
    rcases List.mem_cons.1 hp with rfl | hp
    · exact ⟨Nat.le_refl _, Nat.le_refl _, x, by simp, by simp⟩
    · obtain ⟨h1, h2, z, h3, h4⟩ := ih p hp
      refine ⟨by omega, by omega, z, ?_, ?_⟩
      · rw [show p.1 - i = (p.1 - (i + 1)) + 1 by omega, List.getElem?_cons_succ]; exact h3
      · rw [show p.2 - j = (p.2 - (j + 1)) + 1 by omega, List.getElem?_cons_succ]; exact h4
  | case4 x xs y ys i j h h2 ih =>
    intro p hp
    rw [pr_cons, if_neg h, if_pos h2] at hp
    obtain ⟨h1, h2, z, h3, h4⟩ := ih p hp
    refine ⟨by omega, by omega, z, ?_, h4⟩
    rw [show p.1 - i = (p.1 - (i + 1)) + 1 by omega, List.getElem?_cons_succ]; exact h3
  | case5 x xs y ys i j h h2 ih =>
    intro p hp
    rw [pr_cons, if_neg h, if_neg h2] at hp
    obtain ⟨h1, h2, z, h3, h4⟩ := ih p hp
    refine ⟨by omega, by omega, z, h3, ?_⟩
    rw [show p.2 - j = (p.2 - (j + 1)) + 1 by omega, List.getElem?_cons_succ]; exact h4
theorem pr_head (h a b : List α) (i j : Nat) : pr (h ++ a) (h ++ b) i j = (List.range h.length).map (fun k => (i + k, j + k)) ++ pr a b (i + h.length) (j + h.length) := by
  induction h generalizing i j with
  | nil => simp
  | cons x h ih =>
    rw [List.cons_append, List.cons_append, pr_cons, if_pos rfl, ih, List.length_cons, List.range_succ_eq_map]
    simp [List.map_map, Function.comp_def, Nat.add_assoc, Nat.add_comm 1]

/-- How many pairs stand one behind the other. -/
def rn : List (Nat × Nat) → Nat → Nat → Nat
  | [], _, _ => 0
  | p :: ps, i, j => if p = (i, j) then rn ps (i + 1) (j + 1) + 1 else 0
theorem rn_le (ps : List (Nat × Nat)) : ∀ i j, rn ps i j ≤ ps.length := by
  induction ps with
  | nil => intro i j; exact Nat.le_refl _
  | cons p ps ih => intro i j; unfold rn; split <;> simp; exact ih _ _
/-- Walked one by one. -/
theorem rn_at (ps : List (Nat × Nat)) (i j k : Nat) (hk : k < ps.length) : rn (ps.drop k) (i + k) (j + k) = if ps[k] = (i + k, j + k) then rn (ps.drop (k + 1)) (i + (k + 1)) (j + (k + 1)) + 1 else 0 := by
  rw [List.drop_eq_getElem_cons hk]; rfl
theorem rn_get : ∀ (ps : List (Nat × Nat)) (i j k : Nat), k < rn ps i j → ps[k]? = some (i + k, j + k)
  | [], i, j, k, h => by simp [rn] at h
  | p :: ps, i, j, k, h => by
    unfold rn at h
    split at h
    · rename_i e
      cases k with
      | zero => simp [e]
      | succ k => rw [List.getElem?_cons_succ, rn_get ps (i + 1) (j + 1) k (by omega)]; simp [Nat.add_assoc, Nat.add_comm 1]
    · omega

theorem rn_stop : ∀ (ps : List (Nat × Nat)) (i j : Nat) (h : rn ps i j < ps.length), ps[rn ps i j] ≠ (i + rn ps i j, j + rn ps i j)
  | [], i, j, h => by simp at h
  | p :: ps, i, j, h => by
    by_cases e : p = (i, j)
    · have hr : rn (p :: ps) i j = rn ps (i + 1) (j + 1) + 1 := by
        show (if p = (i, j) then rn ps (i + 1) (j + 1) + 1 else 0) = _
        rw [if_pos e]
      have h2 : rn ps (i + 1) (j + 1) < ps.length := by rw [hr] at h; simpa using h
      have := rn_stop ps (i + 1) (j + 1) h2
      simp only [hr, List.getElem_cons_succ]
      rw [show i + (rn ps (i + 1) (j + 1) + 1) = i + 1 + rn ps (i + 1) (j + 1) by omega, show j + (rn ps (i + 1) (j + 1) + 1) = j + 1 + rn ps (i + 1) (j + 1) by omega]
      exact this
    · have hr : rn (p :: ps) i j = 0 := by
        show (if p = (i, j) then rn ps (i + 1) (j + 1) + 1 else 0) = _
        rw [if_neg e]
      simp only [hr, List.getElem_cons_zero]
      exact e

/-- Where the next pair stands. -/
def nx (ps : List (Nat × Nat)) (n m : Nat) : Nat × Nat := ps.headD (n, m)

/-- The steps. -/
def st : Nat → List (Nat × Nat) → Nat → Nat → Nat → Nat → List (Nat × Nat × Nat)
  | 0, _, _, _, _, _ => []
  | f + 1, ps, i, j, n, m => if i < n ∨ j < m then (rn ps i j, (nx (ps.drop (rn ps i j)) n m).1 - (i + rn ps i j), (nx (ps.drop (rn ps i j)) n m).2 - (j + rn ps i j)) :: st f (ps.drop (rn ps i j)) (nx (ps.drop (rn ps i j)) n m).1 (nx (ps.drop (rn ps i j)) n m).2 n m else []

theorem st_done (f : Nat) (ps : List (Nat × Nat)) (i j n m : Nat) (h : ¬ (i < n ∨ j < m)) : st f ps i j n m = [] := by
  cases f with
  | zero => rfl
  | succ f => unfold st; rw [if_neg h]

theorem Inc.run {n m : Nat} : ∀ {ps : List (Nat × Nat)} {i j : Nat}, Inc n m i j ps → Inc n m (i + rn ps i j) (j + rn ps i j) (ps.drop (rn ps i j))
  | [], i, j, h => h
  | p :: ps, i, j, h => by
    unfold rn
    split
    · rename_i e
      obtain ⟨h1, h2, h3, h4, h5⟩ := h
      rw [e] at h5
      have := Inc.run h5
      rw [List.drop_succ_cons, show i + (rn ps (i + 1) (j + 1) + 1) = i + 1 + rn ps (i + 1) (j + 1) by omega, show j + (rn ps (i + 1) (j + 1) + 1) = j + 1 + rn ps (i + 1) (j + 1) by omega]
      exact this
    · exact h
/-- Behind a step: nearer the ends. -/
theorem Inc.next {n m i j : Nat} {ps : List (Nat × Nat)} (h : Inc n m i j ps) (hl : i < n ∨ j < m) :
    let s := rn ps i j
    let q := nx (ps.drop s) n m
    i + s ≤ q.1 ∧ j + s ≤ q.2 ∧ q.1 ≤ n ∧ q.2 ≤ m ∧ Inc n m q.1 q.2 (ps.drop s) ∧ (n - q.1) + (m - q.2) < (n - i) + (m - j) := by
  intro s q
  have hr : Inc n m (i + s) (j + s) (ps.drop s) := h.run
  have hle := hr.le
  cases hd : ps.drop s with
  | nil =>
    have hq : q = (n, m) := by show nx (ps.drop s) n m = _; rw [hd]; rfl
    rw [hq]
    exact ⟨hle.1, hle.2, Nat.le_refl _, Nat.le_refl _, ⟨Nat.le_refl _, Nat.le_refl _⟩, by simp only; omega⟩
  | cons p r =>
    have hq : q = p := by show nx (ps.drop s) n m = _; rw [hd]; rfl
    rw [hd] at hr
    rw [hq]
    obtain ⟨h1, h2, h3, h4, h5⟩ := hr
    refine ⟨h1, h2, by omega, by omega, ⟨Nat.le_refl _, Nat.le_refl _, h3, h4, h5⟩, ?_⟩
    by_cases h0 : s = 0
    · have : p ≠ (i, j) := by
        intro e
        have h6 : ps = p :: r := by rw [h0] at hd; exact hd
        have h7 : s = rn ps i j := rfl
        rw [h6] at h7
        unfold rn at h7
        rw [if_pos e] at h7
        omega
      have : p.1 ≠ i ∨ p.2 ≠ j := by
        by_cases e : p.1 = i
        · exact .inr (fun e2 => this (by rw [← e, ← e2]))
        · exact .inl e
      omega
    · omega

/-- Their sums, and what they are. -/
theorem st_sum : ∀ (f : Nat) (ps : List (Nat × Nat)) (i j n m : Nat), Inc n m i j ps → (n - i) + (m - j) ≤ f →
    ((st f ps i j n m).map (·.1)).sum = ps.length ∧ i + ((st f ps i j n m).map (·.1)).sum + ((st f ps i j n m).map (·.2.1)).sum = n ∧ j + ((st f ps i j n m).map (·.1)).sum + ((st f ps i j n m).map (·.2.2)).sum = m
  | 0, ps, i, j, n, m, h, hf => by
    have hle := h.le
    cases ps with
    | nil => simp [st]; omega
    | cons p ps => obtain ⟨h1, h2, h3, h4, _⟩ := h; omega
  | f + 1, ps, i, j, n, m, h, hf => by
    have hle := h.le
    by_cases hl : i < n ∨ j < m
    · obtain ⟨g1, g2, g3, g4, g5, g6⟩ := h.next hl
      have ih := st_sum f _ _ _ n m g5 (by omega)
      unfold st
      rw [if_pos hl]
      simp only [List.map_cons, List.sum_cons]
      have hd : (ps.drop (rn ps i j)).length = ps.length - rn ps i j := List.length_drop
      have := rn_le ps i j
      omega
    · rw [st_done _ _ _ _ _ _ hl]
      cases ps with
      | nil => simp; omega
      | cons p ps => obtain ⟨h1, h2, h3, h4, _⟩ := h; omega

/-- No step but the first takes none; none but the last leaves out and puts in none. -/
theorem st_shape : ∀ (f : Nat) (ps : List (Nat × Nat)) (i j n m : Nat), Inc n m i j ps → (n - i) + (m - j) ≤ f →
    (∀ k s, (st f ps i j n m)[k + 1]? = some s → 0 < s.1) ∧ (∀ k s, (st f ps i j n m)[k]? = some s → k + 1 < (st f ps i j n m).length → 0 < s.2.1 + s.2.2)
  | 0, ps, i, j, n, m, h, hf => by simp [st]
  | f + 1, ps, i, j, n, m, h, hf => by
    by_cases hl : i < n ∨ j < m
    · obtain ⟨g1, g2, g3, g4, g5, g6⟩ := h.next hl
      obtain ⟨ih1, ih2⟩ := st_shape f _ _ _ n m g5 (by omega)
      unfold st
      rw [if_pos hl]
      refine ⟨fun k s hs => ?_, fun k s hs hk => ?_⟩
      · rw [List.getElem?_cons_succ] at hs
        cases k with
        | succ k => exact ih1 k s hs
        | zero =>
          -- the next one begins at a pair
          cases f with
          | zero => simp [st] at hs
          | succ f =>
            unfold st at hs
            split at hs
            · rename_i hl2
              cases hd : ps.drop (rn ps i j) with
              | nil =>
                rw [hd] at hl2
                simp [nx] at hl2
              | cons p r =>
                rw [hd] at hs
                simp [nx] at hs
                rw [← hs]
                simp [rn]
            · simp at hs
      · cases k with
        | succ k => exact ih2 k s (by simpa using hs) (by simpa using hk)
        | zero =>
          simp at hs
          subst hs
          simp only
          simp at hk
          cases hd : ps.drop (rn ps i j) with
          | nil =>
            rw [hd] at hk
            rw [st_done _ _ _ _ _ _ (by simp [nx])] at hk
            simp at hk
          | cons p r =>
            have hrun := h.run
            rw [hd] at hrun
            obtain ⟨h1, h2, _⟩ := hrun
            simp only [nx, List.headD_cons]
            have hne : p ≠ (i + rn ps i j, j + rn ps i j) := by
              intro e
              have hk2 : rn ps i j < ps.length := by
                have := congrArg List.length hd
                simp at this; omega
              have hz := rn_stop ps i j hk2
              have hp : ps[rn ps i j] = p := by
                have := List.drop_eq_getElem_cons hk2
                rw [hd] at this
                exact (List.cons.inj this).1.symm
              exact hz (hp.trans e)
            have : p.1 ≠ i + rn ps i j ∨ p.2 ≠ j + rn ps i j := by
              by_cases e : p.1 = i + rn ps i j
              · exact .inr (fun e2 => hne (by rw [← e, ← e2]))
              · exact .inl e
            omega
    · rw [st_done _ _ _ _ _ _ hl]
      simp
/-- What comes of steps. -/
def app : List α → List α → List (Int × Int × Int) → Option (List α)
  | a, b, [] => if a = [] ∧ b = [] then some [] else none
  | a, b, (s, o, n) :: r =>
    if 0 ≤ s ∧ 0 ≤ o ∧ 0 ≤ n ∧ s ≤ a.length ∧ s ≤ b.length ∧ o ≤ (a.length : Int) - s ∧ n ≤ (b.length : Int) - s ∧ a.take s.toNat = b.take s.toNat then
      (app (a.drop (s.toNat + o.toNat)) (b.drop (s.toNat + n.toNat)) r).map (fun t => a.take s.toNat ++ ((b.drop s.toNat).take n.toNat ++ t))
    else none

abbrev up (s : Nat × Nat × Nat) : Int × Int × Int := (s.1, s.2.1, s.2.2)

theorem st_app (a b : List α) : ∀ (f : Nat) (ps : List (Nat × Nat)) (i j : Nat), Inc a.length b.length i j ps → (∀ p ∈ ps, ∃ x, a[p.1]? = some x ∧ b[p.2]? = some x) → (a.length - i) + (b.length - j) ≤ f →
    app (a.drop i) (b.drop j) ((st f ps i j a.length b.length).map up) = some (b.drop j)
  | 0, ps, i, j, h, hp, hf => by
    have hle := h.le
    rw [List.drop_eq_nil_of_le (show a.length ≤ i by omega), List.drop_eq_nil_of_le (show b.length ≤ j by omega)]
    simp [st, app]
  | f + 1, ps, i, j, h, hp, hf => by
    have hle := h.le
    by_cases hl : i < a.length ∨ j < b.length
    · obtain ⟨g1, g2, g3, g4, g5, g6⟩ := h.next hl
      have ih := st_app a b f _ _ _ g5 (fun p h => hp p (List.mem_of_mem_drop h)) (by omega)
      have hget := rn_get ps i j
      unfold st
      rw [if_pos hl]
      generalize hs : rn ps i j = s at *
      generalize hq : nx (ps.drop s) a.length b.length = q at *
      have htake : (a.drop i).take s = (b.drop j).take s := by
        refine List.ext_getElem? fun k => ?_
        rw [List.getElem?_take, List.getElem?_take]
        split
        · rename_i hk
          obtain ⟨x, h1, h2⟩ := hp _ (List.mem_of_getElem? (hget k hk))
          rw [List.getElem?_drop, List.getElem?_drop, h1, h2]
        · rfl
      rw [List.map_cons]
      unfold app
      rw [if_pos]
      · simp only [Int.toNat_natCast, List.drop_drop]
        rw [show i + (s + (q.1 - (i + s))) = q.1 by omega, show j + (s + (q.2 - (j + s))) = q.2 by omega, ih, Option.map_some]
        congr 1
        rw [htake]
        have e1 : ((b.drop (j + s)).take (q.2 - (j + s)) ++ b.drop q.2) = b.drop (j + s) := by
          have := List.take_append_drop (q.2 - (j + s)) (b.drop (j + s))
          rw [List.drop_drop, show j + s + (q.2 - (j + s)) = q.2 by omega] at this
          exact this
        rw [e1, ← List.drop_drop]
        exact List.take_append_drop s (b.drop j)
      · simp only [Int.toNat_natCast, List.length_drop]
        refine ⟨by omega, by omega, by omega, by omega, by omega, by omega, by omega, htake⟩
    · rw [st_done _ _ _ _ _ _ hl, List.drop_eq_nil_of_le (show a.length ≤ i by omega), List.drop_eq_nil_of_le (show b.length ≤ j by omega)]
      simp [app]

/-- Steps, as numbers. -/
def stp (a b : List α) : List (Int × Int × Int) := (st (a.length + b.length) (pr a b 0 0) 0 0 a.length b.length).map up
theorem st_length : ∀ (f : Nat) (ps : List (Nat × Nat)) (i j n m : Nat), (st f ps i j n m).length ≤ f
  | 0, _, _, _, _, _ => Nat.le_refl _
  | f + 1, ps, i, j, n, m => by
    unfold st
    split
    · rw [List.length_cons]; exact Nat.succ_le_succ (st_length f _ _ _ _ _)
    · exact Nat.zero_le _
theorem stp_length (a b : List α) : (stp a b).length ≤ a.length + b.length := by unfold stp; rw [List.length_map]; exact st_length _ _ _ _ _ _
theorem pr_inc0 (a b : List α) : Inc a.length b.length 0 0 (pr a b 0 0) := by
  have := pr_inc a b 0 0
  rwa [Nat.zero_add, Nat.zero_add] at this
theorem stp_app (a b : List α) : app a b (stp a b) = some b := by
  have := st_app a b (a.length + b.length) (pr a b 0 0) 0 0 (pr_inc0 a b) (fun p hp => by
    obtain ⟨_, _, x, h1, h2⟩ := pr_like a b 0 0 p hp
    exact ⟨x, h1, h2⟩) (by omega)
  rw [List.drop_zero, List.drop_zero] at this
  exact this
theorem st_step (f : Nat) (ps : List (Nat × Nat)) (i j n m : Nat) (h : i < n ∨ j < m) (hf : 0 < f) :
    st f ps i j n m = (rn ps i j, (nx (ps.drop (rn ps i j)) n m).1 - (i + rn ps i j), (nx (ps.drop (rn ps i j)) n m).2 - (j + rn ps i j)) :: st (f - 1) (ps.drop (rn ps i j)) (nx (ps.drop (rn ps i j)) n m).1 (nx (ps.drop (rn ps i j)) n m).2 n m := by
  obtain ⟨g, rfl⟩ : ∃ g, f = g + 1 := ⟨f - 1, by omega⟩
  conv => lhs; unfold st
  rw [if_pos h]
  rfl
end

end Go.DiffLib
