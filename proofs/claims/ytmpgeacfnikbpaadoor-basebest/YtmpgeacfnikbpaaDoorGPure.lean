/-
  Of: DLib, RLib, RLib2, RRepo, RDag.
-/
import Derived.Test.YtmpgeacfnikbpaaDoorSeq
section
-- DLib
namespace Go.DiffLib

theorem cons_sub' {α : Type} (x y : α) (xs ys : List α) : (x :: xs).Sublist (y :: ys) ↔ (x :: xs).Sublist ys ∨ (x = y ∧ xs.Sublist ys) := by
  rw [List.sublist_cons_iff]
  constructor
  · rintro (h | ⟨r, e, h⟩)
    · exact .inl h
    · cases e; exact .inr ⟨rfl, h⟩
  · rintro (h | ⟨rfl, h⟩)
    · exact .inl h
    · exact .inr ⟨xs, rfl, h⟩

section
variable {α : Type} [DecidableEq α]

/-- How long the longest common list is: by the first one of a, and what is left of a. -/
def tlGo (x : α) (f : List α → Nat) : List α → Nat
  | [] => 0
  | y :: ys => if x = y then f ys + 1 else max (f (y :: ys)) (tlGo x f ys)
/-- How long the longest common list is. -/
def tl : List α → List α → Nat
  | [] => fun _ => 0
  | x :: xs => tlGo x (tl xs)

theorem tl_nil (b : List α) : tl [] b = 0 := rfl
theorem tl_nil' (a : List α) : tl a [] = 0 := by cases a <;> rfl
theorem tl_cons (x y : α) (xs ys : List α) : tl (x :: xs) (y :: ys) = if x = y then tl xs ys + 1 else max (tl xs (y :: ys)) (tl (x :: xs) ys) := rfl
/-- By both lists at once. -/
theorem tl_ind {motive : List α → List α → Prop} (case1 : ∀ b, motive [] b) (case2 : ∀ x xs, motive (x :: xs) []) (case3 : ∀ xs x ys, motive xs ys → motive (x :: xs) (x :: ys))
    (case4 : ∀ x xs y ys, ¬ x = y → motive xs (y :: ys) → motive (x :: xs) ys → motive (x :: xs) (y :: ys)) (a b : List α) : motive a b := by
  induction a generalizing b with
  | nil => exact case1 b
  | cons x xs ih =>
    induction b with
    | nil => exact case2 x xs
    | cons y ys ih2 =>
      by_cases h : x = y
      · subst h; exact case3 xs x ys (ih ys)
      · exact case4 x xs y ys h (ih (y :: ys)) ih2
theorem tl_end (a b : List α) (j : Nat) : tl (a.drop a.length) (b.drop j) = 0 := by rw [List.drop_length, tl_nil]
theorem tl_end' (a b : List α) (i : Nat) : tl (a.drop i) (b.drop b.length) = 0 := by rw [List.drop_length, tl_nil']
theorem tl_at (a b : List α) (i j : Nat) (hi : i < a.length) (hj : j < b.length) :
    tl (a.drop i) (b.drop j) = if a[i] = b[j] then tl (a.drop (i + 1)) (b.drop (j + 1)) + 1 else max (tl (a.drop (i + 1)) (b.drop j)) (tl (a.drop i) (b.drop (j + 1))) := by
  rw [List.drop_eq_getElem_cons hi, List.drop_eq_getElem_cons hj, tl_cons]

theorem tl_le (a b : List α) : tl a b ≤ a.length ∧ tl a b ≤ b.length := by
  induction a, b using tl_ind with
  | case1 b => simp [tl_nil]
  | case2 x xs => simp [tl_nil']
  | case3 xs x ys ih => rw [tl_cons, if_pos rfl]; simp; omega
  | case4 x xs y ys h ih1 ih2 => rw [tl_cons, if_neg h]; simp at ih1 ih2 ⊢; omega

/-- No common list is longer. -/
theorem tl_sub (a b : List α) : ∀ l : List α, l.Sublist a → l.Sublist b → l.length ≤ tl a b := by
  induction a, b using tl_ind with
  | case1 b => intro l h _; rw [tl_nil]; simpa using h
  | case2 x xs => intro l _ h; rw [tl_nil']; simpa using h
  | case3 xs x ys ih =>
    intro l ha hb
    rw [tl_cons, if_pos rfl]
    cases l with
    | nil => simp
    | cons z l =>
      have h1 : l.Sublist xs := by
        rcases (cons_sub' _ _ _ _).1 ha with h | ⟨_, h⟩
        · exact (List.sublist_cons_self z l).trans h
        · exact h
      have h2 : l.Sublist ys := by
        rcases (cons_sub' _ _ _ _).1 hb with h | ⟨_, h⟩
        · exact (List.sublist_cons_self z l).trans h
        · exact h
      have := ih l h1 h2
      simp; omega
  | case4 x xs y ys h ih1 ih2 =>
    intro l ha hb
    rw [tl_cons, if_neg h]
    cases l with
    | nil => simp
    | cons z l =>
      rcases (cons_sub' _ _ _ _).1 ha with h1 | ⟨rfl, _⟩
      · have := ih1 _ h1 hb; simp at this ⊢; omega
      · rcases (cons_sub' _ _ _ _).1 hb with h1 | ⟨rfl, _⟩
        · have := ih2 _ ha h1; simp at this ⊢; omega
        · exact absurd rfl h
/-- One is as long. -/
theorem tl_wit (a b : List α) : ∃ l : List α, l.Sublist a ∧ l.Sublist b ∧ l.length = tl a b := by
  induction a, b using tl_ind with
  | case1 b => exact ⟨[], by simp, by simp, rfl⟩
  | case2 x xs => exact ⟨[], by simp, by simp, rfl⟩
  | case3 xs x ys ih =>
    obtain ⟨l, h1, h2, h3⟩ := ih
    exact ⟨x :: l, h1.cons_cons x, h2.cons_cons x, by rw [tl_cons, if_pos rfl]; simp [h3]⟩
  | case4 x xs y ys h ih1 ih2 =>
    obtain ⟨l1, a1, b1, e1⟩ := ih1
    obtain ⟨l2, a2, b2, e2⟩ := ih2
    rw [tl_cons, if_neg h]
    by_cases hm : tl (x :: xs) ys ≤ tl xs (y :: ys)
    · exact ⟨l1, a1.cons x, b1, by omega⟩
    · exact ⟨l2, a2, b2.cons y, by omega⟩

theorem tl_comm (a b : List α) : tl a b = tl b a := by
  obtain ⟨l, h1, h2, h3⟩ := tl_wit a b
  obtain ⟨k, k1, k2, k3⟩ := tl_wit b a
  have := tl_sub b a l h2 h1
  have := tl_sub a b k k2 k1
  omega
theorem tl_reverse (a b : List α) : tl a.reverse b.reverse = tl a b := by
  obtain ⟨l, h1, h2, h3⟩ := tl_wit a b
  obtain ⟨k, k1, k2, k3⟩ := tl_wit a.reverse b.reverse
  have h4 := tl_sub a.reverse b.reverse l.reverse (List.reverse_sublist.2 h1) (List.reverse_sublist.2 h2)
  have h5 := tl_sub a b k.reverse (by have := List.reverse_sublist.2 k1; rwa [List.reverse_reverse] at this) (by have := List.reverse_sublist.2 k2; rwa [List.reverse_reverse] at this)
  simp at h4 h5
  omega
theorem tl_head (h a b : List α) : tl (h ++ a) (h ++ b) = h.length + tl a b := by
  induction h with
  | nil => simp
  | cons x h ih => rw [List.cons_append, List.cons_append, tl_cons, if_pos rfl, ih]; simp; omega
theorem tl_tail (a b t : List α) : tl (a ++ t) (b ++ t) = tl a b + t.length := by
  rw [← tl_reverse, List.reverse_append, List.reverse_append, tl_head, tl_reverse, List.length_reverse]; omega
theorem tl_map {β : Type} [DecidableEq β] (f : α → β) (hf : ∀ x y, f x = f y → x = y) (a b : List α) : tl (a.map f) (b.map f) = tl a b := by
  induction a, b using tl_ind with
  | case1 b => simp [tl_nil]
  | case2 x xs => simp [tl_nil']
  | case3 xs x ys ih => rw [List.map_cons, List.map_cons, tl_cons, if_pos rfl, ih, tl_cons, if_pos rfl]
  | case4 x xs y ys h ih1 ih2 =>
    rw [List.map_cons, List.map_cons, tl_cons, if_neg (fun e => h (hf _ _ e)), tl_cons x y, if_neg h]
    rw [List.map_cons] at ih1 ih2
    rw [ih1, ih2]
theorem tl_self (a : List α) : tl a a = a.length := by
  have := tl_head a [] []
  simpa [tl_nil] using this

/-- The pairs: by the first one of a, and what is left of a. -/
def prGo (x : α) (xs : List α) (f : List α → Nat → Nat → List (Nat × Nat)) : List α → Nat → Nat → List (Nat × Nat)
  | [], _, _ => []
  | y :: ys, i, j => if x = y then (i, j) :: f ys (i + 1) (j + 1) else if tl (x :: xs) ys ≤ tl xs (y :: ys) then f (y :: ys) (i + 1) j else prGo x xs f ys i (j + 1)
/-- The pairs. -/
def pr : List α → List α → Nat → Nat → List (Nat × Nat)
  | [] => fun _ _ _ => []
  | x :: xs => prGo x xs (pr xs)

theorem pr_nil (b : List α) (i j : Nat) : pr [] b i j = [] := rfl
theorem pr_nil' (a : List α) (i j : Nat) : pr a [] i j = [] := by cases a <;> rfl
theorem pr_cons (x y : α) (xs ys : List α) (i j : Nat) : pr (x :: xs) (y :: ys) i j = if x = y then (i, j) :: pr xs ys (i + 1) (j + 1) else if tl (x :: xs) ys ≤ tl xs (y :: ys) then pr xs (y :: ys) (i + 1) j else pr (x :: xs) ys i (j + 1) := rfl
theorem pr_ind {motive : List α → List α → Nat → Nat → Prop} (case1 : ∀ b i j, motive [] b i j) (case2 : ∀ x xs i j, motive (x :: xs) [] i j) (case3 : ∀ xs x ys i j, motive xs ys (i + 1) (j + 1) → motive (x :: xs) (x :: ys) i j)
    (case4 : ∀ x xs y ys i j, ¬ x = y → tl (x :: xs) ys ≤ tl xs (y :: ys) → motive xs (y :: ys) (i + 1) j → motive (x :: xs) (y :: ys) i j)
    (case5 : ∀ x xs y ys i j, ¬ x = y → ¬ tl (x :: xs) ys ≤ tl xs (y :: ys) → motive (x :: xs) ys i (j + 1) → motive (x :: xs) (y :: ys) i j) (a b : List α) (i j : Nat) : motive a b i j := by
  induction a generalizing b i j with
  | nil => exact case1 b i j
  | cons x xs ih =>
    induction b generalizing i j with
    | nil => exact case2 x xs i j
    | cons y ys ih2 =>
      by_cases h : x = y
      · subst h; exact case3 xs x ys i j (ih ys _ _)
      · by_cases h2 : tl (x :: xs) ys ≤ tl xs (y :: ys)
        · exact case4 x xs y ys i j h h2 (ih (y :: ys) _ _)
        · exact case5 x xs y ys i j h h2 (ih2 _ _)
theorem pr_at (a b : List α) (i j : Nat) (hi : i < a.length) (hj : j < b.length) :
    pr (a.drop i) (b.drop j) i j = if a[i] = b[j] then (i, j) :: pr (a.drop (i + 1)) (b.drop (j + 1)) (i + 1) (j + 1)
      else if tl (a.drop i) (b.drop (j + 1)) ≤ tl (a.drop (i + 1)) (b.drop j) then pr (a.drop (i + 1)) (b.drop j) (i + 1) j else pr (a.drop i) (b.drop (j + 1)) i (j + 1) := by
  rw [List.drop_eq_getElem_cons hi, List.drop_eq_getElem_cons hj, pr_cons]
theorem pr_end (a b : List α) (i j : Nat) (h : ¬ (i < a.length ∧ j < b.length)) : pr (a.drop i) (b.drop j) i j = [] := by
  rcases Nat.lt_or_ge i a.length with h1 | h1
  · rw [List.drop_eq_nil_of_le (show b.length ≤ j by omega), pr_nil']
  · rw [List.drop_eq_nil_of_le h1, pr_nil]

theorem pr_length (a b : List α) (i j : Nat) : (pr a b i j).length = tl a b := by
  induction a, b, i, j using pr_ind with
  | case1 => rfl
  | case2 => rfl
  | case3 xs x ys i j ih => rw [pr_cons, if_pos rfl, tl_cons, if_pos rfl, List.length_cons, ih]
  | case4 x xs y ys i j h h2 ih => rw [pr_cons, if_neg h, if_pos h2, tl_cons, if_neg h, ih]; omega
  | case5 x xs y ys i j h h2 ih => rw [pr_cons, if_neg h, if_neg h2, tl_cons, if_neg h, ih]; omega
theorem pr_map {β : Type} [DecidableEq β] (f : α → β) (hf : ∀ x y, f x = f y → x = y) (a b : List α) (i j : Nat) : pr (a.map f) (b.map f) i j = pr a b i j := by
  induction a, b, i, j using pr_ind with
  | case1 => rw [List.map_nil, pr_nil, pr_nil]
  | case2 => rw [List.map_nil, pr_nil', pr_nil']
  | case3 xs x ys i j ih => rw [List.map_cons, List.map_cons, pr_cons, if_pos rfl, ih, pr_cons, if_pos rfl]
  | case4 x xs y ys i j h h2 ih =>
    have e1 := tl_map f hf xs (y :: ys)
    have e2 := tl_map f hf (x :: xs) ys
    rw [List.map_cons] at e1 e2
    rw [List.map_cons, List.map_cons, pr_cons, if_neg (fun e => h (hf _ _ e)), if_pos (by rw [e1, e2]; exact h2), pr_cons x y, if_neg h, if_pos h2]
    rw [List.map_cons] at ih
    exact ih
  | case5 x xs y ys i j h h2 ih =>
    have e1 := tl_map f hf xs (y :: ys)
    have e2 := tl_map f hf (x :: xs) ys
    rw [List.map_cons] at e1 e2
    rw [List.map_cons, List.map_cons, pr_cons, if_neg (fun e => h (hf _ _ e)), if_neg (by rw [e1, e2]; exact h2), pr_cons x y, if_neg h, if_neg h2]
    rw [List.map_cons] at ih
    exact ih

/-- Pairs that rise, from i and j on, below n and m. -/
def Inc (n m : Nat) : Nat → Nat → List (Nat × Nat) → Prop
  | i, j, [] => i ≤ n ∧ j ≤ m
  | i, j, p :: ps => i ≤ p.1 ∧ j ≤ p.2 ∧ p.1 < n ∧ p.2 < m ∧ Inc n m (p.1 + 1) (p.2 + 1) ps
theorem Inc.less {n m i j i' j' : Nat} {ps : List (Nat × Nat)} (h : Inc n m i j ps) (hi : i' ≤ i) (hj : j' ≤ j) : Inc n m i' j' ps := by
  cases ps with
  | nil => exact ⟨by have := h.1; omega, by have := h.2; omega⟩
  | cons p ps => obtain ⟨h1, h2, h3⟩ := h; exact ⟨by omega, by omega, h3⟩
theorem Inc.le {n m i j : Nat} {ps : List (Nat × Nat)} (h : Inc n m i j ps) : i ≤ n ∧ j ≤ m := by
  cases ps with
  | nil => exact h
  | cons p ps => obtain ⟨h1, h2, h3, h4, _⟩ := h; omega
theorem pr_inc (a b : List α) (i j : Nat) : Inc (i + a.length) (j + b.length) i j (pr a b i j) := by
  induction a, b, i, j using pr_ind with
  | case1 => exact ⟨by omega, by omega⟩
  | case2 => exact ⟨by omega, by omega⟩
  | case3 xs x ys i j ih =>
    rw [pr_cons, if_pos rfl]
    refine ⟨Nat.le_refl _, Nat.le_refl _, by simp, by simp, ?_⟩
    simp only [List.length_cons]
    rw [show i + (xs.length + 1) = i + 1 + xs.length by omega, show j + (ys.length + 1) = j + 1 + ys.length by omega]
    exact ih
  | case4 x xs y ys i j h h2 ih =>
    rw [pr_cons, if_neg h, if_pos h2]
    rw [show i + 1 + xs.length = i + (x :: xs).length by simp; omega] at ih
    exact ih.less (by omega) (Nat.le_refl _)
  | case5 x xs y ys i j h h2 ih =>
    rw [pr_cons, if_neg h, if_neg h2]
    rw [show j + 1 + ys.length = j + (y :: ys).length by simp; omega] at ih
    exact ih.less (Nat.le_refl _) (by omega)
/-- Each pair is of like ones. -/
theorem pr_like (a b : List α) (i j : Nat) : ∀ p ∈ pr a b i j, i ≤ p.1 ∧ j ≤ p.2 ∧ ∃ x, a[p.1 - i]? = some x ∧ b[p.2 - j]? = some x := by
  induction a, b, i, j using pr_ind with
  | case1 => simp [pr_nil]
  | case2 => simp [pr_nil']
  | case3 xs x ys i j ih =>
    intro p hp
    rw [pr_cons, if_pos rfl] at hp
    rcases List.mem_cons.1 hp with rfl | hp
    · exact ⟨Nat.le_refl _, Nat.le_refl _, x, by simp, by simp⟩
    · obtain ⟨h1, h2, z, h3, h4⟩ := ih p hp
      refine ⟨by omega, by omega, z, ?_, ?_⟩
      · rw [show p.1 - i = (p.1 - (i + 1)) + 1 by omega, List.getElem?_cons_succ]; exact h3
      · rw [show p.2 - j = (p.2 - (j + 1)) + 1 by omega, List.getElem?_cons_succ]; exact h4
  | case4 x xs y ys i j h h2 ih =>
    intro p hp
    rw [pr_cons, if_neg h, if_pos h2] at hp
    obtain ⟨h1, h2, z, h3, h4⟩ := ih p hp
    refine ⟨by omega, by omega, z, ?_, h4⟩
    rw [show p.1 - i = (p.1 - (i + 1)) + 1 by omega, List.getElem?_cons_succ]; exact h3
  | case5 x xs y ys i j h h2 ih =>
    intro p hp
    rw [pr_cons, if_neg h, if_neg h2] at hp
    obtain ⟨h1, h2, z, h3, h4⟩ := ih p hp
    refine ⟨by omega, by omega, z, h3, ?_⟩
    rw [show p.2 - j = (p.2 - (j + 1)) + 1 by omega, List.getElem?_cons_succ]; exact h4
theorem pr_head (h a b : List α) (i j : Nat) : pr (h ++ a) (h ++ b) i j = (List.range h.length).map (fun k => (i + k, j + k)) ++ pr a b (i + h.length) (j + h.length) := by
  induction h generalizing i j with
  | nil => simp
  | cons x h ih =>
    rw [List.cons_append, List.cons_append, pr_cons, if_pos rfl, ih, List.length_cons, List.range_succ_eq_map]
    simp [List.map_map, Function.comp_def, Nat.add_assoc, Nat.add_comm 1]

/-- How many pairs stand one behind the other. -/
def rn : List (Nat × Nat) → Nat → Nat → Nat
  | [], _, _ => 0
  | p :: ps, i, j => if p = (i, j) then rn ps (i + 1) (j + 1) + 1 else 0
theorem rn_le (ps : List (Nat × Nat)) : ∀ i j, rn ps i j ≤ ps.length := by
  induction ps with
  | nil => intro i j; exact Nat.le_refl _
  | cons p ps ih => intro i j; unfold rn; split <;> simp; exact ih _ _
/-- Walked one by one. -/
theorem rn_at (ps : List (Nat × Nat)) (i j k : Nat) (hk : k < ps.length) : rn (ps.drop k) (i + k) (j + k) = if ps[k] = (i + k, j + k) then rn (ps.drop (k + 1)) (i + (k + 1)) (j + (k + 1)) + 1 else 0 := by
  rw [List.drop_eq_getElem_cons hk]; rfl
theorem rn_get : ∀ (ps : List (Nat × Nat)) (i j k : Nat), k < rn ps i j → ps[k]? = some (i + k, j + k)
  | [], i, j, k, h => by simp [rn] at h
  | p :: ps, i, j, k, h => by
    unfold rn at h
    split at h
    · rename_i e
      cases k with
      | zero => simp [e]
      | succ k => rw [List.getElem?_cons_succ, rn_get ps (i + 1) (j + 1) k (by omega)]; simp [Nat.add_assoc, Nat.add_comm 1]
    · omega

theorem rn_stop : ∀ (ps : List (Nat × Nat)) (i j : Nat) (h : rn ps i j < ps.length), ps[rn ps i j] ≠ (i + rn ps i j, j + rn ps i j)
  | [], i, j, h => by simp at h
  | p :: ps, i, j, h => by
    by_cases e : p = (i, j)
    · have hr : rn (p :: ps) i j = rn ps (i + 1) (j + 1) + 1 := by
        show (if p = (i, j) then rn ps (i + 1) (j + 1) + 1 else 0) = _
        rw [if_pos e]
      have h2 : rn ps (i + 1) (j + 1) < ps.length := by rw [hr] at h; simpa using h
      have := rn_stop ps (i + 1) (j + 1) h2
      simp only [hr, List.getElem_cons_succ]
      rw [show i + (rn ps (i + 1) (j + 1) + 1) = i + 1 + rn ps (i + 1) (j + 1) by omega, show j + (rn ps (i + 1) (j + 1) + 1) = j + 1 + rn ps (i + 1) (j + 1) by omega]
      exact this
    · have hr : rn (p :: ps) i j = 0 := by
        show (if p = (i, j) then rn ps (i + 1) (j + 1) + 1 else 0) = _
        rw [if_neg e]
      simp only [hr, List.getElem_cons_zero]
      exact e

/-- Where the next pair stands. -/
def nx (ps : List (Nat × Nat)) (n m : Nat) : Nat × Nat := ps.headD (n, m)

/-- The steps. -/
def st : Nat → List (Nat × Nat) → Nat → Nat → Nat → Nat → List (Nat × Nat × Nat)
  | 0, _, _, _, _, _ => []
  | f + 1, ps, i, j, n, m => if i < n ∨ j < m then (rn ps i j, (nx (ps.drop (rn ps i j)) n m).1 - (i + rn ps i j), (nx (ps.drop (rn ps i j)) n m).2 - (j + rn ps i j)) :: st f (ps.drop (rn ps i j)) (nx (ps.drop (rn ps i j)) n m).1 (nx (ps.drop (rn ps i j)) n m).2 n m else []

theorem st_done (f : Nat) (ps : List (Nat × Nat)) (i j n m : Nat) (h : ¬ (i < n ∨ j < m)) : st f ps i j n m = [] := by
  cases f with
  | zero => rfl
  | succ f => unfold st; rw [if_neg h]

theorem Inc.run {n m : Nat} : ∀ {ps : List (Nat × Nat)} {i j : Nat}, Inc n m i j ps → Inc n m (i + rn ps i j) (j + rn ps i j) (ps.drop (rn ps i j))
  | [], i, j, h => h
  | p :: ps, i, j, h => by
    unfold rn
    split
    · rename_i e
      obtain ⟨h1, h2, h3, h4, h5⟩ := h
      rw [e] at h5
      have := Inc.run h5
      rw [List.drop_succ_cons, show i + (rn ps (i + 1) (j + 1) + 1) = i + 1 + rn ps (i + 1) (j + 1) by omega, show j + (rn ps (i + 1) (j + 1) + 1) = j + 1 + rn ps (i + 1) (j + 1) by omega]
      exact this
    · exact h
/-- Behind a step: nearer the ends. -/
theorem Inc.next {n m i j : Nat} {ps : List (Nat × Nat)} (h : Inc n m i j ps) (hl : i < n ∨ j < m) :
    let s := rn ps i j
    let q := nx (ps.drop s) n m
    i + s ≤ q.1 ∧ j + s ≤ q.2 ∧ q.1 ≤ n ∧ q.2 ≤ m ∧ Inc n m q.1 q.2 (ps.drop s) ∧ (n - q.1) + (m - q.2) < (n - i) + (m - j) := by
  intro s q
  have hr : Inc n m (i + s) (j + s) (ps.drop s) := h.run
  have hle := hr.le
  cases hd : ps.drop s with
  | nil =>
    have hq : q = (n, m) := by show nx (ps.drop s) n m = _; rw [hd]; rfl
    rw [hq]
    exact ⟨hle.1, hle.2, Nat.le_refl _, Nat.le_refl _, ⟨Nat.le_refl _, Nat.le_refl _⟩, by simp only; omega⟩
  | cons p r =>
    have hq : q = p := by show nx (ps.drop s) n m = _; rw [hd]; rfl
    rw [hd] at hr
    rw [hq]
    obtain ⟨h1, h2, h3, h4, h5⟩ := hr
    refine ⟨h1, h2, by omega, by omega, ⟨Nat.le_refl _, Nat.le_refl _, h3, h4, h5⟩, ?_⟩
    by_cases h0 : s = 0
    · have : p ≠ (i, j) := by
        intro e
        have h6 : ps = p :: r := by rw [h0] at hd; exact hd
        have h7 : s = rn ps i j := rfl
        rw [h6] at h7
        unfold rn at h7
        rw [if_pos e] at h7
        omega
      have : p.1 ≠ i ∨ p.2 ≠ j := by
        by_cases e : p.1 = i
        · exact .inr (fun e2 => this (by rw [← e, ← e2]))
        · exact .inl e
      omega
    · omega

/-- Their sums, and what they are. -/
theorem st_sum : ∀ (f : Nat) (ps : List (Nat × Nat)) (i j n m : Nat), Inc n m i j ps → (n - i) + (m - j) ≤ f →
    ((st f ps i j n m).map (·.1)).sum = ps.length ∧ i + ((st f ps i j n m).map (·.1)).sum + ((st f ps i j n m).map (·.2.1)).sum = n ∧ j + ((st f ps i j n m).map (·.1)).sum + ((st f ps i j n m).map (·.2.2)).sum = m
  | 0, ps, i, j, n, m, h, hf => by
    have hle := h.le
    cases ps with
    | nil => simp [st]; omega
    | cons p ps => obtain ⟨h1, h2, h3, h4, _⟩ := h; omega
  | f + 1, ps, i, j, n, m, h, hf => by
    have hle := h.le
    by_cases hl : i < n ∨ j < m
    · obtain ⟨g1, g2, g3, g4, g5, g6⟩ := h.next hl
      have ih := st_sum f _ _ _ n m g5 (by omega)
      unfold st
      rw [if_pos hl]
      simp only [List.map_cons, List.sum_cons]
      have hd : (ps.drop (rn ps i j)).length = ps.length - rn ps i j := List.length_drop
      have := rn_le ps i j
      omega
    · rw [st_done _ _ _ _ _ _ hl]
      cases ps with
      | nil => simp; omega
      | cons p ps => obtain ⟨h1, h2, h3, h4, _⟩ := h; omega

/-- No step but the first takes none; none but the last leaves out and puts in none. -/
theorem st_shape : ∀ (f : Nat) (ps : List (Nat × Nat)) (i j n m : Nat), Inc n m i j ps → (n - i) + (m - j) ≤ f →
    (∀ k s, (st f ps i j n m)[k + 1]? = some s → 0 < s.1) ∧ (∀ k s, (st f ps i j n m)[k]? = some s → k + 1 < (st f ps i j n m).length → 0 < s.2.1 + s.2.2)
  | 0, ps, i, j, n, m, h, hf => by simp [st]
  | f + 1, ps, i, j, n, m, h, hf => by
    by_cases hl : i < n ∨ j < m
    · obtain ⟨g1, g2, g3, g4, g5, g6⟩ := h.next hl
      obtain ⟨ih1, ih2⟩ := st_shape f _ _ _ n m g5 (by omega)
      unfold st
      rw [if_pos hl]
      refine ⟨fun k s hs => ?_, fun k s hs hk => ?_⟩
      · rw [List.getElem?_cons_succ] at hs
        cases k with
        | succ k => exact ih1 k s hs
        | zero =>
          -- the next one begins at a pair
          cases f with
          | zero => simp [st] at hs
          | succ f =>
            unfold st at hs
            split at hs
            · rename_i hl2
              cases hd : ps.drop (rn ps i j) with
              | nil =>
                rw [hd] at hl2
                simp [nx] at hl2
              | cons p r =>
                rw [hd] at hs
                simp [nx] at hs
                rw [← hs]
                simp [rn]
            · simp at hs
      · cases k with
        | succ k => exact ih2 k s (by simpa using hs) (by simpa using hk)
        | zero =>
          simp at hs
          subst hs
          simp only
          simp at hk
          cases hd : ps.drop (rn ps i j) with
          | nil =>
            rw [hd] at hk
            rw [st_done _ _ _ _ _ _ (by simp [nx])] at hk
            simp at hk
          | cons p r =>
            have hrun := h.run
            rw [hd] at hrun
            obtain ⟨h1, h2, _⟩ := hrun
            simp only [nx, List.headD_cons]
            have hne : p ≠ (i + rn ps i j, j + rn ps i j) := by
              intro e
              have hk2 : rn ps i j < ps.length := by
                have := congrArg List.length hd
                simp at this; omega
              have hz := rn_stop ps i j hk2
              have hp : ps[rn ps i j] = p := by
                have := List.drop_eq_getElem_cons hk2
                rw [hd] at this
                exact (List.cons.inj this).1.symm
              exact hz (hp.trans e)
            have : p.1 ≠ i + rn ps i j ∨ p.2 ≠ j + rn ps i j := by
              by_cases e : p.1 = i + rn ps i j
              · exact .inr (fun e2 => hne (by rw [← e, ← e2]))
              · exact .inl e
            omega
    · rw [st_done _ _ _ _ _ _ hl]
      simp
/-- What comes of steps. -/
def app : List α → List α → List (Int × Int × Int) → Option (List α)
  | a, b, [] => if a = [] ∧ b = [] then some [] else none
  | a, b, (s, o, n) :: r =>
    if 0 ≤ s ∧ 0 ≤ o ∧ 0 ≤ n ∧ s ≤ a.length ∧ s ≤ b.length ∧ o ≤ (a.length : Int) - s ∧ n ≤ (b.length : Int) - s ∧ a.take s.toNat = b.take s.toNat then
      (app (a.drop (s.toNat + o.toNat)) (b.drop (s.toNat + n.toNat)) r).map (fun t => a.take s.toNat ++ ((b.drop s.toNat).take n.toNat ++ t))
    else none

abbrev up (s : Nat × Nat × Nat) : Int × Int × Int := (s.1, s.2.1, s.2.2)

theorem st_app (a b : List α) : ∀ (f : Nat) (ps : List (Nat × Nat)) (i j : Nat), Inc a.length b.length i j ps → (∀ p ∈ ps, ∃ x, a[p.1]? = some x ∧ b[p.2]? = some x) → (a.length - i) + (b.length - j) ≤ f →
    app (a.drop i) (b.drop j) ((st f ps i j a.length b.length).map up) = some (b.drop j)
  | 0, ps, i, j, h, hp, hf => by
    have hle := h.le
    rw [List.drop_eq_nil_of_le (show a.length ≤ i by omega), List.drop_eq_nil_of_le (show b.length ≤ j by omega)]
    simp [st, app]
  | f + 1, ps, i, j, h, hp, hf => by
    have hle := h.le
    by_cases hl : i < a.length ∨ j < b.length
    · obtain ⟨g1, g2, g3, g4, g5, g6⟩ := h.next hl
      have ih := st_app a b f _ _ _ g5 (fun p h => hp p (List.mem_of_mem_drop h)) (by omega)
      have hget := rn_get ps i j
      unfold st
      rw [if_pos hl]
      generalize hs : rn ps i j = s at *
      generalize hq : nx (ps.drop s) a.length b.length = q at *
      have htake : (a.drop i).take s = (b.drop j).take s := by
        refine List.ext_getElem? fun k => ?_
        rw [List.getElem?_take, List.getElem?_take]
        split
        · rename_i hk
          obtain ⟨x, h1, h2⟩ := hp _ (List.mem_of_getElem? (hget k hk))
          rw [List.getElem?_drop, List.getElem?_drop, h1, h2]
        · rfl
      rw [List.map_cons]
      unfold app
      rw [if_pos]
      · simp only [Int.toNat_natCast, List.drop_drop]
        rw [show i + (s + (q.1 - (i + s))) = q.1 by omega, show j + (s + (q.2 - (j + s))) = q.2 by omega, ih, Option.map_some]
        congr 1
        rw [htake]
        have e1 : ((b.drop (j + s)).take (q.2 - (j + s)) ++ b.drop q.2) = b.drop (j + s) := by
          have := List.take_append_drop (q.2 - (j + s)) (b.drop (j + s))
          rw [List.drop_drop, show j + s + (q.2 - (j + s)) = q.2 by omega] at this
          exact this
        rw [e1, ← List.drop_drop]
        exact List.take_append_drop s (b.drop j)
      · simp only [Int.toNat_natCast, List.length_drop]
        refine ⟨by omega, by omega, by omega, by omega, by omega, by omega, by omega, htake⟩
    · rw [st_done _ _ _ _ _ _ hl, List.drop_eq_nil_of_le (show a.length ≤ i by omega), List.drop_eq_nil_of_le (show b.length ≤ j by omega)]
      simp [app]

/-- Steps, as numbers. -/
def stp (a b : List α) : List (Int × Int × Int) := (st (a.length + b.length) (pr a b 0 0) 0 0 a.length b.length).map up
theorem st_length : ∀ (f : Nat) (ps : List (Nat × Nat)) (i j n m : Nat), (st f ps i j n m).length ≤ f
  | 0, _, _, _, _, _ => Nat.le_refl _
  | f + 1, ps, i, j, n, m => by
    unfold st
    split
    · rw [List.length_cons]; exact Nat.succ_le_succ (st_length f _ _ _ _ _)
    · exact Nat.zero_le _
theorem stp_length (a b : List α) : (stp a b).length ≤ a.length + b.length := by unfold stp; rw [List.length_map]; exact st_length _ _ _ _ _ _
theorem pr_inc0 (a b : List α) : Inc a.length b.length 0 0 (pr a b 0 0) := by
  have := pr_inc a b 0 0
  rwa [Nat.zero_add, Nat.zero_add] at this
theorem stp_app (a b : List α) : app a b (stp a b) = some b := by
  have := st_app a b (a.length + b.length) (pr a b 0 0) 0 0 (pr_inc0 a b) (fun p hp => by
    obtain ⟨_, _, x, h1, h2⟩ := pr_like a b 0 0 p hp
    exact ⟨x, h1, h2⟩) (by omega)
  rw [List.drop_zero, List.drop_zero] at this
  exact this
theorem st_step (f : Nat) (ps : List (Nat × Nat)) (i j n m : Nat) (h : i < n ∨ j < m) (hf : 0 < f) :
    st f ps i j n m = (rn ps i j, (nx (ps.drop (rn ps i j)) n m).1 - (i + rn ps i j), (nx (ps.drop (rn ps i j)) n m).2 - (j + rn ps i j)) :: st (f - 1) (ps.drop (rn ps i j)) (nx (ps.drop (rn ps i j)) n m).1 (nx (ps.drop (rn ps i j)) n m).2 n m := by
  obtain ⟨g, rfl⟩ : ∃ g, f = g + 1 := ⟨f - 1, by omega⟩
  conv => lhs; unfold st
  rw [if_pos h]
  rfl
end

end Go.DiffLib

end
section
-- RLib
namespace Go.TreeLib
open Go

/-! ### Bytes in order -/
theorem bl_irrefl : ∀ x : List UInt8, Op.bytesLess x x = false
  | [] => rfl
  | a :: x => by
    have ih := bl_irrefl x
    unfold Op.bytesLess
    simp [ih]
theorem bl_trans : ∀ x y z : List UInt8, Op.bytesLess x y = true → Op.bytesLess y z = true → Op.bytesLess x z = true
  | _, [], _, h, _ => by unfold Op.bytesLess at h; cases h
  | _, _ :: _, [], _, h => by unfold Op.bytesLess at h; cases h
  | [], _ :: _, _ :: _, _, _ => by unfold Op.bytesLess; rfl
  | a :: x, b :: y, c :: z, h1, h2 => by
    have ih := bl_trans x y z
    unfold Op.bytesLess at h1 h2 ⊢
    simp only [Bool.or_eq_true, Bool.and_eq_true, decide_eq_true_eq, beq_iff_eq] at h1 h2 ⊢
    rcases h1 with h1 | ⟨rfl, h1⟩
    · rcases h2 with h2 | ⟨rfl, h2⟩
      · exact .inl (UInt8.lt_trans h1 h2)
      · exact .inl h1
    · rcases h2 with h2 | ⟨rfl, h2⟩
      · exact .inl h2
      · exact .inr ⟨rfl, ih h1 h2⟩
theorem bl_tri : ∀ x y : List UInt8, Op.bytesLess x y = false → Op.bytesLess y x = false → x = y
  | [], [], _, _ => rfl
  | [], _ :: _, h, _ => by unfold Op.bytesLess at h; cases h
  | _ :: _, [], _, h => by unfold Op.bytesLess at h; cases h
  | a :: x, b :: y, h1, h2 => by
    have ih := bl_tri x y
    unfold Op.bytesLess at h1 h2
    simp only [Bool.or_eq_false_iff, decide_eq_false_iff_not] at h1 h2
    have hab : a = b := UInt8.le_antisymm (UInt8.not_lt.1 h2.1) (UInt8.not_lt.1 h1.1)
    subst hab
    rw [ih (by simpa using h1.2) (by simpa using h2.2)]

def lt (x y : ByteArray) : Bool := Op.bytesLess x.toList y.toList
theorem toList_inj {x y : ByteArray} (h : x.toList = y.toList) : x = y := by
  rw [Go.ByteArray.toList_eq, Go.ByteArray.toList_eq] at h
  cases x; cases y
  exact congrArg ByteArray.mk (Array.toList_inj.1 h)
theorem lt_irrefl (x : ByteArray) : lt x x = false := bl_irrefl _
theorem lt_trans {x y z : ByteArray} (h1 : lt x y = true) (h2 : lt y z = true) : lt x z = true := bl_trans _ _ _ h1 h2
theorem lt_tri {x y : ByteArray} (h1 : lt x y = false) (h2 : lt y x = false) : x = y := toList_inj (bl_tri _ _ h1 h2)
theorem lt_asymm {x y : ByteArray} (h : lt x y = true) : lt y x = false := by
  cases h2 : lt y x with
  | false => rfl
  | true => have := lt_trans h h2; rw [lt_irrefl] at this; cases this
theorem lt_ne {x y : ByteArray} (h : lt x y = true) : x ≠ y := by rintro rfl; rw [lt_irrefl] at h; cases h
theorem le_trans {x y z : ByteArray} (h1 : lt y x = false) (h2 : lt z y = false) : lt z x = false := by
  cases h : lt z x with
  | false => rfl
  | true =>
    cases h3 : lt x y with
    | true => rw [lt_trans h h3] at h2; cases h2
    | false => rw [lt_tri h3 h1, h2] at h; cases h
theorem lt_le {x y z : ByteArray} (h1 : lt x y = true) (h2 : lt z y = false) : lt x z = true := by
  cases h3 : lt y z with
  | true => exact lt_trans h1 h3
  | false => rw [← lt_tri h3 h2]; exact h1

/-! ### Files by rising paths -/
abbrev Fl := ByteArray × ByteArray
/-- No path ahead of a lesser one. -/
def Up (l : List Fl) : Prop := l.Pairwise (fun a b => lt b.1 a.1 = false)
def fil (p : ByteArray) (l : List Fl) : List Fl := l.filter (fun f => decide (f.1 = p))
theorem fil_app (p : ByteArray) (l m : List Fl) : fil p (l ++ m) = fil p l ++ fil p m := by unfold fil; rw [List.filter_append]
theorem fil_cons (p : ByteArray) (f : Fl) (l : List Fl) : fil p (f :: l) = if f.1 = p then f :: fil p l else fil p l := by
  unfold fil
  by_cases h : f.1 = p
  · rw [if_pos h, List.filter_cons_of_pos (by simpa using h)]
  · rw [if_neg h, List.filter_cons_of_neg (by simpa using h)]
theorem fil_nil_of {p : ByteArray} {l : List Fl} (h : ∀ f ∈ l, f.1 ≠ p) : fil p l = [] := by
  unfold fil
  rw [List.filter_eq_nil_iff]
  intro f hf
  simpa using h f hf
theorem mem_fil {p : ByteArray} {l : List Fl} {f : Fl} : f ∈ fil p l ↔ f ∈ l ∧ f.1 = p := by unfold fil; rw [List.mem_filter]; simp

/-- A list in order is known by what it holds at each path. -/
theorem up_unique : ∀ {l m : List Fl}, Up l → Up m → (∀ p, fil p l = fil p m) → l = m
  | [], [], _, _, _ => rfl
  | [], g :: m, _, _, h => by
    have := h g.1
    rw [fil_cons, if_pos rfl] at this
    cases this
  | f :: l, [], _, _, h => by
    have := h f.1
    rw [fil_cons, if_pos rfl] at this
    cases this
  | f :: l, g :: m, hl, hm, h => by
    unfold Up at hl hm
    rw [List.pairwise_cons] at hl hm
    have hfg : f.1 = g.1 := by
      have hf : f ∈ g :: m := by
        have := h f.1
        rw [fil_cons, if_pos rfl] at this
        exact (mem_fil.1 (this ▸ List.mem_cons_self)).1
      have hg : g ∈ f :: l := by
        have := h g.1
        rw [fil_cons g.1 g, if_pos rfl] at this
        exact (mem_fil.1 (this.symm ▸ List.mem_cons_self)).1
      have a1 : lt f.1 g.1 = false := by
        rcases List.mem_cons.1 hf with e | hf
        · rw [e, lt_irrefl]
        · exact hm.1 f hf
      have a2 : lt g.1 f.1 = false := by
        rcases List.mem_cons.1 hg with e | hg
        · rw [e, lt_irrefl]
        · exact hl.1 g hg
      exact lt_tri a1 a2
    have he := h f.1
    rw [fil_cons, if_pos rfl, fil_cons, if_pos hfg.symm] at he
    obtain ⟨rfl, _⟩ := List.cons.inj he
    rw [up_unique hl.2 hm.2 (fun p => by
      have := h p
      rw [fil_cons, fil_cons] at this
      split at this
      · exact (List.cons.inj this).2
      · exact this)]

/-- A file put in behind all that are not greater. -/
def ins (f : Fl) : List Fl → List Fl
  | [] => [f]
  | g :: r => if lt f.1 g.1 = true then f :: g :: r else g :: ins f r
theorem mem_ins {f x : Fl} : ∀ {l : List Fl}, x ∈ ins f l ↔ x = f ∨ x ∈ l
  | [] => by simp [ins]
  | g :: r => by
    unfold ins
    split
    · simp
    · rw [List.mem_cons, mem_ins, List.mem_cons]
      constructor
      · rintro (h | h | h)
        · exact .inr (.inl h)
        · exact .inl h
        · exact .inr (.inr h)
      · rintro (h | h | h)
        · exact .inr (.inl h)
        · exact .inl h
        · exact .inr (.inr h)
theorem ins_up {f : Fl} : ∀ {l : List Fl}, Up l → Up (ins f l)
  | [], _ => by unfold ins Up; simp
  | g :: r, h => by
    unfold Up at h
    rw [List.pairwise_cons] at h
    unfold ins
    split
    · rename_i hlt
      unfold Up
      rw [List.pairwise_cons, List.pairwise_cons]
      refine ⟨fun x hx => ?_, h⟩
      rcases List.mem_cons.1 hx with e | hx
      · rw [e]; exact lt_asymm hlt
      · exact le_trans (lt_asymm hlt) (h.1 x hx)
    · rename_i hlt
      unfold Up
      rw [List.pairwise_cons]
      refine ⟨fun x hx => ?_, ins_up h.2⟩
      rcases mem_ins.1 hx with e | hx
      · rw [e]; simpa using hlt
      · exact h.1 x hx
theorem ins_fil {f : Fl} (p : ByteArray) : ∀ {l : List Fl}, Up l → fil p (ins f l) = fil p l ++ fil p [f]
  | [], _ => by unfold ins; simp [fil]
  | g :: r, h => by
    unfold Up at h
    rw [List.pairwise_cons] at h
    unfold ins
    split
    · rename_i hlt
      by_cases e : f.1 = p
      · have hn : fil p (g :: r) = [] := fil_nil_of (fun x hx he => by
          rcases List.mem_cons.1 hx with rfl | hx
          · rw [he, e, lt_irrefl] at hlt; cases hlt
          · have := h.1 x hx
            rw [he, ← e, hlt] at this
            cases this)
        rw [fil_cons, hn]
        simp [fil, e]
      · rw [fil_cons, if_neg e]
        simp [fil, e]
    · rw [fil_cons, fil_cons, ins_fil p h.2]
      split <;> simp
theorem ins_length (f : Fl) : ∀ l : List Fl, (ins f l).length = l.length + 1
  | [] => rfl
  | g :: r => by
    unfold ins
    split
    · rfl
    · rw [List.length_cons, ins_length f r, List.length_cons]
/-- All in order, those of one path as they stood. -/
def isort (l : List Fl) : List Fl := l.foldl (fun out f => ins f out) []
theorem isort_snoc (l : List Fl) (f : Fl) : isort (l ++ [f]) = ins f (isort l) := by unfold isort; rw [List.foldl_append]; rfl
theorem fold_up : ∀ (l out : List Fl), Up out → Up (l.foldl (fun out f => ins f out) out) ∧ ∀ p, fil p (l.foldl (fun out f => ins f out) out) = fil p out ++ fil p l
  | [], out, h => ⟨h, fun p => by simp [fil]⟩
  | f :: l, out, h => by
    obtain ⟨h1, h2⟩ := fold_up l (ins f out) (ins_up h)
    refine ⟨h1, fun p => ?_⟩
    rw [List.foldl_cons, h2, ins_fil p h, List.append_assoc, ← fil_app]
    rfl
theorem isort_up (l : List Fl) : Up (isort l) := (fold_up l [] List.Pairwise.nil).1
theorem isort_fil (p : ByteArray) (l : List Fl) : fil p (isort l) = fil p l := by
  have := (fold_up l [] List.Pairwise.nil).2 p
  rw [show fil p [] = [] from rfl, List.nil_append] at this
  exact this
theorem isort_length (l : List Fl) : (isort l).length = l.length := by
  have : ∀ (l out : List Fl), (l.foldl (fun out f => ins f out) out).length = out.length + l.length := by
    intro l
    induction l with
    | nil => intro out; rfl
    | cons f l ih => intro out; rw [List.foldl_cons, ih, ins_length, List.length_cons]; omega
  have := this l []
  rw [List.length_nil, Nat.zero_add] at this
  exact this
theorem isort_of {l m : List Fl} (hm : Up m) (h : ∀ p, fil p l = fil p m) : isort l = m := up_unique (isort_up l) hm (fun p => by rw [isort_fil, h])
theorem isort_self {l : List Fl} (h : Up l) : isort l = l := isort_of h (fun _ => rfl)

/-! ### drop, put, get -/
def drop (t : List Fl) (p : ByteArray) : List Fl := t.filter (fun f => !decide (f.1 = p))
def put (t : List Fl) (p d : ByteArray) : List Fl := isort (drop t p ++ [(p, d)])
def get (t : List Fl) (p : ByteArray) : Option ByteArray := (fil p t).head?.map (·.2)
theorem drop_fil_self (t : List Fl) (p : ByteArray) : fil p (drop t p) = [] := fil_nil_of (fun f hf => by
  have := (List.mem_filter.1 hf).2
  simpa using this)
theorem drop_fil {p q : ByteArray} (h : q ≠ p) (t : List Fl) : fil q (drop t p) = fil q t := by
  unfold fil drop
  rw [List.filter_filter]
  refine List.filter_congr (fun f _ => ?_)
  by_cases e : f.1 = q
  · simp [e, h]
  · simp [e]
theorem mem_drop {t : List Fl} {p : ByteArray} {f : Fl} : f ∈ drop t p ↔ f ∈ t ∧ f.1 ≠ p := by unfold drop; rw [List.mem_filter]; simp
theorem drop_sub (t : List Fl) (p : ByteArray) : List.Sublist (drop t p) t := List.filter_sublist
theorem drop_up {t : List Fl} (h : Up t) (p : ByteArray) : Up (drop t p) := h.sublist (drop_sub t p)
theorem drop_none {t : List Fl} {p : ByteArray} (h : ∀ f ∈ t, f.1 ≠ p) : drop t p = t := by
  unfold drop
  rw [List.filter_eq_self]
  intro f hf
  simpa using h f hf
theorem put_up (t : List Fl) (p d : ByteArray) : Up (put t p d) := isort_up _
theorem put_fil (t : List Fl) (p d : ByteArray) (q : ByteArray) : fil q (put t p d) = if p = q then [(p, d)] else fil q t := by
  unfold put
  rw [isort_fil, fil_app]
  by_cases e : p = q
  · subst e
    rw [drop_fil_self, if_pos rfl, fil_cons, if_pos rfl]
    rfl
  · rw [drop_fil (fun h => e h.symm), if_neg e, fil_cons, if_neg e]
    simp [fil]
theorem get_put_self (t : List Fl) (p d : ByteArray) : get (put t p d) p = some d := by unfold get; rw [put_fil, if_pos rfl]; rfl
theorem get_put_other {p q : ByteArray} (h : p ≠ q) (t : List Fl) (d : ByteArray) : get (put t p d) q = get t q := by unfold get; rw [put_fil, if_neg h]
theorem get_drop_self (t : List Fl) (p : ByteArray) : get (drop t p) p = none := by unfold get; rw [drop_fil_self]; rfl
theorem get_none {t : List Fl} {p : ByteArray} : get t p = none ↔ ∀ f ∈ t, f.1 ≠ p := by
  unfold get
  rw [Option.map_eq_none_iff, List.head?_eq_none_iff]
  constructor
  · intro h f hf e
    have : f ∈ fil p t := mem_fil.2 ⟨hf, e⟩
    rw [h] at this
    cases this
  · exact fil_nil_of
theorem drop_put {t : List Fl} (h : Up t) (p d : ByteArray) : drop (put t p d) p = drop t p := by
  refine up_unique (drop_up (put_up t p d) p) (drop_up h p) (fun q => ?_)
  by_cases e : q = p
  · subst e; rw [drop_fil_self, drop_fil_self]
  · rw [drop_fil e, drop_fil e, put_fil, if_neg (fun h => e h.symm)]
theorem put_length {t : List Fl} {p : ByteArray} (h : ∀ f ∈ t, f.1 ≠ p) (d : ByteArray) : (put t p d).length = t.length + 1 := by
  unfold put
  rw [isort_length, drop_none h]
  simp

/-! ### Lists of which no path stands twice -/
def Once (t : List Fl) : Prop := t.Pairwise (fun a b => lt a.1 b.1 = true)
theorem Once.up {t : List Fl} (h : Once t) : Up t := h.imp (fun h => lt_asymm h)
theorem Once.fil {t : List Fl} (h : Once t) {f : Fl} (hf : f ∈ t) : fil f.1 t = [f] := by
  induction t with
  | nil => cases hf
  | cons g r ih =>
    unfold Once at h
    rw [List.pairwise_cons] at h
    rcases List.mem_cons.1 hf with rfl | hr
    · rw [fil_cons, if_pos rfl, fil_nil_of (fun x hx => (lt_ne (h.1 x hx)).symm)]
    · rw [fil_cons, if_neg (lt_ne (h.1 f hr)), ih h.2 hr]
theorem Once.get {t : List Fl} (h : Once t) {f : Fl} (hf : f ∈ t) : get t f.1 = some f.2 := by unfold TreeLib.get; rw [h.fil hf]; rfl
theorem Once.put_drop {t : List Fl} (h : Once t) {f : Fl} (hf : f ∈ t) : put (drop t f.1) f.1 f.2 = t := by
  refine up_unique (put_up _ _ _) h.up (fun q => ?_)
  rw [put_fil]
  by_cases e : f.1 = q
  · subst e; rw [if_pos rfl, h.fil hf]
  · rw [if_neg e, drop_fil (fun h => e h.symm)]
theorem len_parts (p : Fl → Bool) : ∀ l : List Fl, l.length = (l.filter p).length + (l.filter (fun x => !p x)).length
  | [] => rfl
  | a :: l => by
    have ih := len_parts p l
    cases h : p a <;> simp [h] <;> omega
theorem Once.drop_length {t : List Fl} (h : Once t) {f : Fl} (hf : f ∈ t) : (drop t f.1).length + 1 = t.length := by
  have h1 := h.fil hf
  unfold TreeLib.fil at h1
  unfold drop
  have := len_parts (fun g => decide (g.1 = f.1)) t
  rw [h1] at this
  rw [this, List.length_singleton]
  omega

/-- Put in one by one, in whatever order, it is the list. -/
theorem gather_up {t : List Fl} (h : Once t) {fs : List Fl} (hp : fs.Perm t) : fs.foldl (fun out f => put out f.1 f.2) [] = t := by
  have key : ∀ (fs done out : List Fl), (done ++ fs).Perm t → out = isort done → fs.foldl (fun out f => put out f.1 f.2) out = isort (done ++ fs) := by
    intro fs
    induction fs with
    | nil => intro done out _ e; rw [List.append_nil]; exact e
    | cons f r ih =>
      intro done out hp e
      rw [List.foldl_cons]
      have hn : ∀ x ∈ out, x.1 ≠ f.1 := by
        intro x hx he
        rw [e] at hx
        have hxd : x ∈ done := by
          have : x ∈ fil x.1 (isort done) := mem_fil.2 ⟨hx, rfl⟩
          rw [isort_fil] at this
          exact (mem_fil.1 this).1
        have h1 : (fil f.1 (done ++ f :: r)).Perm (fil f.1 t) := hp.filter _
        have hft : f ∈ t := hp.subset (by simp)
        rw [h.fil hft, fil_app, fil_cons, if_pos rfl] at h1
        have hl := h1.length_eq
        have : 0 < (fil f.1 done).length := List.length_pos_of_mem (mem_fil.2 ⟨hxd, he⟩)
        simp at hl
        omega
      have e2 : put out f.1 f.2 = isort (done ++ [f]) := by
        unfold put
        rw [drop_none hn, e]
        refine up_unique (isort_up _) (isort_up _) (fun p => ?_)
        rw [isort_fil, isort_fil, fil_app, fil_app, isort_fil]
      have := ih (done ++ [f]) (put out f.1 f.2) (by rw [List.append_assoc]; exact hp) e2
      rw [this, List.append_assoc]
      rfl
  rw [key fs [] [] hp rfl, List.nil_append]
  refine isort_of h.up (fun p => ?_)
  have h1 : (fil p fs).Perm (fil p t) := hp.filter _
  by_cases hx : ∃ f ∈ t, f.1 = p
  · obtain ⟨f, hf, rfl⟩ := hx
    rw [h.fil hf] at h1 ⊢
    exact List.perm_singleton.1 h1
  · have : fil p t = [] := fil_nil_of (fun f hf e => hx ⟨f, hf, e⟩)
    rw [this] at h1 ⊢
    exact List.perm_nil.1 h1

end Go.TreeLib

end
section
-- RLib2
namespace Go.TreeLib
open Go

/-! ### Paths -/
abbrev Bs (s : ByteArray) : List UInt8 := s.data.toList
def adjB : List UInt8 → Bool
  | a :: b :: r => !(a == 47 && b == 47) && adjB (b :: r)
  | _ => true
def signB (b : UInt8) : Bool := decide (33 ≤ b) && decide (b ≤ 126)
def pathB (p : List UInt8) : Bool := decide (1 ≤ p.length) && (decide (p.length ≤ 60) && (p.head? != some 47 && (p.getLast? != some 47 && (p.all signB && adjB p))))
structure IsPath (p : List UInt8) : Prop where
  pos : 1 ≤ p.length
  len : p.length ≤ 60
  fst : p.head? ≠ some 47
  lst : p.getLast? ≠ some 47
  byt : p.all signB = true
  adj : adjB p = true
theorem pathB_iff {p : List UInt8} : pathB p = true ↔ IsPath p := by
  unfold pathB
  simp only [Bool.and_eq_true, decide_eq_true_eq, bne_iff_ne]
  exact ⟨fun ⟨h1, h2, h3, h4, h5, h6⟩ => ⟨h1, h2, h3, h4, h5, h6⟩, fun h => ⟨h.pos, h.len, h.fst, h.lst, h.byt, h.adj⟩⟩
theorem pathB_not {p : List UInt8} (h : ¬ IsPath p) : pathB p = false := by
  cases hp : pathB p with
  | false => rfl
  | true => exact absurd (pathB_iff.1 hp) h

theorem adjB_cons {a : UInt8} {q : List UInt8} (h : adjB (a :: q) = true) : adjB q = true := by
  cases q with
  | nil => rfl
  | cons b r => unfold adjB at h; exact (Bool.and_eq_true _ _ ▸ h).2
theorem adjB_app : ∀ {p : List UInt8} {c : UInt8} {q : List UInt8}, adjB p = true → adjB (c :: q) = true → (c = 47 → p.getLast? ≠ some 47) → adjB (p ++ c :: q) = true
  | [], _, _, _, h, _ => h
  | [a], c, q, _, h, hn => by
    show adjB (a :: c :: q) = true
    unfold adjB
    rw [h, Bool.and_true]
    by_cases e : c = 47
    · have := hn e
      simp at this
      simp [this]
    · simp [e]
  | a :: b :: r, c, q, h1, h2, hn => by
    have ih := adjB_app (p := b :: r) (c := c) (q := q) (adjB_cons h1) h2 (fun e => by have := hn e; rwa [List.getLast?_cons_cons] at this)
    show adjB (a :: b :: (r ++ c :: q)) = true
    unfold adjB at h1 ⊢
    rw [Bool.and_eq_true] at h1 ⊢
    exact ⟨h1.1, ih⟩
theorem adjB_put {c : UInt8} {q : List UInt8} (h : adjB q = true) (hn : c = 47 → q.head? ≠ some 47) : adjB (c :: q) = true := by
  cases q with
  | nil => rfl
  | cons b r =>
    unfold adjB
    rw [h, Bool.and_true]
    by_cases e : c = 47
    · have := hn e
      simp at this
      simp [this]
    · simp [e]
theorem adjB_not (p q : List UInt8) : adjB (p ++ 47 :: 47 :: q) = false := by
  induction p with
  | nil => rfl
  | cons a r ih =>
    cases hb : adjB (a :: (r ++ 47 :: 47 :: q)) with
    | false => exact hb
    | true => rw [adjB_cons hb] at ih; cases ih

theorem IsPath.join {p q : List UInt8} (hp : IsPath p) (hq : IsPath q) (c : UInt8) (hc : signB c = true) (hl : p.length + q.length + 1 ≤ 60) : IsPath (p ++ c :: q) := by
  have hp0 : p ≠ [] := by rintro rfl; have := hp.pos; simp at this
  have hq0 : q ≠ [] := by rintro rfl; have := hq.pos; simp at this
  refine ⟨?_, ?_, ?_, ?_, ?_, ?_⟩
  · rw [List.length_append, List.length_cons]; omega
  · rw [List.length_append, List.length_cons]; omega
  · have := hp.fst
    cases p with
    | nil => exact absurd rfl hp0
    | cons a r => exact this
  · rw [List.getLast?_append, List.getLast?_cons]
    have := hq.lst
    cases hg : q.getLast? with
    | none => rw [List.getLast?_eq_none_iff] at hg; exact absurd hg hq0
    | some x => rw [hg] at this; simpa using this
  · rw [List.all_append, List.all_cons, hp.byt, hc, hq.byt]; rfl
  · exact adjB_app hp.adj (adjB_put hq.adj (fun _ => hq.fst)) (fun _ => hp.lst)
theorem not_path_two (p q : List UInt8) : ¬ IsPath (p ++ 47 :: 47 :: q) := fun h => by have := h.adj; rw [adjB_not] at this; cases this
theorem not_path_first (p : List UInt8) : ¬ IsPath (47 :: p) := fun h => h.fst rfl
theorem not_path_last (p : List UInt8) : ¬ IsPath (p ++ [47]) := fun h => h.lst (by simp)
theorem not_path_sign {p : List UInt8} {c : UInt8} (hc : signB c = false) : ¬ IsPath (p ++ [c]) := fun h => by
  have := h.byt
  rw [List.all_append, List.all_cons, hc] at this
  simp at this

/-! ### Under -/
def under (p q : List UInt8) : Bool := decide (q.length < p.length) && (decide (p.take q.length = q) && decide (p[q.length]? = some 47))
theorem under_self (p : List UInt8) : under p p = false := by unfold under; rw [decide_eq_false (by omega)]; rfl
theorem under_app (p q : List UInt8) (c : UInt8) : under (p ++ c :: q) p = decide (c = 47) := by
  unfold under
  rw [decide_eq_true (by rw [List.length_append, List.length_cons]; omega), List.take_left', decide_eq_true rfl, List.getElem?_append_right (Nat.le_refl _), Nat.sub_self]
  · simp
  · rfl
theorem bl_app : ∀ (p : List UInt8) (c : UInt8) (q : List UInt8), Op.bytesLess p (p ++ c :: q) = true
  | [], _, _ => by unfold Op.bytesLess; rfl
  | a :: p, c, q => by
    have := bl_app p c q
    show Op.bytesLess (a :: p) (a :: (p ++ c :: q)) = true
    unfold Op.bytesLess
    rw [this]
    simp

/-! ### Trees -/
def pairB : List Fl → Bool
  | [] => true
  | f :: r => r.all (fun g => lt f.1 g.1 && !under (Bs g.1) (Bs f.1)) && pairB r
def fileB (f : Fl) : Bool := pathB (Bs f.1) && decide (f.2.size ≤ 400)
def mayB (t : List Fl) : Bool := decide (t.length ≤ 12) && (t.all fileB && pairB t)
def Apart (a b : Fl) : Prop := lt a.1 b.1 = true ∧ under (Bs b.1) (Bs a.1) = false
theorem pairB_iff : ∀ {t : List Fl}, pairB t = true ↔ t.Pairwise Apart
  | [] => by simp [pairB]
  | f :: r => by
    unfold pairB
    rw [Bool.and_eq_true, List.pairwise_cons, pairB_iff, List.all_eq_true]
    constructor
    · rintro ⟨h1, h2⟩
      exact ⟨fun g hg => by have := h1 g hg; rw [Bool.and_eq_true] at this; exact ⟨this.1, by simpa using this.2⟩, h2⟩
    · rintro ⟨h1, h2⟩
      exact ⟨fun g hg => by have := h1 g hg; rw [this.1, this.2]; rfl, h2⟩
structure IsTree (t : List Fl) : Prop where
  len : t.length ≤ 12
  file : ∀ f ∈ t, fileB f = true
  apart : t.Pairwise Apart
theorem mayB_iff {t : List Fl} : mayB t = true ↔ IsTree t := by
  unfold mayB
  simp only [Bool.and_eq_true, decide_eq_true_eq, List.all_eq_true, pairB_iff]
  exact ⟨fun ⟨h1, h2, h3⟩ => ⟨h1, h2, h3⟩, fun h => ⟨h.len, h.file, h.apart⟩⟩
theorem mayB_not {t : List Fl} (h : ¬ IsTree t) : mayB t = false := by
  cases ht : mayB t with
  | false => rfl
  | true => exact absurd (mayB_iff.1 ht) h
theorem IsTree.once {t : List Fl} (h : IsTree t) : Once t := h.apart.imp (fun h => h.1)
theorem IsTree.sub {t u : List Fl} (h : IsTree t) (hs : List.Sublist u t) : IsTree u :=
  ⟨Nat.le_trans hs.length_le h.len, fun f hf => h.file f (hs.subset hf), h.apart.sublist hs⟩
theorem IsTree.drop {t : List Fl} (h : IsTree t) (p : ByteArray) : IsTree (drop t p) := h.sub (drop_sub t p)
theorem IsTree.nil : IsTree [] := ⟨Nat.zero_le _, fun _ h => (by cases h), List.Pairwise.nil⟩
theorem IsTree.one {f : Fl} (h : fileB f = true) : IsTree [f] := ⟨by simp, fun g hg => by rw [List.mem_singleton.1 hg]; exact h, List.pairwise_singleton _ _⟩

/-! ### All paths, rising, each once -/
def UpT (l : List ByteArray) : Prop := l.Pairwise (fun a b => lt a b = true)
def insT (x : ByteArray) : List ByteArray → List ByteArray
  | [] => [x]
  | y :: r => if lt x y = true then x :: y :: r else if x = y then y :: r else y :: insT x r
def rise (l : List ByteArray) : List ByteArray := l.foldl (fun out x => insT x out) []
theorem mem_insT {x z : ByteArray} : ∀ {l : List ByteArray}, z ∈ insT x l ↔ z = x ∨ z ∈ l
  | [] => by simp [insT]
  | y :: r => by
    unfold insT
    split
    · simp
    · split
      · rename_i e
        subst e
        simp
      · rw [List.mem_cons, mem_insT, List.mem_cons]
        constructor
        · rintro (h | h | h)
          · exact .inr (.inl h)
          · exact .inl h
          · exact .inr (.inr h)
        · rintro (h | h | h)
          · exact .inr (.inl h)
          · exact .inl h
          · exact .inr (.inr h)
theorem insT_up {x : ByteArray} : ∀ {l : List ByteArray}, UpT l → UpT (insT x l)
  | [], _ => by unfold insT UpT; simp
  | y :: r, h => by
    unfold UpT at h
    rw [List.pairwise_cons] at h
    unfold insT
    split
    · rename_i hlt
      unfold UpT
      rw [List.pairwise_cons, List.pairwise_cons]
      refine ⟨fun z hz => ?_, h⟩
      rcases List.mem_cons.1 hz with e | hz
      · rw [e]; exact hlt
      · exact lt_trans hlt (h.1 z hz)
    · rename_i hlt
      split
      · unfold UpT; rw [List.pairwise_cons]; exact h
      · rename_i hne
        unfold UpT
        rw [List.pairwise_cons]
        refine ⟨fun z hz => ?_, insT_up h.2⟩
        rcases mem_insT.1 hz with e | hz
        · rw [e]
          cases hyx : lt y x with
          | true => rfl
          | false => exact absurd (lt_tri (by simpa using hlt) hyx) hne
        · exact h.1 z hz
theorem rise_fold : ∀ (l out : List ByteArray), UpT out → UpT (l.foldl (fun out x => insT x out) out) ∧ ∀ z, z ∈ l.foldl (fun out x => insT x out) out ↔ z ∈ out ∨ z ∈ l
  | [], out, h => ⟨h, fun z => by simp⟩
  | x :: l, out, h => by
    obtain ⟨h1, h2⟩ := rise_fold l (insT x out) (insT_up h)
    refine ⟨h1, fun z => ?_⟩
    rw [List.foldl_cons, h2, mem_insT, List.mem_cons]
    constructor
    · rintro ((h | h) | h)
      · exact .inr (.inl h)
      · exact .inl h
      · exact .inr (.inr h)
    · rintro (h | h | h)
      · exact .inl (.inr h)
      · exact .inl (.inl h)
      · exact .inr h
theorem rise_up (l : List ByteArray) : UpT (rise l) := (rise_fold l [] List.Pairwise.nil).1
theorem mem_rise {l : List ByteArray} {z : ByteArray} : z ∈ rise l ↔ z ∈ l := by
  have := (rise_fold l [] List.Pairwise.nil).2 z
  unfold rise
  rw [this]
  simp
theorem UpT.nodup {l : List ByteArray} (h : UpT l) : l.Nodup := h.imp (fun h => lt_ne h)
theorem upT_unique : ∀ {l m : List ByteArray}, UpT l → UpT m → (∀ z, z ∈ l ↔ z ∈ m) → l = m
  | [], [], _, _, _ => rfl
  | [], y :: m, _, _, h => by have := (h y).2 List.mem_cons_self; cases this
  | x :: l, [], _, _, h => by have := (h x).1 List.mem_cons_self; cases this
  | x :: l, y :: m, hl, hm, h => by
    unfold UpT at hl hm
    rw [List.pairwise_cons] at hl hm
    have hxy : x = y := by
      rcases List.mem_cons.1 ((h x).1 List.mem_cons_self) with e | h1
      · exact e
      rcases List.mem_cons.1 ((h y).2 List.mem_cons_self) with e | h2
      · exact e.symm
      have a := hm.1 x h1
      have b := hl.1 y h2
      rw [lt_asymm a] at b
      cases b
    subst hxy
    rw [upT_unique hl.2 hm.2 (fun z => ?_)]
    constructor
    · intro hz
      rcases List.mem_cons.1 ((h z).1 (List.mem_cons_of_mem _ hz)) with e | hz'
      · subst e; have := hl.1 z hz; rw [lt_irrefl] at this; cases this
      · exact hz'
    · intro hz
      rcases List.mem_cons.1 ((h z).2 (List.mem_cons_of_mem _ hz)) with e | hz'
      · subst e; have := hm.1 z hz; rw [lt_irrefl] at this; cases this
      · exact hz'
def paths (ts : List (List Fl)) : List ByteArray := rise (ts.flatMap (fun t => t.map (·.1)))
theorem mem_paths {ts : List (List Fl)} {z : ByteArray} : z ∈ paths ts ↔ ∃ t ∈ ts, ∃ f ∈ t, f.1 = z := by
  unfold paths
  rw [mem_rise]
  simp [List.mem_flatMap]
theorem paths_like {ts us : List (List Fl)} (h : ∀ f : Fl, (∃ t ∈ ts, f ∈ t) ↔ ∃ u ∈ us, f ∈ u) : paths ts = paths us := by
  refine upT_unique (rise_up _) (rise_up _) (fun z => ?_)
  show z ∈ paths ts ↔ z ∈ paths us
  rw [mem_paths, mem_paths]
  constructor
  · rintro ⟨t, ht, f, hf, e⟩
    obtain ⟨u, hu, hf'⟩ := (h f).1 ⟨t, ht, hf⟩
    exact ⟨u, hu, f, hf', e⟩
  · rintro ⟨t, ht, f, hf, e⟩
    obtain ⟨u, hu, hf'⟩ := (h f).2 ⟨t, ht, hf⟩
    exact ⟨u, hu, f, hf', e⟩
theorem paths_turn (t u : List Fl) : paths [u, t, t] = paths [t, u] := paths_like (fun f => by
  simp only [List.mem_cons, List.not_mem_nil, or_false]
  constructor
  · rintro ⟨x, rfl | rfl | rfl, h⟩
    · exact ⟨_, .inr rfl, h⟩
    · exact ⟨_, .inl rfl, h⟩
    · exact ⟨_, .inl rfl, h⟩
  · rintro ⟨x, rfl | rfl, h⟩
    · exact ⟨_, .inr (.inl rfl), h⟩
    · exact ⟨_, .inl rfl, h⟩)
theorem Once.nodup {t : List Fl} (h : Once t) : (t.map (·.1)).Nodup := by
  unfold List.Nodup
  rw [List.pairwise_map]
  exact h.imp (fun h => lt_ne h)
theorem paths_length {t u : List Fl} (ht : Once t) (hu : Once u) : (paths [t, u]).length = t.length + (u.filter (fun f => (get t f.1).isNone)).length := by
  have hn : ((t ++ u.filter (fun f => (get t f.1).isNone)).map (·.1)).Nodup := by
    rw [List.map_append]
    refine List.nodup_append.2 ⟨ht.nodup, (Once.nodup (show Once _ from hu.sublist List.filter_sublist)), ?_⟩
    rintro x hx y hy rfl
    obtain ⟨f, hf, rfl⟩ := List.mem_map.1 hx
    obtain ⟨g, hg, e⟩ := List.mem_map.1 hy
    have h1 := (List.mem_filter.1 hg).2
    rw [Option.isNone_iff_eq_none, get_none] at h1
    exact h1 f hf e.symm
  have hp : (paths [t, u]).Perm ((t ++ u.filter (fun f => (get t f.1).isNone)).map (·.1)) := (List.perm_ext_iff_of_nodup (rise_up _).nodup hn).2 (fun z => ?_)
  · rw [hp.length_eq, List.length_map, List.length_append]
  · show z ∈ paths [t, u] ↔ _
    rw [mem_paths, List.mem_map]
    constructor
    · rintro ⟨x, hx, f, hf, e⟩
      rcases List.mem_cons.1 hx with rfl | hx
      · exact ⟨f, List.mem_append_left _ hf, e⟩
      · obtain rfl := List.mem_singleton.1 hx
        by_cases hg : get t f.1 = none
        · exact ⟨f, List.mem_append_right _ (List.mem_filter.2 ⟨hf, by rw [hg]; rfl⟩), e⟩
        · have : ∃ g ∈ t, g.1 = f.1 := by
            refine Classical.byContradiction (fun hc => hg (get_none.2 (fun g hg2 e2 => hc ⟨g, hg2, e2⟩)))
          obtain ⟨g, hg1, hg2⟩ := this
          exact ⟨g, List.mem_append_left _ hg1, hg2.trans e⟩
    · rintro ⟨f, hf, e⟩
      rcases List.mem_append.1 hf with h | h
      · exact ⟨t, by simp, f, h, e⟩
      · exact ⟨u, by simp, f, (List.mem_filter.1 h).1, e⟩

/-! ### Turned round from a place on -/
def rot (t : List Fl) (k : Nat) : List Fl := t.drop k ++ t.take k
theorem rot_perm (t : List Fl) (k : Nat) : (rot t k).Perm t := by
  unfold rot
  have := List.perm_append_comm (l₁ := t.drop k) (l₂ := t.take k)
  rwa [List.take_append_drop] at this
theorem rot_get (t : List Fl) (k i : Nat) (hk : k < t.length) (hi : i < t.length) : (rot t k)[i]? = t[(k + i) % t.length]? := by
  unfold rot
  by_cases h : k + i < t.length
  · rw [List.getElem?_append_left (by rw [List.length_drop]; omega), List.getElem?_drop, Nat.mod_eq_of_lt h]
  · have e : (k + i) % t.length = k + i - t.length := by
      rw [Nat.mod_eq_sub_mod (by omega), Nat.mod_eq_of_lt (by omega)]
    rw [List.getElem?_append_right (by rw [List.length_drop]; omega), List.length_drop, List.getElem?_take_of_lt (by omega), e]
    congr 1
    omega
theorem rot_length (t : List Fl) (k : Nat) : (rot t k).length = t.length := (rot_perm t k).length_eq
/-- One left out of those that are there. -/
theorem Once.drop_perm {out : List Fl} (h : Once out) {f : Fl} {r : List Fl} (hp : out.Perm (f :: r)) : (drop out f.1).Perm r ∧ Once (drop out f.1) := by
  refine ⟨?_, h.sublist (drop_sub out f.1)⟩
  have h1 : (drop out f.1).Perm (drop (f :: r) f.1) := hp.filter _
  have h2 : drop (f :: r) f.1 = r := by
    have h3 : (TreeLib.fil f.1 out).Perm (TreeLib.fil f.1 (f :: r)) := hp.filter _
    have hf : f ∈ out := hp.symm.subset List.mem_cons_self
    rw [h.fil hf, fil_cons, if_pos rfl] at h3
    have hl := h3.length_eq
    simp at hl
    unfold drop
    rw [List.filter_cons_of_neg (by simp), List.filter_eq_self]
    intro x hx
    have : x ∉ TreeLib.fil f.1 r := by rw [hl]; simp
    rw [mem_fil] at this
    simp
    exact fun e => this ⟨hx, e⟩
  rw [h2] at h1
  exact h1

end Go.TreeLib

end
section
-- RRepo
namespace Go.RepoLib
open Go Go.TreeLib

/-- A commit: its parents, its tree, its note. -/
abbrev Cm := List Int × List Fl × ByteArray
def mayC (c : Cm) : Bool := mayB c.2.1 && (decide (c.1.length ≤ 2) && ((decide (c.1.length < 2) || !decide (c.1[0]? = c.1[1]?)) && decide (c.2.2.size ≤ 60)))
def findC : List Cm → Cm → Nat
  | [], _ => 0
  | x :: L, c => if x = c then 1 else if findC L c = 0 then 0 else findC L c + 1
def hasN (n : Nat) (p : Int) : Bool := decide (1 ≤ p) && decide (p ≤ n)
/-- The commits and the room. -/
abbrev Rp := List Cm × Nat
def addC (s : Rp) (c : Cm) : Rp × Nat × Nat :=
  if mayC c = false then (s, 0, 6)
  else if c.1.all (hasN s.1.length) = false then (s, 0, 7)
  else if findC s.1 c = 0 then (if s.2 ≤ s.1.length then (s, 0, 3) else ((s.1 ++ [c], s.2), s.1.length + 1, 0))
  else (s, findC s.1 c, 0)
def clip (x : Int) : Nat := (min (max x 0) 120).toNat
def newC (room : Int) : Rp := ([], clip room)
def copyC (s : Rp) (more : Int) : Rp := (s.1, min (s.2 + clip more) 120)
def noC : Cm := ([], [], ⟨#[]⟩)
def getC (L : List Cm) (n : Int) : Cm := if hasN L.length n = true then L.getD (n.toNat - 1) noC else noC

theorem findC_zero : ∀ {L : List Cm} {c : Cm}, findC L c = 0 ↔ c ∉ L
  | [], c => by simp [findC]
  | x :: L, c => by
    unfold findC
    by_cases h : x = c
    · rw [if_pos h, h]; simp
    · rw [if_neg h]
      have ih := findC_zero (L := L) (c := c)
      by_cases h2 : findC L c = 0
      · rw [if_pos h2]
        simp only [List.mem_cons, not_or, true_iff]
        exact ⟨fun e => h e.symm, ih.1 h2⟩
      · rw [if_neg h2]
        constructor
        · intro e; omega
        · intro e; exact absurd (ih.2 (fun m => e (List.mem_cons_of_mem _ m))) h2
theorem findC_get : ∀ {L : List Cm} {c : Cm}, findC L c ≠ 0 → L[findC L c - 1]? = some c ∧ findC L c ≤ L.length
  | [], c, h => absurd rfl h
  | x :: L, c, h => by
    unfold findC at h ⊢
    by_cases h1 : x = c
    · rw [if_pos h1, h1]; simp
    · rw [if_neg h1] at h ⊢
      by_cases h2 : findC L c = 0
      · rw [if_pos h2] at h; exact absurd rfl h
      · rw [if_neg h2]
        have ih := findC_get (L := L) (c := c) h2
        obtain ⟨k, hk⟩ : ∃ k, findC L c = k + 1 := ⟨findC L c - 1, by omega⟩
        rw [hk] at ih ⊢
        simp only [Nat.add_sub_cancel] at ih ⊢
        exact ⟨ih.1, by simp; omega⟩
/-- Where no commit stands twice, one is found where it stands. -/
theorem findC_at {L : List Cm} (hn : L.Nodup) {i : Nat} {c : Cm} (h : L[i]? = some c) : findC L c = i + 1 := by
  have hm := List.mem_of_getElem? h
  have h0 : findC L c ≠ 0 := fun e => findC_zero.1 e hm
  obtain ⟨h1, h2⟩ := findC_get h0
  obtain ⟨hi, e1⟩ := List.getElem?_eq_some_iff.1 h
  obtain ⟨hj, e2⟩ := List.getElem?_eq_some_iff.1 h1
  have := (List.getElem_inj hn).1 (e2.trans e1.symm)
  omega

/-! ### What every program answers -/
theorem may_noC : mayC noC = true := by decide
def parC : Cm := ([1], [], ⟨#[]⟩)
theorem may_parC : mayC parC = true := by decide
theorem awake_one (room : Nat) (h : 1 ≤ room) : addC ([], room) noC = (([noC], room), 1, 0) := by
  unfold addC
  rw [may_noC, if_neg (by decide), if_neg (by show ¬ true = false; decide), if_pos (show findC ([] : List Cm) noC = 0 from rfl), if_neg (by show ¬ room ≤ 0; omega)]
  rfl
theorem awake_two (room : Nat) : addC ([noC], room) noC = (([noC], room), 1, 0) := by
  unfold addC
  rw [may_noC, if_neg (by decide), if_neg (by show ¬ true = false; decide)]
  have : findC [noC] noC = 1 := by unfold findC; rw [if_pos rfl]
  rw [this, if_neg (by decide)]
theorem par_no : ¬ noC = parC := by intro e; have := congrArg (·.1) e; simp [noC, parC] at this
theorem awake_three (room : Nat) (h : 2 ≤ room) : addC ([noC], room) parC = (([noC, parC], room), 2, 0) := by
  unfold addC
  rw [may_parC, if_neg (by decide), if_neg (by show ¬ parC.1.all (hasN 1) = false; decide)]
  have : findC [noC] parC = 0 := by unfold findC; rw [if_neg par_no]; rfl
  rw [this, if_pos rfl, if_neg (by show ¬ room ≤ 1; omega)]
  rfl
theorem awake_find : findC [noC, parC] noC = 1 := by unfold findC; rw [if_pos rfl]

/-! ### Rooms -/
def noteB (n : Nat) : ByteArray := ⟨#[(48 + n / 100).toUInt8, (48 + n / 10 % 10).toUInt8, (48 + n % 10).toUInt8]⟩
def noteC (n : Nat) : Cm := ([], [], noteB n)
def newB : ByteArray := ⟨#[110, 101, 119]⟩
def freshC : Cm := ([], [], newB)
theorem noteC_may (n : Nat) : mayC (noteC n) = true := by
  unfold mayC noteC
  rw [decide_eq_true (show (noteB n).size ≤ 60 from by show 3 ≤ 60; omega)]
  rfl
theorem freshC_may : mayC freshC = true := by decide
theorem noteB_inj {a b : Nat} (ha : a < 1000) (hb : b < 1000) (h : noteB a = noteB b) : a = b := by
  have h1 := congrArg (fun x => x.data.toList) h
  simp only [noteB, List.cons.injEq, and_true] at h1
  obtain ⟨h1, h2, h3⟩ := h1
  have e1 := congrArg UInt8.toNat h1
  have e2 := congrArg UInt8.toNat h2
  have e3 := congrArg UInt8.toNat h3
  simp [Nat.toUInt8] at e1 e2 e3
  omega
theorem noteB_new {a : Nat} (ha : a < 1000) : ¬ noteB a = newB := by
  intro h
  have h1 := congrArg (fun x => x.data.toList) h
  simp only [noteB, newB, List.cons.injEq, and_true] at h1
  have e1 := congrArg UInt8.toNat h1.1
  simp [Nat.toUInt8] at e1
  omega
def roomL (k : Nat) : List Cm := (List.range k).map (fun i => noteC (i + 1))
theorem roomL_length (k : Nat) : (roomL k).length = k := by unfold roomL; rw [List.length_map, List.length_range]
theorem roomL_succ (k : Nat) : roomL (k + 1) = roomL k ++ [noteC (k + 1)] := by unfold roomL; rw [List.range_succ, List.map_append]; rfl
theorem roomL_note {k : Nat} (hk : k < 500) : noteC (k + 1) ∉ roomL k := by
  unfold roomL
  rw [List.mem_map]
  rintro ⟨i, hi, e⟩
  rw [List.mem_range] at hi
  have := noteB_inj (by omega) (by omega) (congrArg (fun c : Cm => c.2.2) e)
  omega
theorem roomL_fresh {k : Nat} (hk : k < 500) : freshC ∉ roomL k := by
  unfold roomL
  rw [List.mem_map]
  rintro ⟨i, hi, e⟩
  rw [List.mem_range] at hi
  exact noteB_new (by omega) (congrArg (fun c : Cm => c.2.2) e)
theorem room_put {k r : Nat} (hk : k < 500) (hr : k < r) : addC (roomL k, r) (noteC (k + 1)) = ((roomL (k + 1), r), k + 1, 0) := by
  unfold addC
  rw [noteC_may, if_neg (by decide), if_neg (by show ¬ true = false; decide), if_pos (findC_zero.2 (roomL_note hk)), if_neg (by rw [roomL_length]; omega), roomL_succ, roomL_length]
theorem room_full {k r : Nat} (hk : k < 500) (hr : r ≤ k) : addC (roomL k, r) freshC = ((roomL k, r), 0, 3) := by
  unfold addC
  rw [freshC_may, if_neg (by decide), if_neg (by show ¬ true = false; decide), if_pos (findC_zero.2 (roomL_fresh hk)), if_pos (by rw [roomL_length]; exact hr)]
theorem room_more {k r : Nat} (hk : k < 500) (hr : k < r) : addC (roomL k, r) freshC = ((roomL k ++ [freshC], r), k + 1, 0) := by
  unfold addC
  rw [freshC_may, if_neg (by decide), if_neg (by show ¬ true = false; decide), if_pos (findC_zero.2 (roomL_fresh hk)), if_neg (by rw [roomL_length]; omega), roomL_length]
end Go.RepoLib

end
section
-- RDag
namespace Go.DagLib

/-- Each one's parents are lesser. -/
def Low (par : Nat → List Nat) : Prop := ∀ n, ∀ p ∈ par n, p < n
def isF (par : Nat → List Nat) (a : Nat) : Nat → Nat → Bool
  | 0, _ => false
  | f + 1, b => a == b || (par b).any (isF par a f)
/-- Is a among what is ahead of b? -/
def isA (par : Nat → List Nat) (a b : Nat) : Bool := isF par a (b + 1) b
def depF (par : Nat → List Nat) : Nat → Nat → Nat
  | 0, _ => 0
  | f + 1, n => ((par n).map (depF par f)).foldl max 0 + 1
def depA (par : Nat → List Nat) (n : Nat) : Nat := depF par (n + 1) n
def fstF (par : Nat → List Nat) : Nat → Nat → List Nat
  | 0, _ => []
  | f + 1, n => n :: (match par n with
    | [] => []
    | p :: _ => fstF par f p)
def fstA (par : Nat → List Nat) (n : Nat) : List Nat := fstF par (n + 1) n
/-- From n down to 1. -/
def down : Nat → List Nat
  | 0 => []
  | n + 1 => (n + 1) :: down n
def aheadL (par : Nat → List Nat) (n : Nat) : List Nat := (down n).filter (fun k => isA par k n)

theorem any_congr {l : List Nat} {f g : Nat → Bool} (h : ∀ p ∈ l, f p = g p) : l.any f = l.any g := by
  induction l with
  | nil => rfl
  | cons x l ih => rw [List.any_cons, List.any_cons, h x (by simp), ih (fun p hp => h p (by simp [hp]))]

section
variable {par : Nat → List Nat}
theorem isF_like (hl : Low par) (a : Nat) : ∀ (f g b : Nat), b < f → b < g → isF par a f b = isF par a g b := by
  intro f
  induction f with
  | zero => intro g b h; omega
  | succ f ih =>
    intro g b h1 h2
    obtain ⟨g, rfl⟩ : ∃ k, g = k + 1 := ⟨g - 1, by omega⟩
    show (a == b || (par b).any (isF par a f)) = (a == b || (par b).any (isF par a g))
    rw [any_congr (fun p hp => ih g p (by have := hl b p hp; omega) (by have := hl b p hp; omega))]
theorem depF_like (hl : Low par) : ∀ (f g b : Nat), b < f → b < g → depF par f b = depF par g b := by
  intro f
  induction f with
  | zero => intro g b h; omega
  | succ f ih =>
    intro g b h1 h2
    obtain ⟨g, rfl⟩ : ∃ k, g = k + 1 := ⟨g - 1, by omega⟩
    show ((par b).map (depF par f)).foldl max 0 + 1 = ((par b).map (depF par g)).foldl max 0 + 1
    rw [List.map_congr_left (fun p hp => ih g p (by have := hl b p hp; omega) (by have := hl b p hp; omega))]
theorem fstF_like (hl : Low par) : ∀ (f g b : Nat), b < f → b < g → fstF par f b = fstF par g b := by
  intro f
  induction f with
  | zero => intro g b h; omega
  | succ f ih =>
    intro g b h1 h2
    obtain ⟨g, rfl⟩ : ∃ k, g = k + 1 := ⟨g - 1, by omega⟩
    unfold fstF
    cases hp : par b with
    | nil => rfl
    | cons p r =>
      have := hl b p (by rw [hp]; simp)
      show b :: fstF par f p = b :: fstF par g p
      rw [ih g p (by omega) (by omega)]
theorem isA_eq (hl : Low par) (a b : Nat) : isA par a b = (a == b || (par b).any (isA par a)) := by
  show (a == b || (par b).any (isF par a b)) = _
  rw [any_congr (fun p hp => isF_like hl a b (p + 1) p (hl b p hp) (by omega))]
  rfl
theorem depA_eq (hl : Low par) (n : Nat) : depA par n = ((par n).map (depA par)).foldl max 0 + 1 := by
  show ((par n).map (depF par n)).foldl max 0 + 1 = _
  rw [List.map_congr_left (fun p hp => depF_like hl n (p + 1) p (hl n p hp) (by omega))]
  rfl
theorem fstA_nil {n : Nat} (h : par n = []) : fstA par n = [n] := by
  show fstF par (n + 1) n = _
  unfold fstF
  rw [h]
theorem fstA_cons (hl : Low par) {n p : Nat} {r : List Nat} (h : par n = p :: r) : fstA par n = n :: fstA par p := by
  have hp := hl n p (by rw [h]; simp)
  show fstF par (n + 1) n = _
  unfold fstF
  rw [h]
  show n :: fstF par n p = _
  rw [fstF_like hl n (p + 1) p hp (by omega)]
  rfl
theorem isA_self (hl : Low par) (a : Nat) : isA par a a = true := by rw [isA_eq hl]; simp
theorem isA_par (hl : Low par) {a p b : Nat} (hp : p ∈ par b) (h : isA par a p = true) : isA par a b = true := by
  rw [isA_eq hl, Bool.or_eq_true, List.any_eq_true]
  exact .inr ⟨p, hp, h⟩
theorem isA_cases (hl : Low par) {a b : Nat} (h : isA par a b = true) : a = b ∨ ∃ p ∈ par b, isA par a p = true := by
  rw [isA_eq hl, Bool.or_eq_true, List.any_eq_true] at h
  rcases h with h | h
  · exact .inl (by simpa using h)
  · exact .inr h
theorem isA_le (hl : Low par) {a : Nat} : ∀ {b : Nat}, isA par a b = true → a ≤ b := by
  intro b
  induction b using Nat.strongRecOn with
  | ind b ih =>
    intro h
    rcases isA_cases hl h with rfl | ⟨p, hp, h⟩
    · exact Nat.le_refl _
    · have := hl b p hp
      have := ih p this h
      omega
theorem isA_trans (hl : Low par) {a b : Nat} (h : isA par a b = true) : ∀ {c : Nat}, isA par b c = true → isA par a c = true := by
  intro c
  induction c using Nat.strongRecOn with
  | ind c ih =>
    intro h2
    rcases isA_cases hl h2 with rfl | ⟨p, hp, h2⟩
    · exact h
    · exact isA_par hl hp (ih p (hl c p hp) h2)
theorem isA_anti (hl : Low par) {a b : Nat} (h : isA par a b = true) (hne : a ≠ b) : isA par b a = false := by
  cases e : isA par b a with
  | false => rfl
  | true =>
    have := isA_le hl h
    have := isA_le hl e
    omega
/-- From above: whoever came of it did so by one of whom it is a parent. -/
theorem isA_up (hl : Low par) {a : Nat} : ∀ {c : Nat}, isA par a c = true → a = c ∨ ∃ k, a ∈ par k ∧ isA par k c = true := by
  intro c
  induction c using Nat.strongRecOn with
  | ind c ih =>
    intro h
    rcases isA_cases hl h with rfl | ⟨p, hp, h⟩
    · exact .inl rfl
    · rcases ih p (hl c p hp) h with rfl | ⟨k, hk, h⟩
      · exact .inr ⟨c, hp, isA_self hl c⟩
      · exact .inr ⟨k, hk, isA_par hl hp h⟩
theorem isA_up_iff (hl : Low par) {a c : Nat} : isA par a c = true ↔ a = c ∨ ∃ k, a < k ∧ k ≤ c ∧ a ∈ par k ∧ isA par k c = true := by
  constructor
  · intro h
    rcases isA_up hl h with h | ⟨k, hk, h⟩
    · exact .inl h
    · exact .inr ⟨k, hl k a hk, isA_le hl h, hk, h⟩
  · rintro (rfl | ⟨k, _, _, hk, h⟩)
    · exact isA_self hl _
    · exact isA_trans hl (isA_par hl hk (isA_self hl a)) h
end

theorem foldl_max {l : List Nat} : ∀ (m : Nat), m ≤ l.foldl max m ∧ ∀ x ∈ l, x ≤ l.foldl max m := by
  induction l with
  | nil => intro m; simp
  | cons y l ih =>
    intro m
    obtain ⟨h1, h2⟩ := ih (max m y)
    refine ⟨by simp only [List.foldl_cons]; omega, fun x hx => ?_⟩
    simp only [List.foldl_cons]
    rcases List.mem_cons.1 hx with rfl | hx
    · omega
    · exact h2 x hx
section
variable {par : Nat → List Nat}
theorem depA_par (hl : Low par) {p n : Nat} (hp : p ∈ par n) : depA par p < depA par n := by
  rw [depA_eq hl n]
  have := (foldl_max (l := (par n).map (depA par)) 0).2 (depA par p) (List.mem_map_of_mem hp)
  omega
theorem depA_pos (hl : Low par) (n : Nat) : 1 ≤ depA par n := by rw [depA_eq hl n]; omega
theorem depA_is (hl : Low par) {a : Nat} : ∀ {b : Nat}, isA par a b = true → a ≠ b → depA par a < depA par b := by
  intro b
  induction b using Nat.strongRecOn with
  | ind b ih =>
    intro h hne
    rcases isA_cases hl h with rfl | ⟨p, hp, h⟩
    · exact absurd rfl hne
    · have h1 := depA_par hl hp
      by_cases e : a = p
      · subst e; exact h1
      · have := ih p (hl b p hp) h e; omega
theorem fstA_is (hl : Low par) {x : Nat} : ∀ {n : Nat}, x ∈ fstA par n → isA par x n = true := by
  intro n
  induction n using Nat.strongRecOn with
  | ind n ih =>
    intro hx
    cases hp : par n with
    | nil =>
      rw [fstA_nil hp, List.mem_singleton] at hx
      subst hx
      exact isA_self hl _
    | cons p r =>
      rw [fstA_cons hl hp] at hx
      have hpm : p ∈ par n := by rw [hp]; simp
      rcases List.mem_cons.1 hx with rfl | hx
      · exact isA_self hl _
      · exact isA_par hl hpm (ih p (hl n p hpm) hx)
theorem fstA_falls (hl : Low par) : ∀ (n : Nat), (fstA par n).Pairwise (fun x y => y < x) := by
  intro n
  induction n using Nat.strongRecOn with
  | ind n ih =>
    cases hp : par n with
    | nil => rw [fstA_nil hp]; simp
    | cons p r =>
      have hpm : p ∈ par n := by rw [hp]; simp
      rw [fstA_cons hl hp, List.pairwise_cons]
      refine ⟨fun x hx => ?_, ih p (hl n p hpm)⟩
      have := isA_le hl (fstA_is hl hx)
      have := hl n p hpm
      omega
theorem fstA_len (hl : Low par) : ∀ (n : Nat), (fstA par n).length ≤ depA par n := by
  intro n
  induction n using Nat.strongRecOn with
  | ind n ih =>
    cases hp : par n with
    | nil => rw [fstA_nil hp]; exact depA_pos hl n
    | cons p r =>
      have hpm : p ∈ par n := by rw [hp]; simp
      rw [fstA_cons hl hp, List.length_cons]
      have := ih p (hl n p hpm)
      have := depA_par hl hpm
      omega
theorem fstA_head (hl : Low par) (n : Nat) : ∃ t, fstA par n = n :: t := by
  cases hp : par n with
  | nil => exact ⟨[], fstA_nil hp⟩
  | cons p r => exact ⟨_, fstA_cons hl hp⟩
end

/-! ### From n down to 1 -/
theorem down_length : ∀ n, (down n).length = n
  | 0 => rfl
  | n + 1 => by show (down n).length + 1 = n + 1; rw [down_length n]
theorem down_mem : ∀ {n k : Nat}, k ∈ down n ↔ 1 ≤ k ∧ k ≤ n
  | 0, k => by simp [down]; omega
  | n + 1, k => by
    show k ∈ (n + 1) :: down n ↔ _
    rw [List.mem_cons, down_mem]
    omega
theorem down_get : ∀ {n i : Nat}, i < n → (down n)[i]? = some (n - i)
  | 0, i, h => by omega
  | n + 1, 0, _ => rfl
  | n + 1, i + 1, h => by
    show (down n)[i]? = _
    rw [down_get (by omega)]
    congr 1
    omega
theorem down_falls : ∀ n, (down n).Pairwise (fun x y => y < x)
  | 0 => List.Pairwise.nil
  | n + 1 => by
    show List.Pairwise _ ((n + 1) :: down n)
    rw [List.pairwise_cons]
    exact ⟨fun x hx => by have := (down_mem.1 hx).2; omega, down_falls n⟩
theorem filter_down {f : Nat → Bool} {n : Nat} (h : ∀ k, f k = true → k ≤ n) : ∀ {m : Nat}, n ≤ m → (down m).filter f = (down n).filter f
  | 0, hm => by
    obtain rfl : n = 0 := by omega
    rfl
  | m + 1, hm => by
    by_cases e : n = m + 1
    · rw [e]
    · have hf : f (m + 1) = false := by
        cases e2 : f (m + 1) with
        | false => rfl
        | true => have := h _ e2; omega
      show ((m + 1) :: down m).filter f = _
      rw [List.filter_cons, hf]
      exact filter_down h (by omega)
section
variable {par : Nat → List Nat}
theorem ahead_mem (hl : Low par) {a n : Nat} : a ∈ aheadL par n ↔ 1 ≤ a ∧ isA par a n = true := by
  unfold aheadL
  rw [List.mem_filter, down_mem]
  constructor
  · rintro ⟨⟨h1, _⟩, h2⟩; exact ⟨h1, h2⟩
  · rintro ⟨h1, h2⟩; exact ⟨⟨h1, isA_le hl h2⟩, h2⟩
theorem ahead_falls (n : Nat) : (aheadL par n).Pairwise (fun x y => y < x) := (down_falls n).sublist List.filter_sublist
/-- All that is ahead is itself, and all that is ahead of its parents. -/
theorem ahead_cons (hl : Low par) {n m : Nat} (hn : 1 ≤ n) (hm : n ≤ m + 1) : aheadL par n = n :: (down m).filter (fun k => (par n).any (isA par k)) := by
  obtain ⟨q, rfl⟩ : ∃ q, n = q + 1 := ⟨n - 1, by omega⟩
  have h1 : ∀ k, (par (q + 1)).any (isA par k) = true → k ≤ q := by
    intro k hk
    obtain ⟨p, hp, h⟩ := List.any_eq_true.1 hk
    have := hl _ p hp
    have := isA_le hl h
    omega
  rw [filter_down h1 (by omega)]
  unfold aheadL
  show ((q + 1) :: down q).filter _ = _
  rw [List.filter_cons, isA_self hl, if_pos rfl]
  congr 1
  refine List.filter_congr (fun k hk => ?_)
  rw [isA_eq hl]
  have : (k == q + 1) = false := by have := (down_mem.1 hk).2; simp; omega
  rw [this, Bool.false_or]
theorem ahead_head (hl : Low par) {n : Nat} (hn : 1 ≤ n) : ∃ t, aheadL par n = n :: t := ⟨_, ahead_cons hl hn (m := n) (by omega)⟩

/-! ### How the document goes: marks, from n down -/
/-- What is marked when those above k are done. -/
def markA (par : Nat → List Nat) (n k j : Nat) : Bool := j == n || (down n).any (fun q => decide (k < q) && (isA par q n && decide (j ∈ par q)))
theorem mark_is (hl : Low par) {n k : Nat} (hn : 1 ≤ k) : markA par n k k = isA par k n := by
  rw [Bool.eq_iff_iff, isA_up_iff hl]
  unfold markA
  rw [Bool.or_eq_true, List.any_eq_true, beq_iff_eq]
  constructor
  · rintro (h | ⟨q, hq, h⟩)
    · exact .inl h
    · simp only [Bool.and_eq_true, decide_eq_true_eq] at h
      exact .inr ⟨q, h.1, (down_mem.1 hq).2, h.2.2, h.2.1⟩
  · rintro (h | ⟨q, h1, h2, h3, h4⟩)
    · exact .inl h
    · refine .inr ⟨q, down_mem.2 ⟨by omega, h2⟩, ?_⟩
      simp only [Bool.and_eq_true, decide_eq_true_eq]
      exact ⟨h1, h4, h3⟩
theorem mark_start (n j : Nat) : markA par n n j = (j == n) := by
  unfold markA
  have : (down n).any (fun q => decide (n < q) && (isA par q n && decide (j ∈ par q))) = false := by
    rw [List.any_eq_false]
    intro q hq
    have := (down_mem.1 hq).2
    rw [decide_eq_false (by omega)]
    simp
  rw [this, Bool.or_false]
theorem mark_step {n k j : Nat} (hn : 1 ≤ k) (hk : k ≤ n) : markA par n (k - 1) j = (markA par n k j || (isA par k n && decide (j ∈ par k))) := by
  rw [Bool.eq_iff_iff]
  unfold markA
  simp only [Bool.or_eq_true, List.any_eq_true, beq_iff_eq, Bool.and_eq_true, decide_eq_true_eq]
  constructor
  · rintro (h | ⟨q, hq, h1, h2, h3⟩)
    · exact .inl (.inl h)
    · by_cases e : q = k
      · subst e; exact .inr ⟨h2, h3⟩
      · exact .inl (.inr ⟨q, hq, by omega, h2, h3⟩)
  · rintro ((h | ⟨q, hq, h1, h2, h3⟩) | ⟨h2, h3⟩)
    · exact .inl h
    · exact .inr ⟨q, hq, by omega, h2, h3⟩
    · exact .inr ⟨k, down_mem.2 ⟨hn, hk⟩, by omega, h2, h3⟩
/-- What is put out when those above k are done. -/
def outA (par : Nat → List Nat) (n k : Nat) : List Nat := ((down n).take (n - k)).filter (fun q => isA par q n)
theorem out_start (n : Nat) : outA par n n = [] := by unfold outA; rw [Nat.sub_self]; rfl
theorem out_end (n : Nat) : outA par n 0 = aheadL par n := by unfold outA aheadL; rw [List.take_of_length_le (by rw [down_length]; omega)]
theorem out_step {n k : Nat} (hn : 1 ≤ k) (hk : k ≤ n) : outA par n (k - 1) = if isA par k n = true then outA par n k ++ [k] else outA par n k := by
  unfold outA
  rw [show n - (k - 1) = (n - k) + 1 by omega, List.take_add_one, down_get (by omega), show n - (n - k) = k by omega, List.filter_append]
  show _ ++ [k].filter _ = _
  cases e : isA par k n with
  | true => simp [e]
  | false => simp [e]
end
end Go.DagLib

end
