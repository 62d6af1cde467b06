/-
  Heaps as lists: how an item rises and sinks, what is first, what comes of putting and popping. No program is named here.
-/
import Derived.RowKit
namespace Go.PileLib

/-- An order: r a b: a comes before b. -/
structure Ord {ι : Type} (r : ι → ι → Bool) : Prop where
  tr : ∀ a b c, r b a = false → r c b = false → r c a = false
  as : ∀ a b, r a b = true → r b a = false
  tt : ∀ a b c, r a b = true → r b c = true → r a c = true

section
variable {ι : Type} {r : ι → ι → Bool}

theorem Ord.refl (o : Ord r) (a : ι) : r a a = false := by
  cases e : r a a
  · rfl
  · have h := o.as a a e
    rw [e] at h
    exact h

/-- Two places of a list are swapped. -/
def swp (d : List ι) (i j : Nat) (hi : i < d.length) (hj : j < d.length) : List ι := (d.set i d[j]).set j d[i]

theorem swp_length (d : List ι) (i j : Nat) (hi : i < d.length) (hj : j < d.length) : (swp d i j hi hj).length = d.length := by simp [swp]

theorem swp_get (d : List ι) (i j : Nat) (hi : i < d.length) (hj : j < d.length) (k : Nat) (hk : k < (swp d i j hi hj).length) :
    (swp d i j hi hj)[k] = if j = k then d[i] else if i = k then d[j] else d[k]'(by simpa [swp] using hk) := by
  simp only [swp, List.getElem_set]

theorem swp_perm (d : List ι) (i j : Nat) (hi : i < d.length) (hj : j < d.length) : (swp d i j hi hj).Perm d := by
  have h := Array.swap_perm (xs := d.toArray) (i := i) (j := j) (by simpa using hi) (by simpa using hj)
  have h2 := h.toList
  simpa [swp, Array.swap] using h2

/-- No item comes before the one that it hangs on. -/
def Heap (r : ι → ι → Bool) (d : List ι) : Prop := ∀ j (hj : j < d.length), 0 < j → r d[j] (d[(j - 1) / 2]'(by omega)) = false

/-- All is well but that the one at i may come before the one that it hangs on. -/
def UpInv (r : ι → ι → Bool) (d : List ι) (i : Nat) : Prop :=
  (∀ j (hj : j < d.length), 0 < j → j ≠ i → r d[j] (d[(j - 1) / 2]'(by omega)) = false) ∧
  (∀ j (hj : j < d.length), 0 < j → 0 < i → (hp : (j - 1) / 2 = i) → r d[j] (d[(i - 1) / 2]'(by omega)) = false)

/-- All is well but that the one at i may come behind what hangs on it. -/
def DownInv (r : ι → ι → Bool) (d : List ι) (i : Nat) : Prop :=
  (∀ j (hj : j < d.length), 0 < j → (j - 1) / 2 ≠ i → r d[j] (d[(j - 1) / 2]'(by omega)) = false) ∧
  (∀ j (hj : j < d.length), 0 < j → 0 < i → (hp : (j - 1) / 2 = i) → r d[j] (d[(i - 1) / 2]'(by omega)) = false)

theorem up_stop {d : List ι} {i : Nat} (h : UpInv r d i) (hs : ∀ (hi : i < d.length), 0 < i → r d[i] (d[(i - 1) / 2]'(by omega)) = false) : Heap r d := fun j hj h0 => by
  by_cases e : j = i
  · subst e; exact hs hj h0
  · exact h.1 j hj h0 e

theorem getE (d : List ι) {i j : Nat} (h : i = j) (hi : i < d.length) : d[i] = d[j]'(h ▸ hi) := by subst h; rfl

theorem up_step (o : Ord r) {d : List ι} {i : Nat} (h : UpInv r d i) (h0 : 0 < i) (hi : i < d.length) (hr : r d[i] (d[(i - 1) / 2]'(by omega)) = true) :
    UpInv r (swp d i ((i - 1) / 2) hi (by omega)) ((i - 1) / 2) := by
  obtain ⟨u, hu⟩ : ∃ u, (i - 1) / 2 = u := ⟨_, rfl⟩
  have hui : u < i := by omega
  simp only [hu] at hr ⊢
  have hle := o.as _ _ hr
  refine ⟨fun j hj hj0 hju => ?_, fun j hj hj0 hu0 hp => ?_⟩
  · rw [swp_length] at hj
    rw [swp_get, swp_get, if_neg (Ne.symm hju)]
    by_cases e : j = i
    · subst e
      simp only [hu, if_true]
      exact hle
    · rw [if_neg (Ne.symm e)]
      by_cases e1 : (j - 1) / 2 = i
      · rw [if_neg (by omega), if_pos e1.symm]
        have := h.2 j hj hj0 h0 e1
        simpa only [hu] using this
      · by_cases e2 : (j - 1) / 2 = u
        · rw [if_pos e2.symm]
          have h1 := h.1 j hj hj0 e
          simp only [e2] at h1
          exact o.tr _ _ _ hle h1
        · rw [if_neg (Ne.symm e2), if_neg (Ne.symm e1)]
          exact h.1 j hj hj0 e
  · rw [swp_length] at hj
    rw [swp_get, swp_get, if_neg (show ¬ u = j by omega), if_neg (show ¬ u = (u - 1) / 2 by omega), if_neg (show ¬ i = (u - 1) / 2 by omega)]
    have h1 := h.1 u (by omega) hu0 (by omega)
    by_cases e : i = j
    · rw [if_pos e]; exact h1
    · rw [if_neg e]
      have h2 := h.1 j hj hj0 (by omega)
      simp only [hp] at h2
      exact o.tr _ _ _ h1 h2

theorem down_none {d : List ι} {i : Nat} (h : DownInv r d i) (hn : d.length ≤ 2 * i + 1) : Heap r d := fun j hj h0 => h.1 j hj h0 (by omega)

theorem down_stop (o : Ord r) {d : List ι} {i c : Nat} (h : DownInv r d i) (hc : c < d.length) (hi : i < d.length) (hl : ∀ j (hj : j < d.length), 0 < j → (j - 1) / 2 = i → r d[j] d[c] = false) (hr : r d[c] d[i] = false) : Heap r d := fun j hj h0 => by
  by_cases e : (j - 1) / 2 = i
  · have h1 := hl j hj h0 e
    rw [getE d e (by omega)]
    exact o.tr _ _ _ hr h1
  · exact h.1 j hj h0 e

theorem down_step (o : Ord r) {d : List ι} {i c : Nat} (h : DownInv r d i) (hc : c < d.length) (h0 : 0 < c) (hp : (c - 1) / 2 = i) (hi : i < d.length) (hl : ∀ j (hj : j < d.length), 0 < j → (j - 1) / 2 = i → r d[j] d[c] = false)
    (hr : r d[c] d[i] = true) : DownInv r (swp d i c hi hc) c := by
  have hle := o.as _ _ hr
  have hic : i < c := by omega
  refine ⟨fun j hj hj0 hjc => ?_, fun j hj hj0 _ hpj => ?_⟩
  · rw [swp_length] at hj
    rw [swp_get, swp_get, if_neg (Ne.symm hjc)]
    by_cases e : c = j
    · rw [if_pos e, if_pos (by omega)]; exact hle
    · rw [if_neg e]
      by_cases e1 : i = j
      · rw [if_pos e1, if_neg (by omega)]
        have := h.2 c hc h0 (by omega) hp
        rw [getE d (show (j - 1) / 2 = (i - 1) / 2 by rw [e1]) (by omega)]
        exact this
      · rw [if_neg e1]
        by_cases e2 : i = (j - 1) / 2
        · rw [if_pos e2]; exact hl j hj hj0 e2.symm
        · rw [if_neg e2]; exact h.1 j hj hj0 (Ne.symm e2)
  · rw [swp_length] at hj
    rw [swp_get, swp_get, if_neg (show ¬ c = j by omega), if_neg (show ¬ i = j by omega), if_neg (show ¬ c = (c - 1) / 2 by omega), if_pos hp.symm]
    have h1 := h.1 j hj hj0 (by omega)
    rw [getE d hpj (by omega)] at h1
    exact h1

theorem heap_put {d : List ι} (h : Heap r d) (x : ι) : UpInv r (d ++ [x]) d.length := by
  refine ⟨fun j hj h0 hne => ?_, fun j hj h0 _ hp => ?_⟩
  · simp at hj
    rw [List.getElem_append_left (show j < d.length by omega), List.getElem_append_left (show (j - 1) / 2 < d.length by omega)]
    exact h j (by omega) h0
  · simp at hj; omega

/-- What a pop lays down before it sinks. -/
def popped (d : List ι) (h : 0 < d.length) : List ι := (d.set 0 (d[d.length - 1]'(by omega))).take (d.length - 1)
theorem popped_length (d : List ι) (h : 0 < d.length) : (popped d h).length = d.length - 1 := by simp [popped]
theorem heap_pop {d : List ι} (h : Heap r d) (h0 : 0 < d.length) : DownInv r (popped d h0) 0 := by
  refine ⟨fun j hj hj0 hne => ?_, fun j hj hj0 h _ => absurd h (by omega)⟩
  rw [popped_length] at hj
  simp only [popped, List.getElem_take, List.getElem_set]
  rw [if_neg (by omega), if_neg (by omega)]
  exact h j (by omega) hj0
theorem popped_perm {d : List ι} (h0 : 0 < d.length) : (d[0] :: popped d h0).Perm d := by
  cases d with
  | nil => simp at h0
  | cons y t =>
    rcases List.eq_nil_or_concat t with rfl | ⟨t', z, e⟩
    · simp [popped]
    · rw [List.concat_eq_append] at e
      subst e
      have : popped (y :: (t' ++ [z])) h0 = z :: t' := by
        simp [popped]
      rw [this]
      simp only [List.getElem_cons_zero]
      exact List.Perm.cons _ (List.perm_append_singleton z t').symm

theorem heap_min (o : Ord r) {d : List ι} (h : Heap r d) (h0 : 0 < d.length) : ∀ j (hj : j < d.length), r d[j] d[0] = false := by
  have hrefl : ∀ a, r a a = false := fun a => by
    cases e : r a a
    · rfl
    · have h := o.as a a e
      rw [e] at h
      exact h
  intro j
  induction j using Nat.strongRecOn with
  | _ j ih =>
    intro hj
    by_cases e : j = 0
    · subst e; exact hrefl _
    · have h1 := h j hj (by omega)
      have h2 := ih ((j - 1) / 2) (by omega) (by omega)
      exact o.tr _ _ _ h2 h1

/-- The heap d holds what L tells, in order. -/
structure Good (r : ι → ι → Bool) (d L : List ι) : Prop where
  heap : Heap r d
  perm : d.Perm L
  sort : L.Pairwise (fun a b => r a b = true)

theorem Good.head (o : Ord r) {d L : List ι} {y : ι} (g : Good r d (y :: L)) : ∃ h0 : 0 < d.length, d[0] = y := by
  have hl := g.perm.length_eq
  have h0 : 0 < d.length := by rw [hl]; simp
  refine ⟨h0, ?_⟩
  have hm : d[0] ∈ y :: L := g.perm.mem_iff.1 (List.getElem_mem h0)
  rcases List.mem_cons.1 hm with h | h
  · exact h
  · have h1 := (List.pairwise_cons.1 g.sort).1 _ h
    have h2 : y ∈ d := g.perm.mem_iff.2 List.mem_cons_self
    obtain ⟨j, hj, e⟩ := List.getElem_of_mem h2
    have h3 := heap_min o g.heap h0 j hj
    rw [e, h1] at h3
    cases h3

/-- Where a new one comes. -/
def ins (r : ι → ι → Bool) (L : List ι) (n : ι) : List ι := L.filter (fun y => r y n) ++ n :: L.filter (fun y => !r y n)
theorem ins_perm (L : List ι) (n : ι) : (ins r L n).Perm (L ++ [n]) := by
  refine List.perm_middle.trans ?_
  refine List.Perm.trans ?_ (List.perm_append_singleton n L).symm
  exact List.Perm.cons _ (List.filter_append_perm _ _)
theorem ins_sort (o : Ord r) {L : List ι} {n : ι} (h : L.Pairwise (fun a b => r a b = true)) (hn : ∀ y ∈ L, r y n = false → r n y = true) : (ins r L n).Pairwise (fun a b => r a b = true) := by
  unfold ins
  rw [List.pairwise_append]
  refine ⟨h.filter _, List.pairwise_cons.2 ⟨fun b hb => ?_, h.filter _⟩, fun a ha b hb => ?_⟩
  · have hb' := List.mem_filter.1 hb
    exact hn b hb'.1 (by simpa using hb'.2)
  · have ha' := (List.mem_filter.1 ha).2
    rcases List.mem_cons.1 hb with rfl | hb
    · exact ha'
    · have hb' := List.mem_filter.1 hb
      exact o.tt _ _ _ ha' (hn b hb'.1 (by simpa using hb'.2))

/-- Items by a key, and of like ones by their number. -/
def bef {α : Type} (lt : α → α → Bool) (a b : α × Int) : Bool := if lt a.1 b.1 = lt b.1 a.1 then decide (a.2 < b.2) else lt a.1 b.1
def ltK {α : Type} (key : α → Int) (a b : α) : Bool := decide (key a < key b)
theorem bef_iff {α : Type} (key : α → Int) (a b : α × Int) : bef (ltK key) a b = true ↔ key a.1 < key b.1 ∨ (key a.1 = key b.1 ∧ a.2 < b.2) := by
  unfold bef ltK
  by_cases h1 : key a.1 < key b.1
  · have h2 : ¬ key b.1 < key a.1 := by omega
    simp [h1, h2]
  · by_cases h2 : key b.1 < key a.1
    · simp [h1, h2]; omega
    · simp [h1, h2]; omega
theorem bef_ord {α : Type} (key : α → Int) : Ord (bef (ltK key)) :=
  { tr := fun a b c h1 h2 => by
      rw [Bool.eq_false_iff, Ne, bef_iff] at *; omega,
    as := fun a b h => by
      rw [Bool.eq_false_iff, Ne, bef_iff]; rw [bef_iff] at h; omega,
    tt := fun a b c h1 h2 => by
      rw [bef_iff] at *; omega }
theorem bef_new {α : Type} (key : α → Int) (a b : α × Int) (h : a.2 < b.2) (h2 : bef (ltK key) a b = false) : bef (ltK key) b a = true := by
  rw [Bool.eq_false_iff, Ne, bef_iff] at h2; rw [bef_iff]; omega
end

/-- A list of cells, item by item. -/
theorem flat_get {ι β : Type} {enc : ι → List β} {s : Nat} (hs : ∀ x, (enc x).length = s) (its : List ι) (i q : Nat) (hq : q < s) : (its.flatMap enc)[i * s + q]? = its[i]?.bind fun x => (enc x)[q]? := by
  induction its generalizing i with
  | nil => simp
  | cons y t ih =>
    rw [List.flatMap_cons]
    cases i with
    | zero =>
      rw [List.getElem?_append_left (by rw [hs]; omega)]
      simp
    | succ i =>
      rw [List.getElem?_append_right (by rw [hs, Nat.succ_mul]; omega), hs, List.getElem?_cons_succ, ← ih i]
      congr 1
      rw [Nat.succ_mul]; omega
theorem flat_length {ι β : Type} {enc : ι → List β} {s : Nat} (hs : ∀ x, (enc x).length = s) (its : List ι) : (its.flatMap enc).length = its.length * s := by
  induction its with
  | nil => simp
  | cons y t ih => simp [List.flatMap_cons, hs, ih, Nat.succ_mul]; omega
end Go.PileLib
