/-
  Commits put in one behind the other: what holds of their numbers. No program is named here.
-/
import Derived.Test.YtconingjdgmodaaDoorGPure
namespace Go.RepoLib
open Go Go.TreeLib

theorem addC_cases (s : Rp) (c : Cm) :
    (mayC c = true ∧ c.1.all (hasN s.1.length) = true ∧ ((findC s.1 c ≠ 0 ∧ addC s c = (s, findC s.1 c, 0)) ∨ (findC s.1 c = 0 ∧ s.1.length < s.2 ∧ addC s c = ((s.1 ++ [c], s.2), s.1.length + 1, 0)))) ∨
    ((addC s c).1 = s ∧ (addC s c).2.1 = 0 ∧ ((addC s c).2.2 = 6 ∨ (addC s c).2.2 = 7 ∨ ((addC s c).2.2 = 3 ∧ s.2 ≤ s.1.length))) := by
  unfold addC
  by_cases h1 : mayC c = false
  · rw [if_pos h1]
    exact .inr ⟨rfl, rfl, .inl rfl⟩
  · rw [if_neg h1]
    by_cases h2 : c.1.all (hasN s.1.length) = false
    · rw [if_pos h2]
      exact .inr ⟨rfl, rfl, .inr (.inl rfl)⟩
    · rw [if_neg h2]
      have h1' : mayC c = true := by simpa using h1
      have h2' : c.1.all (hasN s.1.length) = true := by
        cases h : c.1.all (hasN s.1.length) with
        | true => rfl
        | false => exact absurd h h2
      by_cases h3 : findC s.1 c = 0
      · rw [if_pos h3]
        by_cases h4 : s.2 ≤ s.1.length
        · rw [if_pos h4]
          exact .inr ⟨rfl, rfl, .inr (.inr ⟨rfl, h4⟩)⟩
        · rw [if_neg h4]
          exact .inl ⟨h1', h2', .inr ⟨h3, by omega, rfl⟩⟩
      · rw [if_neg h3]
        exact .inl ⟨h1', h2', .inl ⟨h3, rfl⟩⟩
/-- No commit stands twice; each may be, and has parents ahead of it. -/
structure Good (s : Rp) : Prop where
  nodup : s.1.Nodup
  may : ∀ (i : Nat) (c : Cm), s.1[i]? = some c → mayC c = true ∧ c.1.all (hasN i) = true
theorem Good.nil (r : Nat) : Good ([], r) := ⟨List.nodup_nil, fun i c h => by simp at h⟩
theorem addC_pre (s : Rp) (c : Cm) : s.1 <+: (addC s c).1.1 := by
  rcases addC_cases s c with ⟨_, _, ⟨_, h⟩ | ⟨_, _, h⟩⟩ | ⟨h, _⟩
  · rw [h]; exact List.prefix_refl _
  · rw [h]; exact List.prefix_append _ _
  · rw [h]; exact List.prefix_refl _
theorem addC_room (s : Rp) (c : Cm) : (addC s c).1.2 = s.2 := by
  rcases addC_cases s c with ⟨_, _, ⟨_, h⟩ | ⟨_, _, h⟩⟩ | ⟨h, _⟩ <;> rw [h]
theorem addC_len (s : Rp) (c : Cm) : (addC s c).1.1.length ≤ s.1.length + 1 := by
  rcases addC_cases s c with ⟨_, _, ⟨_, h⟩ | ⟨_, _, h⟩⟩ | ⟨h, _⟩
  · rw [h]; exact Nat.le_succ _
  · rw [h]; show (s.1 ++ [c]).length ≤ _; rw [List.length_append]; exact Nat.le_refl _
  · rw [h]; exact Nat.le_succ _
theorem Good.add {s : Rp} (g : Good s) (c : Cm) : Good (addC s c).1 := by
  rcases addC_cases s c with ⟨h1, h2, ⟨_, h⟩ | ⟨h3, _, h⟩⟩ | ⟨h, _⟩
  · rw [h]; exact g
  · rw [h]
    refine ⟨?_, fun i d hd => ?_⟩
    · show (s.1 ++ [c]).Nodup
      rw [List.nodup_append]
      exact ⟨g.nodup, by simp, fun x hx y hy e => by rw [List.mem_singleton] at hy; subst hy; subst e; exact findC_zero.1 h3 hx⟩
    · rcases Nat.lt_or_ge i s.1.length with hi | hi
      · have : s.1[i]? = some d := by rw [← hd]; exact (List.getElem?_append_left hi).symm
        exact g.may i d this
      · have h4 : (s.1 ++ [c])[i]? = some d := hd
        rw [List.getElem?_append_right hi] at h4
        obtain ⟨h5, rfl⟩ := List.getElem?_eq_some_iff.1 h4
        have h6 : i = s.1.length := by simp at h5; omega
        subst h6
        simp only [Nat.sub_self, List.getElem_cons_zero]
        exact ⟨h1, h2⟩
  · rw [h]; exact g
/-- What was put in, or was there, stands at its number, and its parents have lesser ones. -/
theorem Good.num {s : Rp} (g : Good s) {c : Cm} (h : (addC s c).2.2 = 0) : 1 ≤ (addC s c).2.1 ∧ (addC s c).1.1[(addC s c).2.1 - 1]? = some c ∧ ∀ p ∈ c.1, 1 ≤ p ∧ p < ((addC s c).2.1 : Nat) := by
  have hpar : ∀ {i : Nat} {p : Int}, c.1.all (hasN i) = true → p ∈ c.1 → 1 ≤ p ∧ p ≤ (i : Nat) := fun {i p} ha hp => by
    have := List.all_eq_true.1 ha p hp
    unfold hasN at this
    rw [Bool.and_eq_true, decide_eq_true_eq, decide_eq_true_eq] at this
    exact this
  rcases addC_cases s c with ⟨h1, h2, ⟨h3, h4⟩ | ⟨h3, _, h4⟩⟩ | ⟨h1, h2, h3⟩
  · obtain ⟨h5, h6⟩ := findC_get h3
    rw [h4]
    refine ⟨by show 1 ≤ findC s.1 c; omega, h5, fun p hp => ?_⟩
    have := hpar (g.may _ c h5).2 hp
    show 1 ≤ p ∧ p < ((findC s.1 c : Nat) : Int)
    omega
  · rw [h4]
    refine ⟨by show 1 ≤ s.1.length + 1; omega, ?_, fun p hp => ?_⟩
    · show (s.1 ++ [c])[s.1.length + 1 - 1]? = some c
      rw [Nat.add_sub_cancel, List.getElem?_append_right (Nat.le_refl _), Nat.sub_self]
      rfl
    · have := hpar h2 hp
      show 1 ≤ p ∧ p < ((s.1.length + 1 : Nat) : Int)
      omega
  · rcases h3 with h3 | h3 | h3
    · omega
    · omega
    · omega
/-- Put in again it is told its number. -/
theorem Good.again {s : Rp} (g : Good s) {i : Nat} {c : Cm} (h : s.1[i]? = some c) : addC s c = (s, i + 1, 0) ∧ findC s.1 c = i + 1 := by
  have hf := findC_at g.nodup h
  obtain ⟨h1, h2⟩ := g.may i c h
  have hi := (List.getElem?_eq_some_iff.1 h).1
  have h3 : c.1.all (hasN s.1.length) = true := List.all_eq_true.2 (fun p hp => by
    have := List.all_eq_true.1 h2 p hp
    unfold hasN at this ⊢
    rw [Bool.and_eq_true, decide_eq_true_eq, decide_eq_true_eq] at this ⊢
    omega)
  refine ⟨?_, hf⟩
  unfold addC
  rw [if_neg (by rw [h1]; decide), if_neg (by rw [h3]; decide), hf, if_neg (by omega)]

/-! ### One behind the other -/
def stN (r : Nat) (cs : List Cm) : Rp := cs.foldl (fun s c => (addC s c).1) ([], r)
theorem stN_snoc (r : Nat) (cs : List Cm) (c : Cm) : stN r (cs ++ [c]) = (addC (stN r cs) c).1 := by unfold stN; rw [List.foldl_append]; rfl
theorem stN_good (r : Nat) (cs : List Cm) : ∀ k, Good (stN r (cs.take k))
  | 0 => Good.nil r
  | k + 1 => by
    rcases Nat.lt_or_ge k cs.length with h | h
    · rw [List.take_succ_eq_append_getElem h, stN_snoc]
      exact (stN_good r cs k).add _
    · have := stN_good r cs k
      rw [List.take_of_length_le h] at this
      rw [List.take_of_length_le (by omega)]
      exact this
theorem stN_room (r : Nat) (cs : List Cm) : ∀ k, (stN r (cs.take k)).2 = r
  | 0 => rfl
  | k + 1 => by
    rcases Nat.lt_or_ge k cs.length with h | h
    · rw [List.take_succ_eq_append_getElem h, stN_snoc, addC_room]
      exact stN_room r cs k
    · have := stN_room r cs k
      rw [List.take_of_length_le h] at this
      rw [List.take_of_length_le (by omega)]
      exact this
theorem stN_len (r : Nat) (cs : List Cm) : ∀ k, (stN r (cs.take k)).1.length ≤ k
  | 0 => Nat.le_refl _
  | k + 1 => by
    have ih := stN_len r cs k
    rcases Nat.lt_or_ge k cs.length with h | h
    · rw [List.take_succ_eq_append_getElem h, stN_snoc]
      have := addC_len (stN r (cs.take k)) cs[k]
      omega
    · rw [List.take_of_length_le h] at ih
      rw [List.take_of_length_le (by omega)]
      omega
theorem stN_pre (r : Nat) (cs : List Cm) (j : Nat) : ∀ k, j ≤ k → (stN r (cs.take j)).1 <+: (stN r (cs.take k)).1
  | 0, h => by obtain rfl : j = 0 := by omega
               exact List.prefix_refl _
  | k + 1, h => by
    rcases Nat.lt_or_ge k j with hk | hk
    · obtain rfl : j = k + 1 := by omega
      exact List.prefix_refl _
    · have ih := stN_pre r cs j k hk
      rcases Nat.lt_or_ge k cs.length with h2 | h2
      · rw [List.take_succ_eq_append_getElem h2, stN_snoc]
        exact ih.trans (addC_pre _ _)
      · rw [List.take_of_length_le h2] at ih
        rw [List.take_of_length_le (show cs.length ≤ k + 1 by omega)]
        exact ih
/-- The j-th's number, or 0. -/
def numN (r : Nat) (cs : List Cm) (j : Nat) : Nat := (addC (stN r (cs.take j)) (cs.getD j noC)).2.1
def numsN (r : Nat) (cs : List Cm) (k : Nat) : List Int := (List.range k).map (fun j => ((numN r cs j : Nat) : Int))
theorem numsN_length (r : Nat) (cs : List Cm) (k : Nat) : (numsN r cs k).length = k := by unfold numsN; rw [List.length_map, List.length_range]
theorem numsN_succ (r : Nat) (cs : List Cm) (k : Nat) : numsN r cs (k + 1) = numsN r cs k ++ [((numN r cs k : Nat) : Int)] := by unfold numsN; rw [List.range_succ, List.map_append]; rfl
theorem numsN_at {r : Nat} {cs : List Cm} {k j : Nat} (h : j < k) : (numsN r cs k)[j]? = some ((numN r cs j : Nat) : Int) := by
  unfold numsN
  rw [List.getElem?_map, List.getElem?_range h]
  rfl
theorem getD_at {cs : List Cm} {j : Nat} {c : Cm} (h : cs[j]? = some c) : cs.getD j noC = c := by simp [List.getD, h]
theorem num_of {r : Nat} {cs : List Cm} {j : Nat} {c : Cm} (h : cs[j]? = some c) : numN r cs j = (addC (stN r (cs.take j)) c).2.1 := by unfold numN; rw [getD_at h]
theorem take_at {cs : List Cm} {j : Nat} {c : Cm} (h : cs[j]? = some c) : cs.take (j + 1) = cs.take j ++ [c] := by rw [List.take_add_one, h]; rfl
theorem st_at {r : Nat} {cs : List Cm} {j : Nat} {c : Cm} (h : cs[j]? = some c) : stN r (cs.take (j + 1)) = (addC (stN r (cs.take j)) c).1 := by rw [take_at h, stN_snoc]
/-- Which errors there are where there is room. -/
theorem err_of {r : Nat} {cs : List Cm} {j : Nat} (hr : j < r) (c : Cm) : (addC (stN r (cs.take j)) c).2.2 = 0 ∨ ((addC (stN r (cs.take j)) c).2.1 = 0 ∧ ((addC (stN r (cs.take j)) c).2.2 = 6 ∨ (addC (stN r (cs.take j)) c).2.2 = 7)) := by
  have h1 := stN_len r cs j
  have h2 := stN_room r cs j
  rcases addC_cases (stN r (cs.take j)) c with ⟨_, _, ⟨_, h⟩ | ⟨_, _, h⟩⟩ | ⟨_, h3, h4⟩
  · left; rw [h]
  · left; rw [h]
  · right
    refine ⟨h3, ?_⟩
    rcases h4 with h4 | h4 | ⟨_, h4⟩
    · exact .inl h4
    · exact .inr h4
    · omega
/-- Who has a number stands there. -/
theorem stands {r : Nat} {cs : List Cm} {j k : Nat} {c : Cm} (h : cs[j]? = some c) (hr : j < r) (hk : j < k) (hn : 0 < numN r cs j) : (stN r (cs.take k)).1[numN r cs j - 1]? = some c := by
  rw [num_of h] at hn ⊢
  have he : (addC (stN r (cs.take j)) c).2.2 = 0 := by
    rcases err_of (cs := cs) hr c with h1 | h1
    · exact h1
    · omega
  have h2 := ((stN_good r cs j).num he).2.1
  have h3 := stN_pre r cs (j + 1) k hk
  rw [st_at h] at h3
  obtain ⟨t, ht⟩ := h3
  rw [← ht, List.getElem?_append_left (List.getElem?_eq_some_iff.1 h2).1]
  exact h2
theorem num_same {r : Nat} {cs : List Cm} {j k : Nat} {c d : Cm} (hc : cs[j]? = some c) (hd : cs[k]? = some d) (hj : j < k) (hr : k < r) (hn : 0 < numN r cs j) (he : (addC (stN r (cs.take k)) d).2.2 = 0) :
    (decide ((numN r cs j : Int) = ((addC (stN r (cs.take k)) d).2.1 : Nat))) = decide (c = d) := by
  have h1 := stands hc (by omega) (show j < k + 1 by omega) hn
  have h2 := ((stN_good r cs k).num he).2.1
  have h4 := ((stN_good r cs k).num he).1
  rw [← st_at hd] at h2
  have g := stN_good r cs (k + 1)
  rw [decide_eq_decide]
  constructor
  · intro e
    have e : numN r cs j = (addC (stN r (cs.take k)) d).2.1 := by omega
    rw [e] at h1
    exact Option.some.inj (h1.symm.trans h2)
  · intro e
    subst e
    obtain ⟨a1, a2⟩ := List.getElem?_eq_some_iff.1 h1
    obtain ⟨b1, b2⟩ := List.getElem?_eq_some_iff.1 h2
    have := (List.getElem_inj g.nodup).1 (a2.trans b2.symm)
    omega
theorem num_again {r : Nat} {cs : List Cm} {j : Nat} {c : Cm} (h : cs[j]? = some c) (hr : cs.length ≤ r) (hn : 0 < numN r cs j) : addC (stN r cs) c = (stN r cs, numN r cs j, 0) ∧ findC (stN r cs).1 c = numN r cs j := by
  have hj := (List.getElem?_eq_some_iff.1 h).1
  have h1 := stands h (by omega) hj hn
  have g := stN_good r cs cs.length
  rw [List.take_length] at h1 g
  have := g.again h1
  rw [Nat.sub_add_cancel hn] at this
  exact this
end Go.RepoLib
