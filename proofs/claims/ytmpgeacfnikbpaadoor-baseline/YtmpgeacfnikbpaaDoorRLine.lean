/-
  Lines of commits: a trunk, and two lines that come of its last one. No program is named here.
-/
import Derived.Test.YtmpgeacfnikbpaaDoorRBase
import Derived.Test.YtmpgeacfnikbpaaDoorRMade
namespace Go.DagLib
open Go.RepoLib

/-- The parents' numbers: a trunk of T, a line of l, a line of r. -/
def lnX (T l r : Nat) : List Nat := List.range T ++ (List.range l).map (fun k => T + k) ++ (List.range r).map (fun k => if k = 0 then T else T + l + k)
theorem lnX_length (T l r : Nat) : (lnX T l r).length = T + l + r := by unfold lnX; simp; omega
theorem lnX_get {T l r j : Nat} (h : j < T + l + r) : (lnX T l r)[j]? = some (if j = T + l then T else j) := by
  unfold lnX
  by_cases h1 : j < T + l
  · rw [List.getElem?_append_left (by simp; omega), if_neg (by omega)]
    by_cases h2 : j < T
    · rw [List.getElem?_append_left (by simp; omega), List.getElem?_range h2]
    · rw [List.getElem?_append_right (by simp; omega), List.length_range, List.getElem?_map, List.getElem?_range (by omega)]
      show some (T + (j - T)) = _
      congr 1
      omega
  · rw [List.getElem?_append_right (by simp; omega), List.length_append, List.length_map, List.length_range, List.length_range, List.getElem?_map, List.getElem?_range (by omega)]
    show some (if j - (T + l) = 0 then T else T + l + (j - (T + l))) = _
    by_cases h2 : j = T + l
    · rw [if_pos (by omega), if_pos h2]
    · rw [if_neg (by omega), if_neg h2]
      congr 1
      omega
theorem mkP_one {j x : Nat} (h1 : x < 100) (h2 : x ≤ j) : mkP j x = if 1 ≤ x then [x] else [] := by
  unfold mkP
  rw [if_neg (by omega), List.nil_append, show x % 100 = x by omega]
  by_cases h : 1 ≤ x
  · rw [if_pos ⟨h, h2, by omega⟩, if_pos h]
  · rw [if_neg (by omega), if_neg h]
/-- Which are ahead of which on the lines. -/
theorem line_is {T l r : Nat} (hT : 1 ≤ T) (hN : T + l + r < 100) : ∀ (n k : Nat), 1 ≤ n → n ≤ T + l + r → 1 ≤ k → (isA (parL (mkL 0 (lnX T l r))) k n = true ↔ k ≤ n ∧ (n ≤ T + l ∨ k ≤ T ∨ T + l < k)) := by
  intro n
  induction n using Nat.strongRecOn with
  | ind n ih =>
    intro k h1 h2 hk
    have hl : Low (parL (mkL 0 (lnX T l r))) := (made_ok _).low
    obtain ⟨j, rfl⟩ : ∃ j, n = j + 1 := ⟨n - 1, by omega⟩
    rw [isA_eq hl, parL_made (lnX_get (by omega)), mkP_one (by split <;> omega) (by split <;> omega), Bool.or_eq_true, beq_iff_eq]
    by_cases hj : j = T + l
    · rw [if_pos hj, if_pos hT, List.any_cons, List.any_nil, Bool.or_false, ih T (by omega) k hT (by omega) hk]
      omega
    · rw [if_neg hj]
      by_cases h0 : 1 ≤ j
      · rw [if_pos h0, List.any_cons, List.any_nil, Bool.or_false, ih j (by omega) k h0 (by omega) hk]
        omega
      · rw [if_neg h0, List.any_nil]
        constructor
        · rintro (h | h)
          · omega
          · cases h
        · intro h
          exact .inl (by omega)
section
variable {L : List Cm}
/-- One that all the common ones are ahead of is the only best one. -/
theorem best_top (hl : Low (parL L)) {a b w : Int} (h1 : w ∈ comL L a b) (h2 : ∀ x ∈ comL L a b, x ∈ aheadI L w) : bestL L a b = [w] := by
  refine rise_ext (best_rise a b) (List.pairwise_singleton _ _) (fun x => ?_)
  rw [List.mem_singleton]
  constructor
  · intro hx
    obtain ⟨hx1, hx2⟩ := best_mem.1 hx
    rcases hx2 w h1 with e | e
    · exact e
    · exact absurd (h2 x hx1) e
  · rintro rfl
    refine best_mem.2 ⟨h1, fun y hy => ?_⟩
    by_cases e : x = y
    · exact .inl e
    · refine .inr (fun e2 => ?_)
      have h3 := aheadI_le hl e2
      have h4 := aheadI_le hl (h2 y hy)
      omega
end
def lineC (T l w : Nat) : List Nat := if w ≤ T + l then upto1 w else upto1 T ++ List.range' (T + l + 1) (w - (T + l))
theorem upto1_length (n : Nat) : (upto1 n).length = n := by unfold upto1; rw [List.length_reverse, down_length]
theorem lineC_length (T l w : Nat) : (lineC T l w).length = if w ≤ T + l then w else T + (w - (T + l)) := by
  unfold lineC
  split
  · exact upto1_length w
  · rw [List.length_append, upto1_length, List.length_range']
theorem lineC_mem {T l w k : Nat} : k ∈ lineC T l w ↔ 1 ≤ k ∧ k ≤ w ∧ (w ≤ T + l ∨ k ≤ T ∨ T + l < k) := by
  unfold lineC
  split
  · rw [up_mem]; omega
  · rw [List.mem_append, up_mem, List.mem_range'_1]; omega
theorem lineC_rise (T l w : Nat) : (lineC T l w).Pairwise (fun x y => x < y) := by
  unfold lineC
  split
  · exact up_rise w
  · rw [List.pairwise_append]
    refine ⟨up_rise T, List.pairwise_lt_range', fun x hx y hy => ?_⟩
    rw [up_mem] at hx
    rw [List.mem_range'_1] at hy
    omega
/-- The best of two on the lines. -/
def wantN (T l a b : Nat) : Nat := if T < min a b ∧ T + l < max a b ∧ min a b ≤ T + l then T else min a b
def deepN (T l w : Nat) : Nat := if T + l < w then w - l else w
theorem line_facts {T l r a b : Nat} (hT : 1 ≤ T) (hN : T + l + r < 100) (ha : 1 ≤ a ∧ a ≤ T + l + r) (hb : 1 ≤ b ∧ b ≤ T + l + r) : bestL (mkL 0 (lnX T l r)) a b = [(wantN T l a b : Int)] ∧ (comL (mkL 0 (lnX T l r)) a b).length = deepN T l (wantN T l a b) := by
  obtain ⟨w, hw⟩ : ∃ w, wantN T l a b = w := ⟨_, rfl⟩
  rw [hw]
  have hw0 : 1 ≤ w ∧ w ≤ T + l + r := by unfold wantN at hw; split at hw <;> omega
  have hlow : Low (parL (mkL 0 (lnX T l r))) := (made_ok _).low
  have hL : (mkL 0 (lnX T l r)).length = T + l + r := by rw [mkL_length, lnX_length]
  have hA : ∀ n k : Nat, 1 ≤ n → n ≤ T + l + r → (((k : Int) ∈ aheadI (mkL 0 (lnX T l r)) (n : Int)) ↔ 1 ≤ k ∧ k ≤ n ∧ (n ≤ T + l ∨ k ≤ T ∨ T + l < k)) := fun n k h1 h2 => by
    rw [in_ahead' hlow h1 (by omega)]
    constructor
    · rintro ⟨h3, h4⟩
      exact ⟨h3, (line_is hT hN n k h1 h2 h3).1 h4⟩
    · rintro ⟨h3, h4⟩
      exact ⟨h3, (line_is hT hN n k h1 h2 h3).2 h4⟩
  have hC : ∀ k : Nat, ((k : Int) ∈ comL (mkL 0 (lnX T l r)) a b) ↔ (1 ≤ k ∧ k ≤ w ∧ (w ≤ T + l ∨ k ≤ T ∨ T + l < k)) := fun k => by
    rw [com_mem, hA a k ha.1 ha.2, hA b k hb.1 hb.2]
    unfold wantN at hw
    split at hw <;> omega
  have hCI : comL (mkL 0 (lnX T l r)) a b = (lineC T l w).map (fun (k : Nat) => (k : Int)) := by
    refine rise_ext (com_rise _ _) (by rw [List.pairwise_map]; exact (lineC_rise T l w).imp (fun h => by omega)) (fun x => ?_)
    rw [List.mem_map]
    constructor
    · intro hx
      obtain ⟨k, rfl⟩ := nat_of (aheadI_range' (com_mem.1 hx).1).1.1
      exact ⟨k, lineC_mem.2 ((hC k).1 hx), rfl⟩
    · rintro ⟨k, hk, rfl⟩
      exact (hC k).2 (lineC_mem.1 hk)
  refine ⟨best_top hlow ((hC w).2 ⟨hw0.1, Nat.le_refl _, by unfold wantN at hw; split at hw <;> omega⟩) (fun x hx => ?_), ?_⟩
  · obtain ⟨k, rfl⟩ := nat_of (aheadI_range' (com_mem.1 hx).1).1.1
    exact (hA w k hw0.1 hw0.2).2 ((hC k).1 hx)
  · rw [hCI, List.length_map, lineC_length]
    unfold deepN
    unfold wantN at hw
    split at hw <;> split <;> split <;> omega
end Go.DagLib
