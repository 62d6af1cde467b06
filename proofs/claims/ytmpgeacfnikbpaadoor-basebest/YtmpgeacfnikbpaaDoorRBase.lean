/-
  What two commits have in common, and the best of it, as plain lists of numbers. No program is named here.
-/
import Derived.Test.YtmpgeacfnikbpaaDoorRRefD
namespace Go.DagLib
open Go.RepoLib

/-- From 1 up to n. -/
def upto1 (n : Nat) : List Nat := (down n).reverse
theorem up_mem {n k : Nat} : k ∈ upto1 n ↔ 1 ≤ k ∧ k ≤ n := by unfold upto1; rw [List.mem_reverse, down_mem]
theorem up_rise (n : Nat) : (upto1 n).Pairwise (fun x y => x < y) := by unfold upto1; rw [List.pairwise_reverse]; exact down_falls n
/-- All that is ahead of both, rising. -/
def comL (L : List Cm) (a b : Int) : List Int := ((upto1 L.length).map (fun (p : Nat) => (p : Int))).filter (fun x => decide (x ∈ aheadI L a) && decide (x ∈ aheadI L b))
/-- Those of which no other one came. -/
def bestL (L : List Cm) (a b : Int) : List Int := (comL L a b).filter (fun x => (comL L a b).all (fun y => decide (x = y) || !decide (x ∈ aheadI L y)))
section
variable {L : List Cm}
theorem has_nat' {b : Nat} (h1 : 1 ≤ b) (h2 : b ≤ L.length) : hasN L.length (b : Int) = true := by
  unfold hasN
  rw [Bool.and_eq_true, decide_eq_true_eq, decide_eq_true_eq]
  omega
theorem aheadI_range' {n x : Int} (h : x ∈ aheadI L n) : (1 ≤ x ∧ x ≤ (L.length : Int)) ∧ (1 ≤ n ∧ n ≤ (L.length : Int)) := by
  unfold aheadI at h
  split at h
  · rename_i hh
    obtain ⟨k, hk, rfl⟩ := List.mem_map.1 h
    have hk2 := (List.mem_filter.1 hk).1
    rw [down_mem] at hk2
    unfold hasN at hh
    rw [Bool.and_eq_true, decide_eq_true_eq, decide_eq_true_eq] at hh
    omega
  · cases h
theorem in_ahead' (hl : Low (parL L)) {a b : Nat} (h1 : 1 ≤ b) (h2 : b ≤ L.length) : ((a : Int) ∈ aheadI L (b : Int)) ↔ 1 ≤ a ∧ isA (parL L) a b = true := by
  unfold aheadI
  rw [has_nat' h1 h2, if_pos rfl, show ((b : Int)).toNat = b from Int.toNat_natCast b, ← ahead_mem hl, List.mem_map]
  constructor
  · rintro ⟨x, hx, e⟩
    have : x = a := by omega
    rw [← this]
    exact hx
  · intro h
    exact ⟨a, h, rfl⟩
theorem nat_of {x : Int} (h : 1 ≤ x) : ∃ n : Nat, x = (n : Int) := ⟨x.toNat, by omega⟩
theorem aheadI_trans (hl : Low (parL L)) {x y z : Int} (h1 : x ∈ aheadI L y) (h2 : y ∈ aheadI L z) : x ∈ aheadI L z := by
  obtain ⟨⟨a1, a2⟩, b1, b2⟩ := aheadI_range' h1
  obtain ⟨_, c1, c2⟩ := aheadI_range' h2
  obtain ⟨x, rfl⟩ := nat_of a1
  obtain ⟨y, rfl⟩ := nat_of b1
  obtain ⟨z, rfl⟩ := nat_of c1
  rw [in_ahead' hl (by omega) (by omega)] at h1 h2 ⊢
  exact ⟨h1.1, isA_trans hl h1.2 h2.2⟩
theorem aheadI_self (hl : Low (parL L)) {x : Int} (h1 : 1 ≤ x) (h2 : x ≤ (L.length : Int)) : x ∈ aheadI L x := by
  obtain ⟨x, rfl⟩ := nat_of h1
  exact (in_ahead' hl (by omega) (by omega)).2 ⟨by omega, isA_self hl x⟩
theorem aheadI_le (hl : Low (parL L)) {x y : Int} (h : x ∈ aheadI L y) : x ≤ y := by
  obtain ⟨⟨a1, a2⟩, b1, b2⟩ := aheadI_range' h
  obtain ⟨x, rfl⟩ := nat_of a1
  obtain ⟨y, rfl⟩ := nat_of b1
  rw [in_ahead' hl (by omega) (by omega)] at h
  have := isA_le hl h.2
  omega
theorem aheadI_falls' (n : Int) : (aheadI L n).Pairwise (fun x y => y < x) := by
  unfold aheadI
  split
  · rw [List.pairwise_map]
    exact (ahead_falls (par := parL L) n.toNat).imp (fun h => by omega)
  · exact List.Pairwise.nil
theorem com_mem {a b x : Int} : x ∈ comL L a b ↔ x ∈ aheadI L a ∧ x ∈ aheadI L b := by
  unfold comL
  rw [List.mem_filter, Bool.and_eq_true, decide_eq_true_iff, decide_eq_true_iff]
  constructor
  · exact fun h => h.2
  · intro h
    refine ⟨?_, h⟩
    obtain ⟨⟨h1, h2⟩, _⟩ := aheadI_range' h.1
    obtain ⟨k, rfl⟩ := nat_of h1
    exact List.mem_map.2 ⟨k, up_mem.2 ⟨by omega, by omega⟩, rfl⟩
theorem com_rise (a b : Int) : (comL L a b).Pairwise (fun x y => x < y) := by
  unfold comL
  refine List.Pairwise.filter _ ?_
  rw [List.pairwise_map]
  exact (up_rise _).imp (fun h => by omega)
theorem com_len (a b : Int) : (comL L a b).length ≤ L.length := by
  unfold comL
  refine Nat.le_trans (List.length_filter_le _ _) ?_
  rw [List.length_map]
  unfold upto1
  rw [List.length_reverse, down_length]
  exact Nat.le_refl _
theorem best_len (a b : Int) : (bestL L a b).length ≤ L.length := by
  unfold bestL
  exact Nat.le_trans (List.length_filter_le _ _) (com_len a b)
theorem best_mem {a b x : Int} : x ∈ bestL L a b ↔ x ∈ comL L a b ∧ ∀ y ∈ comL L a b, x = y ∨ ¬ x ∈ aheadI L y := by
  unfold bestL
  rw [List.mem_filter, List.all_eq_true]
  refine and_congr Iff.rfl (forall_congr' fun y => forall_congr' fun _ => ?_)
  rw [Bool.or_eq_true, decide_eq_true_iff, Bool.not_eq_true', decide_eq_false_iff_not]
theorem best_rise (a b : Int) : (bestL L a b).Pairwise (fun x y => x < y) := List.Pairwise.filter _ (com_rise a b)
theorem com_swap (a b : Int) : comL L a b = comL L b a := by
  unfold comL
  refine List.filter_congr (fun x _ => ?_)
  rw [Bool.and_comm]
theorem best_swap (a b : Int) : bestL L a b = bestL L b a := by unfold bestL; rw [com_swap]
/-- Each common one is ahead of a best one, or is one. -/
theorem com_under (hl : Low (parL L)) {a b : Int} : ∀ (f : Nat) (x : Int), x ∈ comL L a b → (L.length : Int) - x < (f : Int) → ∃ y ∈ bestL L a b, x ∈ aheadI L y := by
  intro f
  induction f with
  | zero =>
    intro x hx hf
    have := (aheadI_range' (com_mem.1 hx).1).1
    omega
  | succ f ih =>
    intro x hx hf
    by_cases h : x ∈ bestL L a b
    · have := (aheadI_range' (com_mem.1 hx).1).1
      exact ⟨x, h, aheadI_self hl this.1 this.2⟩
    · have : ∃ y ∈ comL L a b, ¬ x = y ∧ x ∈ aheadI L y := Classical.byContradiction fun hn => h (best_mem.2 ⟨hx, fun y hy => by
        by_cases e : x = y
        · exact .inl e
        · exact .inr (fun e2 => hn ⟨y, hy, e, e2⟩)⟩)
      obtain ⟨y, hy, hne, hxy⟩ := this
      have hlt := aheadI_le hl hxy
      obtain ⟨z, hz, hyz⟩ := ih y hy (by omega)
      exact ⟨z, hz, aheadI_trans hl hxy hyz⟩
theorem com_best (hl : Low (parL L)) {a b x : Int} (hx : x ∈ comL L a b) : ∃ y ∈ bestL L a b, x ∈ aheadI L y :=
  com_under hl ((L.length : Int) - x + 1).toNat x hx (by have := (aheadI_range' (com_mem.1 hx).1).1; omega)
/-- Of one that came of the other the other is the only best one. -/
theorem best_one (hl : Low (parL L)) {a b : Int} (h : a ∈ aheadI L b) : bestL L a b = [a] := by
  have ha := (aheadI_range' h).1
  have hac : a ∈ comL L a b := com_mem.2 ⟨aheadI_self hl ha.1 ha.2, h⟩
  have h1 : ∀ x, x ∈ bestL L a b ↔ x = a := by
    intro x
    constructor
    · intro hx
      obtain ⟨hx1, hx2⟩ := best_mem.1 hx
      rcases hx2 a hac with e | e
      · exact e
      · exact absurd (com_mem.1 hx1).1 e
    · rintro rfl
      refine best_mem.2 ⟨hac, fun y hy => ?_⟩
      by_cases e : x = y
      · exact .inl e
      · refine .inr (fun e2 => ?_)
        have h1 := aheadI_le hl e2
        have h2 := aheadI_le hl (com_mem.1 hy).1
        omega
  have hr := best_rise (L := L) a b
  generalize bestL L a b = l at h1 hr
  cases l with
  | nil => exact absurd ((h1 a).2 rfl) (by simp)
  | cons x t =>
    obtain rfl := (h1 x).1 (by simp)
    cases t with
    | nil => rfl
    | cons y t =>
      obtain rfl := (h1 y).1 (by simp)
      have := (List.pairwise_cons.1 hr).1 y (by simp)
      omega
end
/-- Rising lists of the same numbers are one. -/
theorem rise_ext : ∀ {l m : List Int}, l.Pairwise (fun x y => x < y) → m.Pairwise (fun x y => x < y) → (∀ x, x ∈ l ↔ x ∈ m) → l = m
  | [], [], _, _, _ => rfl
  | [], y :: m, _, _, h => absurd ((h y).2 (by simp)) (by simp)
  | x :: l, [], _, _, h => absurd ((h x).1 (by simp)) (by simp)
  | x :: l, y :: m, hl, hm, h => by
    obtain ⟨h1, h2⟩ := List.pairwise_cons.1 hl
    obtain ⟨h3, h4⟩ := List.pairwise_cons.1 hm
    have hxy : x = y := by
      have a1 : x ∈ y :: m := (h x).1 (by simp)
      have a2 : y ∈ x :: l := (h y).2 (by simp)
      rcases List.mem_cons.1 a1 with e | e
      · exact e
      · rcases List.mem_cons.1 a2 with e2 | e2
        · exact e2.symm
        · have := h3 x e; have := h1 y e2; omega
    subst hxy
    congr 1
    refine rise_ext h2 h4 (fun z => ⟨fun hz => ?_, fun hz => ?_⟩)
    · have := h1 z hz
      rcases List.mem_cons.1 ((h z).1 (List.mem_cons_of_mem _ hz)) with e | e
      · omega
      · exact e
    · have := h3 z hz
      rcases List.mem_cons.1 ((h z).2 (List.mem_cons_of_mem _ hz)) with e | e
      · omega
      · exact e
/-- What two falling lists have in common, rising. -/
def cmL (X Y : List Int) : List Int := (X.filter (fun t => decide (t ∈ Y))).reverse
theorem cm_nil_left (Y : List Int) : cmL [] Y = [] := rfl
theorem cm_nil_right (X : List Int) : cmL X [] = [] := by unfold cmL; simp
theorem cm_both {X Y : List Int} {u : Int} (hX : (X ++ [u]).Pairwise (fun x y => y < x)) : cmL (X ++ [u]) (Y ++ [u]) = u :: cmL X Y := by
  unfold cmL
  rw [List.filter_append, show [u].filter (fun t => decide (t ∈ Y ++ [u])) = [u] from by simp, List.reverse_append]
  show u :: (X.filter (fun t => decide (t ∈ Y ++ [u]))).reverse = u :: (X.filter (fun t => decide (t ∈ Y))).reverse
  congr 2
  refine List.filter_congr (fun t ht => ?_)
  have := (List.pairwise_append.1 hX).2.2 t ht u (by simp)
  rw [decide_eq_decide, List.mem_append]
  exact ⟨fun h => h.elim id (fun e => by have : t = u := by simpa using e
                                         omega), .inl⟩
theorem cm_left {X Y : List Int} {u v : Int} (hY : (Y ++ [v]).Pairwise (fun x y => y < x)) (h : u < v) : cmL (X ++ [u]) (Y ++ [v]) = cmL X (Y ++ [v]) := by
  unfold cmL
  have hu : ¬ u ∈ Y ++ [v] := fun e => by
    rcases List.mem_append.1 e with e | e
    · have := (List.pairwise_append.1 hY).2.2 u e v (by simp); omega
    · have : u = v := by simpa using e
      omega
  rw [List.filter_append, show [u].filter (fun t => decide (t ∈ Y ++ [v])) = [] from by simp [List.filter, hu], List.append_nil]
theorem cm_right {X Y : List Int} {u v : Int} (hX : (X ++ [u]).Pairwise (fun x y => y < x)) (h : v < u) : cmL (X ++ [u]) (Y ++ [v]) = cmL (X ++ [u]) Y := by
  unfold cmL
  congr 1
  refine List.filter_congr (fun t ht => ?_)
  rw [decide_eq_decide, List.mem_append]
  refine ⟨fun h1 => h1.elim id (fun e => ?_), .inl⟩
  have e' : t = v := by simpa using e
  rcases List.mem_append.1 ht with e2 | e2
  · have := (List.pairwise_append.1 hX).2.2 t e2 u (by simp); omega
  · have : t = u := by simpa using e2
    omega
theorem cm_com (L : List Cm) (a b : Int) : cmL (aheadI L a) (aheadI L b) = comL L a b := by
  refine rise_ext ?_ (com_rise a b) (fun x => ?_)
  · unfold cmL
    rw [List.pairwise_reverse]
    exact List.Pairwise.filter _ (aheadI_falls' a)
  · unfold cmL
    rw [List.mem_reverse, List.mem_filter, decide_eq_true_iff, com_mem]
/-- The best ones behind a place. -/
def bestD (L : List Cm) (a b : Int) (k : Nat) : List Int := ((comL L a b).drop k).filter (fun x => decide (x ∈ bestL L a b))
theorem bestD_start (L : List Cm) (a b : Int) : bestD L a b (comL L a b).length = [] := by unfold bestD; rw [List.drop_length]; rfl
theorem bestD_end (L : List Cm) (a b : Int) : bestD L a b 0 = bestL L a b := by
  unfold bestD
  rw [List.drop_zero]
  refine rise_ext (List.Pairwise.filter _ (com_rise a b)) (best_rise a b) (fun x => ?_)
  rw [List.mem_filter, decide_eq_true_iff]
  exact ⟨fun h => h.2, fun h => ⟨(best_mem.1 h).1, h⟩⟩
theorem bestD_step {L : List Cm} {a b : Int} {k : Nat} {x : Int} (h : (comL L a b)[k]? = some x) : bestD L a b k = if x ∈ bestL L a b then x :: bestD L a b (k + 1) else bestD L a b (k + 1) := by
  unfold bestD
  obtain ⟨hk, rfl⟩ := List.getElem?_eq_some_iff.1 h
  rw [List.drop_eq_getElem_cons hk, List.filter_cons]
  simp only [decide_eq_true_eq]
/-- Is the number ahead of a best one behind the place? -/
def covL (L : List Cm) (a b : Int) (k j : Nat) : Bool := (bestD L a b k).any (fun z => decide ((j : Int) ∈ aheadI L z))
theorem cov_start (L : List Cm) (a b : Int) (j : Nat) : covL L a b (comL L a b).length j = false := by unfold covL; rw [bestD_start]; rfl
theorem cov_step {L : List Cm} {a b : Int} {k : Nat} {x : Int} (h : (comL L a b)[k]? = some x) (j : Nat) : covL L a b k j = (if x ∈ bestL L a b then decide ((j : Int) ∈ aheadI L x) || covL L a b (k + 1) j else covL L a b (k + 1) j) := by
  unfold covL
  rw [bestD_step h]
  split
  · rw [List.any_cons]
  · rfl
theorem cov_is {L : List Cm} (hl : Low (parL L)) {a b : Int} {k : Nat} {x : Nat} (h : (comL L a b)[k]? = some (x : Int)) : covL L a b (k + 1) x = !decide ((x : Int) ∈ bestL L a b) := by
  have hxc : (x : Int) ∈ comL L a b := List.mem_of_getElem? h
  unfold covL
  cases hb : decide ((x : Int) ∈ bestL L a b) with
  | true =>
    rw [decide_eq_true_iff] at hb
    show _ = false
    rw [List.any_eq_false]
    intro z hz e
    rw [decide_eq_true_iff] at e
    unfold bestD at hz
    rw [List.mem_filter, decide_eq_true_iff] at hz
    rcases (best_mem.1 hb).2 z (best_mem.1 hz.2).1 with e2 | e2
    · obtain ⟨hk, hk2⟩ := List.getElem?_eq_some_iff.1 h
      obtain ⟨i, hi, hi2⟩ := List.mem_iff_getElem.1 hz.1
      rw [List.length_drop] at hi
      rw [List.getElem_drop] at hi2
      have := List.pairwise_iff_getElem.1 (com_rise (L := L) a b) k (k + 1 + i) hk (by omega) (by omega)
      rw [hk2, hi2, e2] at this
      omega
    · exact e2 e
  | false =>
    rw [decide_eq_false_iff_not] at hb
    show _ = true
    obtain ⟨z, hz, hxz⟩ := com_best hl hxc
    have hne : ¬ (x : Int) = z := fun e => hb (e ▸ hz)
    have hlt := aheadI_le hl hxz
    rw [List.any_eq_true]
    refine ⟨z, ?_, decide_eq_true hxz⟩
    unfold bestD
    rw [List.mem_filter]
    refine ⟨?_, decide_eq_true hz⟩
    obtain ⟨i, hi, hi2⟩ := List.mem_iff_getElem.1 (best_mem.1 hz).1
    obtain ⟨hk, hk2⟩ := List.getElem?_eq_some_iff.1 h
    have hki : k < i := by
      rcases Nat.lt_trichotomy k i with e | e | e
      · exact e
      · subst e; rw [hk2] at hi2; exact absurd hi2 hne
      · have := List.pairwise_iff_getElem.1 (com_rise (L := L) a b) i k hi hk e
        rw [hk2, hi2] at this
        omega
    refine List.mem_iff_getElem.2 ⟨i - (k + 1), by rw [List.length_drop]; omega, ?_⟩
    rw [List.getElem_drop]
    have : k + 1 + (i - (k + 1)) = i := by omega
    simp only [this]
    exact hi2
end Go.DagLib
