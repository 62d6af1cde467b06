/-
  More of what two lists have in common, on lists: sums of steps, a list and itself.
-/
import Derived.Test.YtafaihbfhcpjiaaDLib
namespace Go.DiffLib

/-- The sum of the first k. -/
def sm (f : Nat × Nat × Nat → Nat) (ns : List (Nat × Nat × Nat)) (k : Nat) : Nat := ((ns.take k).map f).sum
theorem sm_zero (f : Nat × Nat × Nat → Nat) (ns : List (Nat × Nat × Nat)) : sm f ns 0 = 0 := by simp [sm]
theorem sm_succ (f : Nat × Nat × Nat → Nat) (ns : List (Nat × Nat × Nat)) (k : Nat) (h : k < ns.length) : sm f ns (k + 1) = sm f ns k + f ns[k] := by
  unfold sm
  rw [List.take_succ_eq_append_getElem h, List.map_append, List.sum_append]
  simp
theorem sm_all (f : Nat × Nat × Nat → Nat) (ns : List (Nat × Nat × Nat)) : sm f ns ns.length = (ns.map f).sum := by simp [sm]
theorem sm_le (f : Nat × Nat × Nat → Nat) (ns : List (Nat × Nat × Nat)) (k : Nat) : sm f ns k ≤ (ns.map f).sum := by
  unfold sm
  have h := List.take_append_drop k ns
  have e : (ns.map f).sum = ((ns.take k ++ ns.drop k).map f).sum := by rw [h]
  rw [e, List.map_append, List.sum_append]
  omega

theorem rn_diag (n : Nat) : ∀ i j, rn ((List.range n).map (fun k => (i + k, j + k))) i j = n := by
  induction n with
  | zero => intro i j; rfl
  | succ n ih =>
    intro i j
    rw [List.range_succ_eq_map, List.map_cons]
    show (if (i + 0, j + 0) = (i, j) then rn _ (i + 1) (j + 1) + 1 else 0) = _
    rw [if_pos (show (i + 0, j + 0) = (i, j) from rfl), List.map_map]
    have := ih (i + 1) (j + 1)
    simp only [Function.comp_def]
    rw [show (fun k => (i + Nat.succ k, j + Nat.succ k)) = (fun k => (i + 1 + k, j + 1 + k)) from funext fun k => by rw [Prod.mk.injEq]; constructor <;> omega, this]

theorem Inc.get {n m : Nat} : ∀ {ps : List (Nat × Nat)} {i j : Nat}, Inc n m i j ps → ∀ k p q, ps[k]? = some p → ps[k + 1]? = some q → p.1 < q.1 ∧ p.2 < q.2
  | [], _, _, _, k, p, q, h1, _ => by simp at h1
  | [x], _, _, _, k, p, q, h1, h2 => by simp at h2
  | x :: y :: r, i, j, h, 0, p, q, h1, h2 => by
    obtain ⟨_, _, _, _, h5, h6, _⟩ := h
    simp at h1 h2
    subst h1 h2
    omega
  | x :: y :: r, i, j, h, k + 1, p, q, h1, h2 => by
    obtain ⟨_, _, _, _, h5⟩ := h
    exact Inc.get h5 k p q (by simpa using h1) (by simpa using h2)

section
variable {α : Type} [DecidableEq α]
/-- What both begin with, and end with. -/
theorem ends_tl (h a b t : List α) : tl (h ++ a ++ t) (h ++ b ++ t) = h.length + tl a b + t.length := by rw [tl_tail, tl_head]
theorem ends_at (h a b t : List α) (k : Nat) (hk : k < h.length) : (pr (h ++ a ++ t) (h ++ b ++ t) 0 0)[k]? = some (k, k) := by
  rw [List.append_assoc, List.append_assoc, pr_head, List.getElem?_append_left (by simpa using hk), List.getElem?_map, List.getElem?_range hk]
  simp
theorem pr_self (a : List α) : pr a a 0 0 = (List.range a.length).map (fun k => (0 + k, 0 + k)) := by
  have := pr_head a [] [] 0 0
  rw [List.append_nil, pr_nil, List.append_nil] at this
  exact this
theorem stp_self (a : List α) : stp a a = if a = [] then [] else [((a.length : Int), 0, 0)] := by
  unfold stp
  rw [pr_self]
  by_cases h : a = []
  · rw [if_pos h, st_done _ _ _ _ _ _ (by rw [h]; simp)]
    rfl
  · have hl : 0 < a.length := List.length_pos_iff.2 h
    rw [if_neg h, st_step _ _ _ _ _ _ (.inl hl) (by omega), rn_diag, List.drop_eq_nil_of_le (by simp)]
    rw [st_done _ _ _ _ _ _ (by simp [nx])]
    simp [nx, up]
/-- The steps as numbers that are not below 0. -/
abbrev stn (a b : List α) : List (Nat × Nat × Nat) := st (a.length + b.length) (pr a b 0 0) 0 0 a.length b.length
theorem stn_sums (a b : List α) : ((stn a b).map (·.1)).sum = tl a b ∧ ((stn a b).map (·.1)).sum + ((stn a b).map (·.2.1)).sum = a.length ∧ ((stn a b).map (·.1)).sum + ((stn a b).map (·.2.2)).sum = b.length := by
  have := st_sum (a.length + b.length) (pr a b 0 0) 0 0 a.length b.length (pr_inc0 a b) (by omega)
  rw [pr_length, Nat.zero_add] at this
  exact this
theorem stn_shape (a b : List α) : (∀ k s, (stn a b)[k + 1]? = some s → 0 < s.1) ∧ (∀ k s, (stn a b)[k]? = some s → k + 1 < (stn a b).length → 0 < s.2.1 + s.2.2) :=
  st_shape (a.length + b.length) (pr a b 0 0) 0 0 a.length b.length (pr_inc0 a b) (by omega)
end
end Go.DiffLib
