/-
  What stands, by each place of the first list: as the chapter's own answer goes through it; on lists.
-/
import Derived.Test.YtookalebfbkedaaT3L
namespace Go.DiffLib

/-- A place's number: where its pair leads, or -1. -/
def pv (o : Option Nat) : Int := match o with
  | some j => (j : Int)
  | none => -1
/-- Numbers put at places. -/
def plc (l : List Int) (ps : List (Nat × Nat)) : List Int := ps.foldl (fun l p => l.set p.1 (p.2 : Int)) l
theorem plc_length (ps : List (Nat × Nat)) : ∀ l, (plc l ps).length = l.length := by
  induction ps with
  | nil => intro l; rfl
  | cons p ps ih => intro l; show (plc (l.set p.1 (p.2 : Int)) ps).length = _; rw [ih, List.length_set]
theorem plc_get {n m : Nat} : ∀ (ps : List (Nat × Nat)) (i j : Nat) (l : List Int), Inc n m i j ps → ∀ x, x < l.length → (plc l ps)[x]? = match fx x ps with | some y => some (y : Int) | none => l[x]?
  | [], _, _, _, _, _, _ => rfl
  | p :: ps, i, j, l, h, x, hx => by
    obtain ⟨_, _, _, _, h5⟩ := h
    have ih := plc_get ps (p.1 + 1) (p.2 + 1) (l.set p.1 (p.2 : Int)) h5 x (by rw [List.length_set]; exact hx)
    show (plc (l.set p.1 (p.2 : Int)) ps)[x]? = _
    rw [ih]
    by_cases e : p.1 = x
    · subst e
      rw [fx_none h5 (by omega), fx, if_pos rfl]
      simp [hx]
    · rw [fx, if_neg e]
      cases fx x ps with
      | some y => rfl
      | none => simp [e]
/-- All of base's. -/
def plcs (ps : List (Nat × Nat)) (n : Nat) : List Int := plc (List.replicate n (-1)) ps
theorem plcs_length (ps : List (Nat × Nat)) (n : Nat) : (plcs ps n).length = n := by unfold plcs; rw [plc_length]; simp
theorem plcs_get {n m : Nat} {ps : List (Nat × Nat)} (h : Inc n m 0 0 ps) (x : Nat) (hx : x < n) : (plcs ps n)[x]? = some (pv (fx x ps)) := by
  unfold plcs
  rw [plc_get ps 0 0 _ h x (by simpa using hx)]
  cases fx x ps with
  | some y => rfl
  | none => simp [hx, pv]
theorem pv_neg (o : Option Nat) : pv o < 0 ↔ o = none := by
  cases o with
  | none => simp [pv]
  | some j => simp only [pv]; constructor
              · intro h; omega
              · intro h; cases h
theorem fx_lt {n m : Nat} {ps : List (Nat × Nat)} {i j x y : Nat} (h : Inc n m i j ps) (hf : fx x ps = some y) : y < m := (Inc.mem h _ (fx_mem hf)).2.2.2

section
variable {g : Nat → Option (Nat × Nat)}
theorem sg_skip {N k : Nat} (hk : k < N) (hg : g k = none) : sg g (N - k) k = sg g (N - (k + 1)) (k + 1) := by
  rw [show N - k = (N - (k + 1)) + 1 by omega, sg, hg]
theorem sg_hit {N k u v : Nat} (hk : k < N) (hg : g k = some (u, v)) : sg g (N - k) k = (k, u, v) :: sg g (N - (k + 1)) (k + 1) := by
  rw [show N - k = (N - (k + 1)) + 1 by omega, sg, hg]
theorem sg_from : ∀ (c i : Nat), ∀ s ∈ sg g c i, i ≤ s.1
  | 0, _, s, hs => by simp [sg] at hs
  | c + 1, i, s, hs => by
    rw [sg] at hs
    cases hg : g i with
    | none => rw [hg] at hs; have := sg_from c (i + 1) s hs; omega
    | some q =>
      rw [hg] at hs
      rcases List.mem_cons.1 hs with rfl | hs
      · exact Nat.le_refl _
      · have := sg_from c (i + 1) s hs; omega
theorem rn3_far (S : List Pl) (q : Pl) (h : ∀ s ∈ S, q.1 < s.1) : rn3 S q = 0 := by
  cases S with
  | nil => rfl
  | cons s r =>
    have := h s List.mem_cons_self
    rw [rn3, if_neg]
    rintro rfl
    omega
theorem rn3_sg_zero {c : Nat} {q : Pl} (h : g q.1 ≠ some (q.2.1, q.2.2)) : rn3 (sg g c q.1) q = 0 := by
  cases c with
  | zero => rfl
  | succ c =>
    rw [sg]
    cases hg : g q.1 with
    | none => exact rn3_far _ _ (fun s hs => by have := sg_from c (q.1 + 1) s hs; omega)
    | some r =>
      show rn3 ((q.1, r.1, r.2) :: sg g c (q.1 + 1)) q = 0
      rw [rn3, if_neg]
      intro e
      apply h
      rw [hg, ← e]
end
theorem both_some {ps qs : List (Nat × Nat)} {i u v : Nat} : both ps qs i = some (u, v) ↔ fx i ps = some u ∧ fx i qs = some v := by
  unfold both
  cases fx i ps <;> cases fx i qs <;> simp
theorem both_none {ps qs : List (Nat × Nat)} {i : Nat} : both ps qs i = none ↔ fx i ps = none ∨ fx i qs = none := by
  unfold both
  cases fx i ps <;> cases fx i qs <;> simp
end Go.DiffLib
