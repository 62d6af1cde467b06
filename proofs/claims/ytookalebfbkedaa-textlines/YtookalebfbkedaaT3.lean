/-
  Two changes of one list: what stands, the parts, what they come to: on lists, with no program.
-/
import Derived.Test.YtookalebfbkedaaDLib
namespace Go.DiffLib

/-- A place in three lists. -/
abbrev Pl := Nat × Nat × Nat
/-- So many further. -/
def on (p : Pl) (n : Nat) : Pl := (p.1 + n, p.2.1 + n, p.2.2 + n)
theorem on_zero (p : Pl) : on p 0 = p := rfl
theorem on_on (p : Pl) (n m : Nat) : on (on p n) m = on p (n + m) := by simp [on, Nat.add_assoc]

/-- Pairs from a place of the first list on. -/
def dw (i : Nat) : List (Nat × Nat) → List (Nat × Nat)
  | [] => []
  | q :: qs => if q.1 < i then dw i qs else q :: qs
/-- The first of them, if it is at that place. -/
def hd3 (p : Nat × Nat) : List (Nat × Nat) → List Pl
  | [] => []
  | q :: _ => if q.1 = p.1 then [(p.1, p.2, q.2)] else []
/-- What stands. -/
def sd : List (Nat × Nat) → List (Nat × Nat) → List Pl
  | [], _ => []
  | p :: ps, qs => hd3 p (dw p.1 qs) ++ sd ps (dw p.1 qs)

theorem dw_step (i : Nat) (q : Nat × Nat) (qs : List (Nat × Nat)) : dw i (q :: qs) = if q.1 < i then dw i qs else q :: qs := rfl
theorem dw_sub (i : Nat) (qs : List (Nat × Nat)) : ∀ q ∈ dw i qs, q ∈ qs := by
  induction qs with
  | nil => intro q h; exact h
  | cons q qs ih =>
    intro x hx
    rw [dw_step] at hx
    split at hx
    · exact List.mem_cons_of_mem _ (ih x hx)
    · exact hx
theorem sd_sub (ps qs : List (Nat × Nat)) : ∀ s ∈ sd ps qs, (s.1, s.2.1) ∈ ps ∧ (s.1, s.2.2) ∈ qs := by
  induction ps generalizing qs with
  | nil => intro s hs; simp [sd] at hs
  | cons p ps ih =>
    intro s hs
    rw [sd, List.mem_append] at hs
    rcases hs with hs | hs
    · have h := dw_sub p.1 qs
      cases hd : dw p.1 qs with
      | nil => rw [hd] at hs; simp [hd3] at hs
      | cons q r =>
        rw [hd] at hs h
        simp only [hd3] at hs
        split at hs
        · rename_i e
          rw [List.mem_singleton] at hs
          subst hs
          refine ⟨List.mem_cons_self, ?_⟩
          have := h q List.mem_cons_self
          simp only
          rw [← e]
          exact this
        · simp at hs
    · obtain ⟨h1, h2⟩ := ih _ s hs
      exact ⟨List.mem_cons_of_mem _ h1, dw_sub _ _ _ h2⟩
theorem sd_tail (ps qs : List (Nat × Nat)) (q : Nat × Nat) (h : ∀ p ∈ ps, q.1 < p.1) : sd ps (q :: qs) = sd ps qs := by
  cases ps with
  | nil => rfl
  | cons p ps =>
    have := h p List.mem_cons_self
    rw [sd, sd, dw_step, if_pos this]

theorem Inc.mem {n m : Nat} : ∀ {ps : List (Nat × Nat)} {i j : Nat}, Inc n m i j ps → ∀ p ∈ ps, i ≤ p.1 ∧ j ≤ p.2 ∧ p.1 < n ∧ p.2 < m
  | [], _, _, _, p, hp => by simp at hp
  | q :: qs, i, j, h, p, hp => by
    obtain ⟨h1, h2, h3, h4, h5⟩ := h
    rcases List.mem_cons.1 hp with rfl | hp
    · exact ⟨h1, h2, h3, h4⟩
    · have := Inc.mem h5 p hp
      omega
theorem Inc.dw {n m : Nat} : ∀ {qs : List (Nat × Nat)} {i j : Nat} (k : Nat), Inc n m i j qs → i ≤ k → k ≤ n → Inc n m k j (Go.DiffLib.dw k qs)
  | [], i, j, k, h, h1, h2 => ⟨h2, h.2⟩
  | q :: qs, i, j, k, h, h1, h2 => by
    obtain ⟨g1, g2, g3, g4, g5⟩ := h
    rw [dw_step]
    split
    · exact (Inc.dw k g5 (by omega) h2).less (Nat.le_refl _) (by omega)
    · exact ⟨by omega, g2, g3, g4, g5⟩

/-- Places that rise, up to an end. -/
def Inc3 (e : Pl) : Pl → List Pl → Prop
  | s, [] => s.1 ≤ e.1 ∧ s.2.1 ≤ e.2.1 ∧ s.2.2 ≤ e.2.2
  | s, p :: ps => s.1 ≤ p.1 ∧ s.2.1 ≤ p.2.1 ∧ s.2.2 ≤ p.2.2 ∧ p.1 < e.1 ∧ p.2.1 < e.2.1 ∧ p.2.2 < e.2.2 ∧ Inc3 e (on p 1) ps
theorem Inc3.less {e s t : Pl} {ps : List Pl} (h : Inc3 e s ps) (h1 : t.1 ≤ s.1) (h2 : t.2.1 ≤ s.2.1) (h3 : t.2.2 ≤ s.2.2) : Inc3 e t ps := by
  cases ps with
  | nil => obtain ⟨a, b, c⟩ := h; exact ⟨by omega, by omega, by omega⟩
  | cons p ps => obtain ⟨a, b, c, d⟩ := h; exact ⟨by omega, by omega, by omega, d⟩
theorem Inc3.le {e s : Pl} {ps : List Pl} (h : Inc3 e s ps) : s.1 ≤ e.1 ∧ s.2.1 ≤ e.2.1 ∧ s.2.2 ≤ e.2.2 := by
  cases ps with
  | nil => exact h
  | cons p ps => obtain ⟨a, b, c, d, e, f, _⟩ := h; exact ⟨by omega, by omega, by omega⟩
theorem sd_inc {n m k : Nat} : ∀ {ps qs : List (Nat × Nat)} {i j l : Nat}, Inc n m i j ps → Inc n k i l qs → Inc3 (n, m, k) (i, j, l) (sd ps qs)
  | [], qs, i, j, l, h, g => ⟨h.le.1, h.le.2, g.le.2⟩
  | p :: ps, qs, i, j, l, h, g => by
    obtain ⟨h1, h2, h3, h4, h5⟩ := h
    have g' := g.dw p.1 h1 (by omega)
    rw [sd]
    cases hd : dw p.1 qs with
    | nil =>
      rw [hd] at g'
      have : Inc n k (p.1 + 1) l [] := ⟨by omega, g'.2⟩
      have ih := sd_inc h5 this
      exact ih.less (by simp only; omega) (by simp only; omega) (Nat.le_refl _)
    | cons q r =>
      rw [hd] at g'
      obtain ⟨g1, g2, g3, g4, g5⟩ := g'
      by_cases e : q.1 = p.1
      · have ih := sd_inc h5 (e ▸ g5)
        rw [hd3, if_pos e, sd_tail ps r q (fun x hx => by have := Inc.mem h5 x hx; omega)]
        exact ⟨h1, h2, g2, h3, h4, g4, ih⟩
      · have : Inc n k (p.1 + 1) l (q :: r) := ⟨by omega, g2, g3, g4, g5⟩
        have ih := sd_inc h5 this
        rw [hd3, if_neg e]
        exact ih.less (by simp only; omega) (by simp only; omega) (Nat.le_refl _)
theorem Inc3.length {e : Pl} : ∀ {ps : List Pl} {s : Pl}, Inc3 e s ps → s.1 + ps.length ≤ e.1
  | [], s, h => by simpa using h.1
  | p :: ps, s, h => by
    obtain ⟨h1, _, _, _, _, _, h7⟩ := h
    have := Inc3.length h7
    simp only [on] at this
    rw [List.length_cons]; omega

/-- How many stand one behind the other. -/
def rn3 : List Pl → Pl → Nat
  | [], _ => 0
  | p :: ps, q => if p = q then rn3 ps (on q 1) + 1 else 0
theorem rn3_le (ps : List Pl) : ∀ q, rn3 ps q ≤ ps.length := by
  induction ps with
  | nil => intro q; exact Nat.le_refl _
  | cons p ps ih => intro q; unfold rn3; split <;> simp; exact ih _
theorem rn3_self (p : Pl) (ps : List Pl) : rn3 (p :: ps) p = rn3 ps (on p 1) + 1 := by rw [rn3, if_pos rfl]
theorem rn3_at (ps : List Pl) (q : Pl) (k : Nat) (hk : k < ps.length) : rn3 (ps.drop k) (on q k) = if ps[k] = on q k then rn3 (ps.drop (k + 1)) (on q (k + 1)) + 1 else 0 := by
  rw [List.drop_eq_getElem_cons hk, rn3, on_on]
theorem rn3_get : ∀ (ps : List Pl) (q : Pl) (k : Nat), k < rn3 ps q → ps[k]? = some (on q k)
  | [], q, k, h => by simp [rn3] at h
  | p :: ps, q, k, h => by
    unfold rn3 at h
    split at h
    · rename_i e
      cases k with
      | zero => simp [e, on_zero]
      | succ k => rw [List.getElem?_cons_succ, rn3_get ps (on q 1) k (by omega), on_on]; simp [Nat.add_comm 1]
    · omega
theorem Inc3.run {e : Pl} : ∀ {ps : List Pl} {s : Pl}, Inc3 e s ps → Inc3 e (on s (rn3 ps s)) (ps.drop (rn3 ps s))
  | [], s, h => h
  | p :: ps, s, h => by
    unfold rn3
    split
    · rename_i e1
      obtain ⟨_, _, _, _, _, _, h7⟩ := h
      rw [e1] at h7
      have := Inc3.run h7
      rw [List.drop_succ_cons, Nat.add_comm, ← on_on]
      exact this
    · exact h
/-- From the first on. -/
theorem Inc3.first {e s p : Pl} {ps : List Pl} (h : Inc3 e s (p :: ps)) : Inc3 e p (p :: ps) := by
  obtain ⟨_, _, _, h4, h5, h6, h7⟩ := h
  exact ⟨Nat.le_refl _, Nat.le_refl _, Nat.le_refl _, h4, h5, h6, h7⟩

section
variable {α : Type}
/-- What lies from a place to another. -/
def cut (l : List α) (i j : Nat) : List α := (l.take j).drop i
theorem cut_length (l : List α) (i j : Nat) : (cut l i j).length ≤ l.length := by unfold cut; rw [List.length_drop, List.length_take]; omega
theorem cut_drop (l : List α) (i j : Nat) (h : i ≤ j) : cut l i j ++ l.drop j = l.drop i := by
  unfold cut
  have h1 := List.take_append_drop (j - i) (l.drop i)
  rw [List.drop_drop, show i + (j - i) = j by omega] at h1
  rw [List.drop_take]
  exact h1
theorem cut_all (l : List α) (i : Nat) : cut l i l.length = l.drop i := by unfold cut; rw [List.take_length]
theorem cut_get (l : List α) (i n k : Nat) : (cut l i (i + n))[k]? = if k < n then l[i + k]? else none := by
  unfold cut
  rw [List.getElem?_drop, List.getElem?_take]
  by_cases h : k < n
  · rw [if_pos h, if_pos (by omega)]
  · rw [if_neg h, if_neg (by omega)]

end

section
variable {α : Type} [DecidableEq α]
/-- A part. -/
structure Prt (α : Type) where
  c : Bool
  o : List α
  a : List α
  b : List α
def mk3 (o a b : List α) : Prt α := ⟨decide (¬ a = b ∧ ¬ a = o ∧ ¬ b = o), o, a, b⟩
def prt (o a b : List α) (s t : Pl) : Prt α := mk3 (cut o s.1 t.1) (cut a s.2.1 t.2.1) (cut b s.2.2 t.2.2)
/-- The parts, from a place on. -/
def pt (o a b : List α) : Nat → List Pl → Pl → List (Prt α)
  | 0, _, _ => []
  | _ + 1, [], at_ => if at_ = (o.length, a.length, b.length) then [] else [prt o a b at_ (o.length, a.length, b.length)]
  | f + 1, s :: r, at_ => (if s = at_ then [] else [prt o a b at_ s]) ++ prt o a b s (on s (rn3 (s :: r) s)) :: pt o a b f ((s :: r).drop (rn3 (s :: r) s)) (on s (rn3 (s :: r) s))
/-- What stands in three lists. -/
def std (o a b : List α) : List Pl := sd (pr o a 0 0) (pr o b 0 0)
def parts (o a b : List α) : List (Prt α) := pt o a b (o.length + 1) (std o a b) (0, 0, 0)
def pick (p : Prt α) : List α := if p.a = p.b ∨ p.b = p.o then p.a else p.b
/-- What parts come to. -/
def gather : List (Prt α) → Option (List α)
  | [] => some []
  | p :: r => if p.c = true then none else (gather r).map (fun t => pick p ++ t)
def mrg (o a b : List α) : Option (List α) := gather (parts o a b)

theorem std_inc (o a b : List α) : Inc3 (o.length, a.length, b.length) (0, 0, 0) (std o a b) := sd_inc (pr_inc0 o a) (pr_inc0 o b)
theorem std_length (o a b : List α) : (std o a b).length ≤ o.length := by
  have := (std_inc o a b).length
  simpa using this
theorem std_like (o a b : List α) : ∀ s ∈ std o a b, ∃ x, o[s.1]? = some x ∧ a[s.2.1]? = some x ∧ b[s.2.2]? = some x := by
  intro s hs
  obtain ⟨h1, h2⟩ := sd_sub _ _ s hs
  obtain ⟨_, _, x, e1, e2⟩ := pr_like o a 0 0 _ h1
  obtain ⟨_, _, y, e3, e4⟩ := pr_like o b 0 0 _ h2
  simp only [Nat.sub_zero] at e1 e2 e3 e4
  rw [e1] at e3
  cases e3
  exact ⟨x, e1, e2, e4⟩

/-- One step of the parts. -/
theorem pt_cons (o a b : List α) (f : Nat) (s : Pl) (r : List Pl) (at_ : Pl) : pt o a b (f + 1) (s :: r) at_ = (if s = at_ then [] else [prt o a b at_ s]) ++ prt o a b s (on s (rn3 (s :: r) s)) :: pt o a b f ((s :: r).drop (rn3 (s :: r) s)) (on s (rn3 (s :: r) s)) := rfl
theorem pt_nil (o a b : List α) (f : Nat) (at_ : Pl) : pt o a b (f + 1) [] at_ = if at_ = (o.length, a.length, b.length) then [] else [prt o a b at_ (o.length, a.length, b.length)] := rfl
theorem drop_less (s : Pl) (r : List Pl) : ((s :: r).drop (rn3 (s :: r) s)).length ≤ r.length := by
  rw [rn3_self, List.length_drop, List.length_cons]; omega

/-- By steps. -/
theorem pt_length (o a b : List α) : ∀ (f : Nat) (S : List Pl) (at_ : Pl), (pt o a b f S at_).length ≤ 2 * S.length + 1
  | 0, _, _ => by simp [pt]
  | f + 1, [], at_ => by rw [pt_nil]; split <;> simp
  | f + 1, s :: r, at_ => by
    rw [pt_cons]
    have ih := pt_length o a b f ((s :: r).drop (rn3 (s :: r) s)) (on s (rn3 (s :: r) s))
    have := drop_less s r
    rw [List.length_append, List.length_cons, List.length_cons]
    split <;> simp <;> omega
theorem pt_fuel (o a b : List α) : ∀ (f g : Nat) (S : List Pl) (at_ : Pl), S.length < f → S.length < g → pt o a b f S at_ = pt o a b g S at_
  | 0, _, _, _, h, _ => by omega
  | _ + 1, 0, _, _, _, h => by omega
  | f + 1, g + 1, [], at_, _, _ => rfl
  | f + 1, g + 1, s :: r, at_, h1, h2 => by
    have := drop_less s r
    rw [List.length_cons] at h1 h2
    rw [pt_cons, pt_cons, pt_fuel o a b f g _ _ (by omega) (by omega)]
/-- All parts' pieces of one list. -/
theorem pt_whole (o a b l : List α) (π : Prt α → List α) (σ : Pl → Nat) (hπ : ∀ s t, π (prt o a b s t) = cut l (σ s) (σ t)) (hE : σ (o.length, a.length, b.length) = l.length)
    (hσ : ∀ p q : Pl, p.1 ≤ q.1 → p.2.1 ≤ q.2.1 → p.2.2 ≤ q.2.2 → σ p ≤ σ q) :
    ∀ (f : Nat) (S : List Pl) (at_ : Pl), S.length < f → Inc3 (o.length, a.length, b.length) at_ S → (pt o a b f S at_).flatMap π = l.drop (σ at_)
  | 0, _, _, h, _ => by omega
  | f + 1, [], at_, _, hI => by
    rw [pt_nil]
    split
    · rename_i e
      rw [e, hE, List.drop_length]; rfl
    · simp only [List.flatMap_cons, List.flatMap_nil, List.append_nil]
      rw [hπ, hE, cut_all]
  | f + 1, s :: r, at_, h1, hI => by
    have := drop_less s r
    rw [List.length_cons] at h1
    have ih := pt_whole o a b l π σ hπ hE hσ f ((s :: r).drop (rn3 (s :: r) s)) (on s (rn3 (s :: r) s)) (by omega) hI.first.run
    rw [pt_cons, List.flatMap_append, List.flatMap_cons, ih, hπ, cut_drop _ _ _ (hσ _ _ (by simp [on]) (by simp [on]) (by simp [on]))]
    split
    · rename_i e
      rw [e]; rfl
    · simp only [List.flatMap_cons, List.flatMap_nil, List.append_nil]
      rw [hπ, cut_drop _ _ _ (hσ _ _ hI.1 hI.2.1 hI.2.2.1)]
theorem parts_o (o a b : List α) : (parts o a b).flatMap (·.o) = o :=
  pt_whole o a b o (·.o) (·.1) (fun _ _ => rfl) rfl (fun _ _ h _ _ => h) _ _ _ (by have := std_length o a b; omega) (std_inc o a b)
theorem parts_a (o a b : List α) : (parts o a b).flatMap (·.a) = a :=
  pt_whole o a b a (·.a) (·.2.1) (fun _ _ => rfl) rfl (fun _ _ _ h _ => h) _ _ _ (by have := std_length o a b; omega) (std_inc o a b)
theorem parts_b (o a b : List α) : (parts o a b).flatMap (·.b) = b :=
  pt_whole o a b b (·.b) (·.2.2) (fun _ _ => rfl) rfl (fun _ _ _ _ h => h) _ _ _ (by have := std_length o a b; omega) (std_inc o a b)
/-- What holds of all parts, as it holds of pieces between places of a kind. -/
theorem pt_all (o a b : List α) (K : Pl → Prop) (Q : Prt α → Prop) (hE : K (o.length, a.length, b.length)) (hon : ∀ s n, K s → K (on s n)) (hQ : ∀ s t, K s → K t → Q (prt o a b s t)) :
    ∀ (f : Nat) (S : List Pl) (at_ : Pl), (∀ s ∈ S, K s) → K at_ → ∀ p ∈ pt o a b f S at_, Q p
  | 0, _, _, _, _, p, hp => by simp [pt] at hp
  | f + 1, [], at_, hS, hK, p, hp => by
    rw [pt_nil] at hp
    split at hp
    · simp at hp
    · rw [List.mem_singleton] at hp
      subst hp
      exact hQ _ _ hK hE
  | f + 1, s :: r, at_, hS, hK, p, hp => by
    have hs := hS s List.mem_cons_self
    rw [pt_cons, List.mem_append, List.mem_cons] at hp
    rcases hp with hp | rfl | hp
    · split at hp
      · simp at hp
      · rw [List.mem_singleton] at hp
        subst hp
        exact hQ _ _ hK hs
    · exact hQ _ _ hs (hon _ _ hs)
    · exact pt_all o a b K Q hE hon hQ f _ _ (fun x hx => hS x (List.mem_of_mem_drop hx)) (hon _ _ hs) p hp
theorem parts_mk (o a b : List α) : ∀ p ∈ parts o a b, p = mk3 p.o p.a p.b :=
  pt_all o a b (fun _ => True) (fun p => p = mk3 p.o p.a p.b) trivial (fun _ _ _ => trivial) (fun _ _ _ _ => rfl) _ _ _ (fun _ _ => trivial) trivial
theorem parts_lens (o a b : List α) : ∀ p ∈ parts o a b, p.o.length ≤ o.length ∧ p.a.length ≤ a.length ∧ p.b.length ≤ b.length :=
  pt_all o a b (fun _ => True) (fun p => p.o.length ≤ o.length ∧ p.a.length ≤ a.length ∧ p.b.length ≤ b.length) trivial (fun _ _ _ => trivial) (fun _ _ _ _ => ⟨cut_length _ _ _, cut_length _ _ _, cut_length _ _ _⟩) _ _ _ (fun _ _ => trivial) trivial
theorem parts_length (o a b : List α) : (parts o a b).length ≤ 2 * o.length + 1 := by
  have := pt_length o a b (o.length + 1) (std o a b) (0, 0, 0)
  have := std_length o a b
  unfold parts
  omega
/-- Where none is a conflict. -/
theorem gather_some (ps : List (Prt α)) (h : ∀ p ∈ ps, p.c = false) : gather ps = some (ps.flatMap pick) := by
  induction ps with
  | nil => rfl
  | cons p r ih =>
    rw [gather, if_neg (by rw [h p List.mem_cons_self]; simp), ih (fun x hx => h x (List.mem_cons_of_mem _ hx)), Option.map_some, List.flatMap_cons]
theorem gather_none (ps : List (Prt α)) (h : ¬ ∀ p ∈ ps, p.c = false) : gather ps = none := by
  induction ps with
  | nil => exact absurd (by simp) h
  | cons p r ih =>
    rw [gather]
    cases hc : p.c with
    | true => rw [if_pos rfl]
    | false =>
      rw [if_neg (by simp), ih (fun h2 => h (fun x hx => by
        rcases List.mem_cons.1 hx with rfl | hx
        · exact hc
        · exact h2 x hx)), Option.map_none]
theorem mk3_c (o a b : List α) : (mk3 o a b).c = false ↔ a = b ∨ a = o ∨ b = o := by
  unfold mk3
  simp only [decide_eq_false_iff_not]
  by_cases h1 : a = b
  · simp [h1]
  · by_cases h2 : a = o
    · simp [h2]
    · by_cases h3 : b = o
      · simp [h3]
      · simp [h1, h2, h3]
end
end Go.DiffLib
