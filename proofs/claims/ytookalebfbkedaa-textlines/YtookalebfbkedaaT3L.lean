/-
  Two changes of one list: which is which, like ones, their texts, what is put in ahead and behind, what all three begin with; on lists.
-/
import Derived.Test.YtookalebfbkedaaT3
namespace Go.DiffLib

/-! By each place of the first list. -/
/-- Where a place's pair leads. -/
def fx (i : Nat) : List (Nat × Nat) → Option Nat
  | [] => none
  | p :: ps => if p.1 = i then some p.2 else fx i ps
def both (ps qs : List (Nat × Nat)) (i : Nat) : Option (Nat × Nat) := match fx i ps, fx i qs with
  | some u, some v => some (u, v)
  | _, _ => none
/-- What stands of so many from a place on. -/
def sg (g : Nat → Option (Nat × Nat)) : Nat → Nat → List Pl
  | 0, _ => []
  | c + 1, i => match g i with
    | some q => (i, q.1, q.2) :: sg g c (i + 1)
    | none => sg g c (i + 1)
theorem sg_congr {g h : Nat → Option (Nat × Nat)} : ∀ (c i : Nat), (∀ x, i ≤ x → g x = h x) → sg g c i = sg h c i
  | 0, _, _ => rfl
  | c + 1, i, e => by
    rw [sg, sg, e i (Nat.le_refl _), sg_congr c (i + 1) (fun x hx => e x (by omega))]
theorem fx_none {n m : Nat} : ∀ {ps : List (Nat × Nat)} {i j x : Nat}, Inc n m i j ps → x < i → fx x ps = none
  | [], _, _, _, _, _ => rfl
  | p :: ps, i, j, x, h, hx => by
    obtain ⟨h1, _, _, _, h5⟩ := h
    rw [fx, if_neg (by omega)]
    exact fx_none h5 (by omega)
theorem fx_tail (p : Nat × Nat) (ps : List (Nat × Nat)) (x : Nat) (h : p.1 < x) : fx x (p :: ps) = fx x ps := by rw [fx, if_neg (by omega)]
theorem both_left {ps qs : List (Nat × Nat)} {i : Nat} (h : fx i ps = none) : both ps qs i = none := by unfold both; rw [h]
theorem both_right {ps qs : List (Nat × Nat)} {i : Nat} (h : fx i qs = none) : both ps qs i = none := by unfold both; rw [h]; cases fx i ps <;> rfl
theorem sd_sg {n m k : Nat} : ∀ (c : Nat) {ps qs : List (Nat × Nat)} {i j l : Nat}, i + c = n → Inc n m i j ps → Inc n k i l qs → sd ps qs = sg (both ps qs) c i
  | 0, ps, qs, i, j, l, hc, h, g => by
    cases ps with
    | nil => rfl
    | cons p ps => obtain ⟨h1, _, h3, _⟩ := h; omega
  | c + 1, ps, qs, i, j, l, hc, h, g => by
    rw [sg]
    -- the second list without a pair of this place
    have hq : ∃ qs' l', Inc n k (i + 1) l' qs' ∧ (∀ x, i + 1 ≤ x → fx x qs = fx x qs') ∧ ((qs' = qs ∧ fx i qs = none) ∨ ∃ v, qs = (i, v) :: qs' ∧ fx i qs = some v) := by
      cases qs with
      | nil => exact ⟨[], l, ⟨by omega, g.2⟩, fun _ _ => rfl, .inl ⟨rfl, rfl⟩⟩
      | cons q qs =>
        obtain ⟨g1, g2, g3, g4, g5⟩ := g
        obtain ⟨q1, q2⟩ := q
        by_cases e : q1 = i
        · subst e
          exact ⟨qs, q2 + 1, g5, fun x hx => fx_tail _ _ _ (by simp only; omega), .inr ⟨q2, rfl, by rw [fx, if_pos rfl]⟩⟩
        · have hI : Inc n k (i + 1) l ((q1, q2) :: qs) := ⟨by simp only at g1 ⊢; omega, g2, g3, g4, g5⟩
          exact ⟨(q1, q2) :: qs, l, hI, fun _ _ => rfl, .inl ⟨rfl, fx_none hI (by omega)⟩⟩
    obtain ⟨qs', l', gI, gx, gc⟩ := hq
    cases ps with
    | nil =>
      rw [both_left rfl]
      have ih := sd_sg c (ps := []) (qs := qs') (i := i + 1) (j := j) (l := l') (by omega) ⟨by omega, h.2⟩ gI
      show sd [] qs' = _
      rw [ih]
      exact sg_congr c (i + 1) (fun x hx => by unfold both; rw [gx x hx])
    | cons p ps =>
      obtain ⟨h1, h2, h3, h4, h5⟩ := h
      obtain ⟨p1, p2⟩ := p
      by_cases e : p1 = i
      · subst e
        have hps : ∀ p ∈ ps, p1 < p.1 := fun p hp => by have := Inc.mem h5 p hp; simp only at this; omega
        have hlt : ∀ q ∈ qs', p1 < q.1 := fun q hq => by have := Inc.mem gI q hq; omega
        have ih := sd_sg c (by omega) h5 gI
        have hco : sg (both ((p1, p2) :: ps) qs) c (p1 + 1) = sg (both ps qs') c (p1 + 1) := sg_congr c (p1 + 1) (fun x hx => by unfold both; rw [gx x hx, fx_tail _ _ _ (by simp only; omega)])
        rw [hco, ← ih, sd]
        rcases gc with ⟨rfl, gn⟩ | ⟨v, rfl, gs⟩
        · rw [both_right gn]
          cases qs' with
          | nil => rfl
          | cons q r =>
            have := hlt q List.mem_cons_self
            rw [dw_step, if_neg (by simp only; omega), hd3, if_neg (by simp only; omega)]
            rfl
        · have hb : both ((p1, p2) :: ps) ((p1, v) :: qs') p1 = some (p2, v) := by unfold both; rw [gs, fx, if_pos rfl]
          rw [hb, dw_step, if_neg (by simp only; omega), hd3, if_pos rfl, sd_tail ps qs' _ (fun p hp => hps p hp)]
          rfl
      · have hI : Inc n m (i + 1) j ((p1, p2) :: ps) := ⟨by simp only at h1 ⊢; omega, h2, h3, h4, h5⟩
        rw [both_left (fx_none hI (by omega))]
        have ih := sd_sg c (by omega) hI gI
        have hco : sg (both ((p1, p2) :: ps) qs) c (i + 1) = sg (both ((p1, p2) :: ps) qs') c (i + 1) := sg_congr c (i + 1) (fun x hx => by unfold both; rw [gx x hx])
        show _ = sg (both ((p1, p2) :: ps) qs) c (i + 1)
        rw [hco, ← ih]
        rcases gc with ⟨rfl, _⟩ | ⟨v, rfl, _⟩
        · rfl
        · exact sd_tail _ _ _ (fun p hp => by have := Inc.mem hI p hp; simp only; omega)

/-- Sides changed. -/
def swP (p : Pl) : Pl := (p.1, p.2.2, p.2.1)
theorem swP_inj {p q : Pl} : swP p = swP q ↔ p = q := by
  obtain ⟨a, b, c⟩ := p
  obtain ⟨d, e, f⟩ := q
  simp only [swP, Prod.mk.injEq]
  constructor
  · rintro ⟨h1, h2, h3⟩; exact ⟨h1, h3, h2⟩
  · rintro ⟨h1, h2, h3⟩; exact ⟨h1, h3, h2⟩
theorem swP_on (p : Pl) (n : Nat) : swP (on p n) = on (swP p) n := rfl
theorem both_comm (ps qs : List (Nat × Nat)) (i : Nat) : both qs ps i = (both ps qs i).map (fun q => (q.2, q.1)) := by
  unfold both
  cases fx i ps <;> cases fx i qs <;> rfl
theorem sg_sw (ps qs : List (Nat × Nat)) : ∀ (c i : Nat), sg (both qs ps) c i = (sg (both ps qs) c i).map swP
  | 0, _ => rfl
  | c + 1, i => by
    rw [sg, sg, both_comm ps qs i, sg_sw ps qs c (i + 1)]
    cases both ps qs i <;> rfl
theorem rn3_map (φ : Pl → Pl) (hi : ∀ p q, φ p = φ q ↔ p = q) (ho : ∀ p n, φ (on p n) = on (φ p) n) : ∀ (ps : List Pl) (q : Pl), rn3 (ps.map φ) (φ q) = rn3 ps q
  | [], _ => rfl
  | p :: ps, q => by
    rw [List.map_cons, rn3, rn3, ← ho, rn3_map φ hi ho ps (on q 1)]
    by_cases e : p = q
    · rw [if_pos e, if_pos ((hi _ _).2 e)]
    · rw [if_neg e, if_neg (fun h => e ((hi _ _).1 h))]

theorem flat_same {α β : Type} {l : List α} {f g : α → List β} (h : ∀ x ∈ l, f x = g x) : l.flatMap f = l.flatMap g := by
  induction l with
  | nil => rfl
  | cons x l ih => rw [List.flatMap_cons, List.flatMap_cons, h x List.mem_cons_self, ih (fun y hy => h y (List.mem_cons_of_mem _ hy))]
section
variable {α : Type}
theorem cut_like (l m : List α) (i j n : Nat) (h : ∀ k, k < n → l[i + k]? = m[j + k]?) : cut l i (i + n) = cut m j (j + n) := by
  refine List.ext_getElem? fun k => ?_
  rw [cut_get, cut_get]
  split
  · rename_i hk; exact h k hk
  · rfl
theorem cut_head (h l : List α) (i j : Nat) : cut (h ++ l) (i + h.length) (j + h.length) = cut l i j := by
  unfold cut
  rw [Nat.add_comm j, List.take_length_add_append, Nat.add_comm i, List.drop_length_add_append]
/-- What is fast is alike. -/
theorem fast_like (o a b : List α) (S : List Pl) (hS : ∀ s ∈ S, ∃ x, o[s.1]? = some x ∧ a[s.2.1]? = some x ∧ b[s.2.2]? = some x) (q : Pl) (n : Nat) (hn : n ≤ rn3 S q) :
    cut a q.2.1 (q.2.1 + n) = cut o q.1 (q.1 + n) ∧ cut b q.2.2 (q.2.2 + n) = cut o q.1 (q.1 + n) := by
  have h : ∀ k, k < n → a[q.2.1 + k]? = o[q.1 + k]? ∧ b[q.2.2 + k]? = o[q.1 + k]? := by
    intro k hk
    obtain ⟨x, h1, h2, h3⟩ := hS _ (List.mem_of_getElem? (rn3_get S q k (by omega)))
    simp only [on] at h1 h2 h3
    rw [h1, h2, h3]
    exact ⟨rfl, rfl⟩
  exact ⟨cut_like _ _ _ _ _ (fun k hk => (h k hk).1), cut_like _ _ _ _ _ (fun k hk => (h k hk).2)⟩

end
section
variable {α : Type} [DecidableEq α]
/-- Parts of lists and places that are turned alike. -/
theorem pt_turn {β : Type} [DecidableEq β] (o a b : List α) (o' a' b' : List β) (φ : Pl → Pl) (ψ : Prt α → Prt β) (hi : ∀ p q, φ p = φ q ↔ p = q) (ho : ∀ p n, φ (on p n) = on (φ p) n)
    (hE : φ (o.length, a.length, b.length) = (o'.length, a'.length, b'.length)) (hp : ∀ s t, prt o' a' b' (φ s) (φ t) = ψ (prt o a b s t)) :
    ∀ (f : Nat) (S : List Pl) (at_ : Pl), pt o' a' b' f (S.map φ) (φ at_) = (pt o a b f S at_).map ψ
  | 0, _, _ => rfl
  | f + 1, [], at_ => by
    rw [List.map_nil, pt_nil, pt_nil, ← hE, hp]
    by_cases e : at_ = (o.length, a.length, b.length)
    · rw [if_pos e, if_pos ((hi _ _).2 e)]; rfl
    · rw [if_neg e, if_neg (fun h => e ((hi _ _).1 h))]; rfl
  | f + 1, s :: r, at_ => by
    have ih := pt_turn o a b o' a' b' φ ψ hi ho hE hp f ((s :: r).drop (rn3 (s :: r) s)) (on s (rn3 (s :: r) s))
    have hr := rn3_map φ hi ho (s :: r) s
    rw [List.map_cons] at hr
    rw [List.map_cons, pt_cons, pt_cons, hr, ← List.map_cons, ← List.map_drop, ← ho, ih, hp, hp, List.map_append, List.map_cons]
    congr 1
    by_cases e : s = at_
    · rw [if_pos e, if_pos ((hi _ _).2 e)]; rfl
    · rw [if_neg e, if_neg (fun h => e ((hi _ _).1 h))]; rfl
def swR (p : Prt α) : Prt α := ⟨p.c, p.o, p.b, p.a⟩
theorem mk3_sw (o a b : List α) : mk3 o b a = swR (mk3 o a b) := by
  unfold mk3 swR
  simp only
  congr 1
  by_cases h1 : a = b
  · simp [h1]
  · have h1' : ¬ b = a := fun e => h1 e.symm
    simp [h1, h1', and_comm]
theorem std_sg (o a b : List α) : std o a b = sg (both (pr o a 0 0) (pr o b 0 0)) o.length 0 := sd_sg o.length (by omega) (pr_inc0 o a) (pr_inc0 o b)
theorem std_sw (o a b : List α) : std o b a = (std o a b).map swP := by rw [std_sg, std_sg, sg_sw]
theorem parts_sw (o a b : List α) : parts o b a = (parts o a b).map swR := by
  unfold parts
  rw [std_sw]
  exact pt_turn o a b o b a swP swR (fun _ _ => swP_inj) swP_on rfl (fun s t => mk3_sw _ _ _) _ _ (0, 0, 0)
theorem pick_sw (o a b : List α) (h : (mk3 o a b).c = false) : pick (swR (mk3 o a b)) = pick (mk3 o a b) := by
  rw [mk3_c] at h
  unfold pick swR mk3
  simp only
  by_cases h1 : a = b
  · simp [h1]
  · have h1' : ¬ b = a := fun e => h1 e.symm
    by_cases h2 : a = o
    · have h3 : ¬ b = o := fun e => h1 (h2.trans e.symm)
      rw [if_pos (.inr h2), if_neg (by rintro (e | e); exact h1 e; exact h3 e)]
    · have h3 : b = o := by rcases h with h | h | h; exact absurd h h1; exact absurd h h2; exact h
      rw [if_neg (by rintro (e | e); exact h1' e; exact h2 e), if_pos (.inr h3)]
theorem gather_sw : ∀ (ps : List (Prt α)), (∀ p ∈ ps, p = mk3 p.o p.a p.b) → gather (ps.map swR) = gather ps
  | [], _ => rfl
  | p :: ps, h => by
    have hp := h p List.mem_cons_self
    rw [List.map_cons, gather, gather, gather_sw ps (fun x hx => h x (List.mem_cons_of_mem _ hx))]
    show (if p.c = true then _ else _) = _
    cases hc : p.c with
    | true => rfl
    | false =>
      have : pick (swR p) = pick p := by rw [hp]; exact pick_sw _ _ _ (by rw [← hp]; exact hc)
      rw [this]
theorem mrg_sw (o a b : List α) : mrg o b a = mrg o a b := by
  unfold mrg
  rw [parts_sw, gather_sw _ (parts_mk o a b)]

theorem parts_c (o a b : List α) {p : Prt α} (hp : p ∈ parts o a b) (h : p.a = p.b ∨ p.a = p.o ∨ p.b = p.o) : p.c = false := by
  rw [parts_mk o a b p hp]
  exact (mk3_c _ _ _).2 h
theorem fx_mem {i u : Nat} : ∀ {ps : List (Nat × Nat)}, fx i ps = some u → (i, u) ∈ ps
  | [], h => by cases h
  | p :: ps, h => by
    rw [fx] at h
    split at h
    · rename_i e
      cases h
      subst e
      exact List.mem_cons_self
    · exact List.mem_cons_of_mem _ (fx_mem h)
theorem sg_mem {g : Nat → Option (Nat × Nat)} : ∀ (c i : Nat), ∀ s ∈ sg g c i, g s.1 = some (s.2.1, s.2.2)
  | 0, _, s, hs => by simp [sg] at hs
  | c + 1, i, s, hs => by
    rw [sg] at hs
    cases hg : g i with
    | none => rw [hg] at hs; exact sg_mem c (i + 1) s hs
    | some q =>
      rw [hg] at hs
      rcases List.mem_cons.1 hs with rfl | hs
      · exact hg
      · exact sg_mem c (i + 1) s hs
theorem mrg_like (o a : List α) : mrg o a a = some a := by
  have hK : ∀ s ∈ std o a a, s.2.1 = s.2.2 := by
    intro s hs
    rw [std_sg] at hs
    have h := sg_mem _ _ s hs
    unfold both at h
    cases hf : fx s.1 (pr o a 0 0) with
    | none => rw [hf] at h; cases h
    | some u =>
      rw [hf] at h
      simp only [Option.some.injEq, Prod.mk.injEq] at h
      omega
  have hQ : ∀ p ∈ parts o a a, p.a = p.b := pt_all o a a (fun s => s.2.1 = s.2.2) (fun p => p.a = p.b) rfl (fun s n h => by simp only [on]; omega) (fun s t h1 h2 => by show cut a _ _ = cut a _ _; rw [h1, h2]) _ _ _ hK rfl
  unfold mrg
  rw [gather_some _ (fun p hp => parts_c o a a hp (.inl (hQ p hp)))]
  have : (parts o a a).flatMap pick = (parts o a a).flatMap (·.a) := by
    refine flat_same (fun p hp => ?_)
    unfold pick
    rw [if_pos (.inl (hQ p hp))]
  rw [this, parts_a]
theorem pr_self (o : List α) : pr o o 0 0 = (List.range o.length).map (fun k => (0 + k, 0 + k)) := by
  have := pr_head o [] [] 0 0
  rw [List.append_nil, pr_nil, List.append_nil] at this
  exact this
theorem mrg_left (o b : List α) : mrg o o b = some b := by
  have hK : ∀ s ∈ std o o b, s.1 = s.2.1 := by
    intro s hs
    have h := (sd_sub _ _ s hs).1
    rw [pr_self, List.mem_map] at h
    obtain ⟨k, _, h⟩ := h
    rw [Prod.mk.injEq] at h
    omega
  have hQ : ∀ p ∈ parts o o b, p.a = p.o := pt_all o o b (fun s => s.1 = s.2.1) (fun p => p.a = p.o) rfl (fun s n h => by simp only [on]; omega) (fun s t h1 h2 => by show cut o _ _ = cut o _ _; rw [h1, h2]) _ _ _ hK rfl
  unfold mrg
  rw [gather_some _ (fun p hp => parts_c o o b hp (.inr (.inl (hQ p hp))))]
  have : (parts o o b).flatMap pick = (parts o o b).flatMap (·.b) := by
    refine flat_same (fun p hp => ?_)
    unfold pick
    split
    · rename_i h
      rcases h with h | h
      · exact h
      · exact (hQ p hp).trans h.symm
    · rfl
  rw [this, parts_b]
theorem mrg_right (o a : List α) : mrg o a o = some a := by rw [mrg_sw, mrg_left]

/-- Of others that are like just where these are. -/
def mapR {β : Type} (f : α → β) (p : Prt α) : Prt β := ⟨p.c, p.o.map f, p.a.map f, p.b.map f⟩
theorem parts_map {β : Type} [DecidableEq β] (f : α → β) (hf : ∀ x y, f x = f y → x = y) (o a b : List α) : parts (o.map f) (a.map f) (b.map f) = (parts o a b).map (mapR f) := by
  have hinj : ∀ x y : List α, x.map f = y.map f ↔ x = y := fun x y => ⟨fun h => List.map_inj_right (fun x y h => hf x y h) |>.1 h, fun h => by rw [h]⟩
  have hstd : std (o.map f) (a.map f) (b.map f) = (std o a b).map id := by unfold std; rw [pr_map f hf, pr_map f hf, List.map_id]
  unfold parts
  rw [hstd, List.length_map]
  refine pt_turn o a b (o.map f) (a.map f) (b.map f) id (mapR f) (fun _ _ => Iff.rfl) (fun _ _ => rfl) (by simp) (fun s t => ?_) _ _ (0, 0, 0)
  unfold prt cut mk3 mapR
  simp only [id, ← List.map_take, ← List.map_drop, hinj]
theorem gather_map {β : Type} [DecidableEq β] (f : α → β) (hf : ∀ x y, f x = f y → x = y) : ∀ ps : List (Prt α), gather (ps.map (mapR f)) = (gather ps).map (fun l => l.map f)
  | [] => rfl
  | p :: ps => by
    have hinj : ∀ x y : List α, x.map f = y.map f ↔ x = y := fun x y => ⟨fun h => List.map_inj_right (fun x y h => hf x y h) |>.1 h, fun h => by rw [h]⟩
    rw [List.map_cons, gather, gather, gather_map f hf ps]
    show (if p.c = true then _ else _) = _
    cases p.c with
    | true => rfl
    | false =>
      have : pick (mapR f p) = (pick p).map f := by
        unfold pick mapR
        simp only [hinj]
        split <;> rfl
      rw [this]
      cases gather ps with
      | none => rfl
      | some t => simp
theorem mrg_map {β : Type} [DecidableEq β] (f : α → β) (hf : ∀ x y, f x = f y → x = y) (o a b : List α) : mrg (o.map f) (a.map f) (b.map f) = (mrg o a b).map (fun l => l.map f) := by
  unfold mrg
  rw [parts_map f hf, gather_map f hf]

/-- Numbered places, one behind the other. -/
theorem sd_range (F G : Nat → Nat) : ∀ (c i : Nat) (ps qs : List (Nat × Nat)), (∀ p ∈ ps, i + c ≤ p.1) →
    sd ((List.range' i c).map (fun k => (k, F k)) ++ ps) ((List.range' i c).map (fun k => (k, G k)) ++ qs) = (List.range' i c).map (fun k => (k, F k, G k)) ++ sd ps qs
  | 0, _, _, _, _ => rfl
  | c + 1, i, ps, qs, h => by
    rw [List.range'_succ, List.map_cons, List.map_cons, List.map_cons, List.cons_append, List.cons_append, List.cons_append, sd, dw_step, if_neg (by simp), hd3, if_pos rfl, sd_tail _ _ _ (fun p hp => ?_), sd_range F G c (i + 1) ps qs (fun p hp => by have := h p hp; omega)]
    · rfl
    · rcases List.mem_append.1 hp with hp | hp
      · obtain ⟨k, hk, rfl⟩ := List.mem_map.1 hp
        have := List.mem_range'.1 hk
        simp only
        omega
      · have := h p hp
        simp only
        omega
theorem rn3_range (F G : Nat → Nat) : ∀ (c i : Nat) (S : List Pl), (∀ k, F (k + 1) = F k + 1) → (∀ k, G (k + 1) = G k + 1) → rn3 ((List.range' i c).map (fun k => (k, F k, G k)) ++ S) (i, F i, G i) = c + rn3 S (on (i, F i, G i) c)
  | 0, i, S, hF, hG => by simp [on_zero]
  | c + 1, i, S, hF, hG => by
    have e : on (i, F i, G i) 1 = (i + 1, F (i + 1), G (i + 1)) := by simp only [on]; rw [hF, hG]
    rw [List.range'_succ, List.map_cons, List.cons_append, rn3_self, e, rn3_range F G c (i + 1) S hF hG, ← e, on_on, Nat.add_comm 1 c]
    omega

theorem pr_skip (h l : List α) (hl : l ≠ []) : ∀ (i j : Nat), (∀ x ∈ h, x ∉ l) → pr l (h ++ l) i j = pr l l i (j + h.length) := by
  induction h with
  | nil => intro i j _; rfl
  | cons y h ih =>
    intro i j hd
    cases l with
    | nil => exact absurd rfl hl
    | cons x xs =>
      have hxy : ¬ x = y := fun e => hd y List.mem_cons_self (by rw [e]; exact List.mem_cons_self)
      have h1 : tl (x :: xs) (h ++ x :: xs) = xs.length + 1 := by
        have hle := (tl_le (x :: xs) (h ++ x :: xs)).1
        have hge := tl_sub (x :: xs) (h ++ x :: xs) (x :: xs) (List.Sublist.refl _) (List.sublist_append_right _ _)
        rw [List.length_cons] at hle hge
        omega
      have h2 := (tl_le xs (y :: (h ++ x :: xs))).1
      rw [List.cons_append, pr_cons, if_neg hxy, if_neg (by rw [h1]; omega), ih i (j + 1) (fun z hz => hd z (List.mem_cons_of_mem _ hz)), List.length_cons]
      congr 1
      omega
theorem pr_self_at (o : List α) (i j : Nat) : pr o o i j = (List.range o.length).map (fun k => (i + k, j + k)) := by
  have := pr_head o [] [] i j
  rw [List.append_nil, pr_nil, List.append_nil] at this
  exact this
/-- Put in ahead by the one, behind by the other. -/
theorem mrg_apart (o a b : List α) (ho : o ≠ []) (ha : ∀ x ∈ a, x ∉ o) : mrg o (a ++ o) (o ++ b) = some (a ++ o ++ b) := by
  have hlen : 0 < o.length := List.length_pos_iff.2 ho
  have h1 : pr o (a ++ o) 0 0 = (List.range' 0 o.length).map (fun k => (k, a.length + k)) := by
    rw [pr_skip a o ho 0 0 ha, pr_self_at, List.range_eq_range']
    simp
  have h2 : pr o (o ++ b) 0 0 = (List.range' 0 o.length).map (fun k => (k, k)) := by
    have := pr_head o [] b 0 0
    rw [List.append_nil, pr_nil, List.append_nil, List.range_eq_range'] at this
    rw [this]
    simp
  have h3 : std o (a ++ o) (o ++ b) = (List.range' 0 o.length).map (fun k => (k, a.length + k, k)) := by
    unfold std
    rw [h1, h2]
    have := sd_range (fun k => a.length + k) (fun k => k) o.length 0 [] [] (by simp)
    simpa [sd] using this
  have h4 := rn3_range (fun k => a.length + k) (fun k => k) o.length 0 [] (fun k => rfl) (fun k => rfl)
  rw [List.append_nil, rn3] at h4
  obtain ⟨n, hn⟩ : ∃ n, o.length = n + 1 := ⟨o.length - 1, by omega⟩
  have hS : (List.range' 0 o.length).map (fun k => ((k, a.length + k, k) : Pl)) = (0, a.length, 0) :: (List.range' 1 n).map (fun k => (k, a.length + k, k)) := by
    rw [hn, List.range'_succ]; rfl
  unfold mrg parts
  rw [h3]
  rw [hS] at h4 ⊢
  simp only [Nat.add_zero] at h4
  rw [pt_cons, h4, List.drop_of_length_le (by simp; omega)]
  obtain ⟨g, hg⟩ : ∃ g, o.length = g + 1 := ⟨n, hn⟩
  have hend : on ((0, a.length, 0) : Pl) o.length = (o.length, a.length + o.length, o.length) := by simp [on]
  rw [hend]
  have hp : ∀ (l : List (Prt α)) , gather (prt o (a ++ o) (o ++ b) (0, a.length, 0) (o.length, a.length + o.length, o.length) :: l) = (gather l).map (fun t => o ++ t) := by
    intro l
    have e : prt o (a ++ o) (o ++ b) (0, a.length, 0) (o.length, a.length + o.length, o.length) = mk3 o o o := by
      unfold prt cut
      simp only
      congr 1
      · simp
      · rw [List.take_of_length_le (by simp)]; simp
      · simp
    rw [e, gather, if_neg (by simp [mk3])]
    simp [pick, mk3]
  have hq : gather (pt o (a ++ o) (o ++ b) o.length [] (o.length, a.length + o.length, o.length)) = some b := by
    rw [hn, pt_nil]
    split
    · rename_i e
      simp only [List.length_append, Prod.mk.injEq] at e
      have : b = [] := List.length_eq_zero_iff.1 (by omega)
      rw [this]; rfl
    · have e : prt o (a ++ o) (o ++ b) (o.length, a.length + o.length, o.length) (o.length, (a ++ o).length, (o ++ b).length) = mk3 [] [] b := by
        unfold prt cut
        simp only
        congr 1
        · simp
        · simp
        · rw [List.take_length]; simp
      rw [← hn, e, gather, if_neg (by simp [mk3])]
      simp [pick, mk3, gather]
  have hfront : gather ((if ((0, a.length, 0) : Pl) = (0, 0, 0) then [] else [prt o (a ++ o) (o ++ b) (0, 0, 0) (0, a.length, 0)]) ++ prt o (a ++ o) (o ++ b) (0, a.length, 0) (o.length, a.length + o.length, o.length) :: pt o (a ++ o) (o ++ b) o.length [] (o.length, a.length + o.length, o.length)) = some (a ++ (o ++ b)) := by
    split
    · rename_i e
      simp only [Prod.mk.injEq] at e
      have : a = [] := List.length_eq_zero_iff.1 (by omega)
      rw [List.nil_append, hp, hq]
      rw [this]; rfl
    · have e : prt o (a ++ o) (o ++ b) (0, 0, 0) (0, a.length, 0) = mk3 [] a [] := by
        unfold prt cut
        simp
      rw [List.cons_append, List.nil_append, e, gather, if_neg (by simp [mk3]), hp, hq]
      simp [pick, mk3]
  rw [hfront, List.append_assoc]

/-! What all three begin with. -/
def shP (n : Nat) (p : Pl) : Pl := on p n
theorem pr_shift (a b : List α) (d : Nat) : ∀ (i j : Nat), pr a b (i + d) (j + d) = (pr a b i j).map (fun p => (p.1 + d, p.2 + d)) := by
  intro i j
  induction a, b, i, j using pr_ind with
  | case1 => rfl
  | case2 => rw [pr_nil', pr_nil']; rfl
  | case3 xs x ys i j ih => rw [pr_cons, if_pos rfl, pr_cons, if_pos rfl, List.map_cons, ← ih, show i + d + 1 = i + 1 + d by omega, show j + d + 1 = j + 1 + d by omega]
  | case4 x xs y ys i j h h2 ih => rw [pr_cons, if_neg h, if_pos h2, pr_cons, if_neg h, if_pos h2, ← ih, show i + d + 1 = i + 1 + d by omega]
  | case5 x xs y ys i j h h2 ih => rw [pr_cons, if_neg h, if_neg h2, pr_cons, if_neg h, if_neg h2, ← ih, show j + d + 1 = j + 1 + d by omega]
theorem dw_shift (d i : Nat) : ∀ qs : List (Nat × Nat), dw (i + d) (qs.map (fun p => (p.1 + d, p.2 + d))) = (dw i qs).map (fun p => (p.1 + d, p.2 + d))
  | [] => rfl
  | q :: qs => by
    rw [List.map_cons, dw_step, dw_step, dw_shift d i qs]
    by_cases h : q.1 < i
    · rw [if_pos h, if_pos (by simp only; omega)]
    · rw [if_neg h, if_neg (by simp only; omega)]; rfl
theorem sd_shift (d : Nat) : ∀ ps qs : List (Nat × Nat), sd (ps.map (fun p => (p.1 + d, p.2 + d))) (qs.map (fun p => (p.1 + d, p.2 + d))) = (sd ps qs).map (shP d)
  | [], _ => rfl
  | p :: ps, qs => by
    rw [List.map_cons, sd, sd, List.map_append, ← sd_shift d ps, dw_shift]
    congr 1
    cases dw p.1 qs with
    | nil => rfl
    | cons q r =>
      rw [List.map_cons, hd3, hd3]
      by_cases h : q.1 = p.1
      · rw [if_pos h, if_pos (by simp only; omega)]; rfl
      · rw [if_neg h, if_neg (by simp only; omega)]; rfl
theorem std_head (h o a b : List α) : std (h ++ o) (h ++ a) (h ++ b) = (List.range' 0 h.length).map (fun k => (k, k, k)) ++ (std o a b).map (shP h.length) := by
  unfold std
  rw [pr_head, pr_head, pr_shift, pr_shift, List.range_eq_range']
  have := sd_range (fun k => k) (fun k => k) h.length 0 ((pr o a 0 0).map (fun p => (p.1 + h.length, p.2 + h.length))) ((pr o b 0 0).map (fun p => (p.1 + h.length, p.2 + h.length))) (fun p hp => by
    obtain ⟨q, _, rfl⟩ := List.mem_map.1 hp
    simp only
    omega)
  rw [sd_shift] at this
  simpa using this
theorem shP_inj (d : Nat) (p q : Pl) : shP d p = shP d q ↔ p = q := by
  obtain ⟨a, b, c⟩ := p
  obtain ⟨a', b', c'⟩ := q
  simp [shP, on]
theorem parts_head (h o a b : List α) (hh : h ≠ []) : ∃ r X, parts (h ++ o) (h ++ a) (h ++ b) = mk3 (h ++ cut o 0 r) (h ++ cut o 0 r) (h ++ cut o 0 r) :: X ∧ (parts o a b = X ∧ r = 0 ∨ parts o a b = mk3 (cut o 0 r) (cut o 0 r) (cut o 0 r) :: X) := by
  have hpos : 0 < h.length := List.length_pos_iff.2 hh
  have hlen := std_length o a b
  have hE : shP h.length (o.length, a.length, b.length) = ((h ++ o).length, (h ++ a).length, (h ++ b).length) := by simp [shP, on, Nat.add_comm]
  have hturn := pt_turn o a b (h ++ o) (h ++ a) (h ++ b) (shP h.length) id (shP_inj _) (fun p n => by simp only [shP]; rw [on_on, on_on, Nat.add_comm]) hE (fun s t => by
    unfold prt
    simp only [shP, on, cut_head, id])
  obtain ⟨r, hr⟩ : ∃ r, rn3 (std o a b) (0, 0, 0) = r := ⟨_, rfl⟩
  have hfl := fast_like o a b (std o a b) (std_like o a b) (0, 0, 0) r (by omega)
  simp only [Nat.zero_add] at hfl
  have hr2 := rn3_range (fun k => k) (fun k => k) h.length 0 ((std o a b).map (shP h.length)) (fun k => rfl) (fun k => rfl)
  have hsh : on ((0, 0, 0) : Pl) h.length = shP h.length (0, 0, 0) := rfl
  rw [hsh, rn3_map (shP h.length) (shP_inj _) (fun p n => by simp only [shP]; rw [on_on, on_on, Nat.add_comm]), hr] at hr2
  obtain ⟨n, hn⟩ : ∃ n, h.length = n + 1 := ⟨h.length - 1, by omega⟩
  have hS : (List.range' 0 h.length).map (fun k => ((k, k, k) : Pl)) ++ (std o a b).map (shP h.length) = (0, 0, 0) :: ((List.range' 1 n).map (fun k => (k, k, k)) ++ (std o a b).map (shP h.length)) := by
    rw [hn, List.range'_succ]; rfl
  have hbig : parts (h ++ o) (h ++ a) (h ++ b) = prt (h ++ o) (h ++ a) (h ++ b) (0, 0, 0) (on (0, 0, 0) (h.length + r)) :: pt o a b (o.length + 1) ((std o a b).drop r) (on (0, 0, 0) r) := by
    unfold parts
    rw [std_head]
    have hdrop : ((List.range' 0 h.length).map (fun k => ((k, k, k) : Pl)) ++ (std o a b).map (shP h.length)).drop (h.length + r) = ((std o a b).drop r).map (shP h.length) := by
      rw [List.drop_append]
      simp [List.map_drop]
    rw [hS] at hr2 hdrop ⊢
    rw [pt_cons, if_pos rfl, List.nil_append, hr2, hdrop]
    congr 1
    have e : on ((0, 0, 0) : Pl) (h.length + r) = shP h.length (on (0, 0, 0) r) := by simp only [shP]; rw [on_on, Nat.add_comm]
    rw [e, hturn, List.map_id]
    exact pt_fuel o a b _ _ _ _ (by simp; omega) (by simp; omega)
  have hfirst : prt (h ++ o) (h ++ a) (h ++ b) (0, 0, 0) (on (0, 0, 0) (h.length + r)) = mk3 (h ++ cut o 0 r) (h ++ cut o 0 r) (h ++ cut o 0 r) := by
    have hc : ∀ l : List α, cut (h ++ l) 0 (0 + (h.length + r)) = h ++ cut l 0 r := fun l => by
      unfold cut
      rw [Nat.zero_add, List.take_length_add_append]; rfl
    unfold prt
    simp only [on, hc]
    rw [hfl.1, hfl.2]
  refine ⟨r, pt o a b (o.length + 1) ((std o a b).drop r) (on (0, 0, 0) r), by rw [hbig, hfirst], ?_⟩
  cases hs : std o a b with
  | nil =>
    rw [hs] at hr
    have : r = 0 := by rw [← hr]; rfl
    subst this
    left
    unfold parts
    rw [hs]
    exact ⟨rfl, rfl⟩
  | cons s S =>
    rw [hs] at hr hlen
    by_cases e : s = (0, 0, 0)
    · subst e
      right
      unfold parts
      rw [hs, pt_cons, if_pos rfl, List.nil_append, hr]
      have hf2 : prt o a b (0, 0, 0) (on (0, 0, 0) r) = mk3 (cut o 0 r) (cut o 0 r) (cut o 0 r) := by
        unfold prt
        simp only [on, Nat.zero_add]
        rw [hfl.1, hfl.2]
      rw [hf2]
      congr 1
      have hr1 : 1 ≤ r := by rw [← hr, rn3_self]; omega
      rw [List.length_cons] at hlen
      exact pt_fuel o a b _ _ _ _ (by rw [List.length_drop, List.length_cons]; omega) (by rw [List.length_drop, List.length_cons]; omega)
    · have : r = 0 := by rw [← hr, rn3, if_neg e]
      subst this
      left
      unfold parts
      rw [hs]
      exact ⟨rfl, rfl⟩
theorem mrg_head (h o a b : List α) : mrg (h ++ o) (h ++ a) (h ++ b) = (mrg o a b).map (fun t => h ++ t) := by
  by_cases hh : h = []
  · subst hh
    simp only [List.nil_append]
    cases mrg o a b <;> rfl
  · obtain ⟨r, X, h1, h2⟩ := parts_head h o a b hh
    unfold mrg
    rw [h1, gather, if_neg (by simp [mk3])]
    rcases h2 with ⟨h2, rfl⟩ | h2
    · rw [h2]
      cases gather X with
      | none => rfl
      | some t => simp [pick, mk3, cut]
    · rw [h2, gather, if_neg (by simp [mk3])]
      cases gather X with
      | none => rfl
      | some t => simp [pick, mk3]
/-- How many parts are a conflict. -/
def cnt (ps : List (Prt α)) : Nat := ps.countP (·.c)
theorem cnt_head (h o a b : List α) : cnt (parts (h ++ o) (h ++ a) (h ++ b)) = cnt (parts o a b) := by
  by_cases hh : h = []
  · subst hh; rfl
  · obtain ⟨r, X, h1, h2⟩ := parts_head h o a b hh
    unfold cnt
    rw [h1, List.countP_cons_of_neg (by simp [mk3])]
    rcases h2 with ⟨h2, rfl⟩ | h2
    · rw [h2]
    · rw [h2, List.countP_cons_of_neg (by simp [mk3])]
end
end Go.DiffLib
