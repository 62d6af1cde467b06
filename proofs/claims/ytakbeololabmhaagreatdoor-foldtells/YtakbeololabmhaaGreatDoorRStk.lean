/-
  A stack of numbers, each once, the greatest on top: what is told when the top is taken, told, and what comes of it put in. No program is named here.
-/
import Derived.Test.YtakbeololabmhaaGreatDoorG10
namespace Go.DagLib
open Go.RepoLib

/-- A number put where it belongs, if it is not there. -/
def insI (x : Int) : List Int → List Int
  | [] => [x]
  | y :: l => if y < x then y :: insI x l else if y = x then y :: l else x :: y :: l
def putI (ps st : List Int) : List Int := ps.foldl (fun l x => insI x l) st
theorem insI_mem {x y : Int} {l : List Int} : y ∈ insI x l ↔ y = x ∨ y ∈ l := by
  induction l with
  | nil => simp [insI]
  | cons z l ih =>
    unfold insI
    by_cases h1 : z < x
    · rw [if_pos h1, List.mem_cons, ih, List.mem_cons]
      constructor
      · rintro (h | h | h)
        · exact .inr (.inl h)
        · exact .inl h
        · exact .inr (.inr h)
      · rintro (h | h | h)
        · exact .inr (.inl h)
        · exact .inl h
        · exact .inr (.inr h)
    · rw [if_neg h1]
      by_cases h2 : z = x
      · rw [if_pos h2, List.mem_cons]
        constructor
        · exact .inr
        · rintro (h | h)
          · exact .inl (h.trans h2.symm)
          · exact h
      · rw [if_neg h2, List.mem_cons]
theorem insI_up {x : Int} {l : List Int} (h : l.Pairwise (· < ·)) : (insI x l).Pairwise (· < ·) := by
  induction l with
  | nil => simp [insI]
  | cons z l ih =>
    obtain ⟨hz, hl⟩ := List.pairwise_cons.1 h
    unfold insI
    by_cases h1 : z < x
    · rw [if_pos h1]
      refine List.pairwise_cons.2 ⟨fun y hy => ?_, ih hl⟩
      rcases insI_mem.1 hy with e | hy
      · omega
      · exact hz y hy
    · rw [if_neg h1]
      by_cases h2 : z = x
      · rw [if_pos h2]; exact h
      · rw [if_neg h2]
        refine List.pairwise_cons.2 ⟨fun y hy => ?_, h⟩
        rcases List.mem_cons.1 hy with e | hy
        · omega
        · have := hz y hy; omega
theorem insI_there {x : Int} {l : List Int} (h : l.Pairwise (· < ·)) (hc : l.contains x = true) : insI x l = l := by
  induction l with
  | nil => simp at hc
  | cons z l ih =>
    obtain ⟨hz, hl⟩ := List.pairwise_cons.1 h
    have hm : x = z ∨ x ∈ l := by simpa using hc
    unfold insI
    rcases hm with e | hm
    · rw [if_neg (by omega), if_pos e.symm]
    · rw [if_pos (hz x hm), ih hl (by simpa using hm)]
theorem insI_new {x : Int} {l : List Int} (h : l.Pairwise (· < ·)) (hc : l.contains x = false) : insI x l = l.take (l.countP (· < x)) ++ [x] ++ l.drop (l.countP (· < x)) := by
  induction l with
  | nil => simp [insI]
  | cons z l ih =>
    obtain ⟨hz, hl⟩ := List.pairwise_cons.1 h
    have hm : ¬ (x = z ∨ x ∈ l) := by
      intro h'
      rw [show (z :: l).contains x = true by simpa using h'] at hc
      cases hc
    unfold insI
    by_cases h1 : z < x
    · rw [if_pos h1, ih hl (by cases e : l.contains x with
        | false => rfl
        | true => exact absurd (.inr (by simpa using e)) hm), List.countP_cons_of_pos (by simpa using h1)]
      rfl
    · rw [if_neg h1, if_neg (fun e => hm (.inl e.symm))]
      have h0 : (z :: l).countP (· < x) = 0 := by
        rw [List.countP_eq_zero]
        intro y hy
        rcases List.mem_cons.1 hy with e | hy
        · simp; omega
        · have := hz y hy; simp; omega
      rw [h0]
      rfl
theorem putI_mem {ps : List Int} : ∀ {st : List Int} {y : Int}, y ∈ putI ps st ↔ y ∈ ps ∨ y ∈ st := by
  induction ps with
  | nil => intro st y; simp [putI]
  | cons p ps ih =>
    intro st y
    show y ∈ putI ps (insI p st) ↔ _
    rw [ih, insI_mem, List.mem_cons]
    constructor
    · rintro (h | h | h)
      · exact .inl (.inr h)
      · exact .inl (.inl h)
      · exact .inr h
    · rintro ((h | h) | h)
      · exact .inr (.inl h)
      · exact .inl h
      · exact .inr (.inr h)
theorem putI_up {ps : List Int} : ∀ {st : List Int}, st.Pairwise (· < ·) → (putI ps st).Pairwise (· < ·) := by
  induction ps with
  | nil => intro st h; exact h
  | cons p ps ih => intro st h; exact ih (insI_up h)
theorem putI_take {ps st : List Int} {k : Nat} {x : Int} (h : ps[k]? = some x) : putI (ps.take (k + 1)) st = insI x (putI (ps.take k) st) := by
  rw [List.take_add_one, h]
  unfold putI
  rw [List.foldl_append]
  rfl
/-- So many numbers at most. -/
theorem up_length {l : List Int} : ∀ {a : Int} {n : Nat}, l.Pairwise (· < ·) → (∀ x ∈ l, a < x ∧ x ≤ a + n) → l.length ≤ n := by
  induction l with
  | nil => intro a n _ _; exact Nat.zero_le _
  | cons y l ih =>
    intro a n h hb
    obtain ⟨hy, hl⟩ := List.pairwise_cons.1 h
    obtain ⟨b1, b2⟩ := hb y (by simp)
    have := ih (a := y) (n := (a + n - y).toNat) hl (fun x hx => ⟨hy x hx, by have := (hb x (by simp [hx])).2; omega⟩)
    rw [List.length_cons]
    omega

section
variable {par : Nat → List Nat}
/-- What is still to be told. -/
def remI (par : Nat → List Nat) (st : List Int) (b : Nat) : List Nat := (down b).filter (fun k => st.any (fun s => isA par k s.toNat))
theorem remI_nil (b : Nat) : remI par [] b = [] := by
  unfold remI
  rw [List.filter_eq_nil_iff]
  intro k _
  simp
theorem remI_one (n : Nat) : remI par [(n : Int)] n = aheadL par n := by
  unfold remI aheadL
  refine List.filter_congr (fun k _ => ?_)
  simp
theorem remI_step (hl : Low par) {st ps : List Int} {m : Nat} (hp : ps.map Int.toNat = par m) (hm : 1 ≤ m) (hs : ∀ s ∈ st, s < (m : Int)) : ∀ {b : Nat}, m ≤ b → remI par (st ++ [(m : Int)]) b = m :: remI par (putI ps st) b := by
  have hany : ∀ k, (putI ps st).any (fun s => isA par k s.toNat) = (st.any (fun s => isA par k s.toNat) || (par m).any (isA par k)) := fun k => by
    rw [← hp, List.any_map]
    apply Bool.eq_iff_iff.2
    rw [Bool.or_eq_true, List.any_eq_true, List.any_eq_true, List.any_eq_true]
    constructor
    · rintro ⟨x, hx, h⟩
      rcases putI_mem.1 hx with hx | hx
      · exact .inr ⟨x, hx, h⟩
      · exact .inl ⟨x, hx, h⟩
    · rintro (⟨x, hx, h⟩ | ⟨x, hx, h⟩)
      · exact ⟨x, putI_mem.2 (.inr hx), h⟩
      · exact ⟨x, putI_mem.2 (.inl hx), h⟩
  have hlow : ∀ k, m ≤ k → (putI ps st).any (fun s => isA par k s.toNat) = false := fun k hk => by
    rw [hany, Bool.or_eq_false_iff]
    constructor
    · rw [List.any_eq_false]
      intro s hs1 h
      have := isA_le hl h
      have := hs s hs1
      omega
    · rw [List.any_eq_false]
      intro p hp1 h
      have := isA_le hl h
      have := hl m p hp1
      omega
  have hhi : ∀ k, m < k → (st ++ [(m : Int)]).any (fun s => isA par k s.toNat) = false := fun k hk => by
    rw [List.any_eq_false]
    intro s hs1 h
    have h1 := isA_le hl h
    rcases List.mem_append.1 hs1 with h2 | h2
    · have := hs s h2; omega
    · rw [List.mem_singleton] at h2; subst h2; simp at h1; omega
  intro b
  induction b with
  | zero => intro h; omega
  | succ b ih =>
    intro h
    unfold remI at ih ⊢
    show ((b + 1) :: down b).filter _ = m :: ((b + 1) :: down b).filter _
    rw [List.filter_cons, List.filter_cons, hlow (b + 1) h, if_neg Bool.false_ne_true]
    by_cases hb : m = b + 1
    · subst hb
      have ht : (st ++ [((b + 1 : Nat) : Int)]).any (fun s => isA par (b + 1) s.toNat) = true := by
        rw [List.any_eq_true]
        exact ⟨_, List.mem_append_right _ (List.mem_singleton.2 rfl), by rw [Int.toNat_natCast]; exact isA_self hl _⟩
      rw [ht, if_pos rfl]
      congr 1
      refine List.filter_congr (fun k hk => ?_)
      have := (down_mem.1 hk).2
      rw [hany, List.any_append]
      congr 1
      rw [List.any_cons, List.any_nil, Bool.or_false, Int.toNat_natCast, isA_eq hl k (b + 1)]
      rw [show (k == b + 1) = false by simp; omega, Bool.false_or]
    · rw [hhi (b + 1) (by omega), if_neg Bool.false_ne_true]
      exact ih (by omega)
end
/-- A commit's parents, as its list tells them. -/
theorem ParOk.par {L : List Cm} (h : ParOk L) {n : Nat} (hn : 1 ≤ n) (hL : n ≤ L.length) : (getC L (n : Int)).1.map Int.toNat = parL L n ∧ ∀ p ∈ (getC L (n : Int)).1, 1 ≤ p ∧ p < (n : Int) := by
  obtain ⟨i, rfl⟩ : ∃ i, n = i + 1 := ⟨n - 1, by omega⟩
  have hc : L[i]? = some L[i] := List.getElem?_eq_getElem (by omega)
  have hg : getC L ((i + 1 : Nat) : Int) = L[i] := by
    unfold getC
    rw [if_pos (by unfold hasN; simp; omega), show ((i + 1 : Nat) : Int).toNat - 1 = i by omega, List.getD_eq_getElem?_getD, hc]
    rfl
  rw [hg, parL_at hc]
  exact ⟨rfl, fun p hp => by have := h i _ hc p hp; omega⟩
end Go.DagLib
