/-
  How many changes there are of which kind, between two lists of which no path stands twice. No program is named here.
-/
import Derived.Test.YtndblaemladppaaDoorGPure
namespace Go.TreeLib
open Go
def sameN (a b : List Fl) : Nat := a.countP (fun f => decide (get b f.1 = some f.2))
def leftN (a b : List Fl) : Nat := a.countP (fun f => (get b f.1).isNone)
/-- The change leaves a file out. -/
def outC (c : Chn) : Bool := c.2.1 && !c.2.2.1
/-- The change puts a file in. -/
def inC (c : Chn) : Bool := c.2.2.1 && !c.2.1
theorem difs_count (a b : List Fl) (l : List ByteArray) (r : Chn → Bool) : (difs a b l).countP r = l.countP (fun p => r (chOf a b p) && !decide (atP a p = atP b p)) := by
  unfold difs
  rw [List.countP_map, List.countP_filter]
  rfl
theorem count_all {α : Type} {p : α → Bool} {l : List α} (h : ∀ x ∈ l, p x = true) : l.countP p = l.length := List.countP_eq_length.2 h
theorem count_none {α : Type} {p : α → Bool} {l : List α} (h : ∀ x ∈ l, p x = false) : l.countP p = 0 := List.countP_eq_zero.2 (fun x hx => by rw [h x hx]; exact Bool.false_ne_true)
theorem of_outs {a b : List Fl} (ha : Once a) (hb : Once b) : (ofP a b).countP outC = leftN a b := by
  unfold ofP leftN
  rw [difs_count, paths_count ha hb]
  have h2 : b.countP (fun f => (get a f.1).isNone && (outC (chOf a b f.1) && !decide (atP a f.1 = atP b f.1))) = 0 := count_none (fun f hf => by
    cases hg : get a f.1 with
    | none => simp [outC, chOf, atP, hg]
    | some d => rfl)
  rw [h2, Nat.add_zero]
  refine List.countP_congr (fun f hf => ?_)
  have hg := ha.get hf
  have hne : decide (atP a f.1 = atP b f.1) = decide (get a f.1 = get b f.1) := by rw [decide_eq_decide]; exact atP_iff
  rw [hne]
  unfold outC chOf atP
  rw [hg]
  cases get b f.1 <;> simp
theorem of_ins {a b : List Fl} (ha : Once a) (hb : Once b) : (ofP a b).countP inC = leftN b a := by
  unfold ofP leftN
  rw [difs_count, paths_count ha hb]
  have h1 : a.countP (fun f => inC (chOf a b f.1) && !decide (atP a f.1 = atP b f.1)) = 0 := count_none (fun f hf => by
    have hg := ha.get hf
    simp [inC, chOf, atP, hg])
  rw [h1, Nat.zero_add]
  refine List.countP_congr (fun f hf => ?_)
  have hg := hb.get hf
  have hne : decide (atP a f.1 = atP b f.1) = decide (get a f.1 = get b f.1) := by rw [decide_eq_decide]; exact atP_iff
  rw [hne]
  unfold inC chOf atP
  rw [hg]
  cases get a f.1 <;> simp
theorem of_same {a b : List Fl} (ha : Once a) (hb : Once b) : (ofP a b).length + sameN a b = (paths [a, b]).length := by
  have h1 : (ofP a b).length = (paths [a, b]).countP (fun p => !decide (atP a p = atP b p)) := by
    unfold ofP difs
    rw [List.length_map, List.countP_eq_length_filter]
  have h2 : sameN a b = (paths [a, b]).countP (fun p => decide (atP a p = atP b p)) := by
    unfold sameN
    rw [paths_count ha hb]
    have h3 : b.countP (fun f => (get a f.1).isNone && decide (atP a f.1 = atP b f.1)) = 0 := count_none (fun f hf => by
      have hg := hb.get hf
      have hne : decide (atP a f.1 = atP b f.1) = decide (get a f.1 = get b f.1) := by rw [decide_eq_decide]; exact atP_iff
      rw [hne, hg]
      cases get a f.1 <;> simp)
    rw [h3, Nat.add_zero]
    refine List.countP_congr (fun f hf => ?_)
    have hg := ha.get hf
    have hne : decide (atP a f.1 = atP b f.1) = decide (get a f.1 = get b f.1) := by rw [decide_eq_decide]; exact atP_iff
    rw [hne, hg]
    simp [eq_comm]
  rw [h1, h2, List.length_eq_countP_add_countP (fun p => !decide (atP a p = atP b p)) (l := paths [a, b])]
  congr 1
  refine List.countP_congr (fun p _ => ?_)
  simp
theorem once_nil : Once [] := List.Pairwise.nil
theorem of_none {a : List Fl} (ha : Once a) : (ofP [] a).length = a.length := by
  have h1 : (ofP [] a).length = (paths [[], a]).countP (fun p => !decide (atP [] p = atP a p)) := by
    unfold ofP difs
    rw [List.length_map, List.countP_eq_length_filter]
  rw [h1, paths_count once_nil ha, List.countP_nil, Nat.zero_add]
  refine count_all (fun f hf => ?_)
  have hg := ha.get hf
  have hne : decide (atP [] f.1 = atP a f.1) = decide (get [] f.1 = get a f.1) := by rw [decide_eq_decide]; exact atP_iff
  rw [hne, hg]
  rfl
theorem of_none2 {a : List Fl} (ha : Once a) : (ofP a []).length = a.length := by
  rw [of_back, List.length_map]
  exact of_none ha
/-- What each change says that is told. -/
theorem of_kind {a b : List Fl} {c : Chn} (h : c ∈ ofP a b) : (c.2.1 = true ∨ c.2.2.1 = true) ∧ (c.2.1 = false → c.2.2.2.1 = ⟨#[]⟩) ∧ (c.2.2.1 = false → c.2.2.2.2 = ⟨#[]⟩) := by
  unfold ofP difs at h
  obtain ⟨p, hp, rfl⟩ := List.mem_map.1 h
  have hne := (List.mem_filter.1 hp).2
  have hn2 : ¬ atP a p = atP b p := by simpa using hne
  rw [atP_iff] at hn2
  unfold chOf atP
  cases ha : get a p <;> cases hb : get b p
  · rw [ha, hb] at hn2; exact absurd rfl hn2
  · exact ⟨.inr rfl, fun _ => rfl, fun h => by cases h⟩
  · exact ⟨.inl rfl, fun h => (by cases h), fun _ => rfl⟩
  · exact ⟨.inl rfl, fun h => (by cases h), fun h => (by cases h)⟩
theorem count_step {α : Type} (p : α → Bool) {l : List α} {k : Nat} (h : k < l.length) : (l.take (k + 1)).countP p = (l.take k).countP p + if p l[k] = true then 1 else 0 := by
  rw [List.take_succ_eq_append_getElem h, List.countP_append, List.countP_singleton]
theorem count_le {α : Type} (p : α → Bool) (l : List α) (k : Nat) : (l.take k).countP p ≤ l.length := Nat.le_trans List.countP_le_length (by rw [List.length_take]; omega)

end Go.TreeLib
