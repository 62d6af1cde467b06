/-
  Two changes of a text, as lined functions: what they come to (tm), how many conflicts there are (tc), and their laws.
-/
import Derived.Test.YtookalebfbkedaaLineL
import Derived.Test.YtookalebfbkedaaT3L
namespace Go.TextLib
open Go Go.LineLib Go.DiffLib

/-- A text that is not merged by lines. -/
def odd (s : ByteArray) : Bool := decide ((0 : UInt8) ∈ L s) || !decide ((linesB s).length ≤ 60)
def lined (o a b : ByteArray) : Bool := !odd o && (!odd a && !odd b)
def fit (l : List ByteArray) : Option ByteArray := if 400 < (catB l).size then none else some (catB l)
def byL (o a b : ByteArray) : Option ByteArray := (mrg (linesB o) (linesB a) (linesB b)).bind fit
/-- What two changes of a text come to. -/
def tm (o a b : ByteArray) : Option ByteArray := if a = b then some a else if b = o then some a else if a = o then some b else if lined o a b = true then byL o a b else none
/-- How many conflicts there are. -/
def tc (o a b : ByteArray) : Nat := if (tm o a b).isSome = true then 0 else if lined o a b = true then max (cnt (parts (linesB o) (linesB a) (linesB b))) 1 else 1
def txt (r : Option ByteArray) : ByteArray := r.getD ⟨#[]⟩

theorem catB_app (x y : List ByteArray) : (catB (x ++ y)).size = (catB x).size + (catB y).size := by
  unfold catB
  rw [List.map_append, List.flatten_append, size_L, L_T, size_L, L_T, size_L, L_T, List.length_append]

theorem pick_or (p : Prt ByteArray) : pick p = p.a ∨ pick p = p.b := by
  unfold pick
  split
  · exact .inl rfl
  · exact .inr rfl

theorem pick_size : ∀ ps : List (Prt ByteArray), (catB (ps.flatMap pick)).size ≤ (catB (ps.flatMap (·.a))).size + (catB (ps.flatMap (·.b))).size ∧ (ps.flatMap pick).length ≤ (ps.flatMap (·.a)).length + (ps.flatMap (·.b)).length
  | [] => ⟨by simp [catB], by simp⟩
  | p :: r => by
    obtain ⟨h1, h2⟩ := pick_size r
    rw [List.flatMap_cons, List.flatMap_cons, List.flatMap_cons, catB_app, catB_app, catB_app, List.length_append, List.length_append, List.length_append]
    rcases pick_or p with e | e
    · rw [e]; exact ⟨by omega, by omega⟩
    · rw [e]; exact ⟨by omega, by omega⟩

theorem mrg_size {o a b l : List ByteArray} (h : mrg o a b = some l) : (catB l).size ≤ (catB a).size + (catB b).size ∧ l.length ≤ a.length + b.length := by
  have hp := pick_size (parts o a b)
  rw [parts_a, parts_b] at hp
  by_cases hc : ∀ p ∈ parts o a b, p.c = false
  · unfold mrg at h
    rw [gather_some _ hc] at h
    cases h
    exact hp
  · unfold mrg at h
    rw [gather_none _ hc] at h
    cases h

theorem lined_sw (o a b : ByteArray) : lined o b a = lined o a b := by
  unfold lined
  rw [Bool.and_comm (!odd b)]
theorem byL_sw (o a b : ByteArray) : byL o b a = byL o a b := by unfold byL; rw [mrg_sw]
theorem cnt_sw (o a b : List ByteArray) : cnt (parts o b a) = cnt (parts o a b) := by
  rw [parts_sw]
  unfold cnt
  rw [List.countP_map]
  rfl
theorem tm_sw (o a b : ByteArray) : tm o b a = tm o a b := by
  unfold tm
  by_cases h1 : a = b
  · subst h1; rfl
  · have h1' : ¬ b = a := fun e => h1 e.symm
    rw [if_neg h1, if_neg h1', lined_sw, byL_sw]
    by_cases h2 : b = o
    · have h3 : ¬ a = o := fun e => h1 (e.trans h2.symm)
      rw [if_pos h2, if_neg h3, if_pos h2]
    · rw [if_neg h2, if_neg h2]
theorem tc_sw (o a b : ByteArray) : tc o b a = tc o a b := by
  unfold tc
  rw [tm_sw, lined_sw, cnt_sw]
theorem tm_like (o a : ByteArray) : tm o a a = some a := by unfold tm; rw [if_pos rfl]
theorem tm_right (o a : ByteArray) : tm o a o = some a := by
  unfold tm
  by_cases h : a = o
  · rw [if_pos h]
  · rw [if_neg h, if_pos rfl]
theorem tm_left (o b : ByteArray) : tm o o b = some b := by rw [tm_sw, tm_right]
theorem tc_zero (o a b : ByteArray) : decide (tc o a b = 0) = (tm o a b).isSome := by
  unfold tc
  cases (tm o a b).isSome with
  | true => simp
  | false =>
    rw [if_neg (by simp)]
    split
    · exact decide_eq_false (by omega)
    · rfl

theorem tm_bound (o a b m : ByteArray) (h : tm o a b = some m) (h4 : 400 < m.size) : m = a ∨ m = b := by
  unfold tm at h
  split at h
  · exact .inl (Option.some.inj h).symm
  · split at h
    · exact .inl (Option.some.inj h).symm
    · split at h
      · exact .inr (Option.some.inj h).symm
      · split at h
        · unfold byL at h
          cases hm : mrg (linesB o) (linesB a) (linesB b) with
          | none => rw [hm] at h; cases h
          | some l =>
            rw [hm] at h
            change fit l = some m at h
            unfold fit at h
            split at h
            · cases h
            · cases h; omega
        · cases h

theorem odd_zero (s : ByteArray) (h : (0 : UInt8) ∈ L s) : odd s = true := by
  unfold odd
  rw [decide_eq_true h]
  rfl
theorem tm_odd (o a b : ByteArray) (h : odd a = true) (h1 : ¬ a = b) (h2 : ¬ b = o) (h3 : ¬ a = o) : tm o a b = none ∧ tc o a b = 1 := by
  have hp : lined o a b = false := by unfold lined; rw [h]; cases odd o <;> rfl
  have ht : tm o a b = none := by unfold tm; rw [if_neg h1, if_neg h2, if_neg h3, hp, if_neg (by simp)]
  refine ⟨ht, ?_⟩
  unfold tc
  rw [ht, hp, if_neg (by simp), if_neg (by simp)]
theorem tm_some (o a b : ByteArray) (h : a = b ∨ b = o ∨ a = o) : (tm o a b).isSome = true := by
  rcases h with h | h | h
  · subst h; rw [tm_like]; rfl
  · subst h; rw [tm_right]; rfl
  · subst h; rw [tm_left]; rfl

/-- A line of one letter. -/
def ln (c : UInt8) : ByteArray := T [c, 10]
theorem ln_inj (x y : UInt8) (h : ln x = ln y) : x = y := by
  have : L (ln x) = L (ln y) := by rw [h]
  exact (List.cons.inj this).1
theorem linesL_letters : ∀ l : List UInt8, (10 : UInt8) ∉ l → linesL (l.map (fun c => [c, 10])).flatten = l.map (fun c => [c, 10])
  | [], _ => rfl
  | c :: r, h => by
    have hc : ¬ c = 10 := fun e => h (by rw [e]; exact List.mem_cons_self)
    have hr := linesL_letters r (fun e => h (List.mem_cons_of_mem _ e))
    show linesL (c :: 10 :: (r.map (fun c => [c, 10])).flatten) = _
    rw [linesL_cons, if_neg hc, linesL_cons, if_pos rfl, hr]
    rfl
theorem lines_letters (l : List UInt8) (h : (10 : UInt8) ∉ l) : linesB (catB (l.map ln)) = l.map ln := by
  unfold linesB catB
  rw [L_T, List.map_map, show ((l.map (L ∘ ln)) = l.map (fun c => [c, 10])) from rfl, linesL_letters l h, List.map_map]
  rfl
theorem letters_size (l : List UInt8) : (catB (l.map ln)).size = 2 * l.length := by
  induction l with
  | nil => rfl
  | cons c r ih =>
    rw [show (c :: r).map ln = [ln c] ++ r.map ln from rfl, catB_app, ih, List.length_cons, show (catB [ln c]).size = 2 from rfl]
    omega
theorem letters_zero (l : List UInt8) (h : (0 : UInt8) ∉ l) : (0 : UInt8) ∉ L (catB (l.map ln)) := by
  unfold catB
  rw [L_T, List.map_map, show ((l.map (L ∘ ln)) = l.map (fun c => [c, 10])) from rfl]
  intro hm
  obtain ⟨x, hx, hx2⟩ := List.mem_flatten.1 hm
  obtain ⟨c, hc, rfl⟩ := List.mem_map.1 hx
  rcases List.mem_cons.1 hx2 with e | e
  · exact h (by rw [e]; exact hc)
  · simp at e
theorem odd_letters (l : List UInt8) (h : (10 : UInt8) ∉ l) (h0 : (0 : UInt8) ∉ l) (hl : l.length ≤ 60) : odd (catB (l.map ln)) = false := by
  unfold odd
  rw [lines_letters l h, decide_eq_false (letters_zero l h0), List.length_map, decide_eq_true hl]
  rfl
theorem letters_inj (l m : List UInt8) (hl : (10 : UInt8) ∉ l) (hm : (10 : UInt8) ∉ m) (h : catB (l.map ln) = catB (m.map ln)) : l = m := by
  have h2 := lines_letters l hl
  rw [h, lines_letters m hm] at h2
  exact (List.map_inj_right ln_inj).1 h2.symm
def good (l : List UInt8) : Bool := decide ((10 : UInt8) ∉ l) && (decide ((0 : UInt8) ∉ l) && decide (l.length ≤ 60))
/-- The merge of texts of letters is the letters' own. -/
theorem tm_letters (o a b : List UInt8) (ho : good o = true) (ha : good a = true) (hb : good b = true) (h1 : ¬ a = b) (h2 : ¬ b = o) (h3 : ¬ a = o) :
    tm (catB (o.map ln)) (catB (a.map ln)) (catB (b.map ln)) = (mrg o a b).bind (fun l => fit (l.map ln)) ∧
    (mrg o a b = none → tc (catB (o.map ln)) (catB (a.map ln)) (catB (b.map ln)) = max (cnt (parts o a b)) 1) := by
  unfold good at ho ha hb
  simp only [Bool.and_eq_true, decide_eq_true_eq] at ho ha hb
  have e1 : ¬ catB (a.map ln) = catB (b.map ln) := fun e => h1 (letters_inj _ _ ha.1 hb.1 e)
  have e2 : ¬ catB (b.map ln) = catB (o.map ln) := fun e => h2 (letters_inj _ _ hb.1 ho.1 e)
  have e3 : ¬ catB (a.map ln) = catB (o.map ln) := fun e => h3 (letters_inj _ _ ha.1 ho.1 e)
  have hp : lined (catB (o.map ln)) (catB (a.map ln)) (catB (b.map ln)) = true := by
    unfold lined
    rw [odd_letters o ho.1 ho.2.1 ho.2.2, odd_letters a ha.1 ha.2.1 ha.2.2, odd_letters b hb.1 hb.2.1 hb.2.2]
    rfl
  have ht : tm (catB (o.map ln)) (catB (a.map ln)) (catB (b.map ln)) = (mrg o a b).bind (fun l => fit (l.map ln)) := by
    unfold tm
    rw [if_neg e1, if_neg e2, if_neg e3, if_pos hp]
    unfold byL
    rw [lines_letters o ho.1, lines_letters a ha.1, lines_letters b hb.1, mrg_map ln ln_inj]
    cases mrg o a b <;> rfl
  refine ⟨ht, fun hn => ?_⟩
  unfold tc
  rw [ht, hn, hp, if_neg (by simp), if_pos rfl, lines_letters o ho.1, lines_letters a ha.1, lines_letters b hb.1, parts_map ln ln_inj]
  unfold cnt
  rw [List.countP_map]
  rfl

theorem awake_no : tm ⟨#[97, 10, 98, 10]⟩ ⟨#[97, 10, 66, 10]⟩ ⟨#[65, 10, 98, 10]⟩ = none ∧ tc ⟨#[97, 10, 98, 10]⟩ ⟨#[97, 10, 66, 10]⟩ ⟨#[65, 10, 98, 10]⟩ = 1 := by
  have h := tm_letters [97, 98] [97, 66] [65, 98] (by decide) (by decide) (by decide) (by decide) (by decide) (by decide)
  have hm : mrg [(97 : UInt8), 98] [97, 66] [65, 98] = none := by decide
  have hc : cnt (parts [(97 : UInt8), 98] [97, 66] [65, 98]) = 1 := by decide
  rw [hm] at h
  exact ⟨h.1, by have := h.2 rfl; rw [hc] at this; exact this⟩
theorem awake_yes : tm ⟨#[97, 10, 98, 10, 99, 10]⟩ ⟨#[65, 10, 98, 10, 99, 10]⟩ ⟨#[97, 10, 98, 10, 67, 10]⟩ = some ⟨#[65, 10, 98, 10, 67, 10]⟩ := by
  have h := tm_letters [97, 98, 99] [65, 98, 99] [97, 98, 67] (by decide) (by decide) (by decide) (by decide) (by decide) (by decide)
  have hm : mrg [(97 : UInt8), 98, 99] [65, 98, 99] [97, 98, 67] = some [65, 98, 67] := by decide
  rw [hm] at h
  exact h.1
theorem awake_like : tc ⟨#[]⟩ ⟨#[120]⟩ ⟨#[120]⟩ = 0 := by unfold tc; rw [tm_like]; rfl

end Go.TextLib
