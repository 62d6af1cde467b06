/-
  Paths, trees, and all paths of several lists, as plain functions, and their laws.
-/
import Derived.Test.YtbiholcdncndfaaRLib
namespace Go.TreeLib
open Go

/-! ### Paths -/
abbrev Bs (s : ByteArray) : List UInt8 := s.data.toList
def adjB : List UInt8 → Bool
  | a :: b :: r => !(a == 47 && b == 47) && adjB (b :: r)
  | _ => true
def signB (b : UInt8) : Bool := decide (33 ≤ b) && decide (b ≤ 126)
def pathB (p : List UInt8) : Bool := decide (1 ≤ p.length) && (decide (p.length ≤ 60) && (p.head? != some 47 && (p.getLast? != some 47 && (p.all signB && adjB p))))
structure IsPath (p : List UInt8) : Prop where
  pos : 1 ≤ p.length
  len : p.length ≤ 60
  fst : p.head? ≠ some 47
  lst : p.getLast? ≠ some 47
  byt : p.all signB = true
  adj : adjB p = true
theorem pathB_iff {p : List UInt8} : pathB p = true ↔ IsPath p := by
  unfold pathB
  simp only [Bool.and_eq_true, decide_eq_true_eq, bne_iff_ne]
  exact ⟨fun ⟨h1, h2, h3, h4, h5, h6⟩ => ⟨h1, h2, h3, h4, h5, h6⟩, fun h => ⟨h.pos, h.len, h.fst, h.lst, h.byt, h.adj⟩⟩
theorem pathB_not {p : List UInt8} (h : ¬ IsPath p) : pathB p = false := by
  cases hp : pathB p with
  | false => rfl
  | true => exact absurd (pathB_iff.1 hp) h

theorem adjB_cons {a : UInt8} {q : List UInt8} (h : adjB (a :: q) = true) : adjB q = true := by
  cases q with
  | nil => rfl
  | cons b r => unfold adjB at h; exact (Bool.and_eq_true _ _ ▸ h).2
theorem adjB_app : ∀ {p : List UInt8} {c : UInt8} {q : List UInt8}, adjB p = true → adjB (c :: q) = true → (c = 47 → p.getLast? ≠ some 47) → adjB (p ++ c :: q) = true
  | [], _, _, _, h, _ => h
  | [a], c, q, _, h, hn => by
    show adjB (a :: c :: q) = true
    unfold adjB
    rw [h, Bool.and_true]
    by_cases e : c = 47
    · have := hn e
      simp at this
      simp [this]
    · simp [e]
  | a :: b :: r, c, q, h1, h2, hn => by
    have ih := adjB_app (p := b :: r) (c := c) (q := q) (adjB_cons h1) h2 (fun e => by have := hn e; rwa [List.getLast?_cons_cons] at this)
    show adjB (a :: b :: (r ++ c :: q)) = true
    unfold adjB at h1 ⊢
    rw [Bool.and_eq_true] at h1 ⊢
    exact ⟨h1.1, ih⟩
theorem adjB_put {c : UInt8} {q : List UInt8} (h : adjB q = true) (hn : c = 47 → q.head? ≠ some 47) : adjB (c :: q) = true := by
  cases q with
  | nil => rfl
  | cons b r =>
    unfold adjB
    rw [h, Bool.and_true]
    by_cases e : c = 47
    · have := hn e
      simp at this
      simp [this]
    · simp [e]
theorem adjB_not (p q : List UInt8) : adjB (p ++ 47 :: 47 :: q) = false := by
  induction p with
  | nil => rfl
  | cons a r ih =>
    cases hb : adjB (a :: (r ++ 47 :: 47 :: q)) with
    | false => exact hb
    | true => rw [adjB_cons hb] at ih; cases ih

theorem IsPath.join {p q : List UInt8} (hp : IsPath p) (hq : IsPath q) (c : UInt8) (hc : signB c = true) (hl : p.length + q.length + 1 ≤ 60) : IsPath (p ++ c :: q) := by
  have hp0 : p ≠ [] := by rintro rfl; have := hp.pos; simp at this
  have hq0 : q ≠ [] := by rintro rfl; have := hq.pos; simp at this
  refine ⟨?_, ?_, ?_, ?_, ?_, ?_⟩
  · rw [List.length_append, List.length_cons]; omega
  · rw [List.length_append, List.length_cons]; omega
  · have := hp.fst
    cases p with
    | nil => exact absurd rfl hp0
    | cons a r => exact this
  · rw [List.getLast?_append, List.getLast?_cons]
    have := hq.lst
    cases hg : q.getLast? with
    | none => rw [List.getLast?_eq_none_iff] at hg; exact absurd hg hq0
    | some x => rw [hg] at this; simpa using this
  · rw [List.all_append, List.all_cons, hp.byt, hc, hq.byt]; rfl
  · exact adjB_app hp.adj (adjB_put hq.adj (fun _ => hq.fst)) (fun _ => hp.lst)
theorem not_path_two (p q : List UInt8) : ¬ IsPath (p ++ 47 :: 47 :: q) := fun h => by have := h.adj; rw [adjB_not] at this; cases this
theorem not_path_first (p : List UInt8) : ¬ IsPath (47 :: p) := fun h => h.fst rfl
theorem not_path_last (p : List UInt8) : ¬ IsPath (p ++ [47]) := fun h => h.lst (by simp)
theorem not_path_sign {p : List UInt8} {c : UInt8} (hc : signB c = false) : ¬ IsPath (p ++ [c]) := fun h => by
  have := h.byt
  rw [List.all_append, List.all_cons, hc] at this
  simp at this

/-! ### Under -/
def under (p q : List UInt8) : Bool := decide (q.length < p.length) && (decide (p.take q.length = q) && decide (p[q.length]? = some 47))
theorem under_self (p : List UInt8) : under p p = false := by unfold under; rw [decide_eq_false (by omega)]; rfl
theorem under_app (p q : List UInt8) (c : UInt8) : under (p ++ c :: q) p = decide (c = 47) := by
  unfold under
  rw [decide_eq_true (by rw [List.length_append, List.length_cons]; omega), List.take_left', decide_eq_true rfl, List.getElem?_append_right (Nat.le_refl _), Nat.sub_self]
  · simp
  · rfl
theorem bl_app : ∀ (p : List UInt8) (c : UInt8) (q : List UInt8), Op.bytesLess p (p ++ c :: q) = true
  | [], _, _ => by unfold Op.bytesLess; rfl
  | a :: p, c, q => by
    have := bl_app p c q
    show Op.bytesLess (a :: p) (a :: (p ++ c :: q)) = true
    unfold Op.bytesLess
    rw [this]
    simp

/-! ### Trees -/
def pairB : List Fl → Bool
  | [] => true
  | f :: r => r.all (fun g => lt f.1 g.1 && !under (Bs g.1) (Bs f.1)) && pairB r
def fileB (f : Fl) : Bool := pathB (Bs f.1) && decide (f.2.size ≤ 400)
def mayB (t : List Fl) : Bool := decide (t.length ≤ 12) && (t.all fileB && pairB t)
def Apart (a b : Fl) : Prop := lt a.1 b.1 = true ∧ under (Bs b.1) (Bs a.1) = false
theorem pairB_iff : ∀ {t : List Fl}, pairB t = true ↔ t.Pairwise Apart
  | [] => by simp [pairB]
  | f :: r => by
    unfold pairB
    rw [Bool.and_eq_true, List.pairwise_cons, pairB_iff, List.all_eq_true]
    constructor
    · rintro ⟨h1, h2⟩
      exact ⟨fun g hg => by have := h1 g hg; rw [Bool.and_eq_true] at this; exact ⟨this.1, by simpa using this.2⟩, h2⟩
    · rintro ⟨h1, h2⟩
      exact ⟨fun g hg => by have := h1 g hg; rw [this.1, this.2]; rfl, h2⟩
structure IsTree (t : List Fl) : Prop where
  len : t.length ≤ 12
  file : ∀ f ∈ t, fileB f = true
  apart : t.Pairwise Apart
theorem mayB_iff {t : List Fl} : mayB t = true ↔ IsTree t := by
  unfold mayB
  simp only [Bool.and_eq_true, decide_eq_true_eq, List.all_eq_true, pairB_iff]
  exact ⟨fun ⟨h1, h2, h3⟩ => ⟨h1, h2, h3⟩, fun h => ⟨h.len, h.file, h.apart⟩⟩
theorem mayB_not {t : List Fl} (h : ¬ IsTree t) : mayB t = false := by
  cases ht : mayB t with
  | false => rfl
  | true => exact absurd (mayB_iff.1 ht) h
theorem IsTree.once {t : List Fl} (h : IsTree t) : Once t := h.apart.imp (fun h => h.1)
theorem IsTree.sub {t u : List Fl} (h : IsTree t) (hs : List.Sublist u t) : IsTree u :=
  ⟨Nat.le_trans hs.length_le h.len, fun f hf => h.file f (hs.subset hf), h.apart.sublist hs⟩
theorem IsTree.drop {t : List Fl} (h : IsTree t) (p : ByteArray) : IsTree (drop t p) := h.sub (drop_sub t p)
theorem IsTree.nil : IsTree [] := ⟨Nat.zero_le _, fun _ h => (by cases h), List.Pairwise.nil⟩
theorem IsTree.one {f : Fl} (h : fileB f = true) : IsTree [f] := ⟨by simp, fun g hg => by rw [List.mem_singleton.1 hg]; exact h, List.pairwise_singleton _ _⟩

/-! ### All paths, rising, each once -/
def UpT (l : List ByteArray) : Prop := l.Pairwise (fun a b => lt a b = true)
def insT (x : ByteArray) : List ByteArray → List ByteArray
  | [] => [x]
  | y :: r => if lt x y = true then x :: y :: r else if x = y then y :: r else y :: insT x r
def rise (l : List ByteArray) : List ByteArray := l.foldl (fun out x => insT x out) []
theorem mem_insT {x z : ByteArray} : ∀ {l : List ByteArray}, z ∈ insT x l ↔ z = x ∨ z ∈ l
  | [] => by simp [insT]
  | y :: r => by
    unfold insT
    split
    · simp
    · split
      · rename_i e
        subst e
        simp
      · rw [List.mem_cons, mem_insT, List.mem_cons]
        constructor
        · rintro (h | h | h)
          · exact .inr (.inl h)
          · exact .inl h
          · exact .inr (.inr h)
        · rintro (h | h | h)
          · exact .inr (.inl h)
          · exact .inl h
          · exact .inr (.inr h)
theorem insT_up {x : ByteArray} : ∀ {l : List ByteArray}, UpT l → UpT (insT x l)
  | [], _ => by unfold insT UpT; simp
  | y :: r, h => by
    unfold UpT at h
    rw [List.pairwise_cons] at h
    unfold insT
    split
    · rename_i hlt
      unfold UpT
      rw [List.pairwise_cons, List.pairwise_cons]
      refine ⟨fun z hz => ?_, h⟩
      rcases List.mem_cons.1 hz with e | hz
      · rw [e]; exact hlt
      · exact lt_trans hlt (h.1 z hz)
    · rename_i hlt
      split
      · unfold UpT; rw [List.pairwise_cons]; exact h
      · rename_i hne
        unfold UpT
        rw [List.pairwise_cons]
        refine ⟨fun z hz => ?_, insT_up h.2⟩
        rcases mem_insT.1 hz with e | hz
        · rw [e]
          cases hyx : lt y x with
          | true => rfl
          | false => exact absurd (lt_tri (by simpa using hlt) hyx) hne
        · exact h.1 z hz
theorem rise_fold : ∀ (l out : List ByteArray), UpT out → UpT (l.foldl (fun out x => insT x out) out) ∧ ∀ z, z ∈ l.foldl (fun out x => insT x out) out ↔ z ∈ out ∨ z ∈ l
  | [], out, h => ⟨h, fun z => by simp⟩
  | x :: l, out, h => by
    obtain ⟨h1, h2⟩ := rise_fold l (insT x out) (insT_up h)
    refine ⟨h1, fun z => ?_⟩
    rw [List.foldl_cons, h2, mem_insT, List.mem_cons]
    constructor
    · rintro ((h | h) | h)
      · exact .inr (.inl h)
      · exact .inl h
      · exact .inr (.inr h)
    · rintro (h | h | h)
      · exact .inl (.inr h)
      · exact .inl (.inl h)
      · exact .inr h
theorem rise_up (l : List ByteArray) : UpT (rise l) := (rise_fold l [] List.Pairwise.nil).1
theorem mem_rise {l : List ByteArray} {z : ByteArray} : z ∈ rise l ↔ z ∈ l := by
  have := (rise_fold l [] List.Pairwise.nil).2 z
  unfold rise
  rw [this]
  simp
theorem UpT.nodup {l : List ByteArray} (h : UpT l) : l.Nodup := h.imp (fun h => lt_ne h)
theorem upT_unique : ∀ {l m : List ByteArray}, UpT l → UpT m → (∀ z, z ∈ l ↔ z ∈ m) → l = m
  | [], [], _, _, _ => rfl
  | [], y :: m, _, _, h => by have := (h y).2 List.mem_cons_self; cases this
  | x :: l, [], _, _, h => by have := (h x).1 List.mem_cons_self; cases this
  | x :: l, y :: m, hl, hm, h => by
    unfold UpT at hl hm
    rw [List.pairwise_cons] at hl hm
    have hxy : x = y := by
      rcases List.mem_cons.1 ((h x).1 List.mem_cons_self) with e | h1
      · exact e
      rcases List.mem_cons.1 ((h y).2 List.mem_cons_self) with e | h2
      · exact e.symm
      have a := hm.1 x h1
      have b := hl.1 y h2
      rw [lt_asymm a] at b
      cases b
    subst hxy
    rw [upT_unique hl.2 hm.2 (fun z => ?_)]
    constructor
    · intro hz
      rcases List.mem_cons.1 ((h z).1 (List.mem_cons_of_mem _ hz)) with e | hz'
      · subst e; have := hl.1 z hz; rw [lt_irrefl] at this; cases this
      · exact hz'
    · intro hz
      rcases List.mem_cons.1 ((h z).2 (List.mem_cons_of_mem _ hz)) with e | hz'
      · subst e; have := hm.1 z hz; rw [lt_irrefl] at this; cases this
      · exact hz'
def paths (ts : List (List Fl)) : List ByteArray := rise (ts.flatMap (fun t => t.map (·.1)))
theorem mem_paths {ts : List (List Fl)} {z : ByteArray} : z ∈ paths ts ↔ ∃ t ∈ ts, ∃ f ∈ t, f.1 = z := by
  unfold paths
  rw [mem_rise]
  simp [List.mem_flatMap]
theorem paths_like {ts us : List (List Fl)} (h : ∀ f : Fl, (∃ t ∈ ts, f ∈ t) ↔ ∃ u ∈ us, f ∈ u) : paths ts = paths us := by
  refine upT_unique (rise_up _) (rise_up _) (fun z => ?_)
  show z ∈ paths ts ↔ z ∈ paths us
  rw [mem_paths, mem_paths]
  constructor
  · rintro ⟨t, ht, f, hf, e⟩
    obtain ⟨u, hu, hf'⟩ := (h f).1 ⟨t, ht, hf⟩
    exact ⟨u, hu, f, hf', e⟩
  · rintro ⟨t, ht, f, hf, e⟩
    obtain ⟨u, hu, hf'⟩ := (h f).2 ⟨t, ht, hf⟩
    exact ⟨u, hu, f, hf', e⟩
theorem paths_turn (t u : List Fl) : paths [u, t, t] = paths [t, u] := paths_like (fun f => by
  simp only [List.mem_cons, List.not_mem_nil, or_false]
  constructor
  · rintro ⟨x, rfl | rfl | rfl, h⟩
    · exact ⟨_, .inr rfl, h⟩
    · exact ⟨_, .inl rfl, h⟩
    · exact ⟨_, .inl rfl, h⟩
  · rintro ⟨x, rfl | rfl, h⟩
    · exact ⟨_, .inr (.inl rfl), h⟩
    · exact ⟨_, .inl rfl, h⟩)
theorem Once.nodup {t : List Fl} (h : Once t) : (t.map (·.1)).Nodup := by
  unfold List.Nodup
  rw [List.pairwise_map]
  exact h.imp (fun h => lt_ne h)
theorem paths_length {t u : List Fl} (ht : Once t) (hu : Once u) : (paths [t, u]).length = t.length + (u.filter (fun f => (get t f.1).isNone)).length := by
  have hn : ((t ++ u.filter (fun f => (get t f.1).isNone)).map (·.1)).Nodup := by
    rw [List.map_append]
    refine List.nodup_append.2 ⟨ht.nodup, (Once.nodup (show Once _ from hu.sublist List.filter_sublist)), ?_⟩
    rintro x hx y hy rfl
    obtain ⟨f, hf, rfl⟩ := List.mem_map.1 hx
    obtain ⟨g, hg, e⟩ := List.mem_map.1 hy
    have h1 := (List.mem_filter.1 hg).2
    rw [Option.isNone_iff_eq_none, get_none] at h1
    exact h1 f hf e.symm
  have hp : (paths [t, u]).Perm ((t ++ u.filter (fun f => (get t f.1).isNone)).map (·.1)) := (List.perm_ext_iff_of_nodup (rise_up _).nodup hn).2 (fun z => ?_)
  · rw [hp.length_eq, List.length_map, List.length_append]
  · show z ∈ paths [t, u] ↔ _
    rw [mem_paths, List.mem_map]
    constructor
    · rintro ⟨x, hx, f, hf, e⟩
      rcases List.mem_cons.1 hx with rfl | hx
      · exact ⟨f, List.mem_append_left _ hf, e⟩
      · obtain rfl := List.mem_singleton.1 hx
        by_cases hg : get t f.1 = none
        · exact ⟨f, List.mem_append_right _ (List.mem_filter.2 ⟨hf, by rw [hg]; rfl⟩), e⟩
        · have : ∃ g ∈ t, g.1 = f.1 := by
            refine Classical.byContradiction (fun hc => hg (get_none.2 (fun g hg2 e2 => hc ⟨g, hg2, e2⟩)))
          obtain ⟨g, hg1, hg2⟩ := this
          exact ⟨g, List.mem_append_left _ hg1, hg2.trans e⟩
    · rintro ⟨f, hf, e⟩
      rcases List.mem_append.1 hf with h | h
      · exact ⟨t, by simp, f, h, e⟩
      · exact ⟨u, by simp, f, (List.mem_filter.1 h).1, e⟩

/-! ### Turned round from a place on -/
def rot (t : List Fl) (k : Nat) : List Fl := t.drop k ++ t.take k
theorem rot_perm (t : List Fl) (k : Nat) : (rot t k).Perm t := by
  unfold rot
  have := List.perm_append_comm (l₁ := t.drop k) (l₂ := t.take k)
  rwa [List.take_append_drop] at this
theorem rot_get (t : List Fl) (k i : Nat) (hk : k < t.length) (hi : i < t.length) : (rot t k)[i]? = t[(k + i) % t.length]? := by
  unfold rot
  by_cases h : k + i < t.length
  · rw [List.getElem?_append_left (by rw [List.length_drop]; omega), List.getElem?_drop, Nat.mod_eq_of_lt h]
  · have e : (k + i) % t.length = k + i - t.length := by
      rw [Nat.mod_eq_sub_mod (by omega), Nat.mod_eq_of_lt (by omega)]
    rw [List.getElem?_append_right (by rw [List.length_drop]; omega), List.length_drop, List.getElem?_take_of_lt (by omega), e]
    congr 1
    omega
theorem rot_length (t : List Fl) (k : Nat) : (rot t k).length = t.length := (rot_perm t k).length_eq
/-- One left out of those that are there. -/
theorem Once.drop_perm {out : List Fl} (h : Once out) {f : Fl} {r : List Fl} (hp : out.Perm (f :: r)) : (drop out f.1).Perm r ∧ Once (drop out f.1) := by
  refine ⟨?_, h.sublist (drop_sub out f.1)⟩
  have h1 : (drop out f.1).Perm (drop (f :: r) f.1) := hp.filter _
  have h2 : drop (f :: r) f.1 = r := by
    have h3 : (TreeLib.fil f.1 out).Perm (TreeLib.fil f.1 (f :: r)) := hp.filter _
    have hf : f ∈ out := hp.symm.subset List.mem_cons_self
    rw [h.fil hf, fil_cons, if_pos rfl] at h3
    have hl := h3.length_eq
    simp at hl
    unfold drop
    rw [List.filter_cons_of_neg (by simp), List.filter_eq_self]
    intro x hx
    have : x ∉ TreeLib.fil f.1 r := by rw [hl]; simp
    rw [mem_fil] at this
    simp
    exact fun e => this ⟨hx, e⟩
  rw [h2] at h1
  exact h1

end Go.TreeLib
