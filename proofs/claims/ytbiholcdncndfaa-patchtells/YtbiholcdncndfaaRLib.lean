/-
  Texts in order, and lists of files by rising paths, as plain functions: ins, isort (those of one path in their order), drop, put, get, rise; a sorted list is known by what it holds at each path.
-/
import Derived.Test.YtbiholcdncndfaaSeq
namespace Go.TreeLib
open Go

/-! ### Bytes in order -/
theorem bl_irrefl : ∀ x : List UInt8, Op.bytesLess x x = false
  | [] => rfl
  | a :: x => by
    have ih := bl_irrefl x
    unfold Op.bytesLess
    simp [ih]
theorem bl_trans : ∀ x y z : List UInt8, Op.bytesLess x y = true → Op.bytesLess y z = true → Op.bytesLess x z = true
  | _, [], _, h, _ => by unfold Op.bytesLess at h; cases h
  | _, _ :: _, [], _, h => by unfold Op.bytesLess at h; cases h
  | [], _ :: _, _ :: _, _, _ => by unfold Op.bytesLess; rfl
  | a :: x, b :: y, c :: z, h1, h2 => by
    have ih := bl_trans x y z
    unfold Op.bytesLess at h1 h2 ⊢
    simp only [Bool.or_eq_true, Bool.and_eq_true, decide_eq_true_eq, beq_iff_eq] at h1 h2 ⊢
    rcases h1 with h1 | ⟨rfl, h1⟩
    · rcases h2 with h2 | ⟨rfl, h2⟩
      · exact .inl (UInt8.lt_trans h1 h2)
      · exact .inl h1
    · rcases h2 with h2 | ⟨rfl, h2⟩
      · exact .inl h2
      · exact .inr ⟨rfl, ih h1 h2⟩
theorem bl_tri : ∀ x y : List UInt8, Op.bytesLess x y = false → Op.bytesLess y x = false → x = y
  | [], [], _, _ => rfl
  | [], _ :: _, h, _ => by unfold Op.bytesLess at h; cases h
  | _ :: _, [], _, h => by unfold Op.bytesLess at h; cases h
  | a :: x, b :: y, h1, h2 => by
    have ih := bl_tri x y
    unfold Op.bytesLess at h1 h2
    simp only [Bool.or_eq_false_iff, decide_eq_false_iff_not] at h1 h2
    have hab : a = b := UInt8.le_antisymm (UInt8.not_lt.1 h2.1) (UInt8.not_lt.1 h1.1)
    subst hab
    rw [ih (by simpa using h1.2) (by simpa using h2.2)]

def lt (x y : ByteArray) : Bool := Op.bytesLess x.toList y.toList
theorem toList_inj {x y : ByteArray} (h : x.toList = y.toList) : x = y := by
  rw [Go.ByteArray.toList_eq, Go.ByteArray.toList_eq] at h
  cases x; cases y
  exact congrArg ByteArray.mk (Array.toList_inj.1 h)
theorem lt_irrefl (x : ByteArray) : lt x x = false := bl_irrefl _
theorem lt_trans {x y z : ByteArray} (h1 : lt x y = true) (h2 : lt y z = true) : lt x z = true := bl_trans _ _ _ h1 h2
theorem lt_tri {x y : ByteArray} (h1 : lt x y = false) (h2 : lt y x = false) : x = y := toList_inj (bl_tri _ _ h1 h2)
theorem lt_asymm {x y : ByteArray} (h : lt x y = true) : lt y x = false := by
  cases h2 : lt y x with
  | false => rfl
  | true => have := lt_trans h h2; rw [lt_irrefl] at this; cases this
theorem lt_ne {x y : ByteArray} (h : lt x y = true) : x ≠ y := by rintro rfl; rw [lt_irrefl] at h; cases h
theorem le_trans {x y z : ByteArray} (h1 : lt y x = false) (h2 : lt z y = false) : lt z x = false := by
  cases h : lt z x with
  | false => rfl
  | true =>
    cases h3 : lt x y with
    | true => rw [lt_trans h h3] at h2; cases h2
    | false => rw [lt_tri h3 h1, h2] at h; cases h
theorem lt_le {x y z : ByteArray} (h1 : lt x y = true) (h2 : lt z y = false) : lt x z = true := by
  cases h3 : lt y z with
  | true => exact lt_trans h1 h3
  | false => rw [← lt_tri h3 h2]; exact h1

/-! ### Files by rising paths -/
abbrev Fl := ByteArray × ByteArray
/-- No path ahead of a lesser one. -/
def Up (l : List Fl) : Prop := l.Pairwise (fun a b => lt b.1 a.1 = false)
def fil (p : ByteArray) (l : List Fl) : List Fl := l.filter (fun f => decide (f.1 = p))
theorem fil_app (p : ByteArray) (l m : List Fl) : fil p (l ++ m) = fil p l ++ fil p m := by unfold fil; rw [List.filter_append]
theorem fil_cons (p : ByteArray) (f : Fl) (l : List Fl) : fil p (f :: l) = if f.1 = p then f :: fil p l else fil p l := by
  unfold fil
  by_cases h : f.1 = p
  · rw [if_pos h, List.filter_cons_of_pos (by simpa using h)]
  · rw [if_neg h, List.filter_cons_of_neg (by simpa using h)]
theorem fil_nil_of {p : ByteArray} {l : List Fl} (h : ∀ f ∈ l, f.1 ≠ p) : fil p l = [] := by
  unfold fil
  rw [List.filter_eq_nil_iff]
  intro f hf
  simpa using h f hf
theorem mem_fil {p : ByteArray} {l : List Fl} {f : Fl} : f ∈ fil p l ↔ f ∈ l ∧ f.1 = p := by unfold fil; rw [List.mem_filter]; simp

/-- A list in order is known by what it holds at each path. -/
theorem up_unique : ∀ {l m : List Fl}, Up l → Up m → (∀ p, fil p l = fil p m) → l = m
  | [], [], _, _, _ => rfl
  | [], g :: m, _, _, h => by
    have := h g.1
    rw [fil_cons, if_pos rfl] at this
    cases this
  | f :: l, [], _, _, h => by
    have := h f.1
    rw [fil_cons, if_pos rfl] at this
    cases this
  | f :: l, g :: m, hl, hm, h => by
    unfold Up at hl hm
    rw [List.pairwise_cons] at hl hm
    have hfg : f.1 = g.1 := by
      have hf : f ∈ g :: m := by
        have := h f.1
        rw [fil_cons, if_pos rfl] at this
        exact (mem_fil.1 (this ▸ List.mem_cons_self)).1
      have hg : g ∈ f :: l := by
        have := h g.1
        rw [fil_cons g.1 g, if_pos rfl] at this
        exact (mem_fil.1 (this.symm ▸ List.mem_cons_self)).1
      have a1 : lt f.1 g.1 = false := by
        rcases List.mem_cons.1 hf with e | hf
        · rw [e, lt_irrefl]
        · exact hm.1 f hf
      have a2 : lt g.1 f.1 = false := by
        rcases List.mem_cons.1 hg with e | hg
        · rw [e, lt_irrefl]
        · exact hl.1 g hg
      exact lt_tri a1 a2
    have he := h f.1
    rw [fil_cons, if_pos rfl, fil_cons, if_pos hfg.symm] at he
    obtain ⟨rfl, _⟩ := List.cons.inj he
    rw [up_unique hl.2 hm.2 (fun p => by
      have := h p
      rw [fil_cons, fil_cons] at this
      split at this
      · exact (List.cons.inj this).2
      · exact this)]

/-- A file put in behind all that are not greater. -/
def ins (f : Fl) : List Fl → List Fl
  | [] => [f]
  | g :: r => if lt f.1 g.1 = true then f :: g :: r else g :: ins f r
theorem mem_ins {f x : Fl} : ∀ {l : List Fl}, x ∈ ins f l ↔ x = f ∨ x ∈ l
  | [] => by simp [ins]
  | g :: r => by
    unfold ins
    split
    · simp
    · rw [List.mem_cons, mem_ins, List.mem_cons]
      constructor
      · rintro (h | h | h)
        · exact .inr (.inl h)
        · exact .inl h
        · exact .inr (.inr h)
      · rintro (h | h | h)
        · exact .inr (.inl h)
        · exact .inl h
        · exact .inr (.inr h)
theorem ins_up {f : Fl} : ∀ {l : List Fl}, Up l → Up (ins f l)
  | [], _ => by unfold ins Up; simp
  | g :: r, h => by
    unfold Up at h
    rw [List.pairwise_cons] at h
    unfold ins
    split
    · rename_i hlt
      unfold Up
      rw [List.pairwise_cons, List.pairwise_cons]
      refine ⟨fun x hx => ?_, h⟩
      rcases List.mem_cons.1 hx with e | hx
      · rw [e]; exact lt_asymm hlt
      · exact le_trans (lt_asymm hlt) (h.1 x hx)
    · rename_i hlt
      unfold Up
      rw [List.pairwise_cons]
      refine ⟨fun x hx => ?_, ins_up h.2⟩
      rcases mem_ins.1 hx with e | hx
      · rw [e]; simpa using hlt
      · exact h.1 x hx
theorem ins_fil {f : Fl} (p : ByteArray) : ∀ {l : List Fl}, Up l → fil p (ins f l) = fil p l ++ fil p [f]
  | [], _ => by unfold ins; simp [fil]
  | g :: r, h => by
    unfold Up at h
    rw [List.pairwise_cons] at h
    unfold ins
    split
    · rename_i hlt
      by_cases e : f.1 = p
      · have hn : fil p (g :: r) = [] := fil_nil_of (fun x hx he => by
          rcases List.mem_cons.1 hx with rfl | hx
          · rw [he, e, lt_irrefl] at hlt; cases hlt
          · have := h.1 x hx
            rw [he, ← e, hlt] at this
            cases this)
        rw [fil_cons, hn]
        simp [fil, e]
      · rw [fil_cons, if_neg e]
        simp [fil, e]
    · rw [fil_cons, fil_cons, ins_fil p h.2]
      split <;> simp
theorem ins_length (f : Fl) : ∀ l : List Fl, (ins f l).length = l.length + 1
  | [] => rfl
  | g :: r => by
    unfold ins
    split
    · rfl
    · rw [List.length_cons, ins_length f r, List.length_cons]
/-- All in order, those of one path as they stood. -/
def isort (l : List Fl) : List Fl := l.foldl (fun out f => ins f out) []
theorem isort_snoc (l : List Fl) (f : Fl) : isort (l ++ [f]) = ins f (isort l) := by unfold isort; rw [List.foldl_append]; rfl
theorem fold_up : ∀ (l out : List Fl), Up out → Up (l.foldl (fun out f => ins f out) out) ∧ ∀ p, fil p (l.foldl (fun out f => ins f out) out) = fil p out ++ fil p l
  | [], out, h => ⟨h, fun p => by simp [fil]⟩
  | f :: l, out, h => by
    obtain ⟨h1, h2⟩ := fold_up l (ins f out) (ins_up h)
    refine ⟨h1, fun p => ?_⟩
    rw [List.foldl_cons, h2, ins_fil p h, List.append_assoc, ← fil_app]
    rfl
theorem isort_up (l : List Fl) : Up (isort l) := (fold_up l [] List.Pairwise.nil).1
theorem isort_fil (p : ByteArray) (l : List Fl) : fil p (isort l) = fil p l := by
  have := (fold_up l [] List.Pairwise.nil).2 p
  rw [show fil p [] = [] from rfl, List.nil_append] at this
  exact this
theorem isort_length (l : List Fl) : (isort l).length = l.length := by
  have : ∀ (l out : List Fl), (l.foldl (fun out f => ins f out) out).length = out.length + l.length := by
    intro l
    induction l with
    | nil => intro out; rfl
    | cons f l ih => intro out; rw [List.foldl_cons, ih, ins_length, List.length_cons]; omega
  have := this l []
  rw [List.length_nil, Nat.zero_add] at this
  exact this
theorem isort_of {l m : List Fl} (hm : Up m) (h : ∀ p, fil p l = fil p m) : isort l = m := up_unique (isort_up l) hm (fun p => by rw [isort_fil, h])
theorem isort_self {l : List Fl} (h : Up l) : isort l = l := isort_of h (fun _ => rfl)

/-! ### drop, put, get -/
def drop (t : List Fl) (p : ByteArray) : List Fl := t.filter (fun f => !decide (f.1 = p))
def put (t : List Fl) (p d : ByteArray) : List Fl := isort (drop t p ++ [(p, d)])
def get (t : List Fl) (p : ByteArray) : Option ByteArray := (fil p t).head?.map (·.2)
theorem drop_fil_self (t : List Fl) (p : ByteArray) : fil p (drop t p) = [] := fil_nil_of (fun f hf => by
  have := (List.mem_filter.1 hf).2
  simpa using this)
theorem drop_fil {p q : ByteArray} (h : q ≠ p) (t : List Fl) : fil q (drop t p) = fil q t := by
  unfold fil drop
  rw [List.filter_filter]
  refine List.filter_congr (fun f _ => ?_)
  by_cases e : f.1 = q
  · simp [e, h]
  · simp [e]
theorem mem_drop {t : List Fl} {p : ByteArray} {f : Fl} : f ∈ drop t p ↔ f ∈ t ∧ f.1 ≠ p := by unfold drop; rw [List.mem_filter]; simp
theorem drop_sub (t : List Fl) (p : ByteArray) : List.Sublist (drop t p) t := List.filter_sublist
theorem drop_up {t : List Fl} (h : Up t) (p : ByteArray) : Up (drop t p) := h.sublist (drop_sub t p)
theorem drop_none {t : List Fl} {p : ByteArray} (h : ∀ f ∈ t, f.1 ≠ p) : drop t p = t := by
  unfold drop
  rw [List.filter_eq_self]
  intro f hf
  simpa using h f hf
theorem put_up (t : List Fl) (p d : ByteArray) : Up (put t p d) := isort_up _
theorem put_fil (t : List Fl) (p d : ByteArray) (q : ByteArray) : fil q (put t p d) = if p = q then [(p, d)] else fil q t := by
  unfold put
  rw [isort_fil, fil_app]
  by_cases e : p = q
  · subst e
    rw [drop_fil_self, if_pos rfl, fil_cons, if_pos rfl]
    rfl
  · rw [drop_fil (fun h => e h.symm), if_neg e, fil_cons, if_neg e]
    simp [fil]
theorem get_put_self (t : List Fl) (p d : ByteArray) : get (put t p d) p = some d := by unfold get; rw [put_fil, if_pos rfl]; rfl
theorem get_put_other {p q : ByteArray} (h : p ≠ q) (t : List Fl) (d : ByteArray) : get (put t p d) q = get t q := by unfold get; rw [put_fil, if_neg h]
theorem get_drop_self (t : List Fl) (p : ByteArray) : get (drop t p) p = none := by unfold get; rw [drop_fil_self]; rfl
theorem get_none {t : List Fl} {p : ByteArray} : get t p = none ↔ ∀ f ∈ t, f.1 ≠ p := by
  unfold get
  rw [Option.map_eq_none_iff, List.head?_eq_none_iff]
  constructor
  · intro h f hf e
    have : f ∈ fil p t := mem_fil.2 ⟨hf, e⟩
    rw [h] at this
    cases this
  · exact fil_nil_of
theorem drop_put {t : List Fl} (h : Up t) (p d : ByteArray) : drop (put t p d) p = drop t p := by
  refine up_unique (drop_up (put_up t p d) p) (drop_up h p) (fun q => ?_)
  by_cases e : q = p
  · subst e; rw [drop_fil_self, drop_fil_self]
  · rw [drop_fil e, drop_fil e, put_fil, if_neg (fun h => e h.symm)]
theorem put_length {t : List Fl} {p : ByteArray} (h : ∀ f ∈ t, f.1 ≠ p) (d : ByteArray) : (put t p d).length = t.length + 1 := by
  unfold put
  rw [isort_length, drop_none h]
  simp

/-! ### Lists of which no path stands twice -/
def Once (t : List Fl) : Prop := t.Pairwise (fun a b => lt a.1 b.1 = true)
theorem Once.up {t : List Fl} (h : Once t) : Up t := h.imp (fun h => lt_asymm h)
theorem Once.fil {t : List Fl} (h : Once t) {f : Fl} (hf : f ∈ t) : fil f.1 t = [f] := by
  induction t with
  | nil => cases hf
  | cons g r ih =>
    unfold Once at h
    rw [List.pairwise_cons] at h
    rcases List.mem_cons.1 hf with rfl | hr
    · rw [fil_cons, if_pos rfl, fil_nil_of (fun x hx => (lt_ne (h.1 x hx)).symm)]
    · rw [fil_cons, if_neg (lt_ne (h.1 f hr)), ih h.2 hr]
theorem Once.get {t : List Fl} (h : Once t) {f : Fl} (hf : f ∈ t) : get t f.1 = some f.2 := by unfold TreeLib.get; rw [h.fil hf]; rfl
theorem Once.put_drop {t : List Fl} (h : Once t) {f : Fl} (hf : f ∈ t) : put (drop t f.1) f.1 f.2 = t := by
  refine up_unique (put_up _ _ _) h.up (fun q => ?_)
  rw [put_fil]
  by_cases e : f.1 = q
  · subst e; rw [if_pos rfl, h.fil hf]
  · rw [if_neg e, drop_fil (fun h => e h.symm)]
theorem len_parts (p : Fl → Bool) : ∀ l : List Fl, l.length = (l.filter p).length + (l.filter (fun x => !p x)).length
  | [] => rfl
  | a :: l => by
    have ih := len_parts p l
    cases h : p a <;> simp [h] <;> omega
theorem Once.drop_length {t : List Fl} (h : Once t) {f : Fl} (hf : f ∈ t) : (drop t f.1).length + 1 = t.length := by
  have h1 := h.fil hf
  unfold TreeLib.fil at h1
  unfold drop
  have := len_parts (fun g => decide (g.1 = f.1)) t
  rw [h1] at this
  rw [this, List.length_singleton]
  omega

/-- Put in one by one, in whatever order, it is the list. -/
theorem gather_up {t : List Fl} (h : Once t) {fs : List Fl} (hp : fs.Perm t) : fs.foldl (fun out f => put out f.1 f.2) [] = t := by
  have key : ∀ (fs done out : List Fl), (done ++ fs).Perm t → out = isort done → fs.foldl (fun out f => put out f.1 f.2) out = isort (done ++ fs) := by
    intro fs
    induction fs with
    | nil => intro done out _ e; rw [List.append_nil]; exact e
    | cons f r ih =>
      intro done out hp e
      rw [List.foldl_cons]
      have hn : ∀ x ∈ out, x.1 ≠ f.1 := by
        intro x hx he
        rw [e] at hx
        have hxd : x ∈ done := by
          have : x ∈ fil x.1 (isort done) := mem_fil.2 ⟨hx, rfl⟩
          rw [isort_fil] at this
          exact (mem_fil.1 this).1
        have h1 : (fil f.1 (done ++ f :: r)).Perm (fil f.1 t) := hp.filter _
        have hft : f ∈ t := hp.subset (by simp)
        rw [h.fil hft, fil_app, fil_cons, if_pos rfl] at h1
        have hl := h1.length_eq
        have : 0 < (fil f.1 done).length := List.length_pos_of_mem (mem_fil.2 ⟨hxd, he⟩)
        simp at hl
        omega
      have e2 : put out f.1 f.2 = isort (done ++ [f]) := by
        unfold put
        rw [drop_none hn, e]
        refine up_unique (isort_up _) (isort_up _) (fun p => ?_)
        rw [isort_fil, isort_fil, fil_app, fil_app, isort_fil]
      have := ih (done ++ [f]) (put out f.1 f.2) (by rw [List.append_assoc]; exact hp) e2
      rw [this, List.append_assoc]
      rfl
  rw [key fs [] [] hp rfl, List.nil_append]
  refine isort_of h.up (fun p => ?_)
  have h1 : (fil p fs).Perm (fil p t) := hp.filter _
  by_cases hx : ∃ f ∈ t, f.1 = p
  · obtain ⟨f, hf, rfl⟩ := hx
    rw [h.fil hf] at h1 ⊢
    exact List.perm_singleton.1 h1
  · have : fil p t = [] := fil_nil_of (fun f hf e => hx ⟨f, hf, e⟩)
    rw [this] at h1 ⊢
    exact List.perm_nil.1 h1

end Go.TreeLib
