/-
  Two changes whose files stand apart are both there. No program is named here.
-/
import Derived.Test.YtndblaemladppabGreatDoorGPure
namespace Go.TreeLib
open Go Go.TextLib

/-- A file, its path behind a sign. -/
def pre (c : UInt8) (f : Fl) : Fl := (⟨(c :: Bs f.1).toArray⟩, f.2)
theorem pre_Bs (c : UInt8) (f : Fl) : Bs (pre c f).1 = c :: Bs f.1 := rfl
theorem Bs_inj {x y : ByteArray} (h : Bs x = Bs y) : x = y := by
  refine toList_inj ?_
  rw [ByteArray.toList_eq, ByteArray.toList_eq]
  exact h
theorem pre_inj {c : UInt8} {f g : Fl} (h : (pre c f).1 = (pre c g).1) : f.1 = g.1 := by
  have := congrArg Bs h
  rw [pre_Bs, pre_Bs, List.cons.injEq] at this
  exact Bs_inj this.2
def putsP (t : List Fl) (l : List Fl) : List Fl := l.foldl (fun t f => put t f.1 f.2) t
theorem putsP_snoc (t l : List Fl) (f : Fl) : putsP t (l ++ [f]) = put (putsP t l) f.1 f.2 := by unfold putsP; rw [List.foldl_append]; rfl
theorem put_len (t : List Fl) (p d : ByteArray) : (put t p d).length ≤ t.length + 1 := by
  unfold put
  rw [isort_length, List.length_append]
  have := (drop_sub t p).length_le
  simp
  omega
theorem putsP_len : ∀ (l t : List Fl), (putsP t l).length ≤ t.length + l.length
  | [], t => Nat.le_refl _
  | f :: l, t => by
    have := putsP_len l (put t f.1 f.2)
    have := put_len t f.1 f.2
    show (putsP (put t f.1 f.2) l).length ≤ _
    rw [List.length_cons]
    omega
theorem get_cons (f : Fl) (l : List Fl) (q : ByteArray) : get (f :: l) q = if f.1 = q then some f.2 else get l q := by
  unfold get
  rw [fil_cons]
  split
  · rfl
  · rfl
/-- What is there behind puts of files of unlike paths. -/
theorem putsP_get : ∀ (l t : List Fl), (l.map (·.1)).Nodup → ∀ q, get (putsP t l) q = (get l q).or (get t q)
  | [], t, _, q => by show get t q = (none : Option ByteArray).or _; rw [Option.none_or]
  | f :: l, t, h, q => by
    rw [List.map_cons, List.nodup_cons] at h
    show get (putsP (put t f.1 f.2) l) q = _
    rw [putsP_get l _ h.2, get_cons]
    by_cases e : f.1 = q
    · rw [if_pos e]
      have : get l q = none := get_none.2 (fun g hg e2 => h.1 (by rw [e, ← e2]; exact List.mem_map.2 ⟨g, hg, rfl⟩))
      rw [this, Option.none_or, ← e, get_put_self]
      rfl
    · rw [if_neg e, get_put_other e]
theorem putsP_rep : ∀ (l t : List Fl), Rep t (get t) → Rep (putsP t l) (get (putsP t l))
  | [], _, h => h
  | f :: l, t, h => putsP_rep l (put t f.1 f.2) ((h.put f.1 f.2).congr (fun q => ((h.put f.1 f.2).get q).symm))

theorem pre_nodup {c : UInt8} {t : List Fl} (h : Once t) : ((t.map (pre c)).map (·.1)).Nodup := by
  rw [List.map_map, List.nodup_iff_pairwise_ne, List.pairwise_map]
  exact h.imp (fun hl e => lt_ne hl (pre_inj e))
theorem pre_once {c : UInt8} {t : List Fl} (h : Once t) : Once (t.map (pre c)) := by
  unfold Once
  rw [List.pairwise_map]
  refine h.imp (fun {a b} hl => ?_)
  unfold lt at hl ⊢
  rw [ByteArray.toList_eq, ByteArray.toList_eq] at hl ⊢
  show Op.bytesLess (c :: Bs a.1) (c :: Bs b.1) = true
  unfold Op.bytesLess
  rw [show Op.bytesLess (Bs a.1) (Bs b.1) = true from hl]
  simp
theorem pre_get {c : UInt8} {t : List Fl} {q d : ByteArray} (h : get (t.map (pre c)) q = some d) : (Bs q).head? = some c := by
  have hf : ∃ f ∈ t.map (pre c), f.1 = q := Classical.byContradiction (fun hc => by
    rw [get_none.2 (fun f hf e => hc ⟨f, hf, e⟩)] at h
    cases h)
  obtain ⟨f, hf, rfl⟩ := hf
  obtain ⟨g, _, rfl⟩ := List.mem_map.1 hf
  rfl
theorem get_of_mem {t : List Fl} {f : Fl} (hf : f ∈ t) : ∃ d, get t f.1 = some d := by
  cases hg : get t f.1 with
  | some d => exact ⟨d, rfl⟩
  | none => exact absurd rfl (get_none.1 hg f hf)
theorem Rep.mem {t : List Fl} {g : ByteArray → Option ByteArray} (h : Rep t g) {f : Fl} : f ∈ t ↔ g f.1 = some f.2 := by
  have h1 : f ∈ t ↔ f ∈ fil f.1 t := by rw [mem_fil]; exact ⟨fun e => ⟨e, rfl⟩, fun e => e.1⟩
  rw [h1, h.2]
  cases g f.1 with
  | none => simp
  | some d =>
    obtain ⟨p, e⟩ := f
    simp [eq_comm]
theorem under_head {p q : List UInt8} {c d : UInt8} (h : under p q = true) (hp : p.head? = some c) (hq : q.head? = some d) : c = d := by
  unfold under at h
  rw [Bool.and_eq_true, Bool.and_eq_true, decide_eq_true_eq, decide_eq_true_eq, decide_eq_true_eq] at h
  obtain ⟨_, h2, _⟩ := h
  cases q with
  | nil => cases hq
  | cons x q =>
    cases p with
    | nil => cases hp
    | cons y p =>
      rw [List.length_cons, List.take_succ_cons, List.cons.injEq] at h2
      simp only [List.head?_cons, Option.some.injEq] at hp hq
      rw [← hp, ← hq, h2.1]

/-- Both changes are there. -/
theorem apart_of {o a b : List Fl} (ho : Once o) (ha : Once a) (hb : Once b)
    (hm : may3 (o.map (pre 111)) (putsP (o.map (pre 111)) (a.map (pre 97))) (putsP (o.map (pre 111)) (b.map (pre 98))) = true) (hl : a.length + b.length + o.length ≤ 12) :
    ofJ (o.map (pre 111)) (putsP (o.map (pre 111)) (a.map (pre 97))) (putsP (o.map (pre 111)) (b.map (pre 98))) = (putsP (putsP (o.map (pre 111)) (a.map (pre 97))) (b.map (pre 98)), []) := by
  obtain ⟨_, tx, ty⟩ := may3_iff.1 hm
  have hO : Rep (o.map (pre 111)) (get (o.map (pre 111))) := (pre_once ho).rep
  have hX := putsP_rep (a.map (pre 97)) _ hO
  have hY := putsP_rep (b.map (pre 98)) _ hO
  have hB := putsP_rep (b.map (pre 98)) _ hX
  have gX := putsP_get (a.map (pre 97)) (o.map (pre 111)) (pre_nodup ha)
  have gY := putsP_get (b.map (pre 98)) (o.map (pre 111)) (pre_nodup hb)
  have gB : ∀ q, get (putsP (putsP (o.map (pre 111)) (a.map (pre 97))) (b.map (pre 98))) q = (get (b.map (pre 98)) q).or ((get (a.map (pre 97)) q).or (get (o.map (pre 111)) q)) := fun q => by
    rw [putsP_get (b.map (pre 98)) _ (pre_nodup hb), gX]
  have hx : ∀ {q d}, get (a.map (pre 97)) q = some d → get (b.map (pre 98)) q = none ∧ get (o.map (pre 111)) q = none := fun {q d} h => by
    have h1 := pre_get h
    constructor
    · cases hg : get (b.map (pre 98)) q with
      | none => rfl
      | some e => have := pre_get hg; rw [h1] at this; cases this
    · cases hg : get (o.map (pre 111)) q with
      | none => rfl
      | some e => have := pre_get hg; rw [h1] at this; cases this
  have hy : ∀ {q d}, get (b.map (pre 98)) q = some d → get (a.map (pre 97)) q = none ∧ get (o.map (pre 111)) q = none := fun {q d} h => by
    have h1 := pre_get h
    constructor
    · cases hg : get (a.map (pre 97)) q with
      | none => rfl
      | some e => have := pre_get hg; rw [h1] at this; cases this
    · cases hg : get (o.map (pre 111)) q with
      | none => rfl
      | some e => have := pre_get hg; rw [h1] at this; cases this
  refine ofJ_is hm hB (fun q => ?_) ?_ (fun f hf => ?_)
  · unfold res
    cases ga : get (a.map (pre 97)) q with
    | some d =>
      obtain ⟨k1, k2⟩ := hx ga
      have e1 : atP (putsP (o.map (pre 111)) (b.map (pre 98))) q = atP (o.map (pre 111)) q := atP_iff.2 (by rw [gY, k1, Option.none_or])
      have e2 : atP (putsP (o.map (pre 111)) (a.map (pre 97))) q = atP (putsP (putsP (o.map (pre 111)) (a.map (pre 97))) (b.map (pre 98))) q := atP_iff.2 (by rw [gB, gX, k1, Option.none_or])
      rw [e1, e2]
      exact one3_right _ _
    | none =>
      have e1 : atP (putsP (o.map (pre 111)) (a.map (pre 97))) q = atP (o.map (pre 111)) q := atP_iff.2 (by rw [gX, ga, Option.none_or])
      have e2 : atP (putsP (o.map (pre 111)) (b.map (pre 98))) q = atP (putsP (putsP (o.map (pre 111)) (a.map (pre 97))) (b.map (pre 98))) q := atP_iff.2 (by rw [gB, gY, ga, Option.none_or])
      rw [e1, e2]
      exact one3_left _ _
  · have h1 := putsP_len (b.map (pre 98)) (putsP (o.map (pre 111)) (a.map (pre 97)))
    have h2 := putsP_len (a.map (pre 97)) (o.map (pre 111))
    rw [List.length_map] at h1 h2
    rw [List.length_map] at h2
    omega
  · refine List.any_eq_false.2 (fun g hg hu => ?_)
    have mf := hB.mem.1 hf
    have mg := hB.mem.1 hg
    rw [gB] at mf mg
    -- each lies in one of the two trees; their heads are alike
    have hd : ∀ {h : Fl}, (get (b.map (pre 98)) h.1).or ((get (a.map (pre 97)) h.1).or (get (o.map (pre 111)) h.1)) = some h.2 →
        ((Bs h.1).head? = some 98 ∧ h ∈ putsP (o.map (pre 111)) (b.map (pre 98))) ∨ ((Bs h.1).head? = some 97 ∧ h ∈ putsP (o.map (pre 111)) (a.map (pre 97))) ∨ ((Bs h.1).head? = some 111 ∧ h ∈ putsP (o.map (pre 111)) (a.map (pre 97)) ∧ h ∈ putsP (o.map (pre 111)) (b.map (pre 98))) := fun {h} e => by
      cases gb : get (b.map (pre 98)) h.1 with
      | some d =>
        rw [gb, Option.some_or] at e
        exact .inl ⟨pre_get gb, hY.mem.2 (by rw [gY, gb, Option.some_or]; exact e)⟩
      | none =>
        rw [gb, Option.none_or] at e
        cases ga : get (a.map (pre 97)) h.1 with
        | some d =>
          rw [ga, Option.some_or] at e
          exact .inr (.inl ⟨pre_get ga, hX.mem.2 (by rw [gX, ga, Option.some_or]; exact e)⟩)
        | none =>
          rw [ga, Option.none_or] at e
          exact .inr (.inr ⟨pre_get e, hX.mem.2 (by rw [gX, ga, Option.none_or]; exact e), hY.mem.2 (by rw [gY, gb, Option.none_or]; exact e)⟩)
    have flat : ∀ {t : List Fl}, IsTree t → f ∈ t → g ∈ t → False := fun {t} ht h1 h2 => by
      have := nested_not (tree_flat ht f h1) h2
      rw [this] at hu
      cases hu
    rcases hd mf with ⟨f1, f2⟩ | ⟨f1, f2⟩ | ⟨f1, f2, f3⟩ <;> rcases hd mg with ⟨g1, g2⟩ | ⟨g1, g2⟩ | ⟨g1, g2, g3⟩
    · exact flat ty f2 g2
    · exact absurd (under_head hu f1 g1) (by decide)
    · exact flat ty f2 g3
    · exact absurd (under_head hu f1 g1) (by decide)
    · exact flat tx f2 g2
    · exact flat tx f2 g2
    · exact flat ty f3 g2
    · exact flat tx f2 g2
    · exact flat tx f2 g2

end Go.TreeLib
