/-
  How two lists of files are unlike, and what comes of changes, as plain functions: what made one tree of another makes it, turned it leads back. No program is named here.
-/
import Derived.Test.YtbiholcdncndfaaRLib2
namespace Go.TreeLib
open Go

/-- A change: path, was, is, old, new. -/
abbrev Chn := ByteArray × Bool × Bool × ByteArray × ByteArray
def atP (t : List Fl) (p : ByteArray) : Bool × ByteArray := ((get t p).isSome, (get t p).getD ⟨#[]⟩)
def chOf (a b : List Fl) (p : ByteArray) : Chn := (p, (atP a p).1, (atP b p).1, (atP a p).2, (atP b p).2)
def difs (a b : List Fl) (l : List ByteArray) : List Chn := (l.filter (fun p => !decide (atP a p = atP b p))).map (chOf a b)
def ofP (a b : List Fl) : List Chn := difs a b (paths [a, b])
def withP (t : List Fl) (c : Chn) : List Fl := if c.2.2.1 = true then put t c.1 c.2.2.2.2 else drop t c.1
def appP (t : List Fl) : List Chn → Option (List Fl)
  | [] => some t
  | c :: r => if atP t c.1 = (c.2.1, c.2.2.2.1) then appP (withP t c) r else none
def turn1 (c : Chn) : Chn := (c.1, c.2.2.1, c.2.1, c.2.2.2.2, c.2.2.2.1)
def turnP (cs : List Chn) : List Chn := (cs.map turn1).reverse

theorem atP_iff {a b : List Fl} {p q : ByteArray} : atP a p = atP b q ↔ get a p = get b q := by
  unfold atP
  cases get a p <;> cases get b q <;> simp
theorem difs_cons (a b : List Fl) (p : ByteArray) (l : List ByteArray) : difs a b (p :: l) = if atP a p = atP b p then difs a b l else chOf a b p :: difs a b l := by
  unfold difs
  by_cases h : atP a p = atP b p
  · rw [if_pos h, List.filter_cons_of_neg (by simp [h])]
  · rw [if_neg h, List.filter_cons_of_pos (by simp [h]), List.map_cons]
theorem difs_snoc (a b : List Fl) (p : ByteArray) (l : List ByteArray) : difs a b (l ++ [p]) = if atP a p = atP b p then difs a b l else difs a b l ++ [chOf a b p] := by
  have h1 : difs a b (l ++ [p]) = difs a b l ++ difs a b [p] := by unfold difs; rw [List.filter_append, List.map_append]
  rw [h1, difs_cons]
  split
  · exact List.append_nil _
  · rfl
theorem difs_length (a b : List Fl) (l : List ByteArray) : (difs a b l).length ≤ l.length := by
  unfold difs
  rw [List.length_map]
  exact List.length_filter_le _ _
theorem rise_len (l : List ByteArray) : (rise l).length ≤ l.length := by
  have hi : ∀ (x : ByteArray) (out : List ByteArray), (insT x out).length ≤ out.length + 1 := by
    intro x out
    induction out with
    | nil => exact Nat.le_refl _
    | cons y r ih =>
      unfold insT
      split
      · exact Nat.le_refl _
      · split
        · exact Nat.le_succ _
        · rw [List.length_cons, List.length_cons]; omega
  have : ∀ (l out : List ByteArray), (l.foldl (fun out x => insT x out) out).length ≤ out.length + l.length := by
    intro l
    induction l with
    | nil => intro out; exact Nat.le_refl _
    | cons x l ih => intro out; rw [List.foldl_cons, List.length_cons]; have := ih (insT x out); have := hi x out; omega
  have := this l []
  rw [List.length_nil, Nat.zero_add] at this
  exact this
theorem paths_len (a b : List Fl) : (paths [a, b]).length ≤ a.length + b.length := by
  unfold paths
  refine Nat.le_trans (rise_len _) ?_
  simp
theorem ofP_length (a b : List Fl) : (ofP a b).length ≤ a.length + b.length := Nat.le_trans (difs_length _ _ _) (paths_len a b)
theorem withP_length (t : List Fl) (c : Chn) : (withP t c).length ≤ t.length + 1 := by
  unfold withP
  have hd := (drop_sub t c.1).length_le
  split
  · unfold put
    rw [isort_length, List.length_append]
    simp
    exact hd
  · omega
theorem app_append : ∀ (x y : List Chn) (t : List Fl), appP t (x ++ y) = (appP t x).bind (fun u => appP u y)
  | [], _, _ => rfl
  | c :: x, y, t => by
    show (if _ then _ else _) = Option.bind (if _ then _ else _) _
    split
    · exact app_append x y (withP t c)
    · rfl

/-! ### Lists that hold just what a function says -/
def Rep (t : List Fl) (g : ByteArray → Option ByteArray) : Prop := Up t ∧ ∀ q, fil q t = (g q).toList.map (fun d => (q, d))
theorem Rep.uniq {t u : List Fl} {g : ByteArray → Option ByteArray} (h : Rep t g) (k : Rep u g) : t = u := up_unique h.1 k.1 (fun q => (h.2 q).trans (k.2 q).symm)
theorem Rep.congr {t : List Fl} {g g' : ByteArray → Option ByteArray} (h : Rep t g) (e : ∀ q, g q = g' q) : Rep t g' := ⟨h.1, fun q => by rw [h.2, e]⟩
theorem Rep.get {t : List Fl} {g : ByteArray → Option ByteArray} (h : Rep t g) (q : ByteArray) : TreeLib.get t q = g q := by
  unfold TreeLib.get
  rw [h.2]
  cases g q <;> rfl
theorem Once.rep {t : List Fl} (h : Once t) : Rep t (TreeLib.get t) := ⟨h.up, fun q => by
  cases hg : TreeLib.get t q with
  | none => exact fil_nil_of (get_none.1 hg)
  | some d =>
    have hf : ∃ f ∈ t, f.1 = q := Classical.byContradiction (fun hc => by
      rw [get_none.2 (fun f hf e => hc ⟨f, hf, e⟩)] at hg
      cases hg)
    obtain ⟨f, hf, rfl⟩ := hf
    rw [h.get hf] at hg
    cases hg
    rw [h.fil hf]
    rfl⟩
theorem Rep.put {t : List Fl} {g : ByteArray → Option ByteArray} (h : Rep t g) (p d : ByteArray) : Rep (TreeLib.put t p d) (fun q => if p = q then some d else g q) := ⟨put_up _ _ _, fun q => by
  rw [put_fil]
  show _ = (if p = q then some d else g q).toList.map _
  split
  · rename_i e; subst e; rfl
  · exact h.2 q⟩
theorem Rep.drop {t : List Fl} {g : ByteArray → Option ByteArray} (h : Rep t g) (p : ByteArray) : Rep (TreeLib.drop t p) (fun q => if p = q then none else g q) := ⟨drop_up h.1 p, fun q => by
  show _ = (if p = q then none else g q).toList.map _
  by_cases e : p = q
  · subst e; rw [drop_fil_self, if_pos rfl]; rfl
  · rw [drop_fil (fun h => e h.symm), if_neg e]; exact h.2 q⟩
theorem get_not_mem {t u : List Fl} {p : ByteArray} (h : p ∉ paths [t, u]) : get t p = none ∧ get u p = none := by
  rw [mem_paths] at h
  exact ⟨get_none.2 (fun f hf e => h ⟨t, by simp, f, hf, e⟩), get_none.2 (fun f hf e => h ⟨u, by simp, f, hf, e⟩)⟩

theorem app_difs {a b : List Fl} : ∀ (l : List ByteArray) (t : List Fl) (g : ByteArray → Option ByteArray), l.Nodup → Rep t g → (∀ p ∈ l, g p = get a p) → ∃ u, appP t (difs a b l) = some u ∧ ∀ h : ByteArray → Option ByteArray, (∀ q ∈ l, h q = get b q) → (∀ q, q ∉ l → h q = g q) → Rep u h
  | [], t, g, _, h, _ => ⟨t, rfl, fun k _ h2 => h.congr (fun q => (h2 q (by simp)).symm)⟩
  | p :: l, t, g, hn, h, hg => by
    obtain ⟨hp, hn⟩ := List.nodup_cons.1 hn
    rw [difs_cons]
    by_cases e : atP a p = atP b p
    · rw [if_pos e]
      obtain ⟨u, hu, hr⟩ := app_difs l t g hn h (fun q hq => hg q (List.mem_cons_of_mem _ hq))
      refine ⟨u, hu, fun k h1 h2 => hr k (fun q hq => h1 q (List.mem_cons_of_mem _ hq)) (fun q hq => ?_)⟩
      by_cases hqp : q = p
      · subst hqp
        rw [h1 q List.mem_cons_self, hg q List.mem_cons_self]
        exact (atP_iff.1 e).symm
      · exact h2 q (by simp [hqp, hq])
    · rw [if_neg e]
      have ht : atP t (chOf a b p).1 = ((chOf a b p).2.1, (chOf a b p).2.2.2.1) := by
        show atP t p = atP a p
        rw [atP_iff, h.get, hg p List.mem_cons_self]
      have hw : Rep (withP t (chOf a b p)) (fun q => if p = q then get b p else g q) := by
        unfold withP
        cases hb : get b p with
        | none =>
          have : (chOf a b p).2.2.1 = false := by show (atP b p).1 = false; unfold atP; rw [hb]; rfl
          rw [if_neg (by rw [this]; simp)]
          exact h.drop p
        | some d =>
          have h1 : (chOf a b p).2.2.1 = true := by show (atP b p).1 = true; unfold atP; rw [hb]; rfl
          have h2 : (chOf a b p).2.2.2.2 = d := by show (atP b p).2 = d; unfold atP; rw [hb]; rfl
          rw [if_pos h1, h2]
          exact h.put p d
      obtain ⟨u, hu, hr⟩ := app_difs l _ _ hn hw (fun q hq => by
        rw [if_neg (fun e => hp (by rw [e]; exact hq))]
        exact hg q (List.mem_cons_of_mem _ hq))
      refine ⟨u, ?_, fun k h1 h2 => hr k (fun q hq => h1 q (List.mem_cons_of_mem _ hq)) (fun q hq => ?_)⟩
      · show (if _ then _ else _) = _
        rw [if_pos ht]
        exact hu
      · show _ = if p = q then get b p else g q
        by_cases hqp : q = p
        · subst hqp
          rw [if_pos rfl, h1 q List.mem_cons_self]
        · rw [if_neg (fun e => hqp e.symm), h2 q (by simp [hqp, hq])]
theorem paths_nodup (ts : List (List Fl)) : (paths ts).Nodup := (rise_up _).nodup
/-- Any order of the paths leads from the one to the other. -/
theorem app_all {a b : List Fl} (ha : Once a) (hb : Once b) {l : List ByteArray} (hn : l.Nodup) (hl : ∀ p, p ∈ l ↔ p ∈ paths [a, b]) : appP a (difs a b l) = some b := by
  obtain ⟨u, hu, hr⟩ := app_difs (b := b) l a (get a) hn ha.rep (fun _ _ => rfl)
  rw [hu]
  congr 1
  refine Rep.uniq (hr (get b) (fun _ _ => rfl) (fun q h => ?_)) hb.rep
  obtain ⟨h1, h2⟩ := get_not_mem (fun hc => h ((hl q).2 hc))
  rw [h1, h2]
theorem app_of {a b : List Fl} (ha : Once a) (hb : Once b) : appP a (ofP a b) = some b := app_all ha hb (paths_nodup _) (fun _ => Iff.rfl)
theorem turn_chOf (a b : List Fl) (p : ByteArray) : turn1 (chOf a b p) = chOf b a p := rfl
theorem difs_turn (a b : List Fl) (l : List ByteArray) : (difs a b l).map turn1 = difs b a l := by
  unfold difs
  rw [List.map_map]
  have : (l.filter fun p => !decide (atP a p = atP b p)) = l.filter fun p => !decide (atP b p = atP a p) := List.filter_congr (fun p _ => by simp [eq_comm])
  rw [this]
  rfl
theorem difs_reverse (a b : List Fl) (l : List ByteArray) : (difs a b l).reverse = difs a b l.reverse := by
  unfold difs
  rw [List.filter_reverse, List.map_reverse]
theorem paths_swap (a b : List Fl) : paths [b, a] = paths [a, b] := paths_like (fun f => by simp [or_comm])
theorem of_back (a b : List Fl) : ofP b a = (ofP a b).map turn1 := by
  unfold ofP
  rw [difs_turn, paths_swap]
theorem turn_of (a b : List Fl) : turnP (ofP a b) = (ofP b a).reverse := by unfold turnP; rw [← of_back]
theorem app_turn {a b : List Fl} (ha : Once a) (hb : Once b) : appP b (turnP (ofP a b)) = some a := by
  rw [turn_of]
  unfold ofP
  rw [difs_reverse]
  exact app_all hb ha (List.pairwise_reverse.2 (List.Pairwise.imp (fun h => Ne.symm h) (paths_nodup _))) (fun p => List.mem_reverse)
theorem app_none (a b : List Fl) : (appP b (ofP a b)).isSome = decide ((ofP a b).length = 0) := by
  cases h : ofP a b with
  | nil => rfl
  | cons c r =>
    have hc : c ∈ ofP a b := by rw [h]; exact List.mem_cons_self
    unfold ofP difs at hc
    obtain ⟨p, hp, rfl⟩ := List.mem_map.1 hc
    have hne := (List.mem_filter.1 hp).2
    simp at hne
    show Option.isSome (if _ then _ else _) = _
    rw [if_neg (show ¬ atP b (chOf a b p).1 = ((chOf a b p).2.1, (chOf a b p).2.2.2.1) from fun e => hne (show atP b p = atP a p from e).symm)]
    rfl
theorem of_nil {a b : List Fl} (ha : Once a) (hb : Once b) : (ofP a b).length = 0 ↔ a = b := by
  constructor
  · intro h
    have := app_of ha hb
    rw [List.length_eq_zero_iff.1 h] at this
    exact Option.some.inj this
  · rintro rfl
    unfold ofP difs
    simp
theorem of_rise (a b : List Fl) : (ofP a b).Pairwise (fun x y => lt x.1 y.1 = true) := by
  unfold ofP difs
  rw [List.pairwise_map]
  exact (rise_up _).sublist List.filter_sublist
theorem app_steps {a b c : List Fl} (ha : Once a) (hb : Once b) (hc : Once c) : appP a (ofP a b ++ ofP b c) = some c := by
  rw [app_append, app_of ha hb]
  exact app_of hb hc

/-! ### How many -/
theorem paths_perm {t u : List Fl} (ht : Once t) (hu : Once u) : (paths [t, u]).Perm (t.map (·.1) ++ (u.filter (fun f => (get t f.1).isNone)).map (·.1)) := by
  have hn : ((t ++ u.filter (fun f => (get t f.1).isNone)).map (·.1)).Nodup := by
    rw [List.map_append]
    refine List.nodup_append.2 ⟨ht.nodup, (Once.nodup (show Once _ from hu.sublist List.filter_sublist)), ?_⟩
    rintro x hx y hy rfl
    obtain ⟨f, hf, rfl⟩ := List.mem_map.1 hx
    obtain ⟨g, hg, e⟩ := List.mem_map.1 hy
    have h1 := (List.mem_filter.1 hg).2
    rw [Option.isNone_iff_eq_none, get_none] at h1
    exact h1 f hf e.symm
  rw [← List.map_append]
  refine (List.perm_ext_iff_of_nodup (rise_up _).nodup hn).2 (fun z => ?_)
  show z ∈ paths [t, u] ↔ _
  rw [mem_paths, List.mem_map]
  constructor
  · rintro ⟨x, hx, f, hf, e⟩
    rcases List.mem_cons.1 hx with rfl | hx
    · exact ⟨f, List.mem_append_left _ hf, e⟩
    · obtain rfl := List.mem_singleton.1 hx
      by_cases hg : get t f.1 = none
      · exact ⟨f, List.mem_append_right _ (List.mem_filter.2 ⟨hf, by rw [hg]; rfl⟩), e⟩
      · have : ∃ g ∈ t, g.1 = f.1 := by
          refine Classical.byContradiction (fun hc => hg (get_none.2 (fun g hg2 e2 => hc ⟨g, hg2, e2⟩)))
        obtain ⟨g, hg1, hg2⟩ := this
        exact ⟨g, List.mem_append_left _ hg1, hg2.trans e⟩
  · rintro ⟨f, hf, e⟩
    rcases List.mem_append.1 hf with h | h
    · exact ⟨t, by simp, f, h, e⟩
    · exact ⟨u, by simp, f, (List.mem_filter.1 h).1, e⟩
/-- How many paths of both are as q says: those of t, and those of u that t has not. -/
theorem paths_count {t u : List Fl} (ht : Once t) (hu : Once u) (q : ByteArray → Bool) : (paths [t, u]).countP q = t.countP (fun f => q f.1) + u.countP (fun f => (get t f.1).isNone && q f.1) := by
  rw [(paths_perm ht hu).countP_eq, List.countP_append, List.countP_map, List.countP_map, List.countP_filter]
  congr 1
  refine List.countP_congr (fun f _ => ?_)
  simp [and_comm]

end Go.TreeLib
