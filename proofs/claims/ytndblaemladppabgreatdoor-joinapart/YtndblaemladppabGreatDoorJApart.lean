/-
  What the walk of JoinApart wants: a box that is laid in a statement of open order, three rows that grow side by side.
-/
import Derived.Test.YtndblaemladppabGreatDoorJLaw
import Derived.Test.YtndblaemladppabGreatDoorRJoinX
import Derived.Test.YtndblaemladppabGreatDoorFPut
import Derived.Test.YtndblaemladppabGreatDoorLoudG
import Derived.Test.YtndblaemladppabGreatDoorFRefP
import Derived.Test.YtndblaemladppabGreatDoorFMay
import Derived.Test.YtndblaemladppabGreatDoorQuiet
import Derived.Sort.CutIn
import Derived.Sort.QuietThIn
import Derived.Shelf.RegionOpen
namespace Go.TreeLib
theorem pre_eq (c : UInt8) (f : Fl) : ⟨#[c]⟩ ++ f.1 = (pre c f).1 := Bs_inj (by
  show (⟨#[c]⟩ ++ f.1).data.toList = c :: Bs f.1
  rw [ByteArray.data_append, Array.toList_append]
  rfl)
theorem putsP_mem : ∀ (l t : List Fl) (f : Fl), f ∈ putsP t l → f ∈ t ∨ f ∈ l
  | [], _, _, h => .inl h
  | g :: l, t, f, h => by
    rcases putsP_mem l (put t g.1 g.2) f h with h | h
    · unfold put at h
      rw [mem_isort] at h
      rcases List.mem_append.1 h with h | h
      · exact .inl ((drop_sub t g.1).subset h)
      · rw [List.mem_singleton] at h
        exact .inr (by rw [h]; exact List.mem_cons_self)
    · exact .inr (List.mem_cons_of_mem _ h)
/-- Small in what it bears. -/
def Small (t : List Fl) : Prop := ∀ f ∈ t, f.1.size ≤ 1000 ∧ f.2.size ≤ 1000
theorem pre_small {c : UInt8} {t : List Fl} (h : IsTree t) : Small (t.map (pre c)) := by
  intro f hf
  obtain ⟨g, hg, rfl⟩ := List.mem_map.1 hf
  have := h.file g hg
  unfold fileB at this
  rw [Bool.and_eq_true, decide_eq_true_eq] at this
  have h2 := (pathB_iff.1 this.1).len
  have e : (pre c g).1.size = (Bs g.1).length + 1 := by
    show (c :: Bs g.1).toArray.size = _
    rw [List.size_toArray, List.length_cons]
  have e2 : (pre c g).2.size = g.2.size := rfl
  omega
theorem Small.puts {t l : List Fl} (h1 : Small t) (h2 : Small l) : Small (putsP t l) := fun f hf => by
  rcases putsP_mem l t f hf with h | h
  · exact h1 f h
  · exact h2 f h
end Go.TreeLib
namespace Go.Proofs.YtndblaemladppabGreatDoor
open Go.RowKit Go.Shelf Go.SeqLib Go.DiffLib Go.TreeLib Go.TextLib Go.BigFrame
attribute [local go_sem] Oper.semAt_some

/-- What holds while a box for a file is laid and filled. -/
structure BoxInv (W0 : World) (f : Fl) (d : Nat → Bool) (u : Nat → Value) (W : World) : Prop where
  chg : Chg No W0 W
  v12 : ∃ g, u 12 = .pointer (some ⟨g, 0, none⟩)
  o13 : d 13 = true → d 12 = true
  b12 : d 12 = true → ∃ g, u 12 = .pointer (some ⟨g, 0, none⟩) ∧ W0.heap.size ≤ g ∧ W.heap[g]? = some (.cells (if d 13 = true then #[.string f.1, .string f.2] else #[.string ⟨#[]⟩, .string ⟨#[]⟩]) 27 (0, 0))

theorem BoxInv.made {W0 W : World} {f : Fl} {d : Nat → Bool} {u : Nat → Value} (h : BoxInv W0 f d u W) (h13 : d 13 = false) :
    BoxInv W0 f (fun j => if j = 12 then true else d j) (fun j => if j = 12 then .pointer (some ⟨W.heap.size, 0, none⟩) else u j) (W.alloc (.cells #[.string ⟨#[]⟩, .string ⟨#[]⟩] 27)) :=
  ⟨h.chg.alloc _, ⟨W.heap.size, rfl⟩, fun _ => rfl, fun _ => ⟨W.heap.size, rfl, h.chg.size, by
    show (W.alloc _).heap[W.heap.size]? = some (.cells (if d 13 = true then _ else _) _ _)
    rw [h13]
    exact World.alloc_heap_new W _⟩⟩
theorem BoxInv.filled {W0 W : World} {f : Fl} {d : Nat → Bool} {u : Nat → Value} (h : BoxInv W0 f d u W) {g : Nat} (hg1 : W0.heap.size ≤ g) (hg2 : W.heap[g]? = some (.cells #[.string ⟨#[]⟩, .string ⟨#[]⟩] 27 (0, 0))) (e : u 12 = .pointer (some ⟨g, 0, none⟩)) (h12 : d 12 = true) (v : Value) :
    BoxInv W0 f (fun j => if j = 13 then true else d j) (fun j => if j = 13 then v else u j) ((W.setCell ⟨g, 0, none⟩ (.string f.1)).setCell ⟨g, 1, none⟩ (.string f.2)) :=
  ⟨(h.chg.setCell (p := ⟨g, 0, none⟩) (.inr hg1) _).setCell (p := ⟨g, 1, none⟩) (.inr hg1) _, ⟨g, e⟩, fun _ => h12, fun _ => ⟨g, e, hg1, by
    show ((W.setCell ⟨g, 0, none⟩ (.string f.1)).setCell ⟨g, 1, none⟩ (.string f.2)).heap[g]? = some (.cells #[.string f.1, .string f.2] 27 (0, 0))
    simp [World.setCell, Array.getElem?_modify, hg2]⟩⟩

/-- Where the blocks of a row are, and those of what is appended to it. -/
def CBk (vs : Nat → Value) (d : Nat → Bool) (u : Nat → Value) (j : Nat) : Blk := fun k => (if d (4 * j + 3) = true then u (4 * j + 3) else vs j).ownBlock = some k ∨ (d (4 * j + 2) = true ∧ d (4 * j + 3) = false ∧ (u (4 * j + 2)).ownBlock = some k)
/-- What holds while one file is appended to each of three rows. -/
structure Inv3 (w0 W0 : World) (vs : Nat → Value) (g0 : Nat) (fs : List Fl) (f : Fl) (d : Nat → Bool) (u : Nat → Value) (W : World) : Prop where
  chg : Chg No w0 W
  aft : Chg (fun k => w0.heap.size ≤ k ∧ k ≠ g0) W0 W
  own : ∀ j, j < 3 → OwnF W w0.heap.size (if d (4 * j + 3) = true then u (4 * j + 3) else vs j) (if d (4 * j + 3) = true then fs ++ [f] else fs)
  new : ∀ j, j < 3 → d (4 * j + 2) = true → d (4 * j + 3) = false → ∃ g, u (4 * j + 2) = .slice (some ⟨g, 0, none⟩) 1 1 ∧ w0.heap.size ≤ g ∧ g < W.heap.size ∧ SlF W (.slice (some ⟨g, 0, none⟩) 1 1) [f]
  apart : ∀ i j, i < 3 → j < 3 → i ≠ j → ∀ k, CBk vs d u i k → ¬ CBk vs d u j k
  box : ∀ j, j < 3 → ¬ CBk vs d u j g0
  ord : ∀ j, j < 3 → d (4 * j + 3) = true → d (4 * j + 2) = true
theorem Inv3.lt {w0 W0 W : World} {vs : Nat → Value} {g0 : Nat} {fs : List Fl} {f : Fl} {d : Nat → Bool} {u : Nat → Value} (h : Inv3 w0 W0 vs g0 fs f d u W) {j : Nat} (hj : j < 3) : ∀ k, CBk vs d u j k → w0.heap.size ≤ k ∧ k < W.heap.size := by
  rintro k (hk | ⟨h1, h2, hk⟩)
  · exact World.ownsRow.lt (h.own j hj) k hk
  · obtain ⟨g, e, hg1, hg2, _⟩ := h.new j hj h1 h2
    rw [e] at hk
    cases hk
    exact ⟨hg1, hg2⟩
theorem slE_one {W : World} {g : Nat} {f : Fl} (h : SlF W (.slice (some ⟨g, 0, none⟩) 1 1) [f]) {S : Blk} {W' : World} (c : Chg S W W') (hg : ¬ S g) : SlF W' (.slice (some ⟨g, 0, none⟩) 1 1) [f] :=
  h.chg c (fun k hk hs => by
    have : k = g := by
      have := hk.2
      cases this
      rfl
    rw [this] at hs
    exact hg hs)
theorem Inv3.build {w0 W0 W : World} {vs : Nat → Value} {g0 : Nat} {fs : List Fl} {f : Fl} {d : Nat → Bool} {u : Nat → Value} (h : Inv3 w0 W0 vs g0 fs f d u W) {j : Nat} (hj : j < 3) (h3 : d (4 * j + 3) = false) (hg0 : g0 < W.heap.size) :
    Inv3 w0 W0 vs g0 fs f (fun i => if i = 4 * j + 2 then true else d i) (fun i => if i = 4 * j + 2 then .slice (some ⟨W.heap.size, 0, none⟩) 1 1 else u i) (W.alloc (.cells #[.string f.1, .string f.2] 27)) := by
  have c : Chg No W (W.alloc (.cells #[.string f.1, .string f.2] 27)) := (Chg.refl _ W).alloc _
  have hn3 : ∀ i, ¬ 4 * i + 3 = 4 * j + 2 := fun i => by omega
  have hn2 : ∀ i, i ≠ j → ¬ 4 * i + 2 = 4 * j + 2 := fun i hi => by omega
  have hCB : ∀ i k, CBk vs (fun i => if i = 4 * j + 2 then true else d i) (fun i => if i = 4 * j + 2 then .slice (some ⟨W.heap.size, 0, none⟩) 1 1 else u i) i k → CBk vs d u i k ∨ (i = j ∧ k = W.heap.size) := by
    intro i k hk
    unfold CBk at hk ⊢
    simp only [if_neg (hn3 i)] at hk
    rcases hk with hk | ⟨k1, k2, k3⟩
    · exact .inl (.inl hk)
    · by_cases hi : i = j
      · subst hi
        simp only [if_true] at k3
        cases k3
        exact .inr ⟨rfl, rfl⟩
      · simp only [if_neg (hn2 i hi)] at k1 k3
        exact .inl (.inr ⟨k1, k2, k3⟩)
  refine ⟨Chg.seq h.chg c, h.aft.trans c (fun _ h => h.elim), fun i hi => ?_, fun i hi h1 h2 => ?_, fun i i' hi hi' hne k h1 h2 => ?_, fun i hi h1 => ?_, fun i hi h1 => ?_⟩
  · simp only [if_neg (hn3 i)]
    exact (h.own i hi).no c
  · simp only [if_neg (hn3 i)] at h2
    by_cases he : i = j
    · subst he
      refine ⟨W.heap.size, by simp only [if_true], h.chg.size, by rw [World.size_alloc]; omega, SlF.one W f⟩
    · simp only [if_neg (hn2 i he)] at h1 ⊢
      obtain ⟨g, e, k1, k2, k3⟩ := h.new i hi h1 h2
      exact ⟨g, e, k1, by have := c.size; omega, k3.no c⟩
  · rcases hCB i k h1 with q1 | ⟨e1, e2⟩
    · rcases hCB i' k h2 with q2 | ⟨e3, e4⟩
      · exact h.apart i i' hi hi' hne k q1 q2
      · have := (h.lt hi _ q1).2; omega
    · rcases hCB i' _ h2 with q2 | ⟨e, _⟩
      · have := (h.lt hi' _ q2).2; omega
      · exact hne (e1.trans e.symm)
  · rcases hCB i g0 h1 with h1 | ⟨_, e⟩
    · exact h.box i hi h1
    · omega
  · simp only [if_neg (hn3 i)] at h1
    by_cases he : i = j
    · subst he
      simp only [if_true]
    · simp only [if_neg (hn2 i he)]
      exact h.ord i hi h1
theorem Inv3.app {w0 W0 W W' : World} {vs : Nat → Value} {g0 : Nat} {fs : List Fl} {f : Fl} {d : Nat → Bool} {u : Nat → Value} (h : Inv3 w0 W0 vs g0 fs f d u W) {j : Nat} (hj : j < 3) (h2 : d (4 * j + 2) = true) (h3 : d (4 * j + 3) = false) (hg0 : g0 < W.heap.size) {v : Value} (hown : OwnF W' w0.heap.size v (fs ++ [f])) (hg : W.grownBy W' (vs j).ownBlock) (hat : v.ownBlock = (vs j).ownBlock ∨ v.ownBlock = some W.heap.size) :
    Inv3 w0 W0 vs g0 fs f (fun i => if i = 4 * j + 3 then true else d i) (fun i => if i = 4 * j + 3 then v else u i) W' := by
  have ho : OwnF W w0.heap.size (vs j) fs := by
    have := h.own j hj
    rw [h3] at this
    simpa using this
  have hCj : ∀ k, (vs j).ownBlock = some k → CBk vs d u j k := fun k hk => .inl (by rw [h3]; simpa using hk)
  have c : Chg (fun k => (vs j).ownBlock = some k) W W' := (Chg.refl _ W).grown hg (fun k e => .inl e)
  have hn2 : ∀ i, ¬ 4 * i + 2 = 4 * j + 3 := fun i => by omega
  have hn3 : ∀ i, i ≠ j → ¬ 4 * i + 3 = 4 * j + 3 := fun i hi => by omega
  have hCB : ∀ i k, CBk vs (fun i => if i = 4 * j + 3 then true else d i) (fun i => if i = 4 * j + 3 then v else u i) i k → CBk vs d u i k ∨ (i = j ∧ k = W.heap.size) := by
    intro i k hk
    unfold CBk at hk
    simp only [if_neg (hn2 i)] at hk
    by_cases hi : i = j
    · subst hi
      simp only [if_true] at hk
      rcases hk with hk | ⟨_, k2, _⟩
      · rcases hat with e | e
        · exact .inl (hCj k (e.symm.trans hk))
        · rw [e] at hk
          cases hk
          exact .inr ⟨rfl, rfl⟩
      · cases k2
    · simp only [if_neg (hn3 i hi)] at hk
      exact .inl hk
  refine ⟨h.chg.grown hg (fun k e => .inr (World.ownsRow.lt ho k e).1), h.aft.trans c (fun k hk => .inl ⟨(World.ownsRow.lt ho k hk).1, fun e => h.box j hj (by rw [← e]; exact hCj k hk)⟩), fun i hi => ?_, fun i hi h1 g2 => ?_, fun i i' hi hi' hne k h1 g2 => ?_, fun i hi h1 => ?_, fun i hi h1 => ?_⟩
  · by_cases he : i = j
    · subst he
      simp only [if_true]
      exact hown
    · simp only [if_neg (hn3 i he)]
      exact (h.own i hi).chg c (fun k hk hs => h.apart i j hi hj he k (.inl hk) (hCj k hs))
  · simp only [if_neg (hn2 i)] at h1 ⊢
    by_cases he : i = j
    · subst he
      simp only [if_true] at g2
      cases g2
    · simp only [if_neg (hn3 i he)] at g2
      obtain ⟨g, e, k1, k2, k3⟩ := h.new i hi h1 g2
      refine ⟨g, e, k1, by have := c.size; omega, slE_one k3 c (fun hs => h.apart i j hi hj he g (.inr ⟨h1, g2, by rw [e]; rfl⟩) (hCj g hs))⟩
  · rcases hCB i k h1 with q1 | ⟨e1, e2⟩
    · rcases hCB i' k g2 with q2 | ⟨e3, e4⟩
      · exact h.apart i i' hi hi' hne k q1 q2
      · have := (h.lt hi _ q1).2; omega
    · rcases hCB i' _ g2 with q2 | ⟨e, _⟩
      · have := (h.lt hi' _ q2).2; omega
      · exact hne (e1.trans e.symm)
  · rcases hCB i g0 h1 with h1 | ⟨_, e⟩
    · exact h.box i hi h1
    · omega
  · simp only [if_neg (hn2 i)]
    by_cases he : i = j
    · subst he
      exact h2
    · simp only [if_neg (hn3 i he)] at h1
      exact h.ord i hi h1

/-- Three values, by their numbers. -/
def three (v0 v1 v2 : Value) : Nat → Value
  | 0 => v0
  | 1 => v1
  | _ => v2
theorem Inv3.start {w0 W0 : World} {v0 v1 v2 : Value} {g0 : Nat} {fs : List Fl} {f : Fl} {u : Nat → Value} (c : Chg No w0 W0) (r0 : OwnF W0 w0.heap.size v0 fs) (r1 : OwnF W0 w0.heap.size v1 fs) (r2 : OwnF W0 w0.heap.size v2 fs)
    (a01 : ∀ q, v0.ownBlock = some q → ¬ v1.ownBlock = some q) (a02 : ∀ q, v0.ownBlock = some q → ¬ v2.ownBlock = some q) (a12 : ∀ q, v1.ownBlock = some q → ¬ v2.ownBlock = some q)
    (h0 : ¬ v0.ownBlock = some g0) (h1 : ¬ v1.ownBlock = some g0) (h2 : ¬ v2.ownBlock = some g0) : Inv3 w0 W0 (three v0 v1 v2) g0 fs f (fun _ => false) u W0.drew := by
  have hC : ∀ j k, CBk (three v0 v1 v2) (fun _ => false) u j k → (three v0 v1 v2 j).ownBlock = some k := by
    rintro j k (h | ⟨h, _⟩)
    · exact h
    · cases h
  refine ⟨c.drew, (Chg.refl _ W0).drew, fun j hj => ?_, fun j hj h => (by cases h), fun i j hi hj hne k k1 k2 => ?_, fun j hj k => ?_, fun j hj h => (by cases h)⟩
  · match j, hj with
    | 0, _ => exact r0
    | 1, _ => exact r1
    | 2, _ => exact r2
  · have k1 := hC i k k1
    have k2 := hC j k k2
    match i, hi, j, hj with
    | 0, _, 0, _ => exact hne rfl
    | 0, _, 1, _ => exact a01 k k1 k2
    | 0, _, 2, _ => exact a02 k k1 k2
    | 1, _, 0, _ => exact a01 k k2 k1
    | 1, _, 1, _ => exact hne rfl
    | 1, _, 2, _ => exact a12 k k1 k2
    | 2, _, 0, _ => exact a02 k k2 k1
    | 2, _, 1, _ => exact a12 k k2 k1
    | 2, _, 2, _ => exact hne rfl
  · have k1 := hC j g0 k
    match j, hj with
    | 0, _ => exact h0 k1
    | 1, _ => exact h1 k1
    | 2, _ => exact h2 k1

/-- What holds while a file is put into two lists. -/
structure PutInv2 (W0 : World) (r1 r2 : List Fl) (d : Nat → Bool) (u : Nat → Value) (W : World) : Prop where
  chg : Chg No W0 W
  f5 : d 5 = true → SlF W (u 5) r1
  f11 : d 11 = true → SlF W (u 11) r2
theorem PutInv2.s5 {W0 W W' : World} {r1 r2 : List Fl} {d : Nat → Bool} {u : Nat → Value} (h : PutInv2 W0 r1 r2 d u W) {v : Value} (hv : SlF W' v r1) (c : Chg No W W') : PutInv2 W0 r1 r2 (fun j => if j = 5 then true else d j) (fun j => if j = 5 then v else u j) W' :=
  ⟨Chg.seq h.chg c, fun _ => hv, fun e => (h.f11 e).no c⟩
theorem PutInv2.s11 {W0 W W' : World} {r1 r2 : List Fl} {d : Nat → Bool} {u : Nat → Value} (h : PutInv2 W0 r1 r2 d u W) {v : Value} (hv : SlF W' v r2) (c : Chg No W W') : PutInv2 W0 r1 r2 (fun j => if j = 11 then true else d j) (fun j => if j = 11 then v else u j) W' :=
  ⟨Chg.seq h.chg c, fun e => (h.f5 e).no c, fun _ => hv⟩

end Go.Proofs.YtndblaemladppabGreatDoor
