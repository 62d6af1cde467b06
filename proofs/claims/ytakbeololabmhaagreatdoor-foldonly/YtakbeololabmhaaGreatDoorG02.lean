/-
  Of: RLib2, RRepo, RDag, RMade, Txt, DLib, DWide.
-/
import Derived.Test.YtakbeololabmhaaGreatDoorG01
import Derived.Deep.QuietTactic
import Derived.BigQuiet
import Derived.Laws.StructEq
import Derived.ChangeKeysEq
section
-- RLib2
namespace Go.TreeLib
open Go

/-! ### Paths -/
abbrev Bs (s : ByteArray) : List UInt8 := s.data.toList
def adjB : List UInt8 → Bool
  | a :: b :: r => !(a == 47 && b == 47) && adjB (b :: r)
  | _ => true
def signB (b : UInt8) : Bool := decide (33 ≤ b) && decide (b ≤ 126)
def pathB (p : List UInt8) : Bool := decide (1 ≤ p.length) && (decide (p.length ≤ 60) && (p.head? != some 47 && (p.getLast? != some 47 && (p.all signB && adjB p))))
structure IsPath (p : List UInt8) : Prop where
  pos : 1 ≤ p.length
  len : p.length ≤ 60
  fst : p.head? ≠ some 47
  lst : p.getLast? ≠ some 47
  byt : p.all signB = true
  adj : adjB p = true
theorem pathB_iff {p : List UInt8} : pathB p = true ↔ IsPath p := by
  unfold pathB
  simp only [Bool.and_eq_true, decide_eq_true_eq, bne_iff_ne]
  exact ⟨fun ⟨h1, h2, h3, h4, h5, h6⟩ => ⟨h1, h2, h3, h4, h5, h6⟩, fun h => ⟨h.pos, h.len, h.fst, h.lst, h.byt, h.adj⟩⟩
theorem pathB_not {p : List UInt8} (h : ¬ IsPath p) : pathB p = false := by
  cases hp : pathB p with
  | false => rfl
  | true => exact absurd (pathB_iff.1 hp) h

/-! ### Under -/
def under (p q : List UInt8) : Bool := decide (q.length < p.length) && (decide (p.take q.length = q) && decide (p[q.length]? = some 47))
theorem under_self (p : List UInt8) : under p p = false := by unfold under; rw [decide_eq_false (by omega)]; rfl
theorem bl_app : ∀ (p : List UInt8) (c : UInt8) (q : List UInt8), Op.bytesLess p (p ++ c :: q) = true
  | [], _, _ => by unfold Op.bytesLess; rfl
  | a :: p, c, q => by
    have := bl_app p c q
    show Op.bytesLess (a :: p) (a :: (p ++ c :: q)) = true
    unfold Op.bytesLess
    rw [this]
    simp

/-! ### Trees -/
def pairB : List Fl → Bool
  | [] => true
  | f :: r => r.all (fun g => lt f.1 g.1 && !under (Bs g.1) (Bs f.1)) && pairB r
def fileB (f : Fl) : Bool := pathB (Bs f.1) && decide (f.2.size ≤ 400)
def mayB (t : List Fl) : Bool := decide (t.length ≤ 12) && (t.all fileB && pairB t)
def Apart (a b : Fl) : Prop := lt a.1 b.1 = true ∧ under (Bs b.1) (Bs a.1) = false
theorem pairB_iff : ∀ {t : List Fl}, pairB t = true ↔ t.Pairwise Apart
  | [] => by simp [pairB]
  | f :: r => by
    unfold pairB
    rw [Bool.and_eq_true, List.pairwise_cons, pairB_iff, List.all_eq_true]
    constructor
    · rintro ⟨h1, h2⟩
      exact ⟨fun g hg => by have := h1 g hg; rw [Bool.and_eq_true] at this; exact ⟨this.1, by simpa using this.2⟩, h2⟩
    · rintro ⟨h1, h2⟩
      exact ⟨fun g hg => by have := h1 g hg; rw [this.1, this.2]; rfl, h2⟩
structure IsTree (t : List Fl) : Prop where
  len : t.length ≤ 12
  file : ∀ f ∈ t, fileB f = true
  apart : t.Pairwise Apart
theorem mayB_iff {t : List Fl} : mayB t = true ↔ IsTree t := by
  unfold mayB
  simp only [Bool.and_eq_true, decide_eq_true_eq, List.all_eq_true, pairB_iff]
  exact ⟨fun ⟨h1, h2, h3⟩ => ⟨h1, h2, h3⟩, fun h => ⟨h.len, h.file, h.apart⟩⟩
theorem mayB_not {t : List Fl} (h : ¬ IsTree t) : mayB t = false := by
  cases ht : mayB t with
  | false => rfl
  | true => exact absurd (mayB_iff.1 ht) h
theorem IsTree.once {t : List Fl} (h : IsTree t) : Once t := h.apart.imp (fun h => h.1)
theorem IsTree.nil : IsTree [] := ⟨Nat.zero_le _, fun _ h => (by cases h), List.Pairwise.nil⟩
theorem IsTree.one {f : Fl} (h : fileB f = true) : IsTree [f] := ⟨by simp, fun g hg => by rw [List.mem_singleton.1 hg]; exact h, List.pairwise_singleton _ _⟩

/-! ### All paths, rising, each once -/
def UpT (l : List ByteArray) : Prop := l.Pairwise (fun a b => lt a b = true)
def insT (x : ByteArray) : List ByteArray → List ByteArray
  | [] => [x]
  | y :: r => if lt x y = true then x :: y :: r else if x = y then y :: r else y :: insT x r
def rise (l : List ByteArray) : List ByteArray := l.foldl (fun out x => insT x out) []
theorem mem_insT {x z : ByteArray} : ∀ {l : List ByteArray}, z ∈ insT x l ↔ z = x ∨ z ∈ l
  | [] => by simp [insT]
  | y :: r => by
    unfold insT
    split
    · simp
    · split
      · rename_i e
        subst e
        simp
      · rw [List.mem_cons, mem_insT, List.mem_cons]
        constructor
        · rintro (h | h | h)
          · exact .inr (.inl h)
          · exact .inl h
          · exact .inr (.inr h)
        · rintro (h | h | h)
          · exact .inr (.inl h)
          · exact .inl h
          · exact .inr (.inr h)
theorem insT_up {x : ByteArray} : ∀ {l : List ByteArray}, UpT l → UpT (insT x l)
  | [], _ => by unfold insT UpT; simp
  | y :: r, h => by
    unfold UpT at h
    rw [List.pairwise_cons] at h
    unfold insT
    split
    · rename_i hlt
      unfold UpT
      rw [List.pairwise_cons, List.pairwise_cons]
      refine ⟨fun z hz => ?_, h⟩
      rcases List.mem_cons.1 hz with e | hz
      · rw [e]; exact hlt
      · exact lt_trans hlt (h.1 z hz)
    · rename_i hlt
      split
      · unfold UpT; rw [List.pairwise_cons]; exact h
      · rename_i hne
        unfold UpT
        rw [List.pairwise_cons]
        refine ⟨fun z hz => ?_, insT_up h.2⟩
        rcases mem_insT.1 hz with e | hz
        · rw [e]
          cases hyx : lt y x with
          | true => rfl
          | false => exact absurd (lt_tri (by simpa using hlt) hyx) hne
        · exact h.1 z hz
theorem rise_fold : ∀ (l out : List ByteArray), UpT out → UpT (l.foldl (fun out x => insT x out) out) ∧ ∀ z, z ∈ l.foldl (fun out x => insT x out) out ↔ z ∈ out ∨ z ∈ l
  | [], out, h => ⟨h, fun z => by simp⟩
  | x :: l, out, h => by
    obtain ⟨h1, h2⟩ := rise_fold l (insT x out) (insT_up h)
    refine ⟨h1, fun z => ?_⟩
    rw [List.foldl_cons, h2, mem_insT, List.mem_cons]
    constructor
    · rintro ((h | h) | h)
      · exact .inr (.inl h)
      · exact .inl h
      · exact .inr (.inr h)
    · rintro (h | h | h)
      · exact .inl (.inr h)
      · exact .inl (.inl h)
      · exact .inr h
theorem rise_up (l : List ByteArray) : UpT (rise l) := (rise_fold l [] List.Pairwise.nil).1
theorem mem_rise {l : List ByteArray} {z : ByteArray} : z ∈ rise l ↔ z ∈ l := by
  have := (rise_fold l [] List.Pairwise.nil).2 z
  unfold rise
  rw [this]
  simp
theorem upT_unique : ∀ {l m : List ByteArray}, UpT l → UpT m → (∀ z, z ∈ l ↔ z ∈ m) → l = m
  | [], [], _, _, _ => rfl
  | [], y :: m, _, _, h => by have := (h y).2 List.mem_cons_self; cases this
  | x :: l, [], _, _, h => by have := (h x).1 List.mem_cons_self; cases this
  | x :: l, y :: m, hl, hm, h => by
    unfold UpT at hl hm
    rw [List.pairwise_cons] at hl hm
    have hxy : x = y := by
      rcases List.mem_cons.1 ((h x).1 List.mem_cons_self) with e | h1
      · exact e
      rcases List.mem_cons.1 ((h y).2 List.mem_cons_self) with e | h2
      · exact e.symm
      have a := hm.1 x h1
      have b := hl.1 y h2
      rw [lt_asymm a] at b
      cases b
    subst hxy
    rw [upT_unique hl.2 hm.2 (fun z => ?_)]
    constructor
    · intro hz
      rcases List.mem_cons.1 ((h z).1 (List.mem_cons_of_mem _ hz)) with e | hz'
      · subst e; have := hl.1 z hz; rw [lt_irrefl] at this; cases this
      · exact hz'
    · intro hz
      rcases List.mem_cons.1 ((h z).2 (List.mem_cons_of_mem _ hz)) with e | hz'
      · subst e; have := hm.1 z hz; rw [lt_irrefl] at this; cases this
      · exact hz'
def paths (ts : List (List Fl)) : List ByteArray := rise (ts.flatMap (fun t => t.map (·.1)))
theorem mem_paths {ts : List (List Fl)} {z : ByteArray} : z ∈ paths ts ↔ ∃ t ∈ ts, ∃ f ∈ t, f.1 = z := by
  unfold paths
  rw [mem_rise]
  simp [List.mem_flatMap]
theorem paths_like {ts us : List (List Fl)} (h : ∀ f : Fl, (∃ t ∈ ts, f ∈ t) ↔ ∃ u ∈ us, f ∈ u) : paths ts = paths us := by
  refine upT_unique (rise_up _) (rise_up _) (fun z => ?_)
  show z ∈ paths ts ↔ z ∈ paths us
  rw [mem_paths, mem_paths]
  constructor
  · rintro ⟨t, ht, f, hf, e⟩
    obtain ⟨u, hu, hf'⟩ := (h f).1 ⟨t, ht, hf⟩
    exact ⟨u, hu, f, hf', e⟩
  · rintro ⟨t, ht, f, hf, e⟩
    obtain ⟨u, hu, hf'⟩ := (h f).2 ⟨t, ht, hf⟩
    exact ⟨u, hu, f, hf', e⟩
/-! ### Turned round from a place on -/
end Go.TreeLib

end
section
-- RRepo
namespace Go.RepoLib
open Go Go.TreeLib

/-- A commit: its parents, its tree, its note. -/
abbrev Cm := List Int × List Fl × ByteArray
def mayC (c : Cm) : Bool := mayB c.2.1 && (decide (c.1.length ≤ 2) && ((decide (c.1.length < 2) || !decide (c.1[0]? = c.1[1]?)) && decide (c.2.2.size ≤ 60)))
def findC : List Cm → Cm → Nat
  | [], _ => 0
  | x :: L, c => if x = c then 1 else if findC L c = 0 then 0 else findC L c + 1
def hasN (n : Nat) (p : Int) : Bool := decide (1 ≤ p) && decide (p ≤ n)
/-- The commits and the room. -/
abbrev Rp := List Cm × Nat
def addC (s : Rp) (c : Cm) : Rp × Nat × Nat :=
  if mayC c = false then (s, 0, 6)
  else if c.1.all (hasN s.1.length) = false then (s, 0, 7)
  else if findC s.1 c = 0 then (if s.2 ≤ s.1.length then (s, 0, 3) else ((s.1 ++ [c], s.2), s.1.length + 1, 0))
  else (s, findC s.1 c, 0)
def clip (x : Int) : Nat := (min (max x 0) 120).toNat
def newC (room : Int) : Rp := ([], clip room)
def noC : Cm := ([], [], ⟨#[]⟩)
def getC (L : List Cm) (n : Int) : Cm := if hasN L.length n = true then L.getD (n.toNat - 1) noC else noC

theorem findC_zero : ∀ {L : List Cm} {c : Cm}, findC L c = 0 ↔ c ∉ L
  | [], c => by simp [findC]
  | x :: L, c => by
    unfold findC
    by_cases h : x = c
    · rw [if_pos h, h]; simp
    · rw [if_neg h]
      have ih := findC_zero (L := L) (c := c)
      by_cases h2 : findC L c = 0
      · rw [if_pos h2]
        simp only [List.mem_cons, not_or, true_iff]
        exact ⟨fun e => h e.symm, ih.1 h2⟩
      · rw [if_neg h2]
        constructor
        · intro e; omega
        · intro e; exact absurd (ih.2 (fun m => e (List.mem_cons_of_mem _ m))) h2
theorem findC_get : ∀ {L : List Cm} {c : Cm}, findC L c ≠ 0 → L[findC L c - 1]? = some c ∧ findC L c ≤ L.length
  | [], c, h => absurd rfl h
  | x :: L, c, h => by
    unfold findC at h ⊢
    by_cases h1 : x = c
    · rw [if_pos h1, h1]; simp
    · rw [if_neg h1] at h ⊢
      by_cases h2 : findC L c = 0
      · rw [if_pos h2] at h; exact absurd rfl h
      · rw [if_neg h2]
        have ih := findC_get (L := L) (c := c) h2
        obtain ⟨k, hk⟩ : ∃ k, findC L c = k + 1 := ⟨findC L c - 1, by omega⟩
        rw [hk] at ih ⊢
        simp only [Nat.add_sub_cancel] at ih ⊢
        exact ⟨ih.1, by simp; omega⟩
/-! ### What every program answers -/
/-! ### Rooms -/
end Go.RepoLib

end
section
-- RDag
namespace Go.DagLib

/-- Each one's parents are lesser. -/
def Low (par : Nat → List Nat) : Prop := ∀ n, ∀ p ∈ par n, p < n
def isF (par : Nat → List Nat) (a : Nat) : Nat → Nat → Bool
  | 0, _ => false
  | f + 1, b => a == b || (par b).any (isF par a f)
/-- Is a among what is ahead of b? -/
def isA (par : Nat → List Nat) (a b : Nat) : Bool := isF par a (b + 1) b
/-- From n down to 1. -/
def down : Nat → List Nat
  | 0 => []
  | n + 1 => (n + 1) :: down n
def aheadL (par : Nat → List Nat) (n : Nat) : List Nat := (down n).filter (fun k => isA par k n)

theorem any_congr {l : List Nat} {f g : Nat → Bool} (h : ∀ p ∈ l, f p = g p) : l.any f = l.any g := by
  induction l with
  | nil => rfl
  | cons x l ih => rw [List.any_cons, List.any_cons, h x (by simp), ih (fun p hp => h p (by simp [hp]))]

section
variable {par : Nat → List Nat}
theorem isF_like (hl : Low par) (a : Nat) : ∀ (f g b : Nat), b < f → b < g → isF par a f b = isF par a g b := by
  intro f
  induction f with
  | zero => intro g b h; omega
  | succ f ih =>
    intro g b h1 h2
    obtain ⟨g, rfl⟩ : ∃ k, g = k + 1 := ⟨g - 1, by omega⟩
    show (a == b || (par b).any (isF par a f)) = (a == b || (par b).any (isF par a g))
    rw [any_congr (fun p hp => ih g p (by have := hl b p hp; omega) (by have := hl b p hp; omega))]
theorem isA_eq (hl : Low par) (a b : Nat) : isA par a b = (a == b || (par b).any (isA par a)) := by
  show (a == b || (par b).any (isF par a b)) = _
  rw [any_congr (fun p hp => isF_like hl a b (p + 1) p (hl b p hp) (by omega))]
  rfl
theorem isA_self (hl : Low par) (a : Nat) : isA par a a = true := by rw [isA_eq hl]; simp
theorem isA_par (hl : Low par) {a p b : Nat} (hp : p ∈ par b) (h : isA par a p = true) : isA par a b = true := by
  rw [isA_eq hl, Bool.or_eq_true, List.any_eq_true]
  exact .inr ⟨p, hp, h⟩
theorem isA_cases (hl : Low par) {a b : Nat} (h : isA par a b = true) : a = b ∨ ∃ p ∈ par b, isA par a p = true := by
  rw [isA_eq hl, Bool.or_eq_true, List.any_eq_true] at h
  rcases h with h | h
  · exact .inl (by simpa using h)
  · exact .inr h
theorem isA_le (hl : Low par) {a : Nat} : ∀ {b : Nat}, isA par a b = true → a ≤ b := by
  intro b
  induction b using Nat.strongRecOn with
  | ind b ih =>
    intro h
    rcases isA_cases hl h with rfl | ⟨p, hp, h⟩
    · exact Nat.le_refl _
    · have := hl b p hp
      have := ih p this h
      omega
theorem isA_trans (hl : Low par) {a b : Nat} (h : isA par a b = true) : ∀ {c : Nat}, isA par b c = true → isA par a c = true := by
  intro c
  induction c using Nat.strongRecOn with
  | ind c ih =>
    intro h2
    rcases isA_cases hl h2 with rfl | ⟨p, hp, h2⟩
    · exact h
    · exact isA_par hl hp (ih p (hl c p hp) h2)
/-- From above: whoever came of it did so by one of whom it is a parent. -/
theorem isA_up (hl : Low par) {a : Nat} : ∀ {c : Nat}, isA par a c = true → a = c ∨ ∃ k, a ∈ par k ∧ isA par k c = true := by
  intro c
  induction c using Nat.strongRecOn with
  | ind c ih =>
    intro h
    rcases isA_cases hl h with rfl | ⟨p, hp, h⟩
    · exact .inl rfl
    · rcases ih p (hl c p hp) h with rfl | ⟨k, hk, h⟩
      · exact .inr ⟨c, hp, isA_self hl c⟩
      · exact .inr ⟨k, hk, isA_par hl hp h⟩
theorem isA_up_iff (hl : Low par) {a c : Nat} : isA par a c = true ↔ a = c ∨ ∃ k, a < k ∧ k ≤ c ∧ a ∈ par k ∧ isA par k c = true := by
  constructor
  · intro h
    rcases isA_up hl h with h | ⟨k, hk, h⟩
    · exact .inl h
    · exact .inr ⟨k, hl k a hk, isA_le hl h, hk, h⟩
  · rintro (rfl | ⟨k, _, _, hk, h⟩)
    · exact isA_self hl _
    · exact isA_trans hl (isA_par hl hk (isA_self hl a)) h
end

section
variable {par : Nat → List Nat}
end

/-! ### From n down to 1 -/
theorem down_length : ∀ n, (down n).length = n
  | 0 => rfl
  | n + 1 => by show (down n).length + 1 = n + 1; rw [down_length n]
theorem down_mem : ∀ {n k : Nat}, k ∈ down n ↔ 1 ≤ k ∧ k ≤ n
  | 0, k => by simp [down]; omega
  | n + 1, k => by
    show k ∈ (n + 1) :: down n ↔ _
    rw [List.mem_cons, down_mem]
    omega
theorem down_get : ∀ {n i : Nat}, i < n → (down n)[i]? = some (n - i)
  | 0, i, h => by omega
  | n + 1, 0, _ => rfl
  | n + 1, i + 1, h => by
    show (down n)[i]? = _
    rw [down_get (by omega)]
    congr 1
    omega
theorem down_falls : ∀ n, (down n).Pairwise (fun x y => y < x)
  | 0 => List.Pairwise.nil
  | n + 1 => by
    show List.Pairwise _ ((n + 1) :: down n)
    rw [List.pairwise_cons]
    exact ⟨fun x hx => by have := (down_mem.1 hx).2; omega, down_falls n⟩
section
variable {par : Nat → List Nat}
theorem ahead_mem (hl : Low par) {a n : Nat} : a ∈ aheadL par n ↔ 1 ≤ a ∧ isA par a n = true := by
  unfold aheadL
  rw [List.mem_filter, down_mem]
  constructor
  · rintro ⟨⟨h1, _⟩, h2⟩; exact ⟨h1, h2⟩
  · rintro ⟨h1, h2⟩; exact ⟨⟨h1, isA_le hl h2⟩, h2⟩
theorem ahead_falls (n : Nat) : (aheadL par n).Pairwise (fun x y => y < x) := (down_falls n).sublist List.filter_sublist
/-! ### How the document goes: marks, from n down -/
/-- What is marked when those above k are done. -/
def markA (par : Nat → List Nat) (n k j : Nat) : Bool := j == n || (down n).any (fun q => decide (k < q) && (isA par q n && decide (j ∈ par q)))
theorem mark_is (hl : Low par) {n k : Nat} (hn : 1 ≤ k) : markA par n k k = isA par k n := by
  rw [Bool.eq_iff_iff, isA_up_iff hl]
  unfold markA
  rw [Bool.or_eq_true, List.any_eq_true, beq_iff_eq]
  constructor
  · rintro (h | ⟨q, hq, h⟩)
    · exact .inl h
    · simp only [Bool.and_eq_true, decide_eq_true_eq] at h
      exact .inr ⟨q, h.1, (down_mem.1 hq).2, h.2.2, h.2.1⟩
  · rintro (h | ⟨q, h1, h2, h3, h4⟩)
    · exact .inl h
    · refine .inr ⟨q, down_mem.2 ⟨by omega, h2⟩, ?_⟩
      simp only [Bool.and_eq_true, decide_eq_true_eq]
      exact ⟨h1, h4, h3⟩
theorem mark_start (n j : Nat) : markA par n n j = (j == n) := by
  unfold markA
  have : (down n).any (fun q => decide (n < q) && (isA par q n && decide (j ∈ par q))) = false := by
    rw [List.any_eq_false]
    intro q hq
    have := (down_mem.1 hq).2
    rw [decide_eq_false (by omega)]
    simp
  rw [this, Bool.or_false]
theorem mark_step {n k j : Nat} (hn : 1 ≤ k) (hk : k ≤ n) : markA par n (k - 1) j = (markA par n k j || (isA par k n && decide (j ∈ par k))) := by
  rw [Bool.eq_iff_iff]
  unfold markA
  simp only [Bool.or_eq_true, List.any_eq_true, beq_iff_eq, Bool.and_eq_true, decide_eq_true_eq]
  constructor
  · rintro (h | ⟨q, hq, h1, h2, h3⟩)
    · exact .inl (.inl h)
    · by_cases e : q = k
      · subst e; exact .inr ⟨h2, h3⟩
      · exact .inl (.inr ⟨q, hq, by omega, h2, h3⟩)
  · rintro ((h | ⟨q, hq, h1, h2, h3⟩) | ⟨h2, h3⟩)
    · exact .inl h
    · exact .inr ⟨q, hq, by omega, h2, h3⟩
    · exact .inr ⟨k, down_mem.2 ⟨hn, hk⟩, by omega, h2, h3⟩
/-- What is put out when those above k are done. -/
def outA (par : Nat → List Nat) (n k : Nat) : List Nat := ((down n).take (n - k)).filter (fun q => isA par q n)
theorem out_start (n : Nat) : outA par n n = [] := by unfold outA; rw [Nat.sub_self]; rfl
theorem out_end (n : Nat) : outA par n 0 = aheadL par n := by unfold outA aheadL; rw [List.take_of_length_le (by rw [down_length]; omega)]
theorem out_step {n k : Nat} (hn : 1 ≤ k) (hk : k ≤ n) : outA par n (k - 1) = if isA par k n = true then outA par n k ++ [k] else outA par n k := by
  unfold outA
  rw [show n - (k - 1) = (n - k) + 1 by omega, List.take_add_one, down_get (by omega), show n - (n - k) = k by omega, List.filter_append]
  show _ ++ [k].filter _ = _
  cases e : isA par k n with
  | true => simp [e]
  | false => simp [e]
end
end Go.DagLib

end
section
-- RMade
namespace Go.DagLib
open Go.RepoLib

/-- The parents of the commit of number n. -/
def parL (L : List Cm) (n : Nat) : List Nat := if n = 0 then [] else match L[n - 1]? with
  | some c => c.1.map Int.toNat
  | none => []
theorem parL_at {L : List Cm} {i : Nat} {c : Cm} (h : L[i]? = some c) : parL L (i + 1) = c.1.map Int.toNat := by
  unfold parL
  rw [if_neg (by omega), Nat.add_sub_cancel, h]
end Go.DagLib

end
section
-- Txt
namespace Go.Proofs.YtakbeololabmhaaGreatDoor
open Go.RowKit Go.Shelf Go.SeqLib

abbrev No : Blk := fun _ => False

theorem Chg.seq {a b c : World} (h : Chg No a b) (k : Chg No b c) : Chg No a c := h.trans k (Grew.refl _ _)

section
variable {P : Program} {t e : TypeId}
theorem run_equalIn_slice_nil (h : P.underlying t = some (.slice e)) (d : Nat) (p : Option Addr) (n c : Nat) (w : World) :
    (Op.equalIn (d + 1) t (.slice p n c) (.slice none 0 0)).run P w = .ok p.isNone w := by
  cases p <;> simp [Op.equalIn, run_underlying h]
/-- A slice that is there is not nil. -/
theorem run_eql_slice_nil' (h : P.underlying t = some (.slice e)) (p : Option Addr) (n c : Nat) (w : World) :
    (binOp .eql t (.slice p n c) (.slice none 0 0)).run P w = .ok (.bool p.isNone) w := by
  simp only [binOp]
  simp [Op.equal, Op.maxDepth, run_equalIn_slice_nil h 9999]
end

theorem row_slice {W : World} {b : Nat} {e : TypeId} {s : Nat} {v : Value} {n : Nat} {xs : List Value} (h : W.ownsRow b e s v n xs) : ∃ p c, v = .slice p n c := by
  rcases h.2 with ⟨rfl, rfl⟩ | ⟨g, cap, cur, rfl, _⟩
  · exact ⟨_, _, rfl⟩
  · exact ⟨_, _, rfl⟩

/-- A slice that reads as these values. -/
def SlV (W : World) (v : Value) (vals : List Value) : Prop :=
  ∃ p cap, v = .slice p vals.length cap ∧ vals.length ≤ cap ∧ cap ≤ maxLen ∧ ∀ i x, vals[i]? = some x → ∃ b off, p = some ⟨b, off, none⟩ ∧ W.cell? ⟨b, off + i, none⟩ = some x
def svD (v : Value) (vals : List Value) : Blk := fun k => vals ≠ [] ∧ v.ownBlock = some k

theorem SlV.lt {W : World} {v : Value} {vals : List Value} (h : SlV W v vals) : ∀ k, svD v vals k → k < W.heap.size := by
  obtain ⟨p, cap, rfl, _, _, hc⟩ := h
  rintro k ⟨hz, hk⟩
  cases vals with
  | nil => exact absurd rfl hz
  | cons x r =>
    obtain ⟨b, off, rfl, hcell⟩ := hc 0 x rfl
    simp [Value.ownBlock] at hk
    subst hk
    exact World.block_lt_of_cell? W _ hcell

theorem SlV.kept {W W' : World} {v : Value} {vals : List Value} (h : SlV W v vals) (hk : ∀ k, svD v vals k → W'.heap[k]? = W.heap[k]?) : SlV W' v vals := by
  obtain ⟨p, cap, rfl, h1, h2, hc⟩ := h
  refine ⟨p, cap, rfl, h1, h2, fun i x hi => ?_⟩
  obtain ⟨b, off, rfl, hcell⟩ := hc i x hi
  refine ⟨b, off, rfl, (World.cell?_of_block (a := ⟨b, off + i, none⟩) (hk b ⟨?_, rfl⟩)).trans hcell⟩
  rintro rfl
  simp at hi

theorem SlV.ofRow {W : World} {base : Nat} {e : TypeId} {v : Value} {vals : List Value} (h : W.ownsRow base e 1 v vals.length vals) : SlV W v vals := by
  have h' := h
  rcases h.2 with ⟨rfl, h0⟩ | ⟨g, cap, cur, rfl, hb, hg, hn, hm, hs, ht⟩
  · obtain rfl : vals = [] := List.length_eq_zero_iff.1 h0
    exact ⟨none, 0, rfl, Nat.le_refl _, Nat.zero_le _, by simp⟩
  · refine ⟨_, cap, rfl, hn, hm, fun i x hi => ⟨g, 0, rfl, ?_⟩⟩
    have := h'.cells (g := g) rfl i x hi
    have e : (⟨g, 0, none⟩ : Addr).add i = ⟨g, 0 + i, none⟩ := by unfold Addr.add; split <;> simp_all
    rwa [e] at this

/-- A list of values that was just laid. -/
theorem SlV.made (w : World) (vals : List Value) (e : TypeId) (hl : vals.length ≤ 1000000) : SlV (w.alloc (.cells vals.toArray e)) (.slice (some ⟨w.heap.size, 0, none⟩) vals.length vals.length) vals := by
  refine ⟨_, vals.length, rfl, Nat.le_refl _, by unfold maxLen; omega, fun i x hi => ⟨w.heap.size, 0, rfl, ?_⟩⟩
  have h : (w.alloc (.cells vals.toArray e)).heap[w.heap.size]? = some (.cells vals.toArray e (0, 0)) := World.alloc_heap_new w _
  unfold World.cell?
  show (match (w.alloc (.cells vals.toArray e)).heap[w.heap.size]? with | some (.cells c _ _) => if false = true then none else c[0 + i]? | _ => none) = some x
  rw [h]
  simpa using hi

theorem drewNC {S : Blk} {a w : World} (h : Chg S a w) (n : Nat) : Chg S a (w.drewN n) := ⟨h.os, h.tape, h.output, h.size, h.block⟩

/-- A text, as yield takes it. -/
abbrev encS (x : ByteArray) : Array Value := #[.string x]

theorem info9 : (Tryz.prog.info? 9).map (fun i => (i.zero, i.size, i.bytes)) = some (some (.string ⟨#[]⟩), 1, 16) := by kernel_rfl

/-- A sequence of texts that turns nothing, over the blocks D. -/
def PSeqS (W : World) (gf : Nat) (lb : Array Value) (xs : List ByteArray) (D : Blk) : Prop :=
  ∃ I0, Iter Tryz.prog gf lb encS xs D No I0 (fun _ => I0) ∧ I0 W ∧ ∀ args w, (callFunc gf args).run Tryz.prog w = .ok (.enter gf args) w

theorem SlV.no {W W' : World} {v : Value} {vals : List Value} (h : SlV W v vals) (c : Chg No W W') : SlV W' v vals :=
  h.kept (fun k hk => c.block k (h.lt k hk) (fun h => h))

theorem text_ext {x y : ByteArray} (h : x.toList = y.toList) : x = y := by
  rw [Go.ByteArray.toList_eq, Go.ByteArray.toList_eq] at h
  cases x; cases y
  exact congrArg ByteArray.mk (Array.toList_inj.1 h)

theorem SlV.chg {W W' : World} {v : Value} {vals : List Value} (h : SlV W v vals) {S : Blk} (c : Chg S W W') (hd : ∀ k, svD v vals k → ¬ S k) : SlV W' v vals :=
  h.kept (fun k hk => c.block k (h.lt k hk) (hd k hk))

theorem results_cell1 {fn : Func} {p : Tmp} {ty : TypeId} (h : fn.results = #[.cell p ty]) (tmps : Array Value) (P : Program) (w : World) :
    (results fn tmps).run P w = ((asAddr (tmps.getD p undef)).run P w).andThen fun a w₁ => (loadVar ty a).run P w₁ := by
  simp only [results, h]
  simp [Sem.run_bind, Result.andThen]

end Go.Proofs.YtakbeololabmhaaGreatDoor

end
section
-- DLib
namespace Go.DiffLib

section
variable {α : Type} [DecidableEq α]

/-- How long the longest common list is: by the first one of a, and what is left of a. -/
def tlGo (x : α) (f : List α → Nat) : List α → Nat
  | [] => 0
  | y :: ys => if x = y then f ys + 1 else max (f (y :: ys)) (tlGo x f ys)
/-- How long the longest common list is. -/
def tl : List α → List α → Nat
  | [] => fun _ => 0
  | x :: xs => tlGo x (tl xs)

theorem tl_nil (b : List α) : tl [] b = 0 := rfl
theorem tl_nil' (a : List α) : tl a [] = 0 := by cases a <;> rfl
theorem tl_cons (x y : α) (xs ys : List α) : tl (x :: xs) (y :: ys) = if x = y then tl xs ys + 1 else max (tl xs (y :: ys)) (tl (x :: xs) ys) := rfl
/-- By both lists at once. -/
theorem tl_ind {motive : List α → List α → Prop} (case1 : ∀ b, motive [] b) (case2 : ∀ x xs, motive (x :: xs) []) (case3 : ∀ xs x ys, motive xs ys → motive (x :: xs) (x :: ys))
    (case4 : ∀ x xs y ys, ¬ x = y → motive xs (y :: ys) → motive (x :: xs) ys → motive (x :: xs) (y :: ys)) (a b : List α) : motive a b := by
  induction a generalizing b with
  | nil => exact case1 b
  | cons x xs ih =>
    induction b with
    | nil => exact case2 x xs
    | cons y ys ih2 =>
      by_cases h : x = y
      · subst h; exact case3 xs x ys (ih ys)
      · exact case4 x xs y ys h (ih (y :: ys)) ih2
theorem tl_end (a b : List α) (j : Nat) : tl (a.drop a.length) (b.drop j) = 0 := by rw [List.drop_length, tl_nil]
theorem tl_end' (a b : List α) (i : Nat) : tl (a.drop i) (b.drop b.length) = 0 := by rw [List.drop_length, tl_nil']
theorem tl_at (a b : List α) (i j : Nat) (hi : i < a.length) (hj : j < b.length) :
    tl (a.drop i) (b.drop j) = if a[i] = b[j] then tl (a.drop (i + 1)) (b.drop (j + 1)) + 1 else max (tl (a.drop (i + 1)) (b.drop j)) (tl (a.drop i) (b.drop (j + 1))) := by
  rw [List.drop_eq_getElem_cons hi, List.drop_eq_getElem_cons hj, tl_cons]

theorem tl_le (a b : List α) : tl a b ≤ a.length ∧ tl a b ≤ b.length := by
  induction a, b using tl_ind with
  | case1 b => simp [tl_nil]
  | case2 x xs => simp [tl_nil']
  | case3 xs x ys ih => rw [tl_cons, if_pos rfl]; simp; omega
  | case4 x xs y ys h ih1 ih2 => rw [tl_cons, if_neg h]; simp at ih1 ih2 ⊢; omega

/-- The pairs: by the first one of a, and what is left of a. -/
def prGo (x : α) (xs : List α) (f : List α → Nat → Nat → List (Nat × Nat)) : List α → Nat → Nat → List (Nat × Nat)
  | [], _, _ => []
  | y :: ys, i, j => if x = y then (i, j) :: f ys (i + 1) (j + 1) else if tl (x :: xs) ys ≤ tl xs (y :: ys) then f (y :: ys) (i + 1) j else prGo x xs f ys i (j + 1)
/-- The pairs. -/
def pr : List α → List α → Nat → Nat → List (Nat × Nat)
  | [] => fun _ _ _ => []
  | x :: xs => prGo x xs (pr xs)

theorem pr_nil (b : List α) (i j : Nat) : pr [] b i j = [] := rfl
theorem pr_nil' (a : List α) (i j : Nat) : pr a [] i j = [] := by cases a <;> rfl
theorem pr_cons (x y : α) (xs ys : List α) (i j : Nat) : pr (x :: xs) (y :: ys) i j = if x = y then (i, j) :: pr xs ys (i + 1) (j + 1) else if tl (x :: xs) ys ≤ tl xs (y :: ys) then pr xs (y :: ys) (i + 1) j else pr (x :: xs) ys i (j + 1) := rfl
theorem pr_ind {motive : List α → List α → Nat → Nat → Prop} (case1 : ∀ b i j, motive [] b i j) (case2 : ∀ x xs i j, motive (x :: xs) [] i j) (case3 : ∀ xs x ys i j, motive xs ys (i + 1) (j + 1) → motive (x :: xs) (x :: ys) i j)
    (case4 : ∀ x xs y ys i j, ¬ x = y → tl (x :: xs) ys ≤ tl xs (y :: ys) → motive xs (y :: ys) (i + 1) j → motive (x :: xs) (y :: ys) i j)
    (case5 : ∀ x xs y ys i j, ¬ x = y → ¬ tl (x :: xs) ys ≤ tl xs (y :: ys) → motive (x :: xs) ys i (j + 1) → motive (x :: xs) (y :: ys) i j) (a b : List α) (i j : Nat) : motive a b i j := by
  induction a generalizing b i j with
  | nil => exact case1 b i j
  | cons x xs ih =>
    induction b generalizing i j with
    | nil => exact case2 x xs i j
    | cons y ys ih2 =>
      by_cases h : x = y
      · subst h; exact case3 xs x ys i j (ih ys _ _)
      · by_cases h2 : tl (x :: xs) ys ≤ tl xs (y :: ys)
        · exact case4 x xs y ys i j h h2 (ih (y :: ys) _ _)
        · exact case5 x xs y ys i j h h2 (ih2 _ _)
theorem pr_at (a b : List α) (i j : Nat) (hi : i < a.length) (hj : j < b.length) :
    pr (a.drop i) (b.drop j) i j = if a[i] = b[j] then (i, j) :: pr (a.drop (i + 1)) (b.drop (j + 1)) (i + 1) (j + 1)
      else if tl (a.drop i) (b.drop (j + 1)) ≤ tl (a.drop (i + 1)) (b.drop j) then pr (a.drop (i + 1)) (b.drop j) (i + 1) j else pr (a.drop i) (b.drop (j + 1)) i (j + 1) := by
  rw [List.drop_eq_getElem_cons hi, List.drop_eq_getElem_cons hj, pr_cons]
theorem pr_end (a b : List α) (i j : Nat) (h : ¬ (i < a.length ∧ j < b.length)) : pr (a.drop i) (b.drop j) i j = [] := by
  rcases Nat.lt_or_ge i a.length with h1 | h1
  · rw [List.drop_eq_nil_of_le (show b.length ≤ j by omega), pr_nil']
  · rw [List.drop_eq_nil_of_le h1, pr_nil]

theorem pr_length (a b : List α) (i j : Nat) : (pr a b i j).length = tl a b := by
  induction a, b, i, j using pr_ind with
  | case1 => rfl
  | case2 => rfl
  | case3 xs x ys i j ih => rw [pr_cons, if_pos rfl, tl_cons, if_pos rfl, List.length_cons, ih]
  | case4 x xs y ys i j h h2 ih => rw [pr_cons, if_neg h, if_pos h2, tl_cons, if_neg h, ih]; omega
  | case5 x xs y ys i j h h2 ih => rw [pr_cons, if_neg h, if_neg h2, tl_cons, if_neg h, ih]; omega
/-- Pairs that rise, from i and j on, below n and m. -/
def Inc (n m : Nat) : Nat → Nat → List (Nat × Nat) → Prop
  | i, j, [] => i ≤ n ∧ j ≤ m
  | i, j, p :: ps => i ≤ p.1 ∧ j ≤ p.2 ∧ p.1 < n ∧ p.2 < m ∧ Inc n m (p.1 + 1) (p.2 + 1) ps
theorem Inc.less {n m i j i' j' : Nat} {ps : List (Nat × Nat)} (h : Inc n m i j ps) (hi : i' ≤ i) (hj : j' ≤ j) : Inc n m i' j' ps := by
  cases ps with
  | nil => exact ⟨by have := h.1; omega, by have := h.2; omega⟩
  | cons p ps => obtain ⟨h1, h2, h3⟩ := h; exact ⟨by omega, by omega, h3⟩
theorem Inc.le {n m i j : Nat} {ps : List (Nat × Nat)} (h : Inc n m i j ps) : i ≤ n ∧ j ≤ m := by
  cases ps with
  | nil => exact h
  | cons p ps => obtain ⟨h1, h2, h3, h4, _⟩ := h; omega
theorem pr_inc (a b : List α) (i j : Nat) : Inc (i + a.length) (j + b.length) i j (pr a b i j) := by
  induction a, b, i, j using pr_ind with
  | case1 => exact ⟨by omega, by omega⟩
  | case2 => exact ⟨by omega, by omega⟩
  | case3 xs x ys i j ih =>
    rw [pr_cons, if_pos rfl]
    refine ⟨Nat.le_refl _, Nat.le_refl _, by simp, by simp, ?_⟩
    simp only [List.length_cons]
    rw [show i + (xs.length + 1) = i + 1 + xs.length by omega, show j + (ys.length + 1) = j + 1 + ys.length by omega]
    exact ih
  | case4 x xs y ys i j h h2 ih =>
    rw [pr_cons, if_neg h, if_pos h2]
    rw [show i + 1 + xs.length = i + (x :: xs).length by simp; omega] at ih
    exact ih.less (by omega) (Nat.le_refl _)
  | case5 x xs y ys i j h h2 ih =>
    rw [pr_cons, if_neg h, if_neg h2]
    rw [show j + 1 + ys.length = j + (y :: ys).length by simp; omega] at ih
    exact ih.less (Nat.le_refl _) (by omega)
/-- Each pair is of like ones. -/
theorem pr_like (a b : List α) (i j : Nat) : ∀ p ∈ pr a b i j, i ≤ p.1 ∧ j ≤ p.2 ∧ ∃ x, a[p.1 - i]? = some x ∧ b[p.2 - j]? = some x := by
  induction a, b, i, j using pr_ind with
  | case1 => simp [pr_nil]
  | case2 => simp [pr_nil']
  | case3 xs x ys i j ih =>
    intro p hp
    rw [pr_cons, if_pos rfl] at hp
    rcases List.mem_cons.1 hp with rfl | hp
    · exact ⟨Nat.le_refl _, Nat.le_refl _, x, by simp, by simp⟩
    · obtain ⟨h1, h2, z, h3, h4⟩ := ih p hp
      refine ⟨by omega, by omega, z, ?_, ?_⟩
      · rw [show p.1 - i = (p.1 - (i + 1)) + 1 by omega, List.getElem?_cons_succ]; exact h3
      · rw [show p.2 - j = (p.2 - (j + 1)) + 1 by omega, List.getElem?_cons_succ]; exact h4
  | case4 x xs y ys i j h h2 ih =>
    intro p hp
    rw [pr_cons, if_neg h, if_pos h2] at hp
    obtain ⟨h1, h2, z, h3, h4⟩ := ih p hp
    refine ⟨by omega, by omega, z, ?_, h4⟩
    rw [show p.1 - i = (p.1 - (i + 1)) + 1 by omega, List.getElem?_cons_succ]; exact h3
  | case5 x xs y ys i j h h2 ih =>
    intro p hp
    rw [pr_cons, if_neg h, if_neg h2] at hp
    obtain ⟨h1, h2, z, h3, h4⟩ := ih p hp
    refine ⟨by omega, by omega, z, h3, ?_⟩
    rw [show p.2 - j = (p.2 - (j + 1)) + 1 by omega, List.getElem?_cons_succ]; exact h4
/-- What comes of steps. -/
def app : List α → List α → List (Int × Int × Int) → Option (List α)
  | a, b, [] => if a = [] ∧ b = [] then some [] else none
  | a, b, (s, o, n) :: r =>
    if 0 ≤ s ∧ 0 ≤ o ∧ 0 ≤ n ∧ s ≤ a.length ∧ s ≤ b.length ∧ o ≤ (a.length : Int) - s ∧ n ≤ (b.length : Int) - s ∧ a.take s.toNat = b.take s.toNat then
      (app (a.drop (s.toNat + o.toNat)) (b.drop (s.toNat + n.toNat)) r).map (fun t => a.take s.toNat ++ ((b.drop s.toNat).take n.toNat ++ t))
    else none

theorem pr_inc0 (a b : List α) : Inc a.length b.length 0 0 (pr a b 0 0) := by
  have := pr_inc a b 0 0
  rwa [Nat.zero_add, Nat.zero_add] at this
end

end Go.DiffLib

end
section
-- DWide
namespace Go.DiffLib
/-- A list of cells, item by item. -/
theorem flat_get {ι β : Type} {enc : ι → List β} {s : Nat} (hs : ∀ x, (enc x).length = s) (its : List ι) (i q : Nat) (hq : q < s) : (its.flatMap enc)[i * s + q]? = its[i]?.bind fun x => (enc x)[q]? := by
  induction its generalizing i with
  | nil => simp
  | cons y t ih =>
    rw [List.flatMap_cons]
    cases i with
    | zero =>
      rw [List.getElem?_append_left (by rw [hs]; omega)]
      simp
    | succ i =>
      rw [List.getElem?_append_right (by rw [hs, Nat.succ_mul]; omega), hs, List.getElem?_cons_succ, ← ih i]
      congr 1
      rw [Nat.succ_mul]; omega
theorem flat_length {ι β : Type} {enc : ι → List β} {s : Nat} (hs : ∀ x, (enc x).length = s) (its : List ι) : (its.flatMap enc).length = its.length * s := by
  induction its with
  | nil => simp
  | cons y t ih => simp [List.flatMap_cons, hs, ih, Nat.succ_mul]; omega
end Go.DiffLib

namespace Go.Proofs.YtakbeololabmhaaGreatDoor
open Go.RowKit Go.Shelf Go.SeqLib Go.DiffLib

/-- A slice whose elements, of s cells each, read as enc says. -/
def SlE {ι : Type} (s : Nat) (enc : ι → List Value) (W : World) (v : Value) (zs : List ι) : Prop :=
  ∃ p cap, v = .slice p zs.length cap ∧ zs.length ≤ cap ∧ cap ≤ maxLen ∧ ∀ i x, zs[i]? = some x → ∃ b off, p = some ⟨b, off, none⟩ ∧ ∀ q u, (enc x)[q]? = some u → W.cell? ⟨b, off + i * s + q, none⟩ = some u
def slE {ι : Type} (v : Value) (zs : List ι) : Blk := fun k => zs ≠ [] ∧ v.ownBlock = some k

section
variable {ι : Type} {s : Nat} {enc : ι → List Value} {W W' : World} {v : Value} {zs : List ι}
theorem SlE.kept (h : SlE s enc W v zs) (hk : ∀ k, slE v zs k → W'.heap[k]? = W.heap[k]?) : SlE s enc W' v zs := by
  obtain ⟨p, cap, rfl, h1, h2, hc⟩ := h
  refine ⟨p, cap, rfl, h1, h2, fun i x hi => ?_⟩
  obtain ⟨b, off, rfl, hcell⟩ := hc i x hi
  have hz : zs ≠ [] := by rintro rfl; simp at hi
  exact ⟨b, off, rfl, fun q u hu => (World.cell?_of_block (a := ⟨b, off + i * s + q, none⟩) (hk b ⟨hz, rfl⟩)).trans (hcell q u hu)⟩
theorem SlE.lt (he : ∀ x, (enc x).length = s) (hs : 0 < s) (h : SlE s enc W v zs) : ∀ k, slE v zs k → k < W.heap.size := by
  obtain ⟨p, cap, rfl, _, _, hc⟩ := h
  rintro k ⟨hz, hk⟩
  cases zs with
  | nil => exact absurd rfl hz
  | cons x r =>
    obtain ⟨b, off, rfl, hcell⟩ := hc 0 x rfl
    simp [Value.ownBlock] at hk
    subst hk
    have h0 : 0 < (enc x).length := by rw [he]; exact hs
    exact World.block_lt_of_cell? W _ (hcell 0 _ (List.getElem?_eq_getElem h0))
theorem SlE.chg (he : ∀ x, (enc x).length = s) (hs : 0 < s) (h : SlE s enc W v zs) {S : Blk} (c : Chg S W W') (hd : ∀ k, slE v zs k → ¬ S k) : SlE s enc W' v zs :=
  h.kept (fun k hk => c.block k (h.lt he hs k hk) (hd k hk))
theorem SlE.no (he : ∀ x, (enc x).length = s) (hs : 0 < s) (h : SlE s enc W v zs) (c : Chg No W W') : SlE s enc W' v zs := h.chg he hs c (fun _ _ h => h)
theorem SlE.nil : SlE s enc W (.slice none 0 0) ([] : List ι) := ⟨none, 0, rfl, Nat.le_refl _, Nat.zero_le _, by simp⟩
theorem SlE.drop {b off n cap : Nat} (h : SlE s enc W (.slice (some ⟨b, off, none⟩) n cap) zs) (m : Nat) (hm : m ≤ n) : SlE s enc W (.slice (some ⟨b, off + m * s, none⟩) (n - m) (cap - m)) (zs.drop m) := by
  obtain ⟨p', cap', e, h1, h2, hc⟩ := h
  cases e
  refine ⟨_, _, by rw [List.length_drop], by simp; omega, by omega, fun i x hi => ?_⟩
  rw [List.getElem?_drop] at hi
  obtain ⟨b', off', e, u1⟩ := hc (m + i) x hi
  cases e
  refine ⟨b, off + m * s, rfl, fun q u hu => ?_⟩
  rw [show off + m * s + i * s + q = off + (m + i) * s + q by rw [Nat.add_mul]; omega]; exact u1 q u hu
theorem SlE.ofRow (he : ∀ x, (enc x).length = s) {base : Nat} {e : TypeId} (h : W.ownsRow base e s v zs.length (zs.flatMap enc)) : SlE s enc W v zs := by
  have h' := h
  rcases h.2 with ⟨rfl, h0⟩ | ⟨g, cap, cur, rfl, hb, hg, hn, hm, hs, ht⟩
  · obtain rfl : zs = [] := List.length_eq_zero_iff.1 h0
    exact SlE.nil
  · refine ⟨_, cap, rfl, hn, hm, fun i x hi => ⟨g, 0, rfl, fun q u hu => ?_⟩⟩
    have hq : q < s := by rw [← he x]; exact (List.getElem?_eq_some_iff.1 hu).1
    have := h'.cells (g := g) rfl (i * s + q) u (by rw [flat_get he _ _ _ hq, hi]; exact hu)
    have e : (⟨g, 0, none⟩ : Addr).add (i * s + q) = ⟨g, 0 + (i * s + q), none⟩ := by unfold Addr.add; split <;> simp_all
    rw [e] at this
    rw [show 0 + i * s + q = 0 + (i * s + q) by omega]; exact this
end

/-- A slice, cut from m on. -/
theorem SlE.low {ι : Type} {s : Nat} {enc : ι → List Value} {W : World} {p : Option Addr} {n cap : Nat} {zs : List ι} {t e : TypeId} (ht : Tryz.prog.underlying t = some (.slice e)) (hsz : ∀ w, (sizeOf e).run Tryz.prog w = .ok s w)
    (h : SlE s enc W (.slice p n cap) zs) (hl : zs.length = n) (m : Nat) (hm : m ≤ n) (k : IntKind) : ∃ p' c', SlE s enc W (.slice p' (n - m) c') (zs.drop m) ∧ (∀ k, Value.ownBlock (.slice p' (n - m) c') = some k → Value.ownBlock (.slice p n cap) = some k) ∧
      ∀ w, (Instr.sliceAt t (.slice p n cap) (some (.int k (m : Int))) none none).run Tryz.prog w = .ok (.slice p' (n - m) c') w := by
  have he : Tryz.prog.elem t = e := by simp [Program.elem, ht]
  have hrun : ∀ w, (Instr.sliceAt t (.slice p n cap) (some (.int k (m : Int))) none none).run Tryz.prog w = .ok (sliced p m n cap s) w := by
    intro w
    rw [run_sliceAt_slice _ _ _ _ _ _ (by rw [he]; exact ht), run_slice_l _ _ _ _ _ (by rw [he]; exact ht) k (m : Int) (by omega) (by omega), he, hsz]
    simp [Result.andThen]
  obtain ⟨p0, cap0, e0, h1, h2, hc⟩ := id h
  rw [Value.slice.injEq] at e0
  obtain ⟨rfl, _, rfl⟩ := e0
  rw [hl] at h1
  unfold sliced at hrun
  by_cases hcm : cap = m
  · rw [if_pos hcm] at hrun
    refine ⟨_, _, ⟨_, _, by rw [List.length_drop, hl], by rw [List.length_drop, hl]; omega, by omega, fun i x hi => ?_⟩, fun k hk => by
      cases p with
      | none => cases hk
      | some ad => exact hk, hrun⟩
    rw [List.drop_eq_nil_of_le (by omega)] at hi
    simp at hi
  · rw [if_neg hcm] at hrun
    cases p with
    | none =>
      refine ⟨_, _, ⟨_, _, by rw [List.length_drop, hl], by rw [List.length_drop, hl]; omega, by omega, fun i x hi => ?_⟩, fun k hk => by simp [Value.ownBlock] at hk, hrun⟩
      rw [List.getElem?_drop] at hi
      obtain ⟨_, _, e9, _⟩ := hc _ _ hi
      cases e9
    | some ad =>
      by_cases hz : zs = []
      · refine ⟨_, _, ⟨_, _, by rw [List.length_drop, hl], by rw [List.length_drop, hl]; omega, by omega, fun i x hi => ?_⟩, fun k hk => ?_, hrun⟩
        · rw [hz] at hi; simp at hi
        · simp [Value.ownBlock, Addr.add] at hk ⊢
          first | exact hk | (split at hk <;> simp_all)
      · obtain ⟨x0, hx0⟩ : ∃ x, zs[0]? = some x := by
          cases zs with
          | nil => exact absurd rfl hz
          | cons x r => exact ⟨x, rfl⟩
        obtain ⟨b, off, e9, _⟩ := hc 0 x0 hx0
        cases e9
        have hd := h.drop m hm
        have ea : (⟨b, off, none⟩ : Addr).add (m * s) = ⟨b, off + m * s, none⟩ := by unfold Addr.add; split <;> simp_all
        rw [Option.map_some, ea] at hrun
        exact ⟨_, _, hd, fun k hk => by simpa [Value.ownBlock] using hk, hrun⟩

/-- A pair's cells, a step's cells. -/
def eP (x : Nat × Nat) : List Value := [.int .i64 x.1, .int .i64 x.2]
def eS (x : Int × Int × Int) : List Value := [.int .i64 x.1, .int .i64 x.2.1, .int .i64 x.2.2]
theorem eP_len (x : Nat × Nat) : (eP x).length = 2 := rfl
theorem eS_len (x : Int × Int × Int) : (eS x).length = 3 := rfl
abbrev SlP := @SlE (Nat × Nat) 2 eP
abbrev SlS := @SlE (Int × Int × Int) 3 eS

theorem SlP.at {W : World} {p : Option Addr} {n cap : Nat} {zs : List (Nat × Nat)} (h : SlP W (.slice p n cap) zs) (i : Nat) (x : Nat × Nat) (hi : zs[i]? = some x) :
    ∃ b off, p = some ⟨b, off, none⟩ ∧ W.cell? ⟨b, off + i * 2, none⟩ = some (.int .i64 x.1) ∧ W.cell? ⟨b, off + i * 2 + 1, none⟩ = some (.int .i64 x.2) := by
  obtain ⟨p', cap', e, _, _, hc⟩ := h
  cases e
  obtain ⟨b, off, e, h1⟩ := hc i x hi
  exact ⟨b, off, e, h1 0 _ rfl, h1 1 _ rfl⟩
theorem SlS.at {W : World} {p : Option Addr} {n cap : Nat} {zs : List (Int × Int × Int)} (h : SlS W (.slice p n cap) zs) (i : Nat) (x : Int × Int × Int) (hi : zs[i]? = some x) :
    ∃ b off, p = some ⟨b, off, none⟩ ∧ W.cell? ⟨b, off + i * 3, none⟩ = some (.int .i64 x.1) ∧ W.cell? ⟨b, off + i * 3 + 1, none⟩ = some (.int .i64 x.2.1) ∧ W.cell? ⟨b, off + i * 3 + 2, none⟩ = some (.int .i64 x.2.2) := by
  obtain ⟨p', cap', e, _, _, hc⟩ := h
  cases e
  obtain ⟨b, off, e, h1⟩ := hc i x hi
  exact ⟨b, off, e, h1 0 _ rfl, h1 1 _ rfl, h1 2 _ rfl⟩

theorem info208 : (Tryz.prog.info? 208).map (fun i => (i.zero, i.size, i.bytes)) = some (some (.agg #[.int .i64 0, .int .i64 0]), 2, 16) := by kernel_rfl
theorem size_pair (w : World) : (sizeOf 208).run Tryz.prog w = .ok 2 w := by
  obtain ⟨i0, hi, _, h2, _⟩ := info_parts info208
  rw [run_sizeOf w hi]
  have : Tryz.prog.cellsOf 208 = 2 := by kernel_rfl
  rw [this]

end Go.Proofs.YtakbeololabmhaaGreatDoor

end
