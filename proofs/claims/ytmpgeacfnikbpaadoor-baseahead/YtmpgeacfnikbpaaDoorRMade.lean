/-
  Commits of the document's making, one behind the other, with parents as numbers say. No program is named here.
-/
import Derived.Test.YtmpgeacfnikbpaaDoorGPure
namespace Go.DagLib
open Go.RepoLib

/-- The parents that the number x says, of the commit at place i. -/
def mkP (i x : Nat) : List Nat := (if 1 ≤ x / 100 % 100 ∧ x / 100 % 100 ≤ i then [x / 100 % 100] else []) ++ (if 1 ≤ x % 100 ∧ x % 100 ≤ i ∧ ¬ x % 100 = x / 100 % 100 then [x % 100] else [])
def mkN (i : Nat) : ByteArray := ⟨#[(65 + i % 26).toUInt8, (97 + i / 26).toUInt8]⟩
def mkC (i x : Nat) : Cm := ((mkP i x).map (fun (p : Nat) => (p : Int)), [], mkN i)
def mkL : Nat → List Nat → List Cm
  | _, [] => []
  | i, x :: xs => mkC i x :: mkL (i + 1) xs
theorem mkL_length : ∀ (i : Nat) (xs : List Nat), (mkL i xs).length = xs.length
  | _, [] => rfl
  | i, x :: xs => by show (mkL (i + 1) xs).length + 1 = xs.length + 1; rw [mkL_length]
theorem mkL_get : ∀ {i : Nat} {xs : List Nat} {j x : Nat}, xs[j]? = some x → (mkL i xs)[j]? = some (mkC (i + j) x)
  | i, [], j, x, h => by simp at h
  | i, y :: xs, 0, x, h => by
    obtain rfl : y = x := by simpa using h
    rfl
  | i, y :: xs, j + 1, x, h => by
    show (mkL (i + 1) xs)[j]? = _
    rw [mkL_get (i := i + 1) (by simpa using h)]
    congr 2
    omega
theorem mkL_snoc : ∀ (i : Nat) (xs : List Nat) (x : Nat), mkL i (xs ++ [x]) = mkL i xs ++ [mkC (i + xs.length) x]
  | _, [], _ => rfl
  | i, y :: xs, x => by
    show mkC i y :: mkL (i + 1) (xs ++ [x]) = mkC i y :: (mkL (i + 1) xs ++ [_])
    rw [mkL_snoc (i + 1) xs x]
    congr 4
    simp; omega
theorem mkP_le {i x p : Nat} (h : p ∈ mkP i x) : 1 ≤ p ∧ p ≤ i := by
  unfold mkP at h
  rcases List.mem_append.1 h with h | h
  · split at h
    · rename_i hc; rw [List.mem_singleton] at h; subst h; exact hc
    · simp at h
  · split at h
    · rename_i hc; rw [List.mem_singleton] at h; subst h; exact ⟨hc.1, hc.2.1⟩
    · simp at h
theorem mkN_inj {i j : Nat} (hi : i < 600) (hj : j < 600) (h : mkN i = mkN j) : i = j := by
  have h1 := congrArg (fun x => x.data.toList) h
  simp only [mkN, List.cons.injEq, and_true] at h1
  have e1 := congrArg UInt8.toNat h1.1
  have e2 := congrArg UInt8.toNat h1.2
  simp [Nat.toUInt8] at e1 e2
  omega
theorem mkP_cases (i x : Nat) : mkP i x = [] ∨ (∃ p, mkP i x = [p]) ∨ ∃ p q, mkP i x = [p, q] ∧ ¬ p = q := by
  unfold mkP
  by_cases h1 : 1 ≤ x / 100 % 100 ∧ x / 100 % 100 ≤ i
  · rw [if_pos h1]
    by_cases h2 : 1 ≤ x % 100 ∧ x % 100 ≤ i ∧ ¬ x % 100 = x / 100 % 100
    · rw [if_pos h2]
      exact .inr (.inr ⟨_, _, rfl, fun e => h2.2.2 e.symm⟩)
    · rw [if_neg h2]
      exact .inr (.inl ⟨_, rfl⟩)
  · rw [if_neg h1]
    by_cases h2 : 1 ≤ x % 100 ∧ x % 100 ≤ i ∧ ¬ x % 100 = x / 100 % 100
    · rw [if_pos h2]
      exact .inr (.inl ⟨_, rfl⟩)
    · rw [if_neg h2]
      exact .inl rfl
theorem mkC_may (i x : Nat) : mayC (mkC i x) = true := by
  have h0 : decide ((mkN i).size ≤ 60) = true := decide_eq_true (by show 2 ≤ 60; omega)
  have hm : ∀ l : List Int, (l = [] ∨ (∃ p, l = [p]) ∨ ∃ p q, l = [p, q] ∧ ¬ p = q) → mayC (l, [], mkN i) = true := by
    intro l h
    unfold mayC
    rw [show TreeLib.mayB ((l, [], mkN i) : Cm).2.1 = true from rfl, Bool.true_and]
    show (decide (l.length ≤ 2) && ((decide (l.length < 2) || !decide (l[0]? = l[1]?)) && decide ((mkN i).size ≤ 60))) = true
    rw [h0, Bool.and_true]
    rcases h with rfl | ⟨p, rfl⟩ | ⟨p, q, rfl, hne⟩
    · rfl
    · rfl
    · simp [hne]
  refine hm _ ?_
  rcases mkP_cases i x with h | ⟨p, h⟩ | ⟨p, q, h, hne⟩
  · exact .inl (by rw [h]; rfl)
  · exact .inr (.inl ⟨_, by rw [h]; rfl⟩)
  · exact .inr (.inr ⟨_, _, by rw [h]; rfl, fun e => hne (Int.ofNat.inj e)⟩)
/-- Each is put in, behind those ahead of it. -/
theorem made_add {xs : List Nat} {x r : Nat} (hr : xs.length < r) (h600 : xs.length < 600) : addC (mkL 0 xs, r) (mkC xs.length x) = ((mkL 0 (xs ++ [x]), r), xs.length + 1, 0) := by
  unfold addC
  rw [mkC_may, if_neg (by decide)]
  have hall : (mkC xs.length x).1.all (hasN (mkL 0 xs, r).1.length) = true := by
    rw [List.all_eq_true]
    intro p hp
    obtain ⟨q, hq, rfl⟩ := List.mem_map.1 hp
    have := mkP_le hq
    show hasN (mkL 0 xs).length _ = true
    rw [mkL_length]
    unfold hasN
    rw [Bool.and_eq_true, decide_eq_true_eq, decide_eq_true_eq]
    omega
  rw [hall, if_neg (by decide)]
  have hf : findC (mkL 0 xs, r).1 (mkC xs.length x) = 0 := by
    refine findC_zero.2 (fun hm => ?_)
    obtain ⟨j, hj⟩ := List.mem_iff_getElem?.1 hm
    have hjl : j < xs.length := by have := (List.getElem?_eq_some_iff.1 hj).1; rwa [mkL_length] at this
    have hy := mkL_get (i := 0) (List.getElem?_eq_getElem hjl)
    have hj' : (mkL 0 xs)[j]? = some (mkC xs.length x) := hj
    rw [hy] at hj'
    have h2 := congrArg (fun c : Cm => c.2.2) (Option.some.inj hj')
    have := mkN_inj (by omega) h600 (show mkN (0 + j) = mkN xs.length from h2)
    omega
  rw [hf, if_pos rfl, if_neg (by show ¬ r ≤ (mkL 0 xs).length; rw [mkL_length]; omega), mkL_snoc, mkL_length]
  simp

/-- The parents of the commit of number n. -/
def parL (L : List Cm) (n : Nat) : List Nat := if n = 0 then [] else match L[n - 1]? with
  | some c => c.1.map Int.toNat
  | none => []
theorem parL_at {L : List Cm} {i : Nat} {c : Cm} (h : L[i]? = some c) : parL L (i + 1) = c.1.map Int.toNat := by
  unfold parL
  rw [if_neg (by omega), Nat.add_sub_cancel, h]
theorem parL_made {xs : List Nat} {i x : Nat} (h : xs[i]? = some x) : parL (mkL 0 xs) (i + 1) = mkP i x := by
  rw [parL_at (mkL_get h), Nat.zero_add]
  show ((mkP i x).map _).map _ = _
  rw [List.map_map, show (Int.toNat ∘ fun (p : Nat) => (p : Int)) = id from funext fun p => by show Int.toNat (p : Int) = p; omega, List.map_id]
theorem made_low (xs : List Nat) : Low (parL (mkL 0 xs)) := by
  intro n p hp
  cases n with
  | zero => simp [parL] at hp
  | succ i =>
    cases h : xs[i]? with
    | none =>
      unfold parL at hp
      have : (mkL 0 xs)[i]? = none := by rw [List.getElem?_eq_none_iff] at h ⊢; rw [mkL_length]; exact h
      rw [if_neg (by omega), Nat.add_sub_cancel, this] at hp
      simp at hp
    | some x =>
      rw [parL_made h] at hp
      have := mkP_le hp
      omega
theorem made_pos {xs : List Nat} {n p : Nat} (hp : p ∈ parL (mkL 0 xs) n) : 1 ≤ p := by
  cases n with
  | zero => simp [parL] at hp
  | succ i =>
    cases h : xs[i]? with
    | none =>
      unfold parL at hp
      have : (mkL 0 xs)[i]? = none := by rw [List.getElem?_eq_none_iff] at h ⊢; rw [mkL_length]; exact h
      rw [if_neg (by omega), Nat.add_sub_cancel, this] at hp
      simp at hp
    | some x =>
      rw [parL_made h] at hp
      exact (mkP_le hp).1
end Go.DagLib
