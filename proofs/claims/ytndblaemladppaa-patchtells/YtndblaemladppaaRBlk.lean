/-
  The stable sort's blocks: each block sorted by insertion, then merged two by two, and again. No program is named here.
-/
import Derived.Test.YtndblaemladppaaRSym
namespace Go.TreeLib
open Go Go.Sort Go.Proofs

/-- The blocks of twenty ahead of a are sorted. -/
def Half (d : Array Fl) (a : Nat) (dk : Array Fl) : Prop := ∃ (P Q : List Fl) (k : Nat), dk.toList = P ++ Q ∧ P.length = a ∧ a = k * 20 ∧ Ch 20 P ∧ ∀ p, fil p dk.toList = fil p d.toList
/-- The blocks of bs are sorted. -/
def Whole (bs : Nat) (d dk : Array Fl) : Prop := Ch bs dk.toList ∧ ∀ p, fil p dk.toList = fil p d.toList
/-- The blocks of twice bs ahead of a are sorted, those of bs behind it. -/
def Mid (bs : Nat) (d : Array Fl) (a : Nat) (dk : Array Fl) : Prop := ∃ (P Q : List Fl) (k : Nat), dk.toList = P ++ Q ∧ P.length = a ∧ a = k * (2 * bs) ∧ Ch (2 * bs) P ∧ Ch bs Q ∧ ∀ p, fil p dk.toList = fil p d.toList

theorem blk_start (d : Array Fl) : Half d 0 d := ⟨[], d.toList, 0, rfl, rfl, by simp, Ch.nil _, fun _ => rfl⟩
theorem blk_step {d dk : Array Fl} {a : Nat} (h : Half d a dk) (ha : a + 20 ≤ dk.size) : Half d (a + 20) (Sort.insertionSort (ltOf cmpF) dk a (a + 20)) := by
  obtain ⟨P, Q, k, h1, h2, h3, h4, h5⟩ := h
  have hl : dk.toList.length = dk.size := Array.length_toList
  rw [h1, List.length_append] at hl
  have hs : dk.toList = P ++ (Q.take 20 ++ Q.drop 20) := by rw [h1, List.take_append_drop]
  have hq : (Q.take 20).length = 20 := by rw [List.length_take]; omega
  have hi := ins_part hs
  have hst := sort_stab dk a (a + 20) ha
  rw [h2, hq] at hi
  refine ⟨P ++ isort (Q.take 20), Q.drop 20, k + 1, by rw [hi]; simp only [List.append_assoc], by rw [List.length_append, isort_length]; omega, by omega, h4.app (h2.trans h3) (Ch.one (isort_up _) (by rw [isort_length]; omega)), fun p => (hst.2 p).trans (h5 p)⟩
theorem blk_last {d dk : Array Fl} {a n : Nat} (h : Half d a dk) (hn : dk.size = n) (h1 : a ≤ n) (h2 : n < a + 20) : Whole 20 d (Sort.insertionSort (ltOf cmpF) dk a n) := by
  obtain ⟨P, Q, k, g1, g2, g3, g4, g5⟩ := h
  have hl : dk.toList.length = dk.size := Array.length_toList
  rw [g1, List.length_append] at hl
  have hs : dk.toList = P ++ (Q ++ []) := by rw [g1, List.append_nil]
  have hi := ins_part hs
  have hst := sort_stab dk a n (by omega)
  rw [g2, show a + Q.length = n by omega, List.append_nil] at hi
  refine ⟨?_, fun p => (hst.2 p).trans (g5 p)⟩
  rw [hi]
  exact g4.app (g2.trans g3) (Ch.one (isort_up _) (by rw [isort_length]; omega))

theorem mrg_start {bs : Nat} {d dk : Array Fl} (h : Whole bs d dk) : Mid bs d 0 dk := ⟨[], dk.toList, 0, rfl, rfl, by simp, Ch.nil _, h.1, h.2⟩
theorem fil_merged {d dk : Array Fl} {P Y Z T : List Fl} (h1 : dk.toList = P ++ (Y ++ (Z ++ T))) (h2 : ∀ p, fil p dk.toList = fil p d.toList) {d' : Array Fl} (h : d'.toList = P ++ (isort (Y ++ Z) ++ T)) : ∀ p, fil p d'.toList = fil p d.toList := fun p => by
  rw [← h2 p, h, h1, fil_app, fil_app, isort_fil, fil_app, fil_app, fil_app, fil_app, List.append_assoc]
theorem mrg_split {bs a n : Nat} {d dk : Array Fl} (h : Mid bs d a dk) (hn : dk.size = n) (ha : a + 2 * bs ≤ n) : ∃ P Y Z T : List Fl, dk.toList = P ++ (Y ++ (Z ++ T)) ∧ P.length = a ∧ Y.length = bs ∧ Z.length = bs ∧ Up Y ∧ Up Z ∧ ∀ d' : Array Fl, d'.toList = P ++ (isort (Y ++ Z) ++ T) → Mid bs d (a + 2 * bs) d' := by
  obtain ⟨P, Q, k, g1, g2, g3, g4, g5, g6⟩ := h
  have hl : dk.toList.length = dk.size := Array.length_toList
  rw [g1, List.length_append] at hl
  have hs : dk.toList = P ++ (Q.take bs ++ ((Q.drop bs).take bs ++ Q.drop (2 * bs))) := by
    rw [g1, Nat.two_mul, ← List.drop_drop, List.take_append_drop, List.take_append_drop]
  have hz : Up ((Q.drop bs).take bs) := by have := g5 1; rw [Nat.one_mul] at this; exact this
  have hq1 : (Q.take bs).length = bs := by rw [List.length_take]; omega
  have hq2 : ((Q.drop bs).take bs).length = bs := by rw [List.length_take, List.length_drop]; omega
  refine ⟨P, Q.take bs, (Q.drop bs).take bs, Q.drop (2 * bs), hs, g2, hq1, hq2, g5.up, hz, fun d' h => ⟨P ++ isort (Q.take bs ++ (Q.drop bs).take bs), Q.drop (2 * bs), k + 1, by rw [h]; simp only [List.append_assoc], ?_, by rw [g3]; exact (Nat.succ_mul _ _).symm, ?_, g5.drop 2, fil_merged hs g6 h⟩⟩
  · rw [List.length_append, isort_length, List.length_append]; omega
  · exact g4.app (g2.trans g3) (Ch.one (isort_up _) (by rw [isort_length, List.length_append]; omega))
theorem mrg_last {bs a n : Nat} {d dk : Array Fl} (h : Mid bs d a dk) (hn : dk.size = n) (ha : a + bs < n) (hb : n < a + 2 * bs) : ∃ P Y Z : List Fl, dk.toList = P ++ (Y ++ (Z ++ [])) ∧ P.length = a ∧ Y.length = bs ∧ a + bs + Z.length = n ∧ Up Y ∧ Up Z ∧ ∀ d' : Array Fl, d'.toList = P ++ (isort (Y ++ Z) ++ []) → Whole (2 * bs) d d' := by
  obtain ⟨P, Q, k, g1, g2, g3, g4, g5, g6⟩ := h
  have hl : dk.toList.length = dk.size := Array.length_toList
  rw [g1, List.length_append] at hl
  have hs : dk.toList = P ++ (Q.take bs ++ (Q.drop bs ++ [])) := by
    rw [g1, List.append_nil, List.take_append_drop]
  have hz : Up (Q.drop bs) := by
    have := g5 1
    rw [Nat.one_mul, List.take_of_length_le (by rw [List.length_drop]; omega)] at this
    exact this
  refine ⟨P, Q.take bs, Q.drop bs, hs, g2, by rw [List.length_take]; omega, by rw [List.length_drop]; omega, g5.up, hz, fun d' h => ⟨?_, fil_merged hs g6 h⟩⟩
  rw [h, List.append_nil]
  exact g4.app (g2.trans g3) (Ch.one (isort_up _) (by rw [isort_length, List.length_append, List.length_take, List.length_drop]; omega))
theorem mrg_done {bs a n : Nat} {d dk : Array Fl} (h : Mid bs d a dk) (hn : dk.size = n) (ha : n ≤ a + bs) : Whole (2 * bs) d dk := by
  obtain ⟨P, Q, k, g1, g2, g3, g4, g5, g6⟩ := h
  have hl : dk.toList.length = dk.size := Array.length_toList
  rw [g1, List.length_append] at hl
  refine ⟨?_, g6⟩
  have hu := g5.up
  rw [List.take_of_length_le (by omega)] at hu
  rw [g1]
  exact g4.app (g2.trans g3) (Ch.one hu (by omega))
theorem mrg_all {bs n : Nat} {d dk : Array Fl} (h : Whole bs d dk) (hn : dk.size = n) (hb : n ≤ bs) : dk.toList = isort d.toList := by
  have hl : dk.toList.length = dk.size := Array.length_toList
  have hu := h.1.up
  rw [List.take_of_length_le (by omega)] at hu
  exact (isort_of hu (fun p => (h.2 p).symm)).symm

end Go.TreeLib
