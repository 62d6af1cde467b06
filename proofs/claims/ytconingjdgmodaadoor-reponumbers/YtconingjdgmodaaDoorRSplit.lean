/-
  A path by its parts: cut at each slash, each part a sign or more, is what a path is.
-/
import Derived.Test.YtconingjdgmodaaDoorGPure
import Derived.Lib.SplitLaws
import Derived.Lib.IndexBytes
namespace Go.TreeLib
open Go

/-- May it stand between two slashes? -/
def partB (t : List UInt8) : Bool := t.all signB && !t.isEmpty
def okP (s : List UInt8) : Bool := decide (1 ≤ s.length) && (s.head? != some 47 && (s.getLast? != some 47 && (s.all signB && adjB s)))
theorem pathB_ok (p : List UInt8) : pathB p = (decide (p.length ≤ 60) && okP p) := by
  unfold pathB okP
  cases decide (1 ≤ p.length) <;> cases decide (p.length ≤ 60) <;> rfl

theorem idx_cases : ∀ s : List UInt8, (Lib.index s [47] = -1 ∧ (47 : UInt8) ∉ s) ∨ ∃ a b, s = a ++ 47 :: b ∧ (47 : UInt8) ∉ a ∧ Lib.index s [47] = (a.length : Int)
  | [] => .inl ⟨by simp [Lib.index], by simp⟩
  | x :: s => by
    by_cases h : x = 47
    · subst h
      exact .inr ⟨[], s, rfl, by simp, by rw [Lib.index]; simp [List.isPrefixOf]⟩
    · have hp : ([47] : List UInt8).isPrefixOf (x :: s) = false := by simp [List.isPrefixOf, Ne.symm h]
      have hix : Lib.index (x :: s) [47] = if Lib.index s [47] == -1 then -1 else Lib.index s [47] + 1 := by rw [Lib.index, hp]; simp
      rcases idx_cases s with ⟨h1, h2⟩ | ⟨a, b, rfl, h2, h3⟩
      · refine .inl ⟨by rw [hix, h1]; rfl, ?_⟩
        rw [List.mem_cons]
        rintro (e | e)
        · exact h e.symm
        · exact h2 e
      · refine .inr ⟨x :: a, b, rfl, ?_, ?_⟩
        · rw [List.mem_cons]
          rintro (e | e)
          · exact h e.symm
          · exact h2 e
        · rw [hix, h3, if_neg (by rw [beq_iff_eq]; omega), List.length_cons]
          omega

theorem adj_none : ∀ {a : List UInt8}, (47 : UInt8) ∉ a → adjB a = true
  | [], _ => rfl
  | [_], _ => rfl
  | x :: y :: r, h => by
    have hx : x ≠ 47 := fun e => h (by rw [e]; exact List.mem_cons_self)
    unfold adjB
    rw [adj_none (a := y :: r) (fun e => h (List.mem_cons_of_mem _ e))]
    simp [hx]
theorem adj_app : ∀ {a : List UInt8} (b : List UInt8), (47 : UInt8) ∉ a → adjB (a ++ 47 :: b) = adjB (47 :: b)
  | [], _, _ => rfl
  | [x], b, h => by
    have hx : x ≠ 47 := fun e => h (by rw [e]; exact List.mem_cons_self)
    show adjB (x :: 47 :: b) = _
    rw [adjB]
    simp [hx]
  | x :: y :: r, b, h => by
    have hx : x ≠ 47 := fun e => h (by rw [e]; exact List.mem_cons_self)
    have ih := adj_app (a := y :: r) b (fun e => h (List.mem_cons_of_mem _ e))
    show adjB (x :: y :: (r ++ 47 :: b)) = _
    rw [adjB]
    rw [show y :: (r ++ 47 :: b) = (y :: r) ++ 47 :: b from rfl, ih]
    simp [hx]

theorem ok_one {s : List UInt8} (h : (47 : UInt8) ∉ s) : okP s = partB s := by
  unfold okP partB
  rw [adj_none h]
  cases s with
  | nil => rfl
  | cons x r =>
    have hx : x ≠ 47 := fun e => h (by rw [e]; exact List.mem_cons_self)
    have hl : (x :: r).getLast? ≠ some 47 := fun e => h (List.mem_of_getLast? e)
    have h1 : ((x :: r).head? != some 47) = true := by simp [hx]
    have h2 : ((x :: r).getLast? != some 47) = true := by rw [bne_iff_ne]; exact hl
    rw [h1, h2]
    simp
theorem ok_join {a : List UInt8} (b : List UInt8) (h : (47 : UInt8) ∉ a) : okP (a ++ 47 :: b) = (partB a && okP b) := by
  unfold okP
  rw [adj_app b h]
  cases a with
  | nil => simp [partB]
  | cons x r =>
    have hx : x ≠ 47 := fun e => h (by rw [e]; exact List.mem_cons_self)
    have h0 : decide (1 ≤ (x :: r ++ 47 :: b).length) = true := decide_eq_true (by simp)
    have h1 : ((x :: r ++ 47 :: b).head? != some 47) = true := by simp [hx]
    have h47 : signB 47 = true := by decide
    have h5 : (47 :: b).all signB = b.all signB := by rw [List.all_cons, h47, Bool.true_and]
    rw [h0, h1, List.all_append, h5, List.getLast?_append, List.getLast?_cons]
    cases b with
    | nil => simp
    | cons y t =>
      have h2 : (some ((y :: t).getLast?.getD 47)).or (x :: r).getLast? = (y :: t).getLast? := by
        rw [List.getLast?_cons]; rfl
      rw [h2]
      have h3 : decide (1 ≤ (y :: t).length) = true := decide_eq_true (by simp)
      rw [h3, adjB]
      have h4 : ((y :: t).head? != some 47) = !(y == 47) := rfl
      rw [h4]
      unfold partB
      simp only [List.isEmpty_cons, Bool.not_false, Bool.and_true, Bool.true_and, beq_self_eq_true]
      cases (x :: r).all signB <;> cases (y == 47) <;> cases ((y :: t).getLast? != some 47) <;> cases ((y :: t).all signB) <;> rfl

theorem splitK_ok : ∀ (k : Nat) (s : List UInt8), s.count 47 = k → (Lib.splitK [47] 0 k s).all partB = okP s
  | 0, s, h => by
    have hn : (47 : UInt8) ∉ s := List.count_eq_zero.1 h
    show [s].all partB = _
    rw [ok_one hn]
    simp
  | k + 1, s, h => by
    rcases idx_cases s with ⟨_, h2⟩ | ⟨a, b, rfl, h2, h3⟩
    · rw [List.count_eq_zero.2 h2] at h; cases h
    · have hb : b.count 47 = k := by
        rw [List.count_append, List.count_eq_zero.2 h2, List.count_cons_self] at h
        omega
      unfold Lib.splitK
      have e : (Lib.index (a ++ 47 :: b) [47]).toNat = a.length := by omega
      rw [if_neg (by rw [beq_iff_eq]; omega), e, Nat.add_zero, List.take_left' rfl, List.length_singleton, List.drop_append, Nat.add_sub_cancel_left, List.drop_eq_nil_of_le (Nat.le_succ _), List.all_cons, List.nil_append]
      show (partB a && (Lib.splitK [47] 0 k b).all partB) = _
      rw [splitK_ok k b hb, ok_join b h2]

abbrev slash : ByteArray := ⟨#[47]⟩
theorem split_ok (s : ByteArray) : (Lib.splitB slash 0 (Lib.countB s slash) s).all (fun x => partB (Bs x)) = okP (Bs s) := by
  have h : ((Lib.splitB slash 0 (Lib.countB s slash) s).map (·.data.toList)).all partB = okP (Bs s) := by
    rw [Lib.splitB_data]
    refine splitK_ok _ _ ?_
    exact (Lib.count_one 47 (Bs s)).symm
  rw [← h, List.all_map]
  rfl

end Go.TreeLib
