/-
  Of lists that are too long nothing is told: Pairs, Steps and Apply at numbers.
-/
import Derived.Test.YtafaihbfhcpjiaaDLenI
namespace Go.Proofs.Ytafaihbfhcpjiaa.I
open Go.RowKit Go.Shelf Go.SeqLib Go.DiffLib
attribute [local go_sem] Oper.semAt_some

set_option maxHeartbeats 1000000 in
theorem pairs_long (p q : Option Addr) (n m c d : Nat) (h : 400 < n ∨ 400 < m) (w : World) : CallsIn Fence.wide 0 Try.prog 28 #[.slice p n c, .slice q m d] w fun e w' => e = .returned (.slice none 0 0) ∧ w' = w := by
  have hl := tooLong_in p q n m c d w
  rw [decide_eq_true h] at hl
  clear h
  refine callsIn_of_wp Try.func28 rfl trivial ?_
  simp only [Try.ntmps28, List.size_toArray, List.length_cons, List.length_nil, Nat.reduceAdd, Nat.reduceSub, Array.replicate_succ, Array.replicate_zero, List.push_toArray, List.append_toArray, List.nil_append, List.cons_append]
  gi_wp2_with fail
  refine ⟨trivial, rfl, hl.mono ?_⟩
  rintro e w1 ⟨rfl, rfl⟩
  gi_wp2
  go_ret
  exact ⟨rfl, rfl⟩

set_option maxHeartbeats 1000000 in
theorem steps_long (p q : Option Addr) (n m c d : Nat) (h : 400 < n ∨ 400 < m) (w : World) : CallsIn Fence.wide 0 Try.prog 29 #[.slice p n c, .slice q m d] w fun e w' => e = .returned (.slice none 0 0) ∧ w' = w := by
  have hl := tooLong_in p q n m c d w
  rw [decide_eq_true h] at hl
  clear h
  refine callsIn_of_wp Try.func29 rfl trivial ?_
  simp only [Try.ntmps29, List.size_toArray, List.length_cons, List.length_nil, Nat.reduceAdd, Nat.reduceSub, Array.replicate_succ, Array.replicate_zero, List.push_toArray, List.append_toArray, List.nil_append, List.cons_append]
  gi_wp2_with fail
  refine ⟨trivial, rfl, hl.mono ?_⟩
  rintro e w1 ⟨rfl, rfl⟩
  gi_wp2
  go_ret
  exact ⟨rfl, rfl⟩

set_option maxHeartbeats 1000000 in
theorem apply_long (p q : Option Addr) (n m c d : Nat) (vs : Value) (h : 400 < n ∨ 400 < m) (w : World) : CallsIn Fence.wide 0 Try.prog 27 #[.slice p n c, .slice q m d, vs] w fun e w' => e = .returned (.tuple #[.slice none 0 0, .bool false]) ∧ w' = w := by
  have hl := tooLong_in p q n m c d w
  rw [decide_eq_true h] at hl
  clear h
  refine callsIn_of_wp Try.func27 rfl trivial ?_
  simp only [Try.ntmps27, List.size_toArray, List.length_cons, List.length_nil, Nat.reduceAdd, Nat.reduceSub, Array.replicate_succ, Array.replicate_zero, List.push_toArray, List.append_toArray, List.nil_append, List.cons_append]
  gi_wp2_with fail
  refine ⟨trivial, rfl, hl.mono ?_⟩
  rintro e w1 ⟨rfl, rfl⟩
  gi_wp2
  go_ret2
  exact ⟨rfl, rfl⟩

end Go.Proofs.Ytafaihbfhcpjiaa.I
