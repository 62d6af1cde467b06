/-
  The walk of cortegelaw2.PileNone.
-/
import Derived.Test.YtaolebadamfodaaAwake
namespace Go.Proofs.Ytaolebadamfodaa
open Go.RowKit Go.Shelf Go.SeqLib Go.PileLib
attribute [local go_sem] Oper.semAt_some

set_option maxHeartbeats 1000000 in
theorem remove_nil (ff : Nat) (cap : Array Value) (w : World) : CallsIn Fence.wide 0 Try.prog 29 #[.pointer none, .func (.func ff) #[] cap] w fun e w' => e = .returned (.int .i64 0) ∧ Chg No w w' := by
  refine callsIn_of_wp Try.func29 rfl trivial ?_
  simp only [Try.ntmps29, List.size_toArray, List.length_cons, List.length_nil, Nat.reduceAdd, Nat.reduceSub, Array.replicate_succ, Array.replicate_zero, List.push_toArray, List.append_toArray, List.nil_append, List.cons_append]
  gi_wp2
  go_ret
  exact ⟨rfl, (Chg.refl _ w).alloc _⟩

set_option maxRecDepth 100000 in
set_option maxHeartbeats 2000000 in
theorem none_in (n : Int) (w : World) : CallsIn Fence.wide 0 Try.prog 6 #[.int .i64 n] w fun e w' => e = .returned (.bool true) ∧ Chg No w w' := by
  refine callsIn_of_wp Try.func6 rfl trivial ?_
  simp only [Try.ntmps6, List.size_toArray, List.length_cons, List.length_nil, Nat.reduceAdd, Nat.reduceSub, Array.replicate_succ, Array.replicate_zero, List.push_toArray, List.append_toArray, List.nil_append, List.cons_append]
  gi_wp2_with fail
  refine ⟨trivial, rfl, (put_nil _ _).mono ?_⟩
  rintro e w1 ⟨rfl, hw1⟩
  have c1 : Chg No w w1 := by rw [hw1]; exact (Chg.refl _ w).alloc _
  clear hw1
  gi_wp2_with fail
  refine ⟨trivial, rfl, (first_nil _).mono ?_⟩
  rintro e w2 ⟨rfl, c2⟩
  gi_wp2_with fail
  refine ⟨trivial, rfl, (pop_nil _).mono ?_⟩
  rintro e w3 ⟨rfl, c3⟩
  have c03 : Chg No w w3 := (c1.trans c2 (Grew.refl _ _)).trans c3 (Grew.refl _ _)
  gi_wp2_with fail
  refine ⟨trivial, rfl, (len_nil _).mono ?_⟩
  rintro e w3' ⟨rfl, rfl⟩
  gi_wp2_with fail
  refine ⟨trivial, rfl, (all_nil _).mono ?_⟩
  rintro e w4 ⟨g4, l4, D4, rfl, s4, c4, _⟩
  gi_wp2_with fail
  refine ⟨trivial, rfl, (ints_seq 9 (by omega) _ s4 [] rfl).mono ?_⟩
  rintro e w5 ⟨v5, rfl, r5, c5⟩
  obtain ⟨p5, q5, rfl⟩ := row_slice r5
  have c05 : Chg No w w5 := (c03.trans c4 (Grew.refl _ _)).trans c5 (Grew.refl _ _)
  gi_wp2_with fail
  refine ⟨trivial, rfl, (remove_nil 30 #[] _).mono ?_⟩
  rintro e w6 ⟨rfl, c6⟩
  gi_wp2_with fail
  refine ⟨trivial, rfl, (awake_in _).mono ?_⟩
  rintro e w7 ⟨rfl, c7⟩
  gi_wp2
  go_ret
  exact ⟨rfl, (c05.trans c6 (Grew.refl _ _)).trans c7 (Grew.refl _ _)⟩
end Go.Proofs.Ytaolebadamfodaa
