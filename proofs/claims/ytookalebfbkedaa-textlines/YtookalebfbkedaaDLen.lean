/-
  diff's own tooLong and Length, at texts.
-/
import Derived.Test.YtookalebfbkedaaDTails
namespace Go.Proofs.Ytookalebfbkedaa
open Go.RowKit Go.Shelf Go.SeqLib Go.DiffLib
attribute [local go_sem] Oper.semAt_some

set_option maxHeartbeats 1000000 in
theorem tooLong_in (p q : Option Addr) (n m c d : Nat) (w : World) : CallsIn Fence.wide 0 Try.prog 53 #[.slice p n c, .slice q m d] w fun e w' => e = .returned (.bool (decide (400 < n ∨ 400 < m))) ∧ w' = w := by
  have HD : Hid (decide (400 < n ∨ 400 < m) = (decide ((400 : Int) < n) || decide ((400 : Int) < m))) := by
    rw [← Bool.decide_or]
    exact decide_eq_decide.2 (by omega)
  refine callsIn_of_wp Try.func53 rfl trivial ?_
  simp only [Try.ntmps53, List.size_toArray, List.length_cons, List.length_nil, Nat.reduceAdd, Nat.reduceSub, Array.replicate_succ, Array.replicate_zero, List.push_toArray, List.append_toArray, List.nil_append, List.cons_append]
  rw [HD.out]
  by_cases h : (400 : Int) < n
  · gi_wp2
    go_ret
    exact ⟨by simp [h], rfl⟩
  · gi_wp2
    go_ret
    exact ⟨by rw [decide_eq_false (show ¬ (400 : Int) < n by omega)]; simp, rfl⟩

end Go.Proofs.Ytookalebfbkedaa
