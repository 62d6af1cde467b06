/-
  diff's own tooLong and Length, at texts.
-/
import Derived.Test.YtafaihbfhcpjiaaDoorDTailsI
import Derived.Test.YtafaihbfhcpjiaaDoorDLen
namespace Go.Proofs.YtafaihbfhcpjiaaDoor.I
open Go.RowKit Go.Shelf Go.SeqLib Go.DiffLib
attribute [local go_sem] Oper.semAt_some

set_option maxHeartbeats 1000000 in
theorem tooLong_in (p q : Option Addr) (n m c d : Nat) (w : World) : CallsIn Fence.wide 0 Tryd.prog 19 #[.slice p n c, .slice q m d] w fun e w' => e = .returned (.bool (decide (400 < n ∨ 400 < m))) ∧ w' = w := by
  have HD : Hid (decide (400 < n ∨ 400 < m) = (decide ((400 : Int) < n) || decide ((400 : Int) < m))) := by
    rw [← Bool.decide_or]
    exact decide_eq_decide.2 (by omega)
  refine callsIn_of_wp Tryd.func19 rfl trivial ?_
  simp only [Tryd.ntmps19, List.size_toArray, List.length_cons, List.length_nil, Nat.reduceAdd, Nat.reduceSub, Array.replicate_succ, Array.replicate_zero, List.push_toArray, List.append_toArray, List.nil_append, List.cons_append]
  rw [HD.out]
  by_cases h : (400 : Int) < n
  · gi_wp2
    go_ret
    exact ⟨by simp [h], rfl⟩
  · gi_wp2
    go_ret
    exact ⟨by rw [decide_eq_false (show ¬ (400 : Int) < n by omega)]; simp, rfl⟩

set_option maxHeartbeats 1000000 in
theorem length_in (v u : Value) (a b : List Int) (w : World) (hv : SlV w v (a.map (Value.int .i64))) (hu : SlV w u (b.map (Value.int .i64))) (ha : a.length ≤ 400) (hb : b.length ≤ 400) :
    CallsIn Fence.wide 0 Tryd.prog 8 #[v, u] w fun e w' => e = .returned (.int .i64 (tl a b : Int)) ∧ Chg No w w' := by
  obtain ⟨p, cp, rfl, hp1, hp2, hpc⟩ := id hv
  obtain ⟨q, cq, rfl, hq1, hq2, hqc⟩ := id hu
  have HT := tails_in _ _ a b w hv hu (by omega) (by omega)
  rw [List.length_map, List.length_map] at *
  have hl := tooLong_in p q a.length b.length cp cq w
  rw [decide_eq_false (by omega)] at hl
  clear hpc hqc hv hu
  refine callsIn_of_wp Tryd.func8 rfl trivial ?_
  simp only [Tryd.ntmps8, List.size_toArray, List.length_cons, List.length_nil, Nat.reduceAdd, Nat.reduceSub, Array.replicate_succ, Array.replicate_zero, List.push_toArray, List.append_toArray, List.nil_append, List.cons_append]
  gi_wp2_with fail
  refine ⟨trivial, rfl, hl.mono ?_⟩
  rintro e w1 ⟨rfl, rfl⟩
  gi_wp2_with fail
  refine ⟨trivial, rfl, HT.mono ?_⟩
  rintro e w2 ⟨G, R, rfl, hT, _, c⟩
  have h1 := hT.row (i := 0) (Nat.le_refl _) (Nat.zero_le _)
  have h2 := hT.num (i := 0) (j := 0) (Nat.le_refl _) (Nat.zero_le _) (Nat.zero_le _)
  rw [fillV_now (Nat.le_refl _), List.drop_zero, List.drop_zero] at h2
  gi_wp2
  go_ret
  exact ⟨rfl, c⟩

set_option maxHeartbeats 1000000 in
theorem length_long (p q : Option Addr) (n m c d : Nat) (h : 400 < n ∨ 400 < m) (w : World) : CallsIn Fence.wide 0 Tryd.prog 8 #[.slice p n c, .slice q m d] w fun e w' => e = .returned (.int .i64 0) ∧ w' = w := by
  have hl := tooLong_in p q n m c d w
  rw [decide_eq_true h] at hl
  clear h
  refine callsIn_of_wp Tryd.func8 rfl trivial ?_
  simp only [Tryd.ntmps8, List.size_toArray, List.length_cons, List.length_nil, Nat.reduceAdd, Nat.reduceSub, Array.replicate_succ, Array.replicate_zero, List.push_toArray, List.append_toArray, List.nil_append, List.cons_append]
  gi_wp2_with fail
  refine ⟨trivial, rfl, hl.mono ?_⟩
  rintro e w1 ⟨rfl, rfl⟩
  gi_wp2
  go_ret
  exact ⟨rfl, rfl⟩

end Go.Proofs.YtafaihbfhcpjiaaDoor.I
