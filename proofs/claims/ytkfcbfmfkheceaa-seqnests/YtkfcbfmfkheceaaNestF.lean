/-
  The functions that SeqNests hands in.
-/
import Derived.Test.YtkfcbfmfkheceaaJoins
namespace Go.Proofs.Ytkfcbfmfkheceaa
open Go.RowKit Go.Shelf Go.SeqLib
attribute [local go_sem] Oper.semAt_some

set_option maxHeartbeats 1000000 in
theorem up_in (a : Int) (w : World) : CallsIn Fence.wide 0 Try.prog 24 #[.int .i64 a] w fun e w' => e = .returned (.int .i64 (wrap64 (a + 3))) ∧ w' = w := by
  refine callsIn_of_wp Try.func24 rfl trivial ?_
  simp only [Try.ntmps24, List.size_toArray, List.length_cons, List.length_nil, Nat.reduceAdd, Nat.reduceSub, Array.replicate_succ, Array.replicate_zero, List.push_toArray, List.append_toArray, List.nil_append, List.cons_append]
  gi_wp2
  go_ret
  exact ⟨rfl, rfl⟩

set_option maxHeartbeats 1000000 in
theorem times_in (a : Int) (w : World) : CallsIn Fence.wide 0 Try.prog 25 #[.int .i64 a] w fun e w' => e = .returned (.int .i64 (wrap64 (a * 5))) ∧ w' = w := by
  refine callsIn_of_wp Try.func25 rfl trivial ?_
  simp only [Try.ntmps25, List.size_toArray, List.length_cons, List.length_nil, Nat.reduceAdd, Nat.reduceSub, Array.replicate_succ, Array.replicate_zero, List.push_toArray, List.append_toArray, List.nil_append, List.cons_append]
  gi_wp2
  go_ret
  exact ⟨rfl, rfl⟩

set_option maxHeartbeats 1000000 in
theorem third_in (a : Int) (w : World) : CallsIn Fence.wide 0 Try.prog 27 #[.int .i64 a] w fun e w' => e = .returned (.bool (a.tmod 3 == 0)) ∧ w' = w := by
  refine callsIn_of_wp Try.func27 rfl trivial ?_
  simp only [Try.ntmps27, List.size_toArray, List.length_cons, List.length_nil, Nat.reduceAdd, Nat.reduceSub, Array.replicate_succ, Array.replicate_zero, List.push_toArray, List.append_toArray, List.nil_append, List.cons_append]
  gi_wp2
  go_ret
  exact ⟨rfl, rfl⟩

def upF (a : Int) : Int := wrap64 (a + 3)
def timesF (a : Int) : Int := wrap64 (a * 5)
def thirdB (a : Int) : Bool := a.tmod 3 == 0

/-- A token: which call comes next. -/
def Tok (_ : Nat) : Prop := True

theorem up_fun (W : World) : PFun W 24 #[] (fun x => .int .i64 (upF x)) No := pfun_plain up_in (enters_of Try.func24 (by kernel_rfl) rfl) W
theorem times_fun (W : World) : PFun W 25 #[] (fun x => .int .i64 (timesF x)) No := pfun_plain times_in (enters_of Try.func25 (by kernel_rfl) rfl) W
theorem third_fun (W : World) : PFun W 27 #[] (fun x => .bool (thirdB x)) No := pfun_plain third_in (enters_of Try.func27 (by kernel_rfl) rfl) W

set_option maxRecDepth 100000 in
set_option maxHeartbeats 2000000 in
theorem both_in (B1 B2 : Nat) (x : Int) (W : World) (b1 : Boxed W B1 40 (.func (.func 25) #[] #[])) (b2 : Boxed W B2 40 (.func (.func 24) #[] #[])) :
    CallsIn Fence.wide 0 Try.prog 26 #[.int .i64 x, .pointer (some ⟨B1, 0, none⟩), .pointer (some ⟨B2, 0, none⟩)] W fun e W' => e = .returned (.int .i64 (timesF (upF x))) ∧ Chg No W W' := by
  have hmix : Try.prog.follows .mixedOrders = true := by kernel_rfl
  have hc1 := (show Boxed W.drew B1 40 (.func (.func 25) #[] #[]) from b1).cell
  have hc2 := (show Boxed W.drew B2 40 (.func (.func 24) #[] #[]) from b2).cell
  have e24 := enters_of (P := Try.prog) Try.func24 (by kernel_rfl) rfl
  have e25 := enters_of (P := Try.prog) Try.func25 (by kernel_rfl) rfl
  have T1 : Tok 1 := trivial
  refine callsIn_of_wp Try.func26 rfl trivial ?_
  simp only [Try.ntmps26, List.size_toArray, List.length_cons, List.length_nil, Nat.reduceAdd, Nat.reduceSub, Array.replicate_succ, Array.replicate_zero, List.push_toArray, List.append_toArray, List.nil_append, List.cons_append]
  gi_wp2
  gi_region_with_o (first
    | (revert T1; intro T0; clear T0; refine ⟨trivial, rfl, (up_in x _).mono ?_⟩; rintro e w1 ⟨rfl, rfl⟩; have T2 : Tok 2 := trivial)
    | (revert T2; intro T0; clear T0; refine ⟨trivial, rfl, (times_in _ _).mono ?_⟩; rintro e w1 ⟨rfl, rfl⟩))
  all_goals gi_wp2
  all_goals go_ret
  all_goals exact ⟨rfl, (Chg.refl _ W).drew⟩

theorem both_fun (B1 B2 : Nat) (W : World) (b1 : Boxed W B1 40 (.func (.func 25) #[] #[])) (b2 : Boxed W B2 40 (.func (.func 24) #[] #[])) :
    PFun W 26 #[.pointer (some ⟨B1, 0, none⟩), .pointer (some ⟨B2, 0, none⟩)] (fun x => .int .i64 (timesF (upF x))) (fun k => k = B1 ∨ k = B2) := by
  refine ⟨fun W => Boxed W B1 40 (.func (.func 25) #[] #[]) ∧ Boxed W B2 40 (.func (.func 24) #[] #[]), ⟨?_, ?_, ?_⟩, ⟨b1, b2⟩, ?_, enters_of Try.func26 (by kernel_rfl) rfl⟩
  · rintro k W ⟨b1, b2⟩ b (rfl | rfl)
    · exact b1.lt
    · exact b2.lt
  · rintro k W W' ⟨b1, b2⟩ _ hk
    exact ⟨(hk _ (.inl rfl)).trans b1, (hk _ (.inr rfl)).trans b2⟩
  · rintro k x W ⟨b1, b2⟩
    refine (both_in B1 B2 x W b1 b2).mono ?_
    rintro e W' ⟨rfl, c⟩
    exact ⟨rfl, ⟨c.boxed b1 (fun h => h), c.boxed b2 (fun h => h)⟩, c.mono (fun _ h => h.elim)⟩
  · rintro W W' ⟨a1, a2⟩ ⟨d1, d2⟩ k (rfl | rfl)
    · exact (show W'.heap[k]? = _ from d1).trans (show W.heap[k]? = _ from a1).symm
    · exact (show W'.heap[k]? = _ from d2).trans (show W.heap[k]? = _ from a2).symm

set_option maxRecDepth 100000 in
set_option maxHeartbeats 2000000 in
theorem pass_in (B : Nat) (x : Int) (W : World) (b : Boxed W B 42 (.func (.func 27) #[] #[])) :
    CallsIn Fence.wide 0 Try.prog 29 #[.int .i64 x, .pointer (some ⟨B, 0, none⟩)] W fun e W' => e = .returned (.bool (evenB x && thirdB x)) ∧ Chg No W W' := by
  have hc1 := b.cell
  have e27 := enters_of (P := Try.prog) Try.func27 (by kernel_rfl) rfl
  refine callsIn_of_wp Try.func29 rfl trivial ?_
  simp only [Try.ntmps29, List.size_toArray, List.length_cons, List.length_nil, Nat.reduceAdd, Nat.reduceSub, Array.replicate_succ, Array.replicate_zero, List.push_toArray, List.append_toArray, List.nil_append, List.cons_append]
  gi_wp2_with fail
  refine ⟨trivial, rfl, (even_in x _).mono ?_⟩
  rintro e w1 ⟨rfl, rfl⟩
  cases hE : evenB x
  · gi_wp2
    try (refine ⟨fun _ h => (by cases h), ?_⟩; gi_wp2)
    go_ret
    exact ⟨by simp [hE], Chg.refl _ _⟩
  · gi_wp2_with fail
    refine ⟨trivial, rfl, (third_in x _).mono ?_⟩
    rintro e w1 ⟨rfl, rfl⟩
    gi_wp2
    go_ret
    exact ⟨by simp [thirdB, hE], Chg.refl _ _⟩

theorem pass_fun (B : Nat) (W : World) (b : Boxed W B 42 (.func (.func 27) #[] #[])) :
    PFun W 29 #[.pointer (some ⟨B, 0, none⟩)] (fun x => .bool (evenB x && thirdB x)) (fun k => k = B) := by
  refine ⟨fun W => Boxed W B 42 (.func (.func 27) #[] #[]), ⟨?_, ?_, ?_⟩, b, ?_, enters_of Try.func29 (by kernel_rfl) rfl⟩
  · rintro k W b1 b rfl
    exact b1.lt
  · rintro k W W' b1 _ hk
    exact (hk _ rfl).trans b1
  · rintro k x W b1
    refine (pass_in B x W b1).mono ?_
    rintro e W' ⟨rfl, c⟩
    exact ⟨rfl, c.boxed b1 (fun h => h), c.mono (fun _ h => h.elim)⟩
  · rintro W W' a1 d1 k rfl
    exact (show W'.heap[k]? = _ from d1).trans (show W.heap[k]? = _ from a1).symm

end Go.Proofs.Ytkfcbfmfkheceaa
