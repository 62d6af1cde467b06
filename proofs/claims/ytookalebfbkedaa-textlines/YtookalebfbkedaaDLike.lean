/-
  diff's own like, at texts: it answers whether both are alike, and changes nothing.
-/
import Derived.Test.YtookalebfbkedaaTxt
import Derived.Test.YtookalebfbkedaaChecked
import Derived.RecoverIn
namespace Go.Proofs.Ytookalebfbkedaa
open Go.RowKit Go.Shelf Go.SeqLib
attribute [local go_sem] Oper.semAt_some

theorem likeD_in (w : World) :
    CallsDIn Fence.wide 0 Try.prog 64 #[] .returning w fun e u' w' => e = .returned (.tuple #[]) ∧ u' = .returning ∧ w' = w := by
  refine callsDIn_of_wpSIn Try.func64 rfl trivial fun c₀ cs hu => ?_
  apply wpSIn_region
  cases c₀
  simp_all [wpOpsSIn, go_sem, recoverD, Try.ntmps64, bodyPostS, results, Try.results64]

theorem like_in (x y : ByteArray) (w : World) :
    CallsIn Fence.wide 0 Try.prog 55 #[.string x, .string y] w fun e w' => e = .returned (.bool (decide (x = y))) ∧ w' = w := by
  have hb : Hid ((x.toList == y.toList) = decide (x = y)) := by
    show _ = _
    by_cases h : x = y
    · subst h; simp
    · rw [decide_eq_false h, beq_eq_false_iff_ne]; exact fun e => h (text_ext e)
  refine callsIn_of_wp_defers Try.func55 rfl trivial ?_
  simp only [Try.ntmps55, List.size_toArray, List.length_cons, List.length_nil, Nat.reduceAdd, Nat.reduceSub, Array.replicate_succ, Array.replicate_zero, List.push_toArray, List.append_toArray, List.nil_append, List.cons_append]
  gi_wp2
  refine leavesIn_cons (f := 64) (args := #[]) (by simp) (by simp [Fence.wide]) (by simp [go_sem]) (by simp [Target.leads]; try trivial) ?_
  refine (likeD_in _).mono ?_
  rintro e u' w'' ⟨rfl, rfl, rfl⟩
  simp [LeavesIn, settle, results, Try.results55, go_sem, hb.out]

end Go.Proofs.Ytookalebfbkedaa
