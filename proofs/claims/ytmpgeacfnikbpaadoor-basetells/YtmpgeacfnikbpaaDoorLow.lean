/-
  The statements' own Low: a number made small.
-/
import Derived.Test.YtmpgeacfnikbpaaDoorGTxt
namespace Go.Proofs.YtmpgeacfnikbpaaDoor
open Go.RowKit Go.Shelf Go.SeqLib
attribute [local go_sem] Oper.semAt_some

def lowI (x n : Int) : Int := wrap64 ((IntKind.u64.wrap x).tmod n)

set_option maxHeartbeats 1000000 in
theorem low_in (x n : Int) (h1 : 1 ≤ n) (h2 : n ≤ 1000000) (w : World) : CallsIn Fence.wide 0 Tryd.prog 9 #[.int .i64 x, .int .i64 n] w fun e w' => e = .returned (.int .i64 (lowI x n)) ∧ w' = w := by
  refine callsIn_of_wp Tryd.func9 rfl trivial ?_
  simp only [Tryd.ntmps9, List.size_toArray, List.length_cons, List.length_nil, Nat.reduceAdd, Nat.reduceSub, Array.replicate_succ, Array.replicate_zero, List.push_toArray, List.append_toArray, List.nil_append, List.cons_append]
  gi_wp2
  go_ret
  exact ⟨rfl, rfl⟩

theorem u64_range (x : Int) : 0 ≤ IntKind.u64.wrap x := by
  simp only [IntKind.wrap, IntKind.signed, IntKind.bits]
  simp
  omega

theorem lowI_range (x n : Int) (h1 : 1 ≤ n) (h2 : n ≤ 1000000) : 0 ≤ lowI x n ∧ lowI x n < n := by
  have h0 : 0 ≤ IntKind.u64.wrap x := by
    have := u64_range x
    exact this
  have h3 := Int.tmod_nonneg n h0
  have h4 := Int.tmod_lt_of_pos (IntKind.u64.wrap x) (show (0 : Int) < n by omega)
  have : lowI x n = (IntKind.u64.wrap x).tmod n := by unfold lowI wrap64; omega
  rw [this]; exact ⟨h3, h4⟩

end Go.Proofs.YtmpgeacfnikbpaaDoor
