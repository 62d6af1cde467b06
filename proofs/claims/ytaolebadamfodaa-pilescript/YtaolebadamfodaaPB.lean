/-
  Which of two items comes first.
-/
import Derived.Test.YtaolebadamfodaaPW
namespace Go.Proofs.Ytaolebadamfodaa
open Go.RowKit Go.Shelf Go.SeqLib Go.BigFrame Go.PileLib
attribute [local go_sem] Oper.semAt_some

set_option maxRecDepth 100000 in
set_option maxHeartbeats 4000000 in
theorem before_in {lf : Nat} {lt : Int → Int → Bool} (hl : Less lf lt) (B g n cap : Nat) (i j : Nat) (x1 k1 x2 k2 : Int) (w : World)
    (h0 : w.cell? ⟨B, 0, none⟩ = some (.func (.func lf) #[] #[])) (h1 : w.cell? ⟨B, 1, none⟩ = some (.slice (some ⟨g, 0, none⟩) n cap))
    (hi : i < n) (hj : j < n)
    (a1 : w.cell? ⟨g, i * 2, none⟩ = some (.int .i64 x1)) (a2 : w.cell? ⟨g, i * 2 + 1, none⟩ = some (.int .i64 k1))
    (b1 : w.cell? ⟨g, j * 2, none⟩ = some (.int .i64 x2)) (b2 : w.cell? ⟨g, j * 2 + 1, none⟩ = some (.int .i64 k2)) (r : Bool) (hr : Hid (bef lt (x1, k1) (x2, k2) = r)) :
    CallsIn Fence.wide 0 Try.prog 49 #[.pointer (some ⟨B, 0, none⟩), .int .i64 i, .int .i64 j] w fun e w' => e = .returned (.bool r) ∧ Chg (fun _ => False) w w' := by
  obtain ⟨hl, el⟩ := hl
  have hi' : (i : Int) < (n : Int) := by omega
  have hj' : (j : Int) < (n : Int) := by omega
  refine callsIn_of_wp Try.func49 rfl trivial ?_
  simp only [Try.ntmps49, List.size_toArray, List.length_cons, List.length_nil, Nat.reduceAdd, Nat.reduceSub, Array.replicate_succ, Array.replicate_zero, List.push_toArray, List.append_toArray, List.nil_append, List.cons_append]
  have hmix : Try.prog.follows .mixedOrders = true := by kernel_rfl
  have l1 : B < w.heap.size := World.block_lt_of_cell? w _ h0
  have l2 : g < w.heap.size := World.block_lt_of_cell? w _ a1
  have n1 : w.heap.size ≠ B := by omega
  have n2 : w.heap.size ≠ g := by omega
  have n3 : w.heap.size + 1 ≠ B := by omega
  have n4 : w.heap.size + 1 ≠ g := by omega
  gi_wp2
  gi_region_o
  all_goals gi_wp2
  all_goals refine wpIn_region_quiet_lit rfl (by assumption) (by kernel_rfl) ?_
  all_goals repeat (gi_big_quiet_step (fail))
  all_goals refine wpQuietIn_want (fun _ _ _ _ => trivial) rfl ?_
  all_goals intro K hK
  all_goals gi_big_quiet_op
  all_goals gi_big_quiet_call (exact ⟨rfl, (hl _ _ _).mono (by rintro e w'' ⟨rfl, rfl⟩; exact ⟨rfl, _, rfl⟩)⟩)
  all_goals repeat (gi_big_quiet_step (fail))
  all_goals refine wpQuietIn_want (fun _ _ _ _ => trivial) rfl ?_
  all_goals intro K hK
  all_goals gi_big_quiet_op
  all_goals gi_big_quiet_call (exact ⟨rfl, (hl _ _ _).mono (by rintro e w'' ⟨rfl, rfl⟩; exact ⟨rfl, _, rfl⟩)⟩)
  all_goals repeat (gi_big_quiet_step (fail))
  all_goals refine wpQuietIn_nil ?_
  all_goals rintro _ ⟨nq, rfl⟩
  all_goals have hr1 := hr.out
  all_goals unfold bef at hr1
  all_goals by_cases hq : lt x1 x2 = lt x2 x1
  all_goals first | rw [if_pos hq] at hr1 | rw [if_neg hq] at hr1
  all_goals have HR : Hid (r = _) := hr1.symm
  all_goals clear hr1 hr
  all_goals have hq' : (lt x1 x2 == lt x2 x1) = _ := (by first | exact beq_iff_eq.2 hq | exact beq_eq_false_iff_ne.2 hq)
  all_goals clear hq
  all_goals gi_wp2
  all_goals go_ret
  all_goals exact ⟨by rw [HR.out]; rfl, drewNC (((Chg.refl _ w).alloc _).alloc _) _⟩
end Go.Proofs.Ytaolebadamfodaa
