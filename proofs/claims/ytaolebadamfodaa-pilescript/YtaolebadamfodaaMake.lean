/-
  The calls of package seq that make a sequence: what they hand back, and where it lies.
-/
import Derived.Test.YtaolebadamfodaaCons
namespace Go.Proofs.Ytaolebadamfodaa
open Go.RowKit Go.Shelf Go.SeqLib
attribute [local go_sem] Oper.semAt_some

section
variable {P : Program} {t e : TypeId}
theorem run_equalIn_slice_nil (h : P.underlying t = some (.slice e)) (d : Nat) (p : Option Addr) (n c : Nat) (w : World) :
    (Op.equalIn (d + 1) t (.slice p n c) (.slice none 0 0)).run P w = .ok p.isNone w := by
  cases p <;> simp [Op.equalIn, run_underlying h]
/-- A slice that is there is not nil. -/
theorem run_eql_slice_nil' (h : P.underlying t = some (.slice e)) (p : Option Addr) (n c : Nat) (w : World) :
    (binOp .eql t (.slice p n c) (.slice none 0 0)).run P w = .ok (.bool p.isNone) w := by
  simp only [binOp]
  simp [Op.equal, Op.maxDepth, run_equalIn_slice_nil h 9999]
end
theorem row_slice {W : World} {b : Nat} {e : TypeId} {s : Nat} {v : Value} {n : Nat} {xs : List Value} (h : W.ownsRow b e s v n xs) : ∃ p c, v = .slice p n c := by
  rcases h.2 with ⟨rfl, rfl⟩ | ⟨g, cap, cur, rfl, _⟩
  · exact ⟨_, _, rfl⟩
  · exact ⟨_, _, rfl⟩

set_option maxHeartbeats 1000000 in
theorem filter_in (gs : Nat) (lbs : Array Value) (ff : Nat) (capf : Array Value) (w : World) : CallsIn Fence.wide 0 Try.prog 44 #[.func (.func gs) #[] lbs, .func (.func ff) #[] capf] w fun e w' =>
    e = .returned (.func (.func 51) #[] #[.pointer (some ⟨w.heap.size, 0, none⟩), .pointer (some ⟨w.heap.size + 1, 0, none⟩)]) ∧ w' = (w.alloc (.cells #[.func (.func gs) #[] lbs] 51)).alloc (.cells #[.func (.func ff) #[] capf] 59) := by
  have hnil := fun w => run_eql_func_nil Try.underlying51 (.func gs) #[] lbs w
  have hnil2 := fun w => run_eql_func_nil Try.underlying59 (.func ff) #[] capf w
  have hc1 := ((Boxed.new w 51 (.func (.func gs) #[] lbs)).alloc (.cells #[.func (.func ff) #[] capf] 59)).cell
  refine callsIn_of_wp Try.func44 rfl trivial ?_
  simp only [Try.ntmps44, List.size_toArray, List.length_cons, List.length_nil, Nat.reduceAdd, Nat.reduceSub, Array.replicate_succ, Array.replicate_zero, List.push_toArray, List.append_toArray, List.nil_append, List.cons_append]
  gi_wp2
  go_ret
  exact ⟨rfl, rfl⟩

end Go.Proofs.Ytaolebadamfodaa
