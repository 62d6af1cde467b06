/-
  What a list has at a path: as one value, and two of them compared.
-/
import Derived.Test.YtndblaemladppaaGFile
import Derived.Test.YtndblaemladppaaGPure
namespace Go.Proofs.Ytndblaemladppaa
open Go.RowKit Go.Shelf Go.SeqLib Go.DiffLib Go.TreeLib

theorem two_of {α : Type} {l : List α} (h : l.length = 2) : ∃ a b, l = [a, b] := by
  match l, h with
  | [a, b], _ => exact ⟨a, b, rfl⟩
/-! ### What a tree has at a path, compared -/
theorem guard_at : Try.prog.eqGuardType Try.prog.depth 45 = false := by kernel_rfl
theorem run_equalIn_at (x y : Bool × ByteArray) (w : World) : (Op.equalIn 10000 45 (.agg #[.bool x.1, .string x.2]) (.agg #[.bool y.1, .string y.2])).run Try.prog w = .ok (decide (x = y)) w := by
  have hbeq : (x.1 == y.1 && x.2.toList == y.2.toList) = decide (x = y) := by
    by_cases h : x = y
    · subst h; simp
    · rw [decide_eq_false h]
      cases hb : (x.1 == y.1 && x.2.toList == y.2.toList) with
      | false => rfl
      | true =>
        exfalso
        simp only [Bool.and_eq_true, beq_iff_eq] at hb
        exact h (Prod.ext hb.1 (toList_inj hb.2))
  have h2 : Try.prog.underlying 9 = some .string := by kernel_rfl
  have h3 : Try.prog.underlying 4 = some .bool := by kernel_rfl
  have he : ∀ (a b : ByteArray) (w : World), (Op.equalIn 9999 9 (.string a) (.string b)).run Try.prog w = .ok (a.toList == b.toList) w := fun a b w => by
    exact run_equalIn_string w 9998 _ a b h2
  have hb : ∀ (a b : Bool) (w : World), (Op.equalIn 9999 4 (.bool a) (.bool b)).run Try.prog w = .ok (a == b) w := fun a b w => by
    exact run_equalIn_bool w 9998 _ a b h3
  have hp : Try.prog.stoodInHeld 45 = false := by kernel_rfl
  have hu : Try.prog.underlying 45 = some (.struct (Try.prog.fieldsOf 45)) := by kernel_rfl
  have hf : ((Try.prog.fieldsOf 45).toList.map fun f => (f.name == "_", f.type, f.offset)) = [(false, 4, 0), (false, 9, 1)] := by kernel_rfl
  rw [← hbeq, run_equalIn_agg w 9999 _ _ _ hu hp]
  generalize (Try.prog.fieldsOf 45).toList = l at hf
  obtain ⟨f1, f2, rfl⟩ := two_of (by have := congrArg List.length hf; simpa using this)
  simp at hf
  obtain ⟨⟨n1, t1, o1⟩, ⟨n2, t2, o2⟩⟩ := hf
  have hpart : ∀ (xs : Array Value) (off : Nat) (v : Value) (w : World), xs[off]? = some v → (part 9 xs off).run Try.prog w = .ok v w := fun xs off v w h => run_part_plain w (by kernel_rfl) h
  have hpartb : ∀ (xs : Array Value) (off : Nat) (v : Value) (w : World), xs[off]? = some v → (part 4 xs off).run Try.prog w = .ok v w := fun xs off v w h => run_part_plain w (by kernel_rfl) h
  simp [Op.eqFields, n1, n2, t1, t2, o1, o2, hpart, hpartb, he, hb]
  by_cases e1 : x.1 = y.1
  · simp [e1]
    by_cases e2 : x.2.toList = y.2.toList
    · simp [e2]
    · simp [e2]
  · simp [e1]
theorem run_neq_at (x y : Bool × ByteArray) (w : World) : (binOp .neq 45 (.agg #[.bool x.1, .string x.2]) (.agg #[.bool y.1, .string y.2])).run Try.prog w = .ok (.bool (!decide (x = y))) w := by
  rw [run_neq_struct, run_equalIn_at]
  rfl
theorem run_eql_at (x y : Bool × ByteArray) (w : World) : (binOp .eql 45 (.agg #[.bool x.1, .string x.2]) (.agg #[.bool y.1, .string y.2])).run Try.prog w = .ok (.bool (decide (x = y))) w := by
  rw [run_eql_struct, run_equalIn_at]
  rfl

attribute [local go_sem] Oper.semAt_some

theorem atP_get (zs : List Fl) (p : ByteArray) : atP zs p = ((TreeLib.get zs p).isSome, getD zs p) := rfl

set_option maxRecDepth 100000 in
set_option maxHeartbeats 1000000 in
theorem at_in (v : Value) (zs : List Fl) (p : ByteArray) (w : World) (hv : SlF w v zs) : CallsIn Fence.wide 0 Try.prog 16 #[v, .string p] w fun e w' =>
    e = .returned (.agg #[.bool (atP zs p).1, .string (atP zs p).2]) ∧ Chg No w w' := by
  have hv0 : SlF (w.alloc (.cells #[.bool false, .string ⟨#[]⟩] 45)) v zs := hv.no ((Chg.refl _ w).alloc _)
  have c0 : Chg No w (w.alloc (.cells #[.bool false, .string ⟨#[]⟩] 45)) := (Chg.refl _ w).alloc _
  have G := get_in v zs p _ hv0
  rw [atP_get]
  generalize getD zs p = gs at G ⊢
  generalize (TreeLib.get zs p).isSome = gb at G ⊢
  have hb0 : (w.alloc (.cells #[.bool false, .string ⟨#[]⟩] 45)).heap[w.heap.size]? = some (.cells #[.bool false, .string ⟨#[]⟩] 45 (0, 0)) := World.alloc_heap_new w _
  refine callsIn_of_wp Try.func16 rfl trivial ?_
  simp only [Try.ntmps16, List.size_toArray, List.length_cons, List.length_nil, Nat.reduceAdd, Nat.reduceSub, Array.replicate_succ, Array.replicate_zero, List.push_toArray, List.append_toArray, List.nil_append, List.cons_append]
  gi_wp2_with fail
  refine ⟨trivial, rfl, G.mono ?_⟩
  rintro e w1 ⟨rfl, c1⟩
  have hb1 : w1.heap[w.heap.size]? = some (.cells #[.bool false, .string ⟨#[]⟩] 45 (0, 0)) := c1.same hb0 (fun h => h)
  have k1 : w1.cell? ⟨w.heap.size, 0, none⟩ = some (.bool false) := by simp [World.cell?, hb1]
  have k2 : w1.cell? ⟨w.heap.size, 1, none⟩ = some (.string ⟨#[]⟩) := by simp [World.cell?, hb1]
  have f1 : w1.frozen? ⟨w.heap.size, 0, none⟩ = false := by simp [World.frozen?, hb1]
  have f2 : w1.frozen? ⟨w.heap.size, 1, none⟩ = false := by simp [World.frozen?, hb1]
  clear hb0 hb1 G hv0
  gi_wp2
  refine bodyPost_ret (v := .agg #[.bool gb, .string gs]) ?_ rfl ⟨rfl, ((Chg.seq c0 c1).setCell (p := ⟨w.heap.size, 0, none⟩) (.inr (Nat.le_refl _)) _).setCell (p := ⟨w.heap.size, 1, none⟩) (.inr (Nat.le_refl _)) _⟩
  rw [results_cell1 rfl]
  go_simp

end Go.Proofs.Ytndblaemladppaa
