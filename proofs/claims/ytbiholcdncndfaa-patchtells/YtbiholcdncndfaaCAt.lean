/-
  patch's own at and with: what a list has at a path; the list behind a change that fits.
-/
import Derived.Test.YtbiholcdncndfaaCSl
import Derived.Test.YtbiholcdncndfaaFGet
import Derived.Test.YtbiholcdncndfaaFPut
namespace Go.Proofs.Ytbiholcdncndfaa
open Go.RowKit Go.Shelf Go.SeqLib Go.DiffLib Go.TreeLib
attribute [local go_sem] Oper.semAt_some

theorem results_cell1 {fn : Func} {p : Tmp} {t : TypeId} (h : fn.results = #[.cell p t]) (tmps : Array Value) (P : Program) (w : World) :
    (results fn tmps).run P w = ((asAddr (tmps.getD p undef)).run P w).andThen fun a w₁ => (loadVar t a).run P w₁ := by
  simp only [results, h]
  simp [Sem.run_bind, Result.andThen]

theorem atP_get (zs : List Fl) (p : ByteArray) : atP zs p = ((TreeLib.get zs p).isSome, getD zs p) := rfl

set_option maxRecDepth 100000 in
set_option maxHeartbeats 1000000 in
theorem at_in (v : Value) (zs : List Fl) (p : ByteArray) (w : World) (hv : SlF w v zs) : CallsIn Fence.wide 0 Try.prog 16 #[v, .string p] w fun e w' =>
    e = .returned (.agg #[.bool (atP zs p).1, .string (atP zs p).2]) ∧ Chg No w w' := by
  have hv0 : SlF (w.alloc (.cells #[.bool false, .string ⟨#[]⟩] 45)) v zs := hv.no ((Chg.refl _ w).alloc _)
  have c0 : Chg No w (w.alloc (.cells #[.bool false, .string ⟨#[]⟩] 45)) := (Chg.refl _ w).alloc _
  have G := get_in v zs p _ hv0
  rw [atP_get]
  generalize getD zs p = gs at G ⊢
  generalize (TreeLib.get zs p).isSome = gb at G ⊢
  have hb0 : (w.alloc (.cells #[.bool false, .string ⟨#[]⟩] 45)).heap[w.heap.size]? = some (.cells #[.bool false, .string ⟨#[]⟩] 45 (0, 0)) := World.alloc_heap_new w _
  refine callsIn_of_wp Try.func16 rfl trivial ?_
  simp only [Try.ntmps16, List.size_toArray, List.length_cons, List.length_nil, Nat.reduceAdd, Nat.reduceSub, Array.replicate_succ, Array.replicate_zero, List.push_toArray, List.append_toArray, List.nil_append, List.cons_append]
  gi_wp2_with fail
  refine ⟨trivial, rfl, G.mono ?_⟩
  rintro e w1 ⟨rfl, c1⟩
  have hb1 : w1.heap[w.heap.size]? = some (.cells #[.bool false, .string ⟨#[]⟩] 45 (0, 0)) := c1.same hb0 (fun h => h)
  have k1 : w1.cell? ⟨w.heap.size, 0, none⟩ = some (.bool false) := by simp [World.cell?, hb1]
  have k2 : w1.cell? ⟨w.heap.size, 1, none⟩ = some (.string ⟨#[]⟩) := by simp [World.cell?, hb1]
  have f1 : w1.frozen? ⟨w.heap.size, 0, none⟩ = false := by simp [World.frozen?, hb1]
  have f2 : w1.frozen? ⟨w.heap.size, 1, none⟩ = false := by simp [World.frozen?, hb1]
  clear hb0 hb1 G hv0
  gi_wp2
  refine bodyPost_ret (v := .agg #[.bool gb, .string gs]) ?_ rfl ⟨rfl, ((Chg.seq c0 c1).setCell (p := ⟨w.heap.size, 0, none⟩) (.inr (Nat.le_refl _)) _).setCell (p := ⟨w.heap.size, 1, none⟩) (.inr (Nat.le_refl _)) _⟩
  rw [results_cell1 rfl]
  go_simp

set_option maxRecDepth 100000 in
set_option maxHeartbeats 1000000 in
theorem with_in (v : Value) (zs : List Fl) (c : Chn) (hlen : zs.length ≤ 50000) (w : World) (hv : SlF w v zs) : CallsIn Fence.wide 0 Try.prog 17 #[v, vC c] w fun e w' =>
    ∃ v', e = .returned v' ∧ OwnF w' w.heap.size v' (withP zs c) ∧ Chg No w w' := by
  obtain ⟨p, b1, b2, o, n⟩ := c
  have c0 : Chg No w (w.alloc (.cells #[.string p, .bool b1, .bool b2, .string o, .string n] 30)) := (Chg.refl _ w).alloc _
  have hv0 := hv.no c0
  have hsz := c0.size
  refine callsIn_of_wp Try.func17 rfl trivial ?_
  simp only [Try.ntmps17, List.size_toArray, List.length_cons, List.length_nil, Nat.reduceAdd, Nat.reduceSub, Array.replicate_succ, Array.replicate_zero, List.push_toArray, List.append_toArray, List.nil_append, List.cons_append]
  cases b2 with
  | true =>
    have G := put_in v zs p n hlen _ hv0
    gi_wp2_with fail
    refine ⟨trivial, rfl, G.mono ?_⟩
    rintro e w1 ⟨v1, rfl, r1, c1⟩
    gi_wp2
    go_ret
    exact ⟨v1, rfl, r1.base hsz, Chg.seq c0 c1⟩
  | false =>
    have G := drop_in v zs p (by omega) _ hv0
    gi_wp2_with fail
    refine ⟨trivial, rfl, G.mono ?_⟩
    rintro e w1 ⟨v1, rfl, r1, c1⟩
    gi_wp2
    go_ret
    exact ⟨v1, rfl, r1.base hsz, Chg.seq c0 c1⟩

end Go.Proofs.Ytbiholcdncndfaa
