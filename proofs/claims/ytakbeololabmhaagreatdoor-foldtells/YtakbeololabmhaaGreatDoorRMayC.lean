/-
  The document's own May of commits.
-/
import Derived.Test.YtakbeololabmhaaGreatDoorG04
import Derived.Test.YtakbeololabmhaaGreatDoorG07
import Derived.Test.YtakbeololabmhaaGreatDoorG06
import Derived.Sort.CutIn
import Derived.Sort.QuietThIn
import Derived.Shelf.RegionOpen
namespace Go.Proofs.YtakbeololabmhaaGreatDoor
open Go.RowKit Go.Shelf Go.SeqLib Go.DiffLib Go.TreeLib Go.RepoLib Go.BigFrame
attribute [local go_sem] Oper.semAt_some

theorem SlV.get1 {W : World} {p : Option Addr} {n cap : Nat} {vals : List Value} (h : SlV W (.slice p n cap) vals) {i : Nat} {x : Value} (hi : vals[i]? = some x) : ∃ b off, p = some ⟨b, off, none⟩ ∧ W.cell? ⟨b, off + i, none⟩ = some x := by
  obtain ⟨p0, c0, e, _, _, hc⟩ := h
  cases e
  exact hc i x hi

set_option maxRecDepth 100000 in
set_option maxHeartbeats 4000000 in
theorem refMayC_in (v : Value) (c : Cm) (D : Blk) (w : World) (hv : CmD D w v c) : CallsIn Fence.wide 0 Tryz.prog 44 #[v] w fun e w' => e = .returned (.bool (mayC c)) ∧ Chg No w w' := by
  have hmix : Tryz.prog.follows .mixedOrders = true := by kernel_rfl
  obtain ⟨p, n, k, q, m, l, rfl, h1, h2, _, _⟩ := hv
  obtain ⟨c1, c2, c3⟩ := c
  dsimp only at h1 h2 ⊢
  obtain rfl : n = c1.length := by obtain ⟨_, _, e, _⟩ := h1; cases e; simp
  have hcap : c1.length ≤ 9223372036854775807 := by obtain ⟨_, _, e, hl, hm, _⟩ := h1; rw [List.length_map] at hl; unfold maxLen at hm; omega
  obtain ⟨W1, hW1⟩ : ∃ W1, w.alloc (.cells #[.slice p c1.length k, .slice q m l, .string c3] 43) = W1 := ⟨_, rfl⟩
  have ca : Chg No w W1 := hW1 ▸ (Chg.refl _ w).alloc _
  have x0 : W1.heap[w.heap.size]? = some (.cells #[.slice p c1.length k, .slice q m l, .string c3] 43 (0, 0)) := hW1 ▸ World.alloc_heap_new w _
  have y0 : W1.cell? ⟨w.heap.size, 0, none⟩ = some (.slice p c1.length k) := by simp [World.cell?, x0]
  have y1 : W1.cell? ⟨w.heap.size, 1, none⟩ = some (.slice q m l) := by simp [World.cell?, x0]
  have y2 : W1.cell? ⟨w.heap.size, 2, none⟩ = some (.string c3) := by simp [World.cell?, x0]
  have g1 := h1.no ca
  have g2 := h2.no ca
  have hany := After.any W1
  have f0 : ∀ c : After W1, c.val.cell? ⟨w.heap.size, 0, none⟩ = some (.slice p c1.length k) := fun c => c.cell y0
  have f1 : ∀ c : After W1, c.val.cell? ⟨w.heap.size, 1, none⟩ = some (.slice q m l) := fun c => c.cell y1
  have f2 : ∀ c : After W1, c.val.cell? ⟨w.heap.size, 2, none⟩ = some (.string c3) := fun c => c.cell y2
  have M1 : ∀ c : After W1, CallsIn Fence.wide 0 Tryz.prog 51 #[.slice q m l] c.val fun e w' => e = .returned (.bool (mayB c2)) ∧ Chg No c.val w' := fun c => refMay_in _ c2 _ (g2.no c.chg)
  have HM : Hid (mayC (c1, c2, c3) = (mayB c2 && (decide (c1.length ≤ 2) && ((decide (c1.length < 2) || !decide (c1[0]? = c1[1]?)) && decide (c3.size ≤ 60))))) := rfl
  rw [HM.out]
  clear HM
  generalize mayB c2 = b2 at M1 ⊢
  refine callsIn_of_wp Tryz.func44 rfl trivial ?_
  simp only [Tryz.ntmps44, List.size_toArray, List.length_cons, List.length_nil, Nat.reduceAdd, Nat.reduceSub, Array.replicate_succ, Array.replicate_zero, List.push_toArray, List.append_toArray, List.nil_append, List.cons_append]
  cases b2 with
  | false =>
    rw [Bool.false_and]
    gi_wp2
    refine region_quietC hmix (by kernel_rfl) ?_
    repeat (gi_big_quiet_step (fail))
    refine wpQuietIn_want (fun _ _ _ _ => trivial) rfl ?_
    intro KQ hKQ
    gi_big_quiet_op
    gi_big_quiet_call (exact ⟨rfl, (M1 _).mono (by rintro e w'' ⟨rfl, c'⟩; exact ⟨rfl, After.more _ c'⟩)⟩)
    repeat (gi_big_quiet_step (fail))
    refine wpQuietIn_nil ?_
    rintro w' ⟨c, rfl⟩
    gi_wp2
    go_ret
    exact ⟨rfl, Chg.seq ca c.chg⟩
  | true =>
  rw [Bool.true_and]
  rcases c1 with _ | ⟨a, _ | ⟨b, _ | ⟨d, r⟩⟩⟩
  · simp only [List.length_nil] at f0 hW1 ca ⊢
    gi_wp2
    refine region_quietC hmix (by kernel_rfl) ?_
    repeat (gi_big_quiet_step (fail))
    refine wpQuietIn_want (fun _ _ _ _ => trivial) rfl ?_
    intro KQ hKQ
    gi_big_quiet_op
    gi_big_quiet_call (exact ⟨rfl, (M1 _).mono (by rintro e w'' ⟨rfl, c'⟩; exact ⟨rfl, After.more _ c'⟩)⟩)
    repeat (gi_big_quiet_step (fail))
    refine wpQuietIn_nil ?_
    rintro w' ⟨c, rfl⟩
    gi_wp2
    go_ret
    refine ⟨?_, Chg.seq ca c.chg⟩
    show Ending.returned (.bool (decide (((c3.size : Nat) : Int) ≤ 60))) = _
    rw [show decide (((c3.size : Nat) : Int) ≤ 60) = decide (c3.size ≤ 60) from by rw [decide_eq_decide]; omega]
    rfl
  · simp only [List.length_nil, List.length_cons, Nat.zero_add] at f0 hW1 ca ⊢
    gi_wp2
    refine region_quietC hmix (by kernel_rfl) ?_
    repeat (gi_big_quiet_step (fail))
    refine wpQuietIn_want (fun _ _ _ _ => trivial) rfl ?_
    intro KQ hKQ
    gi_big_quiet_op
    gi_big_quiet_call (exact ⟨rfl, (M1 _).mono (by rintro e w'' ⟨rfl, c'⟩; exact ⟨rfl, After.more _ c'⟩)⟩)
    repeat (gi_big_quiet_step (fail))
    refine wpQuietIn_nil ?_
    rintro w' ⟨c, rfl⟩
    gi_wp2
    go_ret
    refine ⟨?_, Chg.seq ca c.chg⟩
    show Ending.returned (.bool (decide (((c3.size : Nat) : Int) ≤ 60))) = _
    rw [show decide (((c3.size : Nat) : Int) ≤ 60) = decide (c3.size ≤ 60) from by rw [decide_eq_decide]; omega]
    rfl
  · simp only [List.length_nil, List.length_cons, Nat.zero_add, Nat.reduceAdd] at f0 hW1 ca ⊢
    obtain ⟨bp, op, rfl, hc0⟩ := g1.get1 (i := 0) (x := iv a) rfl
    obtain ⟨_, _, e1, hc1⟩ := g1.get1 (i := 1) (x := iv b) rfl
    cases e1
    have k0 : ∀ c : After W1, c.val.cell? ⟨bp, op, none⟩ = some (iv a) := fun c => c.cell hc0
    have k1 : ∀ c : After W1, c.val.cell? ⟨bp, op + 1, none⟩ = some (iv b) := fun c => c.cell hc1
    by_cases hab : a = b
    · subst hab
      have hbb : ([a, a] : List Int)[0]? = [a, a][1]? := rfl
      have hb : (a != a) = false := by simp
      gi_wp2
      refine region_quietC hmix (by kernel_rfl) ?_
      repeat (gi_big_quiet_step (fail))
      refine wpQuietIn_want (fun _ _ _ _ => trivial) rfl ?_
      intro KQ hKQ
      gi_big_quiet_op
      gi_big_quiet_call (exact ⟨rfl, (M1 _).mono (by rintro e w'' ⟨rfl, c'⟩; exact ⟨rfl, After.more _ c'⟩)⟩)
      repeat (gi_big_quiet_step (fail))
      refine wpQuietIn_nil ?_
      rintro w' ⟨c, rfl⟩
      gi_wp2
      go_ret
      refine ⟨?_, Chg.seq ca c.chg⟩
      rw [decide_eq_true hbb]
      rfl
    · have hb : (a != b) = true := by rw [bne_iff_ne]; exact hab
      have hbb : ¬ ([a, b] : List Int)[0]? = [a, b][1]? := fun e => hab (Option.some.inj e)
      clear hab
      gi_wp2
      refine region_quietC hmix (by kernel_rfl) ?_
      repeat (gi_big_quiet_step (fail))
      refine wpQuietIn_want (fun _ _ _ _ => trivial) rfl ?_
      intro KQ hKQ
      gi_big_quiet_op
      gi_big_quiet_call (exact ⟨rfl, (M1 _).mono (by rintro e w'' ⟨rfl, c'⟩; exact ⟨rfl, After.more _ c'⟩)⟩)
      repeat (gi_big_quiet_step (fail))
      refine wpQuietIn_nil ?_
      rintro w' ⟨c, rfl⟩
      gi_wp2
      go_ret
      refine ⟨?_, Chg.seq ca c.chg⟩
      rw [decide_eq_false hbb]
      show Ending.returned (.bool (decide (((c3.size : Nat) : Int) ≤ 60))) = _
      rw [show decide (((c3.size : Nat) : Int) ≤ 60) = decide (c3.size ≤ 60) from by rw [decide_eq_decide]; omega]
      rfl
  · obtain ⟨z, hz⟩ : ∃ z, (a :: b :: d :: r).length = z := ⟨_, rfl⟩
    have hz3 : 3 ≤ z := by rw [← hz]; simp
    have hd : decide ((z : Int) ≤ 2) = false := decide_eq_false (by omega)
    have hd2 : decide (z ≤ 2) = false := decide_eq_false (by omega)
    rw [hz] at hcap
    simp only [hz] at f0 hW1 ca ⊢
    gi_wp2
    refine region_quietC hmix (by kernel_rfl) ?_
    repeat (gi_big_quiet_step (fail))
    refine wpQuietIn_want (fun _ _ _ _ => trivial) rfl ?_
    intro KQ hKQ
    gi_big_quiet_op
    gi_big_quiet_call (exact ⟨rfl, (M1 _).mono (by rintro e w'' ⟨rfl, c'⟩; exact ⟨rfl, After.more _ c'⟩)⟩)
    repeat (gi_big_quiet_step (fail))
    refine wpQuietIn_nil ?_
    rintro w' ⟨c, rfl⟩
    gi_wp2
    go_ret
    refine ⟨?_, Chg.seq ca c.chg⟩
    rw [hd2]
    rfl

end Go.Proofs.YtakbeololabmhaaGreatDoor
