/-
  Which of two items comes first.
-/
import Derived.Test.YtaolebadamfodaaTPW
import Derived.Deep.RegionHeld3
import Derived.Laws.EntriesVeiled
namespace Go.Proofs.Ytaolebadamfodaa.T
open Go.RowKit Go.Shelf Go.SeqLib Go.BigFrame Go.PileLib
attribute [local go_sem] Oper.semAt_some

theorem Chg.cell {S : Blk} {w w' : World} (h : Chg S w w') {a : Addr} {v : Value} (hc : w.cell? a = some v) (hn : ¬ S a.block) : w'.cell? a = some v :=
  (World.cell?_of_block (h.block a.block (World.block_lt_of_cell? w a hc) hn)).trans hc

set_option maxRecDepth 100000 in
set_option maxHeartbeats 4000000 in
theorem before_in {lf : Nat} {lt : Int × Int → Int × Int → Bool} (hl : Less lf lt) (B g n cap : Nat) (i j : Nat) (x1 y1 k1 x2 y2 k2 : Int) (w : World)
    (h0 : w.cell? ⟨B, 0, none⟩ = some (.func (.func lf) #[] #[])) (h1 : w.cell? ⟨B, 1, none⟩ = some (.slice (some ⟨g, 0, none⟩) n cap))
    (hi : i < n) (hj : j < n)
    (a1 : w.cell? ⟨g, i * 3, none⟩ = some (.int .i64 x1)) (a2 : w.cell? ⟨g, i * 3 + 1, none⟩ = some (.int .i64 y1)) (a3 : w.cell? ⟨g, i * 3 + 2, none⟩ = some (.int .i64 k1))
    (b1 : w.cell? ⟨g, j * 3, none⟩ = some (.int .i64 x2)) (b2 : w.cell? ⟨g, j * 3 + 1, none⟩ = some (.int .i64 y2)) (b3 : w.cell? ⟨g, j * 3 + 2, none⟩ = some (.int .i64 k2)) (r : Bool) (hr : Hid (bef lt ((x1, y1), k1) ((x2, y2), k2) = r)) :
    CallsIn Fence.wide 0 Try.prog 46 #[.pointer (some ⟨B, 0, none⟩), .int .i64 i, .int .i64 j] w fun e w' => e = .returned (.bool r) ∧ Chg (fun _ => False) w w' := by
  obtain ⟨hl, el⟩ := hl
  have hi' : (i : Int) < (n : Int) := by omega
  have hj' : (j : Int) < (n : Int) := by omega
  refine callsIn_of_wp Try.func46 rfl trivial ?_
  simp only [Try.ntmps46, List.size_toArray, List.length_cons, List.length_nil, Nat.reduceAdd, Nat.reduceSub, Array.replicate_succ, Array.replicate_zero, List.push_toArray, List.append_toArray, List.nil_append, List.cons_append]
  have hmix : Try.prog.follows .mixedOrders = true := by kernel_rfl
  have l1 : B < w.heap.size := World.block_lt_of_cell? w _ h0
  have l2 : g < w.heap.size := World.block_lt_of_cell? w _ a1
  have n1 : w.heap.size ≠ B := by omega
  have n2 : w.heap.size ≠ g := by omega
  have n3 : w.heap.size + 1 ≠ B := by omega
  have n4 : w.heap.size + 1 ≠ g := by omega
  gi_wp2
  gi_region_o
  · have H7 : (((w.alloc (.cells #[.int .i64 x1, .int .i64 y1, .int .i64 k1] 65)).alloc (.cells #[.int .i64 x2, .int .i64 y2, .int .i64 k2] 65)).drew).heap[w.heap.size]? = some (.cells #[.int .i64 x1, .int .i64 y1, .int .i64 k1] 65) := (Below.heap_alloc _ _ _ (by simp)).trans (World.alloc_heap_new w _)
    have H8 : (((w.alloc (.cells #[.int .i64 x1, .int .i64 y1, .int .i64 k1] 65)).alloc (.cells #[.int .i64 x2, .int .i64 y2, .int .i64 k2] 65)).drew).heap[w.heap.size + 1]? = some (.cells #[.int .i64 x2, .int .i64 y2, .int .i64 k2] 65) := by
      have := World.alloc_heap_new (w.alloc (.cells #[.int .i64 x1, .int .i64 y1, .int .i64 k1] 65)) (.cells #[.int .i64 x2, .int .i64 y2, .int .i64 k2] 65)
      rw [World.size_alloc] at this
      exact this
    have cq : Chg (fun _ => False) w (((w.alloc (.cells #[.int .i64 x1, .int .i64 y1, .int .i64 k1] 65)).alloc (.cells #[.int .i64 x2, .int .i64 y2, .int .i64 k2] 65)).drew) := (((Chg.refl _ w).alloc _).alloc _).drew
    generalize (((w.alloc (.cells #[.int .i64 x1, .int .i64 y1, .int .i64 k1] 65)).alloc (.cells #[.int .i64 x2, .int .i64 y2, .int .i64 k2] 65)).drew) = wq at H7 H8 cq ⊢
    obtain ⟨X8, hX8⟩ : ∃ X, w.heap.size + 1 = X := ⟨_, rfl⟩
    obtain ⟨X7, hX7⟩ : ∃ X, w.heap.size = X := ⟨_, rfl⟩
    rw [hX8] at H8 ⊢
    rw [hX7] at H7 ⊢
    clear hX8 hX7 n1 n2 n3 n4
    have hq0 := Chg.cell cq h0 (fun h => h)
    have z7 : wq.cell? ⟨X7, 0, none⟩ = some (.int .i64 x1) ∧ wq.cell? ⟨X7, 1, none⟩ = some (.int .i64 y1) ∧ wq.cell? ⟨X7, 2, none⟩ = some (.int .i64 k1) := by simp [World.cell?, H7]
    have z8 : wq.cell? ⟨X8, 0, none⟩ = some (.int .i64 x2) ∧ wq.cell? ⟨X8, 1, none⟩ = some (.int .i64 y2) ∧ wq.cell? ⟨X8, 2, none⟩ = some (.int .i64 k2) := by simp [World.cell?, H8]
    have hS : ∀ w', Chg (fun _ => False) wq w' → (w'.cell? ⟨B, 0, none⟩ = some (.func (.func lf) #[] #[]) ∧ w'.cell? ⟨X7, 0, none⟩ = some (.int .i64 x1) ∧ w'.cell? ⟨X7, 1, none⟩ = some (.int .i64 y1) ∧ w'.cell? ⟨X8, 0, none⟩ = some (.int .i64 x2) ∧ w'.cell? ⟨X8, 1, none⟩ = some (.int .i64 y2)) ∧ Chg (fun _ => False) wq w' := fun w' c =>
      ⟨⟨Chg.cell c hq0 (fun h => h), Chg.cell c z7.1 (fun h => h), Chg.cell c z7.2.1 (fun h => h), Chg.cell c z8.1 (fun h => h), Chg.cell c z8.2.1 (fun h => h)⟩, c⟩
    have kk0 : Chg (fun _ => False) wq wq.drew := (Chg.refl _ wq).drew
    clear h0 h1 a1 a2 a3 b1 b2 b3 H7 H8
    gi_wp2
    refine wpIn_wide.2 ?_
    go_region_held3 (fun w' => (w'.cell? ⟨B, 0, none⟩ = some (.func (.func lf) #[] #[]) ∧ w'.cell? ⟨X7, 0, none⟩ = some (.int .i64 x1) ∧ w'.cell? ⟨X7, 1, none⟩ = some (.int .i64 y1) ∧ w'.cell? ⟨X8, 0, none⟩ = some (.int .i64 x2) ∧ w'.cell? ⟨X8, 1, none⟩ = some (.int .i64 y2)) ∧ Chg (fun _ => False) wq w')
      (first
        | exact hS _ kk0
        | exact hS _ cc2
        | exact hS _ cc1)
      (first
        | (refine ((callsIn_wide (n := 0)).1 (hl x1 y1 x2 y2 _)).mono ?_; rintro e wc ⟨rfl, cc1'⟩; have cc1 : Chg (fun _ => False) wq wc := kk0.trans cc1' (Grew.refl _ _))
        | (refine ((callsIn_wide (n := 0)).1 (hl x2 y2 x1 y1 _)).mono ?_; rintro e wd ⟨rfl, cc2'⟩; have cc2 : Chg (fun _ => False) wq wd := cc1.trans cc2' (Grew.refl _ _)))
    have c09 := cq.trans cc2 (Grew.refl _ _)
    have i7 := Chg.cell cc2 z7.2.2 (fun h => h)
    have i8 := Chg.cell cc2 z8.2.2 (fun h => h)
    have hr1 := hr.out
    unfold bef at hr1
    by_cases hq : lt (x1, y1) (x2, y2) = lt (x2, y2) (x1, y1)
    all_goals first | rw [if_pos hq] at hr1 | rw [if_neg hq] at hr1
    all_goals have HR : Hid (r = _) := hr1.symm
    all_goals clear hr1
    all_goals have hq' : (lt (x1, y1) (x2, y2) == lt (x2, y2) (x1, y1)) = _ := (by first | exact beq_iff_eq.2 hq | exact beq_eq_false_iff_ne.2 hq)
    all_goals clear hq hS z7 z8
    all_goals gi_wp2
    all_goals go_ret
    all_goals exact ⟨by rw [HR.out]; rfl, c09⟩
  · have H8 : (((w.alloc (.cells #[.int .i64 x2, .int .i64 y2, .int .i64 k2] 65)).alloc (.cells #[.int .i64 x1, .int .i64 y1, .int .i64 k1] 65)).drew).heap[w.heap.size]? = some (.cells #[.int .i64 x2, .int .i64 y2, .int .i64 k2] 65) := (Below.heap_alloc _ _ _ (by simp)).trans (World.alloc_heap_new w _)
    have H7 : (((w.alloc (.cells #[.int .i64 x2, .int .i64 y2, .int .i64 k2] 65)).alloc (.cells #[.int .i64 x1, .int .i64 y1, .int .i64 k1] 65)).drew).heap[w.heap.size + 1]? = some (.cells #[.int .i64 x1, .int .i64 y1, .int .i64 k1] 65) := by
      have := World.alloc_heap_new (w.alloc (.cells #[.int .i64 x2, .int .i64 y2, .int .i64 k2] 65)) (.cells #[.int .i64 x1, .int .i64 y1, .int .i64 k1] 65)
      rw [World.size_alloc] at this
      exact this
    have cq : Chg (fun _ => False) w (((w.alloc (.cells #[.int .i64 x2, .int .i64 y2, .int .i64 k2] 65)).alloc (.cells #[.int .i64 x1, .int .i64 y1, .int .i64 k1] 65)).drew) := (((Chg.refl _ w).alloc _).alloc _).drew
    generalize (((w.alloc (.cells #[.int .i64 x2, .int .i64 y2, .int .i64 k2] 65)).alloc (.cells #[.int .i64 x1, .int .i64 y1, .int .i64 k1] 65)).drew) = wq at H7 H8 cq ⊢
    obtain ⟨X7, hX7⟩ : ∃ X, w.heap.size + 1 = X := ⟨_, rfl⟩
    obtain ⟨X8, hX8⟩ : ∃ X, w.heap.size = X := ⟨_, rfl⟩
    rw [hX7] at H7 ⊢
    rw [hX8] at H8 ⊢
    clear hX8 hX7 n1 n2 n3 n4
    have hq0 := Chg.cell cq h0 (fun h => h)
    have z7 : wq.cell? ⟨X7, 0, none⟩ = some (.int .i64 x1) ∧ wq.cell? ⟨X7, 1, none⟩ = some (.int .i64 y1) ∧ wq.cell? ⟨X7, 2, none⟩ = some (.int .i64 k1) := by simp [World.cell?, H7]
    have z8 : wq.cell? ⟨X8, 0, none⟩ = some (.int .i64 x2) ∧ wq.cell? ⟨X8, 1, none⟩ = some (.int .i64 y2) ∧ wq.cell? ⟨X8, 2, none⟩ = some (.int .i64 k2) := by simp [World.cell?, H8]
    have hS : ∀ w', Chg (fun _ => False) wq w' → (w'.cell? ⟨B, 0, none⟩ = some (.func (.func lf) #[] #[]) ∧ w'.cell? ⟨X7, 0, none⟩ = some (.int .i64 x1) ∧ w'.cell? ⟨X7, 1, none⟩ = some (.int .i64 y1) ∧ w'.cell? ⟨X8, 0, none⟩ = some (.int .i64 x2) ∧ w'.cell? ⟨X8, 1, none⟩ = some (.int .i64 y2)) ∧ Chg (fun _ => False) wq w' := fun w' c =>
      ⟨⟨Chg.cell c hq0 (fun h => h), Chg.cell c z7.1 (fun h => h), Chg.cell c z7.2.1 (fun h => h), Chg.cell c z8.1 (fun h => h), Chg.cell c z8.2.1 (fun h => h)⟩, c⟩
    have kk0 : Chg (fun _ => False) wq wq.drew := (Chg.refl _ wq).drew
    clear h0 h1 a1 a2 a3 b1 b2 b3 H7 H8
    gi_wp2
    refine wpIn_wide.2 ?_
    go_region_held3 (fun w' => (w'.cell? ⟨B, 0, none⟩ = some (.func (.func lf) #[] #[]) ∧ w'.cell? ⟨X7, 0, none⟩ = some (.int .i64 x1) ∧ w'.cell? ⟨X7, 1, none⟩ = some (.int .i64 y1) ∧ w'.cell? ⟨X8, 0, none⟩ = some (.int .i64 x2) ∧ w'.cell? ⟨X8, 1, none⟩ = some (.int .i64 y2)) ∧ Chg (fun _ => False) wq w')
      (first
        | exact hS _ kk0
        | exact hS _ cc2
        | exact hS _ cc1)
      (first
        | (refine ((callsIn_wide (n := 0)).1 (hl x1 y1 x2 y2 _)).mono ?_; rintro e wc ⟨rfl, cc1'⟩; have cc1 : Chg (fun _ => False) wq wc := kk0.trans cc1' (Grew.refl _ _))
        | (refine ((callsIn_wide (n := 0)).1 (hl x2 y2 x1 y1 _)).mono ?_; rintro e wd ⟨rfl, cc2'⟩; have cc2 : Chg (fun _ => False) wq wd := cc1.trans cc2' (Grew.refl _ _)))
    have c09 := cq.trans cc2 (Grew.refl _ _)
    have i7 := Chg.cell cc2 z7.2.2 (fun h => h)
    have i8 := Chg.cell cc2 z8.2.2 (fun h => h)
    have hr1 := hr.out
    unfold bef at hr1
    by_cases hq : lt (x1, y1) (x2, y2) = lt (x2, y2) (x1, y1)
    all_goals first | rw [if_pos hq] at hr1 | rw [if_neg hq] at hr1
    all_goals have HR : Hid (r = _) := hr1.symm
    all_goals clear hr1
    all_goals have hq' : (lt (x1, y1) (x2, y2) == lt (x2, y2) (x1, y1)) = _ := (by first | exact beq_iff_eq.2 hq | exact beq_eq_false_iff_ne.2 hq)
    all_goals clear hq hS z7 z8
    all_goals gi_wp2
    all_goals go_ret
    all_goals exact ⟨by rw [HR.out]; rfl, c09⟩
end Go.Proofs.Ytaolebadamfodaa.T
