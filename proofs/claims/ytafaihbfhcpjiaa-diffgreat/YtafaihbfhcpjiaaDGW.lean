/-
  DiffGreat answers true at every number, and turns nothing that lay.
-/
import Derived.Test.YtafaihbfhcpjiaaDAwake
import Derived.Test.YtafaihbfhcpjiaaDApplyI
import Derived.Test.YtafaihbfhcpjiaaDLongI
import Derived.Test.YtafaihbfhcpjiaaLow
namespace Go.Proofs.Ytafaihbfhcpjiaa
open Go.RowKit Go.Shelf Go.SeqLib Go.DiffLib Go.BigFrame
attribute [local go_sem] Oper.semAt_some

/-- A list of one step, just laid. -/
theorem oneStepG (w : World) (x y z : Int) : SlS (w.alloc (.cells #[.int .i64 x, .int .i64 y, .int .i64 z] 40)) (.slice (some ⟨w.heap.size, 0, none⟩) 1 1) [(x, y, z)] := by
  refine ⟨_, 1, rfl, Nat.le_refl _, by unfold maxLen; decide, fun i u hi => ⟨w.heap.size, 0, rfl, fun q r hq => ?_⟩⟩
  rw [World.cell?_alloc_at _ _ _ _ rfl]
  have hi1 : i < 1 := (List.getElem?_eq_some_iff.1 hi).1
  obtain rfl : i = 0 := by omega
  cases hi
  rw [show 0 + 0 * 3 + q = q by omega]
  unfold eS at hq
  simpa using hq

/-- A list of numbers, just made. -/
theorem zeros (w : World) (n : Nat) (hn : n ≤ 1000) : SlV (w.alloc (.cells (madeCells #[.int .i64 0] n) 3)) (.slice (some ⟨w.heap.size, 0, none⟩) n n) ((List.replicate n (0 : Int)).map (Value.int .i64)) := by
  have hl : ((List.replicate n (0 : Int)).map (Value.int .i64)).length = n := by simp
  refine ⟨_, n, by rw [hl], by rw [hl]; exact Nat.le_refl _, by unfold maxLen; omega, fun i x hi => ⟨w.heap.size, 0, rfl, ?_⟩⟩
  have hin : i < n := by rw [← hl]; exact (List.getElem?_eq_some_iff.1 hi).1
  have := (World.rowIs_made w (.int .i64 0) n 3).cell hin
  rw [Nat.zero_add, this]
  simp [hin] at hi
  rw [← hi]
theorem one (w : World) : SlV (w.alloc (.cells #[.int .i64 0] 3)) (.slice (some ⟨w.heap.size, 0, none⟩) 1 1) ([(0 : Int)].map (Value.int .i64)) := SlV.made w ([(0 : Int)].map (Value.int .i64)) 3 (by decide)
theorem zeros_tl (n : Nat) (h : 0 < n) : tl (List.replicate n (0 : Int)) [0] = 1 := by
  obtain ⟨m, rfl⟩ : ∃ m, n = m + 1 := ⟨n - 1, by omega⟩
  rw [List.replicate_succ, tl_cons, if_pos rfl, tl_nil']
theorem zeros_app (n : Nat) : app (List.replicate n (0 : Int)) (List.replicate n (0 : Int)) [((n : Int), 0, 0)] = some (List.replicate n (0 : Int)) := by
  simp [app]

set_option maxRecDepth 100000 in
set_option maxHeartbeats 4000000 in
theorem great_law (x : Int) (w : World) : CallsIn Fence.wide 0 Try.prog 6 #[.int .i64 x] w fun e w' => e = .returned (.bool true) ∧ Chg No w w' := by
  refine callsIn_of_wp Try.func6 rfl trivial ?_
  simp only [Try.ntmps6, List.size_toArray, List.length_cons, List.length_nil, Nat.reduceAdd, Nat.reduceSub, Array.replicate_succ, Array.replicate_zero, List.push_toArray, List.append_toArray, List.nil_append, List.cons_append]
  gi_wp2_with fail
  refine ⟨trivial, rfl, (low_in x 11 (by omega) (by omega) _).mono ?_⟩
  rintro e w0 ⟨rfl, rfl⟩
  obtain ⟨hlo1, hlo2⟩ := lowI_range x 11 (by omega) (by omega)
  generalize lowI x 11 = em at *
  obtain ⟨m, rfl⟩ := Int.eq_ofNat_of_zero_le hlo1
  obtain ⟨n, hn⟩ : ∃ n, n = 395 + m := ⟨_, rfl⟩
  have HN : Hid ((395 : Int) + (m : Int) = (n : Int)) := by show _ = _; omega
  have hn1 : 395 ≤ n := by omega
  have hn2 : n ≤ 405 := by omega
  have hnI := HN.out
  have hmk : ∀ w, (Instr.makeSlice 43 (.int .i64 (n : Int)) (.int .i64 (n : Int))).run Try.prog w = .ok (.slice (some ⟨w.heap.size, 0, none⟩) n n) (w.alloc (.cells (madeCells #[.int .i64 0] n) 3)) := fun w =>
    run_make_row' 43 3 (.int .i64 0) 8 Try.underlying43 info3 rfl .i64 .i64 n (by omega) (by omega) w
  clear hlo1 hlo2 hn
  have sa := zeros w0 n (by omega)
  have c1 : Chg No w0 (w0.alloc (.cells (madeCells #[.int .i64 0] n) 3)) := (Chg.refl _ w0).alloc _
  have hz1 : (w0.alloc (.cells (madeCells #[.int .i64 0] n) 3)).heap.size = w0.heap.size + 1 := by simp
  have sb := one (w0.alloc (.cells (madeCells #[.int .i64 0] n) 3))
  rw [hz1] at sb
  have c2 := c1.alloc (.cells #[.int .i64 0] 3)
  have sa2 := sa.no ((Chg.refl No _).alloc (.cells #[.int .i64 0] 3))
  gi_wp2_with fail
  generalize ((w0.alloc (.cells (madeCells #[.int .i64 0] n) 3)).alloc (.cells #[.int .i64 0] 3)) = W2 at *
  by_cases hbig : 400 < n
  · refine ⟨trivial, rfl, (I.length_long _ _ _ _ _ _ (.inl hbig) _).mono ?_⟩
    rintro e w3 ⟨rfl, rfl⟩
    gi_wp2_with fail
    refine ⟨trivial, rfl, (I.apply_long _ _ _ _ _ _ _ (.inl hbig) _).mono ?_⟩
    rintro e w4 ⟨rfl, rfl⟩
    have hbig' : (400 : Int) < (n : Int) := by omega
    have c4 := c2.alloc (.cells #[.int .i64 (n : Int), .int .i64 0, .int .i64 0] 40)
    gi_wp2_with fail
    refine ⟨trivial, rfl, (I.pairs_long _ _ _ _ _ _ (.inl hbig) _).mono ?_⟩
    rintro e w5 ⟨rfl, rfl⟩
    gi_wp2_with fail
    refine ⟨trivial, rfl, (I.steps_long _ _ _ _ _ _ (.inl hbig) _).mono ?_⟩
    rintro e w6 ⟨rfl, rfl⟩
    gi_wp2_with fail
    refine ⟨trivial, rfl, (awake_in _).mono ?_⟩
    rintro e w7 ⟨rfl, c7⟩
    gi_wp2
    go_ret
    exact ⟨rfl, Chg.seq ((c4.alloc _).alloc _) c7⟩
  · have hL := I.length_in _ _ (List.replicate n (0 : Int)) [0] _ sa2 sb (by simp; omega) (by simp)
    rw [zeros_tl n (by omega)] at hL
    refine ⟨trivial, rfl, hL.mono ?_⟩
    rintro e w3 ⟨rfl, c3⟩
    have hbig' : ¬ (400 : Int) < (n : Int) := by omega
    have sa3 := sa2.no c3
    have c03 := Chg.seq c2 c3
    have c4 : Chg No w3 (w3.alloc (.cells #[.int .i64 (n : Int), .int .i64 0, .int .i64 0] 40)) := (Chg.refl _ w3).alloc _
    have sa4 := sa3.no c4
    have ss4 := oneStepG w3 (n : Int) 0 0
    have hA := I.apply_in _ _ _ (List.replicate n (0 : Int)) (List.replicate n (0 : Int)) [((n : Int), 0, 0)] _ sa4 sa4 ss4 (by simp; omega) (by simp; omega) (by simp)
    rw [zeros_app] at hA
    clear hL
    gi_wp2_with fail
    refine ⟨trivial, rfl, hA.mono ?_⟩
    rintro e w5 ⟨⟨v5, rfl, r5⟩, c5⟩
    gi_wp2_with fail
    refine ⟨trivial, rfl, (awake_in _).mono ?_⟩
    rintro e w6 ⟨rfl, c6⟩
    gi_wp2
    go_ret
    exact ⟨rfl, Chg.seq (Chg.seq (Chg.seq c03 c4) c5) c6⟩

end Go.Proofs.Ytafaihbfhcpjiaa
