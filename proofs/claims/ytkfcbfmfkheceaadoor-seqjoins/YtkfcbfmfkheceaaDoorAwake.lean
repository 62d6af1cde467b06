/-
  The statements' own awake answers true, and turns nothing.
-/
import Derived.Test.YtkfcbfmfkheceaaDoorPure
namespace Go.Proofs.YtkfcbfmfkheceaaDoor
open Go.RowKit Go.Shelf Go.SeqLib
attribute [local go_sem] Oper.semAt_some

/-- A slice of three numbers that was just laid. -/
theorem SlI.three (w : World) (a b c : Int) : SlI (w.alloc (.cells #[.int .i64 a, .int .i64 b, .int .i64 c] 3)) (.slice (some ⟨w.heap.size, 0, none⟩) 3 3) [a, b, c] := by
  refine ⟨_, 3, rfl, by simp, by simp [maxLen], fun i x hi => ⟨w.heap.size, 0, rfl, ?_⟩⟩
  match i, hi with
  | 0, hi => simp at hi; subst hi; simp
  | 1, hi => simp at hi; subst hi; simp
  | 2, hi => simp at hi; subst hi; simp

theorem awake_list : (List.filter evenB (upto 0 10)).take 3 = [0, 2, 4] := by decide

set_option maxRecDepth 100000 in
set_option maxHeartbeats 2000000 in
theorem awake_in (w : World) : CallsIn Fence.wide 0 Tryd.prog 5 #[] w fun e w' => e = .returned (.bool true) ∧ Chg No w w' := by
  refine callsIn_of_wp Tryd.func5 rfl trivial ?_
  simp only [Tryd.ntmps5, List.size_toArray, List.length_nil, Nat.reduceSub, Array.replicate_succ, Array.replicate_zero, List.push_toArray, List.append_toArray, List.nil_append, List.cons_append]
  gi_wp2_with fail
  refine ⟨trivial, rfl, (count_seq 0 10 (by omega) (by omega) (by omega) (by omega) _).mono ?_⟩
  rintro e w1 ⟨g1, l1, D1, rfl, s1, c1, _⟩
  gi_wp2_with fail
  refine ⟨trivial, rfl, (filter_seq _ s1 (even_fun _) (fun _ _ h => h)).mono ?_⟩
  rintro e w2 ⟨g2, l2, D2, rfl, s2, c2, _⟩
  gi_wp2_with fail
  refine ⟨trivial, rfl, (take_seq 3 (by omega) _ s2).mono ?_⟩
  rintro e w3 ⟨g3, l3, D3, rfl, s3, c3, _⟩
  rw [show (3 : Int).toNat = 3 from rfl, show ((10 : Int) - 0).toNat = 10 from rfl, awake_list] at s3
  have c03 : Chg No w w3 := (c1.trans c2 (Grew.refl _ _)).trans c3 (Grew.refl _ _)
  clear c1 c2 c3 s1 s2
  gi_wp2_with fail
  refine ⟨trivial, rfl, (list_seq (by simp) _ s3).mono ?_⟩
  rintro e w4 ⟨v4, rfl, r4, c4⟩
  have q4 : SlI (w4.alloc (.cells #[.int .i64 0, .int .i64 2, .int .i64 4] 3)) v4 [0, 2, 4] := (SlI.ofRow (zs := [0, 2, 4]) r4).chg ((Chg.refl No w4).alloc _) (fun _ _ h => h)
  have t4 := SlI.three w4 0 2 4
  gi_wp2_with fail
  refine ⟨trivial, rfl, (same_in v4 _ [0, 2, 4] [0, 2, 4] _ q4 t4).mono ?_⟩
  rintro e w5 ⟨rfl, c5⟩
  have c45 : Chg No w3 w5 := (c4.alloc _).trans c5 (Grew.refl _ _)
  have s5 := s3.no c45
  have c05 : Chg No w w5 := c03.trans c45 (Grew.refl _ _)
  clear c4 c5 c45 s3 q4 t4 r4 c03
  simp only [decide_true]
  gi_wp2_with fail
  refine ⟨trivial, rfl, (ints_seq 9 (by omega) _ s5 [0, 2, 4] rfl).mono ?_⟩
  rintro e w6 ⟨v6, rfl, r6, c6⟩
  have q6 : SlI (w6.alloc (.cells #[.int .i64 0, .int .i64 2, .int .i64 4] 3)) v6 [0, 2, 4] := (SlI.ofRow (zs := [0, 2, 4]) r6).chg ((Chg.refl No w6).alloc _) (fun _ _ h => h)
  have t6 := SlI.three w6 0 2 4
  gi_wp2_with fail
  refine ⟨trivial, rfl, (same_in v6 _ [0, 2, 4] [0, 2, 4] _ q6 t6).mono ?_⟩
  rintro e w7 ⟨rfl, c7⟩
  have c07 : Chg No w w7 := c05.trans ((c6.alloc _).trans c7 (Grew.refl _ _)) (Grew.refl _ _)
  clear c6 c7 s5 q6 t6 r6 c05
  simp only [decide_true]
  have t7 := SlI.three w7 1 2 3
  gi_wp2_with fail
  refine ⟨trivial, rfl, (of_seq _ [1, 2, 3] (by simp) _ t7).mono ?_⟩
  rintro e w8 ⟨g8, l8, D8, rfl, s8, c8, _⟩
  gi_wp2_with fail
  refine ⟨trivial, rfl, (fold_seq 10 _ s8).mono ?_⟩
  rintro e w9 ⟨rfl, c9⟩
  rw [show List.foldl sumW 10 [1, 2, 3] = 16 from by simp [sumW, wrap64]]
  have c09 : Chg No w w9 := c07.trans (((Chg.refl No w7).alloc _).trans (c8.trans c9 (Grew.refl _ _)) (Grew.refl _ _)) (Grew.refl _ _)
  gi_wp2
  go_ret
  exact ⟨rfl, c09⟩

end Go.Proofs.YtkfcbfmfkheceaaDoor
