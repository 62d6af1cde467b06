/-
  The statements' own awake answers true, and turns nothing.
-/
import Derived.Test.YtaolebadamfodaaPD
namespace Go.Proofs.Ytaolebadamfodaa
open Go.RowKit Go.Shelf Go.SeqLib Go.PileLib
attribute [local go_sem] Oper.semAt_some

theorem SlI.three (w : World) (a b c : Int) : SlI (w.alloc (.cells #[.int .i64 a, .int .i64 b, .int .i64 c] 3)) (.slice (some ⟨w.heap.size, 0, none⟩) 3 3) [a, b, c] := by
  refine ⟨_, 3, rfl, by simp, by simp [maxLen], fun i x hi => ⟨w.heap.size, 0, rfl, ?_⟩⟩
  match i, hi with
  | 0, hi => simp at hi; subst hi; simp
  | 1, hi => simp at hi; subst hi; simp
  | 2, hi => simp at hi; subst hi; simp
theorem SlI.two (w : World) (a b : Int) : SlI (w.alloc (.cells #[.int .i64 a, .int .i64 b] 3)) (.slice (some ⟨w.heap.size, 0, none⟩) 2 2) [a, b] := by
  refine ⟨_, 2, rfl, by simp, by simp [maxLen], fun i x hi => ⟨w.heap.size, 0, rfl, ?_⟩⟩
  match i, hi with
  | 0, hi => simp at hi; subst hi; simp
  | 1, hi => simp at hi; subst hi; simp

theorem awake_list : putAll (ltK id) [] 0 [3, 1, 2] = [(1, 1), (2, 2), (3, 0)] := by decide

set_option maxRecDepth 100000 in
set_option maxHeartbeats 2000000 in
theorem awake_in (w : World) : CallsIn Fence.wide 0 Try.prog 8 #[] w fun e w' => e = .returned (.bool true) ∧ Chg No w w' := by
  refine callsIn_of_wp Try.func8 rfl trivial ?_
  simp only [Try.ntmps8, List.size_toArray, List.length_nil, Nat.reduceSub, Array.replicate_succ, Array.replicate_zero, List.push_toArray, List.append_toArray, List.nil_append, List.cons_append]
  gi_wp2_with fail
  refine ⟨trivial, rfl, (new_seq 21 (ltK id) w).mono ?_⟩
  rintro e w1 ⟨rfl, p1, c1⟩
  have t1 := SlI.three w1 3 1 2
  have p1' := (Pile.part _ _ _ _ _).chg p1 ((Chg.refl No w1).alloc (.cells #[.int .i64 3, .int .i64 1, .int .i64 2] 3)) (fun _ _ h => h)
  have hl1 := (Pile.part _ _ _ _ _).lt p1
  gi_wp2_with fail
  refine ⟨trivial, rfl, (put_in lower_less w.heap.size [] 0 (by omega) (by omega) (fun y h => by cases h) _ (some ⟨w1.heap.size, 0, none⟩) 3 [3, 1, 2] (by simp) (by simp) _ p1' t1 ?_).mono ?_⟩
  · rintro k ⟨_, h⟩ h2
    simp [Value.ownBlock] at h
    have := hl1 k h2
    omega
  rintro e w2 ⟨rfl, S2, p2, c2, g2⟩
  rw [awake_list] at p2
  have HS2 : Hid (∀ k, S2 k → w.heap.size ≤ k) := fun k hk => by
    rcases g2 k hk with h | h
    · omega
    · have := c1.size; simp at h; omega
  have c02 : Chg No w w2 := (c1.trans ((Chg.refl No w1).alloc _) (Grew.refl _ _)).trans c2 (fun k h => .inr (by omega))
  gi_wp2_with fail
  refine ⟨trivial, rfl, (pop_in lower_less (bef_ord id) w.heap.size (1, 1) [(2, 2), (3, 0)] _ S2 (by simp) _ p2).mono ?_⟩
  rintro e w3 ⟨rfl, p3, c3⟩
  have c03 : Chg No w w3 := c02.trans c3 (fun k h => .inr (HS2.out k h))
  clear p2 p1 p1' t1 c1 c2 c02 c3
  gi_wp2_with fail
  refine ⟨trivial, rfl, (len_seq w.heap.size _ _ S2 w3 p3).mono ?_⟩
  rintro e w3' ⟨rfl, rfl⟩
  gi_wp2_with fail
  refine ⟨trivial, rfl, (all_seq lower_less (bef_ord id) w.heap.size _ _ S2 (by simp) _ p3).mono ?_⟩
  rintro e w4 ⟨g4, l4, D4, rfl, s4, c4, _⟩
  gi_wp2_with fail
  refine ⟨trivial, rfl, (ints_seq 9 (by omega) _ s4 [2, 3] rfl).mono ?_⟩
  rintro e w5 ⟨v5, rfl, r5, c5⟩
  have q5 : SlI (w5.alloc (.cells #[.int .i64 2, .int .i64 3] 3)) v5 [2, 3] := (SlI.ofRow (zs := [2, 3]) r5).chg ((Chg.refl No w5).alloc _) (fun _ _ h => h)
  have t5 := SlI.two w5 2 3
  gi_wp2_with fail
  refine ⟨trivial, rfl, (same_in v5 _ [2, 3] [2, 3] _ q5 t5).mono ?_⟩
  rintro e w6 ⟨rfl, c6⟩
  have c06 : Chg No w w6 := (c03.trans c4 (Grew.refl _ _)).trans ((c5.alloc _).trans c6 (Grew.refl _ _)) (Grew.refl _ _)
  simp only [decide_true]
  gi_wp2_with fail
  refine ⟨trivial, rfl, (new_nil _).mono ?_⟩
  rintro e w7 ⟨rfl, rfl⟩
  gi_wp2
  go_ret
  exact ⟨rfl, c06⟩
end Go.Proofs.Ytaolebadamfodaa
