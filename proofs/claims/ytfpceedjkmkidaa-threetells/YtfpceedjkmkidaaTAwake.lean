/-
  The statements' own awake and great, of chapter 5.
-/
import Derived.Test.YtfpceedjkmkidaaTMergeI
import Derived.Test.YtfpceedjkmkidaaSameI
import Derived.Test.YtfpceedjkmkidaaTxtL
namespace Go.Proofs.Ytfpceedjkmkidaa
open Go.RowKit Go.Shelf Go.SeqLib Go.DiffLib Go.BigFrame
attribute [local go_sem] Oper.semAt_some

theorem awake_one : mrg [(1 : Int), 2, 3] [1, 9, 2, 3] [1, 2, 4] = some [1, 9, 2, 4] := by decide
theorem awake_two : mrg [(1 : Int)] [2] [3] = none := by decide
theorem awake_three : (parts [(1 : Int)] [1] [1]).length = 1 := by decide

set_option maxRecDepth 100000 in
set_option maxHeartbeats 2000000 in
theorem awake_in (w : World) : CallsIn Fence.wide 0 Try.prog 9 #[] w fun e w' => e = .returned (.bool true) ∧ Chg No w w' := by
  refine callsIn_of_wp Try.func9 rfl trivial ?_
  simp only [Try.ntmps9, List.size_toArray, List.length_nil, Nat.reduceSub, Array.replicate_succ, Array.replicate_zero, List.push_toArray, List.append_toArray, List.nil_append, List.cons_append]
  have mk : ∀ (w : World) (l : List Int), l.length ≤ 1000000 → SlV (w.alloc (.cells (l.map (Value.int .i64)).toArray 3)) (.slice (some ⟨w.heap.size, 0, none⟩) l.length l.length) (l.map (Value.int .i64)) := fun w l hl => by
    have := SlV.made w (l.map (Value.int .i64)) 3 (by simpa using hl)
    simpa using this
  have c0 : Chg No w (((w.alloc (.cells #[.int .i64 1, .int .i64 2, .int .i64 3] 3)).alloc (.cells #[.int .i64 1, .int .i64 9, .int .i64 2, .int .i64 3] 3)).alloc (.cells #[.int .i64 1, .int .i64 2, .int .i64 4] 3)) := (((Chg.refl _ w).alloc _).alloc _).alloc _
  have s1 : SlV (((w.alloc (.cells #[.int .i64 1, .int .i64 2, .int .i64 3] 3)).alloc (.cells #[.int .i64 1, .int .i64 9, .int .i64 2, .int .i64 3] 3)).alloc (.cells #[.int .i64 1, .int .i64 2, .int .i64 4] 3)) (.slice (some ⟨w.heap.size, 0, none⟩) 3 3) ([1, 2, 3].map (Value.int .i64)) :=
    (mk w [1, 2, 3] (by decide)).no (((Chg.refl _ _).alloc _).alloc _)
  have s2 : SlV (((w.alloc (.cells #[.int .i64 1, .int .i64 2, .int .i64 3] 3)).alloc (.cells #[.int .i64 1, .int .i64 9, .int .i64 2, .int .i64 3] 3)).alloc (.cells #[.int .i64 1, .int .i64 2, .int .i64 4] 3)) (.slice (some ⟨w.heap.size + 1, 0, none⟩) 4 4) ([1, 9, 2, 3].map (Value.int .i64)) := by
    have := mk (w.alloc (.cells #[.int .i64 1, .int .i64 2, .int .i64 3] 3)) [1, 9, 2, 3] (by decide)
    rw [World.size_alloc] at this
    exact this.no ((Chg.refl _ _).alloc _)
  have s3 : SlV (((w.alloc (.cells #[.int .i64 1, .int .i64 2, .int .i64 3] 3)).alloc (.cells #[.int .i64 1, .int .i64 9, .int .i64 2, .int .i64 3] 3)).alloc (.cells #[.int .i64 1, .int .i64 2, .int .i64 4] 3)) (.slice (some ⟨w.heap.size + 1 + 1, 0, none⟩) 3 3) ([1, 2, 4].map (Value.int .i64)) := by
    have := mk ((w.alloc (.cells #[.int .i64 1, .int .i64 2, .int .i64 3] 3)).alloc (.cells #[.int .i64 1, .int .i64 9, .int .i64 2, .int .i64 3] 3)) [1, 2, 4] (by decide)
    rw [World.size_alloc, World.size_alloc] at this
    exact this
  gi_wp2_with fail
  generalize (((w.alloc (.cells #[.int .i64 1, .int .i64 2, .int .i64 3] 3)).alloc (.cells #[.int .i64 1, .int .i64 9, .int .i64 2, .int .i64 3] 3)).alloc (.cells #[.int .i64 1, .int .i64 2, .int .i64 4] 3)) = W0 at *
  have hM := I.merge_in _ _ _ [1, 2, 3] [1, 9, 2, 3] [1, 2, 4] _ s1 s2 s3 (by decide) (by decide) (by decide)
  rw [awake_one] at hM
  refine ⟨trivial, rfl, hM.mono ?_⟩
  rintro e w1 ⟨⟨v1, rfl, r1⟩, c1⟩
  have m1 : SlV w1 v1 ([1, 9, 2, 4].map (Value.int .i64)) := SlV.ofRow (by simpa using r1)
  obtain ⟨p1, cp1, rfl⟩ := row_slice r1
  have c01 := Chg.seq c0 c1
  clear hM r1 c0 c1 s1 s2 s3
  have c2 : Chg No w1 (((w1.alloc (.cells #[.int .i64 1] 3)).alloc (.cells #[.int .i64 2] 3)).alloc (.cells #[.int .i64 3] 3)) := (((Chg.refl _ w1).alloc _).alloc _).alloc _
  have s1 : SlV (((w1.alloc (.cells #[.int .i64 1] 3)).alloc (.cells #[.int .i64 2] 3)).alloc (.cells #[.int .i64 3] 3)) (.slice (some ⟨w1.heap.size, 0, none⟩) 1 1) ([1].map (Value.int .i64)) :=
    (mk w1 [1] (by decide)).no (((Chg.refl _ _).alloc _).alloc _)
  have s2 : SlV (((w1.alloc (.cells #[.int .i64 1] 3)).alloc (.cells #[.int .i64 2] 3)).alloc (.cells #[.int .i64 3] 3)) (.slice (some ⟨w1.heap.size + 1, 0, none⟩) 1 1) ([2].map (Value.int .i64)) := by
    have := mk (w1.alloc (.cells #[.int .i64 1] 3)) [2] (by decide)
    rw [World.size_alloc] at this
    exact this.no ((Chg.refl _ _).alloc _)
  have s3 : SlV (((w1.alloc (.cells #[.int .i64 1] 3)).alloc (.cells #[.int .i64 2] 3)).alloc (.cells #[.int .i64 3] 3)) (.slice (some ⟨w1.heap.size + 1 + 1, 0, none⟩) 1 1) ([3].map (Value.int .i64)) := by
    have := mk ((w1.alloc (.cells #[.int .i64 1] 3)).alloc (.cells #[.int .i64 2] 3)) [3] (by decide)
    rw [World.size_alloc, World.size_alloc] at this
    exact this
  gi_wp2_with fail
  generalize (((w1.alloc (.cells #[.int .i64 1] 3)).alloc (.cells #[.int .i64 2] 3)).alloc (.cells #[.int .i64 3] 3)) = W2 at *
  have hM := I.merge_in _ _ _ [1] [2] [3] _ s1 s2 s3 (by decide) (by decide) (by decide)
  rw [awake_two] at hM
  refine ⟨trivial, rfl, hM.mono ?_⟩
  rintro e w3 ⟨rfl, c3⟩
  have m3 := (m1.no c2).no c3
  have c03 := Chg.seq (Chg.seq c01 c2) c3
  clear hM s1 s2 s3 c01 c2 c3 m1
  have c4 : Chg No w3 (w3.alloc (.cells #[.int .i64 1, .int .i64 9, .int .i64 2, .int .i64 4] 3)) := (Chg.refl _ w3).alloc _
  have s4 : SlV (w3.alloc (.cells #[.int .i64 1, .int .i64 9, .int .i64 2, .int .i64 4] 3)) (.slice (some ⟨w3.heap.size, 0, none⟩) 4 4) ([1, 9, 2, 4].map (Value.int .i64)) := mk w3 [1, 9, 2, 4] (by decide)
  have m4 := m3.no c4
  have c04 := Chg.seq c03 c4
  gi_wp2_with fail
  generalize (w3.alloc (.cells #[.int .i64 1, .int .i64 9, .int .i64 2, .int .i64 4] 3)) = W4 at *
  refine ⟨trivial, rfl, (sameI_in _ _ [1, 9, 2, 4] [1, 9, 2, 4] _ m4 s4).mono ?_⟩
  rintro e w5 ⟨rfl, c5⟩
  rw [decide_eq_true rfl]
  have c05 := Chg.seq c04 c5
  clear m3 m4 s4 c03 c4 c04 c5
  have c6 : Chg No w5 (((w5.alloc (.cells #[.int .i64 1] 3)).alloc (.cells #[.int .i64 1] 3)).alloc (.cells #[.int .i64 1] 3)) := (((Chg.refl _ w5).alloc _).alloc _).alloc _
  have s1 : SlV (((w5.alloc (.cells #[.int .i64 1] 3)).alloc (.cells #[.int .i64 1] 3)).alloc (.cells #[.int .i64 1] 3)) (.slice (some ⟨w5.heap.size, 0, none⟩) 1 1) ([1].map (Value.int .i64)) :=
    (mk w5 [1] (by decide)).no (((Chg.refl _ _).alloc _).alloc _)
  have s2 : SlV (((w5.alloc (.cells #[.int .i64 1] 3)).alloc (.cells #[.int .i64 1] 3)).alloc (.cells #[.int .i64 1] 3)) (.slice (some ⟨w5.heap.size + 1, 0, none⟩) 1 1) ([1].map (Value.int .i64)) := by
    have := mk (w5.alloc (.cells #[.int .i64 1] 3)) [1] (by decide)
    rw [World.size_alloc] at this
    exact this.no ((Chg.refl _ _).alloc _)
  have s3 : SlV (((w5.alloc (.cells #[.int .i64 1] 3)).alloc (.cells #[.int .i64 1] 3)).alloc (.cells #[.int .i64 1] 3)) (.slice (some ⟨w5.heap.size + 1 + 1, 0, none⟩) 1 1) ([1].map (Value.int .i64)) := by
    have := mk ((w5.alloc (.cells #[.int .i64 1] 3)).alloc (.cells #[.int .i64 1] 3)) [1] (by decide)
    rw [World.size_alloc, World.size_alloc] at this
    exact this
  gi_wp2_with fail
  generalize (((w5.alloc (.cells #[.int .i64 1] 3)).alloc (.cells #[.int .i64 1] 3)).alloc (.cells #[.int .i64 1] 3)) = W6 at *
  refine ⟨trivial, rfl, (I.parts_in _ _ _ [1] [1] [1] _ s1 s2 s3 (by decide) (by decide) (by decide)).mono ?_⟩
  rintro e w7 ⟨v7, rfl, ⟨rs, PA⟩, c7⟩
  have hl := PA.len
  rw [awake_three] at hl
  obtain ⟨p7, cp7, rfl⟩ := row_slice PA.row
  rw [hl]
  clear hl PA
  gi_wp2
  go_ret
  exact ⟨rfl, Chg.seq (Chg.seq c05 c6) c7⟩

theorem great3_in (p q r : Option Addr) (lo la lb cp cq cr : Nat) (o a b : List ByteArray) (w : World) (hv : SlV w (.slice p lo cp) (o.map Value.string)) (hu : SlV w (.slice q la cq) (a.map Value.string)) (ht : SlV w (.slice r lb cr) (b.map Value.string)) :
    CallsIn Fence.wide 0 Try.prog 8 #[.slice p lo cp, .slice q la cq, .slice r lb cr] w fun e w' => e = .returned (.bool (greatB o 30 20 || (greatB a 30 20 || greatB b 30 20))) ∧ w' = w := by
  refine callsIn_of_wp Try.func8 rfl trivial ?_
  simp only [Try.ntmps8, List.size_toArray, List.length_cons, List.length_nil, Nat.reduceAdd, Nat.reduceSub, Array.replicate_succ, Array.replicate_zero, List.push_toArray, List.append_toArray, List.nil_append, List.cons_append]
  have g1 := great_in _ o 30 20 w hv
  have g2 := great_in _ a 30 20 w hu
  have g3 := great_in _ b 30 20 w ht
  generalize greatB o 30 20 = z1 at *
  generalize greatB a 30 20 = z2 at *
  generalize greatB b 30 20 = z3 at *
  gi_wp2_with fail
  refine ⟨trivial, rfl, g1.mono ?_⟩
  rintro e w1 ⟨rfl, rfl⟩
  cases z1 with
  | true =>
    gi_wp2_with fail
    refine ⟨trivial, ?_⟩
    rename_i hKK
    apply hKK
    gi_wp2_with fail
    refine ⟨trivial, ?_⟩
    rename_i hKK
    apply hKK
    gi_wp2
    go_ret
    exact ⟨rfl, rfl⟩
  | false =>
    gi_wp2_with fail
    refine ⟨trivial, rfl, g2.mono ?_⟩
    rintro e w2 ⟨rfl, rfl⟩
    cases z2 with
    | true =>
      gi_wp2_with fail
      refine ⟨trivial, ?_⟩
      rename_i hKK
      apply hKK
      gi_wp2
      go_ret
      exact ⟨rfl, rfl⟩
    | false =>
      gi_wp2_with fail
      refine ⟨trivial, rfl, g3.mono ?_⟩
      rintro e w3 ⟨rfl, rfl⟩
      gi_wp2
      go_ret
      exact ⟨by simp, rfl⟩

end Go.Proofs.Ytfpceedjkmkidaa
