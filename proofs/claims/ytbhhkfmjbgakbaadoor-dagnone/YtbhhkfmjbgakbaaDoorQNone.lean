/-
  DagNone, walked.
-/
import Derived.Test.YtbhhkfmjbgakbaaDoorQAwake
namespace Go.DagLib
open Go.RepoLib
theorem far_has {N : Nat} {m : Int} (h : m < 1 ∨ (N : Int) < m) : hasN N m = false := by
  unfold hasN
  rw [Bool.and_eq_false_iff, decide_eq_false_iff_not, decide_eq_false_iff_not]
  omega
theorem ahead_far {L : List Cm} {m : Int} (h : hasN L.length m = false) : aheadI L m = [] := by unfold aheadI; rw [h, if_neg Bool.false_ne_true]
theorem first_far {L : List Cm} {m : Int} (h : hasN L.length m = false) : fstI L m = [] := by unfold fstI; rw [h, if_neg Bool.false_ne_true]
theorem depth_far {L : List Cm} {m : Int} (h : hasN L.length m = false) : depI L m = 0 := by unfold depI; rw [h, if_neg Bool.false_ne_true]
theorem par_far {L : List Cm} {m : Int} (h : hasN L.length m = false) : (getC L m).1 = [] := by unfold getC; rw [h, if_neg Bool.false_ne_true]; rfl
end Go.DagLib
namespace Go.Proofs.YtbhhkfmjbgakbaaDoor
open Go.RowKit Go.Shelf Go.SeqLib Go.DiffLib Go.TreeLib Go.RepoLib Go.DagLib Go.BigFrame
attribute [local go_sem] Oper.semAt_some

def twL : List Cm := mkL 0 ([0, 1].map uN)
theorem tw_ok : ParOk twL := made_ok _
theorem tw_len : twL.length = 2 := rfl
theorem tw_ahead : aheadI twL 1 = [1] := by decide +kernel

set_option maxRecDepth 100000 in
set_option maxHeartbeats 4000000 in
theorem dnone_law {Rep : Nat → Rp → Blk → Blk → World → Prop} (P : PutSpec Rep) (J : DagSpec Rep) (n : Int) (w : World) : CallsIn Fence.wide 0 Tryd.prog 6 #[iv n] w fun e w' => e = .returned (.bool true) ∧ Chg No w w' := by
  have hnil : ∀ (B : Nat) (w : World), (binOp .eql 24 (ptr B) (.pointer none)).run Tryd.prog w = .ok (.bool false) w := fun B w => by simp [go_sem]
  have s0 : SlV (w.alloc (.cells #[.int .i64 0, .int .i64 1] 3)) (.slice (some ⟨w.heap.size, 0, none⟩) 2 2) (([0, 1] : List Int).map iv) := SlV.made w [.int .i64 0, .int .i64 1] 3 (by simp)
  have c0 : Chg No w (w.alloc (.cells #[.int .i64 0, .int .i64 1] 3)) := (Chg.refl _ w).alloc _
  refine callsIn_of_wp Tryd.func6 rfl trivial ?_
  simp only [Tryd.ntmps6, List.size_toArray, List.length_cons, List.length_nil, Nat.reduceAdd, Nat.reduceSub, Array.replicate_succ, Array.replicate_zero, List.push_toArray, List.append_toArray, List.nil_append, List.cons_append]
  gi_wp2_with fail
  refine ⟨trivial, rfl, (made_in P _ 2 _ [0, 1] rfl (by omega) _ s0).mono ?_⟩
  rintro e w1 ⟨B, Bw, S, O, lv, rows, rfl, r1, _, hS, c1⟩
  have r1 : Rep B (twL, 60) S O w1 := r1
  have k1 := Chg.seq c0 c1
  have L1 := low_in n 1000 (by omega) (by omega) w1
  obtain ⟨hlo, hhi⟩ := lowI_range n 1000 (by omega) (by omega)
  obtain ⟨m, hm⟩ : ∃ m, 3 + lowI n 1000 = m := ⟨_, rfl⟩
  have hm1 : 3 ≤ m := by omega
  have hm2 : m ≤ 1002 := by omega
  have hfar : hasN twL.length m = false := far_has (.inr (by rw [tw_len]; omega))
  have hneg : hasN twL.length (-m) = false := far_has (.inl (by omega))
  have h60 : twL.length ≤ 60 := by rw [tw_len]; omega
  clear s0 c0 c1
  gi_wp2_with fail
  refine ⟨trivial, rfl, L1.mono ?_⟩
  rintro e w2 ⟨rfl, hw⟩
  subst hw
  gi_wp2_with fail
  refine ⟨trivial, rfl, (J.aheadN n _).mono ?_⟩
  rintro e w3 ⟨v3, rfl, s3, c3⟩
  have k3 := Chg.seq k1 c3
  have r3 := P.no r1 c3
  gi_wp2_with fail
  refine ⟨trivial, rfl, (intsV_in v3 _ [] 9 (by omega) w3 s3 rfl).mono ?_⟩
  rintro e w4 ⟨v4, rfl, o4, c4⟩
  obtain ⟨p4, q4, rfl⟩ : ∃ p k, v4 = .slice p 0 k := row_slice o4
  have k4 := Chg.seq k3 c4
  have r4 := P.no r3 c4
  clear L1 s3 o4 k1 k3 r1 r3 c3 c4
  gi_wp2_with fail
  refine ⟨trivial, rfl, (J.isN n n _).mono ?_⟩
  rintro e w5 ⟨rfl, c5⟩
  have k5 := Chg.seq k4 c5
  have r5 := P.no r4 c5
  gi_wp2_with fail
  refine ⟨trivial, rfl, (J.depthN n _).mono ?_⟩
  rintro e w6 ⟨rfl, c6⟩
  have k6 := Chg.seq k5 c6
  have r6 := P.no r5 c6
  have A6 := J.ahead B _ S O m w6 r6 tw_ok h60 (by omega) (by omega)
  rw [ahead_far hfar] at A6
  clear k4 r4 k5 r5 c5 c6
  gi_wp2_with fail
  refine ⟨trivial, rfl, A6.mono ?_⟩
  rintro e w7 ⟨v7, rfl, s7, c7⟩
  have k7 := Chg.seq k6 c7
  have r7 := P.no r6 c7
  gi_wp2_with fail
  refine ⟨trivial, rfl, (intsV_in v7 _ [] 9 (by omega) w7 s7 rfl).mono ?_⟩
  rintro e w8 ⟨v8, rfl, o8, c8⟩
  obtain ⟨p8, q8, rfl⟩ : ∃ p k, v8 = .slice p 0 k := row_slice o8
  have k8 := Chg.seq k7 c8
  have r8 := P.no r7 c8
  have B8 := J.is B _ S O m m w8 r8 tw_ok h60 (by omega) (by omega) (by omega) (by omega)
  rw [ahead_far hfar, show decide (m ∈ ([] : List Int)) = false from decide_eq_false (by simp)] at B8
  clear A6 s7 o8 k6 r6 k7 r7 c7 c8
  gi_wp2_with fail
  refine ⟨trivial, rfl, B8.mono ?_⟩
  rintro e w9 ⟨rfl, c9⟩
  have k9 := Chg.seq k8 c9
  have r9 := P.no r8 c9
  have B9 := J.is B _ S O 1 m w9 r9 tw_ok h60 (by omega) (by omega) (by omega) (by omega)
  rw [ahead_far hfar, show decide ((1 : Int) ∈ ([] : List Int)) = false from decide_eq_false (by simp)] at B9
  clear B8 k8 r8 c9
  gi_wp2_with fail
  refine ⟨trivial, rfl, B9.mono ?_⟩
  rintro e w10 ⟨rfl, c10⟩
  have k10 := Chg.seq k9 c10
  have r10 := P.no r9 c10
  have B10 := J.is B _ S O m 1 w10 r10 tw_ok h60 (by omega) (by omega) (by omega) (by omega)
  rw [tw_ahead, show decide (m ∈ ([1] : List Int)) = false from decide_eq_false (by simp; omega)] at B10
  clear B9 k9 r9 c10
  gi_wp2_with fail
  refine ⟨trivial, rfl, B10.mono ?_⟩
  rintro e w11 ⟨rfl, c11⟩
  have k11 := Chg.seq k10 c11
  have r11 := P.no r10 c11
  have B11 := J.depth B _ S O m w11 r11 tw_ok h60 (by omega) (by omega)
  rw [depth_far hfar] at B11
  clear B10 k10 r10 c11
  gi_wp2_with fail
  refine ⟨trivial, rfl, B11.mono ?_⟩
  rintro e w12 ⟨rfl, c12⟩
  have k12 := Chg.seq k11 c12
  have r12 := P.no r11 c12
  have B12 := J.first B _ S O (-m) w12 r12 tw_ok h60 (by omega) (by omega)
  rw [first_far hneg] at B12
  clear B11 k11 r11 c12
  gi_wp2_with fail
  refine ⟨trivial, rfl, B12.mono ?_⟩
  rintro e w13 ⟨v13, rfl, s13, c13⟩
  have k13 := Chg.seq k12 c13
  have r13 := P.no r12 c13
  gi_wp2_with fail
  refine ⟨trivial, rfl, (intsV_in v13 _ [] 9 (by omega) w13 s13 rfl).mono ?_⟩
  rintro e w14 ⟨v14, rfl, o14, c14⟩
  obtain ⟨p14, q14, rfl⟩ : ∃ p k, v14 = .slice p 0 k := row_slice o14
  have k14 := Chg.seq k13 c14
  have r14 := P.no r13 c14
  have B14 := J.parents B _ S O m w14 r14 tw_ok h60 (by omega) (by omega)
  rw [par_far hfar] at B14
  clear B12 s13 o14 k12 r12 k13 r13 c13 c14
  gi_wp2_with fail
  refine ⟨trivial, rfl, B14.mono ?_⟩
  rintro e w15 ⟨v15, rfl, s15, c15⟩
  have k15 := Chg.seq k14 c15
  gi_wp2_with fail
  refine ⟨trivial, rfl, (intsV_in v15 _ [] 9 (by omega) w15 s15 rfl).mono ?_⟩
  rintro e w16 ⟨v16, rfl, o16, c16⟩
  obtain ⟨p16, q16, rfl⟩ : ∃ p k, v16 = .slice p 0 k := row_slice o16
  have k16 := Chg.seq k15 c16
  clear B14 s15 o16 k14 k15 c15 c16
  gi_wp2_with fail
  refine ⟨trivial, rfl, (awakeD_in P J _).mono ?_⟩
  rintro e w17 ⟨rfl, c17⟩
  gi_wp2
  go_ret
  exact ⟨rfl, Chg.seq k16 c17⟩

end Go.Proofs.YtbhhkfmjbgakbaaDoor
