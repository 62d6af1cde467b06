/-
  What every program that is one answers, asked of dag; what hangs on nobody.
-/
import Derived.Test.YtbhhkfmjbgakbaaDoorQMade
import Derived.Test.YtbhhkfmjbgakbaaDoorLDag
import Derived.Test.YtbhhkfmjbgakbaaDoorSameI
namespace Go.Proofs.YtbhhkfmjbgakbaaDoor
open Go.RowKit Go.Shelf Go.SeqLib Go.DiffLib Go.TreeLib Go.RepoLib Go.DagLib Go.BigFrame
attribute [local go_sem] Oper.semAt_some

theorem PutSpec.no {Rep : Nat → Rp → Blk → Blk → World → Prop} (P : PutSpec Rep) {B : Nat} {s : Rp} {S O : Blk} {W W' : World} (h : Rep B s S O W) (c : Chg No W W') : Rep B s S O W' := (P.part B s O).chg h c (fun _ _ h => h)

def awL : List Cm := mkL 0 ([0, 1, 0, 102].map uN)
theorem aw_ok : ParOk awL := made_ok _
theorem aw_len : awL.length = 4 := rfl
theorem aw_ahead : aheadI awL 4 = [4, 2, 1] := by decide +kernel
theorem aw_first : fstI awL 4 = [4, 1] := by decide +kernel
theorem aw_depth : depI awL 4 = 3 := by decide +kernel

set_option maxRecDepth 100000 in
set_option maxHeartbeats 4000000 in
theorem awakeD_in {Rep : Nat → Rp → Blk → Blk → World → Prop} (P : PutSpec Rep) (J : DagSpec Rep) (w : World) : CallsIn Fence.wide 0 Tryd.prog 8 #[] w fun e w' => e = .returned (.bool true) ∧ Chg No w w' := by
  have hneq : ∀ (B : Nat) (w : World), (binOp .neq 24 (ptr B) (.pointer none)).run Tryd.prog w = .ok (.bool true) w := fun B w => by simp [go_sem]
  have s0 : SlV (w.alloc (.cells #[.int .i64 0, .int .i64 1, .int .i64 0, .int .i64 102] 3)) (.slice (some ⟨w.heap.size, 0, none⟩) 4 4) (([0, 1, 0, 102] : List Int).map iv) := SlV.made w [.int .i64 0, .int .i64 1, .int .i64 0, .int .i64 102] 3 (by simp)
  have c0 : Chg No w (w.alloc (.cells #[.int .i64 0, .int .i64 1, .int .i64 0, .int .i64 102] 3)) := (Chg.refl _ w).alloc _
  refine callsIn_of_wp Tryd.func8 rfl trivial ?_
  simp only [Tryd.ntmps8, List.size_toArray, List.length_nil, Nat.reduceSub, Array.replicate_succ, Array.replicate_zero, List.push_toArray, List.append_toArray, List.nil_append, List.cons_append]
  gi_wp2_with fail
  refine ⟨trivial, rfl, (made_in P _ 4 _ [0, 1, 0, 102] rfl (by omega) _ s0).mono ?_⟩
  rintro e w1 ⟨B, Bw, S, O, lv, rows, rfl, r1, _, hS, c1⟩
  have r1 : Rep B (awL, 60) S O w1 := r1
  have k1 := Chg.seq c0 c1
  have A1 := J.ahead B _ S O 4 w1 r1 aw_ok (by show awL.length ≤ 60; rw [aw_len]; omega) (by omega) (by omega)
  rw [aw_ahead] at A1
  gi_wp2_with fail
  refine ⟨trivial, rfl, A1.mono ?_⟩
  rintro e w2 ⟨v2, rfl, s2, c2⟩
  have k2 := Chg.seq k1 c2
  have r2 := P.no r1 c2
  gi_wp2_with fail
  refine ⟨trivial, rfl, (intsV_in v2 _ [4, 2, 1] 9 (by omega) w2 s2 rfl).mono ?_⟩
  rintro e w3 ⟨v3, rfl, o3, c3⟩
  have k3 := Chg.seq k2 c3
  have r3 := P.no r2 c3
  have s3 : SlV (w3.alloc (.cells #[.int .i64 4, .int .i64 2, .int .i64 1] 3)) (.slice (some ⟨w3.heap.size, 0, none⟩) 3 3) (([4, 2, 1] : List Int).map iv) := SlV.made w3 [.int .i64 4, .int .i64 2, .int .i64 1] 3 (by simp)
  have c4 : Chg No w3 (w3.alloc (.cells #[.int .i64 4, .int .i64 2, .int .i64 1] 3)) := (Chg.refl _ w3).alloc _
  have I4 := sameI_in v3 _ [4, 2, 1] [4, 2, 1] _ (o3.sl.no c4) s3
  rw [decide_eq_true rfl] at I4
  have k4 := Chg.seq k3 c4
  have r4 := P.no r3 c4
  clear A1 s2 o3 s3 c4 c2 c3 k2 k3 r2 r3 s0 c0
  gi_wp2_with fail
  refine ⟨trivial, rfl, I4.mono ?_⟩
  rintro e w5 ⟨rfl, c5⟩
  have k5 := Chg.seq k4 c5
  have r5 := P.no r4 c5
  have B5 := J.is B _ S O 1 4 w5 r5 aw_ok (by show awL.length ≤ 60; rw [aw_len]; omega) (by omega) (by omega) (by omega) (by omega)
  rw [aw_ahead, show decide ((1 : Int) ∈ ([4, 2, 1] : List Int)) = true from rfl] at B5
  clear I4 r4 k4 c5
  gi_wp2_with fail
  refine ⟨trivial, rfl, B5.mono ?_⟩
  rintro e w6 ⟨rfl, c6⟩
  have k6 := Chg.seq k5 c6
  have r6 := P.no r5 c6
  have B6 := J.is B _ S O 3 4 w6 r6 aw_ok (by show awL.length ≤ 60; rw [aw_len]; omega) (by omega) (by omega) (by omega) (by omega)
  rw [aw_ahead, show decide ((3 : Int) ∈ ([4, 2, 1] : List Int)) = false from rfl] at B6
  clear B5 r5 k5 c6
  gi_wp2_with fail
  refine ⟨trivial, rfl, B6.mono ?_⟩
  rintro e w7 ⟨rfl, c7⟩
  have k7 := Chg.seq k6 c7
  have r7 := P.no r6 c7
  have B7 := J.depth B _ S O 4 w7 r7 aw_ok (by show awL.length ≤ 60; rw [aw_len]; omega) (by omega) (by omega)
  rw [aw_depth] at B7
  clear B6 r6 k6 c7
  gi_wp2_with fail
  refine ⟨trivial, rfl, B7.mono ?_⟩
  rintro e w8 ⟨rfl, c8⟩
  have k8 := Chg.seq k7 c8
  have r8 := P.no r7 c8
  have B8 := J.first B _ S O 4 w8 r8 aw_ok (by show awL.length ≤ 60; rw [aw_len]; omega) (by omega) (by omega)
  rw [aw_first] at B8
  clear B7 r7 k7 c8
  gi_wp2_with fail
  refine ⟨trivial, rfl, B8.mono ?_⟩
  rintro e w9 ⟨v9, rfl, s9, c9⟩
  have k9 := Chg.seq k8 c9
  gi_wp2_with fail
  refine ⟨trivial, rfl, (intsV_in v9 _ [4, 1] 9 (by omega) w9 s9 rfl).mono ?_⟩
  rintro e w10 ⟨v10, rfl, o10, c10⟩
  have k10 := Chg.seq k9 c10
  have s11 : SlV (w10.alloc (.cells #[.int .i64 4, .int .i64 1] 3)) (.slice (some ⟨w10.heap.size, 0, none⟩) 2 2) (([4, 1] : List Int).map iv) := SlV.made w10 [.int .i64 4, .int .i64 1] 3 (by simp)
  have c11 : Chg No w10 (w10.alloc (.cells #[.int .i64 4, .int .i64 1] 3)) := (Chg.refl _ w10).alloc _
  have I11 := sameI_in v10 _ [4, 1] [4, 1] _ (o10.sl.no c11) s11
  rw [decide_eq_true rfl] at I11
  have k11 := Chg.seq k10 c11
  clear B8 s9 o10 s11 c11 c9 c10 k9 k10
  gi_wp2_with fail
  refine ⟨trivial, rfl, I11.mono ?_⟩
  rintro e w12 ⟨rfl, c12⟩
  gi_wp2
  go_ret
  exact ⟨rfl, Chg.seq k11 c12⟩

end Go.Proofs.YtbhhkfmjbgakbaaDoor
