/-
  What every program that is one answers, asked of base.
-/
import Derived.Test.YtmpgeacfnikbpaaDoorQMade
import Derived.Test.YtmpgeacfnikbpaaDoorLBase
import Derived.Test.YtmpgeacfnikbpaaDoorSameI
namespace Go.Proofs.YtmpgeacfnikbpaaDoor
open Go.RowKit Go.Shelf Go.SeqLib Go.DiffLib Go.TreeLib Go.RepoLib Go.DagLib Go.BigFrame
attribute [local go_sem] Oper.semAt_some

theorem PutSpec.no {Rep : Nat → Rp → Blk → Blk → World → Prop} (P : PutSpec Rep) {B : Nat} {s : Rp} {S O : Blk} {W W' : World} (h : Rep B s S O W) (c : Chg No W W') : Rep B s S O W' := (P.part B s O).chg h c (fun _ _ h => h)

def awE : List Cm := mkL 0 ([0, 1, 1, 302, 203].map uN)
theorem awE_ok : ParOk awE := made_ok _
theorem awE_len : awE.length = 5 := rfl
theorem awE_best : bestL awE 4 5 = [2, 3] := by decide +kernel
theorem awE_com : comL awE 4 5 = [1, 2, 3] := by decide +kernel
theorem awE_self : bestL awE 4 4 = [4] := by decide +kernel

set_option maxRecDepth 100000 in
set_option maxHeartbeats 4000000 in
theorem awakeB_in {Rep : Nat → Rp → Blk → Blk → World → Prop} (P : PutSpec Rep) (J : BaseSpec Rep) (w : World) : CallsIn Fence.wide 0 Tryd.prog 7 #[] w fun e w' => e = .returned (.bool true) ∧ Chg No w w' := by
  have hneq : ∀ (B : Nat) (w : World), (binOp .neq 24 (ptr B) (.pointer none)).run Tryd.prog w = .ok (.bool true) w := fun B w => by simp [go_sem]
  have s0 : SlV (w.alloc (.cells #[.int .i64 0, .int .i64 1, .int .i64 1, .int .i64 302, .int .i64 203] 3)) (.slice (some ⟨w.heap.size, 0, none⟩) 5 5) (([0, 1, 1, 302, 203] : List Int).map iv) := SlV.made w [.int .i64 0, .int .i64 1, .int .i64 1, .int .i64 302, .int .i64 203] 3 (by simp)
  have c0 : Chg No w (w.alloc (.cells #[.int .i64 0, .int .i64 1, .int .i64 1, .int .i64 302, .int .i64 203] 3)) := (Chg.refl _ w).alloc _
  refine callsIn_of_wp Tryd.func7 rfl trivial ?_
  simp only [Tryd.ntmps7, List.size_toArray, List.length_nil, Nat.reduceSub, Array.replicate_succ, Array.replicate_zero, List.push_toArray, List.append_toArray, List.nil_append, List.cons_append]
  gi_wp2_with fail
  refine ⟨trivial, rfl, (made_in P _ 5 _ [0, 1, 1, 302, 203] rfl (by omega) _ s0).mono ?_⟩
  rintro e w1 ⟨B, Bw, S, O, lv, rows, rfl, r1, _, hS, c1⟩
  have r1 : Rep B (awE, 60) S O w1 := r1
  have k1 := Chg.seq c0 c1
  have A1 := J.best B _ S O 4 5 w1 r1 awE_ok (by show awE.length ≤ 60; rw [awE_len]; omega) (by omega) (by omega) (by omega) (by omega)
  rw [awE_best] at A1
  gi_wp2_with fail
  refine ⟨trivial, rfl, A1.mono ?_⟩
  rintro e w3 ⟨v3, rfl, o3, c3⟩
  have k3 := Chg.seq k1 c3
  have r3 := P.no r1 c3
  have s3 : SlV (w3.alloc (.cells #[.int .i64 2, .int .i64 3] 3)) (.slice (some ⟨w3.heap.size, 0, none⟩) 2 2) (([2, 3] : List Int).map iv) := SlV.made w3 [.int .i64 2, .int .i64 3] 3 (by simp)
  have c4 : Chg No w3 (w3.alloc (.cells #[.int .i64 2, .int .i64 3] 3)) := (Chg.refl _ w3).alloc _
  have I4 := sameI_in v3 _ [2, 3] [2, 3] _ (o3.sl.no c4) s3
  rw [decide_eq_true rfl] at I4
  have k4 := Chg.seq k3 c4
  have r4 := P.no r3 c4
  clear A1 o3 s3 c4 c3 r3 s0 c0 r1 k1 k3
  gi_wp2_with fail
  refine ⟨trivial, rfl, I4.mono ?_⟩
  rintro e w5 ⟨rfl, c5⟩
  have k5 := Chg.seq k4 c5
  have r5 := P.no r4 c5
  have A5 := J.common B _ S O 4 5 w5 r5 awE_ok (by show awE.length ≤ 60; rw [awE_len]; omega) (by omega) (by omega) (by omega) (by omega)
  rw [awE_com] at A5
  clear I4 r4 k4 c5
  gi_wp2_with fail
  refine ⟨trivial, rfl, A5.mono ?_⟩
  rintro e w6 ⟨v6, rfl, o6, c6⟩
  have k6 := Chg.seq k5 c6
  have r6 := P.no r5 c6
  have s6 : SlV (w6.alloc (.cells #[.int .i64 1, .int .i64 2, .int .i64 3] 3)) (.slice (some ⟨w6.heap.size, 0, none⟩) 3 3) (([1, 2, 3] : List Int).map iv) := SlV.made w6 [.int .i64 1, .int .i64 2, .int .i64 3] 3 (by simp)
  have c7 : Chg No w6 (w6.alloc (.cells #[.int .i64 1, .int .i64 2, .int .i64 3] 3)) := (Chg.refl _ w6).alloc _
  have I7 := sameI_in v6 _ [1, 2, 3] [1, 2, 3] _ (o6.sl.no c7) s6
  rw [decide_eq_true rfl] at I7
  have k7 := Chg.seq k6 c7
  have r7 := P.no r6 c7
  clear A5 o6 s6 c7 c6 r6 r5 k5 k6
  gi_wp2_with fail
  refine ⟨trivial, rfl, I7.mono ?_⟩
  rintro e w8 ⟨rfl, c8⟩
  have k8 := Chg.seq k7 c8
  have r8 := P.no r7 c8
  have A8 := J.best B _ S O 4 4 w8 r8 awE_ok (by show awE.length ≤ 60; rw [awE_len]; omega) (by omega) (by omega) (by omega) (by omega)
  rw [awE_self] at A8
  clear I7 r7 k7 c8
  gi_wp2_with fail
  refine ⟨trivial, rfl, A8.mono ?_⟩
  rintro e w10 ⟨v10, rfl, o10, c10⟩
  have k10 := Chg.seq k8 c10
  have s11 : SlV (w10.alloc (.cells #[.int .i64 4] 3)) (.slice (some ⟨w10.heap.size, 0, none⟩) 1 1) (([4] : List Int).map iv) := SlV.made w10 [.int .i64 4] 3 (by simp)
  have c11 : Chg No w10 (w10.alloc (.cells #[.int .i64 4] 3)) := (Chg.refl _ w10).alloc _
  have I11 := sameI_in v10 _ [4] [4] _ (o10.sl.no c11) s11
  rw [decide_eq_true rfl] at I11
  have k11 := Chg.seq k10 c11
  clear A8 o10 s11 c11 c10 r8 k8 k10
  gi_wp2_with fail
  refine ⟨trivial, rfl, I11.mono ?_⟩
  rintro e w12 ⟨rfl, c12⟩
  gi_wp2
  go_ret
  exact ⟨rfl, Chg.seq k11 c12⟩

end Go.Proofs.YtmpgeacfnikbpaaDoor
