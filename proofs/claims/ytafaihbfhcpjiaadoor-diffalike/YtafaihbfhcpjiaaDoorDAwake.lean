/-
  The statements' own awake, of chapter 4.
-/
import Derived.Test.YtafaihbfhcpjiaaDoorDSteps
import Derived.Test.YtafaihbfhcpjiaaDoorDApply
import Derived.Test.YtafaihbfhcpjiaaDoorDSame
import Derived.Test.YtafaihbfhcpjiaaDoorTxtH
namespace Go.DiffLib
section
variable {α : Type} [DecidableEq α]
theorem awake_tl (a b x c : α) (h3 : b ≠ c) (h5 : b ≠ x) (h6 : c ≠ x) : tl [a, b, c] [a, x, c] = 2 := by
  simp [tl_cons, tl_nil, tl_nil', h3, h5, h6]
theorem awake_pr (a b x c : α) (h3 : b ≠ c) (h5 : b ≠ x) (h6 : c ≠ x) : pr [a, b, c] [a, x, c] 0 0 = [(0, 0), (2, 2)] := by
  simp [pr_cons, pr_nil, tl_cons, tl_nil, tl_nil', h3, h5, h6]
theorem awake_st (a b x c : α) (h3 : b ≠ c) (h5 : b ≠ x) (h6 : c ≠ x) : stp [a, b, c] [a, x, c] = [(1, 1, 1), (1, 0, 0)] := by
  unfold stp
  rw [awake_pr a b x c h3 h5 h6]
  rfl
end
end Go.DiffLib
namespace Go.Proofs.YtafaihbfhcpjiaaDoor
open Go.RowKit Go.Shelf Go.SeqLib Go.DiffLib Go.BigFrame
attribute [local go_sem] Oper.semAt_some

abbrev tA : ByteArray := ⟨#[97]⟩
abbrev tB : ByteArray := ⟨#[98]⟩
abbrev tC : ByteArray := ⟨#[99]⟩
abbrev tX : ByteArray := ⟨#[120]⟩

set_option maxRecDepth 100000 in
set_option maxHeartbeats 1000000 in
theorem awake_in (w : World) : CallsIn Fence.wide 0 Tryd.prog 4 #[] w fun e w' => e = .returned (.bool true) ∧ Chg No w w' := by
  have n3 : tB ≠ tC := by decide
  have n5 : tB ≠ tX := by decide
  have n6 : tC ≠ tX := by decide
  have HST := awake_st tA tB tX tC n3 n5 n6
  have HTL := awake_tl tA tB tX tC n3 n5 n6
  clear n3 n5 n6
  have c0 : Chg No w ((w.alloc (.cells #[.string tA, .string tB, .string tC] 9)).alloc (.cells #[.string tA, .string tX, .string tC] 9)) := ((Chg.refl _ w).alloc _).alloc _
  have sa : SlV ((w.alloc (.cells #[.string tA, .string tB, .string tC] 9)).alloc (.cells #[.string tA, .string tX, .string tC] 9)) (.slice (some ⟨w.heap.size, 0, none⟩) 3 3) ([tA, tB, tC].map Value.string) :=
    (SlV.made w ([tA, tB, tC].map Value.string) 9 (by decide)).no ((Chg.refl _ _).alloc _)
  have sb : SlV ((w.alloc (.cells #[.string tA, .string tB, .string tC] 9)).alloc (.cells #[.string tA, .string tX, .string tC] 9)) (.slice (some ⟨w.heap.size + 1, 0, none⟩) 3 3) ([tA, tX, tC].map Value.string) := by
    have := SlV.made (w.alloc (.cells #[.string tA, .string tB, .string tC] 9)) ([tA, tX, tC].map Value.string) 9 (by decide)
    rw [World.size_alloc] at this
    exact this
  refine callsIn_of_wp Tryd.func4 rfl trivial ?_
  simp only [Tryd.ntmps4, List.size_toArray, List.length_nil, Nat.reduceSub, Array.replicate_succ, Array.replicate_zero, List.push_toArray, List.append_toArray, List.nil_append, List.cons_append]
  gi_wp2_with fail
  generalize ((w.alloc (.cells #[.string tA, .string tB, .string tC] 9)).alloc (.cells #[.string tA, .string tX, .string tC] 9)) = W0 at *
  refine ⟨trivial, rfl, (steps_in _ _ [tA, tB, tC] [tA, tX, tC] _ sa sb (by decide) (by decide)).mono ?_⟩
  rintro e w1 ⟨v1, rfl, r1, c1⟩
  rw [HST] at r1
  have s1 : SlS w1 v1 [(1, 1, 1), (1, 0, 0)] := SlE.ofRow eS_len r1
  obtain ⟨p1, cp1, rfl⟩ := row_slice r1
  have sa1 := sa.no c1
  have sb1 := sb.no c1
  have c01 := Chg.seq c0 c1
  clear r1 c0 c1 sa sb
  have hap := stp_app [tA, tB, tC] [tA, tX, tC]
  rw [HST] at hap
  have hA := apply_in _ _ _ [tA, tB, tC] [tA, tX, tC] [(1, 1, 1), (1, 0, 0)] _ sa1 sb1 s1 (by decide) (by decide) (by decide)
  rw [hap] at hA
  clear HST hap
  gi_wp2_with fail
  refine ⟨trivial, rfl, hA.mono ?_⟩
  rintro e w2 ⟨⟨v2, rfl, r2⟩, c2⟩
  have s2 : SlV w2 v2 ([tA, tX, tC].map Value.string) := SlV.ofRow r2
  obtain ⟨p2, cp2, rfl⟩ := row_slice r2
  have sa2 := sa1.no c2
  have sb2 := sb1.no c2
  have ss2 := SlE.no eS_len (by decide) s1 c2
  have c02 := Chg.seq c01 c2
  clear r2 c01 c2 sa1 sb1 s1 hA
  have c3 : Chg No w2 (w2.alloc (.cells #[.int .i64 1, .int .i64 1, .int .i64 1, .int .i64 1, .int .i64 0, .int .i64 0] 42)) := (Chg.refl _ w2).alloc _
  have ss3 := SlE.no eS_len (by decide) ss2 c3
  have sx3 : SlS (w2.alloc (.cells #[.int .i64 1, .int .i64 1, .int .i64 1, .int .i64 1, .int .i64 0, .int .i64 0] 42)) (.slice (some ⟨w2.heap.size, 0, none⟩) 2 2) [(1, 1, 1), (1, 0, 0)] := by
    refine ⟨_, 2, rfl, by decide, by unfold maxLen; decide, fun i x hi => ⟨w2.heap.size, 0, rfl, fun q u hq => ?_⟩⟩
    rw [World.cell?_alloc_at _ _ _ _ rfl]
    have hi2 : i < 2 := (List.getElem?_eq_some_iff.1 hi).1
    have hq3 : q < 3 := by have := (List.getElem?_eq_some_iff.1 hq).1; rwa [eS_len] at this
    match i, hi2 with
    | 0, _ =>
      cases hi
      match q, hq3 with
      | 0, _ => exact hq
      | 1, _ => exact hq
      | 2, _ => exact hq
    | 1, _ =>
      cases hi
      match q, hq3 with
      | 0, _ => exact hq
      | 1, _ => exact hq
      | 2, _ => exact hq
  have s3 := s2.no c3
  have sa3 := sa2.no c3
  have sb3 := sb2.no c3
  have c03 := Chg.seq c02 c3
  gi_wp2_with fail
  generalize (w2.alloc (.cells #[.int .i64 1, .int .i64 1, .int .i64 1, .int .i64 1, .int .i64 0, .int .i64 0] 42)) = W3 at *
  refine ⟨trivial, rfl, (sameSteps_in _ _ _ _ _ ss3 sx3 (by decide)).mono ?_⟩
  rintro e w4 ⟨rfl, c4⟩
  rw [decide_eq_true rfl]
  have s4 := s3.no c4
  have sa4 := sa3.no c4
  have sb4 := sb3.no c4
  have c04 := Chg.seq c03 c4
  clear c3 c4 c03 c02 s2 s3 sa2 sa3 sb2 sb3 ss2 ss3 sx3
  gi_wp2_with fail
  refine ⟨trivial, rfl, (sameS_in _ _ [tA, tX, tC] [tA, tX, tC] _ s4 sb4).mono ?_⟩
  rintro e w5 ⟨rfl, c5⟩
  rw [decide_eq_true rfl]
  have hL := length_in _ _ [tA, tB, tC] [tA, tX, tC] _ (sa4.no c5) (sb4.no c5) (by decide) (by decide)
  rw [HTL] at hL
  have c05 := Chg.seq c04 c5
  clear HTL s4 sa4 sb4 c04 c5
  gi_wp2_with fail
  refine ⟨trivial, rfl, hL.mono ?_⟩
  rintro e w6 ⟨rfl, c6⟩
  gi_wp2
  go_ret
  exact ⟨rfl, Chg.seq c05 c6⟩

end Go.Proofs.YtafaihbfhcpjiaaDoor
