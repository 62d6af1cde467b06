/-
  The statements' own awake answers true, and turns nothing.
-/
import Derived.Test.YtlmjliomncjohaaLineC
namespace Go.Proofs.Ytlmjliomncjohaa
open Go.RowKit Go.Shelf Go.SeqLib Go.LineLib
attribute [local go_sem] Oper.semAt_some

theorem awake_lines : linesB ⟨#[97, 10, 98]⟩ = [⟨#[97, 10]⟩, ⟨#[98]⟩] := by
  unfold linesB
  rw [show linesL (L ⟨#[97, 10, 98]⟩) = [[97, 10], [98]] from by decide]
  rfl
theorem awake_line : linesB ⟨#[97]⟩ = [⟨#[97]⟩] := by
  unfold linesB
  rw [show linesL (L ⟨#[97]⟩) = [[97]] from by decide]
  rfl
theorem awake_cat : catB [⟨#[97, 10]⟩, ⟨#[98]⟩] = ⟨#[97, 10, 98]⟩ := rfl

set_option maxRecDepth 100000 in
set_option maxHeartbeats 2000000 in
theorem awake_in (w : World) : CallsIn Fence.wide 0 Try.prog 8 #[] w fun e w' => e = .returned (.bool true) ∧ Chg No w w' := by
  refine callsIn_of_wp Try.func8 rfl trivial ?_
  simp only [Try.ntmps8, List.size_toArray, List.length_nil, Nat.reduceSub, Array.replicate_succ, Array.replicate_zero, List.push_toArray, List.append_toArray, List.nil_append, List.cons_append]
  gi_wp2_with fail
  refine ⟨trivial, rfl, (split_in ⟨#[97, 10, 98]⟩ (by decide) _).mono ?_⟩
  rintro e w1 ⟨v1, rfl, r1, c1⟩
  rw [awake_lines] at r1
  have q1 : SlV (w1.alloc (.cells #[.string ⟨#[97, 10]⟩, .string ⟨#[98]⟩] 9)) v1 [.string ⟨#[97, 10]⟩, .string ⟨#[98]⟩] := (SlV.ofRow (vals := [.string ⟨#[97, 10]⟩, .string ⟨#[98]⟩]) r1).no ((Chg.refl No w1).alloc _)
  have t1 := SlV.made w1 [.string ⟨#[97, 10]⟩, .string ⟨#[98]⟩] 9 (by simp)
  gi_wp2_with fail
  refine ⟨trivial, rfl, (sameS_in v1 _ [⟨#[97, 10]⟩, ⟨#[98]⟩] [⟨#[97, 10]⟩, ⟨#[98]⟩] _ q1 t1).mono ?_⟩
  rintro e w2 ⟨rfl, c2⟩
  simp only [decide_true]
  have c02 : Chg No w w2 := Chg.seq (c1.alloc _) c2
  have t2 := SlV.made w2 [.string ⟨#[97, 10]⟩, .string ⟨#[98]⟩] 9 (by simp)
  gi_wp2_with fail
  refine ⟨trivial, rfl, (join_in _ [⟨#[97, 10]⟩, ⟨#[98]⟩] _ t2 (by rw [awake_cat]; decide) (by decide)).mono ?_⟩
  rintro e w3 ⟨rfl, c3⟩
  rw [awake_cat]
  have c03 : Chg No w w3 := Chg.seq (c02.alloc _) c3
  gi_wp2_with fail
  refine ⟨trivial, rfl, (binary_in ⟨#[0]⟩ _).mono ?_⟩
  rintro e w4 ⟨rfl, rfl⟩
  rw [show decide ((0 : UInt8) ∈ L ⟨#[0]⟩) = true from by decide]
  gi_wp2_with fail
  refine ⟨trivial, rfl, (few_in ⟨#[97]⟩ (by decide) _).mono ?_⟩
  rintro e w5 ⟨rfl, c5⟩
  rw [show decide ((linesB ⟨#[97]⟩).length ≤ 60) = true from by rw [awake_line]; decide]
  gi_wp2
  go_ret
  exact ⟨rfl, Chg.seq c03 c5⟩

end Go.Proofs.Ytlmjliomncjohaa
