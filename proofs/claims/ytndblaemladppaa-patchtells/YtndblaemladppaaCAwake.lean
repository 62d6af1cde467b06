/-
  What every program answers that is one: the statements' own beginning.
-/
import Derived.Test.YtndblaemladppaaCOf
import Derived.Test.YtndblaemladppaaCApply
namespace Go.Proofs.Ytndblaemladppaa
open Go.RowKit Go.Shelf Go.SeqLib Go.DiffLib Go.TreeLib
attribute [local go_sem] Oper.semAt_some

abbrev awA : List Fl := [(⟨#[120]⟩, ⟨#[49]⟩)]
abbrev awB : List Fl := [(⟨#[120]⟩, ⟨#[50]⟩), (⟨#[121]⟩, ⟨#[51]⟩)]
abbrev awC : List Chn := [(⟨#[120]⟩, true, true, ⟨#[49]⟩, ⟨#[50]⟩), (⟨#[121]⟩, false, true, ⟨#[]⟩, ⟨#[51]⟩)]
theorem awake_of : ofP awA awB = awC := by decide +kernel
theorem awake_app : appP awA awC = some awB := by decide +kernel
theorem awake_appL : appL awA awC = awB := by unfold appL; rw [awake_app]; rfl
theorem awake_appB : appB awA awC = true := by unfold appB; rw [awake_app]; rfl

set_option maxRecDepth 100000 in
set_option maxHeartbeats 2000000 in
theorem awake_in (w : World) : CallsIn Fence.wide 0 Try.prog 5 #[] w fun e w' => e = .returned (.bool true) ∧ Chg No w w' := by
  have hgd := guard_change
  have ca : Chg No w (w.alloc (.cells #[.string ⟨#[120]⟩, .string ⟨#[49]⟩] 43)) := (Chg.refl _ w).alloc _
  have cb : Chg No (w.alloc (.cells #[.string ⟨#[120]⟩, .string ⟨#[49]⟩] 43)) ((w.alloc (.cells #[.string ⟨#[120]⟩, .string ⟨#[49]⟩] 43)).alloc (.cells #[.string ⟨#[120]⟩, .string ⟨#[50]⟩, .string ⟨#[121]⟩, .string ⟨#[51]⟩] 43)) := (Chg.refl _ _).alloc _
  have sa := (SlF.one w (⟨#[120]⟩, ⟨#[49]⟩)).no cb
  have sb := SlF.two (w.alloc (.cells #[.string ⟨#[120]⟩, .string ⟨#[49]⟩] 43)) (⟨#[120]⟩, ⟨#[50]⟩) (⟨#[121]⟩, ⟨#[51]⟩)
  rw [World.size_alloc] at sb
  have c0 := Chg.seq ca cb
  have O := of_in _ _ awA awB (by decide) (by decide) _ sa sb
  rw [awake_of] at O
  refine callsIn_of_wp Try.func5 rfl trivial ?_
  simp only [Try.ntmps5, List.size_toArray, List.length_nil, Nat.reduceSub, Array.replicate_succ, Array.replicate_zero, List.push_toArray, List.append_toArray, List.nil_append, List.cons_append]
  gi_wp2_with fail
  refine ⟨trivial, rfl, O.mono ?_⟩
  rintro e w1 ⟨v1, rfl, r1, c1⟩
  obtain ⟨p1, k1, rfl⟩ := OwnC.slice r1
  have s1 := OwnC.sl r1
  have sa1 := sa.no c1
  have sb1 := sb.no c1
  have c01 := Chg.seq c0 c1
  have AP := apply_in _ (.slice p1 2 k1) awA awC (by decide) w1 sa1 s1
  rw [awake_appL, awake_appB] at AP
  clear O sa sb ca cb c0 c1 r1
  gi_wp2_with fail
  refine ⟨trivial, rfl, AP.mono ?_⟩
  rintro e w2 ⟨v2, rfl, r2, c2⟩
  obtain ⟨p2, k2, rfl⟩ := r2.slice
  have c02 := Chg.seq c01 c2
  obtain ⟨b, off, rfl, h1, h2, h3, h4, h5⟩ := SlC.at (s1.no c2) 0 _ rfl
  have hq := run_eql_change (⟨#[120]⟩, true, true, ⟨#[49]⟩, ⟨#[50]⟩) (⟨#[120]⟩, true, true, ⟨#[49]⟩, ⟨#[50]⟩)
  rw [decide_eq_true rfl] at hq
  have S := sameF_in _ _ awB awB w2 r2.sl (sb1.no c2) (by decide)
  rw [decide_eq_true rfl] at S
  rw [Nat.zero_mul, Nat.add_zero] at h1 h2 h3 h4 h5
  clear AP s1 sa1 sb1 c01 c2 r2
  dsimp only at h1 h2 h3 h4 h5
  dsimp only [vC] at hq
  gi_wp2_with fail
  refine ⟨trivial, rfl, S.mono ?_⟩
  rintro e w3 ⟨rfl, c3⟩
  gi_wp2
  go_ret
  exact ⟨rfl, Chg.seq c02 c3⟩

end Go.Proofs.Ytndblaemladppaa
