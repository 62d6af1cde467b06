/-
  What every program answers that is one: the statements' own beginning.
-/
import Derived.Test.YtikhfojbekpoeaaDoorFMay
import Derived.Test.YtikhfojbekpoeaaDoorFPut
namespace Go.Proofs.YtikhfojbekpoeaaDoor
open Go.RowKit Go.Shelf Go.SeqLib Go.DiffLib Go.TreeLib
attribute [local go_sem] Oper.semAt_some

theorem awake_under : mayB [(⟨#[97]⟩, ⟨#[]⟩), (⟨#[97, 47, 98]⟩, ⟨#[]⟩)] = false := by decide +kernel
theorem awake_beside : mayB [(⟨#[97]⟩, ⟨#[]⟩), (⟨#[97, 45, 98]⟩, ⟨#[]⟩)] = true := by decide +kernel
theorem awake_path : pathB (Bs ⟨#[97, 47, 98]⟩) = true := by decide +kernel
theorem awake_two : pathB (Bs ⟨#[97, 47, 47, 98]⟩) = false := by decide +kernel
theorem awake_put : TreeLib.put [] ⟨#[120]⟩ ⟨#[49]⟩ = [(⟨#[120]⟩, ⟨#[49]⟩)] := rfl

set_option maxRecDepth 100000 in
set_option maxHeartbeats 2000000 in
theorem awake_in (w : World) : CallsIn Fence.wide 0 Tryd.prog 9 #[] w fun e w' => e = .returned (.bool true) ∧ Chg No w w' := by
  have h1 := fun W h => may_in (.slice (some ⟨w.heap.size, 0, none⟩) 2 2) [(⟨#[97]⟩, ⟨#[]⟩), (⟨#[97, 47, 98]⟩, ⟨#[]⟩)] (by decide +kernel) W h
  rw [awake_under] at h1
  have h3 := path_in ⟨#[97, 47, 98]⟩
  rw [awake_path] at h3
  have h4 := path_in ⟨#[97, 47, 47, 98]⟩
  rw [awake_two] at h4
  have h5 := fun W => put_in (.slice none 0 0) [] ⟨#[120]⟩ ⟨#[49]⟩ (by decide) W SlE.nil
  rw [awake_put] at h5
  have s0 := SlF.two w (⟨#[97]⟩, ⟨#[]⟩) (⟨#[97, 47, 98]⟩, ⟨#[]⟩)
  have c0 : Chg No w (w.alloc (.cells #[.string ⟨#[97]⟩, .string ⟨#[]⟩, .string ⟨#[97, 47, 98]⟩, .string ⟨#[]⟩] 46)) := (Chg.refl _ w).alloc _
  refine callsIn_of_wp Tryd.func9 rfl trivial ?_
  simp only [Tryd.ntmps9, List.size_toArray, List.length_nil, Nat.reduceSub, Array.replicate_succ, Array.replicate_zero, List.push_toArray, List.append_toArray, List.nil_append, List.cons_append]
  gi_wp2_with fail
  refine ⟨trivial, rfl, (h1 _ s0).mono ?_⟩
  rintro e w1 ⟨rfl, c1⟩
  clear h1 s0
  have c01 := Chg.seq c0 c1
  have h2 := fun h => may_in (.slice (some ⟨w1.heap.size, 0, none⟩) 2 2) [(⟨#[97]⟩, ⟨#[]⟩), (⟨#[97, 45, 98]⟩, ⟨#[]⟩)] (by decide +kernel) (w1.alloc (.cells #[.string ⟨#[97]⟩, .string ⟨#[]⟩, .string ⟨#[97, 45, 98]⟩, .string ⟨#[]⟩] 46)) h
  rw [awake_beside] at h2
  have s1 := SlF.two w1 (⟨#[97]⟩, ⟨#[]⟩) (⟨#[97, 45, 98]⟩, ⟨#[]⟩)
  have c2 : Chg No w1 (w1.alloc (.cells #[.string ⟨#[97]⟩, .string ⟨#[]⟩, .string ⟨#[97, 45, 98]⟩, .string ⟨#[]⟩] 46)) := (Chg.refl _ w1).alloc _
  clear c0 c1
  gi_wp2_with fail
  refine ⟨trivial, rfl, (h2 s1).mono ?_⟩
  rintro e w2 ⟨rfl, c3⟩
  have c03 := Chg.seq c01 (Chg.seq c2 c3)
  clear h2 s1 c01 c2 c3
  gi_wp2_with fail
  refine ⟨trivial, rfl, (h3 _).mono ?_⟩
  rintro e w3 ⟨rfl, c4⟩
  gi_wp2_with fail
  refine ⟨trivial, rfl, (h4 _).mono ?_⟩
  rintro e w4 ⟨rfl, c5⟩
  gi_wp2_with fail
  refine ⟨trivial, rfl, (h5 _).mono ?_⟩
  rintro e w5 ⟨v5, rfl, r5, c6⟩
  obtain ⟨p5, k5, rfl⟩ := r5.slice
  have c06 := Chg.seq c03 (Chg.seq c4 (Chg.seq c5 c6))
  have c7 : Chg No w5 (w5.alloc (.cells #[.string ⟨#[120]⟩, .string ⟨#[49]⟩] 46)) := (Chg.refl _ w5).alloc _
  have h6 := sameF_in (.slice p5 1 k5) (.slice (some ⟨w5.heap.size, 0, none⟩) 1 1) [(⟨#[120]⟩, ⟨#[49]⟩)] [(⟨#[120]⟩, ⟨#[49]⟩)] (w5.alloc (.cells #[.string ⟨#[120]⟩, .string ⟨#[49]⟩] 46)) (r5.sl.no c7) (SlF.one w5 (⟨#[120]⟩, ⟨#[49]⟩)) (by decide)
  rw [decide_eq_true rfl] at h6
  clear h3 h4 h5 r5
  gi_wp2_with fail
  refine ⟨trivial, rfl, h6.mono ?_⟩
  rintro e w6 ⟨rfl, c8⟩
  gi_wp2
  go_ret
  exact ⟨rfl, Chg.seq c06 (Chg.seq c7 c8)⟩

end Go.Proofs.YtikhfojbekpoeaaDoor
