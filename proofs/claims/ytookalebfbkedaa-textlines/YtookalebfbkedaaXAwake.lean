/-
  What every program answers that is one: the statements' own beginning.
-/
import Derived.Test.YtookalebfbkedaaXConf
namespace Go.Proofs.Ytookalebfbkedaa
open Go.RowKit Go.Shelf Go.SeqLib Go.LineLib Go.DiffLib Go.TextLib Go.BigFrame
attribute [local go_sem] Oper.semAt_some

set_option maxRecDepth 100000 in
set_option maxHeartbeats 2000000 in
theorem awake_in (w : World) : CallsIn Fence.wide 0 Try.prog 7 #[] w fun e w' => e = .returned (.bool true) ∧ Chg No w w' := by
  have h1 := fun W => tmerge_in ⟨#[97, 10, 98, 10]⟩ ⟨#[97, 10, 66, 10]⟩ ⟨#[65, 10, 98, 10]⟩ (by decide) (by decide) (by decide) W
  have h2 := fun W => tmerge_in ⟨#[97, 10, 98, 10, 99, 10]⟩ ⟨#[65, 10, 98, 10, 99, 10]⟩ ⟨#[97, 10, 98, 10, 67, 10]⟩ (by decide) (by decide) (by decide) W
  have h3 := fun W => tconf_in ⟨#[97, 10, 98, 10]⟩ ⟨#[97, 10, 66, 10]⟩ ⟨#[65, 10, 98, 10]⟩ (by decide) (by decide) (by decide) W
  have h4 := fun W => tconf_in ⟨#[]⟩ ⟨#[120]⟩ ⟨#[120]⟩ (by decide) (by decide) (by decide) W
  rw [awake_no.1] at h1
  rw [awake_yes] at h2
  rw [awake_no.2] at h3
  rw [awake_like] at h4
  obtain ⟨t1, ht1⟩ : ∃ t, t = txt none := ⟨_, rfl⟩
  rw [← ht1] at h1
  clear ht1
  have ht2 : txt (some ⟨#[65, 10, 98, 10, 67, 10]⟩) = ⟨#[65, 10, 98, 10, 67, 10]⟩ := rfl
  rw [ht2] at h2
  clear ht2
  refine callsIn_of_wp Try.func7 rfl trivial ?_
  simp only [Try.ntmps7, List.size_toArray, List.length_nil, Nat.reduceSub, Array.replicate_succ, Array.replicate_zero, List.push_toArray, List.append_toArray, List.nil_append, List.cons_append]
  gi_wp2_with fail
  refine ⟨trivial, rfl, (h1 _).mono ?_⟩
  rintro e w1 ⟨rfl, c1⟩
  gi_wp2_with fail
  refine ⟨trivial, rfl, (h2 _).mono ?_⟩
  rintro e w2 ⟨rfl, c2⟩
  gi_wp2_with fail
  refine ⟨trivial, rfl, (h3 _).mono ?_⟩
  rintro e w3 ⟨rfl, c3⟩
  gi_wp2_with fail
  refine ⟨trivial, rfl, (h4 _).mono ?_⟩
  rintro e w4 ⟨rfl, c4⟩
  gi_wp2
  go_ret
  exact ⟨rfl, Chg.seq c1 (Chg.seq c2 (Chg.seq c3 c4))⟩

end Go.Proofs.Ytookalebfbkedaa
