/-
  RepoNone answers true at every number, and turns nothing that lay.
-/
import Derived.Test.YtconingjdgmodaaDoorLRepo
namespace Go.Proofs.YtconingjdgmodaaDoor
open Go.RowKit Go.Shelf Go.SeqLib Go.DiffLib Go.TreeLib Go.RepoLib Go.BigFrame
attribute [local go_sem] Oper.semAt_some

set_option maxRecDepth 100000 in
set_option maxHeartbeats 4000000 in
theorem rnone_law {Rep : Nat → Rp → Blk → World → Prop} (J : RepoSpec Rep) (n : Int) (w : World) : CallsIn Fence.wide 0 Tryd.prog 6 #[iv n] w fun e w' => e = .returned (.bool true) ∧ Chg No w w' := by
  have A1 := J.addN No (bareV ⟨#[]⟩) noC w (CmD.bare _ _ _) (bare_small _ (by show 0 ≤ 100; omega))
  have G2 := fun W => J.getN n W
  have F4 := fun W => J.findN No (bareV ⟨#[]⟩) noC W (CmD.bare _ _ _) (bare_small _ (by show 0 ≤ 100; omega))
  have L5 := fun W => J.lenN W
  have C6 := fun W => J.copyN n W
  have K7 := fun W => awakeR_in J W
  refine callsIn_of_wp Tryd.func6 rfl trivial ?_
  simp only [Tryd.ntmps6, List.size_toArray, List.length_cons, List.length_nil, Nat.reduceAdd, Nat.reduceSub, Array.replicate_succ, Array.replicate_zero, List.push_toArray, List.append_toArray, List.nil_append, List.cons_append]
  gi_wp2_with fail
  refine ⟨trivial, rfl, A1.mono ?_⟩
  rintro e w1 ⟨rfl, c1⟩
  gi_wp2_with fail
  refine ⟨trivial, rfl, (G2 _).mono ?_⟩
  rintro e w2 ⟨rfl, c2⟩
  have c02 := Chg.seq c1 c2
  have S3 := fun W => sameC_in (bareV ⟨#[]⟩) (bareV ⟨#[]⟩) noC noC No No (by simp [noC]) W (CmD.bare _ _ _) (CmD.bare _ _ _)
  simp only [decide_true] at S3
  clear A1 G2 c1 c2
  gi_wp2_with fail
  refine ⟨trivial, rfl, (S3 _).mono ?_⟩
  rintro e w3 ⟨rfl, c3⟩
  gi_wp2_with fail
  refine ⟨trivial, rfl, (F4 _).mono ?_⟩
  rintro e w4 ⟨rfl, c4⟩
  gi_wp2_with fail
  refine ⟨trivial, rfl, (L5 _).mono ?_⟩
  rintro e w5 ⟨rfl, c5⟩
  gi_wp2_with fail
  refine ⟨trivial, rfl, (C6 _).mono ?_⟩
  rintro e w6 ⟨rfl, c6⟩
  have c26 := Chg.seq c3 (Chg.seq c4 (Chg.seq c5 c6))
  gi_wp2_with fail
  refine ⟨trivial, rfl, (K7 _).mono ?_⟩
  rintro e w7 ⟨rfl, c7⟩
  gi_wp2
  go_ret
  exact ⟨rfl, Chg.seq c02 (Chg.seq ((Chg.refl No w2).alloc _) (Chg.seq c26 c7))⟩

end Go.Proofs.YtconingjdgmodaaDoor
