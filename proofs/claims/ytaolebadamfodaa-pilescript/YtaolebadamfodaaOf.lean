/-
  The iterators of seq.Of, seq.Count and seq.none keep an iterator's word: the numbers of the list; those from lo to below hi; none.
-/
import Derived.Test.YtaolebadamfodaaBase
namespace Go.Proofs.Ytaolebadamfodaa
open Go.RowKit Go.Shelf Go.SeqLib
attribute [local go_sem] Oper.semAt_some

/-- lo, the next number, and so on: m of them. -/
def upto (lo : Int) (m : Nat) : List Int := (List.range m).map fun (i : Nat) => lo + (i : Int)
theorem upto_succ (lo : Int) (m : Nat) : upto lo (m + 1) = upto lo m ++ [lo + (m : Int)] := by simp [upto, List.range_succ]
theorem upto_pre (lo : Int) {k m : Nat} (h : k ≤ m) : upto lo k <+: upto lo m := by
  unfold upto
  refine List.IsPrefix.map _ ?_
  obtain ⟨d, rfl⟩ := Nat.exists_eq_add_of_le h
  exact ⟨_, List.range_add.symm⟩

set_option maxHeartbeats 1000000 in
theorem none1 : Iter Try.prog 50 #[] encI [] (fun _ => False) (fun _ => False) (fun _ => True) (fun _ _ => True) := {
  sub := fun _ h => h
  lt0 := fun _ _ h => h.elim
  kept0 := fun _ _ _ => trivial
  kept := fun _ _ _ => trivial
  runs := by
    intro l J Jx S W pJ pJx hY hI hJ hDS
    refine callsIn_of_wp Try.func50 rfl trivial ?_
    simp only [Try.ntmps50, List.size_toArray, List.length_cons, List.length_nil, Nat.reduceAdd, Nat.reduceSub, Array.replicate_succ, Array.replicate_zero, List.push_toArray, List.append_toArray, List.nil_append, List.cons_append]
    gi_wp2
    go_end0
    exact ⟨⟨_, rfl⟩, [], S, .inl ⟨rfl, hJ⟩, trivial, Chg.refl _ _, Grew.refl _ _⟩ }

end Go.Proofs.Ytaolebadamfodaa
