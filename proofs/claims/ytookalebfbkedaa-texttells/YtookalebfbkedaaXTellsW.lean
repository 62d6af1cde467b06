/-
  TextTells answers true at every three texts, and turns nothing that lay.
-/
import Derived.Test.YtookalebfbkedaaXAwake
import Derived.Test.YtookalebfbkedaaXRef
namespace Go.Proofs.Ytookalebfbkedaa
open Go.RowKit Go.Shelf Go.SeqLib Go.LineLib Go.DiffLib Go.TextLib Go.BigFrame
attribute [local go_sem] Oper.semAt_some

set_option maxRecDepth 100000 in
set_option maxHeartbeats 4000000 in
theorem tells_law (o a b : ByteArray) (w : World) (_ : o.size ≤ maxLen) (_ : a.size ≤ maxLen) (_ : b.size ≤ maxLen) :
    CallsIn Fence.wide 0 Try.prog 3 #[.string o, .string a, .string b] w fun e w' => e = .returned (.bool true) ∧ Chg No w w' := by
  refine callsIn_of_wp Try.func3 rfl trivial ?_
  simp only [Try.ntmps3, List.size_toArray, List.length_cons, List.length_nil, Nat.reduceAdd, Nat.reduceSub, Array.replicate_succ, Array.replicate_zero, List.push_toArray, List.append_toArray, List.nil_append, List.cons_append]
  by_cases h1 : 500 < o.size
  · have g1 : (500 : Int) < (o.size : Int) := by omega
    gi_wp2_with fail
    refine ⟨trivial, rfl, (awake_in _).mono ?_⟩
    rintro e w1 ⟨rfl, c1⟩
    gi_wp2
    go_ret
    exact ⟨rfl, c1⟩
  have g1 : ¬ (500 : Int) < (o.size : Int) := by omega
  by_cases h2 : 500 < a.size
  · have g2 : (500 : Int) < (a.size : Int) := by omega
    gi_wp2_with fail
    refine ⟨trivial, rfl, (awake_in _).mono ?_⟩
    rintro e w1 ⟨rfl, c1⟩
    gi_wp2
    go_ret
    exact ⟨rfl, c1⟩
  have g2 : ¬ (500 : Int) < (a.size : Int) := by omega
  by_cases h3 : 500 < b.size
  · have g3 : (500 : Int) < (b.size : Int) := by omega
    gi_wp2_with fail
    refine ⟨trivial, rfl, (awake_in _).mono ?_⟩
    rintro e w1 ⟨rfl, c1⟩
    gi_wp2
    go_ret
    exact ⟨rfl, c1⟩
  have g3 : ¬ (500 : Int) < (b.size : Int) := by omega
  have M1 := tmerge_in o a b (by omega) (by omega) (by omega)
  have M2 := refTMerge_in o a b (by omega) (by omega) (by omega)
  have M3 := tconf_in o a b (by omega) (by omega) (by omega)
  have M4 := refConf_in o a b (by omega) (by omega) (by omega)
  generalize txt (tm o a b) = m at *
  generalize (tm o a b).isSome = z at *
  generalize tc o a b = c at *
  have qm := eqT_true (rfl : m = m)
  have qz : (z == z) = true := by simp
  have qc : ((c : Int) == (c : Int)) = true := by simp
  clear h1 h2 h3
  gi_wp2_with fail
  refine ⟨trivial, rfl, (M1 _).mono ?_⟩
  rintro e w1 ⟨rfl, c1⟩
  gi_wp2_with fail
  refine ⟨trivial, rfl, (M2 _).mono ?_⟩
  rintro e w2 ⟨rfl, c2⟩
  gi_wp2_with fail
  refine ⟨trivial, rfl, (M3 _).mono ?_⟩
  rintro e w3 ⟨rfl, c3⟩
  gi_wp2_with fail
  refine ⟨trivial, rfl, (M4 _).mono ?_⟩
  rintro e w4 ⟨rfl, c4⟩
  gi_wp2_with fail
  refine ⟨trivial, rfl, (awake_in _).mono ?_⟩
  rintro e w5 ⟨rfl, c5⟩
  gi_wp2
  go_ret
  exact ⟨rfl, Chg.seq (Chg.seq (Chg.seq c1 c2) (Chg.seq c3 c4)) c5⟩

end Go.Proofs.Ytookalebfbkedaa
