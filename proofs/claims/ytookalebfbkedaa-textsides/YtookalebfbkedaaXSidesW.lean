/-
  TextSides answers true at every three texts, and turns nothing that lay.
-/
import Derived.Test.YtookalebfbkedaaXAwake
namespace Go.Proofs.Ytookalebfbkedaa
open Go.RowKit Go.Shelf Go.SeqLib Go.LineLib Go.DiffLib Go.TextLib Go.BigFrame
attribute [local go_sem] Oper.semAt_some

set_option maxRecDepth 100000 in
set_option maxHeartbeats 4000000 in
theorem sides_law (o a b : ByteArray) (w : World) (_ : o.size ≤ maxLen) (_ : a.size ≤ maxLen) (_ : b.size ≤ maxLen) :
    CallsIn Fence.wide 0 Try.prog 4 #[.string o, .string a, .string b] w fun e w' => e = .returned (.bool true) ∧ Chg No w w' := by
  refine callsIn_of_wp Try.func4 rfl trivial ?_
  simp only [Try.ntmps4, List.size_toArray, List.length_cons, List.length_nil, Nat.reduceAdd, Nat.reduceSub, Array.replicate_succ, Array.replicate_zero, List.push_toArray, List.append_toArray, List.nil_append, List.cons_append]
  by_cases h1 : 500 < o.size
  · have g1 : (500 : Int) < (o.size : Int) := by omega
    gi_wp2_with fail
    refine ⟨trivial, rfl, (awake_in _).mono ?_⟩
    rintro e w1 ⟨rfl, c1⟩
    gi_wp2
    go_ret
    exact ⟨rfl, c1⟩
  have g1 : ¬ (500 : Int) < (o.size : Int) := by omega
  by_cases h2 : 500 < a.size
  · have g2 : (500 : Int) < (a.size : Int) := by omega
    gi_wp2_with fail
    refine ⟨trivial, rfl, (awake_in _).mono ?_⟩
    rintro e w1 ⟨rfl, c1⟩
    gi_wp2
    go_ret
    exact ⟨rfl, c1⟩
  have g2 : ¬ (500 : Int) < (a.size : Int) := by omega
  by_cases h3 : 500 < b.size
  · have g3 : (500 : Int) < (b.size : Int) := by omega
    gi_wp2_with fail
    refine ⟨trivial, rfl, (awake_in _).mono ?_⟩
    rintro e w1 ⟨rfl, c1⟩
    gi_wp2
    go_ret
    exact ⟨rfl, c1⟩
  have g3 : ¬ (500 : Int) < (b.size : Int) := by omega
  have M1 := tmerge_in o a b (by omega) (by omega) (by omega)
  have M2 := tmerge_in o b a (by omega) (by omega) (by omega)
  have M3 := tmerge_in o a a (by omega) (by omega) (by omega)
  have M4 := tmerge_in o o b (by omega) (by omega) (by omega)
  have M5 := tmerge_in o a o (by omega) (by omega) (by omega)
  have M6 := tconf_in o a b (by omega) (by omega) (by omega)
  have M7 := tconf_in o b a (by omega) (by omega) (by omega)
  have HZ := tc_zero o a b
  rw [tm_sw] at M2
  rw [tm_like] at M3
  rw [tm_left] at M4
  rw [tm_right] at M5
  rw [tc_sw] at M7
  generalize txt (tm o a b) = m at *
  generalize (tm o a b).isSome = z at *
  generalize tc o a b = c at *
  have ht : ∀ s : ByteArray, txt (some s) = s := fun _ => rfl
  have hs : ∀ s : ByteArray, (some s).isSome = true := fun _ => rfl
  rw [ht, hs] at M3 M4 M5
  have qm := eqT_true (rfl : m = m)
  have qa := eqT_true (rfl : a = a)
  have qb := eqT_true (rfl : b = b)
  have qz : (z == z) = true := by simp
  have qc : ((c : Int) == (c : Int)) = true := by simp
  have qq : (((c : Int) == 0) == z) = true := by
    rw [← HZ, beq_iff_eq, Bool.eq_iff_iff]
    simp
  have q0 : (0 : Int) ≤ (c : Int) := by omega
  clear HZ ht hs h1 h2 h3
  gi_wp2_with fail
  refine ⟨trivial, rfl, (M1 _).mono ?_⟩
  rintro e w1 ⟨rfl, c1⟩
  gi_wp2_with fail
  refine ⟨trivial, rfl, (M2 _).mono ?_⟩
  rintro e w2 ⟨rfl, c2⟩
  gi_wp2_with fail
  refine ⟨trivial, rfl, (M3 _).mono ?_⟩
  rintro e w3 ⟨rfl, c3⟩
  gi_wp2_with fail
  refine ⟨trivial, rfl, (M4 _).mono ?_⟩
  rintro e w4 ⟨rfl, c4⟩
  gi_wp2_with fail
  refine ⟨trivial, rfl, (M5 _).mono ?_⟩
  rintro e w5 ⟨rfl, c5⟩
  gi_wp2_with fail
  refine ⟨trivial, rfl, (M6 _).mono ?_⟩
  rintro e w6 ⟨rfl, c6⟩
  gi_wp2_with fail
  refine ⟨trivial, rfl, (M7 _).mono ?_⟩
  rintro e w7 ⟨rfl, c7⟩
  gi_wp2_with fail
  refine ⟨trivial, rfl, (awake_in _).mono ?_⟩
  rintro e w8 ⟨rfl, c8⟩
  gi_wp2
  go_ret
  exact ⟨rfl, Chg.seq (Chg.seq (Chg.seq c1 c2) (Chg.seq c3 c4)) (Chg.seq (Chg.seq c5 c6) (Chg.seq c7 c8))⟩

end Go.Proofs.Ytookalebfbkedaa
