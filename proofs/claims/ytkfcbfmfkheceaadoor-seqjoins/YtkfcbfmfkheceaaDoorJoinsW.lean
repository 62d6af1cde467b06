/-
  SeqJoins answers true at every two lists and number where the library's table is laid, and turns nothing that lay.
-/
import Derived.Test.YtkfcbfmfkheceaaDoorAwake
import Derived.Test.YtkfcbfmfkheceaaDoorPureS
import Derived.Test.YtkfcbfmfkheceaaDoorJoinsS
namespace Go.Proofs.YtkfcbfmfkheceaaDoor
open Go.RowKit Go.Shelf Go.SeqLib
attribute [local go_sem] Oper.semAt_some

set_option maxRecDepth 100000 in
set_option maxHeartbeats 2000000 in
theorem joins_long (p q : Option Addr) (n m cap cap' : Nat) (hn : 40 < n ∨ 40 < m) (a : Int) (w : World) : CallsIn Fence.wide 0 Tryd.prog 4 #[.slice p n cap, .slice q m cap', .int .i64 a] w fun e w' => e = .returned (.bool true) ∧ Chg No w w' := by
  by_cases h1 : 40 < n
  · have h1' : (40 : Int) < (n : Int) := by omega
    clear hn
    refine callsIn_of_wp Tryd.func4 rfl trivial ?_
    simp only [Tryd.ntmps4, List.size_toArray, List.length_cons, List.length_nil, Nat.reduceAdd, Nat.reduceSub, Array.replicate_succ, Array.replicate_zero, List.push_toArray, List.append_toArray, List.nil_append, List.cons_append]
    gi_wp2_with fail
    refine ⟨trivial, rfl, (awake_in _).mono ?_⟩
    rintro e w1 ⟨rfl, c1⟩
    gi_wp2
    go_ret
    exact ⟨rfl, c1⟩
  · have h1' : ¬ (40 : Int) < (n : Int) := by omega
    have h2' : (40 : Int) < (m : Int) := by omega
    clear hn
    refine callsIn_of_wp Tryd.func4 rfl trivial ?_
    simp only [Tryd.ntmps4, List.size_toArray, List.length_cons, List.length_nil, Nat.reduceAdd, Nat.reduceSub, Array.replicate_succ, Array.replicate_zero, List.push_toArray, List.append_toArray, List.nil_append, List.cons_append]
    gi_wp2_with fail
    refine ⟨trivial, rfl, (awake_in _).mono ?_⟩
    rintro e w1 ⟨rfl, c1⟩
    gi_wp2
    go_ret
    exact ⟨rfl, c1⟩

set_option maxRecDepth 100000 in
set_option maxHeartbeats 4000000 in
theorem joins_in (p q : Option Addr) (cap cap' : Nat) (xs ys : List Int) (hn : xs.length ≤ 40) (hm : ys.length ≤ 40) (a : Int) (w : World) (hx : SlI w (.slice p xs.length cap) xs) (hy : SlI w (.slice q ys.length cap') ys)
    (ox : ∀ x ∈ xs, okI x) (oy : ∀ x ∈ ys, okI x) (ht : TabAt w) :
    CallsIn Fence.wide 0 Tryd.prog 4 #[.slice p xs.length cap, .slice q ys.length cap', .int .i64 a] w fun e w' => e = .returned (.bool true) ∧ Chg No w w' := by
  have hn' : ¬ (40 : Int) < (xs.length : Int) := by omega
  have hm' : ¬ (40 : Int) < (ys.length : Int) := by omega
  have hT0 : 0 < w.heap.size := by obtain ⟨_, _, ho⟩ := ht.obj; exact (Array.getElem?_eq_some_iff.1 ho).1
  refine callsIn_of_wp Tryd.func4 rfl trivial ?_
  simp only [Tryd.ntmps4, List.size_toArray, List.length_cons, List.length_nil, Nat.reduceAdd, Nat.reduceSub, Array.replicate_succ, Array.replicate_zero, List.push_toArray, List.append_toArray, List.nil_append, List.cons_append]
  gi_wp2_with fail
  refine ⟨trivial, rfl, (of_seq _ xs (by omega) _ hx).mono ?_⟩
  rintro e w1 ⟨g1, l1, D1, rfl, s1, c1, d1⟩
  gi_wp2_with fail
  refine ⟨trivial, rfl, (of_seq _ ys (by omega) _ (hy.chg c1 (fun _ _ h => h))).mono ?_⟩
  rintro e w2 ⟨g2, l2, D2, rfl, s2, c2, d2⟩
  have z1 : ∀ k, D1 k → k ≠ 0 := fun k hk => by have := d1 k hk; omega
  have z2 : ∀ k, D2 k → k ≠ 0 := fun k hk => by have := d2 k hk; have := c1.size; omega
  gi_wp2_with fail
  refine ⟨trivial, rfl, (join_two _ (s1.no c2) s2).mono ?_⟩
  rintro e w3 ⟨g3, l3, D3, rfl, s3, c3, d3⟩
  have z3 : ∀ k, D3 k → k ≠ 0 := fun k hk => by
    rcases d3 k hk with h | h | h
    · exact z1 k h
    · exact z2 k h
    · have := c1.size; have := c2.size; omega
  have c03 : Chg No w w3 := (c1.trans c2 (Grew.refl _ _)).trans c3 (Grew.refl _ _)
  have sa := (s1.no c2).no c3
  have sb := s2.no c3
  have t3 := ht.no c03
  clear s1 s2 c1 c2 c3 d1 d2 d3
  -- texts of each, joined
  gi_wp2_with fail
  refine ⟨trivial, rfl, (mapS_seq _ sa ox t3 z1).mono ?_⟩
  rintro e w4 ⟨g4, l4, D4, rfl, s4, c4, _⟩
  gi_wp2_with fail
  refine ⟨trivial, rfl, (mapS_seq _ (sb.no c4) oy (t3.no c4) z2).mono ?_⟩
  rintro e w5 ⟨g5, l5, D5, rfl, s5, c5, _⟩
  gi_wp2_with fail
  refine ⟨trivial, rfl, (joinS_two _ (s4.no c5) s5).mono ?_⟩
  rintro e w6 ⟨g6, l6, D6, rfl, s6, c6, _⟩
  gi_wp2_with fail
  refine ⟨trivial, rfl, (listS_seq (by simp; omega) _ s6).mono ?_⟩
  rintro e w7 ⟨v7, rfl, q7, c7⟩
  have c37 : Chg No w3 w7 := ((c4.trans c5 (Grew.refl _ _)).trans c6 (Grew.refl _ _)).trans c7 (Grew.refl _ _)
  obtain ⟨p7, k7, hv7⟩ : ∃ p7 k7, v7 = .slice p7 (xs.length + ys.length) k7 := by
    obtain ⟨p', c', e, _⟩ := q7
    exact ⟨p', c', by rw [e]; simp⟩
  subst hv7
  clear s4 s5 s6 c4 c5 c6 c7
  gi_wp2_with fail
  refine ⟨trivial, rfl, (mapS_seq _ (s3.no c37) (fun x hx => (List.mem_append.1 hx).elim (ox x) (oy x)) (t3.no c37) z3).mono ?_⟩
  rintro e w8 ⟨g8, l8, D8, rfl, s8, c8, _⟩
  gi_wp2_with fail
  refine ⟨trivial, rfl, (listS_seq (by simp; omega) _ s8).mono ?_⟩
  rintro e w9 ⟨v9, rfl, q9, c9⟩
  have c79 : Chg No w7 w9 := c8.trans c9 (Grew.refl _ _)
  have c39 : Chg No w3 w9 := c37.trans c79 (Grew.refl _ _)
  rw [List.map_append] at q9
  have q79 := q7.no c79
  clear s8 c8 c9 q7 c79 c37
  -- those that are even, of each, joined
  gi_wp2_with fail
  refine ⟨trivial, rfl, (filter_seq _ (sa.no c39) (even_fun _) (fun _ _ h => h)).mono ?_⟩
  rintro e w10 ⟨g10, l10, D10, rfl, s10, c10, _⟩
  gi_wp2_with fail
  refine ⟨trivial, rfl, (filter_seq _ ((sb.no c39).no c10) (even_fun _) (fun _ _ h => h)).mono ?_⟩
  rintro e w11 ⟨g11, l11, D11, rfl, s11, c11, _⟩
  gi_wp2_with fail
  refine ⟨trivial, rfl, (join_two _ (s10.no c11) s11).mono ?_⟩
  rintro e w12 ⟨g12, l12, D12, rfl, s12, c12, _⟩
  have hfl : (xs.filter evenB ++ ys.filter evenB).length ≤ 1000000 := by have h1 := List.length_filter_le evenB xs; have h2 := List.length_filter_le evenB ys; rw [List.length_append]; omega
  have hfl2 : ((xs ++ ys).filter evenB).length ≤ 1000000 := by rw [List.filter_append]; exact hfl
  gi_wp2_with fail
  refine ⟨trivial, rfl, (list_seq hfl _ s12).mono ?_⟩
  rintro e w13 ⟨v13, rfl, r13, c13⟩
  have q13 := SlI.ofRow r13
  have c913 : Chg No w9 w13 := ((c10.trans c11 (Grew.refl _ _)).trans c12 (Grew.refl _ _)).trans c13 (Grew.refl _ _)
  have c313 : Chg No w3 w13 := c39.trans c913 (Grew.refl _ _)
  clear s10 s11 s12 c10 c11 c12 c13 r13
  gi_wp2_with fail
  refine ⟨trivial, rfl, (filter_seq _ (s3.no c313) (even_fun _) (fun _ _ h => h)).mono ?_⟩
  rintro e w14 ⟨g14, l14, D14, rfl, s14, c14, _⟩
  gi_wp2_with fail
  refine ⟨trivial, rfl, (list_seq hfl2 _ s14).mono ?_⟩
  rintro e w15 ⟨v15, rfl, r15, c15⟩
  have q15 := SlI.ofRow r15
  rw [List.filter_append] at q15
  have c1315 : Chg No w13 w15 := c14.trans c15 (Grew.refl _ _)
  have c915 : Chg No w9 w15 := c913.trans c1315 (Grew.refl _ _)
  have c315 : Chg No w3 w15 := c39.trans c915 (Grew.refl _ _)
  have qt := q79.no c915
  have qu := q9.no c915
  have qr := q13.chg c1315 (fun _ _ h => h)
  clear s14 c14 c15 r15 q13 q79 q9 c39 c913 c313 c1315 c915 hfl hfl2
  -- held against one another
  gi_wp2_with fail
  refine ⟨trivial, rfl, (sameS_in _ _ (xs.map itoaS ++ ys.map itoaS) (xs.map itoaS ++ ys.map itoaS) _ qt qu).mono ?_⟩
  rintro e w16 ⟨rfl, c16⟩
  simp only [decide_true]
  gi_wp2_with fail
  refine ⟨trivial, rfl, (same_in _ _ _ _ _ (qr.chg c16 (fun _ _ h => h)) (q15.chg c16 (fun _ _ h => h))).mono ?_⟩
  rintro e w17 ⟨rfl, c17⟩
  simp only [decide_true]
  have c317 : Chg No w3 w17 := (c315.trans c16 (Grew.refl _ _)).trans c17 (Grew.refl _ _)
  gi_wp2_with fail
  refine ⟨trivial, rfl, (fold_seq a _ (s3.no c317)).mono ?_⟩
  rintro e w18 ⟨rfl, c18⟩
  rw [List.foldl_append]
  have c318 : Chg No w3 w18 := c317.trans c18 (Grew.refl _ _)
  gi_wp2_with fail
  refine ⟨trivial, rfl, (fold_seq a _ (sa.no c318)).mono ?_⟩
  rintro e w19 ⟨rfl, c19⟩
  gi_wp2_with fail
  refine ⟨trivial, rfl, (fold_seq _ _ ((sb.no c318).no c19)).mono ?_⟩
  rintro e w20 ⟨rfl, c20⟩
  generalize List.foldl sumW (List.foldl sumW a xs) ys = total at *
  have c020 : Chg No w w20 := ((c03.trans c318 (Grew.refl _ _)).trans c19 (Grew.refl _ _)).trans c20 (Grew.refl _ _)
  gi_wp2_with fail
  refine ⟨trivial, rfl, (awake_in _).mono ?_⟩
  rintro e w21 ⟨rfl, c21⟩
  have c021 : Chg No w w21 := c020.trans c21 (Grew.refl _ _)
  gi_wp2
  go_ret
  exact ⟨rfl, c021⟩

end Go.Proofs.YtkfcbfmfkheceaaDoor
