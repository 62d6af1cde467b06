/-
  SeqNests answers true at every two lists and two numbers, and turns nothing that lay.
-/
import Derived.Test.YtkfcbfmfkheceaaAwake
import Derived.Test.YtkfcbfmfkheceaaNestF
import Derived.Sort.CutIn
namespace Go.Proofs.Ytkfcbfmfkheceaa
open Go.RowKit Go.Shelf Go.SeqLib
attribute [local go_sem] Oper.semAt_some

theorem run_store_func {P : Program} (w : World) (a : Addr) (f : Fn) (r c : Array Value) (m : Mode) : (store a (.func f r c) m).run P w = stored P w a (.func f r c) m := run_store P w a _ m rfl
attribute [local go_sem] run_store_func

set_option maxRecDepth 100000 in
set_option maxHeartbeats 2000000 in
theorem nests_long (p q : Option Addr) (n m cap cap' : Nat) (hn : 60 < n ∨ 60 < m) (a b : Int) (w : World) : CallsIn Fence.wide 0 Try.prog 6 #[.slice p n cap, .slice q m cap', .int .i64 a, .int .i64 b] w fun e w' => e = .returned (.bool true) ∧ Chg No w w' := by
  by_cases h1 : 60 < n
  · have h1' : (60 : Int) < (n : Int) := by omega
    clear hn
    refine callsIn_of_wp Try.func6 rfl trivial ?_
    simp only [Try.ntmps6, List.size_toArray, List.length_cons, List.length_nil, Nat.reduceAdd, Nat.reduceSub, Array.replicate_succ, Array.replicate_zero, List.push_toArray, List.append_toArray, List.nil_append, List.cons_append]
    gi_wp2_with fail
    refine ⟨trivial, rfl, (awake_in _).mono ?_⟩
    rintro e w1 ⟨rfl, c1⟩
    gi_wp2
    go_ret
    exact ⟨rfl, c1⟩
  · have h1' : ¬ (60 : Int) < (n : Int) := by omega
    have h2' : (60 : Int) < (m : Int) := by omega
    clear hn
    refine callsIn_of_wp Try.func6 rfl trivial ?_
    simp only [Try.ntmps6, List.size_toArray, List.length_cons, List.length_nil, Nat.reduceAdd, Nat.reduceSub, Array.replicate_succ, Array.replicate_zero, List.push_toArray, List.append_toArray, List.nil_append, List.cons_append]
    gi_wp2_with fail
    refine ⟨trivial, rfl, (awake_in _).mono ?_⟩
    rintro e w1 ⟨rfl, c1⟩
    gi_wp2
    go_ret
    exact ⟨rfl, c1⟩

theorem nest_map (xs : List Int) : (xs.map upF).map timesF = xs.map (fun x => timesF (upF x)) := by simp
theorem nest_filter (xs : List Int) : (xs.filter evenB).filter thirdB = xs.filter (fun x => evenB x && thirdB x) := by
  rw [List.filter_filter]
  congr 1
  funext x
  exact Bool.and_comm _ _
theorem nest_take (xs : List Int) (n m k : Int) (h : (m < n → k = m) ∧ (¬ m < n → k = n)) : (xs.take n.toNat).take m.toNat = xs.take k.toNat := by
  rw [List.take_take]
  congr 1
  by_cases e : m < n
  · rw [h.1 e]; omega
  · rw [h.2 e]; omega
theorem nest_join (xs ys : List Int) (n : Int) : (xs ++ ys).take n.toNat = xs.take n.toNat ++ ys.take (n - xs.length).toNat := by
  rw [List.take_append]
  congr 2
  omega

set_option maxRecDepth 100000 in
set_option maxHeartbeats 20000000 in
theorem nests_in (p q : Option Addr) (cap cap' : Nat) (xs ys : List Int) (hn : xs.length ≤ 60) (hm : ys.length ≤ 60) (a b : Int) (w : World) (hx : SlI w (.slice p xs.length cap) xs) (hy : SlI w (.slice q ys.length cap') ys) :
    CallsIn Fence.wide 0 Try.prog 6 #[.slice p xs.length cap, .slice q ys.length cap', .int .i64 a, .int .i64 b] w fun e w' => e = .returned (.bool true) ∧ Chg No w w' := by
  have hn' : ¬ (60 : Int) < (xs.length : Int) := by omega
  have hm' : ¬ (60 : Int) < (ys.length : Int) := by omega
  have hmix : Try.prog.follows .mixedOrders = true := by kernel_rfl
  refine callsIn_of_wp Try.func6 rfl trivial ?_
  simp only [Try.ntmps6, List.size_toArray, List.length_cons, List.length_nil, Nat.reduceAdd, Nat.reduceSub, Array.replicate_succ, Array.replicate_zero, List.push_toArray, List.append_toArray, List.nil_append, List.cons_append]
  gi_wp2_with fail
  refine ⟨trivial, rfl, (low_in a 70 (by omega) (by omega) _).mono ?_⟩
  rintro e w' ⟨rfl, rfl⟩
  obtain ⟨ha1, ha2⟩ := lowI_range a 70 (by omega) (by omega)
  generalize lowI a 70 = n at *
  gi_wp2_with fail
  refine ⟨trivial, rfl, (low_in b 70 (by omega) (by omega) _).mono ?_⟩
  rintro e w'' ⟨rfl, rfl⟩
  obtain ⟨hb1, hb2⟩ := lowI_range b 70 (by omega) (by omega)
  generalize lowI b 70 = m at *
  obtain ⟨W0, hW0⟩ : ∃ W0, (w''.alloc (.cells #[.func (.func 24) #[] #[]] 40)).alloc (.cells #[.func (.func 25) #[] #[]] 40) = W0 := ⟨_, rfl⟩
  have c0 : Chg No w'' W0 := by rw [← hW0]; exact ((Chg.refl _ w'').alloc _).alloc _
  have bu : Boxed W0 w''.heap.size 40 (.func (.func 24) #[] #[]) := by rw [← hW0]; exact (Boxed.new w'' 40 (.func (.func 24) #[] #[])).alloc _
  have bt : Boxed W0 (w''.heap.size + 1) 40 (.func (.func 25) #[] #[]) := by
    have := Boxed.new (w''.alloc (.cells #[.func (.func 24) #[] #[]] 40)) 40 (.func (.func 25) #[] #[])
    rw [World.size_alloc] at this
    rw [← hW0]; exact this
  have hx0 := hx.chg c0 (fun _ _ h => h)
  have hy0 := hy.chg c0 (fun _ _ h => h)
  have HW0 : Hid ((w''.alloc (.cells #[.func (.func 24) #[] #[]] 40)).alloc (.cells #[.func (.func 25) #[] #[]] 40) = W0) := hW0
  clear hW0 hx hy
  gi_wp2_with fail
  rw [HW0.out]
  clear HW0
  generalize hN : n - 5 = N at *
  generalize hM : m - 5 = M at *
  have hN1 : -5 ≤ N := by omega
  have hN2 : N < 65 := by omega
  have hM1 : -5 ≤ M := by omega
  have hM2 : M < 65 := by omega
  clear hN hM ha1 ha2 hb1 hb2
  refine ⟨trivial, rfl, (of_seq _ xs (by omega) _ hx0).mono ?_⟩
  rintro e w1 ⟨g1, l1, D1, rfl, s1, c1, d1⟩
  have hD : ∀ k, D1 k → ¬ (k = w''.heap.size + 1 ∨ k = w''.heap.size) := fun k hk => by have := d1 k hk; have := bt.lt; omega
  -- the first two: maps
  gi_upto_region 7 with (fail)
  gi_cut [12] from 38 (fun t w => SlI w t (xs.map fun x => timesF (upF x)) ∧ Chg No w1 w)
  case first =>
    have c1d : Chg No W0 w1.drew := (c1.trans (Chg.refl _ _) (Grew.refl _ _)).drew
    have s1d := s1.no ((Chg.refl No w1).drew)
    have bu1 := c1d.boxed bu (fun h => h)
    have bt1 := c1d.boxed bt (fun h => h)
    have h1 := bu1.cell
    have h2 := bt1.cell
    have T1 : Tok 1 := trivial
    gi_region_with_o (first
      | (revert T1; intro T0; clear T0; refine ⟨trivial, rfl, (map_seq _ s1d (up_fun _) (fun _ _ h => h)).mono ?_⟩; rintro e w2 ⟨g2, l2, D2, rfl, s2, c2, _⟩; have h3 := (c2.boxed bt1 (fun h => h)).cell; have T2 : Tok 2 := trivial)
      | (revert T2; intro T0; clear T0; refine ⟨trivial, rfl, (map_seq _ s2 (times_fun _) (fun _ _ h => h)).mono ?_⟩; rintro e w3 ⟨g3, l3, D3, rfl, s3, c3, _⟩; have T3 : Tok 3 := trivial)
      | (revert T3; intro T0; clear T0; refine ⟨trivial, rfl, (list_seq (by simp; omega) _ s3).mono ?_⟩; rintro e w4 ⟨v4, rfl, r4, c4⟩))
    all_goals gi_wp2
    all_goals gi_meet
    all_goals exact ⟨by rw [← nest_map]; exact SlI.ofRow r4, ((((Chg.refl No w1).drew).trans c2 (Grew.refl _ _)).trans c3 (Grew.refl _ _)).trans c4 (Grew.refl _ _)⟩
  obtain ⟨qa, ca⟩ := hcut
  obtain ⟨W1, rfl⟩ : ∃ W1, W1 = wc := ⟨_, rfl⟩
  have c01 : Chg No W0 W1 := c1.trans ca (Grew.refl _ _)
  have sA := s1.no ca
  have bu1 := c01.boxed bu (fun h => h)
  have bt1 := c01.boxed bt (fun h => h)
  have hy1 := hy0.chg c01 (fun _ _ h => h)
  have cW1 : Chg No w'' W1 := c0.trans c01 (Grew.refl _ _)
  clear ca s1 c1 bu bt hy0 hx0 c0 c01
  gi_wp2_with fail
  refine ⟨trivial, rfl, (map_seq _ sA (both_fun _ _ _ bt1 bu1) hD).mono ?_⟩
  rintro e w2 ⟨g2, l2, D2, rfl, s2, c2, _⟩
  gi_wp2_with fail
  refine ⟨trivial, rfl, (list_seq (by simp; omega) _ s2).mono ?_⟩
  rintro e w3 ⟨v3, rfl, r3, c3⟩
  have c13 : Chg No W1 w3 := c2.trans c3 (Grew.refl _ _)
  have qa3 := qa.chg c13 (fun _ _ h => h)
  have qb3 := SlI.ofRow r3
  have sB := sA.no c13
  have hy3 := hy1.chg c13 (fun _ _ h => h)
  have cW3 : Chg No w'' w3 := cW1.trans c13 (Grew.refl _ _)
  clear s2 c2 c3 c13 qa sA r3 hy1 cW1 bu1 bt1
  -- the filters
  obtain ⟨W3, hW3⟩ : ∃ W3, w3.alloc (.cells #[.func (.func 27) #[] #[]] 42) = W3 := ⟨_, rfl⟩
  have c3 : Chg No w3 W3 := by rw [← hW3]; exact (Chg.refl _ w3).alloc _
  have b3 : Boxed W3 w3.heap.size 42 (.func (.func 27) #[] #[]) := by rw [← hW3]; exact Boxed.new w3 42 (.func (.func 27) #[] #[])
  have HW3 : Hid (w3.alloc (.cells #[.func (.func 27) #[] #[]] 42) = W3) := hW3
  have sC := sB.no c3
  have hD3 : ∀ k, D1 k → ¬ k = w3.heap.size := fun k hk => by have := sB.lt k hk; omega
  have qa4 := qa3.chg c3 (fun _ _ h => h)
  have qb4 := qb3.chg c3 (fun _ _ h => h)
  have hy4 := hy3.chg c3 (fun _ _ h => h)
  have cW4 : Chg No w'' W3 := cW3.trans c3 (Grew.refl _ _)
  clear hW3 sB qa3 qb3 hy3 cW3
  gi_upto_region 10 with (fail)
  rw [HW3.out]
  gi_cut [15] from 48 (fun t w => SlI w t (xs.filter fun x => evenB x && thirdB x) ∧ Chg No W3 w)
  case first =>
    have sd := sC.no ((Chg.refl No W3).drew)
    have bd : Boxed W3.drew w3.heap.size 42 (.func (.func 27) #[] #[]) := b3
    have h1 := bd.cell
    have T1 : Tok 1 := trivial
    gi_region_with_o (first
      | (revert T1; intro T0; clear T0; refine ⟨trivial, rfl, (filter_seq _ sd (even_fun _) (fun _ _ h => h)).mono ?_⟩; rintro e w5 ⟨g5, l5, D5, rfl, s5, c5, _⟩; have h3 := (c5.boxed bd (fun h => h)).cell; have T2 : Tok 2 := trivial)
      | (revert T2; intro T0; clear T0; refine ⟨trivial, rfl, (filter_seq _ s5 (third_fun _) (fun _ _ h => h)).mono ?_⟩; rintro e w6 ⟨g6, l6, D6, rfl, s6, c6, _⟩; have T3 : Tok 3 := trivial)
      | (revert T3; intro T0; clear T0; refine ⟨trivial, rfl, (list_seq (by have h1 := List.length_filter_le thirdB (xs.filter evenB); have h2 := List.length_filter_le evenB xs; omega) _ s6).mono ?_⟩; rintro e w7 ⟨v7, rfl, r7, c7⟩))
    all_goals gi_wp2
    all_goals gi_meet
    all_goals exact ⟨by rw [← nest_filter]; exact SlI.ofRow r7, ((((Chg.refl No W3).drew).trans c5 (Grew.refl _ _)).trans c6 (Grew.refl _ _)).trans c7 (Grew.refl _ _)⟩
  obtain ⟨qc, cc⟩ := hcut
  obtain ⟨W5, rfl⟩ : ∃ W5, W5 = wc := ⟨_, rfl⟩
  have qa5 := qa4.chg cc (fun _ _ h => h)
  have qb5 := qb4.chg cc (fun _ _ h => h)
  have hy5 := hy4.chg cc (fun _ _ h => h)
  have s5 := sC.no cc
  have b5 := cc.boxed b3 (fun h => h)
  have cW5 : Chg No w'' W5 := cW4.trans cc (Grew.refl _ _)
  clear qa4 qb4 hy4 sC b3 cW4 cc c3 HW3
  gi_wp2_with fail
  refine ⟨trivial, rfl, (filter_seq _ s5 (pass_fun _ _ b5) hD3).mono ?_⟩
  rintro e w6 ⟨g6, l6, D6, rfl, s6, c6, _⟩
  gi_wp2_with fail
  refine ⟨trivial, rfl, (list_seq (by have h1 := List.length_filter_le (fun x => evenB x && thirdB x) xs; omega) _ s6).mono ?_⟩
  rintro e w7 ⟨v7, rfl, r7, c7⟩
  have c57 : Chg No W5 w7 := c6.trans c7 (Grew.refl _ _)
  have qa7 := qa5.chg c57 (fun _ _ h => h)
  have qb7 := qb5.chg c57 (fun _ _ h => h)
  have qc7 := qc.chg c57 (fun _ _ h => h)
  have qd7 := SlI.ofRow r7
  have hy7 := hy5.chg c57 (fun _ _ h => h)
  have s7 := s5.no c57
  have cW7 : Chg No w'' w7 := cW5.trans c57 (Grew.refl _ _)
  clear s6 c6 c7 c57 qa5 qb5 qc r7 hy5 s5 b5 cW5
  -- the first of the first
  gi_wp2_with fail
  refine ⟨trivial, rfl, (take_seq N (by omega) _ s7).mono ?_⟩
  rintro e w8 ⟨g8, l8, D8, rfl, s8, c8, _⟩
  gi_wp2_with fail
  refine ⟨trivial, rfl, (take_seq M (by omega) _ s8).mono ?_⟩
  rintro e w9 ⟨g9, l9, D9, rfl, s9, c9, _⟩
  gi_wp2_with fail
  refine ⟨trivial, rfl, (list_seq (by simp; omega) _ s9).mono ?_⟩
  rintro e w10 ⟨v10, rfl, r10, c10⟩
  obtain ⟨es, hes⟩ : ∃ es, Hid (es = (xs.take N.toNat).take M.toNat) := ⟨_, rfl⟩
  have qe10 : SlI w10 v10 es := by rw [hes.out]; exact SlI.ofRow r10
  have c710 : Chg No w7 w10 := (c8.trans c9 (Grew.refl _ _)).trans c10 (Grew.refl _ _)
  have s10 := s7.no c710
  have hy10 := hy7.chg c710 (fun _ _ h => h)
  have cW10 : Chg No w'' w10 := cW7.trans c710 (Grew.refl _ _)
  clear s8 s9 c8 c9 c10 r10
  gi_upto_region 13 with (fail)
  gi_cut [18] from 63 (fun t w => SlI w t es ∧ Chg No w10 w)
  case first =>
    have hk : ∀ k : Int, (M < N → k = M) ∧ (¬ M < N → k = N) → xs.take k.toNat = es := fun k h => by rw [hes.out]; exact (nest_take xs N M k h).symm
    have HK : Hid (∀ k : Int, (M < N → k = M) ∧ (¬ M < N → k = N) → xs.take k.toNat = es) := hk
    clear hk
    by_cases hMN : M < N
    · have e1 := HK.out M ⟨fun _ => rfl, fun h => (h hMN).elim⟩
      have E1 : Hid (xs.take M.toNat = es) := e1
      clear e1 HK
      gi_wp2_with fail
      refine ⟨trivial, rfl, (take_seq M (by omega) _ s10).mono ?_⟩
      rintro e w8 ⟨g8, l8, D8, rfl, s8, c8, _⟩
      gi_wp2_with fail
      refine ⟨trivial, rfl, (list_seq (by simp; omega) _ s8).mono ?_⟩
      rintro e w9 ⟨v9, rfl, r9, c9⟩
      gi_wp2
      gi_meet
      exact ⟨by rw [← E1.out]; exact SlI.ofRow r9, c8.trans c9 (Grew.refl _ _)⟩
    · have e1 := HK.out N ⟨fun h => (hMN h).elim, fun _ => rfl⟩
      have E1 : Hid (xs.take N.toNat = es) := e1
      clear e1 HK
      gi_wp2_with fail
      refine ⟨trivial, rfl, (take_seq N (by omega) _ s10).mono ?_⟩
      rintro e w8 ⟨g8, l8, D8, rfl, s8, c8, _⟩
      gi_wp2_with fail
      refine ⟨trivial, rfl, (list_seq (by simp; omega) _ s8).mono ?_⟩
      rintro e w9 ⟨v9, rfl, r9, c9⟩
      gi_wp2
      gi_meet
      exact ⟨by rw [← E1.out]; exact SlI.ofRow r9, c8.trans c9 (Grew.refl _ _)⟩
  obtain ⟨qf, cf⟩ := hcut
  obtain ⟨W8, rfl⟩ : ∃ W8, W8 = wc := ⟨_, rfl⟩
  have c78 : Chg No w7 W8 := c710.trans cf (Grew.refl _ _)
  have qa8 := qa7.chg c78 (fun _ _ h => h)
  have qb8 := qb7.chg c78 (fun _ _ h => h)
  have qc8 := qc7.chg c78 (fun _ _ h => h)
  have qd8 := qd7.chg c78 (fun _ _ h => h)
  have qe8 := qe10.chg cf (fun _ _ h => h)
  have hy8 := hy10.chg cf (fun _ _ h => h)
  have s8 := s10.no cf
  have cW8 : Chg No w'' W8 := cW10.trans cf (Grew.refl _ _)
  clear qa7 qb7 qc7 qd7 qe10 hy7 hy10 s7 s10 cW7 cW10 c710 c78 cf
  -- of a join
  obtain ⟨gs, hgs⟩ : ∃ gs, Hid (gs = (xs ++ ys).take N.toNat) := ⟨_, rfl⟩
  have hgl : gs.length ≤ 1000000 := by rw [hgs.out]; simp; omega
  have hgj : Hid (xs.take N.toNat ++ ys.take (N - (xs.length : Int)).toNat = gs) := by show _ = _; rw [hgs.out, nest_join]
  gi_wp2_with fail
  refine ⟨trivial, rfl, (of_seq _ ys (by omega) _ hy8).mono ?_⟩
  rintro e w9 ⟨g9, l9, D9, rfl, s9, c9, _⟩
  gi_wp2_with fail
  refine ⟨trivial, rfl, (join_two _ (s8.no c9) s9).mono ?_⟩
  rintro e w10 ⟨g10, l10, D10, rfl, s10, c10, _⟩
  gi_wp2_with fail
  refine ⟨trivial, rfl, (take_seq N (by omega) _ s10).mono ?_⟩
  rintro e w11 ⟨g11, l11, D11, rfl, s11, c11, _⟩
  rw [← hgs.out] at s11
  gi_wp2_with fail
  refine ⟨trivial, rfl, (list_seq hgl _ s11).mono ?_⟩
  rintro e w12 ⟨v12, rfl, r12, c12⟩
  have qg12 := SlI.ofRow r12
  have c812 : Chg No W8 w12 := ((c9.trans c10 (Grew.refl _ _)).trans c11 (Grew.refl _ _)).trans c12 (Grew.refl _ _)
  have s12 := s8.no c812
  have hy12 := hy8.chg c812 (fun _ _ h => h)
  clear s9 s10 s11 c9 c10 c11 c12 r12
  gi_wp2_with fail
  refine ⟨trivial, rfl, (take_seq N (by omega) _ s12).mono ?_⟩
  rintro e w13 ⟨g13, l13, D13, rfl, s13, c13, _⟩
  gi_wp2_with fail
  refine ⟨trivial, rfl, (of_seq _ ys (by omega) _ (hy12.chg c13 (fun _ _ h => h))).mono ?_⟩
  rintro e w14 ⟨g14, l14, D14, rfl, s14, c14, _⟩
  gi_wp2_with fail
  refine ⟨trivial, rfl, (take_seq (N - (xs.length : Int)) (by omega) _ s14).mono ?_⟩
  rintro e w15 ⟨g15, l15, D15, rfl, s15, c15, _⟩
  gi_wp2_with fail
  refine ⟨trivial, rfl, (join_two _ ((s13.no c14).no c15) s15).mono ?_⟩
  rintro e w16 ⟨g16, l16, D16, rfl, s16, c16, _⟩
  rw [hgj.out] at s16
  gi_wp2_with fail
  refine ⟨trivial, rfl, (list_seq hgl _ s16).mono ?_⟩
  rintro e w17 ⟨v17, rfl, r17, c17⟩
  have qh17 := SlI.ofRow r17
  have c1217 : Chg No w12 w17 := (((c13.trans c14 (Grew.refl _ _)).trans c15 (Grew.refl _ _)).trans c16 (Grew.refl _ _)).trans c17 (Grew.refl _ _)
  have c817 : Chg No W8 w17 := c812.trans c1217 (Grew.refl _ _)
  have s17 := s8.no c817
  have hy17 := hy8.chg c817 (fun _ _ h => h)
  have cW17 : Chg No w'' w17 := cW8.trans c817 (Grew.refl _ _)
  have qa17 := qa8.chg c817 (fun _ _ h => h)
  have qb17 := qb8.chg c817 (fun _ _ h => h)
  have qc17 := qc8.chg c817 (fun _ _ h => h)
  have qd17 := qd8.chg c817 (fun _ _ h => h)
  have qe17 := qe8.chg c817 (fun _ _ h => h)
  have qf17 := qf.chg c817 (fun _ _ h => h)
  have qg17 := qg12.chg c1217 (fun _ _ h => h)
  clear s13 s14 s15 s16 c13 c14 c15 c16 c17 r17 s12 s8 hy8 hy12 cW8 c812 c817 c1217 qa8 qb8 qc8 qd8 qe8 qf qg12
  -- all of them, held against one another
  gi_wp2_with fail
  refine ⟨trivial, rfl, (same_in _ _ _ _ _ qa17 qb17).mono ?_⟩
  rintro e w18 ⟨rfl, c18⟩
  simp only [decide_true]
  gi_wp2_with fail
  refine ⟨trivial, rfl, (same_in _ _ _ _ _ (qc17.chg c18 (fun _ _ h => h)) (qd17.chg c18 (fun _ _ h => h))).mono ?_⟩
  rintro e w19 ⟨rfl, c19⟩
  simp only [decide_true]
  have c1719 : Chg No w17 w19 := c18.trans c19 (Grew.refl _ _)
  gi_wp2_with fail
  refine ⟨trivial, rfl, (same_in _ _ _ _ _ (qe17.chg c1719 (fun _ _ h => h)) (qf17.chg c1719 (fun _ _ h => h))).mono ?_⟩
  rintro e w20 ⟨rfl, c20⟩
  simp only [decide_true]
  have c1720 : Chg No w17 w20 := c1719.trans c20 (Grew.refl _ _)
  gi_wp2_with fail
  refine ⟨trivial, rfl, (same_in _ _ _ _ _ (qg17.chg c1720 (fun _ _ h => h)) (qh17.chg c1720 (fun _ _ h => h))).mono ?_⟩
  rintro e w21 ⟨rfl, c21⟩
  simp only [decide_true]
  have c1721 : Chg No w17 w21 := c1720.trans c21 (Grew.refl _ _)
  have s21 := s17.no c1721
  have hy21 := hy17.chg c1721 (fun _ _ h => h)
  have cW21 : Chg No w'' w21 := cW17.trans c1721 (Grew.refl _ _)
  clear qa17 qb17 qc17 qd17 qe17 qf17 qg17 qh17 c18 c19 c20 c21 c1719 c1720 c1721 cW17 s17 hy17
  gi_wp2_with fail
  refine ⟨trivial, rfl, (of_seq _ ys (by omega) _ hy21).mono ?_⟩
  rintro e w22 ⟨g22, l22, D22, rfl, s22, c22, _⟩
  gi_wp2_with fail
  refine ⟨trivial, rfl, (join_two _ (s21.no c22) s22).mono ?_⟩
  rintro e w23 ⟨g23, l23, D23, rfl, s23, c23, _⟩
  gi_wp2_with fail
  refine ⟨trivial, rfl, (fold_seq N _ s23).mono ?_⟩
  rintro e w24 ⟨rfl, c24⟩
  rw [List.foldl_append]
  have c2124 : Chg No w21 w24 := (c22.trans c23 (Grew.refl _ _)).trans c24 (Grew.refl _ _)
  gi_wp2_with fail
  refine ⟨trivial, rfl, (of_seq _ ys (by omega) _ (hy21.chg c2124 (fun _ _ h => h))).mono ?_⟩
  rintro e w25 ⟨g25, l25, D25, rfl, s25, c25, _⟩
  gi_wp2_with fail
  refine ⟨trivial, rfl, (fold_seq N _ ((s21.no c2124).no c25)).mono ?_⟩
  rintro e w26 ⟨rfl, c26⟩
  gi_wp2_with fail
  refine ⟨trivial, rfl, (fold_seq _ _ (s25.no c26)).mono ?_⟩
  rintro e w27 ⟨rfl, c27⟩
  generalize List.foldl sumW (List.foldl sumW N xs) ys = total at *
  have ht : (total == total) = true := by simp
  have cW27 : Chg No w'' w27 := cW21.trans (((c2124.trans c25 (Grew.refl _ _)).trans c26 (Grew.refl _ _)).trans c27 (Grew.refl _ _)) (Grew.refl _ _)
  gi_wp2_with fail
  refine ⟨trivial, rfl, (awake_in _).mono ?_⟩
  rintro e w28 ⟨rfl, c28⟩
  have cW28 : Chg No w'' w28 := cW27.trans c28 (Grew.refl _ _)
  gi_wp2
  go_ret
  exact ⟨rfl, cW28⟩

end Go.Proofs.Ytkfcbfmfkheceaa
