/-
  The walk of cortegelaw2.PileTurned.
-/
import Derived.Test.YtaolebadamfodaaPM
import Derived.Test.YtaolebadamfodaaAppS
namespace Go.Proofs.Ytaolebadamfodaa
open Go.RowKit Go.Shelf Go.SeqLib Go.PileLib Go.BigFrame
attribute [local go_sem] Oper.semAt_some

theorem even_in (a : Int) (w : World) : CallsIn Fence.wide 0 Try.prog 32 #[.int .i64 a] w fun e w' => e = .returned (.bool (evenB a)) ∧ w' = w := by
  refine callsIn_of_wp Try.func32 rfl trivial ?_
  simp only [Try.ntmps32, List.size_toArray, List.length_cons, List.length_nil, Nat.reduceAdd, Nat.reduceSub, Array.replicate_succ, Array.replicate_zero, List.push_toArray, List.append_toArray, List.nil_append, List.cons_append]
  gi_wp2
  go_ret
  exact ⟨rfl, rfl⟩
theorem odd_in (a : Int) (w : World) : CallsIn Fence.wide 0 Try.prog 33 #[.int .i64 a] w fun e w' => e = .returned (.bool (!evenB a)) ∧ w' = w := by
  refine callsIn_of_wp Try.func33 rfl trivial ?_
  simp only [Try.ntmps33, List.size_toArray, List.length_cons, List.length_nil, Nat.reduceAdd, Nat.reduceSub, Array.replicate_succ, Array.replicate_zero, List.push_toArray, List.append_toArray, List.nil_append, List.cons_append]
  gi_wp2_with fail
  refine ⟨trivial, rfl, (even_in a w).mono ?_⟩
  rintro e w1 ⟨rfl, rfl⟩
  gi_wp2
  go_ret
  exact ⟨rfl, rfl⟩
theorem even_fun (W : World) : PFun W 32 #[] (fun x => .bool (evenB x)) No := pfun_plain even_in (enters_of Try.func32 (by kernel_rfl) rfl) W
theorem odd_fun (W : World) : PFun W 33 #[] (fun x => .bool (!evenB x)) No := pfun_plain odd_in (enters_of Try.func33 (by kernel_rfl) rfl) W

theorem disj_grow {S S' T : Blk} {w : World} (h : ∀ k, S k → ¬ T k) (g : Grew S w S') (ht : ∀ k, T k → k < w.heap.size) : ∀ k, S' k → ¬ T k := fun k hk hT => by
  rcases g k hk with h1 | h1
  · exact h k h1 hT
  · have := ht k hT; omega

theorem sorted_unique {xs ys : List Int} (h : xs.Perm ys) (h1 : xs.Pairwise (fun a b => a ≤ b)) (h2 : ys.Pairwise (fun a b => a ≤ b)) : xs = ys :=
  List.Perm.eq_of_pairwise (fun _ _ _ _ h1 h2 => Int.le_antisymm h1 h2) h1 h2 h

theorem Pile.sorted {B lf : Nat} {key : Int → Int} {L : List (Int × Int)} {puts : Int} {S : Blk} {W : World} (h : Pile B lf (ltK key) L puts S W) : (L.map Prod.fst).Pairwise (fun a b => key a ≤ key b) := by
  obtain ⟨v, d, _, _, _, hg⟩ := h
  exact pile_sorted hg

set_option maxRecDepth 100000 in
set_option maxHeartbeats 1000000 in
theorem turned_long (p q : Option Addr) (n m cap cap' : Nat) (hn : 60 < n ∨ 60 < m) (w : World) : CallsIn Fence.wide 0 Try.prog 7 #[.slice p n cap, .slice q m cap'] w fun e w' => e = .returned (.bool true) ∧ Chg No w w' := by
  by_cases h1 : 60 < n
  · have hn' : (60 : Int) < (n : Int) := by omega
    refine callsIn_of_wp Try.func7 rfl trivial ?_
    simp only [Try.ntmps7, List.size_toArray, List.length_cons, List.length_nil, Nat.reduceAdd, Nat.reduceSub, Array.replicate_succ, Array.replicate_zero, List.push_toArray, List.append_toArray, List.nil_append, List.cons_append]
    gi_wp2_with fail
    refine ⟨trivial, rfl, (awake_in _).mono ?_⟩
    rintro e w1 ⟨rfl, c1⟩
    gi_wp2
    go_ret
    exact ⟨rfl, c1⟩
  · have hn' : ¬ ((60 : Int) < (n : Int)) := by omega
    have hm' : (60 : Int) < (m : Int) := by omega
    refine callsIn_of_wp Try.func7 rfl trivial ?_
    simp only [Try.ntmps7, List.size_toArray, List.length_cons, List.length_nil, Nat.reduceAdd, Nat.reduceSub, Array.replicate_succ, Array.replicate_zero, List.push_toArray, List.append_toArray, List.nil_append, List.cons_append]
    gi_wp2_with fail
    refine ⟨trivial, rfl, (awake_in _).mono ?_⟩
    rintro e w1 ⟨rfl, c1⟩
    gi_wp2
    go_ret
    exact ⟨rfl, c1⟩

set_option maxRecDepth 100000 in
set_option maxHeartbeats 4000000 in
theorem turned_in (p q : Option Addr) (cap cap' : Nat) (xs ys : List Int) (hn : xs.length ≤ 60) (hm : ys.length ≤ 60) (w : World) (hx : SlI w (.slice p xs.length cap) xs) (hy : SlI w (.slice q ys.length cap') ys) :
    CallsIn Fence.wide 0 Try.prog 7 #[.slice p xs.length cap, .slice q ys.length cap'] w fun e w' => e = .returned (.bool true) ∧ Chg No w w' := by
  have hmix : Try.prog.follows .mixedOrders = true := by kernel_rfl
  refine callsIn_of_wp Try.func7 rfl trivial ?_
  simp only [Try.ntmps7, List.size_toArray, List.length_cons, List.length_nil, Nat.reduceAdd, Nat.reduceSub, Array.replicate_succ, Array.replicate_zero, List.push_toArray, List.append_toArray, List.nil_append, List.cons_append]
  gi_wp2_with fail
  refine ⟨trivial, rfl, (new_seq 21 (ltK id) w).mono ?_⟩
  rintro e w1 ⟨rfl, p1, c1⟩
  gi_wp2_with fail
  refine ⟨trivial, rfl, (new_seq 21 (ltK id) w1).mono ?_⟩
  rintro e w2 ⟨rfl, q2, c2⟩
  gi_wp2_with fail
  refine ⟨trivial, rfl, (new_seq 31 (ltK (fun x => -x)) w2).mono ?_⟩
  rintro e w3 ⟨rfl, r3, c3⟩
  have p3 := (Pile.part _ _ _ _ _).chg p1 (c2.trans c3 (Grew.refl _ _)) (fun _ _ h => h)
  have q3 := (Pile.part _ _ _ _ _).chg q2 c3 (fun _ _ h => h)
  have c03 := (c1.trans c2 (Grew.refl _ _)).trans c3 (Grew.refl _ _)
  obtain ⟨B1, hB1⟩ : ∃ B, w.heap.size = B := ⟨_, rfl⟩
  obtain ⟨B2, hB2⟩ : ∃ B, w1.heap.size = B := ⟨_, rfl⟩
  obtain ⟨B3, hB3⟩ : ∃ B, w2.heap.size = B := ⟨_, rfl⟩
  have l1 : w.heap.size < w1.heap.size := (Pile.part _ _ _ _ _).lt p1 _ rfl
  have l2 : w1.heap.size < w2.heap.size := (Pile.part _ _ _ _ _).lt q2 _ rfl
  have l3 : w2.heap.size < w3.heap.size := (Pile.part _ _ _ _ _).lt r3 _ rfl
  have L1 : B1 < B2 := by omega
  have L2 : B2 < B3 := by omega
  have L3 : B3 < w3.heap.size := by omega
  have L0 : w.heap.size ≤ B1 := by omega
  rw [hB1] at p3
  rw [hB2] at q3
  rw [hB3] at r3
  rw [hB1, hB2, hB3]
  clear hB2 hB3 p1 q2 c1 c2 c3 l1 l2 l3
  have HB1 : Hid (w.heap.size = B1) := hB1
  clear hB1
  gi_wp2_with fail
  refine ⟨trivial, rfl, (put_new lower_less w w3 B1 _ (fun k h => by omega) c03 [] 0 (by omega) (fun y h => by cases h) p3 p cap xs (by simp; omega) hx).mono ?_⟩
  rintro e w4 ⟨rfl, S1, p4, c4, c04, hS1, g4⟩
  have q4 := (Pile.part _ _ _ _ _).chg q3 c4 (fun k h1 h2 => by omega)
  have r4 := (Pile.part _ _ _ _ _).chg r3 c4 (fun k h1 h2 => by omega)
  have d12 : ∀ k, S1 k → ¬ (k = B2) := disj_grow (fun k h1 h2 => by omega) g4 (fun k h => by omega)
  have d13 : ∀ k, S1 k → ¬ (k = B3) := disj_grow (fun k h1 h2 => by omega) g4 (fun k h => by omega)
  clear p3 q3 r3 c03 c4 g4
  have hlt4 := putAll_lt (ltK id) xs [] (0 : Nat) (fun y h => by cases h)
  gi_wp2_with fail
  refine ⟨trivial, rfl, (put_new lower_less w w4 B1 S1 hS1 c04 _ (0 + xs.length) (by omega) (fun y h => by have := hlt4 y h; simp at this ⊢; omega) p4 q cap' ys (by rw [putAll_length]; simp; omega) hy).mono ?_⟩
  rintro e w5 ⟨rfl, S1', p5, c5, c05, hS1', g5⟩
  have q5 := (Pile.part _ _ _ _ _).chg q4 c5 (fun k h1 h2 => d12 k h2 h1)
  have r5 := (Pile.part _ _ _ _ _).chg r4 c5 (fun k h1 h2 => d13 k h2 h1)
  have e12 := disj_grow d12 g5 ((Pile.part _ _ _ _ _).lt q4)
  have e13 := disj_grow d13 g5 ((Pile.part _ _ _ _ _).lt r4)
  clear p4 q4 r4 c04 c5 g5 d12 d13 hS1
  rw [show putAll (ltK id) (putAll (ltK id) [] ((0 : Nat) : Int) xs) ((0 + xs.length : Nat) : Int) ys = putAll (ltK id) [] ((0 : Nat) : Int) (xs ++ ys) by rw [putAll_append]; congr 1] at p5
  clear hlt4
  gi_wp2_with fail
  refine ⟨trivial, rfl, (put_new lower_less w w5 B2 _ (fun k h => by omega) c05 [] 0 (by omega) (fun y h => by cases h) q5 q cap' ys (by simp; omega) hy).mono ?_⟩
  rintro e w6 ⟨rfl, S2, q6, c6, c06, hS2, g6⟩
  have p6 := (Pile.part _ _ _ _ _).chg p5 c6 (fun k h1 h2 => e12 k h1 h2)
  have r6 := (Pile.part _ _ _ _ _).chg r5 c6 (fun k h1 h2 => by omega)
  have d21 := disj_grow (fun k h1 h2 => e12 k h2 h1) g6 ((Pile.part _ _ _ _ _).lt p5)
  have d23 : ∀ k, S2 k → ¬ (k = B3) := disj_grow (fun k h1 h2 => by omega) g6 ((Pile.part _ _ _ _ _).lt r5)
  clear p5 q5 r5 c05 c6 g6 e12
  have hlt6 := putAll_lt (ltK id) ys [] (0 : Nat) (fun y h => by cases h)
  gi_wp2_with fail
  refine ⟨trivial, rfl, (put_new lower_less w w6 B2 S2 hS2 c06 _ (0 + ys.length) (by omega) (fun y h => by have := hlt6 y h; simp at this ⊢; omega) q6 p cap xs (by rw [putAll_length]; simp; omega) hx).mono ?_⟩
  rintro e w7 ⟨rfl, S2', q7, c7, c07, hS2', g7⟩
  have p7 := (Pile.part _ _ _ _ _).chg p6 c7 (fun k h1 h2 => d21 k h2 h1)
  have r7 := (Pile.part _ _ _ _ _).chg r6 c7 (fun k h1 h2 => d23 k h2 h1)
  have e21 := disj_grow d21 g7 ((Pile.part _ _ _ _ _).lt p6)
  have e23 := disj_grow d23 g7 ((Pile.part _ _ _ _ _).lt r6)
  clear p6 q6 r6 c06 c7 g7 d21 d23 hS2
  rw [show putAll (ltK id) (putAll (ltK id) [] ((0 : Nat) : Int) ys) ((0 + ys.length : Nat) : Int) xs = putAll (ltK id) [] ((0 : Nat) : Int) (ys ++ xs) by rw [putAll_append]; congr 1] at q7
  clear hlt6
  have hx7 := hx.chg c07 (fun _ _ h => h)
  have hy7 := hy.chg c07 (fun _ _ h => h)
  have ho0 := World.ownsRow_nil w7 w7.heap.size 3 1
  have r7l := (Pile.part _ _ _ _ _).lt r7
  gi_wp2_with (first
    | (gi_at_builtin; refine wpListIn_append_sl _ rfl _ _ rfl w7.heap.size _ _ _ rfl ho0 p xs.length cap xs rfl hx7 (by omega) (Nat.le_refl _) ?_; intro v1 u1 t1 o1 o1'; clear ho0; have z1 : Chg No w7 u1 := (Chg.refl _ w7).grown o1 (fun k e => by cases e); have hy8 := hy7.chg z1 (fun _ _ h => h))
    | (gi_at_builtin; refine wpListIn_append_sl _ rfl _ _ rfl w7.heap.size _ _ _ rfl t1 q ys.length cap' ys rfl hy8 (by omega) z1.size ?_; intro v2 u2 t2 o2 o2'; have z2 : Chg No w7 u2 := z1.grown o2 (fun k e => .inr (t1.lt k e).1); obtain ⟨a2, k2, rfl⟩ := row_slice t2))
  obtain ⟨zs, hzs⟩ : ∃ zs, xs ++ ys = zs := ⟨_, rfl⟩
  have hzl : xs.length + ys.length = zs.length := by rw [← hzs]; simp
  have HZ : Hid (xs ++ ys = zs) := hzs
  rw [hzl]
  rw [Nat.zero_add, hzl, List.nil_append, ← List.map_append, hzs] at t2
  have t3 : u2.ownsRow w7.heap.size 3 1 (.slice a2 zs.length k2) zs.length (zs.map (Value.int .i64)) := t2
  have r8 := (Pile.part _ _ _ _ _).chg r7 z2 (fun _ _ h => h)
  have c08 := c07.trans z2 (Grew.refl _ _)
  have p8 := (Pile.part _ _ _ _ _).chg p7 z2 (fun _ _ h => h)
  have q8 := (Pile.part _ _ _ _ _).chg q7 z2 (fun _ _ h => h)
  have hzb : zs.length ≤ 120 := by omega
  rw [hzs] at p8
  clear hx7 hy7 hy8 t1 t2 o1 o1' o2 o2' z1 p7 q7 r7 c07
  refine ⟨trivial, rfl, (put_in turned_less B3 [] 0 (by omega) (by omega) (fun y h => by cases h) _ a2 k2 zs (by simp; omega) (by omega) u2 r8 (SlI.ofRow t3) (fun k hk h => ?_)).mono ?_⟩
  · have h1 := (t3.lt k hk.2).1
    have h2 := r7l k h
    omega
  rintro e w9 ⟨rfl, S3, r9, c9, g9⟩
  have p9 := (Pile.part _ _ _ _ _).chg p8 c9 (fun k h1 h2 => e13 k h1 h2)
  have q9 := (Pile.part _ _ _ _ _).chg q8 c9 (fun k h1 h2 => e23 k h1 h2)
  have d31 := disj_grow (fun k h1 h2 => e13 k h2 h1) g9 ((Pile.part _ _ _ _ _).lt p8)
  have d32 := disj_grow (fun k h1 h2 => e23 k h2 h1) g9 ((Pile.part _ _ _ _ _).lt q8)
  have c09 : Chg No w w9 := c08.trans c9 (fun k h => .inr (by omega))
  clear p8 q8 r8 c08 c9 g9 t3 z2 r7l
  -- what they tell
  obtain ⟨Lp, hLp⟩ : ∃ L, putAll (ltK id) [] ((0 : Nat) : Int) zs = L := ⟨_, rfl⟩
  obtain ⟨Lq, hLq⟩ : ∃ L, putAll (ltK id) [] ((0 : Nat) : Int) (ys ++ xs) = L := ⟨_, rfl⟩
  obtain ⟨Lr, hLr⟩ : ∃ L, putAll (ltK (fun x => -x)) [] 0 zs = L := ⟨_, rfl⟩
  rw [hLp] at p9
  rw [hLq] at q9
  rw [hLr] at r9
  obtain ⟨As, hA⟩ : ∃ As, Hid (As = Lp.map Prod.fst) := ⟨_, rfl⟩
  obtain ⟨Cs, hC⟩ : ∃ Cs, Hid (Cs = Lr.map Prod.fst) := ⟨_, rfl⟩
  have hpA : As.Perm zs := by rw [hA.out, ← hLp]; simpa using putAll_perm (ltK id) zs [] ((0 : Nat) : Int)
  have hpC : Cs.Perm zs := by rw [hC.out, ← hLr]; simpa using putAll_perm (ltK (fun x => -x)) zs [] 0
  have hpq : (Lq.map Prod.fst).Perm zs := by
    rw [← hLq, ← hzs]
    have := putAll_perm (ltK id) (ys ++ xs) [] ((0 : Nat) : Int)
    simp only [List.map_nil, List.nil_append] at this
    exact this.trans List.perm_append_comm
  have hsA : As.Pairwise (fun a b => a ≤ b) := by rw [hA.out]; exact p9.sorted
  have hsq : (Lq.map Prod.fst).Pairwise (fun a b => a ≤ b) := q9.sorted
  have hsC : Cs.reverse.Pairwise (fun a b => a ≤ b) := by
    rw [List.pairwise_reverse, hC.out]
    refine r9.sorted.imp (fun h => ?_)
    omega
  have HAq : Hid (As = Lq.map Prod.fst) := sorted_unique (hpA.trans hpq.symm) hsA hsq
  have HAC : Hid (As = Cs.reverse) := sorted_unique (hpA.trans ((List.reverse_perm Cs).trans hpC).symm) hsA hsC
  have hAl : As.length = zs.length := hpA.length_eq
  have hCl : Cs.length = zs.length := hpC.length_eq
  have HLp : Hid (Lp.length = zs.length) := by show _ = _; rw [← hAl, hA.out]; simp
  have HLq : Hid (Lq.length = zs.length) := by show _ = _; rw [← hAl, HAq.out]; simp
  have HLr : Hid (Lr.length = zs.length) := by show _ = _; rw [← hCl, hC.out]; simp
  have hb1 : Lp.length ≤ 100000 := by rw [HLp.out]; omega
  have hb2 : Lq.length ≤ 100000 := by rw [HLq.out]; omega
  have hb3 : Lr.length ≤ 100000 := by rw [HLr.out]; omega
  have T1 : Hid (As = (Lp.map Prod.fst).take (200 : Int).toNat) := by
    show _ = _
    rw [← hA.out, List.take_of_length_le (by show _ ≤ 200; omega)]
  have T2 : Hid (As = (Lq.map Prod.fst).take (200 : Int).toNat) := by
    show _ = _
    rw [← HAq.out, List.take_of_length_le (by show _ ≤ 200; omega)]
  have T3 : Hid (Cs = (Lr.map Prod.fst).take (200 : Int).toNat) := by
    show _ = _
    rw [← hC.out, List.take_of_length_le (by show _ ≤ 200; omega)]
  have HAl : Hid (As.length = zs.length) := hAl
  have HCl : Hid (Cs.length = zs.length) := hCl
  clear hLp hLq hLr hpA hpC hpq hsA hsq hsC hzs
  clear hAl hCl
  gi_wp2_with fail
  refine ⟨trivial, rfl, (all_seq lower_less (bef_ord id) B1 Lp _ S1' hb1 _ p9).mono ?_⟩
  rintro e w10 ⟨g10, l10, D10, rfl, s10, c10, _⟩
  gi_wp2_with fail
  refine ⟨trivial, rfl, (ints_seq 200 (by omega) _ s10 As T1).mono ?_⟩
  rintro e w11 ⟨v11, rfl, r11, c11⟩
  have z1 := c10.trans c11 (Grew.refl _ _)
  have q11 := (Pile.part _ _ _ _ _).chg q9 z1 (fun _ _ h => h)
  gi_wp2_with fail
  refine ⟨trivial, rfl, (all_seq lower_less (bef_ord id) B2 Lq _ S2' hb2 _ q11).mono ?_⟩
  rintro e w12 ⟨g12, l12, D12, rfl, s12, c12, _⟩
  gi_wp2_with fail
  refine ⟨trivial, rfl, (ints_seq 200 (by omega) _ s12 As T2).mono ?_⟩
  rintro e w13 ⟨v13, rfl, r13, c13⟩
  have z2 := (z1.trans c12 (Grew.refl _ _)).trans c13 (Grew.refl _ _)
  have r13' := (Pile.part _ _ _ _ _).chg r9 z2 (fun _ _ h => h)
  gi_wp2_with fail
  refine ⟨trivial, rfl, (all_seq turned_less (bef_ord (fun x => -x)) B3 Lr _ S3 hb3 _ r13').mono ?_⟩
  rintro e w14 ⟨g14, l14, D14, rfl, s14, c14, _⟩
  gi_wp2_with fail
  refine ⟨trivial, rfl, (ints_seq 200 (by omega) _ s14 Cs T3).mono ?_⟩
  rintro e w15 ⟨v15, rfl, r15, c15⟩
  have z3 := (z2.trans c14 (Grew.refl _ _)).trans c15 (Grew.refl _ _)
  have a15 := (SlI.ofRow r11).chg (((c12.trans c13 (Grew.refl _ _)).trans c14 (Grew.refl _ _)).trans c15 (Grew.refl _ _)) (fun _ _ h => h)
  have b15 := (SlI.ofRow r13).chg (c14.trans c15 (Grew.refl _ _)) (fun _ _ h => h)
  have k15 := SlI.ofRow r15
  have p15 := (Pile.part _ _ _ _ _).chg p9 z3 (fun _ _ h => h)
  have q15 := (Pile.part _ _ _ _ _).chg q9 z3 (fun _ _ h => h)
  have c015 := c09.trans z3 (Grew.refl _ _)
  obtain ⟨a1, k1, rfl⟩ := row_slice r11
  obtain ⟨a2', k2', rfl⟩ := row_slice r13
  obtain ⟨a3, k3, rfl⟩ := row_slice r15
  clear s10 s12 s14 c10 c11 c12 c13 c14 c15 z1 z2 z3 r11 r13 r15 q11 r13' p9 q9 r9 c09
  gi_wp2_with fail
  refine ⟨trivial, rfl, (same_in _ _ As As _ a15 b15).mono ?_⟩
  rintro e w16 ⟨rfl, c16⟩
  simp only [decide_true]
  have a16 := a15.chg c16 (fun _ _ h => h)
  have k16 := k15.chg c16 (fun _ _ h => h)
  have p16 := (Pile.part _ _ _ _ _).chg p15 c16 (fun _ _ h => h)
  have q16 := (Pile.part _ _ _ _ _).chg q15 c16 (fun _ _ h => h)
  have c016 := c015.trans c16 (Grew.refl _ _)
  clear a15 b15 k15 p15 q15 c015 c16
  rw [HAl.out] at a16
  rw [HCl.out] at k16
  rw [HAl.out, HCl.out]
  have hzz : (zs.length : Int) = (xs.length : Int) + (ys.length : Int) := by omega
  gi_wp2
  clear hzz hzl
  gi_loopw [11] (fun i wr => ∃ k : Nat, k ≤ zs.length ∧ i = .int .i64 (k : Int) ∧ Chg No w16 wr) (fun i _ => zs.length - (intOf i).toNat)
  case atStart => exact ⟨0, Nat.zero_le _, rfl, Chg.refl _ _⟩
  case round =>
    obtain ⟨k, hk, rfl, ck⟩ := hrel
    by_cases hlt : k < zs.length
    · have hkZ : (k : Int) < (zs.length : Int) := by omega
      have hkA : k < As.length := by rw [HAl.out]; exact hlt
      obtain ⟨m, hmk⟩ : ∃ m, zs.length - 1 - k = m := ⟨_, rfl⟩
      have hmC : m < Cs.length := by rw [HCl.out]; omega
      have hmZ : (zs.length : Int) - 1 - (k : Int) = (m : Int) := by omega
      have hmb : (m : Int) < (zs.length : Int) := by omega
      obtain ⟨pa, ca, e8, _, _, hca⟩ := a16.chg ck (fun _ _ h => h)
      obtain ⟨pc, cc, e9, _, _, hcc⟩ := k16.chg ck (fun _ _ h => h)
      have HC1 : Hid (As[k] = Cs[m]) := by
        show _ = _
        have h1 : As[k] = Cs.reverse[k]'(by rw [List.length_reverse, HCl.out]; exact hlt) := by
          have := HAC.out
          subst this
          rfl
        rw [h1, List.getElem_reverse]
        congr 1
        rw [HCl.out]; exact hmk
      rw [Value.slice.injEq] at e8 e9
      obtain ⟨rfl, h8, rfl⟩ := e8
      obtain ⟨rfl, h9, rfl⟩ := e9
      clear h8 h9
      obtain ⟨b1, o1, rfl, u1⟩ := hca k As[k] (by simp [hkA])
      obtain ⟨b2, o2, rfl, u2⟩ := hcc m Cs[m] (by simp [hmC])
      rw [HC1.out] at u1
      obtain ⟨x, hx9⟩ : ∃ x, Cs[m] = x := ⟨_, rfl⟩
      rw [hx9] at u1 u2
      have hxx : (x != x) = false := by simp
      clear hca hcc hx9
      gi_wp2
      gi_big_quiet_th_o (fail)
      gi_wp2
      go_roundw
      case rel => exact ⟨k + 1, hlt, by go_num, drewNC ck _⟩
      case measure => simp [intOf]; omega
    · obtain rfl : k = zs.length := by omega
      have p17 := (Pile.part _ _ _ _ _).chg p16 ck (fun _ _ h => h)
      have q17 := (Pile.part _ _ _ _ _).chg q16 ck (fun _ _ h => h)
      have c017 := c016.trans ck (Grew.refl _ _)
      gi_wp2_with fail
      refine ⟨trivial, rfl, (remove_in lower_less B1 Lp _ S1' hb1 _ p17 (even_fun _) (fun _ h => h.elim)).mono ?_⟩
      rintro e w18 ⟨S1'', M1, rfl, hM1, p18, _, c18, g18⟩
      have q18 := (Pile.part _ _ _ _ _).chg q17 c18 (fun k h1 h2 => e21 k h1 h2)
      have f21 := disj_grow (fun k h1 h2 => e21 k h2 h1) g18 ((Pile.part _ _ _ _ _).lt q17)
      have c018 : Chg No w w18 := c017.trans c18 (fun k h => .inr (hS1' k h))
      gi_wp2_with fail
      refine ⟨trivial, rfl, (remove_in lower_less B2 Lq _ S2' hb2 _ q18 (odd_fun _) (fun _ h => h.elim)).mono ?_⟩
      rintro e w19 ⟨S2'', M2, rfl, hM2, q19, _, c19, g19⟩
      have p19 := (Pile.part _ _ _ _ _).chg p18 c19 (fun k h1 h2 => f21 k h1 h2)
      have c019 : Chg No w w19 := c018.trans c19 (fun k h => .inr (hS2' k h))
      have hcnt : M1.length + M2.length = zs.length := by
        have h1 : M1.length = (As.filter (fun x => !evenB x)).length := by
          have := congrArg List.length hM1
          rw [← hA.out] at this
          simpa using this
        have h2 : M2.length = (As.filter (fun x => evenB x)).length := by
          have := congrArg List.length hM2
          rw [← HAq.out] at this
          simpa using this
        have h3 := (List.filter_append_perm (fun x => evenB x) As).length_eq
        rw [List.length_append] at h3
        have h4 := HAl.out
        omega
      rw [HLp.out, HLq.out]
      have e1 : (zs.length : Int) - (M1.length : Int) = (M2.length : Int) := by omega
      have e2 : (zs.length : Int) - (M2.length : Int) = (M1.length : Int) := by omega
      rw [e1, e2]
      have e3 : (M2.length : Int) + (M1.length : Int) = (zs.length : Int) := by omega
      have e4 : ((zs.length : Int) == (zs.length : Int)) = true := by simp
      have e5 : (M1.length == M1.length) = true := by simp
      have e6 : (M2.length == M2.length) = true := by simp
      clear hM1 hM2 p16 p17 q16 q17 q18 p18 c18 c19 g18 g19 hcnt e1 e2
      gi_wp2_with fail
      refine ⟨trivial, rfl, (len_seq B1 M1 _ _ _ p19).mono ?_⟩
      rintro e w20 ⟨rfl, rfl⟩
      gi_wp2_with fail
      refine ⟨trivial, rfl, (len_seq B2 M2 _ _ _ q19).mono ?_⟩
      rintro e w21 ⟨rfl, rfl⟩
      gi_wp2_with fail
      refine ⟨trivial, rfl, (awake_in _).mono ?_⟩
      rintro e w22 ⟨rfl, c22⟩
      gi_wp2
      go_ret
      exact ⟨rfl, c019.trans c22 (Grew.refl _ _)⟩
end Go.Proofs.Ytaolebadamfodaa
