/-
  FoldTells, walked.
-/
import Derived.Test.YtakbeololabmhaaGreatDoorG12
import Derived.Test.YtakbeololabmhaaGreatDoorG14
import Derived.Test.YtakbeololabmhaaGreatDoorG03
namespace Go.Proofs.YtakbeololabmhaaGreatDoor
open Go.RowKit Go.Shelf Go.SeqLib Go.DiffLib Go.TreeLib Go.RepoLib Go.DagLib Go.BigFrame
attribute [local go_sem] Oper.semAt_some

set_option maxRecDepth 100000 in
set_option maxHeartbeats 2000000 in
theorem ftells_law {Rep : Nat → Rp → Blk → Blk → World → Prop} (P : PutSpec Rep) (J : FoldSpec Rep) (V : VirRef) (p0 : Option Addr) (n0 k0 : Nat) (rows : List Rw) (cs : List Cm) (a b deep : Int) (w : World) (hv : LowM w.heap.size w (.slice p0 n0 k0) rows cs) (hn0 : cs.length = n0) :
    CallsIn Fence.wide 0 Tryz.prog 3 #[.slice p0 n0 k0, iv a, iv b, iv deep] w fun e w' => e = .returned (.bool true) ∧ Chg No w w' := by
  have hnil : ∀ (B : Nat) (w : World), (binOp .eql 25 (ptr B) (.pointer none)).run Tryz.prog w = .ok (.bool false) w := fun B w => by simp [go_sem]
  have G1 := greatL_in (.slice p0 n0 k0) rows cs 16 w.heap.size w hv
  have HG : Hid (greatL cs 16 = false → cs.length ≤ 16 ∧ ∀ c ∈ cs, SmallC c) := fun h => greatL_false h
  have HN : Hid (cs.length = n0) := hn0
  generalize greatL cs 16 = g at G1 HG
  refine callsIn_of_wp Tryz.func3 rfl trivial ?_
  simp only [Tryz.ntmps3, List.size_toArray, List.length_cons, List.length_nil, Nat.reduceAdd, Nat.reduceSub, Array.replicate_succ, Array.replicate_zero, List.push_toArray, List.append_toArray, List.nil_append, List.cons_append]
  gi_wp2_with fail
  refine ⟨trivial, rfl, G1.mono ?_⟩
  rintro e w1 ⟨rfl, c1⟩
  cases g with
  | true =>
    gi_wp2_with fail
    refine ⟨trivial, rfl, (awakeF_in P J _).mono ?_⟩
    rintro e w2 ⟨rfl, c2⟩
    gi_wp2
    go_ret
    exact ⟨rfl, Chg.seq c1 c2⟩
  | false =>
  obtain ⟨hl16, hsm⟩ := HG.out rfl
  rw [hn0] at hl16
  have hv1 : LowM w1.heap.size w1 (.slice p0 n0 k0) rows cs := LowM.up (hv.no c1) c1.size
  have M1 := made13_in P p0 n0 k0 rows cs w1 hv1 hn0 hl16 hsm
  obtain ⟨hF, hFl⟩ := stF cs n0 hn0 hl16 hsm
  obtain ⟨L, hL⟩ : ∃ L, stN 60 cs = L := ⟨_, rfl⟩
  rw [hL] at M1 hF hFl
  have L1 := fun W => low_in a ((n0 : Int) + 3) (by omega) (by omega) W
  have L2 := fun W => low_in b ((n0 : Int) + 3) (by omega) (by omega) W
  obtain ⟨nl, nh⟩ := lowI_range a ((n0 : Int) + 3) (by omega) (by omega)
  obtain ⟨ml, mh⟩ := lowI_range b ((n0 : Int) + 3) (by omega) (by omega)
  generalize lowI a ((n0 : Int) + 3) = n1 at *
  generalize lowI b ((n0 : Int) + 3) = m1 at *
  obtain ⟨n2, hn2⟩ : ∃ n2, n1 - 1 = n2 := ⟨_, rfl⟩
  obtain ⟨m2, hm2⟩ : ∃ m2, m1 - 1 = m2 := ⟨_, rfl⟩
  have b1 : -1 ≤ n2 ∧ n2 ≤ 33 := by omega
  have b2 : -1 ≤ m2 ∧ m2 ≤ 33 := by omega
  clear hL hn0 hsm hv hv1 HG G1
  gi_wp2_with fail
  refine ⟨trivial, rfl, M1.mono ?_⟩
  rintro e w2 ⟨B, Bw, S, O, lv, rws, rfl, r1, q1, hS, c2⟩
  clear M1
  have c02 := Chg.seq c1 c2
  gi_wp2_with fail
  refine ⟨trivial, rfl, (L1 w2).mono ?_⟩
  rintro e wq ⟨rfl, hw⟩
  subst hw
  gi_wp2_with fail
  refine ⟨trivial, rfl, (L2 wq).mono ?_⟩
  rintro e w3 ⟨rfl, hw⟩
  subst hw
  have A3 := fun W hW => J.base B L S O n2 m2 W hW hF
  have A4 := fun W hW => J.deep B L S O n2 m2 deep W hW hF
  have X4 := fun W hW => refFold_in V Bw L lv rws hF.par (by have := hF.len; omega) n2 m2 W hW
  have X5 := fun W hW => refDeep_in V Bw L lv rws hF.par (by have := hF.len; omega) _ deep n2 m2 W rfl hW
  unfold deepI at A4
  have hl1 := deep_len hF 4 n2 m2
  have hl2 := deep_len hF (min deep 4).toNat n2 m2
  generalize deepF L.1 4 n2 m2 = C at *
  generalize deepF L.1 (min deep 4).toNat n2 m2 = Y at *
  gi_wp2_with fail
  refine ⟨trivial, rfl, (A3 w3 r1).mono ?_⟩
  rintro e w4 ⟨v4, rfl, o4, c4⟩
  clear hn2 hm2 L1 L2 b1 b2 nl nh ml mh
  have t4 := c4
  gi_wp2_with fail
  refine ⟨trivial, rfl, (A4 w4 (P.no r1 t4)).mono ?_⟩
  rintro e w5 ⟨v5, rfl, o5, c5⟩
  have t5 := Chg.seq t4 c5
  have s4 := o4.sl.no c5
  have s5 := o5.sl
  gi_wp2_with fail
  refine ⟨trivial, rfl, (X4 w5 (q1.no t5)).mono ?_⟩
  rintro e w6 ⟨v6, rfl, o6, c6⟩
  have t6 := Chg.seq t5 c6
  have I6 := sameF_in v4 v6 C C w6 (s4.no c6) o6 hl1
  rw [decide_eq_true rfl] at I6
  have d6 := Chg.seq c5 c6
  clear t4 s4
  gi_wp2_with fail
  refine ⟨trivial, rfl, I6.mono ?_⟩
  rintro e w7 ⟨rfl, c7⟩
  have t7 := Chg.seq t6 c7
  have d7 := Chg.seq d6 c7
  have g7 := Chg.seq c6 c7
  clear I6 o6 t6 d6 c6 c7 t5
  gi_wp2_with fail
  refine ⟨trivial, rfl, (X5 w7 (q1.no t7)).mono ?_⟩
  rintro e w8 ⟨v8, rfl, o8, c8⟩
  have I8 := sameF_in v5 v8 Y Y w8 ((s5.no g7).no c8) o8 hl2
  rw [decide_eq_true rfl] at I8
  gi_wp2_with fail
  refine ⟨trivial, rfl, I8.mono ?_⟩
  rintro e w9 ⟨rfl, c9⟩
  have e9 := Chg.seq c8 c9
  have t9 := Chg.seq t7 e9
  have d9 := Chg.seq d7 e9
  have g9 := Chg.seq g7 e9
  have o49 : OwnF w9 w3.heap.size v4 C := o4.no d9
  have o59 : OwnF w9 w4.heap.size v5 Y := o5.no g9
  have hsz := c4.size
  have hsz5 := c5.size
  have hlt4 : ∀ k, v4.ownBlock = some k → k < w4.heap.size := fun k e => (World.ownsRow.lt o4 k e).2
  have hsz9 := t9.size
  clear I8 o8 t7 d7 g7 c8 c9 e9 o4 o5 s5
  gi_wp2_with fail
  refine ⟨trivial, rfl, (overF_in v4 _ _ _ hl1 _ hsz9 o49).mono ?_⟩
  rintro e w10 ⟨⟨rr, rfl⟩, c10⟩
  have t10 : Chg No w3 w10 := t9.trans c10 (fun k e => .inr (World.ownsRow.lt o49 k e).1)
  have o5A : OwnF w10 w4.heap.size v5 Y := o59.chg c10 (fun k e h => by have := hlt4 k h; have := (World.ownsRow.lt o59 k e).1; omega)
  have hszA := Nat.le_trans d9.size c10.size
  gi_wp2_with fail
  refine ⟨trivial, rfl, (overF_in v5 _ _ _ hl2 _ hszA o5A).mono ?_⟩
  rintro e w11 ⟨⟨rr2, rfl⟩, c11⟩
  have t11 : Chg No w3 w11 := t10.trans c11 (fun k e => .inr (by have := (World.ownsRow.lt o5A k e).1; omega))
  clear c10 c11 t9 t10 o49 o59 o5A d9 g9 hlt4 c4 c5
  gi_wp2_with fail
  refine ⟨trivial, rfl, (A3 w11 (P.no r1 t11)).mono ?_⟩
  rintro e w12 ⟨v12, rfl, o12, c12⟩
  have t12 := Chg.seq t11 c12
  gi_wp2_with fail
  refine ⟨trivial, rfl, (X4 w12 (q1.no t12)).mono ?_⟩
  rintro e w13 ⟨v13, rfl, o13, c13⟩
  have t13 := Chg.seq t12 c13
  have I13 := sameF_in v12 v13 C C w13 (o12.sl.no c13) o13 hl1
  rw [decide_eq_true rfl] at I13
  gi_wp2_with fail
  refine ⟨trivial, rfl, I13.mono ?_⟩
  rintro e w14 ⟨rfl, c14⟩
  have t14 := Chg.seq t13 c14
  clear I13 o12 o13 t12 t13 c12 c13 c14 t11
  gi_wp2_with fail
  refine ⟨trivial, rfl, (awakeF_in P J _).mono ?_⟩
  rintro e w20 ⟨rfl, c20⟩
  gi_wp2
  go_ret
  exact ⟨rfl, Chg.seq c02 (Chg.seq t14 c20)⟩
end Go.Proofs.YtakbeololabmhaaGreatDoor
