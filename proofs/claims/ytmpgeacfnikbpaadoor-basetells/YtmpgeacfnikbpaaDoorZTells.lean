/-
  BaseTells, walked.
-/
import Derived.Test.YtmpgeacfnikbpaaDoorZAwake
namespace Go.Proofs.YtmpgeacfnikbpaaDoor
open Go.RowKit Go.Shelf Go.SeqLib Go.DiffLib Go.TreeLib Go.RepoLib Go.DagLib Go.BigFrame
attribute [local go_sem] Oper.semAt_some

set_option maxRecDepth 100000 in
set_option maxHeartbeats 1000000 in
theorem btells_law {Rep : Nat → Rp → Blk → Blk → World → Prop} (P : PutSpec Rep) (J : BaseSpec Rep) (p : Option Addr) (len cap : Nat) (zs : List Int) (n m : Int) (w : World) (hv : SlV w (.slice p len cap) (zs.map iv)) (hlen : zs.length = len) : CallsIn Fence.wide 0 Tryd.prog 3 #[.slice p len cap, iv n, iv m] w fun e w' => e = .returned (.bool true) ∧ Chg No w w' := by
  have hnil : ∀ (B : Nat) (w : World), (binOp .eql 24 (ptr B) (.pointer none)).run Tryd.prog w = .ok (.bool false) w := fun B w => by simp [go_sem]
  have hml : len ≤ 9223372036854775807 := by obtain ⟨_, _, e, hl, hm, _⟩ := hv; cases e; rw [List.length_map] at hl; unfold maxLen at hm; omega
  refine callsIn_of_wp Tryd.func3 rfl trivial ?_
  simp only [Tryd.ntmps3, List.size_toArray, List.length_cons, List.length_nil, Nat.reduceAdd, Nat.reduceSub, Array.replicate_succ, Array.replicate_zero, List.push_toArray, List.append_toArray, List.nil_append, List.cons_append]
  by_cases hbig : 30 < len
  · have hbig' : (30 : Int) < (len : Int) := by omega
    gi_wp2_with fail
    refine ⟨trivial, rfl, (awakeB_in P J _).mono ?_⟩
    rintro e w1 ⟨rfl, c1⟩
    gi_wp2
    go_ret
    exact ⟨rfl, c1⟩
  · have hbig' : ¬ (30 : Int) < (len : Int) := by omega
    have M1 := made_in P p len cap zs hlen (by omega) w hv
    obtain ⟨L, hL⟩ : ∃ L, mkL 0 (zs.map uN) = L := ⟨_, rfl⟩
    have hok : ParOk L := hL ▸ made_ok _
    have hLl : L.length = len := by rw [← hL, mkL_length, List.length_map, hlen]
    rw [hL] at M1
    have L1 := fun W => low_in n ((len : Int) + 3) (by omega) (by omega) W
    have L2 := fun W => low_in m ((len : Int) + 3) (by omega) (by omega) W
    obtain ⟨nl, nh⟩ := lowI_range n ((len : Int) + 3) (by omega) (by omega)
    obtain ⟨ml, mh⟩ := lowI_range m ((len : Int) + 3) (by omega) (by omega)
    generalize lowI n ((len : Int) + 3) = n1 at *
    generalize lowI m ((len : Int) + 3) = m1 at *
    obtain ⟨n2, hn2⟩ : ∃ n2, n1 - 1 = n2 := ⟨_, rfl⟩
    obtain ⟨m2, hm2⟩ : ∃ m2, m1 - 1 = m2 := ⟨_, rfl⟩
    have b1 : -1 ≤ n2 ∧ n2 ≤ 33 := by omega
    have b2 : -1 ≤ m2 ∧ m2 ≤ 33 := by omega
    have h60 : L.length ≤ 60 := by omega
    have h1000 : (L, 60).1.length ≤ 1000 := by show L.length ≤ 1000; omega
    clear hL
    gi_wp2_with fail
    refine ⟨trivial, rfl, M1.mono ?_⟩
    rintro e w1 ⟨B, Bw, S, O, lv, rows, rfl, r1, q1, hS, c1⟩
    clear M1
    gi_wp2_with fail
    refine ⟨trivial, rfl, (L1 w1).mono ?_⟩
    rintro e w2 ⟨rfl, hw⟩
    subst hw
    gi_wp2_with fail
    refine ⟨trivial, rfl, (L2 w2).mono ?_⟩
    rintro e w3 ⟨rfl, hw⟩
    subst hw
    have A3 := J.common B _ S O n2 m2 w3 r1 hok h60 (by omega) (by omega) (by omega) (by omega)
    have A4 := fun W hW => J.best B (L, 60) S O n2 m2 W hW hok h60 (by omega) (by omega) (by omega) (by omega)
    have X4 := fun W hW => refCommon_in Bw (L, 60) lv rows n2 m2 W hW hok h1000
    have X5 := fun W hW => refBest_in Bw (L, 60) lv rows n2 m2 W hW hok h1000
    dsimp only at A3 A4 X4 X5
    have hl1 : (comL L n2 m2).length ≤ 60 := Nat.le_trans (com_len _ _) h60
    have hl2 : (bestL L n2 m2).length ≤ 60 := Nat.le_trans (best_len _ _) h60
    generalize comL L n2 m2 = C at *
    generalize bestL L n2 m2 = Y at *
    gi_wp2_with fail
    refine ⟨trivial, rfl, A3.mono ?_⟩
    rintro e w4 ⟨v4, rfl, o4, c4⟩
    clear hn2 hm2 L1 L2 b1 b2 nl nh ml mh
    have t4 := c4
    gi_wp2_with fail
    refine ⟨trivial, rfl, (A4 w4 (P.no r1 t4)).mono ?_⟩
    rintro e w5 ⟨v5, rfl, o5, c5⟩
    have t5 := Chg.seq t4 c5
    have s4 := o4.sl.no c5
    have s5 := o5.sl
    gi_wp2_with fail
    refine ⟨trivial, rfl, (X4 w5 (q1.no t5)).mono ?_⟩
    rintro e w6 ⟨v6, rfl, o6, c6⟩
    have t6 := Chg.seq t5 c6
    have I6 := sameI_in v4 v6 C C w6 (s4.no c6) o6.sl
    rw [decide_eq_true rfl] at I6
    have d6 := Chg.seq c5 c6
    clear A3 t4 s4
    gi_wp2_with fail
    refine ⟨trivial, rfl, I6.mono ?_⟩
    rintro e w7 ⟨rfl, c7⟩
    have t7 := Chg.seq t6 c7
    have d7 := Chg.seq d6 c7
    have g7 := Chg.seq c6 c7
    clear I6 o6 t6 d6 c6 c7 t5
    gi_wp2_with fail
    refine ⟨trivial, rfl, (X5 w7 (q1.no t7)).mono ?_⟩
    rintro e w8 ⟨v8, rfl, o8, c8⟩
    have I8 := sameI_in v5 v8 Y Y w8 ((s5.no g7).no c8) o8.sl
    rw [decide_eq_true rfl] at I8
    gi_wp2_with fail
    refine ⟨trivial, rfl, I8.mono ?_⟩
    rintro e w9 ⟨rfl, c9⟩
    have e9 := Chg.seq c8 c9
    have t9 := Chg.seq t7 e9
    have d9 := Chg.seq d7 e9
    have g9 := Chg.seq g7 e9
    have o49 : OwnI w9 w3.heap.size v4 C := row_kept o4 (fun k e => d9.block k (World.ownsRow.lt o4 k e).2 (fun h => h))
    have o59 : OwnI w9 w4.heap.size v5 Y := row_kept o5 (fun k e => g9.block k (World.ownsRow.lt o5 k e).2 (fun h => h))
    have hsz := c4.size
    have hsz5 := c5.size
    have hlt4 : ∀ k, v4.ownBlock = some k → k < w4.heap.size := fun k e => (World.ownsRow.lt o4 k e).2
    have hsz9 := t9.size
    clear I8 o8 t7 d7 g7 c8 c9 e9 o4 o5 s5
    gi_wp2_with fail
    refine ⟨trivial, rfl, (overI_in v4 _ _ _ (by omega) _ hsz9 o49).mono ?_⟩
    rintro e w10 ⟨⟨rr, rfl⟩, c10⟩
    have t10 : Chg No w3 w10 := t9.trans c10 (fun k e => .inr (World.ownsRow.lt o49 k e).1)
    have o5A : OwnI w10 w4.heap.size v5 Y := row_kept o59 (fun k e => c10.block k (World.ownsRow.lt o59 k e).2 (fun h => by have := hlt4 k h; have := (World.ownsRow.lt o59 k e).1; omega))
    have hszA := Nat.le_trans d9.size c10.size
    gi_wp2_with fail
    refine ⟨trivial, rfl, (overI_in v5 _ _ _ (by omega) _ hszA o5A).mono ?_⟩
    rintro e w11 ⟨⟨rr2, rfl⟩, c11⟩
    have t11 : Chg No w3 w11 := t10.trans c11 (fun k e => .inr (by have := (World.ownsRow.lt o5A k e).1; omega))
    clear c10 c11 t9 t10 o49 o59 o5A d9 g9 hlt4 c4 c5
    gi_wp2_with fail
    refine ⟨trivial, rfl, (A4 w11 (P.no r1 t11)).mono ?_⟩
    rintro e w12 ⟨v12, rfl, o12, c12⟩
    have t12 := Chg.seq t11 c12
    gi_wp2_with fail
    refine ⟨trivial, rfl, (X5 w12 (q1.no t12)).mono ?_⟩
    rintro e w13 ⟨v13, rfl, o13, c13⟩
    have t13 := Chg.seq t12 c13
    have I13 := sameI_in v12 v13 Y Y w13 (o12.sl.no c13) o13.sl
    rw [decide_eq_true rfl] at I13
    gi_wp2_with fail
    refine ⟨trivial, rfl, I13.mono ?_⟩
    rintro e w14 ⟨rfl, c14⟩
    have t14 := Chg.seq t13 c14
    clear I13 o12 o13 t12 t13 c12 c13 c14 t11
    gi_wp2_with fail
    refine ⟨trivial, rfl, (awakeB_in P J _).mono ?_⟩
    rintro e w20 ⟨rfl, c20⟩
    gi_wp2
    go_ret
    exact ⟨rfl, Chg.seq c1 (Chg.seq t14 c20)⟩

end Go.Proofs.YtmpgeacfnikbpaaDoor
