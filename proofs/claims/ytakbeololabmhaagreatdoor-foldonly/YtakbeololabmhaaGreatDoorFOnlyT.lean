/-
  FoldOnly, walked.
-/
import Derived.Test.YtakbeololabmhaaGreatDoorFTellsT
import Derived.Test.YtakbeololabmhaaGreatDoorG07
namespace Go.Proofs.YtakbeololabmhaaGreatDoor
open Go.RowKit Go.Shelf Go.SeqLib Go.DiffLib Go.TreeLib Go.RepoLib Go.DagLib Go.BigFrame
attribute [local go_sem] Oper.semAt_some

set_option maxRecDepth 100000 in
set_option maxHeartbeats 2000000 in
theorem fonly_law {Rep : Nat → Rp → Blk → Blk → World → Prop} (P : PutSpec Rep) (J : FoldSpec Rep) (p0 : Option Addr) (n0 k0 : Nat) (rows : List Rw) (cs : List Cm) (a b : Int) (w : World) (hv : LowM w.heap.size w (.slice p0 n0 k0) rows cs) (hn0 : cs.length = n0) :
    CallsIn Fence.wide 0 Tryz.prog 4 #[.slice p0 n0 k0, iv a, iv b] w fun e w' => e = .returned (.bool true) ∧ Chg No w w' := by
  have hnil : ∀ (B : Nat) (w : World), (binOp .eql 25 (ptr B) (.pointer none)).run Tryz.prog w = .ok (.bool false) w := fun B w => by simp [go_sem]
  have G1 := greatL_in (.slice p0 n0 k0) rows cs 16 w.heap.size w hv
  have HG : Hid (greatL cs 16 = false → cs.length ≤ 16 ∧ ∀ c ∈ cs, SmallC c) := fun h => greatL_false h
  generalize greatL cs 16 = g at G1 HG
  refine callsIn_of_wp Tryz.func4 rfl trivial ?_
  simp only [Tryz.ntmps4, List.size_toArray, List.length_cons, List.length_nil, Nat.reduceAdd, Nat.reduceSub, Array.replicate_succ, Array.replicate_zero, List.push_toArray, List.append_toArray, List.nil_append, List.cons_append]
  gi_wp2_with fail
  refine ⟨trivial, rfl, G1.mono ?_⟩
  rintro e w1 ⟨rfl, c1⟩
  cases g with
  | true =>
    gi_wp2_with fail
    refine ⟨trivial, rfl, (awakeF_in P J _).mono ?_⟩
    rintro e w2 ⟨rfl, c2⟩
    gi_wp2
    go_ret
    exact ⟨rfl, Chg.seq c1 c2⟩
  | false =>
  obtain ⟨hl16, hsm⟩ := HG.out rfl
  rw [hn0] at hl16
  have hv1 : LowM w1.heap.size w1 (.slice p0 n0 k0) rows cs := LowM.up (hv.no c1) c1.size
  have M1 := made13_in P p0 n0 k0 rows cs w1 hv1 hn0 hl16 hsm
  obtain ⟨hF, hFl⟩ := stF cs n0 hn0 hl16 hsm
  obtain ⟨L, hL⟩ : ∃ L, stN 60 cs = L := ⟨_, rfl⟩
  rw [hL] at M1 hF hFl
  clear hL hn0 hsm hv hv1 HG G1
  gi_wp2_with fail
  refine ⟨trivial, rfl, M1.mono ?_⟩
  rintro e w2 ⟨B, Bw, S, O, lv, rws, rfl, r2, _, hS, c2⟩
  clear M1
  have k2 := Chg.seq c1 c2
  obtain ⟨z, hz⟩ : ∃ z, L.1.length = z := ⟨_, rfl⟩
  have HZ : Hid (L.1.length = z) := hz
  have hz16 : z ≤ 16 := by omega
  have N1 := fun W hW => P.len B L S O W hW (by rw [hz]; omega)
  rw [hz] at N1
  have HF : Hid (FoldL L.1) := hF
  clear hF hFl hz
  gi_wp2_with fail
  refine ⟨trivial, rfl, (N1 w2 r2).mono ?_⟩
  rintro e w3 ⟨rfl, c3⟩
  have r3 := P.no r2 c3
  have k3 := Chg.seq k2 c3
  clear r2 c3 k2 c1 c2
  by_cases h0 : z = 0
  · have hbest : bestL L.1 a b = [] := by
      have := best_len (L := L.1) a b
      rw [HZ.out, h0] at this
      exact List.length_eq_zero_iff.1 (by omega)
    have A3 := J.base B L S O a b w3 r3 HF.out
    rw [deep_none hbest] at A3
    subst h0
    gi_wp2_with fail
    refine ⟨trivial, rfl, A3.mono ?_⟩
    rintro e w4 ⟨v4, rfl, o4, c4⟩
    obtain ⟨p4, q4, rfl⟩ := OwnF.slice o4
    have k4 := Chg.seq k3 c4
    clear A3 o4
    gi_wp2_with fail
    refine ⟨trivial, rfl, (awakeF_in P J _).mono ?_⟩
    rintro e w5 ⟨rfl, c5⟩
    gi_wp2
    go_ret
    exact ⟨rfl, Chg.seq k4 c5⟩
  · have h0' : ¬ (z : Int) = 0 := by omega
    have L1 := fun W => low_in a (z : Int) (by omega) (by omega) W
    have L2 := fun W => low_in b (z : Int) (by omega) (by omega) W
    obtain ⟨nl, nh⟩ := lowI_range a (z : Int) (by omega) (by omega)
    obtain ⟨ml, mh⟩ := lowI_range b (z : Int) (by omega) (by omega)
    generalize lowI a (z : Int) = n1 at *
    generalize lowI b (z : Int) = m1 at *
    gi_wp2_with fail
    refine ⟨trivial, rfl, (N1 w3 r3).mono ?_⟩
    rintro e w4 ⟨rfl, c4⟩
    have r4 := P.no r3 c4
    have k4 := Chg.seq k3 c4
    gi_wp2_with fail
    refine ⟨trivial, rfl, (L1 w4).mono ?_⟩
    rintro e wq ⟨rfl, hw⟩
    subst hw
    gi_wp2_with fail
    refine ⟨trivial, rfl, (N1 wq r4).mono ?_⟩
    rintro e w5 ⟨rfl, c5⟩
    have r5 := P.no r4 c5
    have k5 := Chg.seq k4 c5
    gi_wp2_with fail
    refine ⟨trivial, rfl, (L2 w5).mono ?_⟩
    rintro e w6 ⟨rfl, hw⟩
    subst hw
    obtain ⟨a2, ha2⟩ : ∃ a2, 1 + n1 = a2 := ⟨_, rfl⟩
    obtain ⟨b2, hb2⟩ : ∃ b2, 1 + m1 = b2 := ⟨_, rfl⟩
    have ra : 1 ≤ a2 ∧ a2 ≤ (z : Int) := by omega
    have rb : 1 ≤ b2 ∧ b2 ≤ (z : Int) := by omega
    clear r3 r4 k3 k4 c4 c5
    have ra' : hasN L.1.length a2 = true := has_of ra.1 (by rw [HZ.out]; exact ra.2)
    obtain ⟨Y, hY⟩ : ∃ Y, bestL L.1 a2 b2 = Y := ⟨_, rfl⟩
    have HY : Hid (bestL L.1 a2 b2 = Y) := hY
    have hYl : Y.length ≤ 60 := by rw [← hY]; exact Nat.le_trans (best_len _ _) HF.out.len
    have A5 := fun W hW => J.base B L S O a2 b2 W hW HF.out
    have A6 := fun W hW => J.base B L S O b2 a2 W hW HF.out
    have A7 := fun W hW => J.deep B L S O a2 b2 0 W hW HF.out
    have A8 := fun W hW => J.best B L S O a2 b2 W hW HF.out
    have A9 := fun W hW => J.is B L S O a2 b2 W hW HF.out
    have GA := fun W hW => J.get B L S O a2 W hW HF.out
    rw [show deepI L.1 a2 b2 0 = [] from rfl] at A7
    rw [hY] at A8
    rw [ra'] at GA
    have hC1 := deep_len HF.out 4 a2 b2
    have hC2 := deep_size HF.out 4 a2 b2
    have hC3 := deep_may HF.out.tree 4 a2 b2
    simp only [deep_swap 4 a2 b2] at A6
    obtain ⟨C, hC⟩ : ∃ C, deepF L.1 4 a2 b2 = C := ⟨_, rfl⟩
    have HC : Hid (deepF L.1 4 a2 b2 = C) := hC
    rw [hC] at hC1 hC2 hC3
    simp only [hC] at A5 A6
    clear hC hY ra' N1 L1 L2 nl nh ml mh
    gi_wp2_with fail
    refine ⟨trivial, rfl, (A5 w6 r5).mono ?_⟩
    rintro e w7 ⟨v7, rfl, o7, c7⟩
    have r7 := P.no r5 c7
    have k7 := Chg.seq k5 c7
    have s7 := o7.sl
    clear A5 r5 k5 c7 o7 ha2 hb2
    gi_wp2_with fail
    refine ⟨trivial, rfl, (A6 w7 r7).mono ?_⟩
    rintro e w8 ⟨v8, rfl, o8, c8⟩
    have r8 := P.no r7 c8
    have k8 := Chg.seq k7 c8
    have s8 := s7.no c8
    have I8 := sameF_in v8 v7 C C w8 o8.sl s8 hC1
    rw [decide_eq_true rfl] at I8
    clear A6 r7 k7 c8 s7 o8
    gi_wp2_with fail
    refine ⟨trivial, rfl, I8.mono ?_⟩
    rintro e w9 ⟨rfl, c9⟩
    have r9 := P.no r8 c9
    have k9 := Chg.seq k8 c9
    have s9 := s8.no c9
    have M9 := may_in v7 C hC2 w9 s9
    rw [hC3] at M9
    clear I8 r8 k8 c9 s8
    gi_wp2_with fail
    refine ⟨trivial, rfl, M9.mono ?_⟩
    rintro e w10 ⟨rfl, c10⟩
    have r10 := P.no r9 c10
    have k10 := Chg.seq k9 c10
    have s10 := s9.no c10
    clear M9 r9 k9 c10 s9
    gi_wp2_with fail
    refine ⟨trivial, rfl, (A7 w10 r10).mono ?_⟩
    rintro e w11 ⟨v11, rfl, o11, c11⟩
    obtain ⟨p11, q11, rfl⟩ := OwnF.slice o11
    have r11 := P.no r10 c11
    have k11 := Chg.seq k10 c11
    have s11 := s10.no c11
    clear A7 r10 k10 c11 s10 o11
    gi_wp2_with fail
    refine ⟨trivial, rfl, (A8 w11 r11).mono ?_⟩
    rintro e w12 ⟨v12, rfl, o12, c12⟩
    have r12 := P.no r11 c12
    have k12 := Chg.seq k11 c12
    have s12 := s11.no c12
    have y12 : SlV w12 v12 (Y.map iv) := SlV.ofRow (by rw [List.length_map]; exact o12)
    obtain ⟨p12, q12, rfl⟩ := row_slice o12
    clear A8 r11 k11 c12 s11 o12
    cases hYc : Y with
    | nil =>
      have hCn : C = [] := by rw [← HC.out]; exact deep_none (by rw [HY.out, hYc]) 4
      subst hCn
      subst hYc
      obtain ⟨p7, q7, rfl, _⟩ := s12.slice
      gi_wp2_with fail
      refine ⟨trivial, rfl, (awakeF_in P J _).mono ?_⟩
      rintro e w13 ⟨rfl, c13⟩
      gi_wp2
      go_ret
      exact ⟨rfl, Chg.seq k12 c13⟩
    | cons y0 ys =>
      subst hYc
      obtain ⟨by', oy, rfl, hcy⟩ := y12.get1 (i := 0) (x := iv y0) rfl
      have hy0 : hasN L.1.length y0 = true := best_has (a := a2) (b := b2) (by rw [HY.out]; simp)
      have G12 := J.get B L S O y0 w12 r12 HF.out
      rw [hy0] at G12
      obtain ⟨ly, hly⟩ : ∃ ly, (y0 :: ys).length = ly := ⟨_, rfl⟩
      have HLy : Hid ((y0 :: ys).length = ly) := hly
      have hly0 : (0 : Int) < (ly : Int) := by rw [← hly, List.length_cons]; omega
      have hly1 : ¬ (ly : Int) = 0 := by omega
      have hcy0 : w12.cell? ⟨by', oy, none⟩ = some (iv y0) := hcy
      rw [hly]
      clear hcy hly y12
      gi_wp2_with fail
      refine ⟨trivial, rfl, G12.mono ?_⟩
      rintro e w13 ⟨pv, tv, rfl, ho1, ho2, c13⟩
      have r13 := P.no r12 c13
      have k13 := Chg.seq k12 c13
      have s13 := s12.no c13
      have f13 := OwnF.sl ho2
      obtain ⟨pa, ka, rfl⟩ := row_slice ho1
      obtain ⟨qa, la, rfl⟩ := OwnF.slice ho2
      obtain ⟨x3, hx3⟩ : ∃ x3, (getC L.1 y0).2.2 = x3 := ⟨_, rfl⟩
      obtain ⟨n3, hn3⟩ : ∃ n3, (getC L.1 y0).1.length = n3 := ⟨_, rfl⟩
      obtain ⟨T, hT⟩ : ∃ T, (getC L.1 y0).2.1 = T := ⟨_, rfl⟩
      have HTr : Hid ((getC L.1 y0).2.1 = T) := hT
      rw [hx3, hn3]
      rw [hT] at f13 ⊢
      obtain ⟨m3, hm3⟩ : ∃ m3, T.length = m3 := ⟨_, rfl⟩
      rw [hm3] at f13 ⊢
      clear ho1 ho2 hx3 hn3 hT G12 r12 k12 c13 s12 hcy0
      obtain ⟨W14, hW14⟩ : ∃ W14, w13.alloc (.cells #[.slice pa n3 ka, .slice qa m3 la, .string x3] 43) = W14 := ⟨_, rfl⟩
      have c14 : Chg No w13 W14 := by rw [← hW14]; exact (Chg.refl _ w13).alloc _
      have d14 : W14.cell? ⟨w13.heap.size, 1, none⟩ = some (.slice qa m3 la) := by
        rw [← hW14, World.cell?_alloc_at (w := w13) _ _ w13.heap.size 1 rfl]
        rfl
      have r14 := P.no r13 c14
      have k14 := Chg.seq k13 c14
      have s14 := s13.no c14
      have f14 := f13.no c14
      clear r13 k13 s13 f13 hm3 c14
      gi_upto_region 16 with (fail)
      gi_cut [105] from 500 (fun v w' => v = .bool false ∧ Rep B L S O w' ∧ Chg No w w' ∧ SlF w' v7 C)
      case first =>
        rename_i JJ KK hJJ hKK
        cases hys : ys with
        | nil =>
          have hl1 : ly = 1 := by rw [← HLy.out, hys]; rfl
          have hCT : C = T := by
            rw [← HC.out, ← HTr.out]
            exact deep_one (by rw [HY.out, hys]) 3
          have I14 := sameF_in v7 (.slice qa m3 la) C T W14 s14 f14 hC1
          rw [decide_eq_true hCT] at I14
          subst hl1
          gi_wp2_with fail
          refine ⟨trivial, rfl, I14.mono ?_⟩
          rintro e w15 ⟨rfl, c15⟩
          gi_wp2
          gi_meet
          exact ⟨rfl, P.no r14 c15, Chg.seq k14 c15, s14.no c15⟩
        | cons y1 yr =>
          have hl2 : ¬ (ly : Int) = 1 := by rw [← HLy.out, hys, List.length_cons, List.length_cons]; omega
          gi_wp2_with fail
          refine ⟨trivial, ?_⟩
          rename_i hKK2
          apply hKK2
          gi_wp2
          gi_meet
          exact ⟨rfl, r14, k14, s14⟩
      case rest =>
      obtain ⟨rfl, r15, k15, s15⟩ := hcut
      generalize wc = w15 at *
      clear r14 k14 s14 f14 d14 hW14
      have G15 := GA w15 r15
      gi_wp2_with fail
      refine ⟨trivial, rfl, G15.mono ?_⟩
      rintro e w16 ⟨pv, tv, rfl, ho1, ho2, c16⟩
      have r16 := P.no r15 c16
      have k16 := Chg.seq k15 c16
      have s16 := s15.no c16
      have f16 := OwnF.sl ho2
      obtain ⟨pb, kb, rfl⟩ := row_slice ho1
      obtain ⟨qb, lb, rfl⟩ := OwnF.slice ho2
      obtain ⟨x4, hx4⟩ : ∃ x4, (getC L.1 a2).2.2 = x4 := ⟨_, rfl⟩
      obtain ⟨n4, hn4⟩ : ∃ n4, (getC L.1 a2).1.length = n4 := ⟨_, rfl⟩
      obtain ⟨U, hU⟩ : ∃ U, (getC L.1 a2).2.1 = U := ⟨_, rfl⟩
      have HUr : Hid ((getC L.1 a2).2.1 = U) := hU
      rw [hx4, hn4]
      rw [hU] at f16 ⊢
      obtain ⟨m4, hm4⟩ : ∃ m4, U.length = m4 := ⟨_, rfl⟩
      rw [hm4] at f16 ⊢
      clear ho1 ho2 hx4 hn4 hU G15 r15 k15 c16 s15
      obtain ⟨W17, hW17⟩ : ∃ W17, w16.alloc (.cells #[.slice pb n4 kb, .slice qb m4 lb, .string x4] 43) = W17 := ⟨_, rfl⟩
      have c17 : Chg No w16 W17 := by rw [← hW17]; exact (Chg.refl _ w16).alloc _
      have d17 : W17.cell? ⟨w16.heap.size, 1, none⟩ = some (.slice qb m4 lb) := by
        rw [← hW17, World.cell?_alloc_at (w := w16) _ _ w16.heap.size 1 rfl]
        rfl
      have r17 := P.no r16 c17
      have k17 := Chg.seq k16 c17
      have s17 := s16.no c17
      have f17 := f16.no c17
      have B17 := A9 W17 r17
      obtain ⟨u, hu⟩ : ∃ u, decide (a2 ∈ aheadI L.1 b2) = u := ⟨_, rfl⟩
      have HU2 : Hid (decide (a2 ∈ aheadI L.1 b2) = u) := hu
      rw [hu] at B17
      clear r16 k16 s16 f16 hm4 c17 hu
      gi_wp2_with fail
      refine ⟨trivial, rfl, B17.mono ?_⟩
      rintro e w18 ⟨rfl, c18⟩
      have k18 := Chg.seq k17 c18
      have s18 := s17.no c18
      have f18 := f17.no c18
      have d18 : w18.cell? ⟨w16.heap.size, 1, none⟩ = some (.slice qb m4 lb) := (World.cell?_of_block (c18.block _ (World.block_lt_of_cell? W17 _ d17) (fun h => h))).trans d17
      clear B17 k17 s17 f17 d17 hW17
      cases u with
      | true =>
        have hCU : C = U := by
          rw [← HC.out, ← HUr.out]
          exact deep_ahead HF.out.par.low (by simpa using HU2.out) 3
        have I18 := sameF_in v7 (.slice qb m4 lb) C U w18 s18 f18 hC1
        rw [decide_eq_true hCU] at I18
        gi_wp2_with fail
        refine ⟨trivial, rfl, I18.mono ?_⟩
        rintro e w19 ⟨rfl, c19⟩
        gi_wp2_with fail
        refine ⟨trivial, rfl, (awakeF_in P J _).mono ?_⟩
        rintro e w20 ⟨rfl, c20⟩
        gi_wp2
        go_ret
        exact ⟨rfl, Chg.seq (Chg.seq k18 c19) c20⟩
      | false =>
        gi_wp2_with fail
        refine ⟨trivial, ?_⟩
        rename_i hKK2
        apply hKK2
        gi_wp2_with fail
        refine ⟨trivial, rfl, (awakeF_in P J _).mono ?_⟩
        rintro e w20 ⟨rfl, c20⟩
        gi_wp2
        go_ret
        exact ⟨rfl, Chg.seq k18 c20⟩
end Go.Proofs.YtakbeololabmhaaGreatDoor
