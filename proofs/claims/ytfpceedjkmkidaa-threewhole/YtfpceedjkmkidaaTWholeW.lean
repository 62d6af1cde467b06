/-
  ThreeWhole answers true at every three lists of texts, and turns nothing that lay.
-/
import Derived.Test.YtfpceedjkmkidaaTWholeL
namespace Go.Proofs.Ytfpceedjkmkidaa
open Go.RowKit Go.Shelf Go.SeqLib Go.DiffLib Go.BigFrame
attribute [local go_sem] Oper.semAt_some

set_option maxRecDepth 100000 in
set_option maxHeartbeats 16000000 in
theorem whole_law (p : Option Addr) (lo cp : Nat) (o : List ByteArray) (q : Option Addr) (la cq : Nat) (a : List ByteArray) (r : Option Addr) (lb cr : Nat) (b : List ByteArray) (w : World) (hv : SlV w (.slice p lo cp) (o.map Value.string)) (hlo : o.length = lo) (hu : SlV w (.slice q la cq) (a.map Value.string)) (hla : a.length = la) (ht : SlV w (.slice r lb cr) (b.map Value.string)) (hlb : b.length = lb) :
    CallsIn Fence.wide 0 Try.prog 4 #[.slice p lo cp, .slice q la cq, .slice r lb cr] w fun e w' => e = .returned (.bool true) ∧ Chg No w w' := by
  have hmix : Try.prog.follows .mixedOrders = true := by kernel_rfl
  have LO : Hid (o.length = lo) := hlo
  have LA : Hid (a.length = la) := hla
  have LB : Hid (b.length = lb) := hlb
  clear hlo hla hlb
  refine callsIn_of_wp Try.func4 rfl trivial ?_
  simp only [Try.ntmps4, List.size_toArray, List.length_cons, List.length_nil, Nat.reduceAdd, Nat.reduceSub, Array.replicate_succ, Array.replicate_zero, List.push_toArray, List.append_toArray, List.nil_append, List.cons_append]
  gi_wp2_with fail
  refine ⟨trivial, rfl, (great3_in p q r lo la lb cp cq cr o a b w hv hu ht).mono ?_⟩
  rintro e w0 ⟨rfl, rfl⟩
  obtain ⟨g, hg⟩ : ∃ g, (greatB o 30 20 || (greatB a 30 20 || greatB b 30 20)) = g := ⟨_, rfl⟩
  rw [hg]
  cases g with
  | true =>
    gi_wp2_with fail
    refine ⟨trivial, rfl, (awake_in _).mono ?_⟩
    rintro e w1 ⟨rfl, c1⟩
    gi_wp2
    go_ret
    exact ⟨rfl, c1⟩
  | false =>
    obtain ⟨h1, h2, h3⟩ := great3_false hg
    have H1 : Hid (o.length ≤ 400) := by show _ ≤ _; omega
    have H2 : Hid (a.length ≤ 400) := by show _ ≤ _; omega
    have H3 : Hid (b.length ≤ 400) := by show _ ≤ _; omega
    have hpl := parts_length o a b
    have HLn : Hid (∀ p ∈ parts o a b, p.o.length ≤ 30 ∧ p.a.length ≤ 30 ∧ p.b.length ≤ 30) := fun p hp => by have := parts_lens o a b p hp; omega
    have hpl' : (parts o a b).length ≤ 61 := by omega
    clear hg hpl h1 h2 h3
    gi_wp2_with fail
    refine ⟨trivial, rfl, (parts_in _ _ _ o a b w0 hv hu ht H1.out H2.out H3.out).mono ?_⟩
    rintro e wP ⟨v7, rfl, ⟨rs, PA⟩, k1⟩
    gi_wp2_with fail
    refine ⟨trivial, rfl, (merge_tells _ _ _ o a b wP (hv.no k1) (hu.no k1) (ht.no k1) H1.out H2.out H3.out).mono ?_⟩
    rintro e Wb ⟨pm, nm, cm, rfl, sM, k2⟩
    have PAb := PA.no k2
    have cB : Chg No w0 Wb := Chg.seq k1 k2
    have vb := hv.no cB
    have ub := hu.no cB
    have tb := ht.no cB
    have HPo : Hid ((parts o a b).flatMap (·.o) = o) := parts_o o a b
    have HPa : Hid ((parts o a b).flatMap (·.a) = a) := parts_a o a b
    have HPb : Hid ((parts o a b).flatMap (·.b) = b) := parts_b o a b
    have HMk : Hid (∀ p ∈ parts o a b, p = mk3 p.o p.a p.b) := parts_mk o a b
    unfold mrg at sM ⊢
    clear hv hu ht PA k1 k2 H1 H2 H3
    generalize parts o a b = ps at *
    have HOk : Hid ((gather ps).isSome = !ps.any (·.c)) := gather_ok ps
    have HGm : Hid (∀ m, gather ps = some m → m = ps.flatMap pcs) := fun m h => gather_pcs ps HMk.out m h
    obtain ⟨ok, hok⟩ : ∃ z, (gather ps).isSome = z := ⟨_, rfl⟩
    have HK : Hid ((gather ps).isSome = ok) := hok
    rw [hok]
    clear hok
    have sR : SlR Wb v7 rs := SlE.ofRow eR_len PAb.row
    obtain ⟨p7, c7, rfl⟩ := row_slice PAb.row
    obtain ⟨np, HNP⟩ : ∃ n, Hid (rs.length = n) := ⟨_, rfl⟩
    have HNS : Hid (ps.length = np) := by show _ = _; rw [← PAb.len, HNP.out]
    rw [HNP.out] at sR ⊢
    rw [HNS.out] at hpl'
    -- what is told of the merge
    have HMm : Hid (SlV Wb (.slice pm nm cm) (((gather ps).getD []).map Value.string) ∧ nm = ((gather ps).getD []).length) := ⟨sM, by obtain ⟨_, _, e, _⟩ := sM; cases e; simp⟩
    clear sM
    gi_wp2
    gi_loopw [10, 11, 12, 13, 14, 15] (fun x y z cf at_ i wr => ∃ k : Nat, k ≤ np ∧ i = .int .i64 (k : Int) ∧ cf = .bool ((ps.take k).any (·.c)) ∧ at_ = .int .i64 (((ps.take k).flatMap pcs).length : Int) ∧ Tri wr Wb.heap.size x y z ((ps.take k).flatMap (·.o)) ((ps.take k).flatMap (·.a)) ((ps.take k).flatMap (·.b)) ∧ ((ps.take k).flatMap (·.o)).length ≤ k * 30 ∧ ((ps.take k).flatMap (·.a)).length ≤ k * 30 ∧ ((ps.take k).flatMap (·.b)).length ≤ k * 30 ∧ ((ps.take k).flatMap pcs).length ≤ k * 30 ∧ Chg No Wb wr) (fun x y z cf at_ i _ => np - (intOf i).toNat)
    case atStart => exact ⟨0, Nat.zero_le _, rfl, rfl, rfl, Tri.nil _ _, by simp, by simp, by simp, by simp, Chg.refl _ _⟩
    case round =>
      obtain ⟨k, hk, rfl, rfl, rfl, T0, l1, l2, l3, l4, cw⟩ := hrel
      by_cases hlt : k < np
      · have hlt' : (k : Int) < (np : Int) := by omega
        obtain ⟨x, hx⟩ : ∃ x, rs[k]? = some x := ⟨_, List.getElem?_eq_getElem (by rw [HNP.out]; exact hlt)⟩
        obtain ⟨pp, hpp, hxc, o3⟩ := PAb.at hx
        have hmem := List.mem_of_getElem? hpp
        have hln := HLn.out pp hmem
        have hval := mk3_val pp (HMk.out pp hmem)
        have HF : Hid ((ps.take (k + 1)).flatMap (·.o) = (ps.take k).flatMap (·.o) ++ pp.o ∧ (ps.take (k + 1)).flatMap (·.a) = (ps.take k).flatMap (·.a) ++ pp.a ∧ (ps.take (k + 1)).flatMap (·.b) = (ps.take k).flatMap (·.b) ++ pp.b ∧ (ps.take (k + 1)).flatMap pcs = (ps.take k).flatMap pcs ++ pcs pp ∧ (ps.take (k + 1)).any (·.c) = ((ps.take k).any (·.c) || pp.c)) := ⟨flat_take _ ps k pp hpp, flat_take _ ps k pp hpp, flat_take _ ps k pp hpp, flat_take _ ps k pp hpp, any_take ps k pp hpp⟩
        have HCut := flat_cut pcs ps k pp hpp
        obtain ⟨b1, o1, rfl, x1, x2, x3, x4⟩ := SlR.at sR k x hx
        obtain ⟨xc, xo, xa, xb⟩ := x
        simp only at hxc o3 x1 x2 x3 x4
        obtain ⟨v1, v2, v3⟩ := o3.reads
        obtain ⟨q1, d1, rfl, _⟩ := id v1
        obtain ⟨q2, d2, rfl, _⟩ := id v2
        obtain ⟨q3, d3, rfl, _⟩ := id v3
        rw [List.length_map] at v1 v2 v3 x2 x3 x4
        clear hx hpp hmem o3
        subst hxc
        generalize (ps.take k).flatMap (·.o) = X at *
        generalize (ps.take k).flatMap (·.a) = Y at *
        generalize (ps.take k).flatMap (·.b) = Z at *
        generalize (ps.take k).flatMap pcs = M at *
        generalize (ps.take k).any (·.c) = cf at *
        obtain ⟨n1, HN1⟩ : ∃ n, Hid (pp.o.length = n) := ⟨_, rfl⟩
        obtain ⟨n2, HN2⟩ : ∃ n, Hid (pp.a.length = n) := ⟨_, rfl⟩
        obtain ⟨n3, HN3⟩ : ∃ n, Hid (pp.b.length = n) := ⟨_, rfl⟩
        rw [HN1.out] at v1 x2 hln
        rw [HN2.out] at v2 x3 hln
        rw [HN3.out] at v3 x4 hln
        obtain ⟨p10, c10, rfl⟩ := row_slice T0.rx
        obtain ⟨p11, c11, rfl⟩ := row_slice T0.ry
        obtain ⟨p12, c12, rfl⟩ := row_slice T0.rz
        have hka : k * 30 ≤ 61 * 30 := Nat.mul_le_mul_right _ (by omega)
        have hany := After.any Wb
        have g1 : ∀ c : After Wb, c.val.cell? ⟨b1, o1 + k * 4 + 1, none⟩ = some (.slice q1 n1 d1) := fun c => c.cell x2
        have g2 : ∀ c : After Wb, c.val.cell? ⟨b1, o1 + k * 4 + 2, none⟩ = some (.slice q2 n2 d2) := fun c => c.cell x3
        have g3 : ∀ c : After Wb, c.val.cell? ⟨b1, o1 + k * 4 + 3, none⟩ = some (.slice q3 n3 d3) := fun c => c.cell x4
        gi_wp2
        refine region_loudE (fun i => i == 6 || i == 13 || i == 20) (fun w' => ∃ c : After Wb, w' = c.val) (WInv Wb (.slice p10 X.length c10) (.slice p11 Y.length c11) (.slice p12 Z.length c12) X Y Z pp.o pp.a pp.b) hmix (by kernel_rfl) (by kernel_rfl) (fun d u W h => ⟨⟨W, h.1⟩, rfl⟩) (fun u => ⟨cw.drew, .inl ⟨rfl, rfl, rfl, T0.no (Chg.refl _ wr).drew⟩⟩) (fun u => ?_)
        simp only [hushE, Nat.reduceAdd, Nat.reduceBEq, Bool.or_self, Bool.or_true, Bool.or_false, if_true, if_false, Bool.false_eq_true]
        repeat (gi_big_quiet_step (fail))
        refine wpQuietIn_nil ⟨?_, ?_⟩
        · intro i o d W ho hm hd hwt hI
          simp only [Bool.or_eq_true, beq_iff_eq] at hm
          rcases hm with (rfl | rfl) | rfl
          · cases ho
            obtain ⟨cI, hI⟩ := hI
            rcases hI with ⟨_, e2, e3, T⟩ | ⟨e1, _⟩ | ⟨e1, _⟩ | ⟨e1, _⟩
            · refine LeadsV.append_sv _ _ rfl Wb.heap.size (.slice p10 X.length c10) X.length (X.map Value.string) rfl T.rx q1 n1 d1 pp.o rfl (v1.no cI) (by omega) cI.size ?_
              intro v' w' hown hgrow hat
              refine ⟨cI.grown hgrow (fun k e => .inr (T.rx.lt k e).1), .inr (.inl ⟨rfl, e2, e3, ?_⟩)⟩
              exact T.app1 (by rw [HN1.out]; exact hown) hgrow hat
            · rw [hd] at e1; cases e1
            · rw [hd] at e1; cases e1
            · rw [hd] at e1; cases e1
          · cases ho
            have w6 := hwt 6 rfl (by kernel_rfl)
            obtain ⟨cI, hI⟩ := hI
            rcases hI with ⟨e1, _⟩ | ⟨_, e2, e3, T⟩ | ⟨_, e1, _⟩ | ⟨_, e1, _⟩
            · rw [w6] at e1; cases e1
            · refine LeadsV.append_sv _ _ rfl Wb.heap.size (.slice p11 Y.length c11) Y.length (Y.map Value.string) rfl T.ry q2 n2 d2 pp.a rfl (v2.no cI) (by omega) cI.size ?_
              intro v' w' hown hgrow hat
              refine ⟨cI.grown hgrow (fun k e => .inr (T.ry.lt k e).1), .inr (.inr (.inl ⟨w6, rfl, e3, ?_⟩))⟩
              exact T.app2 (by rw [HN2.out]; exact hown) hgrow hat
            · rw [hd] at e1; cases e1
            · rw [hd] at e1; cases e1
          · cases ho
            have w13 := hwt 13 rfl (by kernel_rfl)
            obtain ⟨cI, hI⟩ := hI
            rcases hI with ⟨_, e1, _⟩ | ⟨_, e1, _⟩ | ⟨w6, _, e3, T⟩ | ⟨_, _, e1, _⟩
            · rw [w13] at e1; cases e1
            · rw [w13] at e1; cases e1
            · refine LeadsV.append_sv _ _ rfl Wb.heap.size (.slice p12 Z.length c12) Z.length (Z.map Value.string) rfl T.rz q3 n3 d3 pp.b rfl (v3.no cI) (by omega) cI.size ?_
              intro v' w' hown hgrow hat
              refine ⟨cI.grown hgrow (fun k e => .inr (T.rz.lt k e).1), .inr (.inr (.inr ⟨w6, w13, rfl, ?_⟩))⟩
              exact T.app3 (by rw [HN3.out]; exact hown) hgrow hat
            · rw [hd] at e1; cases e1
        · intro d W hall hI
          have w6 := hall 6 rfl (by decide)
          have w13 := hall 13 rfl (by decide)
          have w20 := hall 20 rfl (by decide)
          obtain ⟨cI, hI⟩ := hI
          rcases hI with ⟨e1, _⟩ | ⟨_, e1, _⟩ | ⟨_, _, e1, _⟩ | ⟨_, _, _, T⟩
          · rw [w6] at e1; cases e1
          · rw [w13] at e1; cases e1
          · rw [w20] at e1; cases e1
          generalize u 6 = y10 at *
          generalize u 13 = y11 at *
          generalize u 20 = y12 at *
          have clrT := T
          have L1' : (X ++ pp.o).length ≤ (k + 1) * 30 := by rw [List.length_append, HN1.out, Nat.succ_mul]; omega
          have L2' : (Y ++ pp.a).length ≤ (k + 1) * 30 := by rw [List.length_append, HN2.out, Nat.succ_mul]; omega
          have L3' : (Z ++ pp.b).length ≤ (k + 1) * 30 := by rw [List.length_append, HN3.out, Nat.succ_mul]; omega
          have hpl4 : (pcs pp).length ≤ 30 := by unfold pcs; split; rw [HN3.out]; omega; rw [HN2.out]; omega
          have L4' : (M ++ pcs pp).length ≤ (k + 1) * 30 := by rw [List.length_append, Nat.succ_mul]; omega
          have HL : Hid ((X ++ pp.o).length ≤ (k + 1) * 30 ∧ (Y ++ pp.a).length ≤ (k + 1) * 30 ∧ (Z ++ pp.b).length ≤ (k + 1) * 30 ∧ (M ++ pcs pp).length ≤ (k + 1) * 30) := ⟨L1', L2', L3', L4'⟩
          have HT : Hid (Tri W Wb.heap.size y10 y11 y12 (X ++ pp.o) (Y ++ pp.a) (Z ++ pp.b)) := T
          have V1 := v1.no cI
          have V2 := v2.no cI
          have V3 := v3.no cI
          have X1 := chgCell cI x1 (fun h => h)
          have X2 := chgCell cI x2 (fun h => h)
          have X3 := chgCell cI x3 (fun h => h)
          have X4 := chgCell cI x4 (fun h => h)
          clear T clrT L1' L2' L3' L4' T0 l1 l2 l3 g1 g2 g3 hany cw w6 w13 w20 hall
          obtain ⟨cc, hcc⟩ : ∃ c, pp.c = c := ⟨_, rfl⟩
          have HCC : Hid (pp.c = cc) := hcc
          rw [hcc] at X1 hval
          have HV0 : Hid (cc = (!decide (pp.o = pp.a) && (!decide (pp.o = pp.b) && !decide (pp.a = pp.b)))) := hval
          clear hval
          clear hcc x1 x2 x3 x4 v1 v2 v3
          gi_upto_region 12 with (fail)
          gi_cut [13] from 500 (fun v w' => v = .bool (cf || cc) ∧ w' = W)
          case first =>
            rename_i JJ KK hJJ hKK
            cases cf with
            | true =>
              gi_wp2
              gi_meet
              exact ⟨rfl, rfl⟩
            | false =>
              gi_wp2
              gi_meet
              exact ⟨rfl, rfl⟩
          case rest =>
          obtain ⟨rfl, rfl⟩ := hcut
          obtain ⟨zc, hzc⟩ : ∃ z, decide (pp.o = pp.a) = z := ⟨_, rfl⟩
          obtain ⟨zd, hzd⟩ : ∃ z, decide (pp.o = pp.b) = z := ⟨_, rfl⟩
          obtain ⟨ze, hze⟩ : ∃ z, decide (pp.a = pp.b) = z := ⟨_, rfl⟩
          rw [hzc, hzd, hze] at HV0
          have HS1 : Hid (∀ c : After wc, CallsIn Fence.wide 0 Try.prog 15 #[.slice q1 n1 d1, .slice q2 n2 d2] c.val fun e w' => e = .returned (.bool zc) ∧ Chg No c.val w') := fun c => by rw [← hzc]; exact sameS_in _ _ pp.o pp.a c.val (V1.no c.chg) (V2.no c.chg)
          have HS2 : Hid (∀ c : After wc, CallsIn Fence.wide 0 Try.prog 15 #[.slice q1 n1 d1, .slice q3 n3 d3] c.val fun e w' => e = .returned (.bool zd) ∧ Chg No c.val w') := fun c => by rw [← hzd]; exact sameS_in _ _ pp.o pp.b c.val (V1.no c.chg) (V3.no c.chg)
          have HS3 : Hid (∀ c : After wc, CallsIn Fence.wide 0 Try.prog 15 #[.slice q2 n2 d2, .slice q3 n3 d3] c.val fun e w' => e = .returned (.bool ze) ∧ Chg No c.val w') := fun c => by rw [← hze]; exact sameS_in _ _ pp.a pp.b c.val (V2.no c.chg) (V3.no c.chg)
          have hany := After.any wc
          have g1 : ∀ c : After wc, c.val.cell? ⟨b1, o1 + k * 4 + 1, none⟩ = some (.slice q1 n1 d1) := fun c => c.cell X2
          have g2 : ∀ c : After wc, c.val.cell? ⟨b1, o1 + k * 4 + 2, none⟩ = some (.slice q2 n2 d2) := fun c => c.cell X3
          have g3 : ∀ c : After wc, c.val.cell? ⟨b1, o1 + k * 4 + 3, none⟩ = some (.slice q3 n3 d3) := fun c => c.cell X4
          have HZc : Hid (decide (pp.o = pp.a) = zc) := hzc
          have HV : Hid (cc = (!zc && (!zd && !ze))) := HV0
          clear hzc hzd hze HV0
          gi_wp2
          refine region_quietC hmix (by kernel_rfl) ?_
          repeat (gi_big_quiet_step (fail))
          refine wpQuietIn_want (fun _ _ _ _ => trivial) rfl ?_
          intro KQ hKQ
          gi_big_quiet_op
          gi_big_quiet_call (exact ⟨rfl, (HS1.out _).mono (by rintro e w'' ⟨rfl, c'⟩; exact ⟨rfl, After.more _ c'⟩)⟩)
          repeat (gi_big_quiet_step (fail))
          refine wpQuietIn_want (fun _ _ _ _ => trivial) rfl ?_
          intro KQ2 hKQ2
          gi_big_quiet_op
          gi_big_quiet_call (exact ⟨rfl, (HS2.out _).mono (by rintro e w'' ⟨rfl, c'⟩; exact ⟨rfl, After.more _ c'⟩)⟩)
          repeat (gi_big_quiet_step (fail))
          refine wpQuietIn_want (fun _ _ _ _ => trivial) rfl ?_
          intro KQ3 hKQ3
          gi_big_quiet_op
          gi_big_quiet_call (exact ⟨rfl, (HS3.out _).mono (by rintro e w'' ⟨rfl, c'⟩; exact ⟨rfl, After.more _ c'⟩)⟩)
          repeat (gi_big_quiet_step (fail))
          refine wpQuietIn_nil ?_
          rintro w' ⟨c, rfl⟩
          have cI2 := Chg.seq cI c.chg
          have HT2 : Hid (Tri c.val Wb.heap.size y10 y11 y12 (X ++ pp.o) (Y ++ pp.a) (Z ++ pp.b)) := HT.out.no c.chg
          have Z1 := c.cell X1
          have Z2 := c.cell X2
          have Z3 := c.cell X3
          have Z4 := c.cell X4
          have V2' := V2.no c.chg
          have V3' := V3.no c.chg
          clear HT V1 V2 V3 X1 X2 X3 X4 g1 g2 g3 hany HS1 HS2 HS3
          generalize c.val = W2 at *
          gi_upto_region 14 with (fail)
          gi_cut [119] from 500 (fun v w' => v = .bool false ∧ w' = W2)
          case first =>
            rename_i JJ KK hJJ hKK
            cases zc with
            | true =>
              obtain rfl : cc = false := HV.out
              gi_wp2
              gi_meet
              exact ⟨rfl, rfl⟩
            | false =>
              cases zd with
              | true =>
                obtain rfl : cc = false := HV.out
                gi_wp2
                gi_meet
                exact ⟨rfl, rfl⟩
              | false =>
                cases ze with
                | true =>
                  obtain rfl : cc = false := HV.out
                  gi_wp2
                  gi_meet
                  exact ⟨rfl, rfl⟩
                | false =>
                  obtain rfl : cc = true := HV.out
                  gi_wp2
                  gi_meet
                  exact ⟨rfl, rfl⟩
          case rest =>
          obtain ⟨rfl, rfl⟩ := hcut
          gi_upto_if 125 with (fail)
          gi_cut [19] from 500 (fun v w' => (∃ qp lp dp, v = .slice qp lp dp ∧ SlV wc v ((pcs pp).map Value.string)) ∧ w' = wc)
          case first =>
            rename_i JJ KK hJJ hKK
            cases zc with
            | true =>
              have HP : Hid (pcs pp = pp.b) := if_pos (of_decide_eq_true HZc.out)
              gi_wp2
              gi_meet
              exact ⟨⟨_, _, _, rfl, by rw [HP.out]; exact V3'⟩, rfl⟩
            | false =>
              have HP : Hid (pcs pp = pp.a) := if_neg (of_decide_eq_false HZc.out)
              gi_wp2
              gi_meet
              exact ⟨⟨_, _, _, rfl, by rw [HP.out]; exact V2'⟩, rfl⟩
          case rest =>
          rename_i wcc
          obtain ⟨⟨qp, lp, dp, rfl, sP⟩, rfl⟩ := hcut
          have hlp : lp = (pcs pp).length := by obtain ⟨_, _, e, _⟩ := sP; cases e; simp
          have HLP : Hid (lp = (pcs pp).length) := hlp
          have hlp30 : lp ≤ 30 := by rw [hlp]; exact hpl4
          rw [← hlp] at HCut
          clear hlp
          have hML : M.length ≤ 1830 := by omega
          obtain ⟨lM', hlM'⟩ : ∃ n, M.length = n := ⟨_, rfl⟩
          have HMl : Hid (M.length = lM') := hlM'
          rw [hlM']
          rw [hlM'] at HCut hML l4
          clear hlM'
          cases ok with
          | true =>
            obtain ⟨m, hm⟩ : ∃ m, gather ps = some m := Option.isSome_iff_exists.1 HK.out
            have hmf := HGm.out m hm
            obtain ⟨sMb, hnm⟩ := HMm.out
            rw [hm, Option.getD_some] at sMb hnm
            rw [← hmf] at HCut
            have sMw := sMb.no cI2
            obtain ⟨pc, cc2, sC, _, hcut⟩ := SlV.mid sMw (by rw [List.length_map]; exact hnm.symm) lM' (lM' + lp) (by omega) (by rw [hnm]; exact HCut.2)
            rw [← List.map_take, ← List.map_drop, HCut.1] at sC
            rw [show lM' + lp - lM' = lp by omega] at sC hcut
            rw [Int.natCast_add] at hcut
            have hle : ¬ (nm : Int) < (lM' : Int) + (lp : Int) := by have := HCut.2; omega
            clear hm hmf hnm HCut sMb sMw
            gi_wp2_with fail
            refine ⟨trivial, rfl, (sameS_in _ _ _ _ _ sC sP).mono ?_⟩
            rintro e W5 ⟨rfl, k5⟩
            rw [decide_eq_true rfl]
            have cI5 := Chg.seq cI2 k5
            have T5 := HT2.out.no k5
            gi_wp2
            go_roundw
            case rel => exact ⟨k + 1, hlt, by go_num, by rw [HF.out.2.2.2.2, HCC.out], by rw [HF.out.2.2.2.1, List.length_append, HMl.out, ← HLP.out]; go_num, by rw [HF.out.1, HF.out.2.1, HF.out.2.2.1]; exact T5, by rw [HF.out.1]; exact HL.out.1, by rw [HF.out.2.1]; exact HL.out.2.1, by rw [HF.out.2.2.1]; exact HL.out.2.2.1, by rw [HF.out.2.2.2.1]; exact HL.out.2.2.2, cI5⟩
            case measure => simp [intOf]; omega
          | false =>
            clear HCut
            gi_wp2_with fail
            any_goals (first
              | (exact absurd (by assumption : some undef = some (Value.bool _)) (by simp [undef]))
              | (refine absurd (show some undef = some (Value.bool true) from ?_) (by simp [undef]); assumption)
              | (refine absurd (show some undef = some (Value.bool false) from ?_) (by simp [undef]); assumption))
            refine ⟨trivial, ?_⟩
            rename_i hKK
            apply hKK
            gi_wp2
            go_roundw
            case rel => exact ⟨k + 1, hlt, by go_num, by rw [HF.out.2.2.2.2, HCC.out], by rw [HF.out.2.2.2.1, List.length_append, HMl.out, ← HLP.out]; go_num, by rw [HF.out.1, HF.out.2.1, HF.out.2.2.1]; exact HT2.out, by rw [HF.out.1]; exact HL.out.1, by rw [HF.out.2.1]; exact HL.out.2.1, by rw [HF.out.2.2.1]; exact HL.out.2.2.1, by rw [HF.out.2.2.2.1]; exact HL.out.2.2.2, cI2⟩
            case measure => simp [intOf]; omega
      · obtain rfl : k = np := by omega
        have hlt' : ¬ (k : Int) < (k : Int) := by omega
        rw [List.take_of_length_le (by rw [HNS.out]; exact Nat.le_refl _)] at T0 l4 ⊢
        rw [HPo.out, HPa.out, HPb.out] at T0
        have sx : SlV wr _ (o.map Value.string) := SlV.ofRow (by simpa using T0.rx)
        have sy : SlV wr _ (a.map Value.string) := SlV.ofRow (by simpa using T0.ry)
        have sz : SlV wr _ (b.map Value.string) := SlV.ofRow (by simpa using T0.rz)
        obtain ⟨p10, c10, rfl⟩ := row_slice T0.rx
        obtain ⟨p11, c11, rfl⟩ := row_slice T0.ry
        obtain ⟨p12, c12, rfl⟩ := row_slice T0.rz
        have vv := vb.no cw
        have uu := ub.no cw
        have tt := tb.no cw
        have cAll := Chg.seq cB cw
        have HMl : Hid (ok = true → (ps.flatMap pcs).length = nm) := fun e => by
          obtain ⟨m, hm⟩ := Option.isSome_iff_exists.1 (HK.out.trans e)
          rw [← HGm.out m hm, HMm.out.2, hm]; rfl
        have HM0 : Hid (ok = false → nm = 0) := fun e => by
          have hn : gather ps = none := Option.isNone_iff_eq_none.1 (by rw [← Option.not_isSome, HK.out, e]; rfl)
          rw [HMm.out.2, hn]; rfl
        have HCf : Hid (ps.any (·.c) = !ok) := by
          show _ = _
          rw [← HK.out, HOk.out, Bool.not_not]
        rw [HCf.out]
        generalize (ps.flatMap pcs).length = lM at *
        clear T0 hlt
        gi_wp2_with fail
        refine ⟨trivial, rfl, (sameS_in _ _ _ _ _ sx vv).mono ?_⟩
        rintro e Y1 ⟨rfl, k1⟩
        rw [decide_eq_true rfl]
        gi_wp2_with fail
        refine ⟨trivial, rfl, (sameS_in _ _ _ _ _ (sy.no k1) (uu.no k1)).mono ?_⟩
        rintro e Y2 ⟨rfl, k2⟩
        rw [decide_eq_true rfl]
        have k12 := Chg.seq k1 k2
        gi_wp2_with fail
        refine ⟨trivial, rfl, (sameS_in _ _ _ _ _ (sz.no k12) (tt.no k12)).mono ?_⟩
        rintro e Y3 ⟨rfl, k3⟩
        rw [decide_eq_true rfl]
        cases ok with
        | true =>
          obtain rfl := HMl.out rfl
          gi_wp2_with fail
          refine ⟨trivial, rfl, (awake_in _).mono ?_⟩
          rintro e Y4 ⟨rfl, k4⟩
          gi_wp2
          go_ret
          exact ⟨rfl, Chg.seq (Chg.seq (Chg.seq cAll k12) k3) k4⟩
        | false =>
          obtain rfl := HM0.out rfl
          gi_wp2_with fail
          refine ⟨trivial, rfl, (awake_in _).mono ?_⟩
          rintro e Y4 ⟨rfl, k4⟩
          gi_wp2
          go_ret
          exact ⟨rfl, Chg.seq (Chg.seq (Chg.seq cAll k12) k3) k4⟩

end Go.Proofs.Ytfpceedjkmkidaa
