/-
  JoinSides answers true at every three lists of files, and turns nothing that lay.
-/
import Derived.Test.YtndblaemladppaaGreatDoorJLaw
import Derived.Test.YtndblaemladppaaGreatDoorFMay
namespace Go.TreeLib
open Go Go.TextLib
theorem tree_few {t : List Fl} (h : mayB t = true) : ∀ f ∈ t, f.1.size ≤ 100000 := fun f hf => by
  have := (mayB_iff.1 h).file f hf
  unfold fileB at this
  rw [Bool.and_eq_true] at this
  have h2 := (pathB_iff.1 this.1).len
  have e : (Bs f.1).length = f.1.size := rfl
  omega
end Go.TreeLib
namespace Go.Proofs.YtndblaemladppaaGreatDoor
open Go.RowKit Go.Shelf Go.SeqLib Go.DiffLib Go.TreeLib Go.TextLib Go.BigFrame
attribute [local go_sem] Oper.semAt_some

set_option maxRecDepth 100000 in
set_option maxHeartbeats 8000000 in
theorem jsides_law (J : JoinSpec) (p0 : Option Addr) (n0 k0 : Nat) (o : List Fl) (p1 : Option Addr) (n1 k1 : Nat) (a : List Fl) (p2 : Option Addr) (n2 k2 : Nat) (b : List Fl) (w : World) (ho : SlF w (.slice p0 n0 k0) o) (_ : o.length = n0) (ha : SlF w (.slice p1 n1 k1) a) (_ : a.length = n1) (hb : SlF w (.slice p2 n2 k2) b) (_ : b.length = n2) :
    CallsIn Fence.wide 0 Tryz.prog 4 #[.slice p0 n0 k0, .slice p1 n1 k1, .slice p2 n2 k2] w fun e w' => e = .returned (.bool true) ∧ Chg No w w' := by
  have G1 := great_in (.slice p0 n0 k0) (.slice p1 n1 k1) (.slice p2 n2 k2) o a b w ho ha hb
  obtain ⟨g, hg⟩ : ∃ g, greatJ o a b = g := ⟨_, rfl⟩
  have HGr : Hid (greatJ o a b = g) := hg
  rw [hg] at G1
  clear hg
  refine callsIn_of_wp Tryz.func4 rfl trivial ?_
  simp only [Tryz.ntmps4, List.size_toArray, List.length_cons, List.length_nil, Nat.reduceAdd, Nat.reduceSub, Array.replicate_succ, Array.replicate_zero, List.push_toArray, List.append_toArray, List.nil_append, List.cons_append]
  gi_wp2_with fail
  refine ⟨trivial, rfl, G1.mono ?_⟩
  rintro e w0 ⟨rfl, rfl⟩
  cases g with
  | true =>
    gi_wp2_with fail
    refine ⟨trivial, rfl, (awake_in J _).mono ?_⟩
    rintro e w9 ⟨rfl, c9⟩
    gi_wp2
    go_ret
    exact ⟨rfl, c9⟩
  | false =>
  obtain ⟨⟨lo, fo⟩, ⟨la, fa⟩, ⟨lb, fb⟩⟩ := greatJ_few HGr.out
  clear HGr G1
  have J1 := J.of _ _ _ o a b w0 ho ha hb fo fa fb
  have J2 := fun W h1 h2 h3 => J.of (.slice p0 n0 k0) (.slice p2 n2 k2) (.slice p1 n1 k1) o b a W h1 h2 h3 fo fb fa
  rw [ofJ_sw] at J2
  have V1 := fun W h1 h2 h3 => J.vir (.slice p0 n0 k0) (.slice p1 n1 k1) (.slice p2 n2 k2) o a b W h1 h2 h3 fo fa fb
  have V2 := fun W h1 h2 h3 => J.vir (.slice p0 n0 k0) (.slice p2 n2 k2) (.slice p1 n1 k1) o b a W h1 h2 h3 fo fb fa
  rw [virJ_sw] at V2
  have J3 := fun W h1 h2 h3 => J.of (.slice p0 n0 k0) (.slice p1 n1 k1) (.slice p1 n1 k1) o a a W h1 h2 h3 fo fa fa
  have J4 := fun W h1 h2 h3 => J.of (.slice p0 n0 k0) (.slice p0 n0 k0) (.slice p2 n2 k2) o o b W h1 h2 h3 fo fo fb
  have HVM : Hid (mayB (virJ o a b) = true) := virJ_may o a b
  have HTR : Hid ((ofJ o a b).2 = [] → mayB (ofJ o a b).1 = true) := ofJ_tree
  have HOR : Hid ((ofJ o a b).1 = [] ∨ (ofJ o a b).2 = []) := ofJ_or o a b
  have HNO : Hid (may3 o a b = false → ofJ o a b = ([], [ques])) := ofJ_not
  have HVO : Hid (may3 o a b = true → (ofJ o a b).2 = [] → virJ o a b = (ofJ o a b).1) := virJ_of
  have HJ3 : Hid (may3 o a b = true → ofJ o a a = (a, [])) := fun h => ofJ_like (may3_iff.1 h).1 (may3_iff.1 h).2.1
  have HJ4 : Hid (may3 o a b = true → ofJ o o b = (b, [])) := fun h => ofJ_right (may3_iff.1 h).1 (may3_iff.1 h).2.2
  have HMo := fun W h => may_in (.slice p0 n0 k0) o (fun f hf => by have := (fo.2 f hf).1; omega) W h
  have HMa := fun W h => may_in (.slice p1 n1 k1) a (fun f hf => by have := (fa.2 f hf).1; omega) W h
  have HMb := fun W h => may_in (.slice p2 n2 k2) b (fun f hf => by have := (fb.2 f hf).1; omega) W h
  obtain ⟨R, HR⟩ : ∃ R, Hid (ofJ o a b = R) := ⟨_, rfl⟩
  rw [HR.out] at J1 J2 HTR HOR HVO HNO
  have HRL := HR
  obtain ⟨t, bd⟩ := R
  dsimp only at J1 J2 HTR HOR HVO
  obtain ⟨vr, HVL⟩ : ∃ vr, Hid (virJ o a b = vr) := ⟨_, rfl⟩
  rw [HVL.out] at V1 V2 HVM HVO
  obtain ⟨mo, hmo⟩ : ∃ mo, mayB o = mo := ⟨_, rfl⟩
  obtain ⟨ma, hma⟩ : ∃ ma, mayB a = ma := ⟨_, rfl⟩
  obtain ⟨mb, hmb⟩ : ∃ mb, mayB b = mb := ⟨_, rfl⟩
  rw [hmo] at HMo
  rw [hma] at HMa
  rw [hmb] at HMb
  have H3 : Hid (may3 o a b = (mo && (ma && mb))) := by show _ = _; unfold may3; rw [hmo, hma, hmb]
  clear hmo hma hmb HR
  gi_wp2_with fail
  refine ⟨trivial, rfl, J1.mono ?_⟩
  rintro e w1 ⟨v1, x1, rfl, r1, y1, c1⟩
  gi_wp2_with fail
  refine ⟨trivial, rfl, (J2 _ (ho.no c1) (hb.no c1) (ha.no c1)).mono ?_⟩
  rintro e w2 ⟨v2, x2, rfl, r2, y2, c2⟩
  have c02 := Chg.seq c1 c2
  have ho2 := ho.no c02
  have ha2 := ha.no c02
  have hb2 := hb.no c02
  have r12 := r1.no c2
  have y12 := OwnT.no y1 c2
  have htl : t.length ≤ 1000000 := by have := ofJ_len o a b; rw [HRL.out] at this; exact Nat.le_trans this (by decide)
  have S1 := sameF_in v1 v2 t t w2 r12.sl r2.sl htl
  rw [decide_eq_true rfl] at S1
  have S2 := fun W h1 h2 => sameS_in x1 x2 bd bd W h1 h2
  rw [decide_eq_true rfl] at S2
  obtain ⟨q1, j1, rfl⟩ := r1.slice
  obtain ⟨q2, j2, rfl⟩ := row_slice y1
  clear J1 J2 r1 y1 c1 ho ha hb
  gi_wp2_with fail
  refine ⟨trivial, rfl, S1.mono ?_⟩
  rintro e w3 ⟨rfl, c3⟩
  gi_wp2_with fail
  refine ⟨trivial, rfl, (S2 _ (OwnT.sl (OwnT.no y12 c3)) (OwnT.sl (OwnT.no y2 c3))).mono ?_⟩
  rintro e w4 ⟨rfl, c4⟩
  have c24 := Chg.seq c3 c4
  have ho4 := ho2.no c24
  have ha4 := ha2.no c24
  have hb4 := hb2.no c24
  have r4 := r12.no c24
  have y4 := OwnT.no y12 c24
  have c04 := Chg.seq c02 c24
  clear S1 S2 r2 y2 c2 c3 c4 c24 c02 ho2 ha2 hb2 r12 y12
  cases bd with
  | nil =>
    have HTM : Hid (mayB t = true) := HTR.out rfl
    have HM : Hid (may3 o a b = true) := by
      cases h : may3 o a b with
      | true => rfl
      | false => have := HNO.out h; rw [Prod.mk.injEq] at this; cases this.2
    have HVE : Hid (vr = t) := HVO.out HM.out rfl
    have hm3 := H3.out
    rw [HM.out] at hm3
    obtain ⟨rfl, rfl, rfl⟩ : mo = true ∧ ma = true ∧ mb = true := by
      cases mo <;> cases ma <;> cases mb <;> first | exact ⟨rfl, rfl, rfl⟩ | cases hm3
    clear hm3
    have y4' : OwnT w4 w0.heap.size (.slice q2 0 j2) [] := y4
    have T4 := may_in (.slice q1 t.length j1) t (tree_few HTM.out) w4 r4.sl
    rw [HTM.out] at T4
    have htn : t.length ≤ 9223372036854775807 := by omega
    have hvl : vr.length ≤ 1000000 := by rw [HVE.out]; exact htl
    gi_wp2_with fail
    refine ⟨trivial, rfl, T4.mono ?_⟩
    rintro e w5 ⟨rfl, c5⟩
    gi_wp2_with fail
    refine ⟨trivial, rfl, (V1 _ (ho4.no c5) (ha4.no c5) (hb4.no c5)).mono ?_⟩
    rintro e w6 ⟨v6, rfl, r6, c6⟩
    have T6 := may_in v6 vr (tree_few HVM.out) w6 r6.sl
    rw [HVM.out] at T6
    gi_wp2_with fail
    refine ⟨trivial, rfl, T6.mono ?_⟩
    rintro e w7 ⟨rfl, c7⟩
    have c47 := Chg.seq c5 (Chg.seq c6 c7)
    have ho7 := ho4.no c47
    have ha7 := ha4.no c47
    have hb7 := hb4.no c47
    have r7 := r4.no c47
    have y7 := OwnT.no y4' c47
    have c07 := Chg.seq c04 c47
    clear T6 c5 r6 c6 c7 c47 c04 ho4 ha4 hb4 r4 y4'
    gi_wp2_with fail
    refine ⟨trivial, rfl, (HMo _ ho7).mono ?_⟩
    rintro e w8 ⟨rfl, c8⟩
    gi_wp2_with fail
    refine ⟨trivial, rfl, (HMa _ (ha7.no c8)).mono ?_⟩
    rintro e w9 ⟨rfl, c9⟩
    have c79 := Chg.seq c8 c9
    gi_wp2_with fail
    refine ⟨trivial, rfl, (HMb _ (hb7.no c79)).mono ?_⟩
    rintro e wA ⟨rfl, cA⟩
    have c7A := Chg.seq c79 cA
    have hoA := ho7.no c7A
    have haA := ha7.no c7A
    have hbA := hb7.no c7A
    have rA := r7.no c7A
    have c0A := Chg.seq c07 c7A
    rw [HJ3.out HM.out] at J3
    rw [HJ4.out HM.out] at J4
    clear c8 c9 c79 cA c7A ho7 ha7 hb7 r7 y7 c07 HMo HMa HMb
    gi_wp2_with fail
    refine ⟨trivial, rfl, (J3 _ hoA haA haA).mono ?_⟩
    rintro e wB ⟨vB, xB, rfl, rB, yB, cB⟩
    gi_wp2_with fail
    refine ⟨trivial, rfl, (J4 _ (hoA.no cB) (hoA.no cB) (hbA.no cB)).mono ?_⟩
    rintro e wC ⟨vC, xC, rfl, rC, yC, cC⟩
    have cAC := Chg.seq cB cC
    obtain ⟨qB, jB, rfl⟩ := row_slice yB
    obtain ⟨qC, jC, rfl⟩ := row_slice yC
    have S3 := sameF_in vB (.slice p1 n1 k1) a a wC (rB.no cC).sl (haA.no cAC) (by omega)
    rw [decide_eq_true rfl] at S3
    gi_wp2_with fail
    refine ⟨trivial, rfl, S3.mono ?_⟩
    rintro e wD ⟨rfl, cD⟩
    have S4 := sameF_in vC (.slice p2 n2 k2) b b wD (rC.no cD).sl (hbA.no (Chg.seq cAC cD)) (by omega)
    rw [decide_eq_true rfl] at S4
    gi_wp2_with fail
    refine ⟨trivial, rfl, S4.mono ?_⟩
    rintro e wE ⟨rfl, cE⟩
    have cAE := Chg.seq cAC (Chg.seq cD cE)
    have hoE := hoA.no cAE
    have haE := haA.no cAE
    have hbE := hbA.no cAE
    have rE := rA.no cAE
    have c0E := Chg.seq c0A cAE
    clear S3 S4 rB yB rC yC cB cC cAC cD cE cAE hoA haA hbA rA c0A J3 J4
    gi_wp2_with fail
    refine ⟨trivial, rfl, (V1 _ hoE haE hbE).mono ?_⟩
    rintro e wF1 ⟨vF, rfl, rF, cF⟩
    have S5 := sameF_in vF (.slice q1 t.length j1) vr t wF1 rF.sl (rE.no cF).sl hvl
    rw [decide_eq_true HVE.out] at S5
    gi_wp2_with fail
    refine ⟨trivial, rfl, S5.mono ?_⟩
    rintro e wF ⟨rfl, cF2⟩
    have cEF := Chg.seq cF cF2
    have hoF := hoE.no cEF
    have haF := haE.no cEF
    have hbF := hbE.no cEF
    have c0F := Chg.seq c0E cEF
    clear S5 rF cF cF2 cEF rE hoE haE hbE c0E
    gi_wp2_with fail
    refine ⟨trivial, rfl, (V1 _ hoF haF hbF).mono ?_⟩
    rintro e wG ⟨vG, rfl, rG, cG⟩
    gi_wp2_with fail
    refine ⟨trivial, rfl, (V2 _ (hoF.no cG) (hbF.no cG) (haF.no cG)).mono ?_⟩
    rintro e wH ⟨vH, rfl, rH, cH⟩
    have S6 := sameF_in vG vH vr vr wH (rG.no cH).sl rH.sl hvl
    rw [decide_eq_true rfl] at S6
    gi_wp2_with fail
    refine ⟨trivial, rfl, S6.mono ?_⟩
    rintro e wI ⟨rfl, cI⟩
    gi_wp2_with fail
    refine ⟨trivial, rfl, (awake_in J _).mono ?_⟩
    rintro e wJ ⟨rfl, cJ⟩
    gi_wp2
    go_ret
    exact ⟨rfl, Chg.seq c0F (Chg.seq cG (Chg.seq cH (Chg.seq cI cJ)))⟩
  | cons z r =>
    obtain rfl : t = [] := by
      rcases HOR.out with h | h
      · exact h
      · cases h
    obtain ⟨m, hm⟩ : ∃ m, (z :: r).length = m := ⟨_, rfl⟩
    have hmp : (0 : Int) < (m : Int) := by rw [← hm, List.length_cons]; omega
    have hme : ((m : Int) == (0 : Int)) = false := beq_eq_false_iff_ne.2 (by omega)
    have hvl : vr.length ≤ 1000000 := by rw [← HVL.out]; exact Nat.le_trans (virJ_len o a b) (by decide)
    have y4' := y4
    rw [hm] at y4' ⊢
    clear y4 hm
    have c5 := Chg.refl No w4
    gi_wp2_with fail
    refine ⟨trivial, ?_⟩
    rename_i hKK
    apply hKK
    gi_wp2_with fail
    refine ⟨trivial, rfl, (V1 _ (ho4.no c5) (ha4.no c5) (hb4.no c5)).mono ?_⟩
    rintro e w6 ⟨v6, rfl, r6, c6⟩
    have T6 := may_in v6 vr (tree_few HVM.out) w6 r6.sl
    rw [HVM.out] at T6
    gi_wp2_with fail
    refine ⟨trivial, rfl, T6.mono ?_⟩
    rintro e w7 ⟨rfl, c7⟩
    have c47 := Chg.seq c5 (Chg.seq c6 c7)
    have ho7 := ho4.no c47
    have ha7 := ha4.no c47
    have hb7 := hb4.no c47
    have r7 := r4.no c47
    have y7 := OwnT.no y4' c47
    have c07 := Chg.seq c04 c47
    clear T6 c5 r6 c6 c7 c47 c04 ho4 ha4 hb4 r4 y4'
    cases hM : may3 o a b with
    | false =>
      have he := HNO.out hM
      rw [Prod.mk.injEq] at he
      obtain ⟨_, he⟩ := he
      have HM3 : Hid (false = (mo && (ma && mb))) := hM.symm.trans H3.out
      have s9 := fun W (c : Chg No w7 W) => sameS_in (.slice q2 m j2) (.slice (some ⟨W.heap.size, 0, none⟩) 1 1) [ques] [ques] (W.alloc (.cells #[.string ques] 9)) (by rw [← he]; exact SlV.no (SlV.no (OwnT.sl y7) c) ((Chg.refl _ W).alloc _)) (SlT.one W ques)
      rw [decide_eq_true rfl] at s9
      clear he
      gi_wp2_with fail
      refine ⟨trivial, rfl, (HMo _ ho7).mono ?_⟩
      rintro e w8 ⟨rfl, c8⟩
      cases mo with
      | false =>
        gi_wp2_with fail
        refine ⟨trivial, ?_⟩
        rename_i hKK
        apply hKK
        gi_wp2_with fail
        refine ⟨trivial, ?_⟩
        rename_i hKK
        apply hKK
        gi_wp2_with fail
        refine ⟨trivial, rfl, (s9 _ c8).mono ?_⟩
        rintro e wY ⟨rfl, cY⟩
        gi_wp2_with fail
        refine ⟨trivial, rfl, (awake_in J _).mono ?_⟩
        rintro e wZ ⟨rfl, cZ⟩
        gi_wp2
        go_ret
        exact ⟨rfl, Chg.seq c07 (Chg.seq (c8.alloc _) (Chg.seq cY cZ))⟩
      | true =>
      gi_wp2_with fail
      refine ⟨trivial, rfl, (HMa _ (ha7.no c8)).mono ?_⟩
      rintro e w9 ⟨rfl, c9⟩
      have c79 := Chg.seq c8 c9
      cases ma with
      | false =>
        gi_wp2_with fail
        refine ⟨trivial, ?_⟩
        rename_i hKK
        apply hKK
        gi_wp2_with fail
        refine ⟨trivial, rfl, (s9 _ c79).mono ?_⟩
        rintro e wY ⟨rfl, cY⟩
        gi_wp2_with fail
        refine ⟨trivial, rfl, (awake_in J _).mono ?_⟩
        rintro e wZ ⟨rfl, cZ⟩
        gi_wp2
        go_ret
        exact ⟨rfl, Chg.seq c07 (Chg.seq (c79.alloc _) (Chg.seq cY cZ))⟩
      | true =>
      gi_wp2_with fail
      refine ⟨trivial, rfl, (HMb _ (hb7.no c79)).mono ?_⟩
      rintro e wA ⟨rfl, cA⟩
      have c7A := Chg.seq c79 cA
      cases mb with
      | false =>
        gi_wp2_with fail
        refine ⟨trivial, rfl, (s9 _ c7A).mono ?_⟩
        rintro e wY ⟨rfl, cY⟩
        gi_wp2_with fail
        refine ⟨trivial, rfl, (awake_in J _).mono ?_⟩
        rintro e wZ ⟨rfl, cZ⟩
        gi_wp2
        go_ret
        exact ⟨rfl, Chg.seq c07 (Chg.seq (c7A.alloc _) (Chg.seq cY cZ))⟩
      | true => cases HM3.out
    | true =>
    have HM : Hid (may3 o a b = true) := hM
    have hm3 := H3.out
    rw [hM] at hm3
    obtain ⟨rfl, rfl, rfl⟩ : mo = true ∧ ma = true ∧ mb = true := by
      cases mo <;> cases ma <;> cases mb <;> first | exact ⟨rfl, rfl, rfl⟩ | cases hm3
    clear hm3 hM
    gi_wp2_with fail
    refine ⟨trivial, rfl, (HMo _ ho7).mono ?_⟩
    rintro e w8 ⟨rfl, c8⟩
    gi_wp2_with fail
    refine ⟨trivial, rfl, (HMa _ (ha7.no c8)).mono ?_⟩
    rintro e w9 ⟨rfl, c9⟩
    have c79 := Chg.seq c8 c9
    gi_wp2_with fail
    refine ⟨trivial, rfl, (HMb _ (hb7.no c79)).mono ?_⟩
    rintro e wA ⟨rfl, cA⟩
    have c7A := Chg.seq c79 cA
    have hoA := ho7.no c7A
    have haA := ha7.no c7A
    have hbA := hb7.no c7A
    have rA := r7.no c7A
    have c0A := Chg.seq c07 c7A
    rw [HJ3.out HM.out] at J3
    rw [HJ4.out HM.out] at J4
    clear c8 c9 c79 cA c7A ho7 ha7 hb7 r7 y7 c07 HMo HMa HMb
    gi_wp2_with fail
    refine ⟨trivial, rfl, (J3 _ hoA haA haA).mono ?_⟩
    rintro e wB ⟨vB, xB, rfl, rB, yB, cB⟩
    gi_wp2_with fail
    refine ⟨trivial, rfl, (J4 _ (hoA.no cB) (hoA.no cB) (hbA.no cB)).mono ?_⟩
    rintro e wC ⟨vC, xC, rfl, rC, yC, cC⟩
    have cAC := Chg.seq cB cC
    obtain ⟨qB, jB, rfl⟩ := row_slice yB
    obtain ⟨qC, jC, rfl⟩ := row_slice yC
    have S3 := sameF_in vB (.slice p1 n1 k1) a a wC (rB.no cC).sl (haA.no cAC) (by omega)
    rw [decide_eq_true rfl] at S3
    gi_wp2_with fail
    refine ⟨trivial, rfl, S3.mono ?_⟩
    rintro e wD ⟨rfl, cD⟩
    have S4 := sameF_in vC (.slice p2 n2 k2) b b wD (rC.no cD).sl (hbA.no (Chg.seq cAC cD)) (by omega)
    rw [decide_eq_true rfl] at S4
    gi_wp2_with fail
    refine ⟨trivial, rfl, S4.mono ?_⟩
    rintro e wE ⟨rfl, cE⟩
    have cAE := Chg.seq cAC (Chg.seq cD cE)
    have hoE := hoA.no cAE
    have haE := haA.no cAE
    have hbE := hbA.no cAE
    have rE := rA.no cAE
    have c0E := Chg.seq c0A cAE
    clear S3 S4 rB yB rC yC cB cC cAC cD cE cAE hoA haA hbA rA c0A J3 J4
    gi_wp2_with fail
    refine ⟨trivial, ?_⟩
    rename_i hKK
    apply hKK
    gi_wp2_with fail
    refine ⟨trivial, ?_⟩
    rename_i hKK
    apply hKK
    have hoF := hoE
    have haF := haE
    have hbF := hbE
    have c0F := c0E
    clear hoE haE hbE c0E
    gi_wp2_with fail
    refine ⟨trivial, rfl, (V1 _ hoF haF hbF).mono ?_⟩
    rintro e wG ⟨vG, rfl, rG, cG⟩
    gi_wp2_with fail
    refine ⟨trivial, rfl, (V2 _ (hoF.no cG) (hbF.no cG) (haF.no cG)).mono ?_⟩
    rintro e wH ⟨vH, rfl, rH, cH⟩
    have S6 := sameF_in vG vH vr vr wH (rG.no cH).sl rH.sl hvl
    rw [decide_eq_true rfl] at S6
    gi_wp2_with fail
    refine ⟨trivial, rfl, S6.mono ?_⟩
    rintro e wI ⟨rfl, cI⟩
    gi_wp2_with fail
    refine ⟨trivial, rfl, (awake_in J _).mono ?_⟩
    rintro e wJ ⟨rfl, cJ⟩
    gi_wp2
    go_ret
    exact ⟨rfl, Chg.seq c0F (Chg.seq cG (Chg.seq cH (Chg.seq cI cJ)))⟩

end Go.Proofs.YtndblaemladppaaGreatDoor
