/-
  DagTells, walked.
-/
import Derived.Test.YtbhhkfmjbgakbaaDoorQAwake
namespace Go.DagLib
open Go.RepoLib
theorem fstF_len (par : Nat → List Nat) : ∀ (f n : Nat), (fstF par f n).length ≤ f
  | 0, _ => Nat.le_refl 0
  | f + 1, n => by
    unfold fstF
    rw [List.length_cons]
    cases par n with
    | nil => simp
    | cons p r => exact Nat.succ_le_succ (fstF_len par f p)
theorem fstI_len {L : List Cm} (n : Int) : (fstI L n).length ≤ L.length + 1 := by
  unfold fstI
  cases h : hasN L.length n with
  | false => rw [if_neg Bool.false_ne_true]; simp
  | true =>
    rw [if_pos rfl, List.length_map]
    unfold hasN at h
    rw [Bool.and_eq_true, decide_eq_true_eq, decide_eq_true_eq] at h
    have := fstF_len (parL L) (n.toNat + 1) n.toNat
    show (fstF (parL L) (n.toNat + 1) n.toNat).length ≤ _
    omega
theorem aheadI_len {L : List Cm} (n : Int) : (aheadI L n).length ≤ L.length := by
  unfold aheadI
  cases h : hasN L.length n with
  | false => rw [if_neg Bool.false_ne_true]; simp
  | true =>
    rw [if_pos rfl, List.length_map]
    unfold hasN at h
    rw [Bool.and_eq_true, decide_eq_true_eq, decide_eq_true_eq] at h
    have h1 : ((down n.toNat).filter (fun k => isA (parL L) k n.toNat)).length ≤ (down n.toNat).length := List.length_filter_le _ _
    rw [down_length] at h1
    show ((down n.toNat).filter (fun k => isA (parL L) k n.toNat)).length ≤ _
    omega
/-- A commit's parents, of those that are made, are two at most. -/
theorem made_two (xs : List Nat) (n : Int) : (getC (mkL 0 xs) n).1.length ≤ 2 := by
  unfold getC
  split
  · rw [List.getD_eq_getElem?_getD]
    cases h : xs[n.toNat - 1]? with
    | none =>
      have : (mkL 0 xs)[n.toNat - 1]? = none := by rw [List.getElem?_eq_none_iff] at h ⊢; rw [mkL_length]; exact h
      rw [this]
      exact Nat.zero_le _
    | some x =>
      rw [mkL_get h]
      show ((mkP _ x).map _).length ≤ 2
      rw [List.length_map]
      rcases mkP_cases (0 + (n.toNat - 1)) x with h | ⟨_, h⟩ | ⟨_, _, h, _⟩ <;> rw [h] <;> simp
  · exact Nat.zero_le _
end Go.DagLib
namespace Go.Proofs.YtbhhkfmjbgakbaaDoor
open Go.RowKit Go.Shelf Go.SeqLib Go.DiffLib Go.TreeLib Go.RepoLib Go.DagLib Go.BigFrame
attribute [local go_sem] Oper.semAt_some

set_option maxRecDepth 100000 in
set_option maxHeartbeats 1000000 in
theorem dtells_law {Rep : Nat → Rp → Blk → Blk → World → Prop} (P : PutSpec Rep) (J : DagSpec Rep) (p : Option Addr) (len cap : Nat) (zs : List Int) (n m : Int) (w : World) (hv : SlV w (.slice p len cap) (zs.map iv)) (hlen : zs.length = len) : CallsIn Fence.wide 0 Tryd.prog 3 #[.slice p len cap, iv n, iv m] w fun e w' => e = .returned (.bool true) ∧ Chg No w w' := by
  have hnil : ∀ (B : Nat) (w : World), (binOp .eql 24 (ptr B) (.pointer none)).run Tryd.prog w = .ok (.bool false) w := fun B w => by simp [go_sem]
  have hml : len ≤ 9223372036854775807 := by obtain ⟨_, _, e, hl, hm, _⟩ := hv; cases e; rw [List.length_map] at hl; unfold maxLen at hm; omega
  refine callsIn_of_wp Tryd.func3 rfl trivial ?_
  simp only [Tryd.ntmps3, List.size_toArray, List.length_cons, List.length_nil, Nat.reduceAdd, Nat.reduceSub, Array.replicate_succ, Array.replicate_zero, List.push_toArray, List.append_toArray, List.nil_append, List.cons_append]
  by_cases hbig : 30 < len
  · have hbig' : (30 : Int) < (len : Int) := by omega
    gi_wp2_with fail
    refine ⟨trivial, rfl, (awakeD_in P J _).mono ?_⟩
    rintro e w1 ⟨rfl, c1⟩
    gi_wp2
    go_ret
    exact ⟨rfl, c1⟩
  · have hbig' : ¬ (30 : Int) < (len : Int) := by omega
    have M1 := made_in P p len cap zs hlen (by omega) w hv
    obtain ⟨L, hL⟩ : ∃ L, mkL 0 (zs.map uN) = L := ⟨_, rfl⟩
    have hok : ParOk L := hL ▸ made_ok _
    have hLl : L.length = len := by rw [← hL, mkL_length, List.length_map, hlen]
    have h2 : ∀ k, (getC L k).1.length ≤ 2 := fun k => hL ▸ made_two _ k
    rw [hL] at M1
    have hL30 : L.length ≤ 30 := by omega
    have L1 := fun W => low_in n ((len : Int) + 3) (by omega) (by omega) W
    have L2 := fun W => low_in m ((len : Int) + 3) (by omega) (by omega) W
    obtain ⟨nl, nh⟩ := lowI_range n ((len : Int) + 3) (by omega) (by omega)
    obtain ⟨ml, mh⟩ := lowI_range m ((len : Int) + 3) (by omega) (by omega)
    generalize lowI n ((len : Int) + 3) = n1 at *
    generalize lowI m ((len : Int) + 3) = m1 at *
    obtain ⟨n2, hn2⟩ : ∃ n2, n1 - 1 = n2 := ⟨_, rfl⟩
    obtain ⟨m2, hm2⟩ : ∃ m2, m1 - 1 = m2 := ⟨_, rfl⟩
    have b1 : -1 ≤ n2 ∧ n2 ≤ 33 := by omega
    have b2 : -1 ≤ m2 ∧ m2 ≤ 33 := by omega
    clear hL
    gi_wp2_with fail
    refine ⟨trivial, rfl, M1.mono ?_⟩
    rintro e w1 ⟨B, Bw, S, O, lv, rows, rfl, r1, q1, hS, c1⟩
    clear M1
    gi_wp2_with fail
    refine ⟨trivial, rfl, (L1 w1).mono ?_⟩
    rintro e w2 ⟨rfl, hw⟩
    subst hw
    gi_wp2_with fail
    refine ⟨trivial, rfl, (L2 w2).mono ?_⟩
    rintro e w3 ⟨rfl, hw⟩
    subst hw
    have H3 := vwHas_in Bw (L, 60) lv rows n2 w3 q1
    obtain ⟨pv, kv, rfl⟩ := q1.slice
    obtain ⟨t0, _, _, _⟩ := q1.cells
    dsimp only at H3 t0
    rw [hLl] at H3 t0
    obtain ⟨hb, hhb⟩ : ∃ hb, hasN len n2 = hb := ⟨_, rfl⟩
    have HB : Hid (hasN len n2 = hb) := hhb
    rw [hhb] at H3
    clear L1 L2 hhb
    gi_wp2_with fail
    refine ⟨trivial, rfl, H3.mono ?_⟩
    rintro e w4 ⟨rfl, hw⟩
    subst hw
    clear hn2 hm2
    obtain ⟨lp, hlp⟩ : ∃ lp, (getC L n2).1 = lp := ⟨_, rfl⟩
    have HLP : Hid ((getC L n2).1 = lp) := hlp
    have hlp2 : lp.length ≤ 2 := hlp ▸ h2 n2
    clear hlp
    gi_upto_if 35 with (fail)
    gi_cut [9] from 200 (fun v w' => SlV w' v (lp.map iv) ∧ w' = w4)
    case first =>
      rename_i JJ KK hJJ hKK
      cases hb with
      | false =>
        have hlp0 : lp = [] := by
          rw [← HLP.out]
          unfold getC
          rw [hLl, HB.out, if_neg Bool.false_ne_true]
          rfl
        gi_wp2
        gi_meet
        exact ⟨by rw [hlp0]; exact ⟨none, 0, rfl, Nat.le_refl _, Nat.zero_le _, by simp⟩, rfl⟩
      | true =>
        have hb2 : 1 ≤ n2 ∧ n2 ≤ (len : Int) := by
          have := HB.out
          unfold hasN at this
          rw [Bool.and_eq_true, decide_eq_true_iff, decide_eq_true_iff] at this
          exact this
        obtain ⟨i, hi⟩ : ∃ i : Nat, n2 - 1 = (i : Int) := ⟨(n2 - 1).toNat, by omega⟩
        have hiN : i < len := by omega
        have hiN' : (i : Int) < (len : Int) := by omega
        obtain ⟨x, hx⟩ : ∃ x, L[i]? = some x := ⟨_, List.getElem?_eq_getElem (by omega)⟩
        have hxp : x.1 = lp := by
          rw [← HLP.out]
          unfold getC
          rw [hLl, HB.out, if_pos rfl, show n2.toNat - 1 = i by omega, List.getD_eq_getElem?_getD, hx]
          rfl
        rw [hLl] at q1
        obtain ⟨⟨r1', r2', r3'⟩, b0, o1, _, e0, f1, f2, f3, hcx⟩ := q1.cell (c := x) hx
        cases e0
        dsimp only at f1 f2 f3 hcx
        obtain ⟨p', n', k', q', m', l', e, g1, _⟩ := hcx
        cases e
        rw [hxp] at g1
        clear f2 f3
        gi_wp2
        gi_meet
        exact ⟨g1, rfl⟩
    case rest =>
    obtain ⟨hpv, hw⟩ := hcut
    subst hw
    obtain ⟨pp, kp, rfl, -⟩ : ∃ pp kp, u9 = .slice pp lp.length kp ∧ True := by
      obtain ⟨a, b, e, _⟩ := hpv
      rw [List.length_map] at e
      exact ⟨a, b, e, trivial⟩
    have hHA := aheadI_len (L := L) n2
    have hHF := fstI_len (L := L) n2
    have q2 : RefVw Bw (L, 60) (.slice pv L.length kv) rows wc := q1
    clear q1 t0 H3 hnil
    have h60 : L.length ≤ 60 := by omega
    have h1000 : (L, 60).1.length ≤ 1000 := by show L.length ≤ 1000; omega
    have B1 := J.parents B _ S O n2 wc r1 hok h60 (by omega) (by omega)
    dsimp only at B1
    rw [HLP.out] at B1
    gi_wp2_with fail
    refine ⟨trivial, rfl, B1.mono ?_⟩
    rintro e w5 ⟨v5, rfl, s5, c5⟩
    have hpv5 := hpv.no c5
    have q5 := q2.no c5
    have r5 := P.no r1 c5
    have k5 := Chg.seq c1 c5
    gi_wp2_with fail
    refine ⟨trivial, rfl, (intsV_in v5 _ lp 99 (by omega) w5 s5 (List.take_of_length_le (by omega)).symm).mono ?_⟩
    rintro e w6 ⟨v6, rfl, o6, c6⟩
    have I6 := sameI_in v6 _ lp lp w6 o6.sl (hpv5.no c6)
    rw [decide_eq_true rfl] at I6
    have q6 := q5.no c6
    have r6 := P.no r5 c6
    have k6 := Chg.seq k5 c6
    clear B1 s5 hpv5 hpv q2 q5 r1 r5 c1 c5 k5
    gi_wp2_with fail
    refine ⟨trivial, rfl, I6.mono ?_⟩
    rintro e w7 ⟨rfl, c7⟩
    have q7 := q6.no c7
    have r7 := P.no r6 c7
    have k7 := Chg.seq k6 c7
    have B7 := J.ahead B _ S O n2 w7 r7 hok h60 (by omega) (by omega)
    clear I6 o6 q6 r6 k6 c6 c7
    gi_wp2_with fail
    refine ⟨trivial, rfl, B7.mono ?_⟩
    rintro e w8 ⟨v8, rfl, s8, c8⟩
    have q8 := q7.no c8
    have r8 := P.no r7 c8
    have k8 := Chg.seq k7 c8
    gi_wp2_with fail
    refine ⟨trivial, rfl, (intsV_in v8 _ (aheadI L n2) 99 (by omega) w8 s8 (List.take_of_length_le (by omega)).symm).mono ?_⟩
    rintro e w9 ⟨v9, rfl, o9, c9⟩
    have q9 := q8.no c9
    have r9 := P.no r8 c9
    have k9 := Chg.seq k8 c9
    have X9 := refAhead_in Bw (L, 60) _ rows n2 w9 q9 hok h1000
    clear B7 s8 q7 q8 r7 r8 k7 k8 c8 c9
    gi_wp2_with fail
    refine ⟨trivial, rfl, X9.mono ?_⟩
    rintro e w10 ⟨v10, rfl, o10, c10⟩
    have I10 := sameI_in v9 v10 _ _ w10 (o9.sl.no c10) o10.sl
    rw [decide_eq_true rfl] at I10
    have q10 := q9.no c10
    have r10 := P.no r9 c10
    have k10 := Chg.seq k9 c10
    clear X9 q9 r9 k9 c10
    gi_wp2_with fail
    refine ⟨trivial, rfl, I10.mono ?_⟩
    rintro e w11 ⟨rfl, c11⟩
    have q11 := q10.no c11
    have r11 := P.no r10 c11
    have k11 := Chg.seq k10 c11
    have B11 := J.is B _ S O m2 n2 w11 r11 hok h60 (by omega) (by omega) (by omega) (by omega)
    obtain ⟨ib, hib⟩ : ∃ ib, decide (m2 ∈ aheadI L n2) = ib := ⟨_, rfl⟩
    have HIB : Hid (decide (m2 ∈ aheadI L n2) = ib) := hib
    dsimp only at B11
    rw [hib] at B11
    clear I10 o9 o10 q10 r10 k10 c11 hib
    gi_wp2_with fail
    refine ⟨trivial, rfl, B11.mono ?_⟩
    rintro e w12 ⟨rfl, c12⟩
    have q12 := q11.no c12
    have r12 := P.no r11 c12
    have k12 := Chg.seq k11 c12
    have X12 := refIs_in Bw (L, 60) _ rows m2 n2 w12 q12 hok h1000
    dsimp only at X12
    rw [HIB.out] at X12
    have hbb : (ib == ib) = true := by simp
    clear B11 q11 r11 k11 c12
    gi_wp2_with fail
    refine ⟨trivial, rfl, X12.mono ?_⟩
    rintro e w13 ⟨rfl, c13⟩
    have q13 := q12.no c13
    have r13 := P.no r12 c13
    have k13 := Chg.seq k12 c13
    have B13 := J.depth B _ S O n2 w13 r13 hok h60 (by omega) (by omega)
    have X13 := fun W (hW : RefVw Bw (L, 60) (.slice pv L.length kv) rows W) => refDepth_in Bw (L, 60) _ rows n2 W hW hok h1000
    dsimp only at B13 X13
    obtain ⟨dp, hdp⟩ : ∃ dp, depI L n2 = dp := ⟨_, rfl⟩
    rw [hdp] at B13 X13
    clear X12 q12 r12 k12 c13 hdp
    gi_wp2_with fail
    refine ⟨trivial, rfl, B13.mono ?_⟩
    rintro e w14 ⟨rfl, c14⟩
    have q14 := q13.no c14
    have r14 := P.no r13 c14
    have k14 := Chg.seq k13 c14
    gi_wp2_with fail
    refine ⟨trivial, rfl, (X13 _ q14).mono ?_⟩
    rintro e w15 ⟨rfl, c15⟩
    have q15 := q14.no c15
    have r15 := P.no r14 c15
    have k15 := Chg.seq k14 c15
    have B15 := J.first B _ S O n2 w15 r15 hok h60 (by omega) (by omega)
    have hdd : ((dp : Int) == (dp : Int)) = true := by simp
    clear B13 X13 q13 q14 r13 r14 k13 k14 c14 c15
    gi_wp2_with fail
    refine ⟨trivial, rfl, B15.mono ?_⟩
    rintro e w16 ⟨v16, rfl, s16, c16⟩
    have q16 := q15.no c16
    have k16 := Chg.seq k15 c16
    gi_wp2_with fail
    refine ⟨trivial, rfl, (intsV_in v16 _ (fstI L n2) 99 (by omega) w16 s16 (List.take_of_length_le (by omega)).symm).mono ?_⟩
    rintro e w17 ⟨v17, rfl, o17, c17⟩
    have q17 := q16.no c17
    have k17 := Chg.seq k16 c17
    have X17 := refFirst_in Bw (L, 60) _ rows n2 w17 q17 hok h1000
    clear B15 s16 q15 q16 r15 k15 k16 c16 c17
    gi_wp2_with fail
    refine ⟨trivial, rfl, X17.mono ?_⟩
    rintro e w18 ⟨v18, rfl, o18, c18⟩
    have I18 := sameI_in v17 v18 _ _ w18 (o17.sl.no c18) o18.sl
    rw [decide_eq_true rfl] at I18
    have k18 := Chg.seq k17 c18
    clear X17 q17 k17 c18
    gi_wp2_with fail
    refine ⟨trivial, rfl, I18.mono ?_⟩
    rintro e w19 ⟨rfl, c19⟩
    have k19 := Chg.seq k18 c19
    clear I18 o17 o18 k18 c19
    gi_wp2_with fail
    refine ⟨trivial, rfl, (awakeD_in P J _).mono ?_⟩
    rintro e w20 ⟨rfl, c20⟩
    gi_wp2
    go_ret
    exact ⟨rfl, Chg.seq k19 c20⟩

end Go.Proofs.YtbhhkfmjbgakbaaDoor
