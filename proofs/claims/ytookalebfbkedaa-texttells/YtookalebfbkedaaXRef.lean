/-
  The document's own answer of text: odd, Merge, Conflicts.
-/
import Derived.Test.YtookalebfbkedaaXConf
import Derived.Test.YtookalebfbkedaaLineR
import Derived.Test.YtookalebfbkedaaRMerge
namespace Go.Proofs.Ytookalebfbkedaa
open Go.RowKit Go.Shelf Go.SeqLib Go.LineLib Go.DiffLib Go.TextLib Go.BigFrame
attribute [local go_sem] Oper.semAt_some

set_option maxRecDepth 100000 in
set_option maxHeartbeats 1000000 in
theorem refOdd_in (s : ByteArray) (hs : s.size ≤ 100000) (w : World) :
    CallsIn Fence.wide 0 Try.prog 17 #[.string s] w fun e w' => e = .returned (.bool (odd s)) ∧ Chg No w w' := by
  have hb := refBinary_in s hs w
  have hf := refFew_in s hs w
  obtain ⟨tt, HD⟩ : ∃ t, Hid (odd s = t) := ⟨_, rfl⟩
  rw [HD.out]
  unfold odd at HD
  generalize decide ((0 : UInt8) ∈ L s) = bz at *
  generalize decide ((linesB s).length ≤ 60) = bf at *
  refine callsIn_of_wp Try.func17 rfl trivial ?_
  simp only [Try.ntmps17, List.size_toArray, List.length_cons, List.length_nil, Nat.reduceAdd, Nat.reduceSub, Array.replicate_succ, Array.replicate_zero, List.push_toArray, List.append_toArray, List.nil_append, List.cons_append]
  gi_wp2_with fail
  refine ⟨trivial, rfl, hb.mono ?_⟩
  rintro e w1 ⟨rfl, rfl⟩
  clear hb
  cases bz with
  | true =>
    obtain rfl : tt = true := HD.out.symm
    clear hf
    gi_wp2_with fail
    refine ⟨trivial, ?_⟩
    rename_i hKK
    apply hKK
    gi_wp2
    go_ret
    exact ⟨rfl, Chg.refl _ _⟩
  | false =>
    gi_wp2_with fail
    refine ⟨trivial, rfl, hf.mono ?_⟩
    rintro e w2 ⟨rfl, c2⟩
    clear hf
    cases bf with
    | false =>
      obtain rfl : tt = true := HD.out.symm
      gi_wp2
      go_ret
      exact ⟨rfl, c2⟩
    | true =>
      obtain rfl : tt = false := HD.out.symm
      gi_wp2
      go_ret
      exact ⟨rfl, c2⟩

set_option maxRecDepth 100000 in
set_option maxHeartbeats 4000000 in
theorem refTMerge_in (o a b : ByteArray) (ho : o.size ≤ 100000) (ha : a.size ≤ 100000) (hb : b.size ≤ 100000) (w : World) :
    CallsIn Fence.wide 0 Try.prog 9 #[.string o, .string a, .string b] w fun e w' => e = .returned (.tuple #[.string (txt (tm o a b)), .bool (tm o a b).isSome]) ∧ Chg No w w' := by
  obtain ⟨r, HR⟩ : ∃ r, Hid (tm o a b = r) := ⟨_, rfl⟩
  rw [HR.out]
  have hso := refSplit_in o ho
  have hsa := refSplit_in a ha
  have hsb := refSplit_in b hb
  have hoo := refOdd_in o ho
  have hoa := refOdd_in a ha
  have hob := refOdd_in b hb
  refine callsIn_of_wp Try.func9 rfl trivial ?_
  simp only [Try.ntmps9, List.size_toArray, List.length_cons, List.length_nil, Nat.reduceAdd, Nat.reduceSub, Array.replicate_succ, Array.replicate_zero, List.push_toArray, List.append_toArray, List.nil_append, List.cons_append]
  by_cases h1 : a = b
  · have e1 := eqT_true h1
    obtain rfl : r = some a := by rw [← HR.out]; unfold tm; rw [if_pos h1]
    clear h1 HR
    gi_wp2
    go_ret2
    exact ⟨rfl, Chg.refl _ _⟩
  have e1 := eqT_false h1
  by_cases h2 : b = o
  · have e2 := eqT_true h2
    obtain rfl : r = some a := by rw [← HR.out]; unfold tm; rw [if_neg h1, if_pos h2]
    clear h1 h2 HR
    gi_wp2
    go_ret2
    exact ⟨rfl, Chg.refl _ _⟩
  have e2 := eqT_false h2
  by_cases h3 : a = o
  · have e3 := eqT_true h3
    obtain rfl : r = some b := by rw [← HR.out]; unfold tm; rw [if_neg h1, if_neg h2, if_pos h3]
    clear h1 h2 h3 HR
    gi_wp2
    go_ret2
    exact ⟨rfl, Chg.refl _ _⟩
  have e3 := eqT_false h3
  have HR2 : Hid ((if lined o a b = true then byL o a b else none) = r) := by
    rw [← HR.out]; unfold tm; rw [if_neg h1, if_neg h2, if_neg h3]; exact rfl
  clear HR h1 h2 h3
  have HLF : Hid (lined o a b = true → (linesB o).length ≤ 60 ∧ (linesB a).length ≤ 60 ∧ (linesB b).length ≤ 60) := lined_few
  unfold lined at HR2 HLF
  generalize odd o = b1 at *
  generalize odd a = b2 at *
  generalize odd b = b3 at *
  gi_wp2_with fail
  refine ⟨trivial, rfl, (hoo _).mono ?_⟩
  rintro e w1 ⟨rfl, c1⟩
  clear hoo
  cases b1 with
  | true =>
    obtain rfl : r = none := HR2.out.symm
    clear hoa hob HLF
    gi_wp2_with fail
    refine ⟨trivial, ?_⟩
    rename_i hKK
    apply hKK
    gi_wp2_with fail
    refine ⟨trivial, ?_⟩
    rename_i hKK
    apply hKK
    gi_wp2
    go_ret2
    exact ⟨rfl, c1⟩
  | false =>
  gi_wp2_with fail
  refine ⟨trivial, rfl, (hoa _).mono ?_⟩
  rintro e w2 ⟨rfl, k2⟩
  clear hoa
  have c2 := Chg.seq c1 k2
  cases b2 with
  | true =>
    obtain rfl : r = none := HR2.out.symm
    clear hob HLF
    gi_wp2_with fail
    refine ⟨trivial, ?_⟩
    rename_i hKK
    apply hKK
    gi_wp2
    go_ret2
    exact ⟨rfl, c2⟩
  | false =>
  gi_wp2_with fail
  refine ⟨trivial, rfl, (hob _).mono ?_⟩
  rintro e w3 ⟨rfl, k3⟩
  clear hob
  have c0 := Chg.seq c2 k3
  clear c1 c2 k2 k3
  cases b3 with
  | true =>
    obtain rfl : r = none := HR2.out.symm
    clear HLF
    gi_wp2
    go_ret2
    exact ⟨rfl, c0⟩
  | false =>
  obtain ⟨f1, f2, f3⟩ := HLF.out rfl
  have HM : Hid ((mrg (linesB o) (linesB a) (linesB b)).bind fit = r) := HR2.out
  clear HR2 HLF
  gi_wp2_with fail
  refine ⟨trivial, rfl, (hso _).mono ?_⟩
  rintro e w2 ⟨v2, rfl, r2, k2⟩
  gi_wp2_with fail
  refine ⟨trivial, rfl, (hsa _).mono ?_⟩
  rintro e w4 ⟨v3, rfl, r3, k3⟩
  gi_wp2_with fail
  refine ⟨trivial, rfl, (hsb _).mono ?_⟩
  rintro e w5 ⟨v4, rfl, r4, k4⟩
  have s2 : SlV w5 v2 ((linesB o).map Value.string) := ((SlV.ofRow (by simpa using r2)).no k3).no k4
  have s3 : SlV w5 v3 ((linesB a).map Value.string) := (SlV.ofRow (by simpa using r3)).no k4
  have s4 : SlV w5 v4 ((linesB b).map Value.string) := SlV.ofRow (by simpa using r4)
  have c4 := Chg.seq c0 (Chg.seq k2 (Chg.seq k3 k4))
  clear r2 r3 r4 k2 k3 k4 c0 hso hsa hsb
  gi_wp2_with fail
  refine ⟨trivial, rfl, (refMerge_in v2 v3 v4 _ _ _ _ s2 s3 s4 (by omega) (by omega) (by omega)).mono ?_⟩
  rintro e w6 ⟨hres, k5⟩
  have c5 := Chg.seq c4 k5
  clear s2 s3 s4 c4 k5
  unfold appRes at hres
  cases hm : mrg (linesB o) (linesB a) (linesB b) with
  | none =>
    rw [hm] at hres HM
    obtain rfl : r = none := HM.out.symm
    clear hm
    subst hres
    have hj := refJoin_in (.slice none 0 0) [] w6 ⟨none, 0, rfl, Nat.le_refl _, Nat.zero_le _, by simp⟩ (by decide) (by decide)
    generalize catB [] = t at *
    gi_wp2_with fail
    refine ⟨trivial, rfl, hj.mono ?_⟩
    rintro e w7 ⟨rfl, k6⟩
    have c6 := Chg.seq c5 k6
    gi_wp2
    go_ret2
    exact ⟨rfl, c6⟩
  | some l =>
    have hz := mrg_size hm
    rw [catB_lines, catB_lines] at hz
    rw [hm] at hres HM
    have HF : Hid (fit l = r) := HM.out
    clear HM hm
    obtain ⟨v', rfl, rr⟩ := hres
    have hj := refJoin_in v' l w6 (SlV.ofRow (by simpa using rr)) (by omega) (by omega)
    clear rr
    unfold fit at HF
    generalize catB l = t at *
    gi_wp2_with fail
    refine ⟨trivial, rfl, hj.mono ?_⟩
    rintro e w7 ⟨rfl, k6⟩
    have c6 := Chg.seq c5 k6
    clear hj k6 c5
    by_cases h4 : 400 < t.size
    · obtain rfl : r = none := by rw [← HF.out, if_pos h4]
      have h4' : (400 : Int) < (t.size : Int) := by omega
      clear HF h4
      gi_wp2
      go_ret2
      exact ⟨rfl, c6⟩
    · obtain rfl : r = some t := by rw [← HF.out, if_neg h4]
      have h4' : ¬ (400 : Int) < (t.size : Int) := by omega
      clear HF h4
      gi_wp2
      go_ret2
      exact ⟨rfl, c6⟩

set_option maxRecDepth 100000 in
set_option maxHeartbeats 4000000 in
theorem refConf_in (o a b : ByteArray) (ho : o.size ≤ 100000) (ha : a.size ≤ 100000) (hb : b.size ≤ 100000) (w : World) :
    CallsIn Fence.wide 0 Try.prog 11 #[.string o, .string a, .string b] w fun e w' => e = .returned (.int .i64 (tc o a b : Int)) ∧ Chg No w w' := by
  have htm := refTMerge_in o a b ho ha hb w
  have hso := refSplit_in o ho
  have hsa := refSplit_in a ha
  have hsb := refSplit_in b hb
  have hoo := refOdd_in o ho
  have hoa := refOdd_in a ha
  have hob := refOdd_in b hb
  obtain ⟨r, HR⟩ : ∃ r, Hid (tc o a b = r) := ⟨_, rfl⟩
  rw [HR.out]
  unfold tc at HR
  have HLF : Hid (lined o a b = true → (linesB o).length ≤ 60 ∧ (linesB a).length ≤ 60 ∧ (linesB b).length ≤ 60) := lined_few
  generalize (tm o a b).isSome = bs at *
  generalize txt (tm o a b) = ts at *
  unfold lined at HR HLF
  generalize odd o = b1 at *
  generalize odd a = b2 at *
  generalize odd b = b3 at *
  refine callsIn_of_wp Try.func11 rfl trivial ?_
  simp only [Try.ntmps11, List.size_toArray, List.length_cons, List.length_nil, Nat.reduceAdd, Nat.reduceSub, Array.replicate_succ, Array.replicate_zero, List.push_toArray, List.append_toArray, List.nil_append, List.cons_append]
  gi_wp2_with fail
  refine ⟨trivial, rfl, htm.mono ?_⟩
  rintro e w0 ⟨rfl, c0⟩
  clear htm
  cases bs with
  | true =>
    obtain rfl : r = 0 := HR.out.symm
    clear hoo hoa hob HLF
    gi_wp2
    go_ret
    exact ⟨rfl, c0⟩
  | false =>
  gi_wp2_with fail
  refine ⟨trivial, rfl, (hoo _).mono ?_⟩
  rintro e w1 ⟨rfl, k1⟩
  clear hoo
  have c1 := Chg.seq c0 k1
  cases b1 with
  | true =>
    obtain rfl : r = 1 := HR.out.symm
    clear hoa hob HLF
    gi_wp2_with fail
    refine ⟨trivial, ?_⟩
    rename_i hKK
    apply hKK
    gi_wp2_with fail
    refine ⟨trivial, ?_⟩
    rename_i hKK
    apply hKK
    gi_wp2
    go_ret
    exact ⟨rfl, c1⟩
  | false =>
  gi_wp2_with fail
  refine ⟨trivial, rfl, (hoa _).mono ?_⟩
  rintro e w2 ⟨rfl, k2⟩
  clear hoa
  have c2 := Chg.seq c1 k2
  cases b2 with
  | true =>
    obtain rfl : r = 1 := HR.out.symm
    clear hob HLF
    gi_wp2_with fail
    refine ⟨trivial, ?_⟩
    rename_i hKK
    apply hKK
    gi_wp2
    go_ret
    exact ⟨rfl, c2⟩
  | false =>
  gi_wp2_with fail
  refine ⟨trivial, rfl, (hob _).mono ?_⟩
  rintro e w3 ⟨rfl, k3⟩
  clear hob
  have c3 := Chg.seq c2 k3
  clear c1 c2 k2 k3 k1 c0
  cases b3 with
  | true =>
    obtain rfl : r = 1 := HR.out.symm
    clear HLF
    gi_wp2
    go_ret
    exact ⟨rfl, c3⟩
  | false =>
  obtain ⟨f1, f2, f3⟩ := HLF.out rfl
  have HM : Hid (max (cnt (parts (linesB o) (linesB a) (linesB b))) 1 = r) := HR.out
  clear HR HLF
  gi_wp2_with fail
  refine ⟨trivial, rfl, (hso _).mono ?_⟩
  rintro e w4 ⟨v2, rfl, r2, k2⟩
  gi_wp2_with fail
  refine ⟨trivial, rfl, (hsa _).mono ?_⟩
  rintro e w5 ⟨v3, rfl, r3, k3⟩
  gi_wp2_with fail
  refine ⟨trivial, rfl, (hsb _).mono ?_⟩
  rintro e w6 ⟨v4, rfl, r4, k4⟩
  have s2 : SlV w6 v2 ((linesB o).map Value.string) := ((SlV.ofRow (by simpa using r2)).no k3).no k4
  have s3 : SlV w6 v3 ((linesB a).map Value.string) := (SlV.ofRow (by simpa using r3)).no k4
  have s4 : SlV w6 v4 ((linesB b).map Value.string) := SlV.ofRow (by simpa using r4)
  have c4 := Chg.seq c3 (Chg.seq k2 (Chg.seq k3 k4))
  clear r2 r3 r4 k2 k3 k4 c3 hso hsa hsb
  have hP := refParts_in v2 v3 v4 _ _ _ w6 s2 s3 s4 (by omega) (by omega) (by omega)
  have hpl := parts_length (linesB o) (linesB a) (linesB b)
  generalize parts (linesB o) (linesB a) (linesB b) = ps at *
  have hpl' : ps.length ≤ 801 := by omega
  clear s2 s3 s4 hpl
  gi_wp2_with fail
  refine ⟨trivial, rfl, hP.mono ?_⟩
  rintro e wP ⟨vP, rfl, ⟨rs, PA⟩, cP⟩
  clear hP
  have cP2 := Chg.seq c4 cP
  have sR : SlR wP vP rs := SlE.ofRow eR_len PA.row
  obtain ⟨pP, ccP, rfl⟩ := row_slice PA.row
  have hrl := PA.len
  obtain ⟨np, HNP⟩ : ∃ n, Hid (rs.length = n) := ⟨_, rfl⟩
  have HNS : Hid (ps.length = np) := by show _ = _; rw [← hrl, HNP.out]
  rw [HNP.out] at sR ⊢
  rw [HNS.out] at hpl'
  clear hrl c4 cP
  gi_wp2
  gi_loopw [9, 11] (fun v9 i wr => ∃ k m : Nat, k ≤ np ∧ i = .int .i64 (k : Int) ∧ v9 = .int .i64 (m : Int) ∧ m ≤ k ∧ Hid (m + cnt (ps.drop k) = cnt ps) ∧ Chg No wP wr) (fun v9 i _ => np - (intOf i).toNat)
  case atStart => exact ⟨0, 0, Nat.zero_le _, rfl, rfl, Nat.zero_le _, by show _ = _; rw [List.drop_zero, Nat.zero_add], Chg.refl _ _⟩
  case round =>
    obtain ⟨k, m, hk, rfl, rfl, hmk, HT, cw⟩ := hrel
    by_cases hlt : k < np
    · have hlt' : (k : Int) < (np : Int) := by omega
      have hkr : k < rs.length := by rw [HNP.out]; exact hlt
      obtain ⟨x, hx⟩ : ∃ x, rs[k]? = some x := ⟨_, List.getElem?_eq_getElem hkr⟩
      obtain ⟨pp, hpp, hxc, o3⟩ := PA.at hx
      have hkp : k < ps.length := by rw [HNS.out]; exact hlt
      have HTk : Hid (ps.drop k = pp :: ps.drop (k + 1)) := by
        rw [List.drop_eq_getElem_cons hkp]
        rw [List.getElem?_eq_getElem hkp] at hpp
        rw [Option.some.inj hpp]
        exact rfl
      obtain ⟨b1, o1, rfl, x1, x2, x3, x4⟩ := SlR.at (show SlR wr _ _ from SlE.no eR_len (by decide) sR cw) k x hx
      obtain ⟨xc, xo, xa, xb⟩ := x
      simp only at hxc o3 x1 x2 x3 x4
      have HXC : Hid (xc = pp.c) := hxc
      clear hx hpp hkr hkp o3 hxc x2 x3 x4
      have HT2 : Hid (m + (cnt (ps.drop (k + 1)) + if xc = true then 1 else 0) = cnt ps) := by
        have := HT.out
        rw [HTk.out, cnt_cons, ← HXC.out] at this
        exact this
      clear HT HTk HXC
      cases xc with
      | true =>
        have HT3 : Hid ((m + 1) + cnt (ps.drop (k + 1)) = cnt ps) := by
          have := HT2.out
          rw [if_pos rfl] at this
          show _ = _
          omega
        clear HT2
        gi_wp2
        go_roundw
        case rel => exact ⟨k + 1, m + 1, hlt, by go_num, by go_num, by omega, HT3, cw⟩
        case measure => simp [intOf]; omega
      | false =>
        have HT3 : Hid (m + cnt (ps.drop (k + 1)) = cnt ps) := HT2.out
        clear HT2
        gi_wp2
        go_roundw
        case rel => exact ⟨k + 1, m, hlt, by go_num, rfl, by omega, HT3, cw⟩
        case measure => simp [intOf]; omega
    · obtain rfl : k = np := by omega
      have hlt' : ¬ (k : Int) < (k : Int) := by omega
      have HC : Hid (max m 1 = r) := by
        have := HT.out
        rw [List.drop_eq_nil_of_le (by rw [HNS.out]; exact Nat.le_refl _)] at this
        rw [← HM.out, ← this]
        rfl
      clear HT HM
      gi_wp2
      go_ret
      have hx : max (m : Int) 1 = (r : Int) := by have := HC.out; omega
      refine ⟨?_, Chg.seq cP2 cw⟩
      show Ending.returned (.int .i64 (max (m : Int) 1)) = _
      rw [hx]

end Go.Proofs.Ytookalebfbkedaa
