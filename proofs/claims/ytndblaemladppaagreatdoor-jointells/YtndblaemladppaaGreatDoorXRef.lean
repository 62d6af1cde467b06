/-
  The document's own answer of text: odd, Merge, Conflicts.
-/
import Derived.Test.YtndblaemladppaaGreatDoorGLine
import Derived.Test.YtndblaemladppaaGreatDoorGRef
namespace Go.Proofs.YtndblaemladppaaGreatDoor
open Go.RowKit Go.Shelf Go.SeqLib Go.LineLib Go.DiffLib Go.TextLib Go.BigFrame
attribute [local go_sem] Oper.semAt_some

set_option maxRecDepth 100000 in
set_option maxHeartbeats 1000000 in
theorem refOdd_in (s : ByteArray) (hs : s.size ≤ 100000) (w : World) :
    CallsIn Fence.wide 0 Tryz.prog 83 #[.string s] w fun e w' => e = .returned (.bool (odd s)) ∧ Chg No w w' := by
  have hb := refBinary_in s hs w
  have hf := refFew_in s hs w
  obtain ⟨tt, HD⟩ : ∃ t, Hid (odd s = t) := ⟨_, rfl⟩
  rw [HD.out]
  unfold odd at HD
  generalize decide ((0 : UInt8) ∈ L s) = bz at *
  generalize decide ((linesB s).length ≤ 60) = bf at *
  refine callsIn_of_wp Tryz.func83 rfl trivial ?_
  simp only [Tryz.ntmps83, List.size_toArray, List.length_cons, List.length_nil, Nat.reduceAdd, Nat.reduceSub, Array.replicate_succ, Array.replicate_zero, List.push_toArray, List.append_toArray, List.nil_append, List.cons_append]
  gi_wp2_with fail
  refine ⟨trivial, rfl, hb.mono ?_⟩
  rintro e w1 ⟨rfl, rfl⟩
  clear hb
  cases bz with
  | true =>
    obtain rfl : tt = true := HD.out.symm
    clear hf
    gi_wp2_with fail
    refine ⟨trivial, ?_⟩
    rename_i hKK
    apply hKK
    gi_wp2
    go_ret
    exact ⟨rfl, Chg.refl _ _⟩
  | false =>
    gi_wp2_with fail
    refine ⟨trivial, rfl, hf.mono ?_⟩
    rintro e w2 ⟨rfl, c2⟩
    clear hf
    cases bf with
    | false =>
      obtain rfl : tt = true := HD.out.symm
      gi_wp2
      go_ret
      exact ⟨rfl, c2⟩
    | true =>
      obtain rfl : tt = false := HD.out.symm
      gi_wp2
      go_ret
      exact ⟨rfl, c2⟩

set_option maxRecDepth 100000 in
set_option maxHeartbeats 4000000 in
theorem refTMerge_in (o a b : ByteArray) (ho : o.size ≤ 100000) (ha : a.size ≤ 100000) (hb : b.size ≤ 100000) (w : World) :
    CallsIn Fence.wide 0 Tryz.prog 67 #[.string o, .string a, .string b] w fun e w' => e = .returned (.tuple #[.string (txt (tm o a b)), .bool (tm o a b).isSome]) ∧ Chg No w w' := by
  obtain ⟨r, HR⟩ : ∃ r, Hid (tm o a b = r) := ⟨_, rfl⟩
  rw [HR.out]
  have hso := refSplit_in o ho
  have hsa := refSplit_in a ha
  have hsb := refSplit_in b hb
  have hoo := refOdd_in o ho
  have hoa := refOdd_in a ha
  have hob := refOdd_in b hb
  refine callsIn_of_wp Tryz.func67 rfl trivial ?_
  simp only [Tryz.ntmps67, List.size_toArray, List.length_cons, List.length_nil, Nat.reduceAdd, Nat.reduceSub, Array.replicate_succ, Array.replicate_zero, List.push_toArray, List.append_toArray, List.nil_append, List.cons_append]
  by_cases h1 : a = b
  · have e1 := eqT_true h1
    obtain rfl : r = some a := by rw [← HR.out]; unfold tm; rw [if_pos h1]
    clear h1 HR
    gi_wp2
    go_ret2
    exact ⟨rfl, Chg.refl _ _⟩
  have e1 := eqT_false h1
  by_cases h2 : b = o
  · have e2 := eqT_true h2
    obtain rfl : r = some a := by rw [← HR.out]; unfold tm; rw [if_neg h1, if_pos h2]
    clear h1 h2 HR
    gi_wp2
    go_ret2
    exact ⟨rfl, Chg.refl _ _⟩
  have e2 := eqT_false h2
  by_cases h3 : a = o
  · have e3 := eqT_true h3
    obtain rfl : r = some b := by rw [← HR.out]; unfold tm; rw [if_neg h1, if_neg h2, if_pos h3]
    clear h1 h2 h3 HR
    gi_wp2
    go_ret2
    exact ⟨rfl, Chg.refl _ _⟩
  have e3 := eqT_false h3
  have HR2 : Hid ((if lined o a b = true then byL o a b else none) = r) := by
    rw [← HR.out]; unfold tm; rw [if_neg h1, if_neg h2, if_neg h3]; exact rfl
  clear HR h1 h2 h3
  have HLF : Hid (lined o a b = true → (linesB o).length ≤ 60 ∧ (linesB a).length ≤ 60 ∧ (linesB b).length ≤ 60) := lined_few
  unfold lined at HR2 HLF
  generalize odd o = b1 at *
  generalize odd a = b2 at *
  generalize odd b = b3 at *
  gi_wp2_with fail
  refine ⟨trivial, rfl, (hoo _).mono ?_⟩
  rintro e w1 ⟨rfl, c1⟩
  clear hoo
  cases b1 with
  | true =>
    obtain rfl : r = none := HR2.out.symm
    clear hoa hob HLF
    gi_wp2_with fail
    refine ⟨trivial, ?_⟩
    rename_i hKK
    apply hKK
    gi_wp2_with fail
    refine ⟨trivial, ?_⟩
    rename_i hKK
    apply hKK
    gi_wp2
    go_ret2
    exact ⟨rfl, c1⟩
  | false =>
  gi_wp2_with fail
  refine ⟨trivial, rfl, (hoa _).mono ?_⟩
  rintro e w2 ⟨rfl, k2⟩
  clear hoa
  have c2 := Chg.seq c1 k2
  cases b2 with
  | true =>
    obtain rfl : r = none := HR2.out.symm
    clear hob HLF
    gi_wp2_with fail
    refine ⟨trivial, ?_⟩
    rename_i hKK
    apply hKK
    gi_wp2
    go_ret2
    exact ⟨rfl, c2⟩
  | false =>
  gi_wp2_with fail
  refine ⟨trivial, rfl, (hob _).mono ?_⟩
  rintro e w3 ⟨rfl, k3⟩
  clear hob
  have c0 := Chg.seq c2 k3
  clear c1 c2 k2 k3
  cases b3 with
  | true =>
    obtain rfl : r = none := HR2.out.symm
    clear HLF
    gi_wp2
    go_ret2
    exact ⟨rfl, c0⟩
  | false =>
  obtain ⟨f1, f2, f3⟩ := HLF.out rfl
  have HM : Hid ((mrg (linesB o) (linesB a) (linesB b)).bind fit = r) := HR2.out
  clear HR2 HLF
  gi_wp2_with fail
  refine ⟨trivial, rfl, (hso _).mono ?_⟩
  rintro e w2 ⟨v2, rfl, r2, k2⟩
  gi_wp2_with fail
  refine ⟨trivial, rfl, (hsa _).mono ?_⟩
  rintro e w4 ⟨v3, rfl, r3, k3⟩
  gi_wp2_with fail
  refine ⟨trivial, rfl, (hsb _).mono ?_⟩
  rintro e w5 ⟨v4, rfl, r4, k4⟩
  have s2 : SlV w5 v2 ((linesB o).map Value.string) := ((SlV.ofRow (by simpa using r2)).no k3).no k4
  have s3 : SlV w5 v3 ((linesB a).map Value.string) := (SlV.ofRow (by simpa using r3)).no k4
  have s4 : SlV w5 v4 ((linesB b).map Value.string) := SlV.ofRow (by simpa using r4)
  have c4 := Chg.seq c0 (Chg.seq k2 (Chg.seq k3 k4))
  clear r2 r3 r4 k2 k3 k4 c0 hso hsa hsb
  gi_wp2_with fail
  refine ⟨trivial, rfl, (refMerge_in v2 v3 v4 _ _ _ _ s2 s3 s4 (by omega) (by omega) (by omega)).mono ?_⟩
  rintro e w6 ⟨hres, k5⟩
  have c5 := Chg.seq c4 k5
  clear s2 s3 s4 c4 k5
  unfold appRes at hres
  cases hm : mrg (linesB o) (linesB a) (linesB b) with
  | none =>
    rw [hm] at hres HM
    obtain rfl : r = none := HM.out.symm
    clear hm
    subst hres
    have hj := refJoin_in (.slice none 0 0) [] w6 ⟨none, 0, rfl, Nat.le_refl _, Nat.zero_le _, by simp⟩ (by decide) (by decide)
    generalize catB [] = t at *
    gi_wp2_with fail
    refine ⟨trivial, rfl, hj.mono ?_⟩
    rintro e w7 ⟨rfl, k6⟩
    have c6 := Chg.seq c5 k6
    gi_wp2
    go_ret2
    exact ⟨rfl, c6⟩
  | some l =>
    have hz := mrg_size hm
    rw [catB_lines, catB_lines] at hz
    rw [hm] at hres HM
    have HF : Hid (fit l = r) := HM.out
    clear HM hm
    obtain ⟨v', rfl, rr⟩ := hres
    have hj := refJoin_in v' l w6 (SlV.ofRow (by simpa using rr)) (by omega) (by omega)
    clear rr
    unfold fit at HF
    generalize catB l = t at *
    gi_wp2_with fail
    refine ⟨trivial, rfl, hj.mono ?_⟩
    rintro e w7 ⟨rfl, k6⟩
    have c6 := Chg.seq c5 k6
    clear hj k6 c5
    by_cases h4 : 400 < t.size
    · obtain rfl : r = none := by rw [← HF.out, if_pos h4]
      have h4' : (400 : Int) < (t.size : Int) := by omega
      clear HF h4
      gi_wp2
      go_ret2
      exact ⟨rfl, c6⟩
    · obtain rfl : r = some t := by rw [← HF.out, if_neg h4]
      have h4' : ¬ (400 : Int) < (t.size : Int) := by omega
      clear HF h4
      gi_wp2
      go_ret2
      exact ⟨rfl, c6⟩

end Go.Proofs.YtndblaemladppaaGreatDoor
