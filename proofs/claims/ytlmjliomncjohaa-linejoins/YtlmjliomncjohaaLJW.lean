/-
  LineJoins answers true at every two texts, and turns nothing that lay.
-/
import Derived.Test.YtlmjliomncjohaaLineA
import Derived.Test.YtlmjliomncjohaaAppT
import Derived.Test.YtlmjliomncjohaaFewW
namespace Go.Proofs.Ytlmjliomncjohaa
open Go.RowKit Go.Shelf Go.SeqLib Go.LineLib
attribute [local go_sem] Oper.semAt_some

theorem catB_append (xs ys : List ByteArray) : catB (xs ++ ys) = catB xs ++ catB ys := by
  have : L (catB (xs ++ ys)) = L (catB xs ++ catB ys) := by
    rw [L_append]
    show ((xs ++ ys).map L).flatten = (xs.map L).flatten ++ (ys.map L).flatten
    rw [List.map_append, List.flatten_append]
  exact congrArg T this
theorem linesB_whole (a b : ByteArray) (h : L a = [] ∨ (L a).getLast? = some 10) : linesB (a ++ b) = linesB a ++ linesB b := by
  unfold linesB
  rw [L_append, linesL_whole _ _ h, List.map_append]
theorem linesB_part (a b : ByteArray) (h : L a ≠ []) (h2 : (L a).getLast? ≠ some 10) (hb : L b ≠ []) : (linesB (a ++ b)).length + 1 = (linesB a).length + (linesB b).length := by
  unfold linesB
  rw [L_append, List.length_map, List.length_map, List.length_map, linesL_part _ _ h h2 hb]

set_option maxRecDepth 100000 in
set_option maxHeartbeats 2000000 in
theorem joins_law (a b : ByteArray) (w : World) (ha : a.size ≤ maxLen) (hb : b.size ≤ maxLen) : CallsIn Fence.wide 0 Try.prog 6 #[.string a, .string b] w fun e w' => e = .returned (.bool true) ∧ Chg No w w' := by
  refine callsIn_of_wp Try.func6 rfl trivial ?_
  simp only [Try.ntmps6, List.size_toArray, List.length_cons, List.length_nil, Nat.reduceAdd, Nat.reduceSub, Array.replicate_succ, Array.replicate_zero, List.push_toArray, List.append_toArray, List.nil_append, List.cons_append]
  unfold maxLen at ha hb
  by_cases hbig : 300 < a.size ∨ 300 < b.size
  · by_cases h1 : 300 < a.size
    · have h1' : (300 : Int) < (a.size : Int) := by omega
      gi_wp2_with fail
      refine ⟨trivial, rfl, (awake_in _).mono ?_⟩
      rintro e w1 ⟨rfl, c1⟩
      gi_wp2
      go_ret
      exact ⟨rfl, c1⟩
    · have h1' : ¬ (300 : Int) < (a.size : Int) := by omega
      have h2' : (300 : Int) < (b.size : Int) := by omega
      gi_wp2_with fail
      refine ⟨trivial, rfl, (awake_in _).mono ?_⟩
      rintro e w1 ⟨rfl, c1⟩
      gi_wp2
      go_ret
      exact ⟨rfl, c1⟩
  · have h1 : a.size ≤ 300 := by omega
    have h2 : b.size ≤ 300 := by omega
    have h1' : ¬ (300 : Int) < (a.size : Int) := by omega
    have h2' : ¬ (300 : Int) < (b.size : Int) := by omega
    clear hbig
    gi_wp2_with fail
    refine ⟨trivial, rfl, (split_in a (by omega) _).mono ?_⟩
    rintro e w1 ⟨v1, rfl, r1, c1⟩
    gi_wp2_with fail
    refine ⟨trivial, rfl, (split_in b (by omega) _).mono ?_⟩
    rintro e w2 ⟨v2, rfl, r2, c2⟩
    have hab : (a ++ b).size ≤ 600 := by rw [ByteArray.size_append]; omega
    gi_wp2_with fail
    refine ⟨trivial, rfl, (split_in (a ++ b) (by omega) _).mono ?_⟩
    rintro e w3 ⟨v3, rfl, r3, c3⟩
    have hl1 : (linesB a).length ≤ 300 := Nat.le_trans (linesB_len a) h1
    have hl2 : (linesB b).length ≤ 300 := Nat.le_trans (linesB_len b) h2
    have hl3 : (linesB (a ++ b)).length ≤ 600 := Nat.le_trans (linesB_len _) hab
    obtain ⟨p1, cap1, rfl⟩ := row_slice r1
    obtain ⟨p2, cap2, rfl⟩ := row_slice r2
    obtain ⟨p3, cap3, rfl⟩ := row_slice r3
    have s1 : SlV w3 (.slice p1 (linesB a).length cap1) ((linesB a).map Value.string) := ((SlV.ofRow (by simpa using r1)).no c2).no c3
    have s2 : SlV w3 (.slice p2 (linesB b).length cap2) ((linesB b).map Value.string) := (SlV.ofRow (by simpa using r2)).no c3
    have s3 : SlV w3 (.slice p3 (linesB (a ++ b)).length cap3) ((linesB (a ++ b)).map Value.string) := SlV.ofRow (by simpa using r3)
    have c03 : Chg No w w3 := Chg.seq (Chg.seq c1 c2) c3
    clear r1 r2 r3 c1 c2 c3
    obtain ⟨n1, HN1⟩ : ∃ n, Hid ((linesB a).length = n) := ⟨_, rfl⟩
    obtain ⟨n2, HN2⟩ : ∃ n, Hid ((linesB b).length = n) := ⟨_, rfl⟩
    obtain ⟨n3, HN3⟩ : ∃ n, Hid ((linesB (a ++ b)).length = n) := ⟨_, rfl⟩
    rw [HN1.out] at s1 hl1 ⊢
    rw [HN2.out] at s2 hl2 ⊢
    rw [HN3.out] at s3 hl3 ⊢
    obtain ⟨n5, HN5⟩ : ∃ n, Hid (n1 + n2 = n) := ⟨_, rfl⟩
    have hl5 : n5 ≤ 600 := by have := HN5.out; omega
    have rn := World.ownsRow_nil w3 w3.heap.size 9 1
    by_cases h0 : a.size = 0
    · have HW : Hid (linesB (a ++ b) = linesB a ++ linesB b) := linesB_whole a b (.inl (List.length_eq_zero_iff.1 h0))
      have ha0 : a.toList.isEmpty = true := by
        rw [Go.ByteArray.toList_eq, List.isEmpty_iff]; exact List.length_eq_zero_iff.1 h0
      gi_wp2_with (first
        | (gi_at_builtin; refine wpListIn_append_sv _ rfl _ _ rfl w3.heap.size _ 0 [] rfl rn p1 n1 cap1 (linesB a) rfl s1 (by omega) (Nat.le_refl _) ?_; intro v4 w4 r4 g4 _; rw [Nat.zero_add, List.nil_append] at r4; obtain ⟨p4, cap4, rfl⟩ := row_slice r4; have c4 : Chg No w3 w4 := (Chg.refl _ w3).grown g4 (fun k e => by cases e); have s24 := s2.no c4)
        | (gi_at_builtin; refine wpListIn_append_sv _ rfl _ _ rfl w3.heap.size _ n1 _ rfl r4 p2 n2 cap2 (linesB b) rfl s24 (by omega) c4.size ?_; intro v5 w5 r5 g5 _; rw [HN5.out] at r5; obtain ⟨p5, cap5, rfl⟩ := row_slice r5; have c45 : Chg No w3 w5 := c4.grown g5 (fun k e => .inr (r4.lt k e).1); have c5 : Chg No w w5 := Chg.seq c03 c45; have s35 := s3.no c45; have s5 : SlV w5 (.slice p5 n5 cap5) ((linesB a ++ linesB b).map Value.string) := by { rw [List.map_append]; refine SlV.ofRow (base := w3.heap.size) (e := 9) ?_; rw [show ((linesB a).map Value.string ++ (linesB b).map Value.string).length = n5 by rw [List.length_append, List.length_map, List.length_map, HN1.out, HN2.out, HN5.out]]; exact r5 })
        | fail)
      refine ⟨trivial, rfl, (sameS_in _ _ _ _ _ s35 s5).mono ?_⟩
      rintro e w6 ⟨rfl, c6⟩
      rw [decide_eq_true HW.out]
      gi_wp2_with fail
      refine ⟨trivial, rfl, (awake_in _).mono ?_⟩
      rintro e w7 ⟨rfl, c7⟩
      gi_wp2
      go_ret
      exact ⟨rfl, Chg.seq (Chg.seq c5 c6) c7⟩
    have ha0 : a.toList.isEmpty = false := by
      rw [Go.ByteArray.toList_eq]
      cases hd : a.data.toList with
      | nil => exact absurd (by rw [size_L]; show a.data.toList.length = 0; rw [hd]; rfl) h0
      | cons x r => rfl
    have hi1 : (0 : Int) ≤ (a.size : Int) - 1 := by omega
    have hi2 : (a.size : Int) - 1 < (a.size : Int) := by omega
    have hne : Hid (L a ≠ []) := L_ne h0
    have hlast : Hid ((L a).getLast? = some (a[a.size - 1]'(by omega))) := by
      show (L a).getLast? = _
      rw [List.getLast?_eq_getElem?, show (L a).length - 1 = a.size - 1 from rfl, List.getElem?_eq_getElem (by rw [← size_L]; omega)]
      rfl
    by_cases h10 : a[a.size - 1]'(by omega) = 10
    · have HW : Hid (linesB (a ++ b) = linesB a ++ linesB b) := linesB_whole a b (.inr (by rw [hlast.out, h10]))
      have h10' : (a[a.size - 1]'(by omega)).toNat = 10 := by rw [h10]; rfl
      clear hlast h10
      gi_wp2_with (first
        | (gi_at_builtin; refine wpListIn_append_sv _ rfl _ _ rfl w3.heap.size _ 0 [] rfl rn p1 n1 cap1 (linesB a) rfl s1 (by omega) (Nat.le_refl _) ?_; intro v4 w4 r4 g4 _; rw [Nat.zero_add, List.nil_append] at r4; obtain ⟨p4, cap4, rfl⟩ := row_slice r4; have c4 : Chg No w3 w4 := (Chg.refl _ w3).grown g4 (fun k e => by cases e); have s24 := s2.no c4)
        | (gi_at_builtin; refine wpListIn_append_sv _ rfl _ _ rfl w3.heap.size _ n1 _ rfl r4 p2 n2 cap2 (linesB b) rfl s24 (by omega) c4.size ?_; intro v5 w5 r5 g5 _; rw [HN5.out] at r5; obtain ⟨p5, cap5, rfl⟩ := row_slice r5; have c45 : Chg No w3 w5 := c4.grown g5 (fun k e => .inr (r4.lt k e).1); have c5 : Chg No w w5 := Chg.seq c03 c45; have s35 := s3.no c45; have s5 : SlV w5 (.slice p5 n5 cap5) ((linesB a ++ linesB b).map Value.string) := by { rw [List.map_append]; refine SlV.ofRow (base := w3.heap.size) (e := 9) ?_; rw [show ((linesB a).map Value.string ++ (linesB b).map Value.string).length = n5 by rw [List.length_append, List.length_map, List.length_map, HN1.out, HN2.out, HN5.out]]; exact r5 })
        | fail)
      refine ⟨trivial, rfl, (sameS_in _ _ _ _ _ s35 s5).mono ?_⟩
      rintro e w6 ⟨rfl, c6⟩
      rw [decide_eq_true HW.out]
      gi_wp2_with fail
      refine ⟨trivial, rfl, (awake_in _).mono ?_⟩
      rintro e w7 ⟨rfl, c7⟩
      gi_wp2
      go_ret
      exact ⟨rfl, Chg.seq (Chg.seq c5 c6) c7⟩
    · have h10' : ¬ ((((a[a.size - 1]'(by omega)).toNat : Nat) : Int) = 10) := by
        intro h
        exact h10 (UInt8.toNat.inj (by rw [show (10 : UInt8).toNat = 10 from rfl]; omega))
      have hcat : Hid (catB (linesB (a ++ b)) = catB (linesB a ++ linesB b)) := by
        show _ = _
        rw [catB_append, catB_lines, catB_lines, catB_lines]
      have hcs : Hid (catB (linesB (a ++ b)) = a ++ b) := catB_lines _
      have hz : Hid (decide ((0 : UInt8) ∈ L (a ++ b)) = (decide ((0 : UInt8) ∈ L a) || decide ((0 : UInt8) ∈ L b))) := by
        show _ = _
        rw [L_append]
        simp
      have hP : Hid (L b ≠ [] → n3 + 1 = n5) := fun hb => by
        have := linesB_part a b hne.out (by rw [hlast.out]; intro e; exact h10 (Option.some.inj e)) hb
        rw [HN1.out, HN2.out, HN3.out, HN5.out] at this
        exact this
      have hQ : Hid (L b = [] → n3 = n5) := fun hb => by
        have : linesB (a ++ b) = linesB a ++ linesB b := by
          have hbb : b = ⟨#[]⟩ := by rw [← T_L b, hb]
          unfold linesB
          rw [L_append, hb, List.append_nil]
          simp [linesL]
        have h := congrArg List.length this
        rw [List.length_append, HN1.out, HN2.out, HN3.out, HN5.out] at h
        exact h
      clear hlast h10
      by_cases hb0 : b.size = 0
      · have hb0' : b.toList.isEmpty = true := by
          rw [Go.ByteArray.toList_eq, List.isEmpty_iff]; exact List.length_eq_zero_iff.1 hb0
        have hn35 : n5 = n3 := (hQ.out (List.length_eq_zero_iff.1 hb0)).symm
        subst hn35
        gi_wp2_with (first
        | (gi_at_builtin; refine wpListIn_append_sv _ rfl _ _ rfl w3.heap.size _ 0 [] rfl rn p1 n1 cap1 (linesB a) rfl s1 (by omega) (Nat.le_refl _) ?_; intro v4 w4 r4 g4 _; rw [Nat.zero_add, List.nil_append] at r4; obtain ⟨p4, cap4, rfl⟩ := row_slice r4; have c4 : Chg No w3 w4 := (Chg.refl _ w3).grown g4 (fun k e => by cases e); have s24 := s2.no c4)
        | (gi_at_builtin; refine wpListIn_append_sv _ rfl _ _ rfl w3.heap.size _ n1 _ rfl r4 p2 n2 cap2 (linesB b) rfl s24 (by omega) c4.size ?_; intro v5 w5 r5 g5 _; rw [HN5.out] at r5; obtain ⟨p5, cap5, rfl⟩ := row_slice r5; have c45 : Chg No w3 w5 := c4.grown g5 (fun k e => .inr (r4.lt k e).1); have c5 : Chg No w w5 := Chg.seq c03 c45; have s35 := s3.no c45; have s5 : SlV w5 (.slice p5 n5 cap5) ((linesB a ++ linesB b).map Value.string) := by { rw [List.map_append]; refine SlV.ofRow (base := w3.heap.size) (e := 9) ?_; rw [show ((linesB a).map Value.string ++ (linesB b).map Value.string).length = n5 by rw [List.length_append, List.length_map, List.length_map, HN1.out, HN2.out, HN5.out]]; exact r5 })
        | fail)
        refine ⟨trivial, rfl, (join_in _ _ _ s35 (by rw [hcs.out]; omega) (by rw [HN3.out]; omega)).mono ?_⟩
        rintro e w6 ⟨rfl, c6⟩
        gi_wp2_with fail
        refine ⟨trivial, rfl, (join_in _ _ _ (s5.no c6) (by rw [← hcat.out, hcs.out]; omega) (by rw [List.length_append, HN1.out, HN2.out]; omega)).mono ?_⟩
        rintro e w7 ⟨rfl, c7⟩
        rw [← hcat.out, hcs.out]
        have c07 := Chg.seq (Chg.seq c5 c6) c7
        gi_wp2_with fail
        refine ⟨trivial, rfl, (binary_in _ _).mono ?_⟩
        rintro e w8 ⟨rfl, rfl⟩
        have hz' := hz.out
        rw [hz']
        clear hz hz'
        obtain ⟨za, hza⟩ : ∃ z, decide ((0 : UInt8) ∈ L a) = z := ⟨_, rfl⟩
        obtain ⟨zb, hzb⟩ : ∃ z, decide ((0 : UInt8) ∈ L b) = z := ⟨_, rfl⟩
        rw [hza, hzb]
        cases za
        · rw [Bool.false_or]
          gi_wp2_with fail
          refine ⟨trivial, rfl, (binary_in _ _).mono ?_⟩
          rintro e w9 ⟨rfl, rfl⟩
          rw [hza]
          gi_wp2_with fail
          refine ⟨trivial, rfl, (binary_in _ _).mono ?_⟩
          rintro e w10 ⟨rfl, rfl⟩
          rw [hzb]
          cases zb
          · gi_wp2_with fail
            refine ⟨trivial, rfl, (awake_in _).mono ?_⟩
            rintro e w11 ⟨rfl, c11⟩
            gi_wp2
            go_ret
            exact ⟨rfl, Chg.seq c07 c11⟩
          · gi_wp2_with fail
            refine ⟨trivial, rfl, (awake_in _).mono ?_⟩
            rintro e w11 ⟨rfl, c11⟩
            gi_wp2
            go_ret
            exact ⟨rfl, Chg.seq c07 c11⟩
        · rw [Bool.true_or]
          gi_wp2_with fail
          refine ⟨trivial, rfl, (binary_in _ _).mono ?_⟩
          rintro e w9 ⟨rfl, rfl⟩
          rw [hza]
          gi_wp2_with fail
          refine ⟨trivial, ?_⟩
          rename_i hKK
          apply hKK
          gi_wp2_with fail
          refine ⟨trivial, rfl, (awake_in _).mono ?_⟩
          rintro e w11 ⟨rfl, c11⟩
          gi_wp2
          go_ret
          exact ⟨rfl, Chg.seq c07 c11⟩
      · have hb0' : b.toList.isEmpty = false := by
          rw [Go.ByteArray.toList_eq]
          cases hd : b.data.toList with
          | nil => exact absurd (by rw [size_L]; show b.data.toList.length = 0; rw [hd]; rfl) hb0
          | cons x r => rfl
        obtain rfl : n3 + 1 = n5 := hP.out (L_ne hb0)
        gi_wp2_with (first
        | (gi_at_builtin; refine wpListIn_append_sv _ rfl _ _ rfl w3.heap.size _ 0 [] rfl rn p1 n1 cap1 (linesB a) rfl s1 (by omega) (Nat.le_refl _) ?_; intro v4 w4 r4 g4 _; rw [Nat.zero_add, List.nil_append] at r4; obtain ⟨p4, cap4, rfl⟩ := row_slice r4; have c4 : Chg No w3 w4 := (Chg.refl _ w3).grown g4 (fun k e => by cases e); have s24 := s2.no c4)
        | (gi_at_builtin; refine wpListIn_append_sv _ rfl _ _ rfl w3.heap.size _ n1 _ rfl r4 p2 n2 cap2 (linesB b) rfl s24 (by omega) c4.size ?_; intro v5 w5 r5 g5 _; rw [HN5.out] at r5; obtain ⟨p5, cap5, rfl⟩ := row_slice r5; have c45 : Chg No w3 w5 := c4.grown g5 (fun k e => .inr (r4.lt k e).1); have c5 : Chg No w w5 := Chg.seq c03 c45; have s35 := s3.no c45; have s5 : SlV w5 (.slice p5 (n3 + 1) cap5) ((linesB a ++ linesB b).map Value.string) := by { rw [List.map_append]; refine SlV.ofRow (base := w3.heap.size) (e := 9) ?_; rw [show ((linesB a).map Value.string ++ (linesB b).map Value.string).length = n3 + 1 by rw [List.length_append, List.length_map, List.length_map, HN1.out, HN2.out, HN5.out]]; exact r5 })
        | fail)
        refine ⟨trivial, rfl, (join_in _ _ _ s35 (by rw [hcs.out]; omega) (by rw [HN3.out]; omega)).mono ?_⟩
        rintro e w6 ⟨rfl, c6⟩
        gi_wp2_with fail
        refine ⟨trivial, rfl, (join_in _ _ _ (s5.no c6) (by rw [← hcat.out, hcs.out]; omega) (by rw [List.length_append, HN1.out, HN2.out]; omega)).mono ?_⟩
        rintro e w7 ⟨rfl, c7⟩
        rw [← hcat.out, hcs.out]
        have c07 := Chg.seq (Chg.seq c5 c6) c7
        gi_wp2_with fail
        refine ⟨trivial, rfl, (binary_in _ _).mono ?_⟩
        rintro e w8 ⟨rfl, rfl⟩
        have hz' := hz.out
        rw [hz']
        clear hz hz'
        obtain ⟨za, hza⟩ : ∃ z, decide ((0 : UInt8) ∈ L a) = z := ⟨_, rfl⟩
        obtain ⟨zb, hzb⟩ : ∃ z, decide ((0 : UInt8) ∈ L b) = z := ⟨_, rfl⟩
        rw [hza, hzb]
        cases za
        · rw [Bool.false_or]
          gi_wp2_with fail
          refine ⟨trivial, rfl, (binary_in _ _).mono ?_⟩
          rintro e w9 ⟨rfl, rfl⟩
          rw [hza]
          gi_wp2_with fail
          refine ⟨trivial, rfl, (binary_in _ _).mono ?_⟩
          rintro e w10 ⟨rfl, rfl⟩
          rw [hzb]
          cases zb
          · gi_wp2_with fail
            refine ⟨trivial, rfl, (awake_in _).mono ?_⟩
            rintro e w11 ⟨rfl, c11⟩
            gi_wp2
            go_ret
            exact ⟨rfl, Chg.seq c07 c11⟩
          · gi_wp2_with fail
            refine ⟨trivial, rfl, (awake_in _).mono ?_⟩
            rintro e w11 ⟨rfl, c11⟩
            gi_wp2
            go_ret
            exact ⟨rfl, Chg.seq c07 c11⟩
        · rw [Bool.true_or]
          gi_wp2_with fail
          refine ⟨trivial, rfl, (binary_in _ _).mono ?_⟩
          rintro e w9 ⟨rfl, rfl⟩
          rw [hza]
          gi_wp2_with fail
          refine ⟨trivial, ?_⟩
          rename_i hKK
          apply hKK
          gi_wp2_with fail
          refine ⟨trivial, rfl, (awake_in _).mono ?_⟩
          rintro e w11 ⟨rfl, c11⟩
          gi_wp2
          go_ret
          exact ⟨rfl, Chg.seq c07 c11⟩

end Go.Proofs.Ytlmjliomncjohaa
