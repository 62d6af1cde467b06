/-
  text's own Merge.
-/
import Derived.Test.YtookalebfbkedaaXBy
import Derived.Test.YtookalebfbkedaaTMerge
namespace Go.Proofs.Ytookalebfbkedaa
open Go.RowKit Go.Shelf Go.SeqLib Go.LineLib Go.DiffLib Go.TextLib Go.BigFrame
attribute [local go_sem] Oper.semAt_some

theorem eqT_true {x y : ByteArray} (h : x = y) : (x.toList == y.toList) = true := by rw [h]; simp
theorem eqT_false {x y : ByteArray} (h : ¬ x = y) : (x.toList == y.toList) = false := by rw [beq_eq_false_iff_ne]; exact fun e => h (text_ext e)
theorem lined_all (o a b : ByteArray) : [o, a, b].all (fun s => !odd s) = lined o a b := by
  unfold lined
  simp only [List.all_cons, List.all_nil, Bool.and_true]
theorem lined_few {o a b : ByteArray} (h : lined o a b = true) : (linesB o).length ≤ 60 ∧ (linesB a).length ≤ 60 ∧ (linesB b).length ≤ 60 := by
  have hh : ∀ s, odd s = false → (linesB s).length ≤ 60 := by
    intro s hs
    unfold odd at hs
    simp only [Bool.or_eq_false_iff, Bool.not_eq_false', decide_eq_true_eq] at hs
    exact hs.2
  unfold lined at h
  simp only [Bool.and_eq_true, Bool.not_eq_true'] at h
  exact ⟨hh _ h.1, hh _ h.2.1, hh _ h.2.2⟩

set_option maxRecDepth 100000 in
set_option maxHeartbeats 2000000 in
theorem tmerge_in (o a b : ByteArray) (ho : o.size ≤ 100000) (ha : a.size ≤ 100000) (hb : b.size ≤ 100000) (w : World) :
    CallsIn Fence.wide 0 Try.prog 8 #[.string o, .string a, .string b] w fun e w' => e = .returned (.tuple #[.string (txt (tm o a b)), .bool (tm o a b).isSome]) ∧ Chg No w w' := by
  obtain ⟨r, HR⟩ : ∃ r, Hid (tm o a b = r) := ⟨_, rfl⟩
  rw [HR.out]
  have hso := split_in o (by omega)
  have hsa := split_in a (by omega)
  have hsb := split_in b (by omega)
  refine callsIn_of_wp Try.func8 rfl trivial ?_
  simp only [Try.ntmps8, List.size_toArray, List.length_cons, List.length_nil, Nat.reduceAdd, Nat.reduceSub, Array.replicate_succ, Array.replicate_zero, List.push_toArray, List.append_toArray, List.nil_append, List.cons_append]
  by_cases h1 : a = b
  · have e1 := eqT_true h1
    obtain rfl : r = some a := by rw [← HR.out]; unfold tm; rw [if_pos h1]
    clear h1 HR
    gi_wp2
    go_ret2
    exact ⟨rfl, Chg.refl _ _⟩
  have e1 := eqT_false h1
  by_cases h2 : b = o
  · have e2 := eqT_true h2
    obtain rfl : r = some a := by rw [← HR.out]; unfold tm; rw [if_neg h1, if_pos h2]
    clear h1 h2 HR
    gi_wp2
    go_ret2
    exact ⟨rfl, Chg.refl _ _⟩
  have e2 := eqT_false h2
  by_cases h3 : a = o
  · have e3 := eqT_true h3
    obtain rfl : r = some b := by rw [← HR.out]; unfold tm; rw [if_neg h1, if_neg h2, if_pos h3]
    clear h1 h2 h3 HR
    gi_wp2
    go_ret2
    exact ⟨rfl, Chg.refl _ _⟩
  have e3 := eqT_false h3
  have HR2 : Hid ((if lined o a b = true then byL o a b else none) = r) := by
    rw [← HR.out]; unfold tm; rw [if_neg h1, if_neg h2, if_neg h3]; exact rfl
  clear HR h1 h2 h3
  have hby := fun W v (hv : SlV W v ([o, a, b].map Value.string)) => byLines_in v [o, a, b] W hv (by simp) (fun x hx => by
    rcases List.mem_cons.1 hx with e | hx
    · rw [e]; exact ho
    rcases List.mem_cons.1 hx with e | hx
    · rw [e]; exact ha
    rcases List.mem_cons.1 hx with e | hx
    · rw [e]; exact hb
    · cases hx)
  rw [lined_all] at hby
  obtain ⟨bl, HB⟩ : ∃ q, Hid (lined o a b = q) := ⟨_, rfl⟩
  rw [HB.out] at hby HR2
  gi_wp2_with fail
  refine ⟨trivial, rfl, (hby _ _ (SlV.made w [.string o, .string a, .string b] 9 (by simp))).mono ?_⟩
  rintro e w1 ⟨rfl, c1⟩
  have c0 : Chg No w w1 := Chg.seq ((Chg.refl _ w).alloc _) c1
  clear c1 hby
  cases bl with
  | false =>
    obtain rfl : r = none := HR2.out.symm
    gi_wp2
    go_ret2
    exact ⟨rfl, c0⟩
  | true =>
    obtain ⟨f1, f2, f3⟩ := lined_few HB.out
    have HM : Hid ((mrg (linesB o) (linesB a) (linesB b)).bind fit = r) := HR2.out
    clear HR2 HB
    gi_wp2_with fail
    refine ⟨trivial, rfl, (hso _).mono ?_⟩
    rintro e w2 ⟨v2, rfl, r2, k2⟩
    gi_wp2_with fail
    refine ⟨trivial, rfl, (hsa _).mono ?_⟩
    rintro e w3 ⟨v3, rfl, r3, k3⟩
    gi_wp2_with fail
    refine ⟨trivial, rfl, (hsb _).mono ?_⟩
    rintro e w4 ⟨v4, rfl, r4, k4⟩
    have s2 : SlV w4 v2 ((linesB o).map Value.string) := ((SlV.ofRow (by simpa using r2)).no k3).no k4
    have s3 : SlV w4 v3 ((linesB a).map Value.string) := (SlV.ofRow (by simpa using r3)).no k4
    have s4 : SlV w4 v4 ((linesB b).map Value.string) := SlV.ofRow (by simpa using r4)
    have c4 := Chg.seq c0 (Chg.seq k2 (Chg.seq k3 k4))
    clear r2 r3 r4 k2 k3 k4 c0 hso hsa hsb
    gi_wp2_with fail
    refine ⟨trivial, rfl, (merge_in v2 v3 v4 _ _ _ _ s2 s3 s4 (by omega) (by omega) (by omega)).mono ?_⟩
    rintro e w5 ⟨hres, k5⟩
    have c5 := Chg.seq c4 k5
    clear s2 s3 s4 c4 k5
    unfold appRes at hres
    cases hm : mrg (linesB o) (linesB a) (linesB b) with
    | none =>
      rw [hm] at hres HM
      obtain rfl : r = none := HM.out.symm
      clear hm
      subst hres
      gi_wp2
      go_ret2
      exact ⟨rfl, c5⟩
    | some l =>
      have hz := mrg_size hm
      rw [catB_lines, catB_lines] at hz
      rw [hm] at hres HM
      have HF : Hid (fit l = r) := HM.out
      clear HM hm
      obtain ⟨v', rfl, rr⟩ := hres
      have hj := join_in v' l w5 (SlV.ofRow (by simpa using rr)) (by omega) (by omega)
      clear rr
      unfold fit at HF
      generalize catB l = t at *
      gi_wp2_with fail
      refine ⟨trivial, rfl, hj.mono ?_⟩
      rintro e w6 ⟨rfl, k6⟩
      have c6 := Chg.seq c5 k6
      clear hj k6 c5
      by_cases h4 : 400 < t.size
      · obtain rfl : r = none := by rw [← HF.out, if_pos h4]
        have h4' : (400 : Int) < (t.size : Int) := by omega
        clear HF h4
        gi_wp2
        go_ret2
        exact ⟨rfl, c6⟩
      · obtain rfl : r = some t := by rw [← HF.out, if_neg h4]
        have h4' : ¬ (400 : Int) < (t.size : Int) := by omega
        clear HF h4
        gi_wp2
        go_ret2
        exact ⟨rfl, c6⟩

end Go.Proofs.Ytookalebfbkedaa
