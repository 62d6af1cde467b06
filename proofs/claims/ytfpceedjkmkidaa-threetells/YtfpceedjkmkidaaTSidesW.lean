/-
  ThreeSides answers true at every three lists of texts, and turns nothing that lay.
-/
import Derived.Test.YtfpceedjkmkidaaTAwake
import Derived.Test.YtfpceedjkmkidaaTMerge
import Derived.Test.YtfpceedjkmkidaaTxtH
namespace Go.Proofs.Ytfpceedjkmkidaa
open Go.RowKit Go.Shelf Go.SeqLib Go.DiffLib Go.BigFrame
attribute [local go_sem] Oper.semAt_some

/-- What Merge tells, in one. -/
theorem merge_tells (vo va vb : Value) (o a b : List ByteArray) (w : World) (hv : SlV w vo (o.map Value.string)) (hu : SlV w va (a.map Value.string)) (ht : SlV w vb (b.map Value.string)) (ho : o.length ≤ 400) (ha : a.length ≤ 400) (hb : b.length ≤ 400) :
    CallsIn Fence.wide 0 Try.prog 13 #[vo, va, vb] w fun e w' => ∃ p n c, e = .returned (.tuple #[.slice p n c, .bool (mrg o a b).isSome]) ∧ SlV w' (.slice p n c) (((mrg o a b).getD []).map Value.string) ∧ Chg No w w' := by
  refine (merge_in vo va vb o a b w hv hu ht ho ha hb).mono ?_
  rintro e w' ⟨h, c⟩
  cases hm : mrg o a b with
  | none =>
    rw [hm] at h
    exact ⟨none, 0, 0, h, ⟨none, 0, rfl, Nat.le_refl _, Nat.zero_le _, by simp⟩, c⟩
  | some l =>
    rw [hm] at h
    obtain ⟨v', rfl, r⟩ := h
    obtain ⟨p, cc, rfl⟩ := row_slice r
    exact ⟨p, _, cc, rfl, SlV.ofRow (by simpa using r), c⟩

theorem great3_false {o a b : List ByteArray} (h : (greatB o 30 20 || (greatB a 30 20 || greatB b 30 20)) = false) : o.length ≤ 30 ∧ a.length ≤ 30 ∧ b.length ≤ 30 := by
  simp only [Bool.or_eq_false_iff] at h
  exact ⟨(greatB_false h.1).1, (greatB_false h.2.1).1, (greatB_false h.2.2).1⟩

set_option maxRecDepth 100000 in
set_option maxHeartbeats 4000000 in
theorem sides_law (p : Option Addr) (lo cp : Nat) (o : List ByteArray) (q : Option Addr) (la cq : Nat) (a : List ByteArray) (r : Option Addr) (lb cr : Nat) (b : List ByteArray) (w : World) (hv : SlV w (.slice p lo cp) (o.map Value.string)) (_ : o.length = lo) (hu : SlV w (.slice q la cq) (a.map Value.string)) (_ : a.length = la) (ht : SlV w (.slice r lb cr) (b.map Value.string)) (_ : b.length = lb) :
    CallsIn Fence.wide 0 Try.prog 5 #[.slice p lo cp, .slice q la cq, .slice r lb cr] w fun e w' => e = .returned (.bool true) ∧ Chg No w w' := by
  refine callsIn_of_wp Try.func5 rfl trivial ?_
  simp only [Try.ntmps5, List.size_toArray, List.length_cons, List.length_nil, Nat.reduceAdd, Nat.reduceSub, Array.replicate_succ, Array.replicate_zero, List.push_toArray, List.append_toArray, List.nil_append, List.cons_append]
  gi_wp2_with fail
  refine ⟨trivial, rfl, (great3_in p q r lo la lb cp cq cr o a b w hv hu ht).mono ?_⟩
  rintro e w0 ⟨rfl, rfl⟩
  obtain ⟨g, hg⟩ : ∃ g, (greatB o 30 20 || (greatB a 30 20 || greatB b 30 20)) = g := ⟨_, rfl⟩
  rw [hg]
  cases g with
  | true =>
    gi_wp2_with fail
    refine ⟨trivial, rfl, (awake_in _).mono ?_⟩
    rintro e w1 ⟨rfl, c1⟩
    gi_wp2
    go_ret
    exact ⟨rfl, c1⟩
  | false =>
    obtain ⟨h1, h2, h3⟩ := great3_false hg
    have H1 : Hid (o.length ≤ 400) := by show _ ≤ _; omega
    have H2 : Hid (a.length ≤ 400) := by show _ ≤ _; omega
    have H3 : Hid (b.length ≤ 400) := by show _ ≤ _; omega
    clear hg h1 h2 h3
    have M1 := merge_tells _ _ _ o a b w0 hv hu ht H1.out H2.out H3.out
    generalize hm : mrg o a b = mm at *
    have HM : Hid (mrg o a b = mm) := hm
    clear hm
    obtain ⟨z, hz⟩ : ∃ z, mm.isSome = z := ⟨_, rfl⟩
    have HZ : Hid (mm.isSome = z) := hz
    rw [hz] at M1
    clear hz
    gi_wp2_with fail
    refine ⟨trivial, rfl, M1.mono ?_⟩
    rintro e w1 ⟨p1, n1, d1, rfl, s1, c1⟩
    have M2 := merge_tells _ _ _ o b a w1 (hv.no c1) (ht.no c1) (hu.no c1) H1.out H3.out H2.out
    rw [mrg_sw, HM.out, HZ.out] at M2
    clear M1
    gi_wp2_with fail
    refine ⟨trivial, rfl, M2.mono ?_⟩
    rintro e w2 ⟨p2, n2, d2, rfl, s2, c2⟩
    have s12 := s1.no c2
    have c02 := Chg.seq c1 c2
    have M3 := merge_tells _ _ _ o a a w2 (hv.no c02) (hu.no c02) (hu.no c02) H1.out H2.out H2.out
    rw [mrg_like] at M3
    clear M2 s1 c1 c2
    gi_wp2_with fail
    refine ⟨trivial, rfl, M3.mono ?_⟩
    rintro e w3 ⟨p3, n3, d3, rfl, s3, c3⟩
    have s13 := s12.no c3
    have s23 := s2.no c3
    have c03 := Chg.seq c02 c3
    have M4 := merge_tells _ _ _ o o b w3 (hv.no c03) (hv.no c03) (ht.no c03) H1.out H1.out H3.out
    rw [mrg_left] at M4
    clear M3 s12 s2 c02 c3
    gi_wp2_with fail
    refine ⟨trivial, rfl, M4.mono ?_⟩
    rintro e w4 ⟨p4, n4, d4, rfl, s4, c4⟩
    have s14 := s13.no c4
    have s24 := s23.no c4
    have s34 := s3.no c4
    have c04 := Chg.seq c03 c4
    have M5 := merge_tells _ _ _ o a o w4 (hv.no c04) (hu.no c04) (hv.no c04) H1.out H2.out H1.out
    rw [mrg_right] at M5
    clear M4 s13 s23 s3 c03 c4
    gi_wp2_with fail
    refine ⟨trivial, rfl, M5.mono ?_⟩
    rintro e w5 ⟨p5, n5, d5, rfl, s5, c5⟩
    have s15 := s14.no c5
    have s25 := s24.no c5
    have s35 := s34.no c5
    have s45 := s4.no c5
    have c05 := Chg.seq c04 c5
    clear M5 s14 s24 s34 s4 c04 c5
    simp only [Option.isSome_some, Option.getD_some] at s35 s45 s5 ⊢
    have hvv := hv.no c05
    have huu := hu.no c05
    have htt := ht.no c05
    gi_wp2_with fail
    refine ⟨trivial, rfl, (sameS_in _ _ _ _ _ s15 s25).mono ?_⟩
    rintro e w6 ⟨rfl, c6⟩
    rw [decide_eq_true rfl]
    have hzz : (z == z) = true := by simp
    gi_wp2_with fail
    refine ⟨trivial, rfl, (sameS_in _ _ _ _ _ (s35.no c6) (huu.no c6)).mono ?_⟩
    rintro e w7 ⟨rfl, c7⟩
    rw [decide_eq_true rfl]
    have c67 := Chg.seq c6 c7
    gi_wp2_with fail
    refine ⟨trivial, rfl, (sameS_in _ _ _ _ _ (s45.no c67) (htt.no c67)).mono ?_⟩
    rintro e w8 ⟨rfl, c8⟩
    rw [decide_eq_true rfl]
    have c68 := Chg.seq c67 c8
    gi_wp2_with fail
    refine ⟨trivial, rfl, (sameS_in _ _ _ _ _ (s5.no c68) (huu.no c68)).mono ?_⟩
    rintro e w9 ⟨rfl, c9⟩
    rw [decide_eq_true rfl]
    gi_wp2_with fail
    refine ⟨trivial, rfl, (awake_in _).mono ?_⟩
    rintro e w10 ⟨rfl, c10⟩
    gi_wp2
    go_ret
    exact ⟨rfl, Chg.seq (Chg.seq (Chg.seq c05 c68) c9) c10⟩

end Go.Proofs.Ytfpceedjkmkidaa
