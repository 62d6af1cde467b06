/-
  The document's own answer for join: what comes of one path.
-/
import Derived.Test.YtndblaemladppaaGreatDoorGPure
import Derived.Test.YtndblaemladppaaGreatDoorXRef
import Derived.Test.YtndblaemladppaaGreatDoorFRefA
namespace Go.TreeLib
theorem at_or (x y : At) : ((x.1 == y.1) = true ∧ (x.2.toList == y.2.toList) = true ∧ decide (x = y) = true) ∨ ((x.1 == y.1) = true ∧ (x.2.toList == y.2.toList) = false ∧ decide (x = y) = false) ∨ ((x.1 == y.1) = false ∧ decide (x = y) = false) := by
  by_cases h1 : x.1 = y.1
  · by_cases h2 : x.2 = y.2
    · exact .inl ⟨by rw [h1]; exact beq_self_eq_true _, eqR_true h2, decide_eq_true (Prod.ext h1 h2)⟩
    · exact .inr (.inl ⟨by rw [h1]; exact beq_self_eq_true _, eqR_false h2, decide_eq_false (fun e => h2 (congrArg Prod.snd e))⟩)
  · exact .inr (.inr ⟨beq_eq_false_iff_ne.2 h1, decide_eq_false (fun e => h1 (congrArg Prod.fst e))⟩)
end Go.TreeLib
namespace Go.Proofs.YtndblaemladppaaGreatDoor
open Go.RowKit Go.Shelf Go.SeqLib Go.DiffLib Go.TreeLib Go.TextLib Go.BigFrame
attribute [local go_sem] Oper.semAt_some

set_option maxRecDepth 100000 in
set_option maxHeartbeats 2000000 in
theorem jOne_in (vo va vb : Value) (o a b : List Fl) (p : ByteArray) (so : (atP o p).2.size ≤ 100000) (sa : (atP a p).2.size ≤ 100000) (sb : (atP b p).2.size ≤ 100000) (w : World) (ho : SlF w vo o) (ha : SlF w va a) (hb : SlF w vb b) :
    CallsIn Fence.wide 0 Tryz.prog 45 #[.string p, vo, va, vb] w fun e w' =>
      e = .returned (.tuple #[.string (res o a b p).1.2, .bool (res o a b p).1.1, .bool (res o a b p).2]) ∧ Chg No w w' := by
  have G1 := refGet_in vo o p w ho
  have G2 := fun W h => refGet_in va a p W h
  have G3 := fun W h => refGet_in vb b p W h
  obtain ⟨R, HR⟩ : ∃ R, Hid (res o a b p = R) := ⟨_, rfl⟩
  rw [HR.out]
  have HR2 : Hid (one3 ((TreeLib.get o p).isSome, getD o p) ((TreeLib.get a p).isSome, getD a p) ((TreeLib.get b p).isSome, getD b p) = R) := HR.out
  have so2 : (getD o p).size ≤ 100000 := so
  have sa2 : (getD a p).size ≤ 100000 := sa
  have sb2 : (getD b p).size ≤ 100000 := sb
  clear HR so sa sb
  generalize (TreeLib.get o p).isSome = i at G1 HR2
  generalize getD o p = x0 at G1 HR2 so2
  generalize (TreeLib.get a p).isSome = j at G2 HR2
  generalize getD a p = x at G2 HR2 sa2
  generalize (TreeLib.get b p).isSome = k at G3 HR2
  generalize getD b p = y at G3 HR2 sb2
  have M1 := fun W => refTMerge_in x0 x y so2 sa2 sb2 W
  obtain ⟨m, HM⟩ : ∃ m, Hid (tm x0 x y = m) := ⟨_, rfl⟩
  rw [HM.out] at M1
  obtain ⟨t1, ht1⟩ : ∃ t1, decide ((j, x) = (k, y)) = t1 := ⟨_, rfl⟩
  obtain ⟨t2, ht2⟩ : ∃ t2, decide ((j, x) = (i, x0)) = t2 := ⟨_, rfl⟩
  obtain ⟨t3, ht3⟩ : ∃ t3, decide ((k, y) = (i, x0)) = t3 := ⟨_, rfl⟩
  have O1 := at_or (j, x) (k, y)
  have O2 := at_or (j, x) (i, x0)
  have O3 := at_or (k, y) (i, x0)
  dsimp only at O1 O2 O3
  rw [ht1] at O1
  rw [ht2] at O2
  rw [ht3] at O3
  have HR3 : Hid ((if t1 = true then ((j, x), false) else if t2 = true then ((k, y), false) else if t3 = true then ((j, x), false) else mid (i, x0) (j, x) (k, y)) = R) := by
    have := HR2.out
    unfold one3 at this
    show _ = _
    rw [← this, ← ht1, ← ht2, ← ht3]
    simp only [decide_eq_true_eq]
  clear HR2 ht1 ht2 ht3
  have HO1 : Hid _ := O1
  have HO2 : Hid _ := O2
  have HO3 : Hid _ := O3
  clear O1 O2 O3
  refine callsIn_of_wp Tryz.func45 rfl trivial ?_
  simp only [Tryz.ntmps45, List.size_toArray, List.length_cons, List.length_nil, Nat.reduceAdd, Nat.reduceSub, Array.replicate_succ, Array.replicate_zero, List.push_toArray, List.append_toArray, List.nil_append, List.cons_append]
  gi_wp2_with fail
  refine ⟨trivial, rfl, G1.mono ?_⟩
  rintro e w1 ⟨rfl, c1⟩
  gi_wp2_with fail
  refine ⟨trivial, rfl, (G2 _ (ha.no c1)).mono ?_⟩
  rintro e w2 ⟨rfl, c2⟩
  have c02 := Chg.seq c1 c2
  gi_wp2_with fail
  refine ⟨trivial, rfl, (G3 _ (hb.no c02)).mono ?_⟩
  rintro e w3 ⟨rfl, c3⟩
  have c03 := Chg.seq c02 c3
  clear G1 G2 G3 c1 c2 c02 c3
  gi_upto_region 4 with (fail)
  gi_cut [37] from 500 (fun v w' => v = .bool t1 ∧ w' = w3)
  case first =>
    rename_i JJ KK hJJ hKK
    rcases HO1.out with ⟨a1, a2, rfl⟩ | ⟨a1, a2, rfl⟩ | ⟨a1, rfl⟩
    · gi_wp2
      gi_meet
      exact ⟨rfl, rfl⟩
    · gi_wp2
      gi_meet
      exact ⟨rfl, rfl⟩
    · gi_wp2
      gi_meet
      exact ⟨rfl, rfl⟩
  case rest =>
  obtain ⟨rfl, rfl⟩ := hcut
  generalize wc = W3 at *
  cases t1 with
  | true =>
    obtain rfl : R = ((j, x), false) := HR3.out.symm
    gi_wp2
    go_ret3
    exact ⟨rfl, c03⟩
  | false =>
  gi_upto_region 6 with (fail)
  gi_cut [48] from 500 (fun v w' => v = .bool t2 ∧ w' = W3)
  case first =>
    rename_i JJ KK hJJ hKK
    rcases HO2.out with ⟨a1, a2, rfl⟩ | ⟨a1, a2, rfl⟩ | ⟨a1, rfl⟩
    · gi_wp2
      gi_meet
      exact ⟨rfl, rfl⟩
    · gi_wp2
      gi_meet
      exact ⟨rfl, rfl⟩
    · gi_wp2
      gi_meet
      exact ⟨rfl, rfl⟩
  case rest =>
  obtain ⟨rfl, rfl⟩ := hcut
  generalize wc = W3 at *
  cases t2 with
  | true =>
    obtain rfl : R = ((k, y), false) := HR3.out.symm
    gi_wp2
    go_ret3
    exact ⟨rfl, c03⟩
  | false =>
  gi_upto_region 8 with (fail)
  gi_cut [59] from 500 (fun v w' => v = .bool t3 ∧ w' = W3)
  case first =>
    rename_i JJ KK hJJ hKK
    rcases HO3.out with ⟨a1, a2, rfl⟩ | ⟨a1, a2, rfl⟩ | ⟨a1, rfl⟩
    · gi_wp2
      gi_meet
      exact ⟨rfl, rfl⟩
    · gi_wp2
      gi_meet
      exact ⟨rfl, rfl⟩
    · gi_wp2
      gi_meet
      exact ⟨rfl, rfl⟩
  case rest =>
  obtain ⟨rfl, rfl⟩ := hcut
  generalize wc = W3 at *
  cases t3 with
  | true =>
    obtain rfl : R = ((j, x), false) := HR3.out.symm
    gi_wp2
    go_ret3
    exact ⟨rfl, c03⟩
  | false =>
  have HR4 : Hid (mid (i, x0) (j, x) (k, y) = R) := HR3.out
  clear HR3 HO1 HO2 HO3
  cases j with
  | false =>
    obtain rfl : R = ((i, x0), true) := HR4.out.symm.trans (if_neg (fun e => by cases e.1))
    gi_wp2
    go_ret3
    exact ⟨rfl, c03⟩
  | true =>
  cases k with
  | false =>
    obtain rfl : R = ((i, x0), true) := HR4.out.symm.trans (if_neg (fun e => by cases e.2))
    gi_wp2
    go_ret3
    exact ⟨rfl, c03⟩
  | true =>
  gi_wp2_with fail
  refine ⟨trivial, rfl, (M1 _).mono ?_⟩
  rintro e w4 ⟨rfl, c4⟩
  have c04 := Chg.seq c03 c4
  cases m with
  | some m =>
    obtain rfl : R = ((true, m), false) := by
      have := HR4.out
      unfold mid at this
      rw [if_pos ⟨rfl, rfl⟩] at this
      simp only [HM.out] at this
      exact this.symm
    gi_wp2
    go_ret3
    exact ⟨rfl, c04⟩
  | none =>
    obtain rfl : R = ((i, x0), true) := by
      have := HR4.out
      unfold mid at this
      rw [if_pos ⟨rfl, rfl⟩] at this
      simp only [HM.out] at this
      exact this.symm
    gi_wp2
    go_ret3
    exact ⟨rfl, c04⟩

end Go.Proofs.YtndblaemladppaaGreatDoor
