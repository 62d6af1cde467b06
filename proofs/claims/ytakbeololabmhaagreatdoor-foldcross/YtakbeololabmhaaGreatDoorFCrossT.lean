/-
  FoldCross, walked.
-/
import Derived.Test.YtakbeololabmhaaGreatDoorFOnlyT
namespace Go.DagLib
open Go.RepoLib Go.TreeLib
theorem stN_cx {one two both : List Fl} (h1 : mayB one = true) (h2 : mayB two = true) (h3 : mayB both = true) (hne : one ≠ two) : stN 60 (cxL one two both) = (cxL one two both, 60) := by
  have hr : mayB [(pX, noB)] = true := mayB_iff.2 (tree_x no_size)
  have e1 : (addC (([] : List Cm), 60) ([], [(pX, noB)], noB)).1 = ([([], [(pX, noB)], noB)], 60) := addC_new (mayC_of hr (by decide)) (by simp) (by simp) (by simp)
  have e2 : (addC ([([], [(pX, noB)], noB)], 60) ([1], one, noB)).1 = ([([], [(pX, noB)], noB), ([1], one, noB)], 60) := addC_new (mayC_of h1 (by decide)) (by simp [hasN]) (by simp) (by simp)
  have e3 : (addC ([([], [(pX, noB)], noB), ([1], one, noB)], 60) ([1], two, noB)).1 = ([([], [(pX, noB)], noB), ([1], one, noB), ([1], two, noB)], 60) := addC_new (mayC_of h2 (by decide)) (by simp [hasN]) (by simp; exact fun h => hne h.symm) (by simp)
  have e4 : (addC ([([], [(pX, noB)], noB), ([1], one, noB), ([1], two, noB)], 60) ([2, 3], both, noB)).1 = ([([], [(pX, noB)], noB), ([1], one, noB), ([1], two, noB), ([2, 3], both, noB)], 60) := addC_new (mayC_of h3 (by decide)) (by simp [hasN]) (by simp) (by simp)
  have e5 : (addC ([([], [(pX, noB)], noB), ([1], one, noB), ([1], two, noB), ([2, 3], both, noB)], 60) ([3, 2], both, noB)).1 = (cxL one two both, 60) := addC_new (mayC_of h3 (by decide)) (by simp [hasN]) (by simp) (by simp)
  show (addC (addC (addC (addC (addC (([] : List Cm), 60) ([], [(pX, noB)], noB)).1 ([1], one, noB)).1 ([1], two, noB)).1 ([2, 3], both, noB)).1 ([3, 2], both, noB)).1 = _
  rw [e1, e2, e3, e4, e5]
end Go.DagLib
namespace Go.Proofs.YtakbeololabmhaaGreatDoor
open Go.RowKit Go.Shelf Go.SeqLib Go.DiffLib Go.TreeLib Go.RepoLib Go.DagLib Go.BigFrame
attribute [local go_sem] Oper.semAt_some

theorem cx_small {one two both : List Fl} (h1 : one.length ≤ 16 ∧ ∀ f ∈ one, f.1.size ≤ 100 ∧ f.2.size ≤ 500) (h2 : two.length ≤ 16 ∧ ∀ f ∈ two, f.1.size ≤ 100 ∧ f.2.size ≤ 500) (h3 : both.length ≤ 16 ∧ ∀ f ∈ both, f.1.size ≤ 100 ∧ f.2.size ≤ 500) : ∀ c ∈ cxL one two both, SmallC c := by
  intro c hc
  simp [cxL] at hc
  rcases hc with rfl | rfl | rfl | rfl | rfl
  · exact ⟨by simp, by simp, by simp; decide, show noB.size ≤ 100 by decide⟩
  · exact ⟨by simp, h1.1, h1.2, show noB.size ≤ 100 by decide⟩
  · exact ⟨by simp, h2.1, h2.2, show noB.size ≤ 100 by decide⟩
  · exact ⟨by simp, h3.1, h3.2, show noB.size ≤ 100 by decide⟩
  · exact ⟨by simp, h3.1, h3.2, show noB.size ≤ 100 by decide⟩
theorem cx_one_small {a : ByteArray} (ha : a.size ≤ 500) : ∀ f ∈ [(pA, a), (pX, noB)], f.1.size ≤ 100 ∧ f.2.size ≤ 500 := by
  intro f hf
  have sA : pA.size ≤ 100 := by decide
  have sX : pX.size ≤ 100 := by decide
  have sN : noB.size ≤ 500 := by decide
  simp at hf
  rcases hf with rfl | rfl
  · exact ⟨sA, ha⟩
  · exact ⟨sX, sN⟩
/-- What the two cases have in common. -/
structure CxT (one two both : List Fl) : Prop where
  vir : virJ [(pX, noB)] one two = both
  m2 : mayB two = true
  m3 : mayB both = true
  ne : one ≠ two
  s2 : two.length ≤ 16 ∧ ∀ f ∈ two, f.1.size ≤ 100 ∧ f.2.size ≤ 500
  s3 : both.length ≤ 16 ∧ ∀ f ∈ both, f.1.size ≤ 100 ∧ f.2.size ≤ 500

theorem cxT_own {a b : ByteArray} (ha : a.size ≤ 200) (hb : b.size ≤ 200) : CxT [(pA, a), (pX, noB)] [(pB, b), (pX, noB)] [(pA, a), (pB, b), (pX, noB)] := {
  vir := cross_own (by omega) (by omega)
  m2 := mayB_iff.2 (tree_bx (by omega) no_size)
  m3 := mayB_iff.2 (tree_abx (by omega) (by omega))
  ne := by
    intro h
    have h1 : pA = pB := congrArg Prod.fst (List.cons.inj h).1
    exact absurd h1 (by decide)
  s2 := ⟨by simp, by
    intro f hf
    have sB : pB.size ≤ 100 := by decide
    have sX : pX.size ≤ 100 := by decide
    have sN : noB.size ≤ 500 := by decide
    simp at hf
    rcases hf with rfl | rfl
    · exact ⟨sB, by show b.size ≤ 500; omega⟩
    · exact ⟨sX, sN⟩⟩
  s3 := ⟨by simp, by
    intro f hf
    have sA : pA.size ≤ 100 := by decide
    have sB : pB.size ≤ 100 := by decide
    have sX : pX.size ≤ 100 := by decide
    have sN : noB.size ≤ 500 := by decide
    simp at hf
    rcases hf with rfl | rfl | rfl
    · exact ⟨sA, by show a.size ≤ 500; omega⟩
    · exact ⟨sB, by show b.size ≤ 500; omega⟩
    · exact ⟨sX, sN⟩⟩ }
theorem cxT_one {a c : ByteArray} (ha : a.size ≤ 200) (hc : c.size ≤ 201) : CxT [(pA, a), (pX, noB)] [(pX, c)] [(pA, a), (pX, c)] := {
  vir := cross_one (by omega) (by omega)
  m2 := mayB_iff.2 (tree_x (by omega))
  m3 := mayB_iff.2 (tree_ax (by omega) (by omega))
  ne := by
    intro h
    have h1 : pA = pX := congrArg Prod.fst (List.cons.inj h).1
    exact absurd h1 (by decide)
  s2 := ⟨by simp, by
    intro f hf
    have sX : pX.size ≤ 100 := by decide
    simp at hf
    subst hf
    exact ⟨sX, by show c.size ≤ 500; omega⟩⟩
  s3 := ⟨by simp, by
    intro f hf
    have sA : pA.size ≤ 100 := by decide
    have sX : pX.size ≤ 100 := by decide
    simp at hf
    rcases hf with rfl | rfl
    · exact ⟨sA, by show a.size ≤ 500; omega⟩
    · exact ⟨sX, by show c.size ≤ 500; omega⟩⟩ }

set_option maxRecDepth 100000 in
set_option maxHeartbeats 4000000 in
theorem fcross_law {Rep : Nat → Rp → Blk → Blk → World → Prop} (P : PutSpec Rep) (J : FoldSpec Rep) (a b : ByteArray) (own : Bool) (w : World) (_ : a.size ≤ maxLen) (_ : b.size ≤ maxLen) :
    CallsIn Fence.wide 0 Tryz.prog 5 #[.string a, .string b, .bool own] w fun e w' => e = .returned (.bool true) ∧ Chg No w w' := by
  have hnil : ∀ (B : Nat) (w : World), (binOp .eql 25 (ptr B) (.pointer none)).run Tryz.prog w = .ok (.bool false) w := fun B w => by simp [go_sem]
  refine callsIn_of_wp Tryz.func5 rfl trivial ?_
  simp only [Tryz.ntmps5, List.size_toArray, List.length_cons, List.length_nil, Nat.reduceAdd, Nat.reduceSub, Array.replicate_succ, Array.replicate_zero, List.push_toArray, List.append_toArray, List.nil_append, List.cons_append]
  by_cases ha : 200 < a.size
  · have ha' : (200 : Int) < (a.size : Int) := by omega
    gi_wp2_with fail
    refine ⟨trivial, rfl, (awakeF_in P J _).mono ?_⟩
    rintro e w2 ⟨rfl, c2⟩
    gi_wp2
    go_ret
    exact ⟨rfl, c2⟩
  have ha' : ¬ (200 : Int) < (a.size : Int) := by omega
  by_cases hb : 200 < b.size
  · have hb' : (200 : Int) < (b.size : Int) := by omega
    gi_wp2_with fail
    refine ⟨trivial, rfl, (awakeF_in P J _).mono ?_⟩
    rintro e w2 ⟨rfl, c2⟩
    gi_wp2
    go_ret
    exact ⟨rfl, c2⟩
  have hb' : ¬ (200 : Int) < (b.size : Int) := by omega
  cases he : (a.toList == b.toList) with
  | true =>
    gi_wp2_with fail
    refine ⟨trivial, rfl, (awakeF_in P J _).mono ?_⟩
    rintro e w2 ⟨rfl, c2⟩
    gi_wp2
    go_ret
    exact ⟨rfl, c2⟩
  | false =>
  obtain ⟨b0, hb0⟩ : ∃ b0, w.heap.size = b0 := ⟨_, rfl⟩
  obtain ⟨W1, hW1⟩ : ∃ W1, w.alloc (.cells #[.string ⟨#[120]⟩, .string ⟨#[]⟩] 49) = W1 := ⟨_, rfl⟩
  obtain ⟨W2, hW2⟩ : ∃ W2, W1.alloc (.cells #[.string ⟨#[97]⟩, .string a, .string ⟨#[120]⟩, .string ⟨#[]⟩] 49) = W2 := ⟨_, rfl⟩
  obtain ⟨W3, hW3⟩ : ∃ W3, W2.alloc (.cells #[.string ⟨#[98]⟩, .string b, .string ⟨#[120]⟩, .string ⟨#[]⟩] 49) = W3 := ⟨_, rfl⟩
  obtain ⟨W4, hW4⟩ : ∃ W4, W3.alloc (.cells #[.string ⟨#[97]⟩, .string a, .string ⟨#[98]⟩, .string b, .string ⟨#[120]⟩, .string ⟨#[]⟩] 49) = W4 := ⟨_, rfl⟩
  have z1 : W1.heap.size = b0 + 1 := by rw [← hW1, World.size_alloc, hb0]
  have z2 : W2.heap.size = b0 + 1 + 1 := by rw [← hW2, World.size_alloc, z1]
  have z3 : W3.heap.size = b0 + 1 + 1 + 1 := by rw [← hW3, World.size_alloc, z2]
  have z4 : W4.heap.size = b0 + 1 + 1 + 1 + 1 := by rw [← hW4, World.size_alloc, z3]
  have c1 : Chg No w W1 := by rw [← hW1]; exact (Chg.refl _ w).alloc _
  have c2 : Chg No W1 W2 := by rw [← hW2]; exact (Chg.refl _ W1).alloc _
  have c3 : Chg No W2 W3 := by rw [← hW3]; exact (Chg.refl _ W2).alloc _
  have c4 : Chg No W3 W4 := by rw [← hW4]; exact (Chg.refl _ W3).alloc _
  have f1 : SlF W1 (.slice (some ⟨b0, 0, none⟩) 1 1) [(pX, noB)] := by rw [← hW1, ← hb0]; exact SlF.one w (pX, noB)
  have f2 : SlF W2 (.slice (some ⟨b0 + 1, 0, none⟩) 2 2) [(pA, a), (pX, noB)] := by rw [← hW2, ← z1]; exact SlF.two W1 (pA, a) (pX, noB)
  have f3 : SlF W3 (.slice (some ⟨b0 + 1 + 1, 0, none⟩) 2 2) [(pB, b), (pX, noB)] := by rw [← hW3, ← z2]; exact SlF.two W2 (pB, b) (pX, noB)
  have f4 : SlF W4 (.slice (some ⟨b0 + 1 + 1 + 1, 0, none⟩) 3 3) [(pA, a), (pB, b), (pX, noB)] := by rw [← hW4, ← z3]; exact SlF.made W3 [(pA, a), (pB, b), (pX, noB)] (by simp)
  have k4 := Chg.seq (Chg.seq (Chg.seq c1 c2) c3) c4
  have f1 := ((f1.no c2).no c3).no c4
  have f2 := (f2.no c3).no c4
  have f3 := f3.no c4
  clear c1 c2 c3 c4
  gi_upto_if 45 with (fail)
  clear hW1 hW2 hW3 hW4 z1 z2 z3
  gi_cut [9, 10] from 500 (fun v9 v10 w' => ∃ two both p9 c9 p10 c10, v9 = .slice p9 (List.length two) c9 ∧ v10 = .slice p10 (List.length both) c10 ∧ CxT [(pA, a), (pX, noB)] two both ∧ SlF w' v9 two ∧ SlF w' v10 both ∧ SlF w' (.slice (some ⟨b0, 0, none⟩) 1 1) [(pX, noB)] ∧ SlF w' (.slice (some ⟨b0 + 1, 0, none⟩) 2 2) [(pA, a), (pX, noB)] ∧ Chg No w w')
  case first =>
    rename_i JJ KK hJJ hKK
    cases own with
    | true =>
      gi_wp2
      gi_meet
      refine ⟨[(pB, b), (pX, noB)], [(pA, a), (pB, b), (pX, noB)], _, _, _, _, rfl, rfl, cxT_own (by omega) (by omega), f3, f4, f1, f2, k4⟩
    | false =>
      obtain ⟨W5, hW5⟩ : ∃ W5, W4.alloc (.cells #[.string ⟨#[120]⟩, .string (b ++ ⟨#[33]⟩)] 49) = W5 := ⟨_, rfl⟩
      obtain ⟨W6, hW6⟩ : ∃ W6, W5.alloc (.cells #[.string ⟨#[97]⟩, .string a, .string ⟨#[120]⟩, .string (b ++ ⟨#[33]⟩)] 49) = W6 := ⟨_, rfl⟩
      have z5 : W5.heap.size = b0 + 1 + 1 + 1 + 1 + 1 := by rw [← hW5, World.size_alloc, z4]
      have c5 : Chg No W4 W5 := by rw [← hW5]; exact (Chg.refl _ W4).alloc _
      have c6 : Chg No W5 W6 := by rw [← hW6]; exact (Chg.refl _ W5).alloc _
      have f5 : SlF W5 (.slice (some ⟨b0 + 1 + 1 + 1 + 1, 0, none⟩) 1 1) [(pX, b ++ ⟨#[33]⟩)] := by rw [← hW5, ← z4]; exact SlF.one W4 (pX, b ++ ⟨#[33]⟩)
      have f6 : SlF W6 (.slice (some ⟨b0 + 1 + 1 + 1 + 1 + 1, 0, none⟩) 2 2) [(pA, a), (pX, b ++ ⟨#[33]⟩)] := by rw [← hW6, ← z5]; exact SlF.two W5 (pA, a) (pX, b ++ ⟨#[33]⟩)
      have hbs : b.size ≤ 200 := by omega
      gi_wp2
      gi_meet
      refine ⟨[(pX, b ++ ⟨#[33]⟩)], [(pA, a), (pX, b ++ ⟨#[33]⟩)], _, _, _, _, rfl, rfl, cxT_one (by omega) (by rw [ByteArray.size_append]; show b.size + 1 ≤ 201; omega), f5.no c6, f6, (f1.no c5).no c6, (f2.no c5).no c6, Chg.seq (Chg.seq k4 c5) c6⟩
  case rest =>
  obtain ⟨two, both, p9, c9, p10, c10, rfl, rfl, T, g9, g10, g1, g2, k5⟩ := hcut
  generalize wc = w5 at *
  obtain ⟨l9, hl9⟩ : ∃ l9, List.length two = l9 := ⟨_, rfl⟩
  obtain ⟨l10, hl10⟩ : ∃ l10, List.length both = l10 := ⟨_, rfl⟩
  rw [hl9] at g9
  rw [hl10] at g10
  rw [hl9, hl10]
  clear hl9 hl10
  obtain ⟨m, hm⟩ : ∃ m, w5.heap.size = m := ⟨_, rfl⟩
  obtain ⟨V1, hV1⟩ : ∃ V1, w5.alloc (.cells #[.int .i64 1] 3) = V1 := ⟨_, rfl⟩
  obtain ⟨V2, hV2⟩ : ∃ V2, V1.alloc (.cells #[.int .i64 1] 3) = V2 := ⟨_, rfl⟩
  obtain ⟨V3, hV3⟩ : ∃ V3, V2.alloc (.cells #[.int .i64 2, .int .i64 3] 3) = V3 := ⟨_, rfl⟩
  obtain ⟨V4, hV4⟩ : ∃ V4, V3.alloc (.cells #[.int .i64 3, .int .i64 2] 3) = V4 := ⟨_, rfl⟩
  have z1 : V1.heap.size = m + 1 := by rw [← hV1, World.size_alloc, hm]
  have z2 : V2.heap.size = m + 1 + 1 := by rw [← hV2, World.size_alloc, z1]
  have z3 : V3.heap.size = m + 1 + 1 + 1 := by rw [← hV3, World.size_alloc, z2]
  have z4 : V4.heap.size = m + 1 + 1 + 1 + 1 := by rw [← hV4, World.size_alloc, z3]
  have c1 : Chg No w5 V1 := by rw [← hV1]; exact (Chg.refl _ w5).alloc _
  have c2 : Chg No V1 V2 := by rw [← hV2]; exact (Chg.refl _ V1).alloc _
  have c3 : Chg No V2 V3 := by rw [← hV3]; exact (Chg.refl _ V2).alloc _
  have c4 : Chg No V3 V4 := by rw [← hV4]; exact (Chg.refl _ V3).alloc _
  have c0 := Chg.seq (Chg.seq (Chg.seq c1 c2) c3) c4
  have q1 : SlV V1 (.slice (some ⟨m, 0, none⟩) 1 1) (([1] : List Int).map iv) := by rw [← hV1, ← hm]; exact SlI1 w5 1
  have q2 : SlV V2 (.slice (some ⟨m + 1, 0, none⟩) 1 1) (([1] : List Int).map iv) := by rw [← hV2, ← z1]; exact SlI1 V1 1
  have q3 : SlV V3 (.slice (some ⟨m + 1 + 1, 0, none⟩) 2 2) (([2, 3] : List Int).map iv) := by rw [← hV3, ← z2]; exact SlI2 V2 2 3
  have q4 : SlV V4 (.slice (some ⟨m + 1 + 1 + 1, 0, none⟩) 2 2) (([3, 2] : List Int).map iv) := by rw [← hV4, ← z3]; exact SlI2 V3 3 2
  have q1 := ((q1.no c2).no c3).no c4
  have q2 := (q2.no c3).no c4
  have q3 := q3.no c4
  have h1 := g1.no c0
  have h2 := g2.no c0
  have h9 := g9.no c0
  have h10 := g10.no c0
  have hM := LowM.made V4 [(.slice none 0 0, .slice (some ⟨b0, 0, none⟩) 1 1, noB), (.slice (some ⟨m, 0, none⟩) 1 1, .slice (some ⟨b0 + 1, 0, none⟩) 2 2, noB), (.slice (some ⟨m + 1, 0, none⟩) 1 1, .slice p9 l9 c9, noB), (.slice (some ⟨m + 1 + 1, 0, none⟩) 2 2, .slice p10 l10 c10, noB), (.slice (some ⟨m + 1 + 1 + 1, 0, none⟩) 2 2, .slice p10 l10 c10, noB)] (cxL [(pA, a), (pX, noB)] two both) rfl (by simp) (fun i r x hr hx => by
    match i, hr, hx with
    | 0, hr, hx =>
      cases hr
      cases hx
      exact CmD.of (ps := []) ⟨none, 0, rfl, Nat.le_refl _, Nat.zero_le _, by simp⟩ h1 (fun k hk => absurd rfl hk.1) (fun k hk => h1.lt k hk)
    | 1, hr, hx =>
      cases hr
      cases hx
      exact CmD.of q1 h2 (fun k hk => q1.lt k hk) (fun k hk => h2.lt k hk)
    | 2, hr, hx =>
      cases hr
      cases hx
      exact CmD.of q2 h9 (fun k hk => q2.lt k hk) (fun k hk => h9.lt k hk)
    | 3, hr, hx =>
      cases hr
      cases hx
      exact CmD.of q3 h10 (fun k hk => q3.lt k hk) (fun k hk => h10.lt k hk)
    | 4, hr, hx =>
      cases hr
      cases hx
      exact CmD.of q4 h10 (fun k hk => q4.lt k hk) (fun k hk => h10.lt k hk)
    | i + 5, hr, hx => cases hr)
  rw [z4] at hM
  obtain ⟨V5, hV5⟩ : ∃ V5, V4.alloc (.cells #[.slice none 0 0, .slice (some ⟨b0, 0, none⟩) 1 1, .string ⟨#[]⟩, .slice (some ⟨m, 0, none⟩) 1 1, .slice (some ⟨b0 + 1, 0, none⟩) 2 2, .string ⟨#[]⟩, .slice (some ⟨m + 1, 0, none⟩) 1 1, .slice p9 l9 c9, .string ⟨#[]⟩, .slice (some ⟨m + 1 + 1, 0, none⟩) 2 2, .slice p10 l10 c10, .string ⟨#[]⟩, .slice (some ⟨m + 1 + 1 + 1, 0, none⟩) 2 2, .slice p10 l10 c10, .string ⟨#[]⟩] 43) = V5 := ⟨_, rfl⟩
  obtain ⟨rws, hM5⟩ : ∃ rws, LowM V5.heap.size V5 (.slice (some ⟨m + 1 + 1 + 1 + 1, 0, none⟩) 5 5) rws (cxL [(pA, a), (pX, noB)] two both) := ⟨_, by rw [← hV5]; exact hM⟩
  have c5 : Chg No V4 V5 := by rw [← hV5]; exact (Chg.refl _ V4).alloc _
  have k6 := Chg.seq (Chg.seq k5 c0) c5
  have e1 := (g1.no c0).no c5
  have e10 := (g10.no c0).no c5
  have hsm := cx_small (one := [(pA, a), (pX, noB)]) ⟨by simp, cx_one_small (by omega)⟩ T.s2 T.s3
  have M1 := made13_in P _ 5 5 rws _ V5 hM5 rfl (by omega) hsm
  have hst := stN_cx (one := [(pA, a), (pX, noB)]) (mayB_iff.2 (tree_ax (by omega) no_size)) T.m2 T.m3 T.ne
  have hF := (stF _ 5 rfl (by omega) hsm).1
  rw [hst] at M1 hF
  have hb3 := (cx_best [(pA, a), (pX, noB)] two both).1
  have hd4 := (cx_deep T.vir 2).1
  have hd2 := (cx_deep T.vir 0).1
  have hd3 := (cx_deep T.vir 3).2
  have hL10 : both.length ≤ 1000000 := by have := T.s3.1; omega
  have hlen : (cxL [(pA, a), (pX, noB)] two both).length = 5 := rfl
  obtain ⟨L, hL⟩ : ∃ L, cxL [(pA, a), (pX, noB)] two both = L := ⟨_, rfl⟩
  rw [hL] at M1 hF hb3 hd4 hd2 hd3 hlen
  clear hL hM hM5 hst hsm q1 q2 q3 q4 h1 h2 h9 h10 g1 g2 g9 g10 c0 c1 c2 c3 c4 c5 k5 T
  gi_wp2_with fail
  refine ⟨trivial, rfl, M1.mono ?_⟩
  rintro e w6 ⟨B, Bw, S, O, lv, rws2, rfl, r6, _, hS, k7⟩
  clear M1 z1 z2 z3 z4 hV1 hV2 hV3 hV4 hV5
  have k6 := Chg.seq k6 k7
  have e1 := e1.no k7
  have e10 := e10.no k7
  clear k7
  have N1 := fun W hW => P.len B (L, 60) S O W hW (by show L.length ≤ 200; rw [hlen]; omega)
  simp only [hlen] at N1
  have HF : Hid (FoldL L) := hF
  have A5 := fun W hW => J.base B (L, 60) S O 4 5 W hW HF.out
  have A6 := fun W hW => J.deep B (L, 60) S O 4 5 2 W hW HF.out
  have A7 := fun W hW => J.best B (L, 60) S O 4 5 W hW HF.out
  have A8 := fun W hW => J.base B (L, 60) S O 2 3 W hW HF.out
  simp only [deepI, show (min (2 : Int) 4).toNat = 2 from rfl, hd4, hd2, hd3, hb3] at A5 A6 A7 A8
  clear hd4 hd2 hd3 hb3 hlen hF
  gi_wp2_with fail
  refine ⟨trivial, rfl, (N1 w6 r6).mono ?_⟩
  rintro e w7 ⟨rfl, c7⟩
  have r7 := P.no r6 c7
  have k7 := Chg.seq k6 c7
  have e1 := e1.no c7
  have e10 := e10.no c7
  clear N1 r6 k6 c7
  gi_wp2_with fail
  refine ⟨trivial, rfl, (A7 w7 r7).mono ?_⟩
  rintro e w8 ⟨v8, rfl, o8, c8⟩
  have r8 := P.no r7 c8
  have k8 := Chg.seq k7 c8
  have e1 := e1.no c8
  have e10 := e10.no c8
  have y8 : SlV w8 v8 (([2, 3] : List Int).map iv) := SlV.ofRow (by rw [List.length_map]; exact o8)
  obtain ⟨W9, hW9⟩ : ∃ W9, w8.alloc (.cells #[.int .i64 2, .int .i64 3] 3) = W9 := ⟨_, rfl⟩
  have c9 : Chg No w8 W9 := by rw [← hW9]; exact (Chg.refl _ w8).alloc _
  have f9 : SlV W9 (.slice (some ⟨w8.heap.size, 0, none⟩) 2 2) (([2, 3] : List Int).map iv) := by rw [← hW9]; exact SlI2 w8 2 3
  have I9 := sameI_in v8 _ [2, 3] [2, 3] W9 (y8.no c9) f9
  rw [decide_eq_true rfl] at I9
  have r9 := P.no r8 c9
  have k9 := Chg.seq k8 c9
  have e1 := e1.no c9
  have e10 := e10.no c9
  clear A7 r7 k7 c8 o8 y8 f9 r8 k8 c9
  gi_wp2_with fail
  refine ⟨trivial, rfl, I9.mono ?_⟩
  rintro e w10 ⟨rfl, c10⟩
  have r10 := P.no r9 c10
  have k10 := Chg.seq k9 c10
  have e1 := e1.no c10
  have e10 := e10.no c10
  clear I9 r9 k9 c10 hW9
  gi_wp2_with fail
  refine ⟨trivial, rfl, (A5 w10 r10).mono ?_⟩
  rintro e w11 ⟨v11, rfl, o11, c11⟩
  have r11 := P.no r10 c11
  have k11 := Chg.seq k10 c11
  have e1 := e1.no c11
  have e10 := e10.no c11
  have I11 := sameF_in v11 _ both both w11 o11.sl e10 hL10
  rw [decide_eq_true rfl] at I11
  clear A5 r10 k10 c11 o11
  gi_wp2_with fail
  refine ⟨trivial, rfl, I11.mono ?_⟩
  rintro e w12 ⟨rfl, c12⟩
  have r12 := P.no r11 c12
  have k12 := Chg.seq k11 c12
  have e1 := e1.no c12
  have e10 := e10.no c12
  clear I11 r11 k11 c12
  gi_wp2_with fail
  refine ⟨trivial, rfl, (A6 w12 r12).mono ?_⟩
  rintro e w13 ⟨v13, rfl, o13, c13⟩
  have r13 := P.no r12 c13
  have k13 := Chg.seq k12 c13
  have e1 := e1.no c13
  have e10 := e10.no c13
  have I13 := sameF_in v13 _ both both w13 o13.sl e10 hL10
  rw [decide_eq_true rfl] at I13
  clear A6 r12 k12 c13 o13
  gi_wp2_with fail
  refine ⟨trivial, rfl, I13.mono ?_⟩
  rintro e w14 ⟨rfl, c14⟩
  have r14 := P.no r13 c14
  have k14 := Chg.seq k13 c14
  have e1 := e1.no c14
  clear I13 r13 k13 c14 e10
  gi_wp2_with fail
  refine ⟨trivial, rfl, (A8 w14 r14).mono ?_⟩
  rintro e w15 ⟨v15, rfl, o15, c15⟩
  have k15 := Chg.seq k14 c15
  have e1 := e1.no c15
  have I15 := sameF_in v15 _ [(pX, noB)] [(pX, noB)] w15 o15.sl e1 (by simp)
  rw [decide_eq_true rfl] at I15
  clear A8 r14 k14 c15 o15
  gi_wp2_with fail
  refine ⟨trivial, rfl, I15.mono ?_⟩
  rintro e w16 ⟨rfl, c16⟩
  have k16 := Chg.seq k15 c16
  gi_wp2_with fail
  refine ⟨trivial, rfl, (awakeF_in P J _).mono ?_⟩
  rintro e w17 ⟨rfl, c17⟩
  gi_wp2
  go_ret
  exact ⟨rfl, Chg.seq k16 c17⟩
end Go.Proofs.YtakbeololabmhaaGreatDoor
