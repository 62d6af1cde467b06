/-
  TreeUnder answers true at every three texts, and turns nothing that lay.
-/
import Derived.Test.YtikhfojbekpoeaaDoorFAwake
import Derived.Test.YtikhfojbekpoeaaDoorFGet
namespace Go.TreeLib
open Go
theorem bs_app (a b : ByteArray) : Bs (a ++ b) = Bs a ++ Bs b := by
  show (a ++ b).data.toList = _
  rw [ByteArray.data_append, Array.toList_append]
theorem size_app (a b : ByteArray) : (a ++ b).size = a.size + b.size := by rw [ByteArray.size_append]
theorem bs_len (a : ByteArray) : (Bs a).length = a.size := rfl
/-- p, a sign, q. -/
theorem bs_three (p c q : ByteArray) (x : UInt8) (hc : c = ⟨#[x]⟩) : Bs (p ++ c ++ q) = Bs p ++ x :: Bs q := by
  subst hc
  rw [bs_app, bs_app, List.append_assoc]
  rfl
theorem lt_three (p c q : ByteArray) (x : UInt8) (hc : c = ⟨#[x]⟩) : lt p (p ++ c ++ q) = true := by
  have h := bl_app (Bs p) x (Bs q)
  rw [← bs_three p c q x hc] at h
  unfold lt
  rw [Go.ByteArray.toList_eq, Go.ByteArray.toList_eq]
  exact h
theorem put_two {p u : ByteArray} (h : lt p u = true) (d : ByteArray) : put [(p, d)] u d = [(p, d), (u, d)] := by
  unfold put
  rw [drop_none (fun f hf => by rw [List.mem_singleton.1 hf]; exact lt_ne h)]
  exact isort_self (List.pairwise_pair.2 (lt_asymm h))
theorem may_under {p u d : ByteArray} (h : under (Bs u) (Bs p) = true) : mayB [(p, d), (u, d)] = false := mayB_not (fun ht => by
  have := (List.pairwise_pair.1 ht.apart).2
  rw [h] at this
  cases this)
theorem may_beside {p u d : ByteArray} (hp : pathB (Bs p) = true) (hu : pathB (Bs u) = true) (hd : d.size ≤ 400) (h : under (Bs u) (Bs p) = false) (hl : lt p u = true) : mayB [(p, d), (u, d)] = true := mayB_iff.2
  ⟨by simp, fun f hf => by
    unfold fileB
    rcases List.mem_cons.1 hf with rfl | hf
    · rw [hp]; simpa using hd
    · rw [List.mem_singleton.1 hf, hu]; simpa using hd, List.pairwise_pair.2 ⟨hl, h⟩⟩
theorem drop_two {p u : ByteArray} (h : lt p u = true) (d : ByteArray) : drop [(p, d), (u, d)] p = [(u, d)] := by
  have : u ≠ p := fun e => lt_ne h e.symm
  simp [drop, this]
theorem may_one {u d : ByteArray} (hu : pathB (Bs u) = true) (hd : d.size ≤ 400) : mayB [(u, d)] = true := mayB_iff.2 (IsTree.one (by unfold fileB; rw [hu]; simpa using hd))
theorem may_none {u d : ByteArray} (hu : pathB (Bs u) = false) : mayB [(u, d)] = false := mayB_not (fun ht => by
  have := ht.file (u, d) (by simp)
  unfold fileB at this
  rw [hu] at this
  cases this)
end Go.TreeLib
namespace Go.Proofs.YtikhfojbekpoeaaDoor
open Go.RowKit Go.Shelf Go.SeqLib Go.DiffLib Go.TreeLib Go.BigFrame
attribute [local go_sem] Oper.semAt_some

set_option maxRecDepth 100000 in
set_option maxHeartbeats 8000000 in
theorem under_law (p q d : ByteArray) (w : World) (_ : p.size ≤ maxLen) (_ : q.size ≤ maxLen) (_ : d.size ≤ maxLen) :
    CallsIn Fence.wide 0 Tryd.prog 6 #[.string p, .string q, .string d] w fun e w' => e = .returned (.bool true) ∧ Chg No w w' := by
  refine callsIn_of_wp Tryd.func6 rfl trivial ?_
  simp only [Tryd.ntmps6, List.size_toArray, List.length_cons, List.length_nil, Nat.reduceAdd, Nat.reduceSub, Array.replicate_succ, Array.replicate_zero, List.push_toArray, List.append_toArray, List.nil_append, List.cons_append]
  by_cases h1 : 20 < p.size
  · have g1 : (20 : Int) < (p.size : Int) := by omega
    gi_wp2_with fail
    refine ⟨trivial, ?_⟩
    rename_i hKK
    apply hKK
    gi_wp2_with fail
    refine ⟨trivial, ?_⟩
    rename_i hKK
    apply hKK
    gi_wp2_with fail
    refine ⟨trivial, rfl, (awake_in _).mono ?_⟩
    rintro e w1 ⟨rfl, c1⟩
    gi_wp2
    go_ret
    exact ⟨rfl, c1⟩
  have g1 : ¬ (20 : Int) < (p.size : Int) := by omega
  by_cases h2 : 20 < q.size
  · have g2 : (20 : Int) < (q.size : Int) := by omega
    gi_wp2_with fail
    refine ⟨trivial, ?_⟩
    rename_i hKK
    apply hKK
    gi_wp2_with fail
    refine ⟨trivial, ?_⟩
    rename_i hKK
    apply hKK
    gi_wp2_with fail
    refine ⟨trivial, rfl, (awake_in _).mono ?_⟩
    rintro e w1 ⟨rfl, c1⟩
    gi_wp2
    go_ret
    exact ⟨rfl, c1⟩
  have g2 : ¬ (20 : Int) < (q.size : Int) := by omega
  by_cases h3 : 400 < d.size
  · have g3 : (400 : Int) < (d.size : Int) := by omega
    gi_wp2_with fail
    refine ⟨trivial, ?_⟩
    rename_i hKK
    apply hKK
    gi_wp2_with fail
    refine ⟨trivial, ?_⟩
    rename_i hKK
    apply hKK
    gi_wp2_with fail
    refine ⟨trivial, rfl, (awake_in _).mono ?_⟩
    rintro e w1 ⟨rfl, c1⟩
    gi_wp2
    go_ret
    exact ⟨rfl, c1⟩
  have g3 : ¬ (400 : Int) < (d.size : Int) := by omega
  have P1 := path_in p
  have P2 := path_in q
  gi_wp2_with fail
  refine ⟨trivial, rfl, (P1 _).mono ?_⟩
  rintro e w1 ⟨rfl, c1⟩
  cases hp : pathB (Bs p) with
  | false =>
    gi_wp2_with fail
    refine ⟨trivial, ?_⟩
    rename_i hKK
    apply hKK
    gi_wp2_with fail
    refine ⟨trivial, rfl, (awake_in _).mono ?_⟩
    rintro e w2 ⟨rfl, c2⟩
    gi_wp2
    go_ret
    exact ⟨rfl, Chg.seq c1 c2⟩
  | true =>
  gi_wp2_with fail
  refine ⟨trivial, rfl, (P2 _).mono ?_⟩
  rintro e w2 ⟨rfl, c2⟩
  cases hq : pathB (Bs q) with
  | false =>
    gi_wp2_with fail
    refine ⟨trivial, rfl, (awake_in _).mono ?_⟩
    rintro e w3 ⟨rfl, c3⟩
    gi_wp2
    go_ret
    exact ⟨rfl, Chg.seq c1 (Chg.seq c2 c3)⟩
  | true =>
  clear P1 P2
  have hP := pathB_iff.1 hp
  have hQ := pathB_iff.1 hq
  have c02 := Chg.seq c1 c2
  have z1 : (ByteArray.mk #[47]).size = 1 := rfl
  have z2 : (ByteArray.mk #[45]).size = 1 := rfl
  have z3 : (ByteArray.mk #[47, 47]).size = 2 := rfl
  have z4 : (ByteArray.mk #[32]).size = 1 := rfl
  have y1 : (p ++ ByteArray.mk #[47]).size = p.size + 1 := by rw [size_app, z1]
  have y2 : (p ++ ByteArray.mk #[45]).size = p.size + 1 := by rw [size_app, z2]
  have y3 : (p ++ ByteArray.mk #[47, 47]).size = p.size + 2 := by rw [size_app, z3]
  have bU := bs_three p ⟨#[47]⟩ q 47 rfl
  have bB := bs_three p ⟨#[45]⟩ q 45 rfl
  have lU := lt_three p ⟨#[47]⟩ q 47 rfl
  have lB := lt_three p ⟨#[45]⟩ q 45 rfl
  have hls : (Bs p).length + (Bs q).length + 1 ≤ 60 := by rw [bs_len, bs_len]; omega
  have hpU : pathB (Bs (p ++ ⟨#[47]⟩ ++ q)) = true := pathB_iff.2 (by rw [bU]; exact hP.join hQ 47 (by decide) hls)
  have hpB : pathB (Bs (p ++ ⟨#[45]⟩ ++ q)) = true := pathB_iff.2 (by rw [bB]; exact hP.join hQ 45 (by decide) hls)
  have uU : under (Bs (p ++ ⟨#[47]⟩ ++ q)) (Bs p) = true := by rw [bU, under_app]; rfl
  have uB : under (Bs (p ++ ⟨#[45]⟩ ++ q)) (Bs p) = false := by rw [bB, under_app]; rfl
  have hp2 : pathB (Bs (p ++ ⟨#[47, 47]⟩ ++ q)) = false := pathB_not (by rw [bs_app, bs_app, List.append_assoc]; exact not_path_two _ _)
  have hp3 : pathB (Bs (⟨#[47]⟩ ++ p)) = false := pathB_not (by rw [bs_app]; exact not_path_first _)
  have hp4 : pathB (Bs (p ++ ⟨#[47]⟩)) = false := pathB_not (by rw [bs_app]; exact not_path_last _)
  have hp5 : pathB (Bs (p ++ ⟨#[32]⟩)) = false := pathB_not (by rw [bs_app]; exact not_path_sign (by decide))
  have hd : d.size ≤ 400 := by omega
  have U1 := fun v W h => put_in v [(p, d)] (p ++ ⟨#[47]⟩ ++ q) d (by simp) W h
  have U2 := fun v W h => put_in v [(p, d)] (p ++ ⟨#[45]⟩ ++ q) d (by simp) W h
  rw [put_two lU] at U1
  rw [put_two lB] at U2
  have hzU : (p ++ ⟨#[47]⟩ ++ q).size ≤ 100000 := by rw [size_app, y1]; omega
  have hzB : (p ++ ⟨#[45]⟩ ++ q).size ≤ 100000 := by rw [size_app, y2]; omega
  have hzS : (p ++ ⟨#[32]⟩).size ≤ 100000 := by rw [size_app, z4]; omega
  have U3 := fun v W h => get_in v [(p, d), (p ++ ⟨#[47]⟩ ++ q, d)] (p ++ ⟨#[47]⟩ ++ q) W h
  have eg : (TreeLib.get [(p, d), (p ++ ⟨#[47]⟩ ++ q, d)] (p ++ ⟨#[47]⟩ ++ q)).isSome = true := by rw [← put_two lU, get_put_self]; rfl
  rw [eg] at U3
  have U4 := fun v W h => may_in v [(p, d), (p ++ ⟨#[47]⟩ ++ q, d)] (by simp only [List.forall_mem_cons, List.not_mem_nil, false_implies, implies_true, and_true]; exact ⟨by omega, hzU⟩) W h
  rw [may_under uU] at U4
  have U5 := fun v W h => may_in v [(p, d), (p ++ ⟨#[45]⟩ ++ q, d)] (by simp only [List.forall_mem_cons, List.not_mem_nil, false_implies, implies_true, and_true]; exact ⟨by omega, hzB⟩) W h
  rw [may_beside hp hpB hd uB lB] at U5
  have U6 := path_in (p ++ ⟨#[47]⟩ ++ q)
  rw [hpU] at U6
  have U7 := path_in (p ++ ⟨#[47, 47]⟩ ++ q)
  rw [hp2] at U7
  have U8 := path_in (⟨#[47]⟩ ++ p)
  rw [hp3] at U8
  have U9 := path_in (p ++ ⟨#[47]⟩)
  rw [hp4] at U9
  have U10 := fun v W h => may_in v [(p ++ ⟨#[32]⟩, ⟨#[]⟩)] (by simpa using hzS) W h
  rw [may_none hp5] at U10
  have U11 := fun v W h => drop_in v [(p, d), (p ++ ⟨#[47]⟩ ++ q, d)] p (by simp) W h
  rw [drop_two lU] at U11
  have U12 := fun v W h => may_in v [(p ++ ⟨#[47]⟩ ++ q, d)] (by simpa using hzU) W h
  rw [may_one hpU hd] at U12
  clear bU bB lU lB hls hpU hpB uU uB hp2 hp3 hp4 hp5 hp hq hP hQ eg hzU hzB hzS h3
  have c3 : Chg No w2 (w2.alloc (.cells #[.string p, .string d] 46)) := (Chg.refl _ w2).alloc _
  have s3 := SlF.one w2 (p, d)
  gi_wp2_with fail
  refine ⟨trivial, rfl, (U1 _ _ s3).mono ?_⟩
  rintro e w4 ⟨v4, rfl, r4, c4⟩
  have c04 := Chg.seq c02 (Chg.seq c3 c4)
  clear U1 c02 c3 c4 s3 c1 c2
  have c5 : Chg No w4 (w4.alloc (.cells #[.string p, .string d] 46)) := (Chg.refl _ w4).alloc _
  have s5 := SlF.one w4 (p, d)
  gi_wp2_with fail
  refine ⟨trivial, rfl, (U2 _ _ s5).mono ?_⟩
  rintro e w6 ⟨v6, rfl, r6, c6⟩
  have c46 := Chg.seq c5 c6
  have r6u := r4.sl.no c46
  have c06 := Chg.seq c04 c46
  clear U2 c04 c46 c5 c6 s5 r4
  gi_wp2_with fail
  refine ⟨trivial, rfl, (U3 _ _ r6u).mono ?_⟩
  rintro e w7 ⟨rfl, c7⟩
  obtain ⟨pu, ku, rfl, _, _⟩ := r6u.slice
  have r7u := r6u.no c7
  have r7b := r6.sl.no c7
  have c07 := Chg.seq c06 c7
  clear U3 c06 c7 r6 r6u
  gi_wp2_with fail
  refine ⟨trivial, rfl, (U4 _ _ r7u).mono ?_⟩
  rintro e w8 ⟨rfl, c8⟩
  gi_wp2_with fail
  refine ⟨trivial, rfl, (U5 _ _ (r7b.no c8)).mono ?_⟩
  rintro e w9 ⟨rfl, c9⟩
  have c79 := Chg.seq c8 c9
  clear U4 U5 c8 c9 r7b
  gi_wp2_with fail
  refine ⟨trivial, rfl, (U6 _).mono ?_⟩
  rintro e w10 ⟨rfl, c10⟩
  gi_wp2_with fail
  refine ⟨trivial, rfl, (U7 _).mono ?_⟩
  rintro e w11 ⟨rfl, c11⟩
  gi_wp2_with fail
  refine ⟨trivial, rfl, (U8 _).mono ?_⟩
  rintro e w12 ⟨rfl, c12⟩
  gi_wp2_with fail
  refine ⟨trivial, rfl, (U9 _).mono ?_⟩
  rintro e w13 ⟨rfl, c13⟩
  have c7d := Chg.seq c79 (Chg.seq c10 (Chg.seq c11 (Chg.seq c12 c13)))
  clear U6 U7 U8 U9 c79 c10 c11 c12 c13
  have c14 : Chg No w13 (w13.alloc (.cells #[.string (p ++ ⟨#[32]⟩), .string ⟨#[]⟩] 46)) := (Chg.refl _ w13).alloc _
  have s14 := SlF.one w13 (p ++ ⟨#[32]⟩, ⟨#[]⟩)
  gi_wp2_with fail
  refine ⟨trivial, rfl, (U10 _ _ s14).mono ?_⟩
  rintro e w15 ⟨rfl, c15⟩
  have c7f := Chg.seq c7d (Chg.seq c14 c15)
  have r15 := r7u.no c7f
  clear U10 c7d c14 c15 s14 r7u
  gi_wp2_with fail
  refine ⟨trivial, rfl, (U11 _ _ r15).mono ?_⟩
  rintro e w16 ⟨v16, rfl, r16, c16⟩
  gi_wp2_with fail
  refine ⟨trivial, rfl, (U12 _ _ r16.sl).mono ?_⟩
  rintro e w17 ⟨rfl, c17⟩
  gi_wp2_with fail
  refine ⟨trivial, rfl, (awake_in _).mono ?_⟩
  rintro e w18 ⟨rfl, c18⟩
  gi_wp2
  go_ret
  exact ⟨rfl, Chg.seq c07 (Chg.seq c7f (Chg.seq c16 (Chg.seq c17 c18)))⟩

end Go.Proofs.YtikhfojbekpoeaaDoor
