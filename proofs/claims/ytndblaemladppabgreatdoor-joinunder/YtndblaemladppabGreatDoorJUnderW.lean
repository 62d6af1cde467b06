/-
  JoinUnder answers true at every four texts, and turns nothing that lay.
-/
import Derived.Test.YtndblaemladppabGreatDoorJLaw
import Derived.Test.YtndblaemladppabGreatDoorRJoinX
import Derived.Test.YtndblaemladppabGreatDoorFPath
namespace Go.TreeLib
open Go Go.TextLib
theorem slashed_eq (p q : ByteArray) : p ++ ⟨#[47]⟩ ++ q = slashed p q := Bs_inj (by
  show (p ++ ⟨#[47]⟩ ++ q).data.toList = Bs p ++ 47 :: Bs q
  rw [ByteArray.data_append, ByteArray.data_append, Array.toList_append, Array.toList_append, List.append_assoc]
  rfl)
end Go.TreeLib
namespace Go.Proofs.YtndblaemladppabGreatDoor
open Go.RowKit Go.Shelf Go.SeqLib Go.DiffLib Go.TreeLib Go.TextLib Go.BigFrame
attribute [local go_sem] Oper.semAt_some

set_option maxRecDepth 100000 in
set_option maxHeartbeats 4000000 in
theorem junder_law (J : JoinSpec) (p q d e : ByteArray) (w : World) (_ : p.size ≤ maxLen) (_ : q.size ≤ maxLen) (_ : d.size ≤ maxLen) (_ : e.size ≤ maxLen) :
    CallsIn Fence.wide 0 Tryz.prog 5 #[.string p, .string q, .string d, .string e] w fun x w' => x = .returned (.bool true) ∧ Chg No w w' := by
  have P1 := path_in p w
  have P2 := fun W => path_in q W
  obtain ⟨bp, hbp⟩ : ∃ bp, pathB (Bs p) = bp := ⟨_, rfl⟩
  obtain ⟨bq, hbq⟩ : ∃ bq, pathB (Bs q) = bq := ⟨_, rfl⟩
  have HP : Hid (pathB (Bs p) = bp) := hbp
  have HQ : Hid (pathB (Bs q) = bq) := hbq
  rw [hbp] at P1
  rw [hbq] at P2
  clear hbp hbq
  refine callsIn_of_wp Tryz.func5 rfl trivial ?_
  simp only [Tryz.ntmps5, List.size_toArray, List.length_cons, List.length_nil, Nat.reduceAdd, Nat.reduceSub, Array.replicate_succ, Array.replicate_zero, List.push_toArray, List.append_toArray, List.nil_append, List.cons_append]
  gi_wp2_with fail
  refine ⟨trivial, rfl, P1.mono ?_⟩
  rintro e1 w1 ⟨rfl, c1⟩
  cases bp with
  | false =>
    gi_wp2_with fail
    refine ⟨trivial, ?_⟩
    rename_i hKK
    apply hKK
    gi_wp2_with fail
    refine ⟨trivial, rfl, (awake_in J _).mono ?_⟩
    rintro e9 w9 ⟨rfl, c9⟩
    gi_wp2
    go_ret
    exact ⟨rfl, Chg.seq c1 c9⟩
  | true =>
  gi_wp2_with fail
  refine ⟨trivial, rfl, (P2 _).mono ?_⟩
  rintro e2 w2 ⟨rfl, c2⟩
  have c02 := Chg.seq c1 c2
  cases bq with
  | false =>
    gi_wp2_with fail
    refine ⟨trivial, rfl, (awake_in J _).mono ?_⟩
    rintro e9 w9 ⟨rfl, c9⟩
    gi_wp2
    go_ret
    exact ⟨rfl, Chg.seq c02 c9⟩
  | true =>
  by_cases h1 : 20 < p.size
  · have g1 : (20 : Int) < (p.size : Int) := by omega
    gi_wp2_with fail
    refine ⟨trivial, rfl, (awake_in J _).mono ?_⟩
    rintro e9 w9 ⟨rfl, c9⟩
    gi_wp2
    go_ret
    exact ⟨rfl, Chg.seq c02 c9⟩
  have g1 : ¬ (20 : Int) < (p.size : Int) := by omega
  by_cases h2 : 20 < q.size
  · have g2 : (20 : Int) < (q.size : Int) := by omega
    gi_wp2_with fail
    refine ⟨trivial, rfl, (awake_in J _).mono ?_⟩
    rintro e9 w9 ⟨rfl, c9⟩
    gi_wp2
    go_ret
    exact ⟨rfl, Chg.seq c02 c9⟩
  have g2 : ¬ (20 : Int) < (q.size : Int) := by omega
  by_cases h3 : 400 < d.size
  · have g3 : (400 : Int) < (d.size : Int) := by omega
    gi_wp2_with fail
    refine ⟨trivial, rfl, (awake_in J _).mono ?_⟩
    rintro e9 w9 ⟨rfl, c9⟩
    gi_wp2
    go_ret
    exact ⟨rfl, Chg.seq c02 c9⟩
  have g3 : ¬ (400 : Int) < (d.size : Int) := by omega
  by_cases h4 : 400 < e.size
  · have g4 : (400 : Int) < (e.size : Int) := by omega
    gi_wp2_with fail
    refine ⟨trivial, rfl, (awake_in J _).mono ?_⟩
    rintro e9 w9 ⟨rfl, c9⟩
    gi_wp2
    go_ret
    exact ⟨rfl, Chg.seq c02 c9⟩
  have g4 : ¬ (400 : Int) < (e.size : Int) := by omega
  obtain ⟨U1, U2, U3⟩ := under_join (p := p) (q := q) (d := d) (e := e) HP.out HQ.out (by omega) (by omega) (by omega) (by omega)
  have hpq : (slashed p q).size = p.size + 1 + q.size := by
    show (Bs p ++ 47 :: Bs q).toArray.size = _
    rw [List.size_toArray, List.length_append, List.length_cons]
    have e1 : (Bs p).length = p.size := rfl
    have e2 : (Bs q).length = q.size := rfl
    omega
  have f1 : Few [(p, d)] := ⟨by simp, fun f hf => by rw [List.mem_singleton.1 hf]; exact ⟨by show p.size ≤ 1000; omega, by show d.size ≤ 1000; omega⟩⟩
  have f2 : Few [(slashed p q, e)] := ⟨by simp, fun f hf => by rw [List.mem_singleton.1 hf]; exact ⟨by show (slashed p q).size ≤ 1000; omega, by show e.size ≤ 1000; omega⟩⟩
  have z1 : (ByteArray.mk #[47]).size = 1 := rfl
  have y1 : (p ++ ByteArray.mk #[47]).size = p.size + 1 := by rw [ByteArray.size_append, z1]
  have y2 := slashed_eq p q
  have A1 : Chg No w2 (w2.alloc (.cells #[.string p, .string d] 27)) := (Chg.refl _ w2).alloc _
  have hA1 : (w2.alloc (.cells #[.string p, .string d] 27)).heap.size = w2.heap.size + 1 := World.size_alloc _ _
  have sa : SlF ((w2.alloc (.cells #[.string p, .string d] 27)).alloc (.cells #[.string (slashed p q), .string e] 27)) (.slice (some ⟨w2.heap.size, 0, none⟩) 1 1) [(p, d)] := (SlF.one w2 (p, d)).no ((Chg.refl _ _).alloc _)
  have sb := SlF.one (w2.alloc (.cells #[.string p, .string d] 27)) (slashed p q, e)
  rw [hA1] at sb
  have cA : Chg No w ((w2.alloc (.cells #[.string p, .string d] 27)).alloc (.cells #[.string (slashed p q), .string e] 27)) := (c02.alloc _).alloc _
  have J1 := J.of (.slice none 0 0) _ _ [] [(p, d)] [(slashed p q, e)] _ SlE.nil sa sb Few.nil f1 f2
  have J2 := fun W h1 h2 => J.of (.slice (some ⟨w2.heap.size, 0, none⟩) 1 1) (.slice (some ⟨w2.heap.size, 0, none⟩) 1 1) (.slice (some ⟨w2.heap.size + 1, 0, none⟩) 1 1) [(p, d)] [(p, d)] [(slashed p q, e)] W h1 h1 h2 f1 f1 f2
  have V1 := fun W h1 h2 => J.vir (.slice none 0 0) (.slice (some ⟨w2.heap.size, 0, none⟩) 1 1) (.slice (some ⟨w2.heap.size + 1, 0, none⟩) 1 1) [] [(p, d)] [(slashed p q, e)] W SlE.nil h1 h2 Few.nil f1 f2
  rw [U1] at J1
  rw [U2] at J2
  rw [U3] at V1
  clear U1 U2 U3 f1 f2 HP HQ P1 P2 A1 hA1
  gi_wp2_with fail
  refine ⟨trivial, rfl, J1.mono ?_⟩
  rintro e3 w3 ⟨v3, x3, rfl, r3, t3, c3⟩
  have sa3 := sa.no c3
  have sb3 := sb.no c3
  have cw3 := Chg.seq cA c3
  obtain ⟨q3, j3, rfl⟩ := r3.slice
  clear J1 sa sb cA c3 r3
  gi_wp2_with fail
  refine ⟨trivial, rfl, (J2 _ sa3 sb3).mono ?_⟩
  rintro e4 w4 ⟨v4, x4, rfl, r4, t4, c4⟩
  have t34 := OwnT.no t3 c4
  have cw4 := Chg.seq cw3 c4
  have sa4 := sa3.no c4
  have sb4 := sb3.no c4
  obtain ⟨q4, j4, rfl⟩ := row_slice t4
  have cB : Chg No w4 (w4.alloc (.cells #[.string (slashed p q)] 9)) := (Chg.refl _ w4).alloc _
  have S1 := sameS_in x3 (.slice (some ⟨w4.heap.size, 0, none⟩) 1 1) [slashed p q] [slashed p q] (w4.alloc (.cells #[.string (slashed p q)] 9)) (SlV.no (OwnT.sl t34) cB) (SlT.one w4 (slashed p q))
  rw [decide_eq_true rfl] at S1
  have cwB := Chg.seq cw4 cB
  clear J2 t3 t4 cw3 c4 sa3 sb3 t34 cw4
  gi_wp2_with fail
  refine ⟨trivial, rfl, S1.mono ?_⟩
  rintro e5 w5 ⟨rfl, c5⟩
  have c45 := Chg.seq cB c5
  have S2 := sameF_in v4 (.slice (some ⟨w2.heap.size + 1, 0, none⟩) 1 1) [(slashed p q, e)] [(slashed p q, e)] w5 (r4.no c45).sl (sb4.no c45) (by simp)
  rw [decide_eq_true rfl] at S2
  have cw5 := Chg.seq cwB c5
  gi_wp2_with fail
  refine ⟨trivial, rfl, S2.mono ?_⟩
  rintro e6 w6 ⟨rfl, c6⟩
  have c46 := Chg.seq c45 c6
  gi_wp2_with fail
  refine ⟨trivial, rfl, (V1 _ (sa4.no c46) (sb4.no c46)).mono ?_⟩
  rintro e7 w7 ⟨v7, rfl, r7, c7⟩
  have S3 := sameF_in v7 (.slice (some ⟨w2.heap.size, 0, none⟩) 1 1) [(p, d)] [(p, d)] w7 r7.sl (sa4.no (Chg.seq c46 c7)) (by simp)
  rw [decide_eq_true rfl] at S3
  gi_wp2_with fail
  refine ⟨trivial, rfl, S3.mono ?_⟩
  rintro e8 w8 ⟨rfl, c8⟩
  gi_wp2_with fail
  refine ⟨trivial, rfl, (awake_in J _).mono ?_⟩
  rintro e9 w9 ⟨rfl, c9⟩
  gi_wp2
  go_ret
  exact ⟨rfl, Chg.seq cw5 (Chg.seq c6 (Chg.seq c7 (Chg.seq c8 c9)))⟩

end Go.Proofs.YtndblaemladppabGreatDoor
