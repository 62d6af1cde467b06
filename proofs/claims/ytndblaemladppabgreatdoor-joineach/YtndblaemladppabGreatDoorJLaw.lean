/-
  What join's two calls answer (what is asked of them), and what the statements on join share: what is too much, what every program answers.
-/
import Derived.Test.YtndblaemladppabGreatDoorGPure
import Derived.Test.YtndblaemladppabGreatDoorGFile
import Derived.Test.YtndblaemladppabGreatDoorTxtH
import Derived.Test.YtndblaemladppabGreatDoorFRefR
import Derived.Laws.OwnMore
namespace Go.TreeLib
open Go Go.TextLib
/-- Lists that a walk may go through. -/
def Few (t : List Fl) : Prop := t.length ≤ 50 ∧ ∀ f ∈ t, f.1.size ≤ 1000 ∧ f.2.size ≤ 1000
theorem ofJ_left {o a : List Fl} (ho : IsTree o) (ha : IsTree a) : ofJ o a o = (a, []) := by rw [ofJ_sw, ofJ_right ho ha]
theorem ofJ_len (o a b : List Fl) : (ofJ o a b).1.length ≤ 12 := by
  unfold ofJ
  split
  · split
    · rename_i h
      exact (bad_nil.1 h).2.2
    · exact Nat.zero_le _
  · exact Nat.zero_le _
theorem virJ_len (o a b : List Fl) : (virJ o a b).length ≤ 12 := by
  unfold virJ
  split
  · rw [List.length_take]; omega
  · exact Nat.zero_le _
theorem Few.nil : Few [] := ⟨Nat.zero_le _, fun _ h => by cases h⟩
def xF (c : UInt8) : Fl := (⟨#[120]⟩, ⟨#[c]⟩)
theorem xF_file (c : UInt8) : fileB (xF c) = true := by
  unfold fileB xF
  rw [decide_eq_true (show (⟨#[c]⟩ : ByteArray).size ≤ 400 from by show 1 ≤ 400; decide)]
  show (pathB [120] && true) = true
  decide
theorem xF_few (c : UInt8) : Few [xF c] := ⟨by simp, fun f hf => by rw [List.mem_singleton.1 hf]; exact ⟨by show 1 ≤ 1000; decide, by show 1 ≤ 1000; decide⟩⟩
theorem xF_tree (c : UInt8) : IsTree [xF c] := IsTree.one (xF_file c)
theorem x_res : res [xF 49] [xF 50] [] (xF 49).1 = ((true, (xF 49).2), true) := by
  unfold res
  rw [atP_one, atP_one, if_pos rfl, if_pos (show (xF 50).1 = (xF 49).1 from rfl), atP_nil]
  unfold one3
  rw [if_neg (by simp), if_neg (by simp [xF]), if_neg (by simp)]
  unfold mid
  rw [if_neg (by simp)]
theorem x_all : all3 [xF 49] [xF 50] [] = [(xF 49).1] := upT_unique (all3_up _ _ _) (List.pairwise_singleton _ _) (fun z => by
  rw [mem_all3]
  simp [xF, eq_comm])
theorem x_clash : ofJ [xF 49] [xF 50] [] = ([], [(xF 49).1]) := by
  have hm : may3 [xF 49] [xF 50] [] = true := may3_iff.2 ⟨xF_tree _, xF_tree _, IsTree.nil⟩
  have hc : came3 [xF 49] [xF 50] [] = [] := by
    unfold came3 cameL
    rw [x_all, List.filterMap_cons]
    unfold cameG
    rw [x_res, if_neg (fun e => by cases e.1)]
    rfl
  have hb : bad3 [xF 49] [xF 50] [] = [(xF 49).1] := by
    unfold bad3 clashL
    rw [hc, x_all, List.filter_cons_of_pos (by rw [x_res])]
    rfl
  unfold ofJ
  rw [if_pos hm, hb, if_neg (by simp)]
  rfl
theorem x_vir : virJ [xF 49] [xF 50] [] = [xF 49] := by
  have hm : may3 [xF 49] [xF 50] [] = true := may3_iff.2 ⟨xF_tree _, xF_tree _, IsTree.nil⟩
  have ho : out3 [xF 49] [xF 50] [] = [xF 49] := by
    unfold out3 outL
    rw [x_all, List.filterMap_cons, x_res]
    rfl
  unfold virJ
  rw [if_pos hm, ho, List.filter_eq_self.2 (fun f hf => by rw [tree_flat (xF_tree 49) f hf]; rfl)]
  rfl
end Go.TreeLib
namespace Go.Proofs.YtndblaemladppabGreatDoor
open Go.RowKit Go.Shelf Go.SeqLib Go.DiffLib Go.TreeLib Go.TextLib Go.BigFrame
attribute [local go_sem] Oper.semAt_some

def greatJ (o a b : List Fl) : Bool := greatF o 14 || (greatF a 14 || greatF b 14)
theorem greatJ_few {o a b : List Fl} (h : greatJ o a b = false) : (o.length ≤ 14 ∧ Few o) ∧ (a.length ≤ 14 ∧ Few a) ∧ (b.length ≤ 14 ∧ Few b) := by
  unfold greatJ at h
  rw [Bool.or_eq_false_iff, Bool.or_eq_false_iff] at h
  have one : ∀ {t : List Fl}, greatF t 14 = false → t.length ≤ 14 ∧ Few t := fun {t} ht => by
    obtain ⟨h1, h2⟩ := greatF_false ht
    exact ⟨h1, by omega, fun f hf => by have := h2 f hf; omega⟩
  exact ⟨one h.1, one h.2.1, one h.2.2⟩

/-- What is asked of join's two calls: they answer what the document says, in rows of their own, and change nothing that lay. -/
structure JoinSpec : Prop where
  of : ∀ (vo va vb : Value) (o a b : List Fl) (w : World), SlF w vo o → SlF w va a → SlF w vb b → Few o → Few a → Few b →
    CallsIn Fence.wide 0 Tryz.prog 11 #[vo, va, vb] w fun e w' => ∃ v1 v2, e = .returned (.tuple #[v1, v2]) ∧ OwnF w' w.heap.size v1 (ofJ o a b).1 ∧ OwnT w' w.heap.size v2 (ofJ o a b).2 ∧ Chg No w w'
  vir : ∀ (vo va vb : Value) (o a b : List Fl) (w : World), SlF w vo o → SlF w va a → SlF w vb b → Few o → Few a → Few b →
    CallsIn Fence.wide 0 Tryz.prog 18 #[vo, va, vb] w fun e w' => ∃ v1, e = .returned v1 ∧ OwnF w' w.heap.size v1 (virJ o a b) ∧ Chg No w w'

set_option maxHeartbeats 1000000 in
theorem great_in (vo va vb : Value) (o a b : List Fl) (w : World) (ho : SlF w vo o) (ha : SlF w va a) (hb : SlF w vb b) :
    CallsIn Fence.wide 0 Tryz.prog 7 #[vo, va, vb] w fun e w' => e = .returned (.bool (greatJ o a b)) ∧ w' = w := by
  have G1 := greatF_in vo o 14 w ho
  have G2 := greatF_in va a 14 w ha
  have G3 := greatF_in vb b 14 w hb
  unfold greatJ
  generalize greatF o 14 = x at G1 ⊢
  generalize greatF a 14 = y at G2 ⊢
  generalize greatF b 14 = z at G3 ⊢
  refine callsIn_of_wp Tryz.func7 rfl trivial ?_
  simp only [Tryz.ntmps7, List.size_toArray, List.length_cons, List.length_nil, Nat.reduceAdd, Nat.reduceSub, Array.replicate_succ, Array.replicate_zero, List.push_toArray, List.append_toArray, List.nil_append, List.cons_append]
  gi_wp2_with fail
  refine ⟨trivial, rfl, G1.mono ?_⟩
  rintro e w1 ⟨rfl, rfl⟩
  cases x with
  | true =>
    gi_wp2_with fail
    refine ⟨trivial, ?_⟩
    rename_i hKK
    apply hKK
    gi_wp2_with fail
    refine ⟨trivial, ?_⟩
    rename_i hKK
    apply hKK
    gi_wp2
    go_ret
    exact ⟨rfl, rfl⟩
  | false =>
  gi_wp2_with fail
  refine ⟨trivial, rfl, G2.mono ?_⟩
  rintro e w2 ⟨rfl, rfl⟩
  cases y with
  | true =>
    gi_wp2_with fail
    refine ⟨trivial, ?_⟩
    rename_i hKK
    apply hKK
    gi_wp2
    go_ret
    exact ⟨rfl, rfl⟩
  | false =>
  gi_wp2_with fail
  refine ⟨trivial, rfl, G3.mono ?_⟩
  rintro e w3 ⟨rfl, rfl⟩
  gi_wp2
  go_ret
  exact ⟨by cases z <;> rfl, rfl⟩

theorem OwnF.one (w : World) (x : Fl) : OwnF (w.alloc (.cells #[.string x.1, .string x.2] 27)) w.heap.size (.slice (some ⟨w.heap.size, 0, none⟩) 1 1) [x] := World.ownsRow_lit w #[.string x.1, .string x.2] 1 (Nat.le_refl _) (by decide) rfl
theorem x_in (c : UInt8) (w : World) : CallsIn Fence.wide 0 Tryz.prog 22 #[.string ⟨#[c]⟩] w fun e w' => ∃ v, e = .returned v ∧ OwnF w' w.heap.size v [xF c] ∧ Chg No w w' := by
  refine callsIn_of_wp Tryz.func22 rfl trivial ?_
  simp only [Tryz.ntmps22, List.size_toArray, List.length_cons, List.length_nil, Nat.reduceAdd, Nat.reduceSub, Array.replicate_succ, Array.replicate_zero, List.push_toArray, List.append_toArray, List.nil_append, List.cons_append]
  gi_wp2
  go_ret
  exact ⟨_, rfl, OwnF.one w (xF c), (Chg.refl _ w).alloc _⟩

set_option maxRecDepth 100000 in
set_option maxHeartbeats 4000000 in
theorem awake_in (J : JoinSpec) (w : World) : CallsIn Fence.wide 0 Tryz.prog 9 #[] w fun e w' => e = .returned (.bool true) ∧ Chg No w w' := by
  refine callsIn_of_wp Tryz.func9 rfl trivial ?_
  simp only [Tryz.ntmps9, List.size_toArray, List.length_nil, Nat.reduceSub, Array.replicate_succ, Array.replicate_zero, List.push_toArray, List.append_toArray, List.nil_append, List.cons_append]
  gi_wp2_with fail
  refine ⟨trivial, rfl, (x_in 49 _).mono ?_⟩
  rintro e w1 ⟨v1, rfl, r1, c1⟩
  gi_wp2_with fail
  refine ⟨trivial, rfl, (x_in 50 _).mono ?_⟩
  rintro e w2 ⟨v2, rfl, r2, c2⟩
  have J1 := J.of v1 v2 (.slice none 0 0) [xF 49] [xF 50] [] w2 (r1.no c2).sl r2.sl SlE.nil (xF_few _) (xF_few _) Few.nil
  rw [x_clash] at J1
  gi_wp2_with fail
  refine ⟨trivial, rfl, J1.mono ?_⟩
  rintro e w3 ⟨v3, v4, rfl, r3, r4, c3⟩
  have c03 := Chg.seq (Chg.seq c1 c2) c3
  clear J1 r1 r2 r3 c1 c2 c3
  gi_wp2_with fail
  refine ⟨trivial, rfl, (x_in 49 _).mono ?_⟩
  rintro e w5 ⟨v5, rfl, r5, c5⟩
  gi_wp2_with fail
  refine ⟨trivial, rfl, (x_in 50 _).mono ?_⟩
  rintro e w6 ⟨v6, rfl, r6, c6⟩
  gi_wp2_with fail
  refine ⟨trivial, rfl, (x_in 49 _).mono ?_⟩
  rintro e w7 ⟨v7, rfl, r7, c7⟩
  have c67 := Chg.seq c6 c7
  have J2 := J.of v5 v6 v7 [xF 49] [xF 50] [xF 49] w7 (r5.no c67).sl (r6.no c7).sl r7.sl (xF_few _) (xF_few _) (xF_few _)
  rw [ofJ_left (xF_tree _) (xF_tree _)] at J2
  gi_wp2_with fail
  refine ⟨trivial, rfl, J2.mono ?_⟩
  rintro e w8 ⟨v8, v9, rfl, r8, r9, c8⟩
  have c38 := Chg.seq c5 (Chg.seq c67 c8)
  have s4 : SlV (w8.alloc (.cells #[.string (xF 49).1] 9)) v4 ([(xF 49).1].map Value.string) := SlV.no (SlV.no (OwnT.sl r4) c38) ((Chg.refl _ w8).alloc _)
  have s10 := SlT.one w8 (xF 49).1
  have S1 := sameS_in v4 (.slice (some ⟨w8.heap.size, 0, none⟩) 1 1) [(xF 49).1] [(xF 49).1] _ s4 s10
  rw [decide_eq_true rfl] at S1
  have c08 := Chg.seq c03 c38
  have r8a := r8.no ((Chg.refl _ w8).alloc (.cells #[.string (xF 49).1] 9))
  have c8a := c08.alloc (.cells #[.string (xF 49).1] 9)
  obtain ⟨p9, k9, rfl⟩ := row_slice r9
  clear J2 r4 r5 r6 r7 c5 c6 c7 c67 c38 c8 c03 s4 s10
  gi_wp2_with fail
  refine ⟨trivial, rfl, S1.mono ?_⟩
  rintro e w10 ⟨rfl, c10⟩
  have c0a := Chg.seq c8a c10
  gi_wp2_with fail
  refine ⟨trivial, rfl, (x_in 50 _).mono ?_⟩
  rintro e w11 ⟨v11, rfl, r11, c11⟩
  have S2 := sameF_in v8 v11 [xF 50] [xF 50] w11 (r8a.no (Chg.seq c10 c11)).sl r11.sl (by simp)
  rw [decide_eq_true rfl] at S2
  have c0b := Chg.seq c0a c11
  clear S1 c10 c11 r8a r8 r11 c8a c0a
  gi_wp2_with fail
  refine ⟨trivial, rfl, S2.mono ?_⟩
  rintro e w12 ⟨rfl, c12⟩
  have c0c := Chg.seq c0b c12
  clear S2 c12 c0b
  gi_wp2_with fail
  refine ⟨trivial, rfl, (x_in 49 _).mono ?_⟩
  rintro e w13 ⟨v13, rfl, r13, c13⟩
  gi_wp2_with fail
  refine ⟨trivial, rfl, (x_in 50 _).mono ?_⟩
  rintro e w14 ⟨v14, rfl, r14, c14⟩
  have J3 := J.vir v13 v14 (.slice none 0 0) [xF 49] [xF 50] [] w14 (r13.no c14).sl r14.sl SlE.nil (xF_few _) (xF_few _) Few.nil
  rw [x_vir] at J3
  gi_wp2_with fail
  refine ⟨trivial, rfl, J3.mono ?_⟩
  rintro e w15 ⟨v15, rfl, r15, c15⟩
  gi_wp2_with fail
  refine ⟨trivial, rfl, (x_in 49 _).mono ?_⟩
  rintro e w16 ⟨v16, rfl, r16, c16⟩
  have S3 := sameF_in v15 v16 [xF 49] [xF 49] w16 (r15.no c16).sl r16.sl (by simp)
  rw [decide_eq_true rfl] at S3
  gi_wp2_with fail
  refine ⟨trivial, rfl, S3.mono ?_⟩
  rintro e w17 ⟨rfl, c17⟩
  gi_wp2
  go_ret
  exact ⟨rfl, Chg.seq c0c (Chg.seq (Chg.seq c13 c14) (Chg.seq c15 (Chg.seq c16 c17)))⟩

end Go.Proofs.YtndblaemladppabGreatDoor
