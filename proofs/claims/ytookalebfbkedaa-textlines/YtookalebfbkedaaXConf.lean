/-
  text's own Conflicts.
-/
import Derived.Test.YtookalebfbkedaaXMerge
namespace Go.Proofs.Ytookalebfbkedaa
open Go.RowKit Go.Shelf Go.SeqLib Go.LineLib Go.DiffLib Go.TextLib Go.BigFrame
attribute [local go_sem] Oper.semAt_some

theorem cnt_cons (p : Prt ByteArray) (r : List (Prt ByteArray)) : cnt (p :: r) = cnt r + if p.c = true then 1 else 0 := by
  unfold cnt
  rw [List.countP_cons]

set_option maxRecDepth 100000 in
set_option maxHeartbeats 4000000 in
theorem tconf_in (o a b : ByteArray) (ho : o.size ≤ 100000) (ha : a.size ≤ 100000) (hb : b.size ≤ 100000) (w : World) :
    CallsIn Fence.wide 0 Try.prog 10 #[.string o, .string a, .string b] w fun e w' => e = .returned (.int .i64 (tc o a b : Int)) ∧ Chg No w w' := by
  have htm := tmerge_in o a b ho ha hb w
  have hso := split_in o (by omega)
  have hsa := split_in a (by omega)
  have hsb := split_in b (by omega)
  have hby := fun W v (hv : SlV W v ([o, a, b].map Value.string)) => byLines_in v [o, a, b] W hv (by simp) (fun x hx => by
    rcases List.mem_cons.1 hx with e | hx
    · rw [e]; exact ho
    rcases List.mem_cons.1 hx with e | hx
    · rw [e]; exact ha
    rcases List.mem_cons.1 hx with e | hx
    · rw [e]; exact hb
    · cases hx)
  rw [lined_all] at hby
  obtain ⟨r, HR⟩ : ∃ r, Hid (tc o a b = r) := ⟨_, rfl⟩
  rw [HR.out]
  unfold tc at HR
  obtain ⟨bl, HB⟩ : ∃ q, Hid (lined o a b = q) := ⟨_, rfl⟩
  rw [HB.out] at hby HR
  generalize (tm o a b).isSome = bs at *
  generalize txt (tm o a b) = ts at *
  refine callsIn_of_wp Try.func10 rfl trivial ?_
  simp only [Try.ntmps10, List.size_toArray, List.length_cons, List.length_nil, Nat.reduceAdd, Nat.reduceSub, Array.replicate_succ, Array.replicate_zero, List.push_toArray, List.append_toArray, List.nil_append, List.cons_append]
  gi_wp2_with fail
  refine ⟨trivial, rfl, htm.mono ?_⟩
  rintro e w1 ⟨rfl, c1⟩
  clear htm
  cases bs with
  | true =>
    obtain rfl : r = 0 := HR.out.symm
    clear hby
    gi_wp2
    go_ret
    exact ⟨rfl, c1⟩
  | false =>
  gi_wp2_with fail
  refine ⟨trivial, rfl, (hby _ _ (SlV.made w1 [.string o, .string a, .string b] 9 (by simp))).mono ?_⟩
  rintro e w2 ⟨rfl, k2⟩
  have c2 : Chg No w w2 := Chg.seq c1 (Chg.seq ((Chg.refl _ w1).alloc _) k2)
  clear k2 hby c1
  cases bl with
  | false =>
    obtain rfl : r = 1 := HR.out.symm
    gi_wp2
    go_ret
    exact ⟨rfl, c2⟩
  | true =>
  obtain ⟨f1, f2, f3⟩ := lined_few HB.out
  have HM : Hid (max (cnt (parts (linesB o) (linesB a) (linesB b))) 1 = r) := HR.out
  clear HR HB
  gi_wp2_with fail
  refine ⟨trivial, rfl, (hso _).mono ?_⟩
  rintro e w3 ⟨v2, rfl, r2, k2⟩
  gi_wp2_with fail
  refine ⟨trivial, rfl, (hsa _).mono ?_⟩
  rintro e w4 ⟨v3, rfl, r3, k3⟩
  gi_wp2_with fail
  refine ⟨trivial, rfl, (hsb _).mono ?_⟩
  rintro e w5 ⟨v4, rfl, r4, k4⟩
  have s2 : SlV w5 v2 ((linesB o).map Value.string) := ((SlV.ofRow (by simpa using r2)).no k3).no k4
  have s3 : SlV w5 v3 ((linesB a).map Value.string) := (SlV.ofRow (by simpa using r3)).no k4
  have s4 : SlV w5 v4 ((linesB b).map Value.string) := SlV.ofRow (by simpa using r4)
  have c4 := Chg.seq c2 (Chg.seq k2 (Chg.seq k3 k4))
  clear r2 r3 r4 k2 k3 k4 c2 hso hsa hsb
  have hP := parts_in v2 v3 v4 _ _ _ w5 s2 s3 s4 (by omega) (by omega) (by omega)
  have hpl := parts_length (linesB o) (linesB a) (linesB b)
  generalize parts (linesB o) (linesB a) (linesB b) = ps at *
  have hpl' : ps.length ≤ 801 := by omega
  clear s2 s3 s4 hpl
  gi_wp2_with fail
  refine ⟨trivial, rfl, hP.mono ?_⟩
  rintro e wP ⟨vP, rfl, ⟨rs, PA⟩, cP⟩
  clear hP
  have cP2 := Chg.seq c4 cP
  have sR : SlR wP vP rs := SlE.ofRow eR_len PA.row
  obtain ⟨pP, ccP, rfl⟩ := row_slice PA.row
  have hrl := PA.len
  obtain ⟨np, HNP⟩ : ∃ n, Hid (rs.length = n) := ⟨_, rfl⟩
  have HNS : Hid (ps.length = np) := by show _ = _; rw [← hrl, HNP.out]
  rw [HNP.out] at sR ⊢
  rw [HNS.out] at hpl'
  clear hrl c4 cP
  gi_wp2
  gi_loopw [9, 34] (fun v9 i wr => ∃ k m : Nat, k ≤ np ∧ i = .int .i64 (k : Int) ∧ v9 = .int .i64 (m : Int) ∧ m ≤ k ∧ Hid (m + cnt (ps.drop k) = cnt ps) ∧ Chg No wP wr) (fun v9 i _ => np - (intOf i).toNat)
  case atStart => exact ⟨0, 0, Nat.zero_le _, rfl, rfl, Nat.zero_le _, by show _ = _; rw [List.drop_zero, Nat.zero_add], Chg.refl _ _⟩
  case round =>
    obtain ⟨k, m, hk, rfl, rfl, hmk, HT, cw⟩ := hrel
    by_cases hlt : k < np
    · have hlt' : (k : Int) < (np : Int) := by omega
      have hkr : k < rs.length := by rw [HNP.out]; exact hlt
      obtain ⟨x, hx⟩ : ∃ x, rs[k]? = some x := ⟨_, List.getElem?_eq_getElem hkr⟩
      obtain ⟨pp, hpp, hxc, o3⟩ := PA.at hx
      have hkp : k < ps.length := by rw [HNS.out]; exact hlt
      have HTk : Hid (ps.drop k = pp :: ps.drop (k + 1)) := by
        rw [List.drop_eq_getElem_cons hkp]
        rw [List.getElem?_eq_getElem hkp] at hpp
        rw [Option.some.inj hpp]
        exact rfl
      obtain ⟨b1, o1, rfl, x1, x2, x3, x4⟩ := SlR.at (show SlR wr _ _ from SlE.no eR_len (by decide) sR cw) k x hx
      obtain ⟨xc, xo, xa, xb⟩ := x
      simp only at hxc o3 x1 x2 x3 x4
      have HXC : Hid (xc = pp.c) := hxc
      obtain ⟨y1, y2, y3⟩ := o3.reads
      obtain ⟨q1, d1, rfl, _⟩ := y1
      obtain ⟨q2, d2, rfl, _⟩ := y2
      obtain ⟨q3, d3, rfl, _⟩ := y3
      clear hx hpp hkr hkp o3 hxc
      generalize (pp.o.map Value.string).length = n1 at *
      generalize (pp.a.map Value.string).length = n2 at *
      generalize (pp.b.map Value.string).length = n3 at *
      have cb : Chg No wr (wr.alloc (.cells #[.bool xc, .slice q1 n1 d1, .slice q2 n2 d2, .slice q3 n3 d3] 42)) := (Chg.refl _ wr).alloc _
      have bx : Box4 (wr.alloc (.cells #[.bool xc, .slice q1 n1 d1, .slice q2 n2 d2, .slice q3 n3 d3] 42)) wr.heap.size (.bool xc) _ _ _ := World.alloc_heap_new wr _
      obtain ⟨a0, a1, a2, a3⟩ := bx.cells
      have cb2 := Chg.seq cw cb
      have HT2 : Hid (m + (cnt (ps.drop (k + 1)) + if xc = true then 1 else 0) = cnt ps) := by
        have := HT.out
        rw [HTk.out, cnt_cons, ← HXC.out] at this
        exact this
      clear HT HTk HXC
      cases xc with
      | true =>
        have HT3 : Hid ((m + 1) + cnt (ps.drop (k + 1)) = cnt ps) := by
          have := HT2.out
          rw [if_pos rfl] at this
          show _ = _
          omega
        clear HT2
        gi_wp2
        go_roundw
        case rel => exact ⟨k + 1, m + 1, hlt, by go_num, by go_num, by omega, HT3, cb2⟩
        case measure => simp [intOf]; omega
      | false =>
        have HT3 : Hid (m + cnt (ps.drop (k + 1)) = cnt ps) := HT2.out
        clear HT2
        gi_wp2
        go_roundw
        case rel => exact ⟨k + 1, m, hlt, by go_num, rfl, by omega, HT3, cb2⟩
        case measure => simp [intOf]; omega
    · obtain rfl : k = np := by omega
      have hlt' : ¬ (k : Int) < (k : Int) := by omega
      have HC : Hid (max m 1 = r) := by
        have := HT.out
        rw [List.drop_eq_nil_of_le (by rw [HNS.out]; exact Nat.le_refl _)] at this
        rw [← HM.out, ← this]
        rfl
      clear HT HM
      gi_wp2
      go_ret
      have hx : max (m : Int) 1 = (r : Int) := by have := HC.out; omega
      refine ⟨?_, Chg.seq cP2 cw⟩
      show Ending.returned (.int .i64 (max (m : Int) 1)) = _
      rw [hx]

end Go.Proofs.Ytookalebfbkedaa
