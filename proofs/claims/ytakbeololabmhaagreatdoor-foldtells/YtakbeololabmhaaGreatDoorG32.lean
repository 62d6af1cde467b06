/-
  Of: RMrg, XRef, JOne, FRefS, JRef, JRefB.
-/
import Derived.Test.YtakbeololabmhaaGreatDoorRParts
import Derived.Test.YtakbeololabmhaaGreatDoorG25
import Derived.Test.YtakbeololabmhaaGreatDoorG30
import Derived.Test.YtakbeololabmhaaGreatDoorG11
import Derived.Test.YtakbeololabmhaaGreatDoorG04
import Derived.Test.YtakbeololabmhaaGreatDoorG26
import Derived.Test.YtakbeololabmhaaGreatDoorG27
import Derived.Test.YtakbeololabmhaaGreatDoorG07
section
-- RMrg
namespace Go.Proofs.YtakbeololabmhaaGreatDoor
open Go.RowKit Go.Shelf Go.SeqLib Go.DiffLib Go.BigFrame
attribute [local go_sem] Oper.semAt_some

theorem boxR {W W' : World} {B : Nat} {c x y z : Value} (h : W.heap[B]? = some (.cells #[c, x, y, z] 171)) (k : Chg No W W') : W'.heap[B]? = some (.cells #[c, x, y, z] 171) ∧ W'.cell? ⟨B, 0, none⟩ = some c ∧ W'.cell? ⟨B, 1, none⟩ = some x ∧ W'.cell? ⟨B, 2, none⟩ = some y ∧ W'.cell? ⟨B, 3, none⟩ = some z := by
  have h1 := k.same h (fun h => h)
  refine ⟨h1, ?_⟩
  simp [World.cell?, h1]

set_option maxRecDepth 100000 in
set_option maxHeartbeats 8000000 in
theorem refMerge_in (vo va vb : Value) (o a b : List ByteArray) (w : World) (hv : SlV w vo (o.map Value.string)) (hu : SlV w va (a.map Value.string)) (ht : SlV w vb (b.map Value.string)) (ho : o.length ≤ 400) (ha : a.length ≤ 400) (hb : b.length ≤ 400) :
    CallsIn Fence.wide 0 Tryz.prog 116 #[vo, va, vb] w fun e w' => appRes w (mrg o a b) e w' ∧ Chg No w w' := by
  have hP := refParts_in vo va vb o a b w hv hu ht ho ha hb
  have hpl := parts_length o a b
  have hlens := parts_lens o a b
  obtain ⟨p, cp, rfl, _⟩ := id hv
  obtain ⟨q, cq, rfl, _⟩ := id hu
  obtain ⟨r, cr, rfl, _⟩ := id ht
  have b1 : ¬ (400 : Int) < ((o.map Value.string).length : Int) := by rw [List.length_map]; omega
  have b2 : ¬ (400 : Int) < ((a.map Value.string).length : Int) := by rw [List.length_map]; omega
  have b3 : ¬ (400 : Int) < ((b.map Value.string).length : Int) := by rw [List.length_map]; omega
  clear hv hu ht
  generalize (o.map Value.string).length = lo at *
  generalize (a.map Value.string).length = la at *
  generalize (b.map Value.string).length = lb at *
  have HLn : Hid (∀ p ∈ parts o a b, p.o.length ≤ 400 ∧ p.a.length ≤ 400 ∧ p.b.length ≤ 400) := fun p hp => by have := hlens p hp; omega
  unfold mrg
  generalize parts o a b = ps at *
  have hpl' : ps.length ≤ 801 := by omega
  clear hlens hpl ho ha hb
  obtain ⟨tot, HTot⟩ : ∃ t, Hid (gather ps = t) := ⟨_, rfl⟩
  rw [HTot.out]
  refine callsIn_of_wp Tryz.func116 rfl trivial ?_
  simp only [Tryz.ntmps116, List.size_toArray, List.length_cons, List.length_nil, Nat.reduceAdd, Nat.reduceSub, Array.replicate_succ, Array.replicate_zero, List.push_toArray, List.append_toArray, List.nil_append, List.cons_append]
  gi_wp2_with fail
  refine ⟨trivial, rfl, hP.mono ?_⟩
  rintro e wP ⟨vP, rfl, ⟨rs, PA⟩, cP⟩
  clear hP
  have sR : SlR wP vP rs := SlE.ofRow eR_len PA.row
  obtain ⟨pP, ccP, rfl⟩ := row_slice PA.row
  have hrl := PA.len
  obtain ⟨np, HNP⟩ : ∃ n, Hid (rs.length = n) := ⟨_, rfl⟩
  have HNS : Hid (ps.length = np) := by show _ = _; rw [← hrl, HNP.out]
  rw [HNP.out] at sR ⊢
  rw [HNS.out] at hpl'
  clear hrl
  gi_wp2
  gi_loopw [9, 10] (fun v8 i wr => ∃ (k : Nat) (acc : List ByteArray), k ≤ np ∧ i = .int .i64 (k : Int) ∧ acc.length ≤ k * 400 ∧ wr.ownsRow wP.heap.size 9 1 v8 acc.length (acc.map Value.string) ∧ Hid ((gather (ps.drop k)).map (fun t => acc ++ t) = tot) ∧ Chg No wP wr) (fun v8 i _ => np - (intOf i).toNat)
  case atStart => exact ⟨0, [], Nat.zero_le _, rfl, by simp, World.ownsRow_nil _ _ _ _, by show _ = _; rw [← HTot.out, List.drop_zero]; cases gather ps <;> rfl, Chg.refl _ _⟩
  case round =>
    obtain ⟨k, acc, hk, rfl, hacc, hr, HT, cw⟩ := hrel
    obtain ⟨p8, c8, rfl⟩ := row_slice hr
    by_cases hlt : k < np
    · have hlt' : (k : Int) < (np : Int) := by omega
      have hkr : k < rs.length := by rw [HNP.out]; exact hlt
      obtain ⟨x, hx⟩ : ∃ x, rs[k]? = some x := ⟨_, List.getElem?_eq_getElem hkr⟩
      obtain ⟨pp, hpp, hxc, o3⟩ := PA.at hx
      have hkp : k < ps.length := by rw [HNS.out]; exact hlt
      have HTk : Hid (ps.drop k = pp :: ps.drop (k + 1)) := by
        rw [List.drop_eq_getElem_cons hkp]
        rw [List.getElem?_eq_getElem hkp] at hpp
        rw [Option.some.inj hpp]
        exact rfl
      have hln := HLn.out pp (List.mem_of_getElem? hpp)
      obtain ⟨b1, o1, rfl, x1, x2, x3, x4⟩ := SlR.at (show SlR wr _ _ from SlE.no eR_len (by decide) sR cw) k x hx
      obtain ⟨xc, xo, xa, xb⟩ := x
      simp only at hxc o3 x1 x2 x3 x4
      have HXC : Hid (xc = pp.c) := hxc
      obtain ⟨⟨v1, v2, v3⟩, _⟩ := o3.chg cw (fun _ _ h => h)
      obtain ⟨q1, d1, rfl, _⟩ := id v1
      obtain ⟨q2, d2, rfl, _⟩ := id v2
      obtain ⟨q3, d3, rfl, _⟩ := id v3
      rw [List.length_map] at v1 v2 v3 x2 x3 x4
      clear hx hpp hkr hkp o3 hxc
      obtain ⟨n1, HN1⟩ : ∃ n, Hid (pp.o.length = n) := ⟨_, rfl⟩
      obtain ⟨n2, HN2⟩ : ∃ n, Hid (pp.a.length = n) := ⟨_, rfl⟩
      obtain ⟨n3, HN3⟩ : ∃ n, Hid (pp.b.length = n) := ⟨_, rfl⟩
      rw [HN1.out] at v1 x2 hln
      rw [HN2.out] at v2 x3 hln
      rw [HN3.out] at v3 x4 hln
      have cb : Chg No wr (wr.alloc (.cells #[.bool xc, .slice q1 n1 d1, .slice q2 n2 d2, .slice q3 n3 d3] 171)) := (Chg.refl _ wr).alloc _
      have bx : (wr.alloc (.cells #[.bool xc, .slice q1 n1 d1, .slice q2 n2 d2, .slice q3 n3 d3] 171)).heap[wr.heap.size]? = some (.cells #[.bool xc, .slice q1 n1 d1, .slice q2 n2 d2, .slice q3 n3 d3] 171) := World.alloc_heap_new wr _
      have hr1 := hr.alloc (.cells #[.bool xc, .slice q1 n1 d1, .slice q2 n2 d2, .slice q3 n3 d3] 171)
      have w1' := v1.no cb
      have w2' := v2.no cb
      have w3' := v3.no cb
      obtain ⟨_, a0, a1, a2, a3⟩ := boxR bx (Chg.refl No _)
      clear v1 v2 v3
      have hka : k * 400 ≤ 801 * 400 := Nat.mul_le_mul_right _ (by omega)
      cases xc with
      | true =>
        obtain rfl : tot = none := by
          have := HT.out
          rw [HTk.out, gather_cons, if_pos HXC.out.symm] at this
          exact this.symm
        gi_wp2
        go_ret2
        exact ⟨rfl, Chg.seq (Chg.seq cP cw) cb⟩
      | false =>
        have HT2 : Hid ((gather (ps.drop (k + 1))).map (fun t => (acc ++ pick pp) ++ t) = tot) := by
          have := HT.out
          rw [HTk.out, gather_cons, if_neg (by rw [← HXC.out]; simp), Option.map_map] at this
          rw [← this]
          show _ = _
          congr 1
          funext t
          simp
        have cb2 := Chg.seq cw cb
        gi_wp2_with fail
        generalize wr.alloc (.cells #[.bool false, .slice q1 n1 d1, .slice q2 n2 d2, .slice q3 n3 d3] 171) = W1 at *
        refine ⟨trivial, rfl, (refSame_in _ _ pp.a pp.b W1 w2' w3').mono ?_⟩
        rintro e W2 ⟨rfl, k2⟩
        obtain ⟨bx2, e0, e1, e2, e3⟩ := boxR bx k2
        have hr2 := own_still hr1 k2 (fun _ _ h => h)
        have u1' := w1'.no k2
        have u2' := w2'.no k2
        have u3' := w3'.no k2
        have cb3 := Chg.seq cb2 k2
        have hbs := cb3.size
        clear a0 a1 a2 a3 w1' w2' w3' bx hr1 hr cb
        by_cases h1 : pp.a = pp.b
        · have HP : Hid (pick pp = pp.a) := if_pos (.inl h1)
          rw [decide_eq_true h1]
          clear h1
          gi_wp2_with fail
          refine ⟨trivial, ?_⟩
          rename_i hKK
          apply hKK
          gi_wp2_with (gi_at_builtin; refine wpListIn_append_sv _ rfl _ _ rfl wP.heap.size _ acc.length _ rfl hr2 q2 n2 d2 pp.a rfl u2' (by omega) hbs ?_; intro v5 W5 hown5 hgrow5 hat5)
          have c5 : Chg No wP W5 := cb3.grown hgrow5 (fun k e => .inr (hr2.lt k e).1)
          have hlen : (acc ++ pick pp).length = acc.length + n2 := by rw [HP.out, List.length_append, HN2.out]
          go_roundw
          case rel => exact ⟨k + 1, acc ++ pick pp, hlt, by go_num, by rw [hlen, Nat.succ_mul]; omega, by rw [hlen, HP.out, List.map_append]; exact hown5, HT2, c5⟩
          case measure => simp [intOf]; omega
        · rw [decide_eq_false h1]
          gi_wp2_with fail
          refine ⟨trivial, rfl, (refSame_in _ _ pp.b pp.o W2 u3' u1').mono ?_⟩
          rintro e W3 ⟨rfl, k3⟩
          obtain ⟨bx3, f0, f1, f2, f3⟩ := boxR bx2 k3
          have hr3 := own_still hr2 k3 (fun _ _ h => h)
          have y2' := u2'.no k3
          have y3' := u3'.no k3
          have cb4 := Chg.seq cb3 k3
          have hbs4 := cb4.size
          clear e0 e1 e2 e3 u1' u2' u3' bx2 hr2
          by_cases h2 : pp.b = pp.o
          · have HP : Hid (pick pp = pp.a) := if_pos (.inr h2)
            rw [decide_eq_true h2]
            clear h1 h2
            gi_wp2_with (gi_at_builtin; refine wpListIn_append_sv _ rfl _ _ rfl wP.heap.size _ acc.length _ rfl hr3 q2 n2 d2 pp.a rfl y2' (by omega) hbs4 ?_; intro v5 W5 hown5 hgrow5 hat5)
            have c5 : Chg No wP W5 := cb4.grown hgrow5 (fun k e => .inr (hr3.lt k e).1)
            have hlen : (acc ++ pick pp).length = acc.length + n2 := by rw [HP.out, List.length_append, HN2.out]
            go_roundw
            case rel => exact ⟨k + 1, acc ++ pick pp, hlt, by go_num, by rw [hlen, Nat.succ_mul]; omega, by rw [hlen, HP.out, List.map_append]; exact hown5, HT2, c5⟩
            case measure => simp [intOf]; omega
          · have HP : Hid (pick pp = pp.b) := if_neg (by rintro (h | h); exact h1 h; exact h2 h)
            rw [decide_eq_false h2]
            clear h1 h2
            gi_wp2_with (gi_at_builtin; refine wpListIn_append_sv _ rfl _ _ rfl wP.heap.size _ acc.length _ rfl hr3 q3 n3 d3 pp.b rfl y3' (by omega) hbs4 ?_; intro v5 W5 hown5 hgrow5 hat5)
            have c5 : Chg No wP W5 := cb4.grown hgrow5 (fun k e => .inr (hr3.lt k e).1)
            have hlen : (acc ++ pick pp).length = acc.length + n3 := by rw [HP.out, List.length_append, HN3.out]
            go_roundw
            case rel => exact ⟨k + 1, acc ++ pick pp, hlt, by go_num, by rw [hlen, Nat.succ_mul]; omega, by rw [hlen, HP.out, List.map_append]; exact hown5, HT2, c5⟩
            case measure => simp [intOf]; omega
    · obtain rfl : k = np := by omega
      have hlt' : ¬ (k : Int) < (k : Int) := by omega
      obtain rfl : tot = some acc := by
        have := HT.out
        rw [List.drop_eq_nil_of_le (by rw [HNS.out]; exact Nat.le_refl _)] at this
        rw [← this]
        simp [gather]
      gi_wp2
      go_ret2
      exact ⟨⟨_, rfl, rowBase hr cP.size⟩, Chg.seq cP cw⟩

end Go.Proofs.YtakbeololabmhaaGreatDoor

end
section
-- XRef
namespace Go.Proofs.YtakbeololabmhaaGreatDoor
open Go.RowKit Go.Shelf Go.SeqLib Go.LineLib Go.DiffLib Go.TextLib Go.BigFrame
attribute [local go_sem] Oper.semAt_some

set_option maxRecDepth 100000 in
set_option maxHeartbeats 1000000 in
theorem refOdd_in (s : ByteArray) (hs : s.size ≤ 100000) (w : World) :
    CallsIn Fence.wide 0 Tryz.prog 115 #[.string s] w fun e w' => e = .returned (.bool (odd s)) ∧ Chg No w w' := by
  have hb := refBinary_in s hs w
  have hf := refFew_in s hs w
  obtain ⟨tt, HD⟩ : ∃ t, Hid (odd s = t) := ⟨_, rfl⟩
  rw [HD.out]
  unfold odd at HD
  generalize decide ((0 : UInt8) ∈ L s) = bz at *
  generalize decide ((linesB s).length ≤ 60) = bf at *
  refine callsIn_of_wp Tryz.func115 rfl trivial ?_
  simp only [Tryz.ntmps115, List.size_toArray, List.length_cons, List.length_nil, Nat.reduceAdd, Nat.reduceSub, Array.replicate_succ, Array.replicate_zero, List.push_toArray, List.append_toArray, List.nil_append, List.cons_append]
  gi_wp2_with fail
  refine ⟨trivial, rfl, hb.mono ?_⟩
  rintro e w1 ⟨rfl, rfl⟩
  clear hb
  cases bz with
  | true =>
    obtain rfl : tt = true := HD.out.symm
    clear hf
    gi_wp2_with fail
    refine ⟨trivial, ?_⟩
    rename_i hKK
    apply hKK
    gi_wp2
    go_ret
    exact ⟨rfl, Chg.refl _ _⟩
  | false =>
    gi_wp2_with fail
    refine ⟨trivial, rfl, hf.mono ?_⟩
    rintro e w2 ⟨rfl, c2⟩
    clear hf
    cases bf with
    | false =>
      obtain rfl : tt = true := HD.out.symm
      gi_wp2
      go_ret
      exact ⟨rfl, c2⟩
    | true =>
      obtain rfl : tt = false := HD.out.symm
      gi_wp2
      go_ret
      exact ⟨rfl, c2⟩

set_option maxRecDepth 100000 in
set_option maxHeartbeats 4000000 in
theorem refTMerge_in (o a b : ByteArray) (ho : o.size ≤ 100000) (ha : a.size ≤ 100000) (hb : b.size ≤ 100000) (w : World) :
    CallsIn Fence.wide 0 Tryz.prog 100 #[.string o, .string a, .string b] w fun e w' => e = .returned (.tuple #[.string (txt (tm o a b)), .bool (tm o a b).isSome]) ∧ Chg No w w' := by
  obtain ⟨r, HR⟩ : ∃ r, Hid (tm o a b = r) := ⟨_, rfl⟩
  rw [HR.out]
  have hso := refSplit_in o ho
  have hsa := refSplit_in a ha
  have hsb := refSplit_in b hb
  have hoo := refOdd_in o ho
  have hoa := refOdd_in a ha
  have hob := refOdd_in b hb
  refine callsIn_of_wp Tryz.func100 rfl trivial ?_
  simp only [Tryz.ntmps100, List.size_toArray, List.length_cons, List.length_nil, Nat.reduceAdd, Nat.reduceSub, Array.replicate_succ, Array.replicate_zero, List.push_toArray, List.append_toArray, List.nil_append, List.cons_append]
  by_cases h1 : a = b
  · have e1 := eqT_true h1
    obtain rfl : r = some a := by rw [← HR.out]; unfold tm; rw [if_pos h1]
    clear h1 HR
    gi_wp2
    go_ret2
    exact ⟨rfl, Chg.refl _ _⟩
  have e1 := eqT_false h1
  by_cases h2 : b = o
  · have e2 := eqT_true h2
    obtain rfl : r = some a := by rw [← HR.out]; unfold tm; rw [if_neg h1, if_pos h2]
    clear h1 h2 HR
    gi_wp2
    go_ret2
    exact ⟨rfl, Chg.refl _ _⟩
  have e2 := eqT_false h2
  by_cases h3 : a = o
  · have e3 := eqT_true h3
    obtain rfl : r = some b := by rw [← HR.out]; unfold tm; rw [if_neg h1, if_neg h2, if_pos h3]
    clear h1 h2 h3 HR
    gi_wp2
    go_ret2
    exact ⟨rfl, Chg.refl _ _⟩
  have e3 := eqT_false h3
  have HR2 : Hid ((if lined o a b = true then byL o a b else none) = r) := by
    rw [← HR.out]; unfold tm; rw [if_neg h1, if_neg h2, if_neg h3]; exact rfl
  clear HR h1 h2 h3
  have HLF : Hid (lined o a b = true → (linesB o).length ≤ 60 ∧ (linesB a).length ≤ 60 ∧ (linesB b).length ≤ 60) := lined_few
  unfold lined at HR2 HLF
  generalize odd o = b1 at *
  generalize odd a = b2 at *
  generalize odd b = b3 at *
  gi_wp2_with fail
  refine ⟨trivial, rfl, (hoo _).mono ?_⟩
  rintro e w1 ⟨rfl, c1⟩
  clear hoo
  cases b1 with
  | true =>
    obtain rfl : r = none := HR2.out.symm
    clear hoa hob HLF
    gi_wp2_with fail
    refine ⟨trivial, ?_⟩
    rename_i hKK
    apply hKK
    gi_wp2_with fail
    refine ⟨trivial, ?_⟩
    rename_i hKK
    apply hKK
    gi_wp2
    go_ret2
    exact ⟨rfl, c1⟩
  | false =>
  gi_wp2_with fail
  refine ⟨trivial, rfl, (hoa _).mono ?_⟩
  rintro e w2 ⟨rfl, k2⟩
  clear hoa
  have c2 := Chg.seq c1 k2
  cases b2 with
  | true =>
    obtain rfl : r = none := HR2.out.symm
    clear hob HLF
    gi_wp2_with fail
    refine ⟨trivial, ?_⟩
    rename_i hKK
    apply hKK
    gi_wp2
    go_ret2
    exact ⟨rfl, c2⟩
  | false =>
  gi_wp2_with fail
  refine ⟨trivial, rfl, (hob _).mono ?_⟩
  rintro e w3 ⟨rfl, k3⟩
  clear hob
  have c0 := Chg.seq c2 k3
  clear c1 c2 k2 k3
  cases b3 with
  | true =>
    obtain rfl : r = none := HR2.out.symm
    clear HLF
    gi_wp2
    go_ret2
    exact ⟨rfl, c0⟩
  | false =>
  obtain ⟨f1, f2, f3⟩ := HLF.out rfl
  have HM : Hid ((mrg (linesB o) (linesB a) (linesB b)).bind fit = r) := HR2.out
  clear HR2 HLF
  gi_wp2_with fail
  refine ⟨trivial, rfl, (hso _).mono ?_⟩
  rintro e w2 ⟨v2, rfl, r2, k2⟩
  gi_wp2_with fail
  refine ⟨trivial, rfl, (hsa _).mono ?_⟩
  rintro e w4 ⟨v3, rfl, r3, k3⟩
  gi_wp2_with fail
  refine ⟨trivial, rfl, (hsb _).mono ?_⟩
  rintro e w5 ⟨v4, rfl, r4, k4⟩
  have s2 : SlV w5 v2 ((linesB o).map Value.string) := ((SlV.ofRow (by simpa using r2)).no k3).no k4
  have s3 : SlV w5 v3 ((linesB a).map Value.string) := (SlV.ofRow (by simpa using r3)).no k4
  have s4 : SlV w5 v4 ((linesB b).map Value.string) := SlV.ofRow (by simpa using r4)
  have c4 := Chg.seq c0 (Chg.seq k2 (Chg.seq k3 k4))
  clear r2 r3 r4 k2 k3 k4 c0 hso hsa hsb
  gi_wp2_with fail
  refine ⟨trivial, rfl, (refMerge_in v2 v3 v4 _ _ _ _ s2 s3 s4 (by omega) (by omega) (by omega)).mono ?_⟩
  rintro e w6 ⟨hres, k5⟩
  have c5 := Chg.seq c4 k5
  clear s2 s3 s4 c4 k5
  unfold appRes at hres
  cases hm : mrg (linesB o) (linesB a) (linesB b) with
  | none =>
    rw [hm] at hres HM
    obtain rfl : r = none := HM.out.symm
    clear hm
    subst hres
    have hj := refJoin_in (.slice none 0 0) [] w6 ⟨none, 0, rfl, Nat.le_refl _, Nat.zero_le _, by simp⟩ (by decide) (by decide)
    generalize catB [] = t at *
    gi_wp2_with fail
    refine ⟨trivial, rfl, hj.mono ?_⟩
    rintro e w7 ⟨rfl, k6⟩
    have c6 := Chg.seq c5 k6
    gi_wp2
    go_ret2
    exact ⟨rfl, c6⟩
  | some l =>
    have hz := mrg_size hm
    rw [catB_lines, catB_lines] at hz
    rw [hm] at hres HM
    have HF : Hid (fit l = r) := HM.out
    clear HM hm
    obtain ⟨v', rfl, rr⟩ := hres
    have hj := refJoin_in v' l w6 (SlV.ofRow (by simpa using rr)) (by omega) (by omega)
    clear rr
    unfold fit at HF
    generalize catB l = t at *
    gi_wp2_with fail
    refine ⟨trivial, rfl, hj.mono ?_⟩
    rintro e w7 ⟨rfl, k6⟩
    have c6 := Chg.seq c5 k6
    clear hj k6 c5
    by_cases h4 : 400 < t.size
    · obtain rfl : r = none := by rw [← HF.out, if_pos h4]
      have h4' : (400 : Int) < (t.size : Int) := by omega
      clear HF h4
      gi_wp2
      go_ret2
      exact ⟨rfl, c6⟩
    · obtain rfl : r = some t := by rw [← HF.out, if_neg h4]
      have h4' : ¬ (400 : Int) < (t.size : Int) := by omega
      clear HF h4
      gi_wp2
      go_ret2
      exact ⟨rfl, c6⟩

end Go.Proofs.YtakbeololabmhaaGreatDoor

end
section
-- JOne
namespace Go.TreeLib
theorem at_or (x y : At) : ((x.1 == y.1) = true ∧ (x.2.toList == y.2.toList) = true ∧ decide (x = y) = true) ∨ ((x.1 == y.1) = true ∧ (x.2.toList == y.2.toList) = false ∧ decide (x = y) = false) ∨ ((x.1 == y.1) = false ∧ decide (x = y) = false) := by
  by_cases h1 : x.1 = y.1
  · by_cases h2 : x.2 = y.2
    · exact .inl ⟨by rw [h1]; exact beq_self_eq_true _, eqR_true h2, decide_eq_true (Prod.ext h1 h2)⟩
    · exact .inr (.inl ⟨by rw [h1]; exact beq_self_eq_true _, eqR_false h2, decide_eq_false (fun e => h2 (congrArg Prod.snd e))⟩)
  · exact .inr (.inr ⟨beq_eq_false_iff_ne.2 h1, decide_eq_false (fun e => h1 (congrArg Prod.fst e))⟩)
end Go.TreeLib
namespace Go.Proofs.YtakbeololabmhaaGreatDoor
open Go.RowKit Go.Shelf Go.SeqLib Go.DiffLib Go.TreeLib Go.TextLib Go.BigFrame
attribute [local go_sem] Oper.semAt_some

set_option maxRecDepth 100000 in
set_option maxHeartbeats 2000000 in
theorem jOne_in (vo va vb : Value) (o a b : List Fl) (p : ByteArray) (so : (atP o p).2.size ≤ 100000) (sa : (atP a p).2.size ≤ 100000) (sb : (atP b p).2.size ≤ 100000) (w : World) (ho : SlF w vo o) (ha : SlF w va a) (hb : SlF w vb b) :
    CallsIn Fence.wide 0 Tryz.prog 78 #[.string p, vo, va, vb] w fun e w' =>
      e = .returned (.tuple #[.string (res o a b p).1.2, .bool (res o a b p).1.1, .bool (res o a b p).2]) ∧ Chg No w w' := by
  have G1 := refGet_in vo o p w ho
  have G2 := fun W h => refGet_in va a p W h
  have G3 := fun W h => refGet_in vb b p W h
  obtain ⟨R, HR⟩ : ∃ R, Hid (res o a b p = R) := ⟨_, rfl⟩
  rw [HR.out]
  have HR2 : Hid (one3 ((TreeLib.get o p).isSome, getD o p) ((TreeLib.get a p).isSome, getD a p) ((TreeLib.get b p).isSome, getD b p) = R) := HR.out
  have so2 : (getD o p).size ≤ 100000 := so
  have sa2 : (getD a p).size ≤ 100000 := sa
  have sb2 : (getD b p).size ≤ 100000 := sb
  clear HR so sa sb
  generalize (TreeLib.get o p).isSome = i at G1 HR2
  generalize getD o p = x0 at G1 HR2 so2
  generalize (TreeLib.get a p).isSome = j at G2 HR2
  generalize getD a p = x at G2 HR2 sa2
  generalize (TreeLib.get b p).isSome = k at G3 HR2
  generalize getD b p = y at G3 HR2 sb2
  have M1 := fun W => refTMerge_in x0 x y so2 sa2 sb2 W
  obtain ⟨m, HM⟩ : ∃ m, Hid (tm x0 x y = m) := ⟨_, rfl⟩
  rw [HM.out] at M1
  obtain ⟨t1, ht1⟩ : ∃ t1, decide ((j, x) = (k, y)) = t1 := ⟨_, rfl⟩
  obtain ⟨t2, ht2⟩ : ∃ t2, decide ((j, x) = (i, x0)) = t2 := ⟨_, rfl⟩
  obtain ⟨t3, ht3⟩ : ∃ t3, decide ((k, y) = (i, x0)) = t3 := ⟨_, rfl⟩
  have O1 := at_or (j, x) (k, y)
  have O2 := at_or (j, x) (i, x0)
  have O3 := at_or (k, y) (i, x0)
  dsimp only at O1 O2 O3
  rw [ht1] at O1
  rw [ht2] at O2
  rw [ht3] at O3
  have HR3 : Hid ((if t1 = true then ((j, x), false) else if t2 = true then ((k, y), false) else if t3 = true then ((j, x), false) else mid (i, x0) (j, x) (k, y)) = R) := by
    have := HR2.out
    unfold one3 at this
    show _ = _
    rw [← this, ← ht1, ← ht2, ← ht3]
    simp only [decide_eq_true_eq]
  clear HR2 ht1 ht2 ht3
  have HO1 : Hid _ := O1
  have HO2 : Hid _ := O2
  have HO3 : Hid _ := O3
  clear O1 O2 O3
  refine callsIn_of_wp Tryz.func78 rfl trivial ?_
  simp only [Tryz.ntmps78, List.size_toArray, List.length_cons, List.length_nil, Nat.reduceAdd, Nat.reduceSub, Array.replicate_succ, Array.replicate_zero, List.push_toArray, List.append_toArray, List.nil_append, List.cons_append]
  gi_wp2_with fail
  refine ⟨trivial, rfl, G1.mono ?_⟩
  rintro e w1 ⟨rfl, c1⟩
  gi_wp2_with fail
  refine ⟨trivial, rfl, (G2 _ (ha.no c1)).mono ?_⟩
  rintro e w2 ⟨rfl, c2⟩
  have c02 := Chg.seq c1 c2
  gi_wp2_with fail
  refine ⟨trivial, rfl, (G3 _ (hb.no c02)).mono ?_⟩
  rintro e w3 ⟨rfl, c3⟩
  have c03 := Chg.seq c02 c3
  clear G1 G2 G3 c1 c2 c02 c3
  gi_upto_region 4 with (fail)
  gi_cut [37] from 500 (fun v w' => v = .bool t1 ∧ w' = w3)
  case first =>
    rename_i JJ KK hJJ hKK
    rcases HO1.out with ⟨a1, a2, rfl⟩ | ⟨a1, a2, rfl⟩ | ⟨a1, rfl⟩
    · gi_wp2
      gi_meet
      exact ⟨rfl, rfl⟩
    · gi_wp2
      gi_meet
      exact ⟨rfl, rfl⟩
    · gi_wp2
      gi_meet
      exact ⟨rfl, rfl⟩
  case rest =>
  obtain ⟨rfl, rfl⟩ := hcut
  generalize wc = W3 at *
  cases t1 with
  | true =>
    obtain rfl : R = ((j, x), false) := HR3.out.symm
    gi_wp2
    go_ret3
    exact ⟨rfl, c03⟩
  | false =>
  gi_upto_region 6 with (fail)
  gi_cut [48] from 500 (fun v w' => v = .bool t2 ∧ w' = W3)
  case first =>
    rename_i JJ KK hJJ hKK
    rcases HO2.out with ⟨a1, a2, rfl⟩ | ⟨a1, a2, rfl⟩ | ⟨a1, rfl⟩
    · gi_wp2
      gi_meet
      exact ⟨rfl, rfl⟩
    · gi_wp2
      gi_meet
      exact ⟨rfl, rfl⟩
    · gi_wp2
      gi_meet
      exact ⟨rfl, rfl⟩
  case rest =>
  obtain ⟨rfl, rfl⟩ := hcut
  generalize wc = W3 at *
  cases t2 with
  | true =>
    obtain rfl : R = ((k, y), false) := HR3.out.symm
    gi_wp2
    go_ret3
    exact ⟨rfl, c03⟩
  | false =>
  gi_upto_region 8 with (fail)
  gi_cut [59] from 500 (fun v w' => v = .bool t3 ∧ w' = W3)
  case first =>
    rename_i JJ KK hJJ hKK
    rcases HO3.out with ⟨a1, a2, rfl⟩ | ⟨a1, a2, rfl⟩ | ⟨a1, rfl⟩
    · gi_wp2
      gi_meet
      exact ⟨rfl, rfl⟩
    · gi_wp2
      gi_meet
      exact ⟨rfl, rfl⟩
    · gi_wp2
      gi_meet
      exact ⟨rfl, rfl⟩
  case rest =>
  obtain ⟨rfl, rfl⟩ := hcut
  generalize wc = W3 at *
  cases t3 with
  | true =>
    obtain rfl : R = ((j, x), false) := HR3.out.symm
    gi_wp2
    go_ret3
    exact ⟨rfl, c03⟩
  | false =>
  have HR4 : Hid (mid (i, x0) (j, x) (k, y) = R) := HR3.out
  clear HR3 HO1 HO2 HO3
  cases j with
  | false =>
    obtain rfl : R = ((i, x0), true) := HR4.out.symm.trans (if_neg (fun e => by cases e.1))
    gi_wp2
    go_ret3
    exact ⟨rfl, c03⟩
  | true =>
  cases k with
  | false =>
    obtain rfl : R = ((i, x0), true) := HR4.out.symm.trans (if_neg (fun e => by cases e.2))
    gi_wp2
    go_ret3
    exact ⟨rfl, c03⟩
  | true =>
  gi_wp2_with fail
  refine ⟨trivial, rfl, (M1 _).mono ?_⟩
  rintro e w4 ⟨rfl, c4⟩
  have c04 := Chg.seq c03 c4
  cases m with
  | some m =>
    obtain rfl : R = ((true, m), false) := by
      have := HR4.out
      unfold mid at this
      rw [if_pos ⟨rfl, rfl⟩] at this
      simp only [HM.out] at this
      exact this.symm
    gi_wp2
    go_ret3
    exact ⟨rfl, c04⟩
  | none =>
    obtain rfl : R = ((i, x0), true) := by
      have := HR4.out
      unfold mid at this
      rw [if_pos ⟨rfl, rfl⟩] at this
      simp only [HM.out] at this
      exact this.symm
    gi_wp2
    go_ret3
    exact ⟨rfl, c04⟩

end Go.Proofs.YtakbeololabmhaaGreatDoor

end
section
-- FRefS
namespace Go.Proofs.YtakbeololabmhaaGreatDoor
open Go.RowKit Go.Shelf Go.SeqLib Go.DiffLib Go.TreeLib Go.BigFrame
attribute [local go_sem] Oper.semAt_some

set_option maxRecDepth 100000 in
set_option maxHeartbeats 2000000 in
theorem refPaths_in (tv : Value) (ps : List (Value × List Fl)) (w : World) (hs : SlV w tv (ps.map (·.1))) (hi : ∀ q ∈ ps, SlF w q.1 q.2) (hlen : (toldP ps ps.length).length ≤ 1000) :
    CallsIn Fence.wide 0 Tryz.prog 77 #[tv] w fun e w' => ∃ v', e = .returned v' ∧ OwnT w' w.heap.size v' (paths (ps.map (·.2))) ∧ Chg No w w' := by
  have hs0 := hs
  obtain ⟨p, cap, rfl, hcap, hmax, _⟩ := hs0
  rw [List.length_map] at hcap hs ⊢
  have hml : ps.length ≤ 9223372036854775807 := by unfold maxLen at hmax; omega
  refine callsIn_of_wp Tryz.func77 rfl trivial ?_
  simp only [Tryz.ntmps77, List.size_toArray, List.length_cons, List.length_nil, Nat.reduceAdd, Nat.reduceSub, Array.replicate_succ, Array.replicate_zero, List.push_toArray, List.append_toArray, List.nil_append, List.cons_append]
  obtain ⟨n, HN⟩ : ∃ n, Hid (ps.length = n) := ⟨_, rfl⟩
  rw [HN.out] at hs hml ⊢
  gi_wp2
  gi_loopw [4, 3] (fun i o wr => ∃ k : Nat, k ≤ n ∧ i = .int .i64 (k : Int) ∧ OwnT wr w.heap.size o (toldP ps k) ∧ Chg No w wr) (fun i _ _ => n - (intOf i).toNat)
  case atStart => exact ⟨0, Nat.zero_le _, rfl, OwnT.nil _ _, Chg.refl _ _⟩
  case round =>
    obtain ⟨i, hin, rfl, ho, c⟩ := hrel
    by_cases hlt : i < n
    · have hlt' : (i : Int) < (n : Int) := by omega
      have hil : i < ps.length := by rw [HN.out]; exact hlt
      have HT : Hid (toldP ps (i + 1) = toldP ps i ++ ps[i].2.map (·.1)) := toldP_succ hil
      have hle := toldP_le ps (i + 1)
      rw [HT.out, List.length_append, List.length_map] at hle
      have hq := hi _ (List.getElem_mem hil)
      have hg : ps[i]? = some ps[i] := List.getElem?_eq_getElem hil
      generalize ps[i] = q at *
      obtain ⟨qv, ql⟩ := q
      dsimp only at hq hle HT
      obtain ⟨pq, cq, rfl, _, _⟩ := hq.slice
      obtain ⟨m, HM⟩ : ∃ m, Hid (ql.length = m) := ⟨_, rfl⟩
      have hq' : SlF w (.slice pq m cq) ql := by rw [← HM.out]; exact hq
      have hg' : ps[i]? = some (.slice pq m cq, ql) := by rw [← HM.out]; exact hg
      have hle' : (toldP ps i).length + m ≤ 1000 := by rw [← HM.out]; exact Nat.le_trans hle hlen
      clear hq hg hle
      gi_wp2
      gi_loopw [5, 3] (fun t o wr' => ∃ k : Nat, k ≤ m ∧ t = .int .i64 (k : Int) ∧ OwnT wr' w.heap.size o (toldP ps i ++ (ql.take k).map (·.1)) ∧ Chg No w wr') (fun t _ _ => m - (intOf t).toNat)
      case atStart => exact ⟨0, Nat.zero_le _, rfl, by simpa using ho, c⟩
      case round =>
        obtain ⟨k, hk, rfl, ho2, c2⟩ := hrel
        have hs2 := hs.no c2
        obtain ⟨p2, cap2, e2, _, _, hc2⟩ := hs2
        rw [List.length_map, HN.out] at e2
        cases e2
        obtain ⟨bb, off, rfl, hcw⟩ := hc2 i (.slice pq m cq) (by rw [List.getElem?_map, hg']; rfl)
        clear hc2
        by_cases hlt2 : k < m
        · have hlt2' : (k : Int) < (m : Int) := by omega
          have hkl : k < ql.length := by rw [HM.out]; exact hlt2
          obtain ⟨x, hx⟩ : ∃ x, ql[k]? = some x := ⟨_, List.getElem?_eq_getElem hkl⟩
          obtain ⟨b1, o1, rfl, hc1, _⟩ := SlF.at (hq'.no c2) k x hx
          have HS : Hid (toldP ps i ++ (ql.take (k + 1)).map (·.1) = (toldP ps i ++ (ql.take k).map (·.1)) ++ [x.1]) := by
            show _ = _
            rw [List.take_add_one, hx]
            simp
          have hal : (toldP ps i ++ (ql.take k).map (·.1)).length ≤ 1000 := by rw [List.length_append, List.length_map, List.length_take]; omega
          generalize toldP ps i ++ (ql.take k).map (·.1) = acc at *
          have hsl := SlT.one wr x.1
          have hsz := c2.size
          gi_wp2_with (gi_at_builtin; refine wpListIn_append_sv _ rfl _ _ rfl w.heap.size _ acc.length (acc.map Value.string) rfl (World.ownsRow.alloc ho2 _) (some ⟨wr.heap.size, 0, none⟩) 1 1 [x.1] rfl hsl (by omega) (by simp; omega) ?_; intro v' w1 hown' hgrow hat; have c3 : Chg No w w1 := ((c2.alloc _).grown hgrow (fun k e => .inr (World.ownsRow.lt ho2 k e).1)))
          go_roundw
          case rel =>
            refine ⟨k + 1, hlt2, by go_num, ?_, c3⟩
            rw [HS.out]
            show w1.ownsRow _ _ _ _ (acc ++ [x.1]).length ((acc ++ [x.1]).map Value.string)
            rw [List.map_append, List.length_append]
            exact hown'
          case measure => simp [intOf]; omega
        · have hlt2' : ¬ (k : Int) < (m : Int) := by omega
          have hkm : ql.take k = ql := List.take_of_length_le (by rw [HM.out]; omega)
          rw [hkm] at ho2
          gi_wp2
          go_roundw
          case rel => exact ⟨i + 1, hlt, by go_num, by rw [HT.out]; exact ho2, c2⟩
          case measure => simp [intOf]; omega
    · have hlt' : ¬ (i : Int) < (n : Int) := by omega
      have hin' : i = ps.length := by rw [HN.out]; omega
      rw [hin'] at ho
      have R1 := refRise_in _ (toldP ps ps.length) hlen wr (OwnT.sl ho)
      have hpp : rise (toldP ps ps.length) = paths (ps.map (·.2)) := by
        unfold paths toldP
        rw [List.take_length, List.flatMap_map]
      rw [hpp] at R1
      gi_wp2_with fail
      refine ⟨trivial, rfl, R1.mono ?_⟩
      rintro e w2 ⟨v2, rfl, r2, c2⟩
      have cc := Chg.seq c c2
      have rr := OwnT.base r2 c.size
      gi_wp2
      go_ret
      exact ⟨_, rfl, rr, cc⟩

end Go.Proofs.YtakbeololabmhaaGreatDoor

end
section
-- JRef
namespace Go.TreeLib
theorem all3_len (o a b : List Fl) : (all3 o a b).length ≤ o.length + a.length + b.length := by
  unfold all3 paths
  refine Nat.le_trans (rise_len _) ?_
  simp
  omega
theorem outL_snoc (o a b : List Fl) (l : List ByteArray) (p : ByteArray) : outL o a b (l ++ [p]) = outL o a b l ++ (if (res o a b p).1.1 = true then [(p, (res o a b p).1.2)] else []) := by
  unfold outL
  rw [List.filterMap_append, List.filterMap_cons, List.filterMap_nil]
  by_cases h : (res o a b p).1.1 = true
  · rw [if_pos h, if_pos h]
  · rw [if_neg h, if_neg h]
theorem clashL_snoc (o a b : List Fl) (l : List ByteArray) (p : ByteArray) : clashL o a b (l ++ [p]) = clashL o a b l ++ (if (res o a b p).2 = true then [p] else []) := by
  unfold clashL
  rw [List.filter_append]
  by_cases h : (res o a b p).2 = true
  · rw [if_pos h, List.filter_cons_of_pos (by exact h), List.filter_nil]
  · rw [if_neg h, List.filter_cons_of_neg (by exact h), List.filter_nil]
theorem outL_len (o a b : List Fl) (l : List ByteArray) : (outL o a b l).length ≤ l.length := List.length_filterMap_le _ _
theorem clashL_len (o a b : List Fl) (l : List ByteArray) : (clashL o a b l).length ≤ l.length := List.length_filter_le _ _
end Go.TreeLib
namespace Go.Proofs.YtakbeololabmhaaGreatDoor
open Go.RowKit Go.Shelf Go.SeqLib Go.DiffLib Go.TreeLib Go.TextLib Go.BigFrame
attribute [local go_sem] Oper.semAt_some

set_option maxHeartbeats 1000000 in
theorem jUnder_in (v : Value) (t : List Fl) (p : ByteArray) (w : World) (hv : SlF w v t) : CallsIn Fence.wide 0 Tryz.prog 53 #[v, .string p] w fun e w' =>
    e = .returned (.bool (nested t p)) ∧ Chg No w w' := by
  obtain ⟨p0, cap, rfl, _, hmx⟩ := hv.slice
  have hml : t.length ≤ 9223372036854775807 := by unfold maxLen at hmx; omega
  obtain ⟨n, HN⟩ : ∃ n, Hid (t.length = n) := ⟨_, rfl⟩
  rw [HN.out] at hv hml ⊢
  clear hmx
  obtain ⟨z, HZ⟩ : ∃ z, Hid (nested t p = z) := ⟨_, rfl⟩
  rw [HZ.out]
  have U := fun q W => refUnder_in p q W
  refine callsIn_of_wp Tryz.func53 rfl trivial ?_
  simp only [Tryz.ntmps53, List.size_toArray, List.length_cons, List.length_nil, Nat.reduceAdd, Nat.reduceSub, Array.replicate_succ, Array.replicate_zero, List.push_toArray, List.append_toArray, List.nil_append, List.cons_append]
  gi_wp2
  gi_loopw [5] (fun i wr => ∃ k : Nat, k ≤ n ∧ i = .int .i64 (k : Int) ∧ Hid (∀ f ∈ t.take k, under (Bs p) (Bs f.1) = false) ∧ wr = w) (fun i _ => n - (intOf i).toNat)
  case atStart => exact ⟨0, Nat.zero_le _, rfl, fun f hf => by simp at hf, rfl⟩
  case round =>
    obtain ⟨k, hk, rfl, HT, rfl⟩ := hrel
    by_cases hlt : k < n
    · have hlt' : (k : Int) < (n : Int) := by omega
      have hkl : k < t.length := by rw [HN.out]; exact hlt
      obtain ⟨x, hx⟩ : ∃ x, t[k]? = some x := ⟨_, List.getElem?_eq_getElem hkl⟩
      obtain ⟨b1, o1, rfl, hc1, hc2⟩ := SlF.at hv k x hx
      obtain ⟨u, HU⟩ : ∃ u, Hid (under (Bs p) (Bs x.1) = u) := ⟨_, rfl⟩
      have U1 := U x.1
      rw [HU.out] at U1
      gi_wp2_with fail
      refine ⟨trivial, rfl, (U1 _).mono ?_⟩
      rintro e w1 ⟨rfl, rfl⟩
      cases u with
      | true =>
        have HR : Hid (z = true) := by
          show _ = _
          rw [← HZ.out]
          exact List.any_eq_true.2 ⟨x, List.mem_of_getElem? hx, HU.out⟩
        gi_wp2
        go_ret
        exact ⟨by rw [HR.out]; rfl, Chg.refl _ _⟩
      | false =>
        have HT2 : Hid (∀ f ∈ t.take (k + 1), under (Bs p) (Bs f.1) = false) := by
          intro f hf
          rw [List.take_add_one, hx] at hf
          rcases List.mem_append.1 hf with h | h
          · exact HT.out f h
          · rw [List.mem_singleton.1 h]; exact HU.out
        gi_wp2
        go_roundw
        case rel => exact ⟨k + 1, hlt, by go_num, HT2, trivial⟩
        case measure => simp [intOf]; omega
    · have hlt' : ¬ (k : Int) < (n : Int) := by omega
      have HR : Hid (z = false) := by
        show _ = _
        rw [← HZ.out]
        refine List.any_eq_false.2 (fun f hf => ?_)
        rw [HT.out f (by rw [List.take_of_length_le (by rw [HN.out]; omega)]; exact hf)]
        exact Bool.false_ne_true
      gi_wp2
      go_ret
      exact ⟨by rw [HR.out]; rfl, Chg.refl _ _⟩

end Go.Proofs.YtakbeololabmhaaGreatDoor

end
section
-- JRefB
namespace Go.Proofs.YtakbeololabmhaaGreatDoor
open Go.RowKit Go.Shelf Go.SeqLib Go.DiffLib Go.TreeLib Go.TextLib Go.BigFrame
attribute [local go_sem] Oper.semAt_some

set_option maxRecDepth 100000 in
set_option maxHeartbeats 4000000 in
theorem jAll_in (vo va vb : Value) (o a b : List Fl) (h3 : IsTree o ∧ IsTree a ∧ IsTree b) (w : World) (ho : SlF w vo o) (ha : SlF w va a) (hb : SlF w vb b) :
    CallsIn Fence.wide 0 Tryz.prog 52 #[vo, va, vb] w fun e w' =>
      ∃ v1 v2, e = .returned (.tuple #[v1, v2]) ∧ OwnF w' w.heap.size v1 (out3 o a b) ∧ OwnT w' w.heap.size v2 (clashL o a b (all3 o a b)) ∧ Chg No w w' := by
  have hlo := h3.1.len
  have hla := h3.2.1.len
  have hlb := h3.2.2.len
  obtain ⟨po, ko, eo, _, _⟩ := ho.slice
  obtain ⟨no, hno⟩ : ∃ no, o.length = no := ⟨_, rfl⟩
  obtain ⟨pa, ka, ea, _, _⟩ := ha.slice
  obtain ⟨na, hna⟩ : ∃ na, a.length = na := ⟨_, rfl⟩
  obtain ⟨pb, kb, eb, _, _⟩ := hb.slice
  obtain ⟨nb, hnb⟩ : ∃ nb, b.length = nb := ⟨_, rfl⟩
  rw [hno] at eo
  rw [hna] at ea
  rw [hnb] at eb
  have c0 : Chg No w (w.alloc (.cells #[vo, va, vb] 30)) := (Chg.refl _ w).alloc _
  have sp : SlV (w.alloc (.cells #[vo, va, vb] 30)) (.slice (some ⟨w.heap.size, 0, none⟩) 3 3) [vo, va, vb] := SlV.made w [vo, va, vb] 30 (by simp)
  have P1 := refPaths_in (.slice (some ⟨w.heap.size, 0, none⟩) 3 3) [(vo, o), (va, a), (vb, b)] (w.alloc (.cells #[vo, va, vb] 30)) sp (by
    intro q hq
    rcases List.mem_cons.1 hq with rfl | hq
    · exact ho.no c0
    rcases List.mem_cons.1 hq with rfl | hq
    · exact ha.no c0
    · rw [List.mem_singleton.1 hq]; exact hb.no c0) (by simp [toldP]; omega)
  rw [show ([(vo, o), (va, a), (vb, b)].map (·.2)) = [o, a, b] from rfl] at P1
  have hal := all3_len o a b
  obtain ⟨all, HA⟩ : ∃ all, Hid (all3 o a b = all) := ⟨_, rfl⟩
  rw [show paths [o, a, b] = all from HA.out] at P1
  rw [HA.out] at hal
  have hal2 : all.length ≤ 36 := by omega
  have HO3 : Hid (out3 o a b = outL o a b all) := by show _ = _; unfold out3; rw [HA.out]
  have HC3 : Hid (clashL o a b (all3 o a b) = clashL o a b all) := by show _ = _; rw [HA.out]
  rw [HO3.out, HC3.out]
  have HS : Hid ((∀ p, (atP o p).2.size ≤ 100000) ∧ (∀ p, (atP a p).2.size ≤ 100000) ∧ (∀ p, (atP b p).2.size ≤ 100000)) := ⟨fun p => Nat.le_trans (tree_size h3.1 p) (by decide), fun p => Nat.le_trans (tree_size h3.2.1 p) (by decide), fun p => Nat.le_trans (tree_size h3.2.2 p) (by decide)⟩
  clear sp hal hlo hla hlb hno hna hnb HO3 HC3 h3
  subst eo ea eb
  refine callsIn_of_wp Tryz.func52 rfl trivial ?_
  simp only [Tryz.ntmps52, List.size_toArray, List.length_cons, List.length_nil, Nat.reduceAdd, Nat.reduceSub, Array.replicate_succ, Array.replicate_zero, List.push_toArray, List.append_toArray, List.nil_append, List.cons_append]
  gi_wp2_with fail
  refine ⟨trivial, rfl, P1.mono ?_⟩
  rintro e w1 ⟨tv, rfl, r1, c1⟩
  have c01 := Chg.seq c0 c1
  have st : SlT w1 tv all := OwnT.sl r1
  obtain ⟨pt, kt, rfl⟩ := row_slice r1
  have hs01 := c01.size
  have ho1 := ho.no c01
  have ha1 := ha.no c01
  have hb1 := hb.no c01
  clear P1 r1 c0 c1 ho ha hb
  obtain ⟨n, HN⟩ : ∃ n, Hid (all.length = n) := ⟨_, rfl⟩
  rw [HN.out] at st hal2 ⊢
  have hn0 : n ≤ 9223372036854775807 := by omega
  gi_wp2
  gi_loopw [8, 9, 11] (fun s8 s9 s11 wr => ∃ k : Nat, k ≤ n ∧ s11 = .int .i64 (k : Int) ∧ OwnF wr w1.heap.size s8 (outL o a b (all.take k)) ∧ OwnT wr w1.heap.size s9 (clashL o a b (all.take k)) ∧ Chg No w1 wr) (fun _ _ s11 _ => n - (intOf s11).toNat)
  case atStart => exact ⟨0, Nat.zero_le _, rfl, OwnF.nil _ _, OwnT.nil _ _, Chg.refl _ _⟩
  case round =>
    obtain ⟨k, hk, rfl, ho8, ho9, c⟩ := hrel
    by_cases hlt : k < n
    · have hlt' : (k : Int) < (n : Int) := by omega
      have hko : k < all.length := by rw [HN.out]; exact hlt
      obtain ⟨p, hp⟩ : ∃ p, all[k]? = some p := ⟨_, List.getElem?_eq_getElem hko⟩
      obtain ⟨bb, off, rfl, hcw⟩ := SlT.at (st.no c) k p hp
      have HCW : Hid (∀ W', Chg No w1 W' → W'.cell? ⟨bb, off + k, none⟩ = some (.string p)) := fun W' c' => by
        obtain ⟨_, _, e9, h9⟩ := SlT.at (st.no c') k p hp
        cases e9
        exact h9
      have HT : Hid (all.take (k + 1) = all.take k ++ [p]) := by show _ = _; rw [List.take_add_one, hp]; rfl
      have HS8 : Hid (outL o a b (all.take (k + 1)) = outL o a b (all.take k) ++ (if (res o a b p).1.1 = true then [(p, (res o a b p).1.2)] else [])) := by show _ = _; rw [HT.out, outL_snoc]
      have HS9 : Hid (clashL o a b (all.take (k + 1)) = clashL o a b (all.take k) ++ (if (res o a b p).2 = true then [p] else [])) := by show _ = _; rw [HT.out, clashL_snoc]
      have HLF : Hid ((outL o a b (all.take k)).length ≤ 36) := by
        have := outL_len o a b (all.take k)
        rw [List.length_take] at this
        show _ ≤ _
        omega
      have HLT : Hid ((clashL o a b (all.take k)).length ≤ 36) := by
        have := clashL_len o a b (all.take k)
        rw [List.length_take] at this
        show _ ≤ _
        omega
      have J1 := jOne_in (.slice po no ko) (.slice pa na ka) (.slice pb nb kb) o a b p (HS.out.1 p) (HS.out.2.1 p) (HS.out.2.2 p) wr (ho1.no c) (ha1.no c) (hb1.no c)
      generalize res o a b p = R at J1 HS8 HS9
      generalize outL o a b (all.take k) = fs at ho8 HS8 HLF
      generalize clashL o a b (all.take k) = ls at ho9 HS9 HLT
      obtain ⟨⟨r1, r2⟩, r3⟩ := R
      dsimp only at J1 HS8 HS9
      obtain ⟨p8, k8, rfl⟩ := ho8.slice
      obtain ⟨p9, k9, rfl⟩ := row_slice ho9
      clear hp hko HT
      gi_wp2_with fail
      refine ⟨trivial, rfl, J1.mono ?_⟩
      rintro e w2 ⟨rfl, c2⟩
      have c12 := Chg.seq c c2
      have o28 := ho8.no c2
      have o29 := ho9.no c2
      have hcw2 := HCW.out _ c12
      have hs12 := c12.size
      clear J1 c c2 ho8 ho9 hcw
      have HB : Hid (∀ W vF (fx : List Fl), Chg No w1 W → OwnF W w1.heap.size vF fx → OwnT W w1.heap.size (.slice p9 ls.length k9) ls →
          OwnT (W.alloc (.cells #[.string p] 9)) w1.heap.size (.slice p9 ls.length k9) ls ∧ SlT (W.alloc (.cells #[.string p] 9)) (.slice (some ⟨W.heap.size, 0, none⟩) 1 1) [p] ∧ w1.heap.size ≤ (W.alloc (.cells #[.string p] 9)).heap.size ∧
          ∀ W5, (W.alloc (.cells #[.string p] 9)).grownBy W5 (Value.slice p9 ls.length k9).ownBlock → Chg No w1 W5 ∧ OwnF W5 w1.heap.size vF fx) := fun W vF fx cW hF hT => by
        refine ⟨hT.no ((Chg.refl _ W).alloc _), SlT.one W p, (cW.alloc _).size, fun W5 hg => ⟨(cW.alloc _).grown hg (fun q e => .inr (World.ownsRow.lt hT q e).1), ?_⟩⟩
        have c45 : Chg (fun q => Value.ownBlock (.slice p9 ls.length k9) = some q) W W5 := ((Chg.refl _ W).alloc _).grown hg (fun k e => .inl e)
        exact hF.chg c45 (fun q h7 h8 => row_apart (by decide) hF hT q h7 h8)
      cases r1 with
      | true =>
        have hslA := SlF.one w2 (p, r2)
        have cA : Chg No w2 (w2.alloc (.cells #[.string p, .string r2] 49)) := (Chg.refl _ w2).alloc _
        have oA8 := o28.no cA
        have hbsA := (Chg.seq c12 cA).size
        have HG : Hid (∀ W4 v', OwnF W4 w1.heap.size v' (fs ++ [(p, r2)]) → (w2.alloc (.cells #[.string p, .string r2] 49)).grownBy W4 (Value.slice p8 fs.length k8).ownBlock →
            Chg No w1 W4 ∧ OwnT W4 w1.heap.size (.slice p9 ls.length k9) ls ∧ W4.cell? ⟨bb, off + k, none⟩ = some (.string p)) := fun W4 v' hown hg => by
          have c4 := (Chg.seq c12 cA).grown hg (fun q e => .inr (World.ownsRow.lt o28 q e).1)
          have c24 : Chg (fun q => Value.ownBlock (.slice p8 fs.length k8) = some q) w2 W4 := ((Chg.refl _ w2).alloc _).grown hg (fun k e => .inl e)
          exact ⟨c4, OwnT.chg o29 c24 (fun q h9 h8 => row_apart (by decide) o29 o28 q h9 h8), HCW.out _ c4⟩
        rw [if_pos rfl] at HS8
        cases r3 with
        | true =>
          rw [if_pos rfl] at HS9
          gi_wp2_with (gi_at_builtin; first
            | (refine wpListIn_append_sf _ rfl _ _ rfl w1.heap.size _ fs rfl oA8 (some ⟨w2.heap.size, 0, none⟩) 1 1 [(p, r2)] rfl hslA (by have := HLF.out; omega) hbsA ?_; intro v8' W4 hown8 hgrow8 _; obtain ⟨p8', c8', rfl⟩ := hown8.slice; obtain ⟨cw4, o94, hc4⟩ := HG.out W4 _ hown8 hgrow8; obtain ⟨oB9, hslB, hbsB, HB5⟩ := HB.out W4 _ _ cw4 hown8 o94)
            | (refine wpListIn_append_t _ rfl _ _ rfl w1.heap.size _ ls rfl oB9 (some ⟨W4.heap.size, 0, none⟩) 1 1 [p] rfl hslB (by have := HLT.out; omega) hbsB ?_; intro v9' W5 hown9 hgrow9 _; obtain ⟨p9', c9', rfl⟩ := row_slice hown9; obtain ⟨cw5, o58⟩ := HB5 W5 hgrow9))
          refine ⟨⟨k + 1, hlt, by go_num, by rw [HS8.out]; rw [List.length_append] at o58; exact o58, by rw [HS9.out]; rw [List.length_append] at hown9; exact hown9, cw5⟩, by simp [intOf]; omega⟩
        | false =>
          rw [if_neg Bool.false_ne_true, List.append_nil] at HS9
          gi_wp2_with (gi_at_builtin; refine wpListIn_append_sf _ rfl _ _ rfl w1.heap.size _ fs rfl oA8 (some ⟨w2.heap.size, 0, none⟩) 1 1 [(p, r2)] rfl hslA (by have := HLF.out; omega) hbsA ?_; intro v8' W4 hown8 hgrow8 _; obtain ⟨p8', c8', rfl⟩ := hown8.slice; obtain ⟨cw4, o94, hc4⟩ := HG.out W4 _ hown8 hgrow8)
          refine ⟨⟨k + 1, hlt, by go_num, by rw [HS8.out]; rw [List.length_append] at hown8; exact hown8, by rw [HS9.out]; exact o94, cw4⟩, by simp [intOf]; omega⟩
      | false =>
        rw [if_neg Bool.false_ne_true, List.append_nil] at HS8
        cases r3 with
        | true =>
          rw [if_pos rfl] at HS9
          obtain ⟨oB9, hslB, hbsB, HB5⟩ := HB.out w2 _ _ c12 o28 o29
          gi_wp2_with (gi_at_builtin; refine wpListIn_append_t _ rfl _ _ rfl w1.heap.size _ ls rfl oB9 (some ⟨w2.heap.size, 0, none⟩) 1 1 [p] rfl hslB (by have := HLT.out; omega) hbsB ?_; intro v9' W5 hown9 hgrow9 _; obtain ⟨p9', c9', rfl⟩ := row_slice hown9; obtain ⟨cw5, o58⟩ := HB5 W5 hgrow9)
          refine ⟨⟨k + 1, hlt, by go_num, by rw [HS8.out]; exact o58, by rw [HS9.out]; rw [List.length_append] at hown9; exact hown9, cw5⟩, by simp [intOf]; omega⟩
        | false =>
          rw [if_neg Bool.false_ne_true, List.append_nil] at HS9
          gi_wp2
          refine ⟨⟨k + 1, hlt, by go_num, by rw [HS8.out]; exact o28, by rw [HS9.out]; exact o29, c12⟩, by simp [intOf]; omega⟩
    · obtain rfl : k = n := by omega
      have hlt' : ¬ (k : Int) < (k : Int) := by omega
      have hkn : all.take k = all := List.take_of_length_le (by rw [HN.out]; exact Nat.le_refl _)
      rw [hkn] at ho8 ho9
      gi_wp2
      go_ret2
      exact ⟨_, _, rfl, ho8.base hs01, OwnT.base ho9 hs01, Chg.seq c01 c⟩

end Go.Proofs.YtakbeololabmhaaGreatDoor

end
