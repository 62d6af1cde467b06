/-
  The document's own answer for join: Of and Virtual.
-/
import Derived.Test.YtndblaemladppaaGreatDoorJRefB
import Derived.Laws.OwnMore
namespace Go.Proofs.YtndblaemladppaaGreatDoor
open Go.RowKit Go.Shelf Go.SeqLib Go.DiffLib Go.TreeLib Go.TextLib Go.BigFrame
attribute [local go_sem] Oper.semAt_some

theorem may3_o {o a b : List Fl} (h : mayB o = false) : may3 o a b = false := by unfold may3; rw [h]; rfl
theorem may3_a {o a b : List Fl} (h : mayB a = false) : may3 o a b = false := by unfold may3; rw [h]; simp
theorem may3_b {o a b : List Fl} (h : mayB b = false) : may3 o a b = false := by unfold may3; rw [h]; simp

set_option maxRecDepth 100000 in
set_option maxHeartbeats 4000000 in
theorem jOf_in (vo va vb : Value) (o a b : List Fl) (w : World) (ho : SlF w vo o) (ha : SlF w va a) (hb : SlF w vb b) :
    CallsIn Fence.wide 0 Tryz.prog 9 #[vo, va, vb] w fun e w' =>
      ∃ v1 v2, e = .returned (.tuple #[v1, v2]) ∧ OwnF w' w.heap.size v1 (ofJ o a b).1 ∧ OwnT w' w.heap.size v2 (ofJ o a b).2 ∧ Chg No w w' := by
  have M1 := refMay_in vo o w ho
  have M2 := fun W h => refMay_in va a W h
  have M3 := fun W h => refMay_in vb b W h
  obtain ⟨J, HJ⟩ : ∃ J, Hid (ofJ o a b = J) := ⟨_, rfl⟩
  rw [HJ.out]
  have HNo : Hid (may3 o a b = false → J = ([], [ques])) := fun h => HJ.out.symm.trans (ofJ_not h)
  obtain ⟨mo, hmo⟩ : ∃ mo, mayB o = mo := ⟨_, rfl⟩
  obtain ⟨ma, hma⟩ : ∃ ma, mayB a = ma := ⟨_, rfl⟩
  obtain ⟨mb, hmb⟩ : ∃ mb, mayB b = mb := ⟨_, rfl⟩
  rw [hmo] at M1
  rw [hma] at M2
  rw [hmb] at M3
  have HMO : Hid (mayB o = mo) := hmo
  have HMA : Hid (mayB a = ma) := hma
  have HMB : Hid (mayB b = mb) := hmb
  clear hmo hma hmb
  refine callsIn_of_wp Tryz.func9 rfl trivial ?_
  simp only [Tryz.ntmps9, List.size_toArray, List.length_cons, List.length_nil, Nat.reduceAdd, Nat.reduceSub, Array.replicate_succ, Array.replicate_zero, List.push_toArray, List.append_toArray, List.nil_append, List.cons_append]
  gi_wp2_with fail
  refine ⟨trivial, rfl, M1.mono ?_⟩
  rintro e w1 ⟨rfl, c1⟩
  cases mo with
  | false =>
    obtain rfl : J = ([], [ques]) := HNo.out (may3_o HMO.out)
    gi_wp2_with fail
    refine ⟨trivial, ?_⟩
    rename_i hKK
    apply hKK
    gi_wp2_with fail
    refine ⟨trivial, ?_⟩
    rename_i hKK
    apply hKK
    gi_wp2
    go_ret2
    exact ⟨_, _, rfl, OwnF.nil _ _, OwnT.base (OwnT.one w1 ques) c1.size, c1.alloc _⟩
  | true =>
  gi_wp2_with fail
  refine ⟨trivial, rfl, (M2 _ (ha.no c1)).mono ?_⟩
  rintro e w2 ⟨rfl, c2⟩
  have c02 := Chg.seq c1 c2
  cases ma with
  | false =>
    obtain rfl : J = ([], [ques]) := HNo.out (may3_a HMA.out)
    gi_wp2_with fail
    refine ⟨trivial, ?_⟩
    rename_i hKK
    apply hKK
    gi_wp2
    go_ret2
    exact ⟨_, _, rfl, OwnF.nil _ _, OwnT.base (OwnT.one w2 ques) c02.size, c02.alloc _⟩
  | true =>
  gi_wp2_with fail
  refine ⟨trivial, rfl, (M3 _ (hb.no c02)).mono ?_⟩
  rintro e w3 ⟨rfl, c3⟩
  have c03 := Chg.seq c02 c3
  cases mb with
  | false =>
    obtain rfl : J = ([], [ques]) := HNo.out (may3_b HMB.out)
    gi_wp2
    go_ret2
    exact ⟨_, _, rfl, OwnF.nil _ _, OwnT.base (OwnT.one w3 ques) c03.size, c03.alloc _⟩
  | true =>
  have h3 : IsTree o ∧ IsTree a ∧ IsTree b := ⟨mayB_iff.1 HMO.out, mayB_iff.1 HMA.out, mayB_iff.1 HMB.out⟩
  have HJ2 : Hid (J = if bad3 o a b = [] then (came3 o a b, []) else ([], rise (bad3 o a b))) := by
    show _ = _
    rw [← HJ.out]
    unfold ofJ
    rw [if_pos (may3_iff.2 h3)]
  have A1 := jAll_in vo va vb o a b h3 w3 (ho.no c03) (ha.no c03) (hb.no c03)
  have hlen : (all3 o a b).length ≤ 36 := by
    have := all3_len o a b
    have := h3.1.len
    have := h3.2.1.len
    have := h3.2.2.len
    omega
  have HOL : Hid ((out3 o a b).length ≤ 36 ∧ (clashL o a b (all3 o a b)).length ≤ 36 ∧ (came3 o a b).length ≤ 36) := ⟨Nat.le_trans (outL_len o a b _) hlen, Nat.le_trans (clashL_len o a b _) hlen, Nat.le_trans (List.length_filterMap_le _ _) hlen⟩
  have HCame : Hid ((out3 o a b).filter (fun f => !hasB (clashL o a b (all3 o a b)) f.1) = came3 o a b) := out_came o a b _ _ (fun _ h => h)
  have HBad : Hid (bad3 o a b = clashL o a b (all3 o a b) ++ sunkL (came3 o a b) (came3 o a b) ++ (if 12 < (came3 o a b).length then [star] else [])) := rfl
  generalize out3 o a b = out at A1 HOL HCame
  generalize clashL o a b (all3 o a b) = cl at A1 HOL HCame HBad
  generalize came3 o a b = cm at HOL HCame HBad HJ2
  generalize bad3 o a b = bd at HBad HJ2
  have hs03 := c03.size
  clear M1 M2 M3 HJ HNo HMO HMA HMB c1 c2 c02 c3 hlen h3
  gi_wp2_with fail
  refine ⟨trivial, rfl, A1.mono ?_⟩
  rintro e w4 ⟨vt, vc, rfl, rt, rc, c4⟩
  obtain ⟨pt, kt, rfl⟩ := rt.slice
  obtain ⟨pc, kc, rfl⟩ := row_slice rc
  have c04 := Chg.seq c03 c4
  obtain ⟨n, HN⟩ : ∃ n, Hid (out.length = n) := ⟨_, rfl⟩
  have hn36 : n ≤ 36 := by have := HOL.out.1; rw [HN.out] at this; exact this
  have hn0 : n ≤ 9223372036854775807 := by omega
  have st : SlF w4 (.slice pt out.length kt) out := rt.sl
  have sc : SlT w4 (.slice pc cl.length kc) cl := OwnT.sl rc
  rw [HN.out] at st ⊢
  clear A1 rt
  gi_wp2
  gi_loopw [10, 11] (fun s10 s11 wr => ∃ k : Nat, k ≤ n ∧ s11 = .int .i64 (k : Int) ∧ OwnF wr w4.heap.size s10 ((out.take k).filter (fun f => !hasB cl f.1)) ∧ Chg No w4 wr) (fun _ s11 _ => n - (intOf s11).toNat)
  case atStart => exact ⟨0, Nat.zero_le _, rfl, OwnF.nil _ _, Chg.refl _ _⟩
  case round =>
    obtain ⟨k, hk, rfl, ho10, c⟩ := hrel
    by_cases hlt : k < n
    · have hlt' : (k : Int) < (n : Int) := by omega
      have hko : k < out.length := by rw [HN.out]; exact hlt
      obtain ⟨x, hx⟩ : ∃ x, out[k]? = some x := ⟨_, List.getElem?_eq_getElem hko⟩
      have HT : Hid ((out.take (k + 1)).filter (fun f => !hasB cl f.1) = (out.take k).filter (fun f => !hasB cl f.1) ++ (if hasB cl x.1 = true then [] else [x])) := by
        show _ = _
        rw [List.take_add_one, hx, List.filter_append]
        show _ ++ List.filter _ [x] = _
        by_cases h : hasB cl x.1 = true
        · rw [if_pos h, List.filter_cons_of_neg (by rw [h]; decide)]; rfl
        · rw [if_neg h, List.filter_cons_of_pos (by simpa using h)]; rfl
      have HTL : Hid (((out.take k).filter (fun f => !hasB cl f.1)).length ≤ 36) := by
        have := List.length_filter_le (fun f : Fl => !hasB cl f.1) (out.take k)
        rw [List.length_take] at this
        show _ ≤ _
        omega
      obtain ⟨b1, o1, rfl, hc1, hc2⟩ := SlF.at (st.no c) k x hx
      have H1 := jHas_in (.slice pc cl.length kc) cl x.1 wr (sc.no c) (by have := HOL.out.2.1; omega)
      generalize hasB cl x.1 = u at H1 HT
      generalize (out.take k).filter (fun f => !hasB cl f.1) = fs at ho10 HT HTL
      obtain ⟨p10, k10, rfl⟩ := ho10.slice
      gi_wp2_with fail
      refine ⟨trivial, rfl, H1.mono ?_⟩
      rintro e wq ⟨rfl, cq⟩
      have ccq := Chg.seq c cq
      obtain ⟨b2, o2, e2, hd1, hd2⟩ := SlF.at (st.no ccq) k x hx
      cases e2
      have o10 := ho10.no cq
      clear H1 hc1 hc2 ho10 c cq hx hko
      cases u with
      | true =>
        rw [if_pos rfl, List.append_nil] at HT
        gi_wp2
        refine ⟨⟨k + 1, hlt, by go_num, by rw [HT.out]; exact o10, ccq⟩, by simp [intOf]; omega⟩
      | false =>
        rw [if_neg Bool.false_ne_true] at HT
        have hsl := SlF.one wq x
        have cA : Chg No wq (wq.alloc (.cells #[.string x.1, .string x.2] 37)) := (Chg.refl _ wq).alloc _
        have oA := o10.no cA
        have ccA := Chg.seq ccq cA
        have hbs := ccA.size
        gi_wp2_with (gi_at_builtin; refine wpListIn_append_sf _ rfl _ _ rfl w4.heap.size _ fs rfl oA (some ⟨wq.heap.size, 0, none⟩) 1 1 [x] rfl hsl (by have := HTL.out; omega) hbs ?_; intro v' w5 hown' hgrow' _; obtain ⟨p', c', rfl⟩ := hown'.slice)
        refine ⟨⟨k + 1, hlt, by go_num, by rw [HT.out]; rw [List.length_append] at hown'; exact hown', ccA.grown hgrow' (fun q e => .inr (World.ownsRow.lt o10 q e).1)⟩, by simp [intOf]; omega⟩
    · obtain rfl : k = n := by omega
      have hlt' : ¬ (k : Int) < (k : Int) := by omega
      rw [List.take_of_length_le (by rw [HN.out]; exact Nat.le_refl _), HCame.out] at ho10
      obtain ⟨p10, k10, rfl⟩ := ho10.slice
      have hs34 := c4.size
      have c3r := Chg.seq c4 c
      have oc0 := OwnT.no rc c
      have of0 := ho10.base hs34
      obtain ⟨m, HMl⟩ : ∃ m, Hid (cm.length = m) := ⟨_, rfl⟩
      have hm36 : m ≤ 36 := by have := HOL.out.2.2; rw [HMl.out] at this; exact this
      have hm0 : m ≤ 9223372036854775807 := by omega
      have of1 : OwnF wr w3.heap.size (.slice p10 cm.length k10) cm := of0
      rw [HMl.out] at of1 ⊢
      clear HN hlt hk st sc ho10 of0 rc c4 c HCame
      have HBL : Hid (∀ k, k ≤ m → (cl ++ sunkL cm (cm.take k)).length ≤ 72) := fun k hk => by
        have := sunkL_len cm (cm.take k)
        rw [List.length_take, HMl.out] at this
        rw [List.length_append]
        have := HOL.out.2.1
        omega
      gi_wp2
      generalize wr = wa at *
      gi_loopw [9, 12] (fun s9 s12 wr => ∃ k : Nat, k ≤ m ∧ s12 = .int .i64 (k : Int) ∧ OwnT wr w3.heap.size s9 (cl ++ sunkL cm (cm.take k)) ∧ OwnF wr w3.heap.size (.slice p10 m k10) cm ∧ Chg No w3 wr) (fun _ s12 _ => m - (intOf s12).toNat)
      case atStart => exact ⟨0, Nat.zero_le _, rfl, by rw [List.take_zero]; show OwnT _ _ _ (cl ++ []); rw [List.append_nil]; exact oc0, of1, c3r⟩
      case round =>
        obtain ⟨k, hk, rfl, oc, of, c⟩ := hrel
        by_cases hlt : k < m
        · have hlt' : (k : Int) < (m : Int) := by omega
          have hko : k < cm.length := by rw [HMl.out]; exact hlt
          obtain ⟨x, hx⟩ : ∃ x, cm[k]? = some x := ⟨_, List.getElem?_eq_getElem hko⟩
          have HT : Hid (cl ++ sunkL cm (cm.take (k + 1)) = cl ++ sunkL cm (cm.take k) ++ (if nested cm x.1 = true then [x.1] else [])) := by
            show _ = _
            rw [List.take_add_one, hx]
            show cl ++ sunkL cm (cm.take k ++ [x]) = _
            rw [sunkL_snoc, List.append_assoc]
          have HTL : Hid ((cl ++ sunkL cm (cm.take k)).length ≤ 72) := HBL.out k hk
          have ofs : SlF wr (.slice p10 m k10) cm := of.sl
          obtain ⟨b1, o1, rfl, hc1, hc2⟩ := SlF.at ofs k x hx
          have U1 := jUnder_in (.slice (some ⟨b1, o1, none⟩) m k10) cm x.1 wr ofs
          generalize nested cm x.1 = u at U1 HT
          generalize cl ++ sunkL cm (cm.take k) = ls at oc HT HTL
          obtain ⟨p9, k9, rfl⟩ := row_slice oc
          gi_wp2_with fail
          refine ⟨trivial, rfl, U1.mono ?_⟩
          rintro e wq ⟨rfl, cq⟩
          have ccq := Chg.seq c cq
          have ofq := of.no cq
          have ocq := OwnT.no oc cq
          obtain ⟨b2, o2, e2, hd1, hd2⟩ := SlF.at (ofs.no cq) k x hx
          cases e2
          clear U1 hc1 hc2 oc of ofs c cq hx hko
          cases u with
          | false =>
            rw [if_neg Bool.false_ne_true, List.append_nil] at HT
            gi_wp2
            refine ⟨⟨k + 1, hlt, by go_num, by rw [HT.out]; exact ocq, ofq, ccq⟩, by simp [intOf]; omega⟩
          | true =>
            rw [if_pos rfl] at HT
            have hsl := SlT.one wq x.1
            have cA : Chg No wq (wq.alloc (.cells #[.string x.1] 9)) := (Chg.refl _ wq).alloc _
            have oA := OwnT.no ocq cA
            have ccA := Chg.seq ccq cA
            have hbs := ccA.size
            have HG : Hid (∀ W5, (wq.alloc (.cells #[.string x.1] 9)).grownBy W5 (Value.slice p9 ls.length k9).ownBlock → Chg No w3 W5 ∧ OwnF W5 w3.heap.size (.slice (some ⟨b1, o1, none⟩) m k10) cm) := fun W5 hg => by
              have c45 : Chg (fun q => Value.ownBlock (.slice p9 ls.length k9) = some q) wq W5 := ((Chg.refl _ wq).alloc _).grown hg (fun k e => .inl e)
              exact ⟨ccA.grown hg (fun q e => .inr (World.ownsRow.lt ocq q e).1), ofq.chg c45 (fun q h7 h8 => row_apart (by decide) ofq ocq q h7 h8)⟩
            gi_wp2_with (gi_at_builtin; refine wpListIn_append_t _ rfl _ _ rfl w3.heap.size _ ls rfl oA (some ⟨wq.heap.size, 0, none⟩) 1 1 [x.1] rfl hsl (by have := HTL.out; omega) hbs ?_; intro v' w5 hown' hgrow' _; obtain ⟨p', c', rfl⟩ := row_slice hown'; obtain ⟨c5, of5⟩ := HG.out w5 hgrow')
            refine ⟨⟨k + 1, hlt, by go_num, by rw [HT.out]; rw [List.length_append] at hown'; exact hown', of5, c5⟩, by simp [intOf]; omega⟩
        · obtain rfl : k = m := by omega
          have hlt' : ¬ (k : Int) < (k : Int) := by omega
          have HTL : Hid ((cl ++ sunkL cm (cm.take k)).length ≤ 72) := HBL.out k hk
          rw [List.take_of_length_le (by rw [HMl.out]; exact Nat.le_refl _)] at oc HTL
          generalize cl ++ sunkL cm cm = ls at oc HBad HTL
          rw [HMl.out] at HBad
          obtain ⟨p9, k9, rfl⟩ := row_slice oc
          clear HBL hlt of1 oc0 c3r
          by_cases h12 : 12 < k
          · have h12' : (12 : Int) < (k : Int) := by omega
            rw [if_pos h12] at HBad
            have hsl := SlT.one wr star
            have cA : Chg No wr (wr.alloc (.cells #[.string ⟨#[42]⟩] 9)) := (Chg.refl _ wr).alloc _
            have oA := OwnT.no oc cA
            have ccA := Chg.seq c cA
            have hbs := ccA.size
            have HG : Hid (∀ W5, (wr.alloc (.cells #[.string ⟨#[42]⟩] 9)).grownBy W5 (Value.slice p9 ls.length k9).ownBlock → Chg No w3 W5) := fun W5 hg => ccA.grown hg (fun q e => .inr (World.ownsRow.lt oc q e).1)
            have HJ3 : Hid (J = ([], rise (ls ++ [star]))) := by
              show _ = _
              rw [HJ2.out, HBad.out, if_neg (by simp)]
            obtain ⟨q, hq⟩ : ∃ q, ls.length + 1 = q := ⟨_, rfl⟩
            have HLq : Hid ((ls ++ [star]).length = q) := by show _ = _; rw [List.length_append]; exact hq
            have hq0 : (0 : Int) < (q : Int) := by omega
            have hq1 : q ≤ 73 := by have := HTL.out; omega
            gi_wp2_with (first
              | (gi_at_builtin; refine wpListIn_append_t _ rfl _ _ rfl w3.heap.size _ ls rfl oA (some ⟨wr.heap.size, 0, none⟩) 1 1 [star] rfl hsl (by have := HTL.out; omega) hbs ?_; intro v' w5 hown' hgrow' _; obtain ⟨p', c', rfl⟩ := row_slice hown'; have c5 := HG.out w5 hgrow'; have R5 := refRise_in _ (ls ++ [star]) (by rw [HLq.out]; omega) w5 (OwnT.sl hown'); have hs5 := c5.size; rw [HLq.out] at R5 ⊢))
            refine ⟨trivial, rfl, R5.mono ?_⟩
            rintro e w6 ⟨v6, rfl, r6, c6⟩
            gi_wp2
            go_ret2
            refine ⟨_, _, rfl, ?_, ?_, Chg.seq c03 (Chg.seq c5 c6)⟩
            · rw [HJ3.out]; exact OwnF.nil _ _
            · rw [HJ3.out]; exact OwnT.base r6 (by omega)
          · have h12' : ¬ (12 : Int) < (k : Int) := by omega
            rw [if_neg h12, List.append_nil] at HBad
            cases ls with
            | nil =>
              have HJ3 : Hid (J = (cm, [])) := by show _ = _; rw [HJ2.out, HBad.out, if_pos rfl]
              gi_wp2
              go_ret2
              refine ⟨_, _, rfl, ?_, ?_, Chg.seq c03 c⟩
              · rw [HJ3.out]; exact of.base hs03
              · rw [HJ3.out]; exact OwnT.nil _ _
            | cons z r =>
              have HJ3 : Hid (J = ([], rise (z :: r))) := by show _ = _; rw [HJ2.out, HBad.out, if_neg (by simp)]
              obtain ⟨q, hq⟩ : ∃ q, (z :: r).length = q := ⟨_, rfl⟩
              have hq1 : q ≤ 72 := by have := HTL.out; omega
              have hq0 : (0 : Int) < (q : Int) := by rw [List.length_cons] at hq; omega
              have R5 := refRise_in (.slice p9 (z :: r).length k9) (z :: r) (by omega) wr (OwnT.sl oc)
              have hs5 := c.size
              rw [hq] at R5 ⊢
              clear hq
              gi_wp2_with fail
              refine ⟨trivial, rfl, R5.mono ?_⟩
              rintro e w6 ⟨v6, rfl, r6, c6⟩
              gi_wp2
              go_ret2
              refine ⟨_, _, rfl, ?_, ?_, Chg.seq c03 (Chg.seq c c6)⟩
              · rw [HJ3.out]; exact OwnF.nil _ _
              · rw [HJ3.out]; exact OwnT.base r6 (by omega)

end Go.Proofs.YtndblaemladppaaGreatDoor
