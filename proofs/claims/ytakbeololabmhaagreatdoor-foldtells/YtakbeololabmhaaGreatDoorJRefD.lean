/-
  The document's own answer for join: Virtual.
-/
import Derived.Test.YtakbeololabmhaaGreatDoorG32
namespace Go.Proofs.YtakbeololabmhaaGreatDoor
open Go.RowKit Go.Shelf Go.SeqLib Go.DiffLib Go.TreeLib Go.TextLib Go.BigFrame
attribute [local go_sem] Oper.semAt_some

set_option maxRecDepth 100000 in
set_option maxHeartbeats 4000000 in
theorem jVir_in (vo va vb : Value) (o a b : List Fl) (w : World) (ho : SlF w vo o) (ha : SlF w va a) (hb : SlF w vb b) :
    CallsIn Fence.wide 0 Tryz.prog 29 #[vo, va, vb] w fun e w' =>
      ∃ v1, e = .returned v1 ∧ OwnF w' w.heap.size v1 (virJ o a b) ∧ Chg No w w' := by
  have M1 := refMay_in vo o w ho
  have M2 := fun W h => refMay_in va a W h
  have M3 := fun W h => refMay_in vb b W h
  obtain ⟨J, HJ⟩ : ∃ J, Hid (virJ o a b = J) := ⟨_, rfl⟩
  rw [HJ.out]
  have HNo : Hid (¬ (mayB o = true ∧ mayB a = true ∧ mayB b = true) → J = []) := fun h => by
    rw [← HJ.out]
    unfold virJ may3
    rw [if_neg (fun e => h (by simpa using e))]
  obtain ⟨mo, hmo⟩ : ∃ mo, mayB o = mo := ⟨_, rfl⟩
  obtain ⟨ma, hma⟩ : ∃ ma, mayB a = ma := ⟨_, rfl⟩
  obtain ⟨mb, hmb⟩ : ∃ mb, mayB b = mb := ⟨_, rfl⟩
  rw [hmo] at M1
  rw [hma] at M2
  rw [hmb] at M3
  have HMO : Hid (mayB o = mo) := hmo
  have HMA : Hid (mayB a = ma) := hma
  have HMB : Hid (mayB b = mb) := hmb
  clear hmo hma hmb
  refine callsIn_of_wp Tryz.func29 rfl trivial ?_
  simp only [Tryz.ntmps29, List.size_toArray, List.length_cons, List.length_nil, Nat.reduceAdd, Nat.reduceSub, Array.replicate_succ, Array.replicate_zero, List.push_toArray, List.append_toArray, List.nil_append, List.cons_append]
  gi_wp2_with fail
  refine ⟨trivial, rfl, M1.mono ?_⟩
  rintro e w1 ⟨rfl, c1⟩
  cases mo with
  | false =>
    obtain rfl : J = [] := HNo.out (fun e => by rw [HMO.out] at e; cases e.1)
    gi_wp2_with fail
    refine ⟨trivial, ?_⟩
    rename_i hKK
    apply hKK
    gi_wp2_with fail
    refine ⟨trivial, ?_⟩
    rename_i hKK
    apply hKK
    gi_wp2
    go_ret
    exact ⟨_, rfl, OwnF.nil _ _, c1⟩
  | true =>
  gi_wp2_with fail
  refine ⟨trivial, rfl, (M2 _ (ha.no c1)).mono ?_⟩
  rintro e w2 ⟨rfl, c2⟩
  have c02 := Chg.seq c1 c2
  cases ma with
  | false =>
    obtain rfl : J = [] := HNo.out (fun e => by rw [HMA.out] at e; cases e.2.1)
    gi_wp2_with fail
    refine ⟨trivial, ?_⟩
    rename_i hKK
    apply hKK
    gi_wp2
    go_ret
    exact ⟨_, rfl, OwnF.nil _ _, c02⟩
  | true =>
  gi_wp2_with fail
  refine ⟨trivial, rfl, (M3 _ (hb.no c02)).mono ?_⟩
  rintro e w3 ⟨rfl, c3⟩
  have c03 := Chg.seq c02 c3
  cases mb with
  | false =>
    obtain rfl : J = [] := HNo.out (fun e => by rw [HMB.out] at e; cases e.2.2)
    gi_wp2
    go_ret
    exact ⟨_, rfl, OwnF.nil _ _, c03⟩
  | true =>
  have h3 : IsTree o ∧ IsTree a ∧ IsTree b := ⟨mayB_iff.1 HMO.out, mayB_iff.1 HMA.out, mayB_iff.1 HMB.out⟩
  have HJ2 : Hid (J = ((out3 o a b).filter (fun f => !nested (out3 o a b) f.1)).take 12) := by
    show _ = _
    rw [← HJ.out]
    unfold virJ
    rw [if_pos (may3_iff.2 h3)]
  have A1 := jAll_in vo va vb o a b h3 w3 (ho.no c03) (ha.no c03) (hb.no c03)
  have hlen : (all3 o a b).length ≤ 36 := by
    have := all3_len o a b
    have := h3.1.len
    have := h3.2.1.len
    have := h3.2.2.len
    omega
  have HOL : Hid ((out3 o a b).length ≤ 36) := Nat.le_trans (outL_len o a b _) hlen
  generalize out3 o a b = out at A1 HOL HJ2
  generalize clashL o a b (all3 o a b) = cl at A1
  have hs03 := c03.size
  clear M1 M2 M3 HJ HNo HMO HMA HMB c1 c2 c02 c3 hlen h3
  gi_wp2_with fail
  refine ⟨trivial, rfl, A1.mono ?_⟩
  rintro e w4 ⟨vt, vc, rfl, rt, rc, c4⟩
  obtain ⟨pt, kt, rfl⟩ := rt.slice
  obtain ⟨pc, kc, rfl⟩ := row_slice rc
  have c04 := Chg.seq c03 c4
  have hs04 := c04.size
  obtain ⟨n, HN⟩ : ∃ n, Hid (out.length = n) := ⟨_, rfl⟩
  have hn36 : n ≤ 36 := by have := HOL.out; rw [HN.out] at this; exact this
  have hn0 : n ≤ 9223372036854775807 := by omega
  have st : SlF w4 (.slice pt out.length kt) out := rt.sl
  rw [HN.out] at st ⊢
  clear A1 rt rc
  gi_wp2
  gi_loopw [9, 10] (fun s9 s10 wr => ∃ k : Nat, k ≤ n ∧ s10 = .int .i64 (k : Int) ∧ OwnF wr w4.heap.size s9 ((out.take k).filter (fun f => !nested out f.1)) ∧ Hid (((out.take k).filter (fun f => !nested out f.1)).length ≤ 12) ∧ Chg No w4 wr) (fun _ s10 _ => n - (intOf s10).toNat)
  case atStart => exact ⟨0, Nat.zero_le _, rfl, OwnF.nil _ _, Nat.zero_le _, Chg.refl _ _⟩
  case round =>
    obtain ⟨k, hk, rfl, ho9, HL, c⟩ := hrel
    have HTk : Hid (∃ r, out.filter (fun f => !nested out f.1) = (out.take k).filter (fun f => !nested out f.1) ++ r) := by
      refine ⟨(out.drop k).filter (fun f => !nested out f.1), ?_⟩
      rw [← List.filter_append, List.take_append_drop]
    by_cases hlt : k < n
    · have hlt' : (k : Int) < (n : Int) := by omega
      have hko : k < out.length := by rw [HN.out]; exact hlt
      obtain ⟨x, hx⟩ : ∃ x, out[k]? = some x := ⟨_, List.getElem?_eq_getElem hko⟩
      have HT : Hid ((out.take (k + 1)).filter (fun f => !nested out f.1) = (out.take k).filter (fun f => !nested out f.1) ++ (if nested out x.1 = true then [] else [x])) := by
        show _ = _
        rw [List.take_add_one, hx, List.filter_append]
        show _ ++ List.filter _ [x] = _
        by_cases h : nested out x.1 = true
        · rw [if_pos h, List.filter_cons_of_neg (by rw [h]; decide)]; rfl
        · rw [if_neg h, List.filter_cons_of_pos (by simpa using h)]; rfl
      obtain ⟨b1, o1, rfl, hc1, hc2⟩ := SlF.at (st.no c) k x hx
      have U1 := jUnder_in (.slice (some ⟨b1, o1, none⟩) n kt) out x.1 wr (st.no c)
      generalize nested out x.1 = u at U1 HT
      generalize (out.take k).filter (fun f => !nested out f.1) = fs at ho9 HT HL HTk
      obtain ⟨p9, k9, rfl⟩ := ho9.slice
      obtain ⟨m, hm⟩ : ∃ m, fs.length = m := ⟨_, rfl⟩
      have HM : Hid (fs.length = m) := hm
      clear hm
      have ho9' : OwnF wr w4.heap.size (.slice p9 m k9) fs := by rw [← HM.out]; exact ho9
      rw [HM.out] at HL ⊢
      clear ho9
      by_cases h12 : m < 12
      · have h12' : (m : Int) < (12 : Int) := by omega
        gi_wp2_with fail
        refine ⟨trivial, rfl, U1.mono ?_⟩
        rintro e wq ⟨rfl, cq⟩
        have ccq := Chg.seq c cq
        obtain ⟨b2, o2, e2, hd1, hd2⟩ := SlF.at (st.no ccq) k x hx
        cases e2
        have o9 := ho9'.no cq
        clear U1 hc1 hc2 ho9' c cq hx hko
        cases u with
        | true =>
          rw [if_pos rfl, List.append_nil] at HT
          gi_wp2
          refine ⟨⟨k + 1, hlt, by go_num, by rw [HT.out]; exact o9, by rw [HT.out]; exact Nat.le_trans (Nat.le_of_eq HM.out) HL.out, ccq⟩, by simp [intOf]; omega⟩
        | false =>
          rw [if_neg Bool.false_ne_true] at HT
          have hsl := SlF.one wq x
          have cA : Chg No wq (wq.alloc (.cells #[.string x.1, .string x.2] 49)) := (Chg.refl _ wq).alloc _
          have oA := o9.no cA
          have ccA := Chg.seq ccq cA
          have hbs := ccA.size
          gi_wp2_with (gi_at_builtin; refine wpListIn_append_sf _ rfl _ _ rfl w4.heap.size _ fs rfl oA (some ⟨wq.heap.size, 0, none⟩) 1 1 [x] rfl hsl (by have := HM.out; omega) hbs ?_; intro v' w5 hown' hgrow' _; obtain ⟨p', c', rfl⟩ := hown'.slice)
          refine ⟨⟨k + 1, hlt, by go_num, by rw [HT.out]; rw [List.length_append, HM.out] at hown'; rw [HM.out]; exact hown', by rw [HT.out]; show _ ≤ 12; rw [List.length_append, HM.out, List.length_singleton]; omega, ccA.grown hgrow' (fun q e => .inr (World.ownsRow.lt o9 q e).1)⟩, by simp [intOf]; omega⟩
      · have h12' : ¬ (m : Int) < (12 : Int) := by omega
        have HE : Hid (J = fs) := by
          obtain ⟨r, hr⟩ := HTk.out
          show _ = _
          rw [HJ2.out, hr, List.take_left' (by rw [HM.out]; have : m ≤ 12 := HL.out; omega)]
        gi_wp2
        go_ret
        exact ⟨_, rfl, by rw [HE.out]; exact ho9'.base hs04, Chg.seq c04 c⟩
    · obtain rfl : k = n := by omega
      have hlt' : ¬ (k : Int) < (k : Int) := by omega
      rw [List.take_of_length_le (by rw [HN.out]; exact Nat.le_refl _)] at ho9 HL
      have HE : Hid (J = out.filter (fun f => !nested out f.1)) := by
        show _ = _
        rw [HJ2.out, List.take_of_length_le HL.out]
      gi_wp2
      go_ret
      exact ⟨_, rfl, by rw [HE.out]; exact ho9.base hs04, Chg.seq c04 c⟩

end Go.Proofs.YtakbeololabmhaaGreatDoor
