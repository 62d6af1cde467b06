/-
  The document's own answers: how two lists of files are unlike, what comes of changes; the statements' own comparison of two lists of changes.
-/
import Derived.Test.YtndblaemladppaaCApply
import Derived.Test.YtndblaemladppaaFRefP
import Derived.Test.YtndblaemladppaaFRefS
namespace Go.Proofs.Ytndblaemladppaa
open Go.RowKit Go.Shelf Go.SeqLib Go.DiffLib Go.TreeLib Go.BigFrame
attribute [local go_sem] Oper.semAt_some

theorem isC31 : IsC 27 31 := ⟨Try.underlying27, by kernel_rfl⟩

set_option maxRecDepth 100000 in
set_option maxHeartbeats 4000000 in
theorem sameC_in (v u : Value) (cs : List Chn) (w : World) (hv : SlC w v cs) (hu : SlC w u cs) :
    CallsIn Fence.wide 0 Try.prog 9 #[v, u] w fun e w' => e = .returned (.bool true) ∧ Chg No w w' := by
  have hmix : Try.prog.follows .mixedOrders = true := by kernel_rfl
  obtain ⟨p, c1, rfl, _, hc1⟩ := hv.slice
  obtain ⟨q, c2, rfl, _, _⟩ := hu.slice
  have hn0 : cs.length ≤ 9223372036854775807 := by unfold maxLen at hc1; omega
  obtain ⟨n, HN⟩ : ∃ n, Hid (cs.length = n) := ⟨_, rfl⟩
  rw [HN.out] at hv hu hn0 ⊢
  clear hc1
  refine callsIn_of_wp Try.func9 rfl trivial ?_
  simp only [Try.ntmps9, List.size_toArray, List.length_cons, List.length_nil, Nat.reduceAdd, Nat.reduceSub, Array.replicate_succ, Array.replicate_zero, List.push_toArray, List.append_toArray, List.nil_append, List.cons_append]
  have he : ((n : Int) != (n : Int)) = false := by simp
  gi_wp2
  gi_loopw [5] (fun i wr => ∃ k : Nat, k ≤ n ∧ i = .int .i64 (k : Int) ∧ Chg No w wr) (fun i _ => n - (intOf i).toNat)
  case atStart => exact ⟨0, Nat.zero_le _, rfl, Chg.refl _ _⟩
  case round =>
    obtain ⟨k, hk, rfl, c⟩ := hrel
    by_cases hlt : k < n
    · have hlt' : (k : Int) < (n : Int) := by omega
      have hkc : k < cs.length := by rw [HN.out]; exact hlt
      obtain ⟨x, hx⟩ : ∃ x, cs[k]? = some x := ⟨_, List.getElem?_eq_getElem hkc⟩
      obtain ⟨b1, o1, rfl, x1, x2, x3, x4, x5⟩ := SlC.at (hv.no c) k x hx
      obtain ⟨b2, o2, rfl, y1, y2, y3, y4, y5⟩ := SlC.at (hu.no c) k x hx
      clear hx
      obtain ⟨a1, a2, a3, a4, a5⟩ := x
      dsimp only at x1 x2 x3 x4 x5 y1 y2 y3 y4 y5
      have q1 : (a1.toList == a1.toList) = true := beq_self_eq_true _
      have q2 : (a2 == a2) = true := beq_self_eq_true _
      have q3 : (a3 == a3) = true := beq_self_eq_true _
      have q4 : (a4.toList == a4.toList) = true := beq_self_eq_true _
      have q5 : (a5.toList == a5.toList) = true := beq_self_eq_true _
      gi_wp2
      refine region_quiet_sees hmix (by kernel_rfl) ?_
      repeat (gi_big_quiet_step (fail))
      refine wpQuietIn_nil ?_
      rintro w' ⟨j, rfl⟩
      gi_wp2
      refine ⟨⟨k + 1, hlt, by go_num, drewNC c _⟩, by simp [intOf]; omega⟩
    · obtain rfl : k = n := by omega
      have hlt' : ¬ (k : Int) < (k : Int) := by omega
      gi_wp2
      go_ret
      exact ⟨rfl, c⟩

set_option maxRecDepth 100000 in
set_option maxHeartbeats 4000000 in
theorem refOf_in (v u : Value) (a b : List Fl) (ha : a.length ≤ 400) (hb : b.length ≤ 400) (w : World) (hv : SlF w v a) (hu : SlF w u b) : CallsIn Fence.wide 0 Try.prog 11 #[v, u] w fun e w' =>
    ∃ v', e = .returned v' ∧ OwnC 31 w' w.heap.size v' (ofP a b) ∧ Chg No w w' := by
  obtain ⟨pa, ka, ea, _, _⟩ := hv.slice
  obtain ⟨na, hna⟩ : ∃ na, a.length = na := ⟨_, rfl⟩
  obtain ⟨pb, kb, eb, _, _⟩ := hu.slice
  obtain ⟨nb, hnb⟩ : ∃ nb, b.length = nb := ⟨_, rfl⟩
  rw [hna] at ea
  rw [hnb] at eb
  have HA : Hid (a.length = na) := hna
  have HB : Hid (b.length = nb) := hnb
  have c0 : Chg No w (w.alloc (.cells #[v, u] 22)) := (Chg.refl _ w).alloc _
  have sp : SlV (w.alloc (.cells #[v, u] 22)) (.slice (some ⟨w.heap.size, 0, none⟩) 2 2) [v, u] := SlV.made w [v, u] 22 (by simp)
  have P1 := refPaths_in (.slice (some ⟨w.heap.size, 0, none⟩) 2 2) [(v, a), (u, b)] (w.alloc (.cells #[v, u] 22)) sp (by
    intro q hq
    rcases List.mem_cons.1 hq with rfl | hq
    · exact hv.no c0
    · rw [List.mem_singleton.1 hq]; exact hu.no c0) (by simp [toldP]; omega)
  rw [show ([(v, a), (u, b)].map (·.2)) = [a, b] from rfl] at P1
  have HO : Hid (ofP a b = difs a b (paths [a, b])) := rfl
  have hpl := paths_len a b
  generalize paths [a, b] = out at P1 HO hpl
  have hpl2 : out.length ≤ 2000 := by omega
  clear sp hpl hna hnb
  subst ea eb
  refine callsIn_of_wp Try.func11 rfl trivial ?_
  simp only [Try.ntmps11, List.size_toArray, List.length_cons, List.length_nil, Nat.reduceAdd, Nat.reduceSub, Array.replicate_succ, Array.replicate_zero, List.push_toArray, List.append_toArray, List.nil_append, List.cons_append]
  gi_wp2_with fail
  refine ⟨trivial, rfl, P1.mono ?_⟩
  rintro e w1 ⟨tv, rfl, r1, c1⟩
  have c01 := Chg.seq c0 c1
  have st : SlV w1 tv (out.map Value.string) := OwnT.sl r1
  obtain ⟨pt, kt, rfl⟩ := row_slice r1
  have hs01 := c01.size
  have hv1 := hv.no c01
  have hu1 := hu.no c01
  clear P1 r1 c0 c1
  obtain ⟨n, HN⟩ : ∃ n, Hid (out.length = n) := ⟨_, rfl⟩
  rw [HN.out] at st hpl2 ⊢
  have hn0 : n ≤ 9223372036854775807 := by omega
  gi_wp2
  gi_loopw [5, 7] (fun s5 s7 wr => ∃ k : Nat, k ≤ n ∧ s7 = .int .i64 (k : Int) ∧ OwnC 31 wr w1.heap.size s5 (difs a b (out.take k)) ∧ Chg No w1 wr) (fun _ s7 _ => n - (intOf s7).toNat)
  case atStart => exact ⟨0, Nat.zero_le _, rfl, OwnC.nil _ _ _, Chg.refl _ _⟩
  case round =>
    obtain ⟨k, hk, rfl, hown, c⟩ := hrel
    by_cases hlt : k < n
    · have hlt' : (k : Int) < (n : Int) := by omega
      have hko : k < out.length := by rw [HN.out]; exact hlt
      have st2 := st.no c
      obtain ⟨p2, cap2, e2, _, _, hcells⟩ := st2
      rw [List.length_map, HN.out] at e2
      cases e2
      obtain ⟨bb, off, rfl, hcw⟩ := hcells k (.string out[k]) (by simp [hko])
      have HCW : Hid (∀ W', Chg No wr W' → W'.cell? ⟨bb, off + k, none⟩ = some (.string out[k])) := fun W' c' => by
        obtain ⟨_, _, e9, _, _, h9⟩ := (st.no c).no c'
        cases e9
        obtain ⟨_, _, e8, h8⟩ := h9 k (.string out[k]) (by simp [hko])
        cases e8
        exact h8
      have HT : Hid (out.take (k + 1) = out.take k ++ [out[k]]) := by show _ = _; rw [List.take_succ_eq_append_getElem hko]
      have hdl : (difs a b (out.take k)).length ≤ 2000 := by
        refine Nat.le_trans (difs_length _ _ _) ?_
        rw [List.length_take]
        omega
      generalize out[k] = p at hcw HT HCW
      have HD : Hid (difs a b (out.take (k + 1)) = if atP a p = atP b p then difs a b (out.take k) else difs a b (out.take k) ++ [chOf a b p]) := by
        show _ = _
        rw [HT.out, difs_snoc]
      generalize difs a b (out.take k) = ds at hown hdl HD
      obtain ⟨pv, cv, rfl⟩ := hown.slice
      have A1 := refGet_in (.slice pa na ka) a p wr (hv1.no c)
      have A2 := fun W h => refGet_in (.slice pb nb kb) b p W h
      unfold chOf at HD
      have HPa : Hid (atP a p = ((TreeLib.get a p).isSome, getD a p)) := rfl
      have HPb : Hid (atP b p = ((TreeLib.get b p).isSome, getD b p)) := rfl
      rw [HPa.out, HPb.out] at HD
      generalize (TreeLib.get a p).isSome = x1 at A1 HD
      generalize getD a p = x2 at A1 HD
      generalize (TreeLib.get b p).isSome = y1 at A2 HD
      generalize getD b p = y2 at A2 HD
      clear hcells HPa HPb HT
      gi_wp2_with fail
      refine ⟨trivial, rfl, A1.mono ?_⟩
      rintro e w2 ⟨rfl, c2⟩
      have hcw2 := HCW.out _ c2
      gi_wp2_with fail
      refine ⟨trivial, rfl, (A2 _ (hu1.no (Chg.seq c c2))).mono ?_⟩
      rintro e w3 ⟨rfl, c3⟩
      have c23 := Chg.seq c2 c3
      have c13 := Chg.seq c c23
      have hcw3 := HCW.out _ c23
      have hown3 := hown.no c23
      clear A1 A2 c2 c3 c hown HCW hcw hcw2
      by_cases hx : x1 = y1
      · have e1 : (x1 == y1) = true := by rw [hx]; exact beq_self_eq_true _
        by_cases hy : x2 = y2
        · have e2 : (x2.toList == y2.toList) = true := by rw [hy]; exact beq_self_eq_true _
          rw [if_pos (by rw [hx, hy])] at HD
          clear hx hy
          gi_wp2
          refine ⟨⟨k + 1, hlt, by go_num, by rw [HD.out]; exact hown3, c13⟩, by simp [intOf]; omega⟩
        · have e2 : (x2.toList == y2.toList) = false := eqR_false hy
          rw [if_neg (fun e => hy (congrArg Prod.snd e))] at HD
          clear hx hy
          have cA : Chg No w3 (w3.alloc (.cells #[.string p, .bool x1, .bool y1, .string x2, .string y2] 31)) := (Chg.refl _ w3).alloc _
          have hsl := SlC.one 31 w3 (p, x1, y1, x2, y2)
          have hown4 := hown3.no cA
          have c14 := Chg.seq c13 cA
          have hbs := c14.size
          have hlow : ∀ q, Value.ownBlock (.slice pv ds.length cv) = some q → w1.heap.size ≤ q := fun q hq => (World.ownsRow.lt hown3 q hq).1
          gi_wp2_with (gi_at_builtin; refine wpListIn_append_sc isC31 _ rfl _ _ rfl w1.heap.size _ ds rfl hown4 (some ⟨w3.heap.size, 0, none⟩) 1 1 [(p, x1, y1, x2, y2)] rfl hsl (by omega) hbs ?_; intro v' w4 hown' hgrow hat; obtain ⟨p', cap', rfl⟩ := hown'.slice)
          refine ⟨⟨k + 1, hlt, by go_num, ?_, c14.grown hgrow (fun q e => .inr (hlow q e))⟩, by simp [intOf]; omega⟩
          rw [HD.out]
          rw [List.length_append] at hown'
          exact hown'
      · have e1 : (x1 == y1) = false := beq_eq_false_iff_ne.2 hx
        rw [if_neg (fun e => hx (congrArg Prod.fst e))] at HD
        clear hx
        have cA : Chg No w3 (w3.alloc (.cells #[.string p, .bool x1, .bool y1, .string x2, .string y2] 31)) := (Chg.refl _ w3).alloc _
        have hsl := SlC.one 31 w3 (p, x1, y1, x2, y2)
        have hown4 := hown3.no cA
        have c14 := Chg.seq c13 cA
        have hbs := c14.size
        have hlow : ∀ q, Value.ownBlock (.slice pv ds.length cv) = some q → w1.heap.size ≤ q := fun q hq => (World.ownsRow.lt hown3 q hq).1
        gi_wp2_with (gi_at_builtin; refine wpListIn_append_sc isC31 _ rfl _ _ rfl w1.heap.size _ ds rfl hown4 (some ⟨w3.heap.size, 0, none⟩) 1 1 [(p, x1, y1, x2, y2)] rfl hsl (by omega) hbs ?_; intro v' w4 hown' hgrow hat; obtain ⟨p', cap', rfl⟩ := hown'.slice)
        refine ⟨⟨k + 1, hlt, by go_num, ?_, c14.grown hgrow (fun q e => .inr (hlow q e))⟩, by simp [intOf]; omega⟩
        rw [HD.out]
        rw [List.length_append] at hown'
        exact hown'
    · obtain rfl : k = n := by omega
      have hlt' : ¬ (k : Int) < (k : Int) := by omega
      have HD : Hid (difs a b (out.take k) = ofP a b) := by show _ = _; rw [HO.out, List.take_of_length_le (by rw [HN.out]; exact Nat.le_refl _)]
      rw [HD.out] at hown
      gi_wp2
      go_ret
      exact ⟨_, rfl, hown.base hs01, Chg.seq c01 c⟩

/-- What holds while a file is put in: till then nothing, then what comes of it. -/
structure PutInv (W0 : World) (zs : List Fl) (d : Nat → Bool) (u : Nat → Value) (W : World) : Prop where
  chg : Chg No W0 W
  f : d 11 = true → OwnF W W0.heap.size (u 11) zs

set_option maxRecDepth 100000 in
set_option maxHeartbeats 4000000 in
theorem refApply_in (v u : Value) (zs : List Fl) (cs : List Chn) (hlen : zs.length + cs.length ≤ 100) (w : World) (hv : SlF w v zs) (hu : SlC w u cs) : CallsIn Fence.wide 0 Try.prog 8 #[v, u] w fun e w' =>
    ∃ v', e = .returned (.tuple #[v', .bool (appB zs cs)]) ∧ OwnF w' w.heap.size v' (appL zs cs) ∧ Chg No w w' := by
  have hmix : Try.prog.follows .mixedOrders = true := by kernel_rfl
  obtain ⟨pu, ku, rfl, hu1, hu2⟩ := hu.slice
  obtain ⟨pv, kv, ev, _, _⟩ := hv.slice
  obtain ⟨n, HN⟩ : ∃ n, Hid (cs.length = n) := ⟨_, rfl⟩
  rw [HN.out] at hu hu1 hlen ⊢
  have hn0 : n ≤ 9223372036854775807 := by omega
  clear hu1 hu2
  obtain ⟨A0, HA0⟩ : ∃ A0, Hid (appP zs cs = A0) := ⟨_, rfl⟩
  have HG : Hid (appL zs cs = A0.getD [] ∧ appB zs cs = A0.isSome) := by unfold appL appB; rw [HA0.out]; exact ⟨rfl, rfl⟩
  rw [HG.out.1, HG.out.2]
  clear HG
  obtain ⟨m, hm⟩ : ∃ m, zs.length = m := ⟨_, rfl⟩
  rw [hm] at hlen ev
  have HM : Hid (zs.length = m) := hm
  clear hm
  subst ev
  refine callsIn_of_wp Try.func8 rfl trivial ?_
  simp only [Try.ntmps8, List.size_toArray, List.length_cons, List.length_nil, Nat.reduceAdd, Nat.reduceSub, Array.replicate_succ, Array.replicate_zero, List.push_toArray, List.append_toArray, List.nil_append, List.cons_append]
  gi_wp2_with (gi_at_builtin; refine wpListIn_append_sf _ rfl _ _ rfl w.heap.size _ [] rfl (OwnF.nil _ _) pv m kv zs rfl hv (by simp; omega) (Nat.le_refl _) ?_; intro v1 w1 hown hgrow _; have c1 : Chg No w w1 := (Chg.refl _ w).grown hgrow (fun k e => by cases e); have r1 : OwnF w1 w.heap.size v1 zs := hown; clear hown hgrow; obtain ⟨p1, k1, rfl⟩ := r1.slice)
  gi_loopw [6, 7] (fun s6 s7 wr => ∃ (k : Nat) (ts : List Fl), k ≤ n ∧ s7 = .int .i64 (k : Int) ∧ Hid (appP ts (cs.drop k) = A0) ∧ ts.length ≤ m + k ∧ OwnF wr w.heap.size s6 ts ∧ Chg No w wr) (fun _ s7 _ => n - (intOf s7).toNat)
  case atStart => exact ⟨0, zs, Nat.zero_le _, rfl, HA0, Nat.le_of_eq HM.out, r1, c1⟩
  case round =>
    obtain ⟨k, ts, hk, rfl, HA, htl, hown, c⟩ := hrel
    obtain ⟨pt, kt, rfl⟩ := hown.slice
    by_cases hlt : k < n
    · have hlt' : (k : Int) < (n : Int) := by omega
      have hkc : k < cs.length := by rw [HN.out]; exact hlt
      obtain ⟨x, hx⟩ : ∃ x, cs[k] = x := ⟨_, rfl⟩
      have HA2 : Hid (appP ts (x :: cs.drop (k + 1)) = A0) := by
        have := HA.out
        rw [List.drop_eq_getElem_cons hkc, hx] at this
        exact this
      have hx' : cs[k]? = some x := by rw [List.getElem?_eq_getElem hkc, hx]
      obtain ⟨b1, o1, rfl, hc1, hc2, hc3, hc4, hc5⟩ := SlC.at (hu.no c) k x hx'
      clear hx HA
      obtain ⟨p, q1, q2, od, nw⟩ := x
      dsimp only at hc1 hc2 hc3 hc4 hc5
      have G1 := refGet_in (.slice pt ts.length kt) ts p wr hown.sl
      obtain ⟨gs, hgs⟩ : ∃ gs, getD ts p = gs := ⟨_, rfl⟩
      obtain ⟨gb, hgb⟩ : ∃ gb, (TreeLib.get ts p).isSome = gb := ⟨_, rfl⟩
      have HX : Hid (atP ts p = (gb, gs)) := by show _ = _; rw [atP_get, hgs, hgb]
      rw [hgs, hgb] at G1
      clear hgs hgb hc2 hc3 hc4 hc5
      gi_wp2_with fail
      refine ⟨trivial, rfl, G1.mono ?_⟩
      rintro e w2 ⟨rfl, c2⟩
      have c02 := Chg.seq c c2
      obtain ⟨b2, o2, e2, hd1, hd2, hd3, hd4, hd5⟩ := SlC.at (hu.no c02) k _ hx'
      cases e2
      dsimp only at hd1 hd2 hd3 hd4 hd5
      have hown2 := hown.no c2
      have hwl := withP_length ts (p, q1, q2, od, nw)
      have hs02 := c02.size
      have HF : Hid (∀ W, Chg No w2 W → OwnF W w.heap.size (.slice pt ts.length kt) ts) := fun W h => hown2.no h
      clear G1 hown c c2 hc1 hx'
      by_cases h1 : gb = q1
      · have e1 : (gb == q1) = true := by rw [h1]; exact beq_self_eq_true _
        by_cases h2 : gs = od
        · have e2 : (gs.toList == od.toList) = true := by rw [h2]; exact beq_self_eq_true _
          have HA3 : Hid (appP (withP ts (p, q1, q2, od, nw)) (cs.drop (k + 1)) = A0) := by
            have := HA2.out
            unfold appP at this
            rw [if_pos (show atP ts p = (q1, od) by rw [HX.out, h1, h2])] at this
            exact this
          clear h1 h2 HA2 HX
          cases q2 with
          | true =>
            have HW : Hid (withP ts (p, q1, true, od, nw) = TreeLib.put ts p nw) := rfl
            rw [HW.out] at HA3 hwl
            clear HW
            have hany := After.any w2
            have f1 : ∀ c : After w2, c.val.cell? ⟨b1, o1 + k * 5, none⟩ = some (.string p) := fun c => c.cell hd1
            have f5 : ∀ c : After w2, c.val.cell? ⟨b1, o1 + k * 5 + 4, none⟩ = some (.string nw) := fun c => c.cell hd5
            gi_wp2
            refine region_loudG (fun i => i == 11) (fun w' => ∃ c : After w2, w' = c.val) (PutInv w2 (TreeLib.put ts p nw)) (fun _ => .slice none 0 0) hmix (by kernel_rfl) (by kernel_rfl) (fun d u W h => ⟨⟨W, h.chg⟩, rfl⟩)
              ⟨(Chg.refl _ w2).drew, fun h => (by cases h)⟩ (fun u hu => ?_)
            clear hu
            simp only [hushE, Nat.reduceAdd, Nat.reduceBEq, if_true, if_false, Bool.false_eq_true]
            repeat (gi_big_quiet_step (fail))
            refine wpQuietIn_nil ⟨?_, ?_, ?_⟩
            · intro i o ho hm
              simp only [beq_iff_eq] at hm
              subst hm
              cases ho; rfl
            · intro j o d W hjo hm hd hwt hI
              simp only [beq_iff_eq] at hm
              subst hm
              cases hjo
              refine LeadsV.call (f := 19) (args := #[.slice pt ts.length kt, .string p, .string nw]) (by simp [go_sem]) ((refPut_in (.slice pt ts.length kt) ts p nw (by omega) W (HF.out W hI.chg).sl).mono ?_)
              rintro e W' ⟨v', rfl, r', c'⟩
              exact ⟨v', rfl, Chg.seq hI.chg c', fun _ => r'.base hI.chg.size⟩
            · intro d W hall hI
              have h11 := hI.f (hall 11 rfl (by simp))
              have cW := Chg.seq c02 hI.chg
              gi_wp2
              refine ⟨⟨k + 1, _, hlt, by go_num, HA3, by omega, h11.base hs02, cW⟩, by simp [intOf]; omega⟩
          | false =>
            have HW : Hid (withP ts (p, q1, false, od, nw) = TreeLib.drop ts p) := rfl
            rw [HW.out] at HA3 hwl
            clear HW
            gi_wp2_with fail
            refine ⟨trivial, rfl, (refDrop_in (.slice pt ts.length kt) ts p (by omega) _ hown2.sl).mono ?_⟩
            rintro e w3 ⟨v3, rfl, r3, c3⟩
            gi_wp2
            refine ⟨⟨k + 1, _, hlt, by go_num, HA3, by omega, r3.base hs02, Chg.seq c02 c3⟩, by simp [intOf]; omega⟩
        · have e2 : (gs.toList == od.toList) = false := eqR_false h2
          obtain rfl : A0 = none := by
            have := HA2.out
            unfold appP at this
            rw [if_neg (show ¬ atP ts p = (q1, od) by rw [HX.out]; exact fun e => h2 (congrArg Prod.snd e))] at this
            exact this.symm
          clear h1 h2 HA2 HX
          gi_wp2
          go_ret2
          exact ⟨_, rfl, OwnF.nil _ _, c02⟩
      · have e1 : (gb == q1) = false := beq_eq_false_iff_ne.2 h1
        obtain rfl : A0 = none := by
          have := HA2.out
          unfold appP at this
          rw [if_neg (show ¬ atP ts p = (q1, od) by rw [HX.out]; exact fun e => h1 (congrArg Prod.fst e))] at this
          exact this.symm
        clear h1 HA2 HX
        gi_wp2
        go_ret2
        exact ⟨_, rfl, OwnF.nil _ _, c02⟩
    · obtain rfl : k = n := by omega
      have hlt' : ¬ (k : Int) < (k : Int) := by omega
      obtain rfl : A0 = some ts := by
        have := HA.out
        rw [List.drop_eq_nil_of_le (by rw [HN.out]; exact Nat.le_refl _)] at this
        exact this.symm
      gi_wp2
      go_ret2
      exact ⟨_, rfl, hown, c⟩

end Go.Proofs.Ytndblaemladppaa
