/-
  The reference's own Apply.
-/
import Derived.Test.YtafaihbfhcpjiaaRTab
import Derived.Test.YtafaihbfhcpjiaaDApply
import Derived.Test.YtafaihbfhcpjiaaDPairs
namespace Go.Proofs.Ytafaihbfhcpjiaa
open Go.RowKit Go.Shelf Go.SeqLib Go.DiffLib Go.BigFrame
attribute [local go_sem] Oper.semAt_some

set_option maxRecDepth 100000 in
set_option maxHeartbeats 8000000 in
theorem refApply_in (v u vs : Value) (a b : List ByteArray) (stps : List (Int × Int × Int)) (w : World) (hv : SlV w v (a.map Value.string)) (hu : SlV w u (b.map Value.string)) (hs : SlS w vs stps) (ha : a.length ≤ 400) (hb : b.length ≤ 400) (hss : stps.length ≤ 1000) :
    CallsIn Fence.wide 0 Try.prog 13 #[v, u, vs] w fun e w' => appRes w (app a b stps) e w' ∧ Chg No w w' := by
  have hmix : Try.prog.follows .mixedOrders = true := by kernel_rfl
  obtain ⟨i0, hi, hz0, hz1, hz2⟩ := info_parts info9
  obtain ⟨p, cp, rfl, hp1, hp2, hpc⟩ := id hv
  obtain ⟨q, cq, rfl, hq1, hq2, hqc⟩ := id hu
  obtain ⟨ps, cs, rfl, hs1, hs2, hsc⟩ := id hs
  rw [List.length_map] at hp1 hq1
  obtain ⟨n, HN⟩ : ∃ n, Hid (a.length = n) := ⟨_, rfl⟩
  obtain ⟨m, HM⟩ : ∃ m, Hid (b.length = m) := ⟨_, rfl⟩
  obtain ⟨ns, HS⟩ : ∃ n, Hid (stps.length = n) := ⟨_, rfl⟩
  rw [List.length_map, HN.out] at hv
  rw [List.length_map, HM.out] at hu
  rw [HS.out] at hs hss hs1
  rw [List.length_map, List.length_map, HN.out, HM.out, HS.out]
  rw [HN.out] at ha hp1
  rw [HM.out] at hb hq1
  have hl := refGreat_in p q n m cp cq ha hb w
  have dA := hv.lt
  have dB := hu.lt
  have dS := SlE.lt eS_len (by decide) hs
  obtain ⟨tot, HTot⟩ : ∃ t, Hid (app a b stps = t) := ⟨_, rfl⟩
  rw [HTot.out]
  clear hpc hqc hsc
  refine callsIn_of_wp Try.func13 rfl trivial ?_
  simp only [Try.ntmps13, List.size_toArray, List.length_cons, List.length_nil, Nat.reduceAdd, Nat.reduceSub, Array.replicate_succ, Array.replicate_zero, List.push_toArray, List.append_toArray, List.nil_append, List.cons_append]
  gi_wp2_with fail
  refine ⟨trivial, rfl, hl.mono ?_⟩
  rintro e w1 ⟨rfl, rfl⟩
  clear hl
  gi_wp2
  gi_loopw [8, 9, 10, 11] (fun vm vi vj vk wr => ∃ (k ki kj : Nat) (acc : List ByteArray), k ≤ ns ∧ ki ≤ n ∧ kj ≤ m ∧ vk = .int .i64 (k : Int) ∧ vi = .int .i64 (ki : Int) ∧ vj = .int .i64 (kj : Int) ∧ Hid (acc.length = kj) ∧
      wr.ownsRow w1.heap.size 9 1 vm kj (acc.map Value.string) ∧ Hid ((app (a.drop ki) (b.drop kj) (stps.drop k)).map (fun t => acc ++ t) = tot) ∧ Chg No w1 wr) (fun vm vi vj vk _ => ns - (intOf vk).toNat)
  case atStart => exact ⟨0, 0, 0, [], Nat.zero_le _, Nat.zero_le _, Nat.zero_le _, rfl, rfl, rfl, rfl, World.ownsRow_nil _ _ _ _, by show _ = _; simpa using HTot.out, Chg.refl _ _⟩
  case round =>
    obtain ⟨k, ki, kj, acc, hk, hki, hkj, rfl, rfl, rfl, HAL, hr, HT, cw⟩ := hrel
    obtain ⟨pm, cm, rfl⟩ := row_slice hr
    by_cases hlt : k < ns
    · have hlt' : (k : Int) < (ns : Int) := by omega
      have hks : k < stps.length := by rw [HS.out]; exact hlt
      obtain ⟨x, hx⟩ : ∃ x, stps[k]? = some x := ⟨_, List.getElem?_eq_getElem hks⟩
      have sS : SlS wr (.slice ps ns cs) stps := SlE.no eS_len (by decide) hs cw
      obtain ⟨bs, os, rfl, q1, q2, q3⟩ := SlS.at sS k x hx
      have HTk : Hid (stps.drop k = x :: stps.drop (k + 1)) := by
        rw [List.drop_eq_getElem_cons hks]
        rw [List.getElem?_eq_getElem hks] at hx
        rw [Option.some.inj hx]
        exact rfl
      obtain ⟨s, o, nn⟩ := x
      simp only at q1 q2 q3
      clear hx hks
      have hr3 := hr.alloc (.cells #[.int .i64 s, .int .i64 o, .int .i64 nn] 40)
      have cw3 := cw.alloc (.cells #[.int .i64 s, .int .i64 o, .int .i64 nn] 40)
      have HBn : Hid (∀ k, Value.ownBlock (.slice pm kj cm) = some k → k ≠ wr.heap.size) := fun k hk => by
        have := hr.lt k hk
        omega
      have st3 : ApSt w1.heap.size wr.heap.size (s, o, nn) (.slice p n cp) a (.slice q m cq) b (.slice (some ⟨bs, os, none⟩) ns cs) stps (wr.alloc (.cells #[.int .i64 s, .int .i64 o, .int .i64 nn] 40)) := {
        a := (hv.no cw).no ((Chg.refl _ wr).alloc _)
        b := (hu.no cw).no ((Chg.refl _ wr).alloc _)
        s := SlE.no eS_len (by decide) sS ((Chg.refl _ wr).alloc _)
        c0 := World.cell?_alloc_at _ _ _ _ rfl
        c1 := World.cell?_alloc_at _ _ _ _ rfl
        c2 := World.cell?_alloc_at _ _ _ _ rfl
        da := dA
        db := dB
        ds := dS }
      have HAP := app_fit (a := a.drop ki) (b := b.drop kj) (x := (s, o, nn)) (r := stps.drop (k + 1))
      rw [List.length_drop, List.length_drop, HN.out, HM.out] at HAP
      have HFA : Hid (¬ (fitsB (s, o, nn) (n - ki) (m - kj) = true ∧ (a.drop ki).take s.toNat = (b.drop kj).take s.toNat) → tot = none) := fun h => by
        have := HT.out
        rw [HTk.out, HAP, if_neg h] at this
        exact this.symm
      have y0 := st3.c0
      have y1 := st3.c1
      have y2 := st3.c2
      obtain ⟨B, hB⟩ : ∃ B, wr.heap.size = B := ⟨_, rfl⟩
      obtain ⟨W3, hW3⟩ : ∃ W3, wr.alloc (.cells #[.int .i64 s, .int .i64 o, .int .i64 nn] 40) = W3 := ⟨_, rfl⟩
      rw [hW3, hB] at st3 y0 y1 y2
      rw [hW3] at hr3 cw3
      rw [hB] at HBn
      gi_upto_region 9 with (fail)
      clear q1 q2 q3 sS hW3 hB
      by_cases h1 : s < 0
      · obtain rfl := HFA.out (fun h => by have := of_decide_eq_true h.1; simp only at this; omega)
        clear HAP
        gi_wp2
        go_ret2
        exact ⟨rfl, cw3⟩
      by_cases h2 : o < 0
      · obtain rfl := HFA.out (fun h => by have := of_decide_eq_true h.1; simp only at this; omega)
        clear HAP
        gi_wp2
        go_ret2
        exact ⟨rfl, cw3⟩
      by_cases h3 : nn < 0
      · obtain rfl := HFA.out (fun h => by have := of_decide_eq_true h.1; simp only at this; omega)
        clear HAP
        gi_wp2
        go_ret2
        exact ⟨rfl, cw3⟩
      by_cases h4 : (n : Int) - (ki : Int) < s
      · obtain rfl := HFA.out (fun h => by have := of_decide_eq_true h.1; simp only at this; omega)
        clear HAP
        gi_wp2
        go_ret2
        exact ⟨rfl, cw3⟩
      by_cases h5 : (m : Int) - (kj : Int) < s
      · obtain rfl := HFA.out (fun h => by have := of_decide_eq_true h.1; simp only at this; omega)
        clear HAP
        gi_wp2
        go_ret2
        exact ⟨rfl, cw3⟩
      obtain ⟨s', rfl⟩ := Int.eq_ofNat_of_zero_le (show 0 ≤ s by omega)
      gi_wp2
      gi_loopw [8, 9, 10, 13] (fun vm vi vj vt wr => ∃ t : Nat, t ≤ s' ∧ vt = .int .i64 (t : Int) ∧ vi = .int .i64 ((ki + t : Nat) : Int) ∧ vj = .int .i64 ((kj + t : Nat) : Int) ∧ Hid ((a.drop ki).take t = (b.drop kj).take t) ∧ ApSt w1.heap.size B ((s' : Int), o, nn) (.slice p n cp) a (.slice q m cq) b (.slice (some ⟨bs, os, none⟩) ns cs) stps wr ∧
          wr.ownsRow w1.heap.size 9 1 vm (kj + t) ((acc ++ (a.drop ki).take t).map Value.string) ∧ Hid (∀ k, vm.ownBlock = some k → k ≠ B) ∧ Chg No w1 wr) (fun vm vi vj vt _ => s' - (intOf vt).toNat)
      case atStart => exact ⟨0, Nat.zero_le _, rfl, rfl, rfl, rfl, st3, by rw [List.take_zero, List.append_nil]; exact hr3, HBn, cw3⟩
      case round =>
        obtain ⟨t, ht, rfl, rfl, rfl, HTT, st, hrt, HBt, cwt⟩ := hrel
        obtain ⟨pt, ct, rfl⟩ := row_slice hrt
        have z0 := st.c0
        have z1 := st.c1
        have z2 := st.c2
        simp only at z0 z1 z2
        obtain ⟨I, hI⟩ : ∃ I, ki + t = I := ⟨_, rfl⟩
        obtain ⟨J, hJ⟩ : ∃ J, kj + t = J := ⟨_, rfl⟩
        have HIJ : Hid (ki + t = I ∧ kj + t = J) := ⟨hI, hJ⟩
        rw [hJ] at hrt HBt
        rw [hI, hJ]
        by_cases hts : t < s'
        · have hts' : (t : Int) < (s' : Int) := by omega
          have hIn : I < n := by omega
          have hJm : J < m := by omega
          have hIa : I < a.length := by rw [HN.out]; exact hIn
          have hJb : J < b.length := by rw [HM.out]; exact hJm
          obtain ⟨x, hx⟩ : ∃ x, a[I] = x := ⟨_, rfl⟩
          obtain ⟨y, hy⟩ : ∃ y, b[J] = y := ⟨_, rfl⟩
          have hgx : (a.drop ki)[t]? = some x := by rw [List.getElem?_drop, hI, List.getElem?_eq_getElem hIa, hx]
          have hgy : (b.drop kj)[t]? = some y := by rw [List.getElem?_drop, hJ, List.getElem?_eq_getElem hJb, hy]
          obtain ⟨ba, oa, rfl, hca⟩ : ∃ ba oa, p = some ⟨ba, oa, none⟩ ∧ wr.cell? ⟨ba, oa + I, none⟩ = some (.string x) := by
            obtain ⟨p', cap', e, _, _, hcc⟩ := st.a
            cases e
            exact hcc I (.string x) (by rw [List.getElem?_map, List.getElem?_eq_getElem hIa, hx]; rfl)
          obtain ⟨bb, ob, rfl, hcb⟩ : ∃ bb ob, q = some ⟨bb, ob, none⟩ ∧ wr.cell? ⟨bb, ob + J, none⟩ = some (.string y) := by
            obtain ⟨p', cap', e, _, _, hcc⟩ := st.b
            cases e
            exact hcc J (.string y) (by rw [List.getElem?_map, List.getElem?_eq_getElem hJb, hy]; rfl)
          clear hx hy hIa hJb
          have hIn' : (I : Int) < (n : Int) := by omega
          have hJm' : (J : Int) < (m : Int) := by omega
          by_cases hxy : x = y
          · have hb' : (x.toList == y.toList) = true := by rw [hxy]; simp
            have HT2 : Hid ((a.drop ki).take (t + 1) = (b.drop kj).take (t + 1)) := by
              show _ = _
              rw [List.take_add_one, List.take_add_one, HTT.out, hgx, hgy, hxy]
            have HAC : Hid ((acc ++ (a.drop ki).take t).map Value.string ++ [.string x] = (acc ++ (a.drop ki).take (t + 1)).map Value.string) := by
              show _ = _
              rw [List.take_add_one, hgx]
              simp
            have hmx : J + 1 ≤ maxLen := by unfold maxLen; omega
            clear hxy hgx hgy hI hJ
            gi_wp2
            refine wpIn_region_quiet_lit rfl hmix (by kernel_rfl) ?_
            repeat (gi_big_quiet_step (fail))
            refine wpQuietIn_nil ?_
            rintro w' ⟨j1, rfl⟩
            have hrt2 : (wr.drewN j1).ownsRow w1.heap.size 9 1 (.slice pt J ct) J ((acc ++ (a.drop ki).take t).map Value.string) := hrt
            have cwt2 : Chg No w1 (wr.drewN j1) := drewNC cwt j1
            have st2 := st.chg (drewNC (Chg.refl No wr) j1) (fun _ h => h.elim)
            have st2' := st2.chg ((Chg.refl No _).alloc (.cells #[.string x] 9)) (fun _ h => h.elim)
            have hbs : w1.heap.size ≤ ((wr.drewN j1).alloc (.cells #[.string x] 9)).heap.size := (cwt2.alloc _).size
            have hsz : (wr.drewN j1).heap.size = wr.heap.size := rfl
            have hcn := cells_new (wr.drewN j1) [.string x] 9
            gi_wp2_with (gi_at_builtin; refine wpListIn_append_at _ rfl _ _ 22 rfl w1.heap.size 9 i0 (.string ⟨#[]⟩) 1 16 Try.underlying22 hi hz0 hz1 hz2 rfl (by decide) _ _ _ rfl (hrt2.alloc _) ⟨wr.heap.size, 0, none⟩ 1 1 [.string x] rfl rfl hcn (by simp [Value.oneCell']) hmx (by omega) hbs ?_; intro v' w9 hown' hgrow _ hat; have c9 : Chg No w1 w9 := (cwt2.alloc _).grown hgrow (fun k e => .inr (hrt2.lt k e).1); obtain ⟨st9, hB9, _⟩ := st2'.grow (hrt2.alloc _) HBt.out hgrow hat)
            go_roundw
            case rel => exact ⟨t + 1, hts, by go_num, by rw [← Nat.add_assoc, HIJ.out.1]; go_num, by rw [← Nat.add_assoc, HIJ.out.2]; go_num, HT2, st9, by rw [← HAC.out, ← Nat.add_assoc, HIJ.out.2]; exact hown', hB9, c9⟩
            case measure => simp [intOf]; omega
          · have hb' : (x.toList == y.toList) = false := by rw [beq_eq_false_iff_ne]; exact fun h => hxy (text_ext h)
            obtain rfl := HFA.out (fun h => by
              have h9 := congrArg (fun l => l[t]?) h.2
              simp only [Int.toNat_natCast, List.getElem?_take, if_pos hts, hgx, hgy] at h9
              exact hxy (Option.some.inj h9))
            clear hxy hgx hgy hI hJ HAP
            gi_wp2
            refine wpIn_region_quiet_lit rfl hmix (by kernel_rfl) ?_
            repeat (gi_big_quiet_step (fail))
            refine wpQuietIn_nil ?_
            rintro w' ⟨j1, rfl⟩
            gi_wp2
            go_ret2
            exact ⟨rfl, drewNC cwt _⟩
        · obtain rfl : t = s' := by omega
          have hts' : ¬ (t : Int) < (t : Int) := by omega
          have hIn : I ≤ n := by omega
          have hJm : J ≤ m := by omega
          by_cases h6 : (n : Int) - (I : Int) < o
          · obtain rfl := HFA.out (fun h => by have := of_decide_eq_true h.1; simp only at this; omega)
            clear HAP hI hJ
            gi_wp2
            go_ret2
            exact ⟨rfl, cwt⟩
          by_cases h7 : (m : Int) - (J : Int) < nn
          · obtain rfl := HFA.out (fun h => by have := of_decide_eq_true h.1; simp only at this; omega)
            clear HAP hI hJ
            gi_wp2
            go_ret2
            exact ⟨rfl, cwt⟩
          obtain ⟨o', rfl⟩ := Int.eq_ofNat_of_zero_le (show 0 ≤ o by omega)
          obtain ⟨n', rfl⟩ := Int.eq_ofNat_of_zero_le (show 0 ≤ nn by omega)
          have hlb : (b.map Value.string).length = m := by rw [List.length_map]; exact HM.out
          obtain ⟨pb2, cb2, sB2, oB2, hcB2⟩ := SlV.mid st.b hlb J (J + n') (by omega) (by omega)
          rw [← List.map_take, ← List.map_drop, List.drop_take, show J + n' - J = n' by omega] at sB2
          rw [show J + n' - J = n' by omega] at hcB2
          rw [Int.natCast_add] at hcB2
          have HT2 : Hid ((app (a.drop (I + o')) (b.drop (J + n')) (stps.drop (k + 1))).map (fun r => (acc ++ (a.drop ki).take t ++ (b.drop J).take n') ++ r) = tot) := by
            have := HT.out
            rw [HTk.out, HAP, if_pos ⟨by
              refine decide_eq_true ?_
              simp only
              omega, by rw [Int.toNat_natCast]; exact HTT.out⟩, Option.map_map] at this
            simp only [Int.toNat_natCast, List.drop_drop] at this
            rw [← this, ← HIJ.out.1, ← HIJ.out.2, Nat.add_assoc, Nat.add_assoc]
            show _ = _
            congr 1
            funext r
            simp [List.append_assoc]
          have HL2 : Hid ((acc ++ (a.drop ki).take t ++ (b.drop J).take n').length = J + n') := by
            show _ = _
            rw [List.length_append, List.length_append, List.length_take, List.length_take, List.length_drop, List.length_drop, HN.out, HM.out, HAL.out]
            have := HIJ.out.2
            omega
          have hb4 : w1.heap.size ≤ wr.heap.size := cwt.size
          have hI2 : I + o' ≤ n := by omega
          have hJ2 : J + n' ≤ m := by omega
          clear HAP hI hJ
          gi_wp2_with (gi_at_builtin; refine wpListIn_append_sv _ rfl _ _ rfl w1.heap.size _ J _ rfl hrt pb2 n' cb2 ((b.drop J).take n') rfl sB2 (by omega) hb4 ?_; intro v6 W6 hown6 hgrow6 hat6; obtain ⟨st6, hB6, c6⟩ := st.grow hrt HBt.out hgrow6 hat6; have z3 := st6.c0; have z4 := st6.c1; have z5 := st6.c2)
          go_roundw
          case rel => exact ⟨k + 1, I + o', J + n', acc ++ (a.drop ki).take t ++ (b.drop J).take n', hlt, hI2, hJ2, by go_num, by go_num, by go_num, HL2, by rw [List.map_append]; exact hown6, HT2, cwt.trans c6 (fun k hk => .inr (hrt.lt k hk).1)⟩
          case measure => simp [intOf]; omega
    · obtain rfl : k = ns := by omega
      have hlt' : ¬ (k : Int) < (k : Int) := by omega
      have HD : Hid ((if a.drop ki = [] ∧ b.drop kj = [] then some acc else none) = tot) := by
        have := HT.out
        have hnil : stps.drop k = [] := List.drop_eq_nil_of_le (by rw [HS.out]; exact Nat.le_refl _)
        rw [hnil] at this
        rw [← this]
        show _ = _
        generalize a.drop ki = A
        generalize b.drop kj = C
        unfold app
        split <;> simp
      by_cases h1 : ki = n
      · have h1' : ((ki : Int) != (n : Int)) = false := by rw [h1]; simp
        by_cases h2 : kj = m
        · have h2' : ((kj : Int) != (m : Int)) = false := by rw [h2]; simp
          obtain rfl : tot = some acc := by
            rw [← HD.out, if_pos]
            exact ⟨List.drop_eq_nil_of_le (by rw [HN.out]; omega), List.drop_eq_nil_of_le (by rw [HM.out]; omega)⟩
          clear h1 h2
          gi_wp2
          go_ret2
          exact ⟨⟨_, rfl, by rw [HAL.out]; exact hr⟩, cw⟩
        · have h2' : ((kj : Int) != (m : Int)) = true := by rw [bne_iff_ne]; omega
          obtain rfl : tot = none := by
            rw [← HD.out, if_neg]
            rintro ⟨_, h⟩
            have := congrArg List.length h
            rw [List.length_drop, HM.out] at this
            simp at this
            omega
          clear h1 h2
          gi_wp2
          go_ret2
          exact ⟨rfl, cw⟩
      · have h1' : ((ki : Int) != (n : Int)) = true := by rw [bne_iff_ne]; omega
        obtain rfl : tot = none := by
          rw [← HD.out, if_neg]
          rintro ⟨h, _⟩
          have := congrArg List.length h
          rw [List.length_drop, HN.out] at this
          simp at this
          omega
        clear h1
        gi_wp2
        go_ret2
        exact ⟨rfl, cw⟩

end Go.Proofs.Ytafaihbfhcpjiaa
