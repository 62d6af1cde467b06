/-
  ThreeAhead answers true at every four lists of texts, and turns nothing that lay.
-/
import Derived.Test.YtfpceedjkmkidaaTSidesW
import Derived.Test.YtfpceedjkmkidaaLoudP
namespace Go.Proofs.Ytfpceedjkmkidaa
open Go.RowKit Go.Shelf Go.SeqLib Go.DiffLib Go.BigFrame
attribute [local go_sem] Oper.semAt_some

theorem cnt_take (ps : List (Prt ByteArray)) (k : Nat) (p : Prt ByteArray) (hk : ps[k]? = some p) : cnt (ps.take (k + 1)) = cnt (ps.take k) + if p.c = true then 1 else 0 := by
  obtain ⟨h1, h2⟩ := List.getElem?_eq_some_iff.1 hk
  unfold cnt
  rw [List.take_succ_eq_append_getElem h1, List.countP_append, h2]
  cases hc : p.c <;> simp [hc]
theorem cnt_le (ps : List (Prt ByteArray)) (k : Nat) : cnt (ps.take k) ≤ k := by
  unfold cnt
  have h1 := List.countP_le_length (p := fun p : Prt ByteArray => p.c) (l := ps.take k)
  rw [List.length_take] at h1
  omega

theorem gather_length : ∀ (ps : List (Prt ByteArray)) (c : List ByteArray), gather ps = some c → c.length ≤ (ps.flatMap (·.a)).length + (ps.flatMap (·.b)).length
  | [], c, h => by cases h; simp
  | p :: ps, c, h => by
    rw [gather_cons] at h
    split at h
    · cases h
    · cases hg : gather ps with
      | none => rw [hg] at h; cases h
      | some t =>
        rw [hg] at h
        cases h
        have ih := gather_length ps t hg
        have hp : (pick p).length ≤ p.a.length + p.b.length := by unfold pick; split <;> omega
        simp only [List.flatMap_cons, List.length_append]
        omega
theorem mrg_length {o a b c : List ByteArray} (h : mrg o a b = some c) : c.length ≤ a.length + b.length := by
  have := gather_length _ c h
  rw [parts_a, parts_b] at this
  exact this
/-- A guarded operation that is wanted. -/
theorem wpListIn_wanted {F : Fence} {n : Nat} {P : Program} {w : World} {ops : Array Oper} {rest : List Oper} {o : Oper} {a : Act} {Q : Exit → Act → World → Prop} (hw : Region.wanted o (yielded ops a.tmps) = true)
    (h : wpListIn F n P ops Q ({ o with guard := none } :: rest) a w) : wpListIn F n P ops Q (o :: rest) a w := by
  unfold wpListIn at h ⊢
  rw [if_pos (by simp [Region.wanted])] at h
  rw [if_pos hw]
  exact h

set_option maxRecDepth 100000 in
set_option maxHeartbeats 8000000 in
theorem ahead_law (ph : Option Addr) (lh ch : Nat) (h : List ByteArray) (p : Option Addr) (lo cp : Nat) (o : List ByteArray) (q : Option Addr) (la cq : Nat) (a : List ByteArray) (r : Option Addr) (lb cr : Nat) (b : List ByteArray) (w : World) (hh : SlV w (.slice ph lh ch) (h.map Value.string)) (hlh : h.length = lh) (hv : SlV w (.slice p lo cp) (o.map Value.string)) (hlo : o.length = lo) (hu : SlV w (.slice q la cq) (a.map Value.string)) (hla : a.length = la) (ht : SlV w (.slice r lb cr) (b.map Value.string)) (hlb : b.length = lb) :
    CallsIn Fence.wide 0 Try.prog 7 #[.slice ph lh ch, .slice p lo cp, .slice q la cq, .slice r lb cr] w fun e w' => e = .returned (.bool true) ∧ Chg No w w' := by
  have LH : Hid (h.length = lh) := hlh
  have LO : Hid (o.length = lo) := hlo
  have LA : Hid (a.length = la) := hla
  have LB : Hid (b.length = lb) := hlb
  clear hlh hlo hla hlb
  refine callsIn_of_wp Try.func7 rfl trivial ?_
  simp only [Try.ntmps7, List.size_toArray, List.length_cons, List.length_nil, Nat.reduceAdd, Nat.reduceSub, Array.replicate_succ, Array.replicate_zero, List.push_toArray, List.append_toArray, List.nil_append, List.cons_append]
  gi_wp2_with fail
  refine ⟨trivial, rfl, (great3_in p q r lo la lb cp cq cr o a b w hv hu ht).mono ?_⟩
  rintro e w0 ⟨rfl, rfl⟩
  obtain ⟨g, hg⟩ : ∃ g, (greatB o 30 20 || (greatB a 30 20 || greatB b 30 20)) = g := ⟨_, rfl⟩
  rw [hg]
  cases g with
  | true =>
    gi_wp2_with fail
    refine ⟨trivial, ?_⟩
    rename_i hKK
    apply hKK
    gi_wp2_with fail
    refine ⟨trivial, rfl, (awake_in _).mono ?_⟩
    rintro e w1 ⟨rfl, c1⟩
    gi_wp2
    go_ret
    exact ⟨rfl, c1⟩
  | false =>
    obtain ⟨h1, h2, h3⟩ := great3_false hg
    rw [LO.out] at h1
    rw [LA.out] at h2
    rw [LB.out] at h3
    clear hg
    gi_wp2_with fail
    refine ⟨trivial, rfl, (great_in _ h 20 20 _ hh).mono ?_⟩
    rintro e w0' ⟨rfl, rfl⟩
    obtain ⟨g, hg⟩ : ∃ g, greatB h 20 20 = g := ⟨_, rfl⟩
    rw [hg]
    cases g with
    | true =>
      clear hg
      gi_wp2_with fail
      refine ⟨trivial, rfl, (awake_in _).mono ?_⟩
      rintro e w1 ⟨rfl, c1⟩
      gi_wp2
      go_ret
      exact ⟨rfl, c1⟩
    | false =>
      have h4 := (greatB_false hg).1
      rw [LH.out] at h4
      clear hg
      rename_i wr _
      have hn0 : ∀ W : World, W.ownsRow W.heap.size 9 1 (.slice none 0 0) 0 [] := fun W => World.ownsRow_nil _ _ _ _
      gi_wp2_with (first
        | (gi_at_builtin; refine wpListIn_append_sv _ rfl _ _ rfl w0'.heap.size _ 0 _ rfl (hn0 w0') ph lh ch h rfl (hh) (by omega) (Nat.le_refl _) ?_; intro v1 X1 own1 grow1 hat1; rw [Nat.zero_add, List.nil_append] at own1; have d1 : Chg No w0' X1 := (Chg.refl _ w0').grown grow1 (fun k e => by cases e); obtain ⟨e1, f1, rfl⟩ := row_slice own1)
        | (gi_at_builtin; refine wpListIn_append_sv _ rfl _ _ rfl w0'.heap.size _ lh _ rfl own1 p lo cp o rfl ((hv).no d1) (by omega) d1.size ?_; intro v2 X2 own2 grow2 hat2; rw [← List.map_append] at own2; have d2 : Chg No w0' X2 := d1.grown grow2 (fun k e => .inr (own1.lt k e).1); obtain ⟨e2, f2, rfl⟩ := row_slice own2; have sx0 : SlV X2 (.slice e2 (lh + lo) f2) ((h ++ o).map Value.string) := SlV.ofRow (by rw [List.length_map, List.length_append, LH.out, LO.out]; exact own2); have cx2 : Chg No w0' X2 := d2)
        | (gi_at_builtin; refine wpListIn_append_sv _ rfl _ _ rfl X2.heap.size _ 0 _ rfl (hn0 X2) ph lh ch h rfl (hh.no cx2) (by omega) (Nat.le_refl _) ?_; intro v3 X3 own3 grow3 hat3; rw [Nat.zero_add, List.nil_append] at own3; have d3 : Chg No X2 X3 := (Chg.refl _ X2).grown grow3 (fun k e => by cases e); obtain ⟨e3, f3, rfl⟩ := row_slice own3)
        | (gi_at_builtin; refine wpListIn_append_sv _ rfl _ _ rfl X2.heap.size _ lh _ rfl own3 q la cq a rfl ((hu.no cx2).no d3) (by omega) d3.size ?_; intro v4 X4 own4 grow4 hat4; rw [← List.map_append] at own4; have d4 : Chg No X2 X4 := d3.grown grow4 (fun k e => .inr (own3.lt k e).1); obtain ⟨e4, f4, rfl⟩ := row_slice own4; have sx1 : SlV X4 (.slice e4 (lh + la) f4) ((h ++ a).map Value.string) := SlV.ofRow (by rw [List.length_map, List.length_append, LH.out, LA.out]; exact own4); have cx4 : Chg No w0' X4 := Chg.seq cx2 d4)
        | (gi_at_builtin; refine wpListIn_append_sv _ rfl _ _ rfl X4.heap.size _ 0 _ rfl (hn0 X4) ph lh ch h rfl (hh.no cx4) (by omega) (Nat.le_refl _) ?_; intro v5 X5 own5 grow5 hat5; rw [Nat.zero_add, List.nil_append] at own5; have d5 : Chg No X4 X5 := (Chg.refl _ X4).grown grow5 (fun k e => by cases e); obtain ⟨e5, f5, rfl⟩ := row_slice own5)
        | (gi_at_builtin; refine wpListIn_append_sv _ rfl _ _ rfl X4.heap.size _ lh _ rfl own5 r lb cr b rfl ((ht.no cx4).no d5) (by omega) d5.size ?_; intro v6 X6 own6 grow6 hat6; rw [← List.map_append] at own6; have d6 : Chg No X4 X6 := d5.grown grow6 (fun k e => .inr (own5.lt k e).1); obtain ⟨e6, f6, rfl⟩ := row_slice own6; have sx2 : SlV X6 (.slice e6 (lh + lb) f6) ((h ++ b).map Value.string) := SlV.ofRow (by rw [List.length_map, List.length_append, LH.out, LB.out]; exact own6); have cx6 : Chg No w0' X6 := Chg.seq cx4 d6)
        | fail)
      have y0 := (sx0.no d4).no d6
      have y1 := sx1.no d6
      have y2 := sx2
      have vv := hv.no cx6
      have uu := hu.no cx6
      have tt := ht.no cx6
      have hhh := hh.no cx6
      clear own1 own2 own3 own4 own5 own6 grow1 grow2 grow3 grow4 grow5 grow6 hat1 hat2 hat3 hat4 hat5 hat6 sx0 sx1 sx2 d1 d2 d3 d4 d5 d6 cx2 cx4 hv hu ht hh
      have M1 := merge_tells _ _ _ o a b X6 vv uu tt (by rw [LO.out]; omega) (by rw [LA.out]; omega) (by rw [LB.out]; omega)
      generalize hm : mrg o a b = mm at *
      have HM : Hid (mrg o a b = mm) := hm
      clear hm
      refine ⟨trivial, rfl, M1.mono ?_⟩
      rintro e Y1 ⟨pm, nm, cm, rfl, sM, k1⟩
      clear M1
      have M2 := merge_tells _ _ _ (h ++ o) (h ++ a) (h ++ b) Y1 (y0.no k1) (y1.no k1) (y2.no k1) (by rw [List.length_append, LH.out, LO.out]; omega) (by rw [List.length_append, LH.out, LA.out]; omega) (by rw [List.length_append, LH.out, LB.out]; omega)
      rw [mrg_head, HM.out] at M2
      obtain ⟨z, hz⟩ : ∃ z, mm.isSome = z := ⟨_, rfl⟩
      have HZ : Hid (mm.isSome = z) := hz
      have hz2 : (mm.map (fun t => h ++ t)).isSome = z := by rw [Option.isSome_map]; exact hz
      rw [hz2] at M2
      rw [hz]
      clear hz hz2
      gi_wp2_with fail
      refine ⟨trivial, rfl, M2.mono ?_⟩
      rintro e Y2 ⟨pn, nn, cn, rfl, sN, k2⟩
      clear M2
      have kk2 := Chg.seq k1 k2
      have P1 := parts_in _ _ _ o a b Y2 (vv.no kk2) (uu.no kk2) (tt.no kk2) (by rw [LO.out]; omega) (by rw [LA.out]; omega) (by rw [LB.out]; omega)
      have hnn : nn = (((mm.map (fun t => h ++ t)).getD []).map Value.string).length := by obtain ⟨_, _, e, _⟩ := sN; cases e; rfl
      have sM2 := sM.no k2
      clear sM
      have hzz : (z != z) = false := by simp
      have hz0 : z = false → nn = 0 := by
        intro e
        rw [e] at HZ
        have : mm = none := by cases mm with | none => rfl | some x => exact absurd HZ.out (by simp)
        rw [hnn, this]; rfl
      have HNZ : Hid (z = false → nn = 0) := hz0
      clear hnn hz0
      cases z with
      | true =>
        gi_wp2_with fail
        refine ⟨trivial, rfl, P1.mono ?_⟩
        rintro e Y3 ⟨v3, rfl, ⟨rs1, PA1⟩, k3⟩
        clear P1
        have P2 := parts_in _ _ _ (h ++ o) (h ++ a) (h ++ b) Y3 ((y0.no kk2).no k3) ((y1.no kk2).no k3) ((y2.no kk2).no k3) (by rw [List.length_append, LH.out, LO.out]; omega) (by rw [List.length_append, LH.out, LA.out]; omega) (by rw [List.length_append, LH.out, LB.out]; omega)
        gi_wp2_with fail
        refine ⟨trivial, rfl, P2.mono ?_⟩
        rintro e Y4 ⟨v4, rfl, ⟨rs2, PA2⟩, k4⟩
        clear P2
        have PA1' := PA1.no k4
        have HC : Hid (cnt (parts (h ++ o) (h ++ a) (h ++ b)) = cnt (parts o a b)) := cnt_head h o a b
        have hb1 := parts_length o a b
        have hb2 := parts_length (h ++ o) (h ++ a) (h ++ b)
        rw [LO.out] at hb1
        rw [List.length_append, LH.out, LO.out] at hb2
        generalize parts o a b = ps1 at *
        generalize parts (h ++ o) (h ++ a) (h ++ b) = ps2 at *
        have sR1 : SlR Y4 v3 rs1 := SlE.ofRow eR_len PA1'.row
        have sR2 : SlR Y4 v4 rs2 := SlE.ofRow eR_len PA2.row
        obtain ⟨p3, c3, rfl⟩ := row_slice PA1.row
        obtain ⟨p4, c4, rfl⟩ := row_slice PA2.row
        obtain ⟨n1, HN1⟩ : ∃ n, Hid (rs1.length = n) := ⟨_, rfl⟩
        obtain ⟨n2, HN2⟩ : ∃ n, Hid (rs2.length = n) := ⟨_, rfl⟩
        have HP1 : Hid (ps1.length = n1) := by show _ = _; rw [← PA1.len, HN1.out]
        have HP2 : Hid (ps2.length = n2) := by show _ = _; rw [← PA2.len, HN2.out]
        rw [HP1.out] at hb1
        rw [HP2.out] at hb2
        rw [HN1.out] at sR1 ⊢
        rw [HN2.out] at sR2 ⊢
        have HR1 : Hid (∀ (i : Nat) (r : PRow), rs1[i]? = some r → ∃ p : Prt ByteArray, ps1[i]? = some p ∧ r.1 = p.c) := fun i r hr => by obtain ⟨p, h1, h2, _⟩ := PA1.at hr; exact ⟨p, h1, h2⟩
        have HR2 : Hid (∀ (i : Nat) (r : PRow), rs2[i]? = some r → ∃ p : Prt ByteArray, ps2[i]? = some p ∧ r.1 = p.c) := fun i r hr => by obtain ⟨p, h1, h2, _⟩ := PA2.at hr; exact ⟨p, h1, h2⟩
        have k34 := Chg.seq k3 k4
        have sM4 := sM2.no k34
        have sN4 := sN.no k34
        have hh4 := (hhh.no kk2).no k34
        have cAll : Chg No w0' Y4 := Chg.seq (Chg.seq cx6 kk2) k34
        clear PA1 PA1' PA2 k3 k4 k34 sM2 sN hhh y0 y1 y2 vv uu tt k1 k2 kk2
        gi_wp2
        gi_loopw [18, 19] (fun v18 v19 wr => ∃ k : Nat, k ≤ n1 ∧ v19 = .int .i64 (k : Int) ∧ v18 = .int .i64 (cnt (ps1.take k) : Int) ∧ wr = Y4) (fun v18 v19 _ => n1 - (intOf v19).toNat)
        case atStart => exact ⟨0, Nat.zero_le _, rfl, rfl, rfl⟩
        case round =>
          obtain ⟨k, hk, rfl, rfl, rfl⟩ := hrel
          by_cases hlt : k < n1
          · have hlt' : (k : Int) < (n1 : Int) := by omega
            obtain ⟨x, hx⟩ : ∃ x, rs1[k]? = some x := ⟨_, List.getElem?_eq_getElem (by rw [HN1.out]; exact hlt)⟩
            obtain ⟨pp, hpp, hxc⟩ := HR1.out k x hx
            obtain ⟨b1, o1, rfl, x1, _⟩ := SlR.at sR1 k x hx
            have hct := cnt_take ps1 k pp hpp
            have hcl := cnt_le ps1 k
            rw [← hxc] at hct
            have HCT : Hid (cnt (ps1.take (k + 1)) = cnt (ps1.take k) + if x.1 = true then 1 else 0) := hct
            clear hct hxc hpp hx
            generalize cnt (ps1.take k) = ck at *
            obtain ⟨xc, _⟩ := x
            simp only at x1 HCT
            cases xc with
            | true =>
              gi_wp2
              go_roundw
              case rel => exact ⟨k + 1, hlt, by go_num, by rw [HCT.out]; go_num, trivial⟩
              case measure => simp [intOf]; omega
            | false =>
              gi_wp2
              go_roundw
              case rel => exact ⟨k + 1, hlt, by go_num, by rw [HCT.out]; go_num, trivial⟩
              case measure => simp [intOf]; omega
          · obtain rfl : k = n1 := by omega
            have hlt' : ¬ (k : Int) < (k : Int) := by omega
            have hct : cnt (ps1.take k) = cnt ps1 := by rw [List.take_of_length_le (by rw [HP1.out]; exact Nat.le_refl _)]
            have hcl := cnt_le ps1 k
            rw [hct] at hcl ⊢
            clear hct hlt
            rw [← HC.out] at hcl ⊢
            gi_wp2
            gi_loopw [18, 20] (fun v18 v20 wr2 => ∃ j : Nat, j ≤ n2 ∧ v20 = .int .i64 (j : Int) ∧ v18 = .int .i64 ((cnt ps2 : Int) - (cnt (ps2.take j) : Int)) ∧ wr2 = wr) (fun v18 v20 _ => n2 - (intOf v20).toNat)
            case atStart => exact ⟨0, Nat.zero_le _, rfl, by simp [cnt], rfl⟩
            case round =>
              obtain ⟨j, hj, rfl, rfl, rfl⟩ := hrel
              by_cases hlt : j < n2
              · have hlt' : (j : Int) < (n2 : Int) := by omega
                obtain ⟨x, hx⟩ : ∃ x, rs2[j]? = some x := ⟨_, List.getElem?_eq_getElem (by rw [HN2.out]; exact hlt)⟩
                obtain ⟨pp, hpp, hxc⟩ := HR2.out j x hx
                obtain ⟨b1, o1, rfl, x1, _⟩ := SlR.at sR2 j x hx
                have hct := cnt_take ps2 j pp hpp
                have hcl2 := cnt_le ps2 j
                rw [← hxc] at hct
                have HCT : Hid (cnt (ps2.take (j + 1)) = cnt (ps2.take j) + if x.1 = true then 1 else 0) := hct
                clear hct hxc hpp hx
                generalize cnt (ps2.take j) = ck at *
                generalize cnt ps2 = ca at *
                obtain ⟨xc, _⟩ := x
                simp only at x1 HCT
                cases xc with
                | true =>
                  gi_wp2
                  go_roundw
                  case rel => exact ⟨j + 1, hlt, by go_num, by rw [HCT.out]; simp only [if_true]; go_num, trivial⟩
                  case measure => simp [intOf]; omega
                | false =>
                  gi_wp2
                  go_roundw
                  case rel => exact ⟨j + 1, hlt, by go_num, by rw [HCT.out]; simp, trivial⟩
                  case measure => simp [intOf]; omega
              · obtain rfl : j = n2 := by omega
                have hlt' : ¬ (j : Int) < (j : Int) := by omega
                have hct : (cnt ps2 : Int) - (cnt (ps2.take j) : Int) = 0 := by rw [List.take_of_length_le (by rw [HP2.out]; exact Nat.le_refl _)]; omega
                rw [hct]
                clear hct hlt hcl
                obtain ⟨c, rfl⟩ : ∃ c, mm = some c := Option.isSome_iff_exists.1 HZ.out
                simp only [Option.getD_some, Option.map_some] at sM4 sN4
                obtain ⟨lm, HLM⟩ : ∃ n, Hid (c.length = n) := ⟨_, rfl⟩
                obtain rfl : nm = lm := by obtain ⟨_, _, e, _⟩ := sM4; cases e; rw [List.length_map]; exact HLM.out
                have hnm : nm ≤ 60 := by rw [← HLM.out]; have := mrg_length HM.out; rw [LA.out, LB.out] at this; omega
                gi_wp2_with (first
                  | (gi_at_builtin; refine wpListIn_wanted rfl ?_; refine wpListIn_append_sv _ rfl _ _ rfl wr.heap.size _ 0 _ rfl (hn0 wr) ph lh ch h rfl hh4 (by omega) (Nat.le_refl _) ?_; intro u1 Z1 own1 grow1 hat1; rw [Nat.zero_add, List.nil_append] at own1; have d1 : Chg No wr Z1 := (Chg.refl _ wr).grown grow1 (fun k e => by cases e); obtain ⟨q1, f1, rfl⟩ := row_slice own1)
                  | (gi_at_builtin; refine wpListIn_wanted rfl ?_; refine wpListIn_append_sv _ rfl _ _ rfl wr.heap.size _ lh _ rfl own1 pm nm cm c rfl (sM4.no d1) (by omega) d1.size ?_; intro u2 Z2 own2 grow2 hat2; rw [← List.map_append] at own2; have d2 : Chg No wr Z2 := d1.grown grow2 (fun k e => .inr (own1.lt k e).1); obtain ⟨q2, f2, rfl⟩ := row_slice own2; have sZ : SlV Z2 (.slice q2 (lh + nm) f2) ((h ++ c).map Value.string) := SlV.ofRow (by rw [List.length_map, List.length_append, LH.out, HLM.out]; exact own2))
                  | fail)
                refine ⟨trivial, rfl, (sameS_in _ _ _ _ _ (sN4.no d2) sZ).mono ?_⟩
                rintro e Z3 ⟨rfl, k3⟩
                rw [decide_eq_true rfl]
                gi_wp2_with fail
                refine ⟨trivial, rfl, (awake_in _).mono ?_⟩
                rintro e Z4 ⟨rfl, k4⟩
                gi_wp2
                go_ret
                exact ⟨rfl, Chg.seq (Chg.seq (Chg.seq cAll d2) k3) k4⟩
      | false =>
        obtain rfl : nn = 0 := HNZ.out rfl
        gi_wp2_with fail
        refine ⟨trivial, rfl, P1.mono ?_⟩
        rintro e Y3 ⟨v3, rfl, ⟨rs1, PA1⟩, k3⟩
        clear P1
        have P2 := parts_in _ _ _ (h ++ o) (h ++ a) (h ++ b) Y3 ((y0.no kk2).no k3) ((y1.no kk2).no k3) ((y2.no kk2).no k3) (by rw [List.length_append, LH.out, LO.out]; omega) (by rw [List.length_append, LH.out, LA.out]; omega) (by rw [List.length_append, LH.out, LB.out]; omega)
        gi_wp2_with fail
        refine ⟨trivial, rfl, P2.mono ?_⟩
        rintro e Y4 ⟨v4, rfl, ⟨rs2, PA2⟩, k4⟩
        clear P2
        have PA1' := PA1.no k4
        have HC : Hid (cnt (parts (h ++ o) (h ++ a) (h ++ b)) = cnt (parts o a b)) := cnt_head h o a b
        have hb1 := parts_length o a b
        have hb2 := parts_length (h ++ o) (h ++ a) (h ++ b)
        rw [LO.out] at hb1
        rw [List.length_append, LH.out, LO.out] at hb2
        generalize parts o a b = ps1 at *
        generalize parts (h ++ o) (h ++ a) (h ++ b) = ps2 at *
        have sR1 : SlR Y4 v3 rs1 := SlE.ofRow eR_len PA1'.row
        have sR2 : SlR Y4 v4 rs2 := SlE.ofRow eR_len PA2.row
        obtain ⟨p3, c3, rfl⟩ := row_slice PA1.row
        obtain ⟨p4, c4, rfl⟩ := row_slice PA2.row
        obtain ⟨n1, HN1⟩ : ∃ n, Hid (rs1.length = n) := ⟨_, rfl⟩
        obtain ⟨n2, HN2⟩ : ∃ n, Hid (rs2.length = n) := ⟨_, rfl⟩
        have HP1 : Hid (ps1.length = n1) := by show _ = _; rw [← PA1.len, HN1.out]
        have HP2 : Hid (ps2.length = n2) := by show _ = _; rw [← PA2.len, HN2.out]
        rw [HP1.out] at hb1
        rw [HP2.out] at hb2
        rw [HN1.out] at sR1 ⊢
        rw [HN2.out] at sR2 ⊢
        have HR1 : Hid (∀ (i : Nat) (r : PRow), rs1[i]? = some r → ∃ p : Prt ByteArray, ps1[i]? = some p ∧ r.1 = p.c) := fun i r hr => by obtain ⟨p, h1, h2, _⟩ := PA1.at hr; exact ⟨p, h1, h2⟩
        have HR2 : Hid (∀ (i : Nat) (r : PRow), rs2[i]? = some r → ∃ p : Prt ByteArray, ps2[i]? = some p ∧ r.1 = p.c) := fun i r hr => by obtain ⟨p, h1, h2, _⟩ := PA2.at hr; exact ⟨p, h1, h2⟩
        have k34 := Chg.seq k3 k4
        have sM4 := sM2.no k34
        have sN4 := sN.no k34
        have hh4 := (hhh.no kk2).no k34
        have cAll : Chg No w0' Y4 := Chg.seq (Chg.seq cx6 kk2) k34
        clear PA1 PA1' PA2 k3 k4 k34 sM2 sN hhh y0 y1 y2 vv uu tt k1 k2 kk2
        gi_wp2
        gi_loopw [18, 19] (fun v18 v19 wr => ∃ k : Nat, k ≤ n1 ∧ v19 = .int .i64 (k : Int) ∧ v18 = .int .i64 (cnt (ps1.take k) : Int) ∧ wr = Y4) (fun v18 v19 _ => n1 - (intOf v19).toNat)
        case atStart => exact ⟨0, Nat.zero_le _, rfl, rfl, rfl⟩
        case round =>
          obtain ⟨k, hk, rfl, rfl, rfl⟩ := hrel
          by_cases hlt : k < n1
          · have hlt' : (k : Int) < (n1 : Int) := by omega
            obtain ⟨x, hx⟩ : ∃ x, rs1[k]? = some x := ⟨_, List.getElem?_eq_getElem (by rw [HN1.out]; exact hlt)⟩
            obtain ⟨pp, hpp, hxc⟩ := HR1.out k x hx
            obtain ⟨b1, o1, rfl, x1, _⟩ := SlR.at sR1 k x hx
            have hct := cnt_take ps1 k pp hpp
            have hcl := cnt_le ps1 k
            rw [← hxc] at hct
            have HCT : Hid (cnt (ps1.take (k + 1)) = cnt (ps1.take k) + if x.1 = true then 1 else 0) := hct
            clear hct hxc hpp hx
            generalize cnt (ps1.take k) = ck at *
            obtain ⟨xc, _⟩ := x
            simp only at x1 HCT
            cases xc with
            | true =>
              gi_wp2
              go_roundw
              case rel => exact ⟨k + 1, hlt, by go_num, by rw [HCT.out]; go_num, trivial⟩
              case measure => simp [intOf]; omega
            | false =>
              gi_wp2
              go_roundw
              case rel => exact ⟨k + 1, hlt, by go_num, by rw [HCT.out]; go_num, trivial⟩
              case measure => simp [intOf]; omega
          · obtain rfl : k = n1 := by omega
            have hlt' : ¬ (k : Int) < (k : Int) := by omega
            have hct : cnt (ps1.take k) = cnt ps1 := by rw [List.take_of_length_le (by rw [HP1.out]; exact Nat.le_refl _)]
            have hcl := cnt_le ps1 k
            rw [hct] at hcl ⊢
            clear hct hlt
            rw [← HC.out] at hcl ⊢
            gi_wp2
            gi_loopw [18, 20] (fun v18 v20 wr2 => ∃ j : Nat, j ≤ n2 ∧ v20 = .int .i64 (j : Int) ∧ v18 = .int .i64 ((cnt ps2 : Int) - (cnt (ps2.take j) : Int)) ∧ wr2 = wr) (fun v18 v20 _ => n2 - (intOf v20).toNat)
            case atStart => exact ⟨0, Nat.zero_le _, rfl, by simp [cnt], rfl⟩
            case round =>
              obtain ⟨j, hj, rfl, rfl, rfl⟩ := hrel
              by_cases hlt : j < n2
              · have hlt' : (j : Int) < (n2 : Int) := by omega
                obtain ⟨x, hx⟩ : ∃ x, rs2[j]? = some x := ⟨_, List.getElem?_eq_getElem (by rw [HN2.out]; exact hlt)⟩
                obtain ⟨pp, hpp, hxc⟩ := HR2.out j x hx
                obtain ⟨b1, o1, rfl, x1, _⟩ := SlR.at sR2 j x hx
                have hct := cnt_take ps2 j pp hpp
                have hcl2 := cnt_le ps2 j
                rw [← hxc] at hct
                have HCT : Hid (cnt (ps2.take (j + 1)) = cnt (ps2.take j) + if x.1 = true then 1 else 0) := hct
                clear hct hxc hpp hx
                generalize cnt (ps2.take j) = ck at *
                generalize cnt ps2 = ca at *
                obtain ⟨xc, _⟩ := x
                simp only at x1 HCT
                cases xc with
                | true =>
                  gi_wp2
                  go_roundw
                  case rel => exact ⟨j + 1, hlt, by go_num, by rw [HCT.out]; simp only [if_true]; go_num, trivial⟩
                  case measure => simp [intOf]; omega
                | false =>
                  gi_wp2
                  go_roundw
                  case rel => exact ⟨j + 1, hlt, by go_num, by rw [HCT.out]; simp, trivial⟩
                  case measure => simp [intOf]; omega
              · obtain rfl : j = n2 := by omega
                have hlt' : ¬ (j : Int) < (j : Int) := by omega
                have hct : (cnt ps2 : Int) - (cnt (ps2.take j) : Int) = 0 := by rw [List.take_of_length_le (by rw [HP2.out]; exact Nat.le_refl _)]; omega
                rw [hct]
                clear hct hlt hcl
                gi_wp2_with fail
                refine ⟨trivial, ?_⟩
                rename_i hKK
                apply hKK
                gi_wp2_with fail
                refine ⟨trivial, rfl, (awake_in _).mono ?_⟩
                rintro e Z4 ⟨rfl, k4⟩
                gi_wp2
                go_ret
                exact ⟨rfl, Chg.seq cAll k4⟩

end Go.Proofs.Ytfpceedjkmkidaa
