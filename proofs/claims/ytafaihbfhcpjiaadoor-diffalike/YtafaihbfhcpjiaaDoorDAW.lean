/-
  DiffAlike answers true at every two lists of numbers, and turns nothing that lay, where the library's table of powers is laid.
-/
import Derived.Test.YtafaihbfhcpjiaaDoorDAwake
import Derived.Test.YtafaihbfhcpjiaaDoorDStepsI
import Derived.Test.YtafaihbfhcpjiaaDoorDApplyI
import Derived.Test.YtafaihbfhcpjiaaDoorDItoa
import Derived.Test.YtafaihbfhcpjiaaDoorSameI
namespace Go.Proofs.YtafaihbfhcpjiaaDoor
open Go.RowKit Go.Shelf Go.SeqLib Go.DiffLib Go.BigFrame
attribute [local go_sem] Oper.semAt_some

theorem SlI.slV {W : World} {v : Value} {zs : List Int} (h : SlI W v zs) : SlV W v (zs.map (Value.int .i64)) := by
  obtain ⟨p, cap, rfl, h1, h2, hc⟩ := h
  refine ⟨p, cap, by rw [List.length_map], by rw [List.length_map]; exact h1, h2, fun i x hi => ?_⟩
  rw [List.getElem?_map] at hi
  cases hz : zs[i]? with
  | none => rw [hz] at hi; cases hi
  | some z =>
    rw [hz] at hi
    cases hi
    exact hc i z hz
theorem stp_map (a b : List Int) : stp (a.map itoaS) (b.map itoaS) = stp a b := by
  unfold stp
  rw [pr_map itoaS itoaS_inj, List.length_map, List.length_map]

set_option maxHeartbeats 1000000 in
theorem alike_long (p q : Option Addr) (n m c d : Nat) (h : 40 < n ∨ 40 < m) (w : World) : CallsIn Fence.wide 0 Tryd.prog 3 #[.slice p n c, .slice q m d] w fun e w' => e = .returned (.bool true) ∧ Chg No w w' := by
  refine callsIn_of_wp Tryd.func3 rfl trivial ?_
  simp only [Tryd.ntmps3, List.size_toArray, List.length_cons, List.length_nil, Nat.reduceAdd, Nat.reduceSub, Array.replicate_succ, Array.replicate_zero, List.push_toArray, List.append_toArray, List.nil_append, List.cons_append]
  by_cases h1 : 40 < n
  · have h1' : (40 : Int) < (n : Int) := by omega
    gi_wp2_with fail
    refine ⟨trivial, rfl, (awake_in _).mono ?_⟩
    rintro e w1 ⟨rfl, c1⟩
    gi_wp2
    go_ret
    exact ⟨rfl, c1⟩
  · have h1' : ¬ (40 : Int) < (n : Int) := by omega
    have h2' : (40 : Int) < (m : Int) := by omega
    gi_wp2_with fail
    refine ⟨trivial, rfl, (awake_in _).mono ?_⟩
    rintro e w1 ⟨rfl, c1⟩
    gi_wp2
    go_ret
    exact ⟨rfl, c1⟩

set_option maxRecDepth 100000 in
set_option maxHeartbeats 4000000 in
theorem alike_in (p q : Option Addr) (ca cb : Nat) (a b : List Int) (hn : a.length ≤ 40) (hm : b.length ≤ 40) (w : World) (hs : SlI w (.slice p a.length ca) a) (hs' : SlI w (.slice q b.length cb) b) (hk : ∀ x ∈ a, okI x) (hk' : ∀ x ∈ b, okI x) (ht : TabAt w) :
    CallsIn Fence.wide 0 Tryd.prog 3 #[.slice p a.length ca, .slice q b.length cb] w fun e w' => e = .returned (.bool true) ∧ Chg No w w' := by
  obtain ⟨i0, hi0, hz0, hz1, hz2⟩ := info_parts info9
  have hv := hs.slV
  have hu := hs'.slV
  obtain ⟨n, HN⟩ : ∃ n, Hid (a.length = n) := ⟨_, rfl⟩
  obtain ⟨m, HM⟩ : ∃ m, Hid (b.length = m) := ⟨_, rfl⟩
  rw [HN.out] at hv hn ⊢
  rw [HM.out] at hu hm ⊢
  have h1' : ¬ (40 : Int) < (n : Int) := by omega
  have h2' : ¬ (40 : Int) < (m : Int) := by omega
  clear hs hs'
  refine callsIn_of_wp Tryd.func3 rfl trivial ?_
  simp only [Tryd.ntmps3, List.size_toArray, List.length_cons, List.length_nil, Nat.reduceAdd, Nat.reduceSub, Array.replicate_succ, Array.replicate_zero, List.push_toArray, List.append_toArray, List.nil_append, List.cons_append]
  gi_wp2
  gi_loopw [5, 7] (fun vx vi wr => ∃ k : Nat, k ≤ n ∧ vi = .int .i64 (k : Int) ∧ wr.ownsRow w.heap.size 9 1 vx k (((a.map itoaS).take k).map Value.string) ∧ Chg No w wr) (fun vx vi _ => n - (intOf vi).toNat)
  case atStart => exact ⟨0, Nat.zero_le _, rfl, by rw [List.take_zero]; exact World.ownsRow_nil _ _ _ _, Chg.refl _ _⟩
  case round =>
    obtain ⟨k, hkn, rfl, hr, cw⟩ := hrel
    obtain ⟨px, cx, rfl⟩ := row_slice hr
    by_cases hlt : k < n
    · have hlt' : (k : Int) < (n : Int) := by omega
      have hka : k < a.length := by rw [HN.out]; exact hlt
      have hkm : k < (a.map itoaS).length := by rw [List.length_map]; exact hka
      obtain ⟨x, hx⟩ : ∃ x, a[k] = x := ⟨_, rfl⟩
      have hxk : okI x := by rw [← hx]; exact hk _ (List.getElem_mem hka)
      have HT : Hid (((a.map itoaS).take k).map Value.string ++ [.string (itoaS x)] = ((a.map itoaS).take (k + 1)).map Value.string) := by
        rw [List.take_succ_eq_append_getElem hkm, List.map_append, List.getElem_map, hx]
        exact rfl
      obtain ⟨ba, oa, rfl, hca⟩ : ∃ ba oa, p = some ⟨ba, oa, none⟩ ∧ wr.cell? ⟨ba, oa + k, none⟩ = some (.int .i64 x) := by
        obtain ⟨p', cap', e, _, _, hc⟩ := hv.no cw
        cases e
        exact hc k (.int .i64 x) (by rw [List.getElem?_map, List.getElem?_eq_getElem hka, hx]; rfl)
      have hit := itoa_in x hxk wr (ht.no cw)
      generalize itoaS x = sx at *
      clear hx hka hkm hxk
      gi_wp2_with fail
      refine ⟨trivial, rfl, hit.mono ?_⟩
      rintro e w1 ⟨rfl, c1⟩
      have hr1 := row_kept hr (fun k hk => c1.block k (hr.lt k hk).2 (fun h => h))
      have cw1 := Chg.seq cw c1
      have hmx : k + 1 ≤ maxLen := by unfold maxLen; omega
      have hbs : w.heap.size ≤ (w1.alloc (.cells #[.string sx] 9)).heap.size := (cw1.alloc _).size
      gi_wp2_with (gi_at_builtin; refine wpListIn_append_at _ rfl _ _ 24 rfl w.heap.size 9 i0 (.string ⟨#[]⟩) 1 16 Tryd.underlying24 hi0 hz0 hz1 hz2 rfl (by decide) _ _ _ rfl (hr1.alloc _) ⟨w1.heap.size, 0, none⟩ 1 1 [.string sx] rfl rfl (cell_one_new _ _ _) (by simp [Value.oneCell']) hmx (by omega) hbs ?_; intro v' w9 hown' hgrow _ hat; have c9 : Chg No w w9 := (cw1.alloc _).grown hgrow (fun j e => .inr (hr1.lt j e).1))
      go_roundw
      case rel => exact ⟨k + 1, hlt, by go_num, by rw [← HT.out]; exact hown', c9⟩
      case measure => simp [intOf]; omega
    · obtain rfl : k = n := by omega
      have hlt' : ¬ (k : Int) < (k : Int) := by omega
      have sx0 : SlV wr (.slice px k cx) ((a.map itoaS).map Value.string) := by
        rw [List.take_of_length_le (by rw [List.length_map, HN.out]; exact Nat.le_refl _)] at hr
        exact SlV.ofRow (by rw [List.length_map, List.length_map, HN.out]; exact hr)
      obtain ⟨W1, hW1⟩ : ∃ W, wr = W := ⟨_, rfl⟩
      rw [hW1] at sx0 cw ⊢
      have c01 := cw
      have hv1 := hv.no cw
      have hu1 := hu.no cw
      have ht1 := ht.no cw
      clear hr cw hW1 hv hu ht
      gi_wp2
      gi_loopw [6, 8] (fun vx vi wr => ∃ j : Nat, j ≤ m ∧ vi = .int .i64 (j : Int) ∧ wr.ownsRow W1.heap.size 9 1 vx j (((b.map itoaS).take j).map Value.string) ∧ Chg No W1 wr) (fun vx vi _ => m - (intOf vi).toNat)
      case atStart => exact ⟨0, Nat.zero_le _, rfl, by rw [List.take_zero]; exact World.ownsRow_nil _ _ _ _, Chg.refl _ _⟩
      case round =>
        obtain ⟨j, hjm, rfl, hr, cw⟩ := hrel
        obtain ⟨py, cy, rfl⟩ := row_slice hr
        by_cases hltj : j < m
        · have hltj' : (j : Int) < (m : Int) := by omega
          have hja : j < b.length := by rw [HM.out]; exact hltj
          have hjm' : j < (b.map itoaS).length := by rw [List.length_map]; exact hja
          obtain ⟨x, hx⟩ : ∃ x, b[j] = x := ⟨_, rfl⟩
          have hxk : okI x := by rw [← hx]; exact hk' _ (List.getElem_mem hja)
          have HT : Hid (((b.map itoaS).take j).map Value.string ++ [.string (itoaS x)] = ((b.map itoaS).take (j + 1)).map Value.string) := by
            rw [List.take_succ_eq_append_getElem hjm', List.map_append, List.getElem_map, hx]
            exact rfl
          obtain ⟨bb, ob, rfl, hcb⟩ : ∃ bb ob, q = some ⟨bb, ob, none⟩ ∧ wr.cell? ⟨bb, ob + j, none⟩ = some (.int .i64 x) := by
            obtain ⟨p', cap', e, _, _, hc⟩ := hu1.no cw
            cases e
            exact hc j (.int .i64 x) (by rw [List.getElem?_map, List.getElem?_eq_getElem hja, hx]; rfl)
          have hit := itoa_in x hxk wr (ht1.no cw)
          generalize itoaS x = sx at *
          clear hx hja hjm' hxk
          gi_wp2_with fail
          refine ⟨trivial, rfl, hit.mono ?_⟩
          rintro e w1 ⟨rfl, c1⟩
          have hr1 := row_kept hr (fun k hk => c1.block k (hr.lt k hk).2 (fun h => h))
          have cw1 := Chg.seq cw c1
          have hmx : j + 1 ≤ maxLen := by unfold maxLen; omega
          have hbs : W1.heap.size ≤ (w1.alloc (.cells #[.string sx] 9)).heap.size := (cw1.alloc _).size
          gi_wp2_with (gi_at_builtin; refine wpListIn_append_at _ rfl _ _ 24 rfl W1.heap.size 9 i0 (.string ⟨#[]⟩) 1 16 Tryd.underlying24 hi0 hz0 hz1 hz2 rfl (by decide) _ _ _ rfl (hr1.alloc _) ⟨w1.heap.size, 0, none⟩ 1 1 [.string sx] rfl rfl (cell_one_new _ _ _) (by simp [Value.oneCell']) hmx (by omega) hbs ?_; intro v' w9 hown' hgrow _ hat; have c9 : Chg No W1 w9 := (cw1.alloc _).grown hgrow (fun j e => .inr (hr1.lt j e).1))
          go_roundw
          case rel => exact ⟨j + 1, hltj, by go_num, by rw [← HT.out]; exact hown', c9⟩
          case measure => simp [intOf]; omega
        · obtain rfl : j = m := by omega
          have hltj' : ¬ (j : Int) < (j : Int) := by omega
          have sy0 : SlV wr (.slice py j cy) ((b.map itoaS).map Value.string) := by
            rw [List.take_of_length_le (by rw [List.length_map, HM.out]; exact Nat.le_refl _)] at hr
            exact SlV.ofRow (by rw [List.length_map, List.length_map, HM.out]; exact hr)
          have sx2 := sx0.no cw
          have hv2 := hv1.no cw
          have hu2 := hu1.no cw
          have c02 := Chg.seq c01 cw
          have ha4 : a.length ≤ 400 := by rw [HN.out]; omega
          have hb4 : b.length ≤ 400 := by rw [HM.out]; omega
          have ha5 : (a.map itoaS).length ≤ 400 := by rw [List.length_map]; exact ha4
          have hb5 : (b.map itoaS).length ≤ 400 := by rw [List.length_map]; exact hb4
          clear hr sx0 hv1 hu1 cw c01
          gi_wp2_with fail
          refine ⟨trivial, rfl, (I.steps_in _ _ a b _ hv2 hu2 ha4 hb4).mono ?_⟩
          rintro e W3 ⟨v3, rfl, r3, c3⟩
          have s3 : SlS W3 v3 (stp a b) := SlE.ofRow eS_len r3
          obtain ⟨p3, cp3, rfl⟩ := row_slice r3
          have hA := I.apply_in _ _ _ a b (stp a b) _ (hv2.no c3) (hu2.no c3) s3 ha4 hb4 (by have := stp_length a b; omega)
          rw [stp_app] at hA
          gi_wp2_with fail
          refine ⟨trivial, rfl, hA.mono ?_⟩
          rintro e W4 ⟨⟨v4, rfl, r4⟩, c4⟩
          have s4 : SlV W4 v4 (b.map (Value.int .i64)) := SlV.ofRow (by rw [List.length_map]; exact r4)
          obtain ⟨p4, cp4, rfl⟩ := row_slice r4
          have c24 := Chg.seq c3 c4
          have hL1 := I.length_in _ _ a b _ (hv2.no c24) (hu2.no c24) ha4 hb4
          gi_wp2_with fail
          refine ⟨trivial, rfl, hL1.mono ?_⟩
          rintro e W5 ⟨rfl, c5⟩
          have c25 := Chg.seq c24 c5
          have hL2 := length_in _ _ (a.map itoaS) (b.map itoaS) _ (sx2.no c25) (sy0.no c25) ha5 hb5
          rw [tl_map itoaS itoaS_inj] at hL2
          obtain ⟨t0, HT0⟩ : ∃ t, Hid (tl a b = t) := ⟨_, rfl⟩
          rw [HT0.out] at hL2 ⊢
          have htt : ((t0 : Int) == (t0 : Int)) = true := by simp
          clear hA hL1
          gi_wp2_with fail
          refine ⟨trivial, rfl, hL2.mono ?_⟩
          rintro e W6 ⟨rfl, c6⟩
          have c26 := Chg.seq c25 c6
          gi_wp2_with fail
          refine ⟨trivial, rfl, (I.pairs_in _ _ a b _ (hv2.no c26) (hu2.no c26) ha4 hb4).mono ?_⟩
          rintro e W7 ⟨v7, rfl, r7, c7⟩
          have s7 : SlP W7 v7 (pr a b 0 0) := SlE.ofRow eP_len r7
          obtain ⟨p7, cp7, rfl⟩ := row_slice r7
          have c27 := Chg.seq c26 c7
          have hP := pairs_in _ _ (a.map itoaS) (b.map itoaS) _ (sx2.no c27) (sy0.no c27) ha5 hb5
          rw [pr_map itoaS itoaS_inj] at hP
          gi_wp2_with fail
          refine ⟨trivial, rfl, hP.mono ?_⟩
          rintro e W8 ⟨v8, rfl, r8, c8⟩
          have s8 : SlP W8 v8 (pr a b 0 0) := SlE.ofRow eP_len r8
          have c28 := Chg.seq c27 c8
          have hpl : (pr a b 0 0).length ≤ 1000000 := by rw [pr_length]; exact Nat.le_trans (tl_le a b).1 (by omega)
          gi_wp2_with fail
          refine ⟨trivial, rfl, (samePairs_in _ _ _ _ _ (SlE.no eP_len (by decide) s7 c8) s8 hpl).mono ?_⟩
          rintro e W9 ⟨rfl, c9⟩
          rw [decide_eq_true rfl]
          have c29 := Chg.seq c28 c9
          have hS := steps_in _ _ (a.map itoaS) (b.map itoaS) _ (sx2.no c29) (sy0.no c29) ha5 hb5
          rw [stp_map] at hS
          clear hP hL2
          gi_wp2_with fail
          refine ⟨trivial, rfl, hS.mono ?_⟩
          rintro e W10 ⟨v10, rfl, r10, c10⟩
          have s10 : SlS W10 v10 (stp a b) := SlE.ofRow eS_len r10
          have c49 : Chg No W4 W9 := Chg.seq (Chg.seq (Chg.seq (Chg.seq c5 c6) c7) c8) c9
          have c310 : Chg No W3 W10 := Chg.seq (Chg.seq c4 c49) c10
          gi_wp2_with fail
          refine ⟨trivial, rfl, (sameSteps_in _ _ _ _ _ (SlE.no eS_len (by decide) s3 c310) s10 (by have := stp_length a b; omega)).mono ?_⟩
          rintro e W11 ⟨rfl, c11⟩
          rw [decide_eq_true rfl]
          have c411 := Chg.seq (Chg.seq c49 c10) c11
          have c211 := Chg.seq c24 c411
          gi_wp2_with fail
          refine ⟨trivial, rfl, (sameI_in _ _ b b _ (s4.no c411) (hu2.no c211)).mono ?_⟩
          rintro e W12 ⟨rfl, c12⟩
          rw [decide_eq_true rfl]
          gi_wp2_with fail
          refine ⟨trivial, rfl, (awake_in _).mono ?_⟩
          rintro e W13 ⟨rfl, c13⟩
          gi_wp2
          go_ret
          exact ⟨rfl, Chg.seq (Chg.seq (Chg.seq c02 c211) c12) c13⟩

end Go.Proofs.YtafaihbfhcpjiaaDoor
