/-
  diff's own Steps, at texts.
-/
import Derived.Test.YtafaihbfhcpjiaaDoorDPairsI
import Derived.Test.YtafaihbfhcpjiaaDoorDSteps
namespace Go.Proofs.YtafaihbfhcpjiaaDoor.I
open Go.RowKit Go.Shelf Go.SeqLib Go.DiffLib Go.BigFrame
attribute [local go_sem] Oper.semAt_some

set_option maxRecDepth 100000 in
set_option maxHeartbeats 1000000 in
theorem steps_in (v u : Value) (a b : List Int) (w : World) (hv : SlV w v (a.map (Value.int .i64))) (hu : SlV w u (b.map (Value.int .i64))) (ha : a.length ≤ 400) (hb : b.length ≤ 400) :
    CallsIn Fence.wide 0 Tryd.prog 6 #[v, u] w fun e w' => ∃ v', e = .returned v' ∧ w'.ownsRow w.heap.size 42 3 v' (stp a b).length ((stp a b).flatMap eS) ∧ Chg No w w' := by
  have hmix : Tryd.prog.follows .mixedOrders = true := by kernel_rfl
  obtain ⟨i0, hi, hz0, hz1, hz2⟩ := info_parts info42
  obtain ⟨p, cp, rfl, hp1, hp2, hpc⟩ := id hv
  obtain ⟨q, cq, rfl, hq1, hq2, hqc⟩ := id hu
  have HT := pairs_in _ _ a b w hv hu (by omega) (by omega)
  rw [List.length_map] at hp1 hq1
  obtain ⟨n, HN⟩ : ∃ n, Hid (a.length = n) := ⟨_, rfl⟩
  obtain ⟨m, HM⟩ : ∃ m, Hid (b.length = m) := ⟨_, rfl⟩
  rw [List.length_map, List.length_map, HN.out, HM.out] at HT
  have hinc := pr_inc0 a b
  have hprl : (pr a b 0 0).length ≤ 400 := by rw [pr_length]; exact Nat.le_trans (tl_le a b).1 ha
  obtain ⟨tot, HTot⟩ : ∃ t, Hid (stp a b = t) := ⟨_, rfl⟩
  have HB : Hid (tot.length ≤ 800) := by
    show _ ≤ _
    rw [← HTot.out]
    have := stp_length a b
    omega
  have HT0 : Hid ((st (n + m) (pr a b 0 0) 0 0 n m).map up = tot) := by
    have := HTot.out
    unfold stp at this
    rw [HN.out, HM.out] at this
    exact this
  rw [HTot.out]
  rw [List.length_map, List.length_map, HN.out, HM.out]
  rw [HN.out] at ha hp1 hinc
  rw [HM.out] at hb hq1 hinc
  generalize pr a b 0 0 = ps0 at *
  have hl := tooLong_in p q n m cp cq w
  rw [decide_eq_false (by omega)] at hl
  clear hpc hqc hv hu
  refine callsIn_of_wp Tryd.func6 rfl trivial ?_
  simp only [Tryd.ntmps6, List.size_toArray, List.length_cons, List.length_nil, Nat.reduceAdd, Nat.reduceSub, Array.replicate_succ, Array.replicate_zero, List.push_toArray, List.append_toArray, List.nil_append, List.cons_append]
  gi_wp2_with fail
  refine ⟨trivial, rfl, hl.mono ?_⟩
  rintro e w1 ⟨rfl, rfl⟩
  gi_wp2_with fail
  refine ⟨trivial, rfl, HT.mono ?_⟩
  rintro e w2 ⟨v2, rfl, r2, c⟩
  have s2 : SlP w2 v2 ps0 := SlE.ofRow eP_len r2
  obtain ⟨pv, cv, rfl⟩ := row_slice r2
  clear HT hl
  gi_wp2
  gi_loopw [5, 6, 7, 8] (fun pv v i j wr => ∃ (acc : List (Int × Int × Int)) (ps : List (Nat × Nat)) (f ki kj np : Nat) (pp : Option Addr) (cpp : Nat), pv = .slice pp np cpp ∧ Hid (ps.length = np) ∧ np ≤ 400 ∧ Hid (∀ k, Value.ownBlock (.slice pp np cpp) = some k → k < w2.heap.size) ∧ SlP wr (.slice pp np cpp) ps ∧ Hid (Inc n m ki kj ps) ∧ (n - ki) + (m - kj) ≤ f ∧ ki ≤ n ∧ kj ≤ m ∧ i = .int .i64 (ki : Int) ∧ j = .int .i64 (kj : Int) ∧ Hid (acc ++ (st f ps ki kj n m).map up = tot) ∧ wr.ownsRow w2.heap.size 42 3 v acc.length (acc.flatMap eS) ∧ Chg No w2 wr) (fun pv v i j _ => (n - (intOf i).toNat) + (m - (intOf j).toNat))
  case atStart => exact ⟨[], ps0, n + m, 0, 0, _, pv, cv, rfl, rfl, hprl, fun k hk => (r2.lt k hk).2, s2, hinc, by omega, Nat.zero_le _, Nat.zero_le _, rfl, rfl, HT0.out, World.ownsRow_nil _ _ _ _, Chg.refl _ _⟩
  case round =>
    obtain ⟨acc, ps, f, ki, kj, np, pp, cpp, rfl, HNP, hnp, HPB, hsp, HI, hf, hki, hkj, rfl, rfl, HA, hr, cw⟩ := hrel
    by_cases hlt : ki < n ∨ kj < m
    · obtain ⟨g1, g2, g3, g4, g5, g6⟩ := HI.out.next hlt
      have hst := st_step f ps ki kj n m hlt (by omega)
      have hrl := rn_le ps ki kj
      rw [HNP.out] at hrl
      have hrun := run_in pp np cpp ps ki kj wr hsp HNP.out (by omega) (by omega) (by omega)
      obtain ⟨p', c', hs3, hown3, hcut⟩ := SlE.low Tryd.underlying33 size_pair hsp HNP.out (rn ps ki kj) hrl .i64
      generalize hsv : rn ps ki kj = s at *
      generalize hqv : nx (ps.drop s) n m = qv at *
      obtain ⟨q1, q2⟩ := qv
      simp only at g1 g2 g3 g4 g5 g6 hst
      have e1 : ((q1 - (ki + s) : Nat) : Int) = (q1 : Int) - ((ki : Int) + (s : Int)) := by omega
      have e2 : ((q2 - (kj + s) : Nat) : Int) = (q2 : Int) - ((kj : Int) + (s : Int)) := by omega
      have HST : Hid (acc ++ [((s : Int), (q1 : Int) - ((ki : Int) + (s : Int)), (q2 : Int) - ((kj : Int) + (s : Int)))] ++ (st (f - 1) (ps.drop s) q1 q2 n m).map up = tot) := by
        have := HA.out
        rw [hst, List.map_cons] at this
        rw [List.append_assoc, ← e1, ← e2]
        exact this
      have HG5 : Hid (Inc n m q1 q2 (ps.drop s)) := g5
      have hacc : acc.length + 1 ≤ 800 := by
        have h9 := congrArg List.length HST.out
        have := HB.out
        simp only [List.length_append, List.length_singleton] at h9
        omega
      have HDL : Hid ((ps.drop s).length = np - s) := by rw [List.length_drop, HNP.out]; exact rfl
      have HDA : Hid (ps.drop s = [] ∧ q1 = n ∧ q2 = m ∨ (ps.drop s)[0]? = some (q1, q2)) := by
        cases hd : ps.drop s with
        | nil => rw [hd] at hqv; simp [nx] at hqv; exact .inl ⟨rfl, hqv.1.symm, hqv.2.symm⟩
        | cons x r => rw [hd] at hqv; simp [nx] at hqv; exact .inr (by simp [hqv])
      obtain ⟨pr0, cr0, rfl⟩ := row_slice hr
      have hmx : acc.length + 1 ≤ maxLen := by unfold maxLen; omega
      clear hst hqv g5 hsv HA e1 e2
      generalize ps.drop s = ps' at *
      have hnp' : np - s ≤ 400 := by omega
      generalize np - s = np' at *
      have hdis : ∀ k, slE (.slice p' np' c') ps' k → ¬ Value.ownBlock (.slice pr0 acc.length cr0) = some k := fun k hk h => by
        have h1 := (hr.lt k h).1
        have h2 := HPB.out k (hown3 k hk.2)
        omega
      have HPB2 : Hid (∀ k, Value.ownBlock (.slice p' np' c') = some k → k < w2.heap.size) := fun k hk => HPB.out k (hown3 k hk)
      clear hown3 hlt
      by_cases hk1 : ki < n
      · have hk1' : (ki : Int) < (n : Int) := by omega
        clear hk1
        gi_wp2_with fail
        refine ⟨trivial, rfl, hrun.mono ?_⟩
        rintro e w3 ⟨rfl, rfl⟩
        rcases HDA.out with ⟨hd1, rfl, rfl⟩ | hd1
        · have hnz' : ¬ (0 : Int) < (np' : Int) := by
            have := HDL.out
            rw [hd1] at this
            simp at this
            omega
          clear hd1 HDA
          have hr2 : w3.ownsRow w2.heap.size 42 3 (.slice pr0 acc.length cr0) acc.length (acc.flatMap eS) := hr
          have cw2 : Chg No w2 w3 := cw
          have hbs : w2.heap.size ≤ (w3.alloc (.cells #[.int .i64 (s : Int), .int .i64 ((q1 : Int) - ((ki : Int) + (s : Int))), .int .i64 ((q2 : Int) - ((kj : Int) + (s : Int)))] 42)).heap.size := (cw2.alloc _).size
          have hcn := cells_new w3 [.int .i64 (s : Int), .int .i64 ((q1 : Int) - ((ki : Int) + (s : Int))), .int .i64 ((q2 : Int) - ((kj : Int) + (s : Int)))] 42
          have hsp2 : ∀ w4, Chg (fun k => Value.ownBlock (.slice pr0 acc.length cr0) = some k) w3 w4 → SlP w4 (.slice p' np' c') ps' := fun w4 c4 => SlE.chg eP_len (by decide) (show SlP w3 _ _ from hs3) c4 (fun k hk h => hdis k hk h)
          gi_wp2_with (gi_at_builtin; refine wpListIn_append_at _ rfl _ _ 26 rfl w2.heap.size 42 i0 (.agg #[.int .i64 0, .int .i64 0, .int .i64 0]) 3 24 Tryd.underlying26 hi hz0 hz1 hz2 rfl (by decide) _ _ _ rfl (hr2.alloc _) ⟨w3.heap.size, 0, none⟩ 1 1 [.int .i64 (s : Int), .int .i64 ((q1 : Int) - ((ki : Int) + (s : Int))), .int .i64 ((q2 : Int) - ((kj : Int) + (s : Int)))] rfl rfl hcn (by simp [Value.oneCell']) hmx (by omega) hbs ?_; intro v' w4 hown' hgrow _ hat; have c1 : Chg No w2 w4 := (cw2.alloc _).grown hgrow (fun k e => .inr (hr2.lt k e).1); have c4 : Chg (fun k => Value.ownBlock (.slice pr0 acc.length cr0) = some k) w3 w4 := ((Chg.refl _ w3).alloc _).grown hgrow (fun k e => .inl e))
          go_roundw
          case rel => exact ⟨acc ++ [((s : Int), (q1 : Int) - ((ki : Int) + (s : Int)), (q2 : Int) - ((kj : Int) + (s : Int)))], ps', f - 1, q1, q2, np', _, c', rfl, HDL, hnp', HPB2, hsp2 _ c4, HG5, by omega, Nat.le_refl _, Nat.le_refl _, rfl, rfl, HST, by rw [List.length_append, List.flatMap_append]; exact hown', c1⟩
          case measure => simp [intOf]; omega
        · have hnz' : (0 : Int) < (np' : Int) := by
            have := HDL.out
            have h9 := (List.getElem?_eq_some_iff.1 hd1).1
            omega
          obtain ⟨bq, oq, rfl, x1, x2⟩ := SlP.at hs3 0 _ hd1
          simp only [Nat.zero_mul, Nat.add_zero] at x1 x2
          clear hd1 HDA
          gi_wp2
          refine wpIn_region_quiet_lit rfl hmix (by kernel_rfl) ?_
          repeat (gi_big_quiet_step (fail))
          refine wpQuietIn_nil ?_
          rintro w' ⟨k, rfl⟩
          have hr2 : (w3.drewN k).ownsRow w2.heap.size 42 3 (.slice pr0 acc.length cr0) acc.length (acc.flatMap eS) := hr
          have cw2 : Chg No w2 (w3.drewN k) := drewNC cw k
          have hbs : w2.heap.size ≤ ((w3.drewN k).alloc (.cells #[.int .i64 (s : Int), .int .i64 ((q1 : Int) - ((ki : Int) + (s : Int))), .int .i64 ((q2 : Int) - ((kj : Int) + (s : Int)))] 42)).heap.size := (cw2.alloc _).size
          have hcn := cells_new (w3.drewN k) [.int .i64 (s : Int), .int .i64 ((q1 : Int) - ((ki : Int) + (s : Int))), .int .i64 ((q2 : Int) - ((kj : Int) + (s : Int)))] 42
          have hsp2 : ∀ w4, Chg (fun k => Value.ownBlock (.slice pr0 acc.length cr0) = some k) (w3.drewN k) w4 → SlP w4 (.slice (some ⟨bq, oq, none⟩) np' c') ps' := fun w4 c4 => SlE.chg eP_len (by decide) (show SlP (w3.drewN k) _ _ from hs3) c4 (fun k hk h => hdis k hk h)
          gi_wp2_with (gi_at_builtin; refine wpListIn_append_at _ rfl _ _ 26 rfl w2.heap.size 42 i0 (.agg #[.int .i64 0, .int .i64 0, .int .i64 0]) 3 24 Tryd.underlying26 hi hz0 hz1 hz2 rfl (by decide) _ _ _ rfl (hr2.alloc _) ⟨w3.heap.size, 0, none⟩ 1 1 [.int .i64 (s : Int), .int .i64 ((q1 : Int) - ((ki : Int) + (s : Int))), .int .i64 ((q2 : Int) - ((kj : Int) + (s : Int)))] rfl rfl hcn (by simp [Value.oneCell']) hmx (by omega) hbs ?_; intro v' w4 hown' hgrow _ hat; have c1 : Chg No w2 w4 := (cw2.alloc _).grown hgrow (fun k e => .inr (hr2.lt k e).1); have c4 : Chg (fun k => Value.ownBlock (.slice pr0 acc.length cr0) = some k) (w3.drewN k) w4 := ((Chg.refl _ (w3.drewN k)).alloc _).grown hgrow (fun k e => .inl e))
          go_roundw
          case rel => exact ⟨acc ++ [((s : Int), (q1 : Int) - ((ki : Int) + (s : Int)), (q2 : Int) - ((kj : Int) + (s : Int)))], ps', f - 1, q1, q2, np', _, c', rfl, HDL, hnp', HPB2, hsp2 _ c4, HG5, by omega, g3, g4, rfl, rfl, HST, by rw [List.length_append, List.flatMap_append]; exact hown', c1⟩
          case measure => simp [intOf]; omega
      · have hk1' : ¬ (ki : Int) < (n : Int) := by omega
        have hk2' : (kj : Int) < (m : Int) := by omega
        clear hk1
        gi_wp2_with fail
        refine ⟨trivial, rfl, hrun.mono ?_⟩
        rintro e w3 ⟨rfl, rfl⟩
        rcases HDA.out with ⟨hd1, rfl, rfl⟩ | hd1
        · have hnz' : ¬ (0 : Int) < (np' : Int) := by
            have := HDL.out
            rw [hd1] at this
            simp at this
            omega
          clear hd1 HDA
          have hr2 : w3.ownsRow w2.heap.size 42 3 (.slice pr0 acc.length cr0) acc.length (acc.flatMap eS) := hr
          have cw2 : Chg No w2 w3 := cw
          have hbs : w2.heap.size ≤ (w3.alloc (.cells #[.int .i64 (s : Int), .int .i64 ((q1 : Int) - ((ki : Int) + (s : Int))), .int .i64 ((q2 : Int) - ((kj : Int) + (s : Int)))] 42)).heap.size := (cw2.alloc _).size
          have hcn := cells_new w3 [.int .i64 (s : Int), .int .i64 ((q1 : Int) - ((ki : Int) + (s : Int))), .int .i64 ((q2 : Int) - ((kj : Int) + (s : Int)))] 42
          have hsp2 : ∀ w4, Chg (fun k => Value.ownBlock (.slice pr0 acc.length cr0) = some k) w3 w4 → SlP w4 (.slice p' np' c') ps' := fun w4 c4 => SlE.chg eP_len (by decide) (show SlP w3 _ _ from hs3) c4 (fun k hk h => hdis k hk h)
          gi_wp2_with (gi_at_builtin; refine wpListIn_append_at _ rfl _ _ 26 rfl w2.heap.size 42 i0 (.agg #[.int .i64 0, .int .i64 0, .int .i64 0]) 3 24 Tryd.underlying26 hi hz0 hz1 hz2 rfl (by decide) _ _ _ rfl (hr2.alloc _) ⟨w3.heap.size, 0, none⟩ 1 1 [.int .i64 (s : Int), .int .i64 ((q1 : Int) - ((ki : Int) + (s : Int))), .int .i64 ((q2 : Int) - ((kj : Int) + (s : Int)))] rfl rfl hcn (by simp [Value.oneCell']) hmx (by omega) hbs ?_; intro v' w4 hown' hgrow _ hat; have c1 : Chg No w2 w4 := (cw2.alloc _).grown hgrow (fun k e => .inr (hr2.lt k e).1); have c4 : Chg (fun k => Value.ownBlock (.slice pr0 acc.length cr0) = some k) w3 w4 := ((Chg.refl _ w3).alloc _).grown hgrow (fun k e => .inl e))
          go_roundw
          case rel => exact ⟨acc ++ [((s : Int), (q1 : Int) - ((ki : Int) + (s : Int)), (q2 : Int) - ((kj : Int) + (s : Int)))], ps', f - 1, q1, q2, np', _, c', rfl, HDL, hnp', HPB2, hsp2 _ c4, HG5, by omega, Nat.le_refl _, Nat.le_refl _, rfl, rfl, HST, by rw [List.length_append, List.flatMap_append]; exact hown', c1⟩
          case measure => simp [intOf]; omega
        · have hnz' : (0 : Int) < (np' : Int) := by
            have := HDL.out
            have h9 := (List.getElem?_eq_some_iff.1 hd1).1
            omega
          obtain ⟨bq, oq, rfl, x1, x2⟩ := SlP.at hs3 0 _ hd1
          simp only [Nat.zero_mul, Nat.add_zero] at x1 x2
          clear hd1 HDA
          gi_wp2
          refine wpIn_region_quiet_lit rfl hmix (by kernel_rfl) ?_
          repeat (gi_big_quiet_step (fail))
          refine wpQuietIn_nil ?_
          rintro w' ⟨k, rfl⟩
          have hr2 : (w3.drewN k).ownsRow w2.heap.size 42 3 (.slice pr0 acc.length cr0) acc.length (acc.flatMap eS) := hr
          have cw2 : Chg No w2 (w3.drewN k) := drewNC cw k
          have hbs : w2.heap.size ≤ ((w3.drewN k).alloc (.cells #[.int .i64 (s : Int), .int .i64 ((q1 : Int) - ((ki : Int) + (s : Int))), .int .i64 ((q2 : Int) - ((kj : Int) + (s : Int)))] 42)).heap.size := (cw2.alloc _).size
          have hcn := cells_new (w3.drewN k) [.int .i64 (s : Int), .int .i64 ((q1 : Int) - ((ki : Int) + (s : Int))), .int .i64 ((q2 : Int) - ((kj : Int) + (s : Int)))] 42
          have hsp2 : ∀ w4, Chg (fun k => Value.ownBlock (.slice pr0 acc.length cr0) = some k) (w3.drewN k) w4 → SlP w4 (.slice (some ⟨bq, oq, none⟩) np' c') ps' := fun w4 c4 => SlE.chg eP_len (by decide) (show SlP (w3.drewN k) _ _ from hs3) c4 (fun k hk h => hdis k hk h)
          gi_wp2_with (gi_at_builtin; refine wpListIn_append_at _ rfl _ _ 26 rfl w2.heap.size 42 i0 (.agg #[.int .i64 0, .int .i64 0, .int .i64 0]) 3 24 Tryd.underlying26 hi hz0 hz1 hz2 rfl (by decide) _ _ _ rfl (hr2.alloc _) ⟨w3.heap.size, 0, none⟩ 1 1 [.int .i64 (s : Int), .int .i64 ((q1 : Int) - ((ki : Int) + (s : Int))), .int .i64 ((q2 : Int) - ((kj : Int) + (s : Int)))] rfl rfl hcn (by simp [Value.oneCell']) hmx (by omega) hbs ?_; intro v' w4 hown' hgrow _ hat; have c1 : Chg No w2 w4 := (cw2.alloc _).grown hgrow (fun k e => .inr (hr2.lt k e).1); have c4 : Chg (fun k => Value.ownBlock (.slice pr0 acc.length cr0) = some k) (w3.drewN k) w4 := ((Chg.refl _ (w3.drewN k)).alloc _).grown hgrow (fun k e => .inl e))
          go_roundw
          case rel => exact ⟨acc ++ [((s : Int), (q1 : Int) - ((ki : Int) + (s : Int)), (q2 : Int) - ((kj : Int) + (s : Int)))], ps', f - 1, q1, q2, np', _, c', rfl, HDL, hnp', HPB2, hsp2 _ c4, HG5, by omega, g3, g4, rfl, rfl, HST, by rw [List.length_append, List.flatMap_append]; exact hown', c1⟩
          case measure => simp [intOf]; omega
    · obtain ⟨pr0, cr0, rfl⟩ := row_slice hr
      have h1' : ¬ (ki : Int) < (n : Int) := by omega
      have h2' : ¬ (kj : Int) < (m : Int) := by omega
      have HD : Hid (acc = tot) := by
        have := HA.out
        rw [st_done _ _ _ _ _ _ hlt, List.map_nil, List.append_nil] at this
        exact this
      have hres : wr.ownsRow w1.heap.size 42 3 (.slice pr0 acc.length cr0) tot.length (tot.flatMap eS) := by
        have := rowBase hr c.size
        rw [HD.out] at this ⊢
        exact this
      gi_wp2
      go_ret
      exact ⟨_, rfl, hres, Chg.seq c cw⟩

end Go.Proofs.YtafaihbfhcpjiaaDoor.I
