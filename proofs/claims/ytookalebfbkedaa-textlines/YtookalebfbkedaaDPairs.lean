/-
  diff's own Pairs, at texts.
-/
import Derived.Test.YtookalebfbkedaaDLen
import Derived.Test.YtookalebfbkedaaDRun
import Derived.Sort.CutIn
namespace Go.Proofs.Ytookalebfbkedaa
open Go.RowKit Go.Shelf Go.SeqLib Go.DiffLib Go.BigFrame
attribute [local go_sem] Oper.semAt_some

theorem cells_new (w : World) (l : List Value) (t : TypeId) : ∀ j u, l[j]? = some u → (w.alloc (.cells l.toArray t)).cell? ((⟨w.heap.size, 0, none⟩ : Addr).add j) = some u := by
  intro j u h
  have e : (⟨w.heap.size, 0, none⟩ : Addr).add j = ⟨w.heap.size, j, none⟩ := by unfold Addr.add; split <;> simp_all
  rw [e, World.cell?_alloc_at _ _ _ _ rfl]
  simpa using h

set_option maxRecDepth 100000 in
set_option maxHeartbeats 1000000 in
theorem pairs_in (v u : Value) (a b : List ByteArray) (w : World) (hv : SlV w v (a.map Value.string)) (hu : SlV w u (b.map Value.string)) (ha : a.length ≤ 400) (hb : b.length ≤ 400) :
    CallsIn Fence.wide 0 Try.prog 46 #[v, u] w fun e w' => ∃ v', e = .returned v' ∧ w'.ownsRow w.heap.size 78 2 v' (pr a b 0 0).length ((pr a b 0 0).flatMap eP) ∧ Chg No w w' := by
  have hmix : Try.prog.follows .mixedOrders = true := by kernel_rfl
  obtain ⟨i0, hi, hz0, hz1, hz2⟩ := info_parts info78
  obtain ⟨p, cp, rfl, hp1, hp2, hpc⟩ := id hv
  obtain ⟨q, cq, rfl, hq1, hq2, hqc⟩ := id hu
  have HT := tails_in _ _ a b w hv hu (by omega) (by omega)
  have hv0 := hv
  have hu0 := hu
  rw [List.length_map] at hp1 hq1
  obtain ⟨n, HN⟩ : ∃ n, Hid (a.length = n) := ⟨_, rfl⟩
  obtain ⟨m, HM⟩ : ∃ m, Hid (b.length = m) := ⟨_, rfl⟩
  rw [List.length_map, HN.out] at hv
  rw [List.length_map, HM.out] at hu
  rw [List.length_map, List.length_map, HN.out, HM.out] at HT
  rw [List.length_map, List.length_map, HN.out, HM.out]
  rw [HN.out] at ha hp1
  rw [HM.out] at hb hq1
  have hl := tooLong_in p q n m cp cq w
  rw [decide_eq_false (by omega)] at hl
  clear hpc hqc hv0 hu0
  obtain ⟨tot, HTot⟩ : ∃ t, Hid (pr a b 0 0 = t) := ⟨_, rfl⟩
  rw [HTot.out]
  have HB : Hid (tot.length ≤ 400) := by
    show _ ≤ _
    rw [← HTot.out, pr_length]
    exact Nat.le_trans (tl_le a b).1 (by rw [HN.out]; exact ha)
  refine callsIn_of_wp Try.func46 rfl trivial ?_
  simp only [Try.ntmps46, List.size_toArray, List.length_cons, List.length_nil, Nat.reduceAdd, Nat.reduceSub, Array.replicate_succ, Array.replicate_zero, List.push_toArray, List.append_toArray, List.nil_append, List.cons_append]
  gi_wp2_with fail
  refine ⟨trivial, rfl, hl.mono ?_⟩
  rintro e w1 ⟨rfl, rfl⟩
  gi_wp2_with fail
  refine ⟨trivial, rfl, HT.mono ?_⟩
  rintro e w2 ⟨G, R, rfl, hT, hown, c⟩
  clear HT hl
  have hv2 := hv.no c
  have hu2 := hu.no c
  gi_wp2
  gi_loopw [6, 7, 8] (fun v i j wr => ∃ (acc : List (Nat × Nat)) (ki kj : Nat), ki ≤ n ∧ kj ≤ m ∧ i = .int .i64 (ki : Int) ∧ j = .int .i64 (kj : Int) ∧ Hid (acc ++ pr (a.drop ki) (b.drop kj) ki kj = tot) ∧ wr.ownsRow w2.heap.size 78 2 v acc.length (acc.flatMap eP) ∧ Chg No w2 wr) (fun v i j _ => (n - (intOf i).toNat) + (m - (intOf j).toNat))
  case atStart => exact ⟨[], 0, 0, Nat.zero_le _, Nat.zero_le _, rfl, rfl, by show _ = _; simpa using HTot.out, World.ownsRow_nil _ _ _ _, Chg.refl _ _⟩
  case round =>
    obtain ⟨acc, ki, kj, hki, hkj, rfl, rfl, HA, hr, cw⟩ := hrel
    by_cases hlt : ki < n ∧ kj < m
    · obtain ⟨hlt1, hlt2⟩ := hlt
      have h1 : (ki : Int) < (n : Int) := by omega
      have h2 : (kj : Int) < (m : Int) := by omega
      have hka : ki < a.length := by rw [HN.out]; exact hlt1
      have hkb : kj < b.length := by rw [HM.out]; exact hlt2
      have hat := pr_at a b ki kj hka hkb
      obtain ⟨x, hx⟩ : ∃ x, a[ki] = x := ⟨_, rfl⟩
      obtain ⟨y, hy⟩ : ∃ y, b[kj] = y := ⟨_, rfl⟩
      rw [hx, hy] at hat
      obtain ⟨ba, oa, rfl, hca⟩ : ∃ ba oa, p = some ⟨ba, oa, none⟩ ∧ wr.cell? ⟨ba, oa + ki, none⟩ = some (.string x) := by
        obtain ⟨p', cap', e, _, _, hc⟩ := hv2.no cw
        cases e
        exact hc ki (.string x) (by rw [List.getElem?_map, List.getElem?_eq_getElem hka, hx]; rfl)
      obtain ⟨bb, ob, rfl, hcb⟩ : ∃ bb ob, q = some ⟨bb, ob, none⟩ ∧ wr.cell? ⟨bb, ob + kj, none⟩ = some (.string y) := by
        obtain ⟨p', cap', e, _, _, hc⟩ := hu2.no cw
        cases e
        exact hc kj (.string y) (by rw [List.getElem?_map, List.getElem?_eq_getElem hkb, hy]; rfl)
      have HAt : Hid (pr (a.drop ki) (b.drop kj) ki kj = if x = y then (ki, kj) :: pr (a.drop (ki + 1)) (b.drop (kj + 1)) (ki + 1) (kj + 1)
        else if tl (a.drop ki) (b.drop (kj + 1)) ≤ tl (a.drop (ki + 1)) (b.drop kj) then pr (a.drop (ki + 1)) (b.drop kj) (ki + 1) kj else pr (a.drop ki) (b.drop (kj + 1)) ki (kj + 1)) := hat
      clear hat hx hy hka hkb
      have hT3 := hT.chg cw (fun _ _ h => h)
      have r0 := hT3.row (i := ki) (Nat.zero_le _) (by omega)
      have r1 := hT3.row (i := ki + 1) (Nat.zero_le _) (by omega)
      have v10 := hT3.num (i := ki + 1) (j := kj) (Nat.zero_le _) (by omega) (by omega)
      have v01 := hT3.num (i := ki) (j := kj + 1) (Nat.zero_le _) (by omega) (by omega)
      rw [fillV_old _ (by omega)] at v10
      have e01 : fillV a b 0 0 ki (kj + 1) = (tl (a.drop ki) (b.drop (kj + 1)) : Int) := by unfold fillV; rw [if_pos (by omega)]
      rw [e01] at v01
      clear e01
      generalize R ki = Rk at *
      generalize R (ki + 1) = Rk1 at *
      obtain ⟨t10, ht10⟩ : ∃ t, Hid (tl (a.drop (ki + 1)) (b.drop kj) = t) := ⟨_, rfl⟩
      obtain ⟨t01, ht01⟩ : ∃ t, Hid (tl (a.drop ki) (b.drop (kj + 1)) = t) := ⟨_, rfl⟩
      rw [ht10.out] at v10 HAt
      rw [ht01.out] at v01 HAt
      have hx1 : (ki : Int) < (n : Int) + 1 := by omega
      have hx2 : (ki : Int) + 1 < (n : Int) + 1 := by omega
      have hj1 : (kj : Int) < (m : Int) + 1 := by omega
      have hj2 : (kj : Int) + 1 < (m : Int) + 1 := by omega
      obtain ⟨z, hz⟩ : ∃ z, decide (x = y) = z := ⟨_, rfl⟩
      have hlk := like_in x y
      rw [hz] at hlk
      obtain ⟨pr0, cr0, rfl⟩ := row_slice hr
      gi_wp2
      refine wpIn_region_quiet_lit rfl hmix (by kernel_rfl) ?_
      repeat (gi_big_quiet_step (fail))
      refine wpQuietIn_want (fun _ _ _ _ => trivial) rfl ?_
      intro KQ hKQ
      gi_big_quiet_op
      gi_big_quiet_call (exact ⟨rfl, (hlk _).mono (by rintro e w'' ⟨rfl, rfl⟩; exact ⟨rfl, _, rfl⟩)⟩)
      repeat (gi_big_quiet_step (fail))
      refine wpQuietIn_nil ?_
      rintro w' ⟨k, rfl⟩
      have cw2 := drewNC cw k
      have hr2 : (wr.drewN k).ownsRow w2.heap.size 78 2 (.slice pr0 acc.length cr0) acc.length (acc.flatMap eP) := hr
      cases z
      · -- unlike
        have hne := of_decide_eq_false hz
        by_cases hge : t01 ≤ t10
        · have hge' : (t01 : Int) ≤ (t10 : Int) := by omega
          have HA2 : Hid (acc ++ pr (a.drop (ki + 1)) (b.drop kj) (ki + 1) kj = tot) := by
            have := HA.out
            rw [HAt.out, if_neg hne, if_pos hge] at this
            exact this
          clear hne hge HAt hlk hz hr
          gi_wp2
          refine wpIn_region_quiet_lit rfl hmix (by kernel_rfl) ?_
          repeat (gi_big_quiet_step (fail))
          refine wpQuietIn_nil ?_
          rintro w' ⟨k2, rfl⟩
          gi_wp2
          go_roundw
          case rel => exact ⟨acc, ki + 1, kj, hlt1, hkj, by go_num, rfl, HA2, hr2, drewNC cw _⟩
          case measure => simp [intOf]; omega
        · have hge' : ¬ (t01 : Int) ≤ (t10 : Int) := by omega
          have HA2 : Hid (acc ++ pr (a.drop ki) (b.drop (kj + 1)) ki (kj + 1) = tot) := by
            have := HA.out
            rw [HAt.out, if_neg hne, if_neg hge] at this
            exact this
          clear hne hge HAt hlk hz hr
          gi_wp2
          refine wpIn_region_quiet_lit rfl hmix (by kernel_rfl) ?_
          repeat (gi_big_quiet_step (fail))
          refine wpQuietIn_nil ?_
          rintro w' ⟨k2, rfl⟩
          gi_wp2
          go_roundw
          case rel => exact ⟨acc, ki, kj + 1, hki, hlt2, rfl, by go_num, HA2, hr2, drewNC cw _⟩
          case measure => simp [intOf]; omega
      · have hxy := of_decide_eq_true hz
        have HA2 : Hid ((acc ++ [(ki, kj)]) ++ pr (a.drop (ki + 1)) (b.drop (kj + 1)) (ki + 1) (kj + 1) = tot) := by
          have := HA.out
          rw [HAt.out, if_pos hxy] at this
          rw [List.append_assoc]
          exact this
        have hacc : acc.length + 1 ≤ 400 := by
          have h9 := congrArg List.length HA2.out
          have := HB.out
          simp only [List.length_append, List.length_singleton] at h9
          omega
        have hmx : acc.length + 1 ≤ maxLen := by unfold maxLen; omega
        have hbs : w2.heap.size ≤ ((wr.drewN k).alloc (.cells #[.int .i64 (ki : Int), .int .i64 (kj : Int)] 78)).heap.size := (cw2.alloc _).size
        have hcn := cells_new (wr.drewN k) [.int .i64 (ki : Int), .int .i64 (kj : Int)] 78
        have hsz : (wr.drewN k).heap.size = wr.heap.size := rfl
        clear hxy HAt hlk hz hr
        gi_wp2_with (gi_at_builtin; refine wpListIn_append_at _ rfl _ _ 76 rfl w2.heap.size 78 i0 (.agg #[.int .i64 0, .int .i64 0]) 2 16 Try.underlying76 hi hz0 hz1 hz2 rfl (by decide) _ _ _ rfl (hr2.alloc _) ⟨wr.heap.size, 0, none⟩ 1 1 [.int .i64 (ki : Int), .int .i64 (kj : Int)] rfl rfl hcn (by simp [Value.oneCell']) hmx (by omega) hbs ?_; intro v' w1 hown' hgrow _ hat; have c1 : Chg No w2 w1 := (cw2.alloc _).grown hgrow (fun k e => .inr (hr2.lt k e).1))
        go_roundw
        case rel => exact ⟨acc ++ [(ki, kj)], ki + 1, kj + 1, hlt1, hlt2, by go_num, by go_num, HA2, by rw [List.length_append, List.flatMap_append]; exact hown', c1⟩
        case measure => simp [intOf]; omega
    · obtain ⟨pr0, cr0, rfl⟩ := row_slice hr
      have HD : Hid (acc = tot) := by
        have := HA.out
        rw [pr_end a b ki kj (by rw [HN.out, HM.out]; exact hlt), List.append_nil] at this
        exact this
      have hres : wr.ownsRow w1.heap.size 78 2 (.slice pr0 acc.length cr0) tot.length (tot.flatMap eP) := by
        have := rowBase hr c.size
        rw [HD.out] at this ⊢
        exact this
      by_cases h1 : ki < n
      · have h1' : (ki : Int) < (n : Int) := by omega
        have h2' : ¬ (kj : Int) < (m : Int) := by omega
        gi_wp2
        go_ret
        exact ⟨_, rfl, hres, Chg.seq c cw⟩
      · have h1' : ¬ (ki : Int) < (n : Int) := by omega
        gi_wp2
        go_ret
        exact ⟨_, rfl, hres, Chg.seq c cw⟩

end Go.Proofs.Ytookalebfbkedaa
