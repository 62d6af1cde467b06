/-
  Of: DPairs, TStand.
-/
import Derived.Test.YtakbeololabmhaaGreatDoorG22
import Derived.Test.YtakbeololabmhaaGreatDoorG02
import Derived.Sort.CutIn
import Derived.Test.YtakbeololabmhaaGreatDoorG23
import Derived.Test.YtakbeololabmhaaGreatDoorG10
section
-- DPairs
namespace Go.Proofs.YtakbeololabmhaaGreatDoor
open Go.RowKit Go.Shelf Go.SeqLib Go.DiffLib Go.BigFrame
attribute [local go_sem] Oper.semAt_some

theorem cells_new (w : World) (l : List Value) (t : TypeId) : ∀ j u, l[j]? = some u → (w.alloc (.cells l.toArray t)).cell? ((⟨w.heap.size, 0, none⟩ : Addr).add j) = some u := by
  intro j u h
  have e : (⟨w.heap.size, 0, none⟩ : Addr).add j = ⟨w.heap.size, j, none⟩ := by unfold Addr.add; split <;> simp_all
  rw [e, World.cell?_alloc_at _ _ _ _ rfl]
  simpa using h

set_option maxRecDepth 100000 in
set_option maxHeartbeats 1000000 in
theorem pairs_in (v u : Value) (a b : List ByteArray) (w : World) (hv : SlV w v (a.map Value.string)) (hu : SlV w u (b.map Value.string)) (ha : a.length ≤ 400) (hb : b.length ≤ 400) :
    CallsIn Fence.wide 0 Tryz.prog 179 #[v, u] w fun e w' => ∃ v', e = .returned v' ∧ w'.ownsRow w.heap.size 208 2 v' (pr a b 0 0).length ((pr a b 0 0).flatMap eP) ∧ Chg No w w' := by
  have hmix : Tryz.prog.follows .mixedOrders = true := by kernel_rfl
  obtain ⟨i0, hi, hz0, hz1, hz2⟩ := info_parts info208
  obtain ⟨p, cp, rfl, hp1, hp2, hpc⟩ := id hv
  obtain ⟨q, cq, rfl, hq1, hq2, hqc⟩ := id hu
  have HT := tails_in _ _ a b w hv hu (by omega) (by omega)
  have hv0 := hv
  have hu0 := hu
  rw [List.length_map] at hp1 hq1
  obtain ⟨n, HN⟩ : ∃ n, Hid (a.length = n) := ⟨_, rfl⟩
  obtain ⟨m, HM⟩ : ∃ m, Hid (b.length = m) := ⟨_, rfl⟩
  rw [List.length_map, HN.out] at hv
  rw [List.length_map, HM.out] at hu
  rw [List.length_map, List.length_map, HN.out, HM.out] at HT
  rw [List.length_map, List.length_map, HN.out, HM.out]
  rw [HN.out] at ha hp1
  rw [HM.out] at hb hq1
  have hl := tooLong_in p q n m cp cq w
  rw [decide_eq_false (by omega)] at hl
  clear hpc hqc hv0 hu0
  obtain ⟨tot, HTot⟩ : ∃ t, Hid (pr a b 0 0 = t) := ⟨_, rfl⟩
  rw [HTot.out]
  have HB : Hid (tot.length ≤ 400) := by
    show _ ≤ _
    rw [← HTot.out, pr_length]
    exact Nat.le_trans (tl_le a b).1 (by rw [HN.out]; exact ha)
  refine callsIn_of_wp Tryz.func179 rfl trivial ?_
  simp only [Tryz.ntmps179, List.size_toArray, List.length_cons, List.length_nil, Nat.reduceAdd, Nat.reduceSub, Array.replicate_succ, Array.replicate_zero, List.push_toArray, List.append_toArray, List.nil_append, List.cons_append]
  gi_wp2_with fail
  refine ⟨trivial, rfl, hl.mono ?_⟩
  rintro e w1 ⟨rfl, rfl⟩
  gi_wp2_with fail
  refine ⟨trivial, rfl, HT.mono ?_⟩
  rintro e w2 ⟨G, R, rfl, hT, hown, c⟩
  clear HT hl
  have hv2 := hv.no c
  have hu2 := hu.no c
  gi_wp2
  gi_loopw [6, 7, 8] (fun v i j wr => ∃ (acc : List (Nat × Nat)) (ki kj : Nat), ki ≤ n ∧ kj ≤ m ∧ i = .int .i64 (ki : Int) ∧ j = .int .i64 (kj : Int) ∧ Hid (acc ++ pr (a.drop ki) (b.drop kj) ki kj = tot) ∧ wr.ownsRow w2.heap.size 208 2 v acc.length (acc.flatMap eP) ∧ Chg No w2 wr) (fun v i j _ => (n - (intOf i).toNat) + (m - (intOf j).toNat))
  case atStart => exact ⟨[], 0, 0, Nat.zero_le _, Nat.zero_le _, rfl, rfl, by show _ = _; simpa using HTot.out, World.ownsRow_nil _ _ _ _, Chg.refl _ _⟩
  case round =>
    obtain ⟨acc, ki, kj, hki, hkj, rfl, rfl, HA, hr, cw⟩ := hrel
    by_cases hlt : ki < n ∧ kj < m
    · obtain ⟨hlt1, hlt2⟩ := hlt
      have h1 : (ki : Int) < (n : Int) := by omega
      have h2 : (kj : Int) < (m : Int) := by omega
      have hka : ki < a.length := by rw [HN.out]; exact hlt1
      have hkb : kj < b.length := by rw [HM.out]; exact hlt2
      have hat := pr_at a b ki kj hka hkb
      obtain ⟨x, hx⟩ : ∃ x, a[ki] = x := ⟨_, rfl⟩
      obtain ⟨y, hy⟩ : ∃ y, b[kj] = y := ⟨_, rfl⟩
      rw [hx, hy] at hat
      obtain ⟨ba, oa, rfl, hca⟩ : ∃ ba oa, p = some ⟨ba, oa, none⟩ ∧ wr.cell? ⟨ba, oa + ki, none⟩ = some (.string x) := by
        obtain ⟨p', cap', e, _, _, hc⟩ := hv2.no cw
        cases e
        exact hc ki (.string x) (by rw [List.getElem?_map, List.getElem?_eq_getElem hka, hx]; rfl)
      obtain ⟨bb, ob, rfl, hcb⟩ : ∃ bb ob, q = some ⟨bb, ob, none⟩ ∧ wr.cell? ⟨bb, ob + kj, none⟩ = some (.string y) := by
        obtain ⟨p', cap', e, _, _, hc⟩ := hu2.no cw
        cases e
        exact hc kj (.string y) (by rw [List.getElem?_map, List.getElem?_eq_getElem hkb, hy]; rfl)
      have HAt : Hid (pr (a.drop ki) (b.drop kj) ki kj = if x = y then (ki, kj) :: pr (a.drop (ki + 1)) (b.drop (kj + 1)) (ki + 1) (kj + 1)
        else if tl (a.drop ki) (b.drop (kj + 1)) ≤ tl (a.drop (ki + 1)) (b.drop kj) then pr (a.drop (ki + 1)) (b.drop kj) (ki + 1) kj else pr (a.drop ki) (b.drop (kj + 1)) ki (kj + 1)) := hat
      clear hat hx hy hka hkb
      have hT3 := hT.chg cw (fun _ _ h => h)
      have r0 := hT3.row (i := ki) (Nat.zero_le _) (by omega)
      have r1 := hT3.row (i := ki + 1) (Nat.zero_le _) (by omega)
      have v10 := hT3.num (i := ki + 1) (j := kj) (Nat.zero_le _) (by omega) (by omega)
      have v01 := hT3.num (i := ki) (j := kj + 1) (Nat.zero_le _) (by omega) (by omega)
      rw [fillV_old _ (by omega)] at v10
      have e01 : fillV a b 0 0 ki (kj + 1) = (tl (a.drop ki) (b.drop (kj + 1)) : Int) := by unfold fillV; rw [if_pos (by omega)]
      rw [e01] at v01
      clear e01
      generalize R ki = Rk at *
      generalize R (ki + 1) = Rk1 at *
      obtain ⟨t10, ht10⟩ : ∃ t, Hid (tl (a.drop (ki + 1)) (b.drop kj) = t) := ⟨_, rfl⟩
      obtain ⟨t01, ht01⟩ : ∃ t, Hid (tl (a.drop ki) (b.drop (kj + 1)) = t) := ⟨_, rfl⟩
      rw [ht10.out] at v10 HAt
      rw [ht01.out] at v01 HAt
      have hx1 : (ki : Int) < (n : Int) + 1 := by omega
      have hx2 : (ki : Int) + 1 < (n : Int) + 1 := by omega
      have hj1 : (kj : Int) < (m : Int) + 1 := by omega
      have hj2 : (kj : Int) + 1 < (m : Int) + 1 := by omega
      obtain ⟨z, hz⟩ : ∃ z, decide (x = y) = z := ⟨_, rfl⟩
      have hlk := like_in x y
      rw [hz] at hlk
      obtain ⟨pr0, cr0, rfl⟩ := row_slice hr
      gi_wp2
      refine wpIn_region_quiet_lit rfl hmix (by kernel_rfl) ?_
      repeat (gi_big_quiet_step (fail))
      refine wpQuietIn_want (fun _ _ _ _ => trivial) rfl ?_
      intro KQ hKQ
      gi_big_quiet_op
      gi_big_quiet_call (exact ⟨rfl, (hlk _).mono (by rintro e w'' ⟨rfl, rfl⟩; exact ⟨rfl, _, rfl⟩)⟩)
      repeat (gi_big_quiet_step (fail))
      refine wpQuietIn_nil ?_
      rintro w' ⟨k, rfl⟩
      have cw2 := drewNC cw k
      have hr2 : (wr.drewN k).ownsRow w2.heap.size 208 2 (.slice pr0 acc.length cr0) acc.length (acc.flatMap eP) := hr
      cases z
      · -- unlike
        have hne := of_decide_eq_false hz
        by_cases hge : t01 ≤ t10
        · have hge' : (t01 : Int) ≤ (t10 : Int) := by omega
          have HA2 : Hid (acc ++ pr (a.drop (ki + 1)) (b.drop kj) (ki + 1) kj = tot) := by
            have := HA.out
            rw [HAt.out, if_neg hne, if_pos hge] at this
            exact this
          clear hne hge HAt hlk hz hr
          gi_wp2
          refine wpIn_region_quiet_lit rfl hmix (by kernel_rfl) ?_
          repeat (gi_big_quiet_step (fail))
          refine wpQuietIn_nil ?_
          rintro w' ⟨k2, rfl⟩
          gi_wp2
          go_roundw
          case rel => exact ⟨acc, ki + 1, kj, hlt1, hkj, by go_num, rfl, HA2, hr2, drewNC cw _⟩
          case measure => simp [intOf]; omega
        · have hge' : ¬ (t01 : Int) ≤ (t10 : Int) := by omega
          have HA2 : Hid (acc ++ pr (a.drop ki) (b.drop (kj + 1)) ki (kj + 1) = tot) := by
            have := HA.out
            rw [HAt.out, if_neg hne, if_neg hge] at this
            exact this
          clear hne hge HAt hlk hz hr
          gi_wp2
          refine wpIn_region_quiet_lit rfl hmix (by kernel_rfl) ?_
          repeat (gi_big_quiet_step (fail))
          refine wpQuietIn_nil ?_
          rintro w' ⟨k2, rfl⟩
          gi_wp2
          go_roundw
          case rel => exact ⟨acc, ki, kj + 1, hki, hlt2, rfl, by go_num, HA2, hr2, drewNC cw _⟩
          case measure => simp [intOf]; omega
      · have hxy := of_decide_eq_true hz
        have HA2 : Hid ((acc ++ [(ki, kj)]) ++ pr (a.drop (ki + 1)) (b.drop (kj + 1)) (ki + 1) (kj + 1) = tot) := by
          have := HA.out
          rw [HAt.out, if_pos hxy] at this
          rw [List.append_assoc]
          exact this
        have hacc : acc.length + 1 ≤ 400 := by
          have h9 := congrArg List.length HA2.out
          have := HB.out
          simp only [List.length_append, List.length_singleton] at h9
          omega
        have hmx : acc.length + 1 ≤ maxLen := by unfold maxLen; omega
        have hbs : w2.heap.size ≤ ((wr.drewN k).alloc (.cells #[.int .i64 (ki : Int), .int .i64 (kj : Int)] 208)).heap.size := (cw2.alloc _).size
        have hcn := cells_new (wr.drewN k) [.int .i64 (ki : Int), .int .i64 (kj : Int)] 208
        have hsz : (wr.drewN k).heap.size = wr.heap.size := rfl
        clear hxy HAt hlk hz hr
        gi_wp2_with (gi_at_builtin; refine wpListIn_append_at _ rfl _ _ 206 rfl w2.heap.size 208 i0 (.agg #[.int .i64 0, .int .i64 0]) 2 16 Tryz.underlying206 hi hz0 hz1 hz2 rfl (by decide) _ _ _ rfl (hr2.alloc _) ⟨wr.heap.size, 0, none⟩ 1 1 [.int .i64 (ki : Int), .int .i64 (kj : Int)] rfl rfl hcn (by simp [Value.oneCell']) hmx (by omega) hbs ?_; intro v' w1 hown' hgrow _ hat; have c1 : Chg No w2 w1 := (cw2.alloc _).grown hgrow (fun k e => .inr (hr2.lt k e).1))
        go_roundw
        case rel => exact ⟨acc ++ [(ki, kj)], ki + 1, kj + 1, hlt1, hlt2, by go_num, by go_num, HA2, by rw [List.length_append, List.flatMap_append]; exact hown', c1⟩
        case measure => simp [intOf]; omega
    · obtain ⟨pr0, cr0, rfl⟩ := row_slice hr
      have HD : Hid (acc = tot) := by
        have := HA.out
        rw [pr_end a b ki kj (by rw [HN.out, HM.out]; exact hlt), List.append_nil] at this
        exact this
      have hres : wr.ownsRow w1.heap.size 208 2 (.slice pr0 acc.length cr0) tot.length (tot.flatMap eP) := by
        have := rowBase hr c.size
        rw [HD.out] at this ⊢
        exact this
      by_cases h1 : ki < n
      · have h1' : (ki : Int) < (n : Int) := by omega
        have h2' : ¬ (kj : Int) < (m : Int) := by omega
        gi_wp2
        go_ret
        exact ⟨_, rfl, hres, Chg.seq c cw⟩
      · have h1' : ¬ (ki : Int) < (n : Int) := by omega
        gi_wp2
        go_ret
        exact ⟨_, rfl, hres, Chg.seq c cw⟩

end Go.Proofs.YtakbeololabmhaaGreatDoor

end
section
-- TStand
namespace Go.Proofs.YtakbeololabmhaaGreatDoor
open Go.RowKit Go.Shelf Go.SeqLib Go.DiffLib Go.BigFrame
attribute [local go_sem] Oper.semAt_some

theorem pairBox (w : World) (x y : Int) : (w.alloc (.cells #[.int .i64 x, .int .i64 y] 208)).cell? ⟨w.heap.size, 0, none⟩ = some (.int .i64 x) ∧ (w.alloc (.cells #[.int .i64 x, .int .i64 y] 208)).cell? ⟨w.heap.size, 1, none⟩ = some (.int .i64 y) :=
  ⟨World.cell?_alloc_at _ _ _ _ rfl, World.cell?_alloc_at _ _ _ _ rfl⟩

theorem chgCell {S : Blk} {w w' : World} (c : Chg S w w') {p : Addr} {v : Value} (h : w.cell? p = some v) (hp : ¬ S p.block) : w'.cell? p = some v :=
  (World.cell?_of_block (a := p) (c.block p.block (World.block_lt_of_cell? w _ h) hp)).trans h

theorem row_keptN {W W' : World} {base : Nat} {e : TypeId} {s : Nat} {v : Value} {n : Nat} {xs : List Value} (h : W.ownsRow base e s v n xs) (hk : ∀ k, v.ownBlock = some k → W'.heap[k]? = W.heap[k]?) : W'.ownsRow base e s v n xs := by
  refine ⟨h.1, ?_⟩
  rcases h.2 with hn | ⟨g, cap, cur, rfl, hb, hgg, rest⟩
  · exact .inl hn
  · exact .inr ⟨g, cap, cur, rfl, hb, (hk g rfl).trans hgg, rest⟩

set_option maxRecDepth 100000 in
set_option maxHeartbeats 4000000 in
theorem standing_in (v u t : Value) (o a b : List ByteArray) (w : World) (hv : SlV w v (o.map Value.string)) (hu : SlV w u (a.map Value.string)) (ht : SlV w t (b.map Value.string)) (ho : o.length ≤ 400) (ha : a.length ≤ 400) (hb : b.length ≤ 400) :
    CallsIn Fence.wide 0 Tryz.prog 164 #[v, u, t] w fun e w' => ∃ v', e = .returned v' ∧ w'.ownsRow w.heap.size 181 3 v' (std o a b).length ((std o a b).flatMap eT) ∧ Chg No w w' := by
  have hmix : Tryz.prog.follows .mixedOrders = true := by kernel_rfl
  obtain ⟨i0, hi, hz0, hz1, hz2⟩ := info_parts info181
  have hlen := std_length o a b
  unfold std at hlen ⊢
  have hP1 := pairs_in _ _ o b w hv ht ho hb
  have hP2 : ∀ w1, Chg No w w1 → _ := fun w1 c1 => pairs_in _ _ o a w1 (hv.no c1) (hu.no c1) ho ha
  obtain ⟨p, cp, rfl, _⟩ := id hv
  obtain ⟨q, cq, rfl, _⟩ := id hu
  obtain ⟨r, cr, rfl, _⟩ := id ht
  clear hv hu ht
  generalize (o.map Value.string).length = lo at *
  generalize (a.map Value.string).length = la at *
  generalize (b.map Value.string).length = lb at *
  have hl1 : (pr o a 0 0).length ≤ 400 := by rw [pr_length]; exact Nat.le_trans (tl_le o a).1 ho
  have hl2 : (pr o b 0 0).length ≤ 400 := by rw [pr_length]; exact Nat.le_trans (tl_le o b).1 ho
  generalize pr o a 0 0 = ps0 at *
  generalize pr o b 0 0 = qs0 at *
  obtain ⟨tot, HTot⟩ : ∃ t, Hid (sd ps0 qs0 = t) := ⟨_, rfl⟩
  rw [HTot.out] at hlen ⊢
  have HB : Hid (tot.length ≤ 400) := Nat.le_trans hlen ho
  clear hlen ho ha hb
  refine callsIn_of_wp Tryz.func164 rfl trivial ?_
  simp only [Tryz.ntmps164, List.size_toArray, List.length_cons, List.length_nil, Nat.reduceAdd, Nat.reduceSub, Array.replicate_succ, Array.replicate_zero, List.push_toArray, List.append_toArray, List.nil_append, List.cons_append]
  gi_wp2_with fail
  refine ⟨trivial, rfl, hP1.mono ?_⟩
  rintro e w1 ⟨vq, rfl, rq, c1⟩
  have sq1 : SlP w1 vq qs0 := SlE.ofRow eP_len rq
  obtain ⟨pq, cpq, rfl⟩ := row_slice rq
  have hP2' := hP2 w1 c1
  clear hP1 hP2 rq
  obtain ⟨nq, HNQ⟩ : ∃ n, Hid (qs0.length = n) := ⟨_, rfl⟩
  rw [HNQ.out] at sq1 hl2 ⊢
  gi_wp2_with fail
  refine ⟨trivial, rfl, hP2'.mono ?_⟩
  rintro e w2 ⟨vp, rfl, rp, c2⟩
  have sp : SlP w2 vp ps0 := SlE.ofRow eP_len rp
  have sq : SlP w2 (.slice pq nq cpq) qs0 := SlE.no eP_len (by decide) sq1 c2
  obtain ⟨pp, cpp, rfl⟩ := row_slice rp
  have c02 := Chg.seq c1 c2
  clear hP2' rp sq1
  obtain ⟨np, HNP⟩ : ∃ n, Hid (ps0.length = n) := ⟨_, rfl⟩
  rw [HNP.out] at sp hl1 ⊢
  gi_wp2
  gi_loopw [7, 8, 18] (fun v7 v8 i wr => ∃ (acc : List Pl) (qs : List (Nat × Nat)) (k nr : Nat) (pr : Option Addr) (cpr : Nat), k ≤ np ∧ i = .int .i64 (k : Int) ∧ v8 = .slice pr nr cpr ∧ Hid (qs.length = nr) ∧ nr ≤ 400 ∧ SlP w2 (.slice pr nr cpr) qs ∧ Hid (acc ++ sd (ps0.drop k) qs = tot) ∧ wr.ownsRow w2.heap.size 181 3 v7 acc.length (acc.flatMap eT) ∧ Chg No w2 wr) (fun v7 v8 i _ => np - (intOf i).toNat)
  case atStart => exact ⟨[], qs0, 0, nq, pq, cpq, Nat.zero_le _, rfl, rfl, HNQ, hl2, sq, by show _ = _; simpa using HTot.out, World.ownsRow_nil _ _ _ _, Chg.refl _ _⟩
  case round =>
    obtain ⟨acc, qs, k, nr, prr, cpr, hk, rfl, rfl, HNR, hnr, sR, HA, hr, cw⟩ := hrel
    obtain ⟨pr0, cr0, rfl⟩ := row_slice hr
    by_cases hlt : k < np
    · have hlt' : (k : Int) < (np : Int) := by omega
      have hkp : k < ps0.length := by rw [HNP.out]; exact hlt
      obtain ⟨x, hx⟩ : ∃ x, ps0[k]? = some x := ⟨_, List.getElem?_eq_getElem hkp⟩
      have HTk : Hid (ps0.drop k = x :: ps0.drop (k + 1)) := by
        rw [List.drop_eq_getElem_cons hkp]
        rw [List.getElem?_eq_getElem hkp] at hx
        rw [Option.some.inj hx]
        exact rfl
      obtain ⟨bp, op, rfl, x1, x2⟩ := SlP.at (show SlP wr _ _ from SlE.no eP_len (by decide) sp cw) k x hx
      obtain ⟨xa, xb⟩ := x
      simp only at x1 x2
      clear hx hkp
      obtain ⟨y1, y2⟩ := pairBox wr (xa : Int) (xb : Int)
      have cw1 : Chg No w2 (wr.alloc (.cells #[.int .i64 (xa : Int), .int .i64 (xb : Int)] 208)) := cw.alloc _
      have hr1 := hr.alloc (.cells #[.int .i64 (xa : Int), .int .i64 (xb : Int)] 208)
      have hBn : ∀ k, Value.ownBlock (.slice pr0 acc.length cr0) = some k → w2.heap.size ≤ k ∧ k ≠ wr.heap.size := fun k hk => by
        have := hr.lt k hk
        omega
      gi_wp2
      generalize wr.alloc (.cells #[.int .i64 (xa : Int), .int .i64 (xb : Int)] 208) = W1 at *
      generalize wr.heap.size = B at *
      have HA1 : Hid (acc ++ (hd3 (xa, xb) (dw xa qs) ++ sd (ps0.drop (k + 1)) (dw xa qs)) = tot) := by
        have := HA.out
        rw [HTk.out] at this
        exact this
      clear x1 x2 cw hr HA
      gi_loopw [8] (fun v8 wi => ∃ (qs1 : List (Nat × Nat)) (n1 : Nat) (p1 : Option Addr) (c1 : Nat), v8 = .slice p1 n1 c1 ∧ Hid (qs1.length = n1) ∧ n1 ≤ 400 ∧ SlP w2 (.slice p1 n1 c1) qs1 ∧ Hid (dw xa qs = dw xa qs1) ∧ Chg No W1 wi) (fun v8 _ => match v8 with | .slice _ n _ => n | _ => 0)
      case atStart => exact ⟨qs, nr, prr, cpr, rfl, HNR, hnr, sR, rfl, Chg.refl _ _⟩
      case round =>
        obtain ⟨qs1, n1, p1, c1', rfl, HN1, hn1, sR1, HD, ci⟩ := hrel
        have cw2 := Chg.seq cw1 ci
        have z1 := chgCell ci y1 (fun h => h)
        have z2 := chgCell ci y2 (fun h => h)
        have hr2 := row_keptN hr1 (fun k hk => ci.block k (hr1.lt k hk).2 (fun h => h))
        cases qs1 with
        | nil =>
          obtain rfl : n1 = 0 := by have := HN1.out; simp at this; omega
          have HA2 : Hid (acc ++ sd (ps0.drop (k + 1)) [] = tot) := by
            have := HA1.out
            rw [HD.out] at this
            show _ = _
            simpa [dw, hd3] using this
          have hg : decide ((0 : Int) < ((0 : Nat) : Int)) = false := by simp
          have hg' : decide ((0 : Int) < 0) = false := by simp
          gi_wp2
          refine wpIn_region_quiet_lit rfl hmix (by kernel_rfl) ?_
          repeat (gi_big_quiet_step (fail))
          refine wpQuietIn_nil ?_
          rintro w' ⟨j1, rfl⟩
          gi_wp2
          refine wpIn_region_quiet_lit rfl hmix (by kernel_rfl) ?_
          repeat (gi_big_quiet_step (fail))
          refine wpQuietIn_nil ?_
          rintro w' ⟨j2, rfl⟩
          gi_wp2
          go_roundw
          case rel => exact ⟨acc, [], k + 1, 0, p1, c1', hlt, by go_num, rfl, rfl, Nat.zero_le _, sR1, HA2, hr2, drewNC cw2 _⟩
          case measure => simp [intOf]; omega
        | cons y qs2 =>
          have hpos : 0 < n1 := by have := HN1.out; simp at this; omega
          have hg : decide ((0 : Int) < (n1 : Int)) = true := decide_eq_true (by omega)
          have hg' : (0 : Int) < (n1 : Int) := by omega
          obtain ⟨bq, oq, rfl, q1, q2⟩ := SlP.at (show SlP wr _ _ from SlE.no eP_len (by decide) sR1 cw2) 0 y rfl
          simp only [Nat.zero_mul, Nat.add_zero] at q1 q2
          obtain ⟨ya, yb⟩ := y
          simp only at q1 q2
          by_cases hlt2 : ya < xa
          · have hl2 : decide ((ya : Int) < (xa : Int)) = true := decide_eq_true (by omega)
            have hl2' : (ya : Int) < (xa : Int) := by omega
            obtain ⟨p3, c3, s3, _, hcut⟩ := SlE.low Tryz.underlying206 size_pair sR1 HN1.out 1 hpos .i64
            have HD2 : Hid (dw xa qs = dw xa qs2) := by
              show _ = _
              rw [HD.out, dw_step, if_pos hlt2]
            have HN2 : Hid (qs2.length = n1 - 1) := by have := HN1.out; rw [List.length_cons] at this; show _ = _; omega
            have hcut' : ∀ w, (Instr.sliceAt 206 (.slice (some ⟨bq, oq, none⟩) n1 c1') (some (.int .i64 1)) none none).run Tryz.prog w = .ok (.slice p3 (n1 - 1) c3) w := hcut
            have hn3 : n1 - 1 < n1 := by omega
            have hn3' : n1 - 1 ≤ 400 := by omega
            generalize n1 - 1 = n3 at *
            gi_wp2
            refine wpIn_region_quiet_lit rfl hmix (by kernel_rfl) ?_
            repeat (gi_big_quiet_step (fail))
            refine wpQuietIn_nil ?_
            rintro w' ⟨j1, rfl⟩
            gi_wp2
            go_roundw
            case rel => exact ⟨qs2, n3, p3, c3, rfl, HN2, hn3', s3, HD2, drewNC ci _⟩
            case measure => simpa using hn3
          · have hl2 : decide ((ya : Int) < (xa : Int)) = false := decide_eq_false (by omega)
            have HD2 : Hid (dw xa qs = (ya, yb) :: qs2) := by
              show _ = _
              rw [HD.out, dw_step, if_neg hlt2]
            by_cases heq : ya = xa
            · have he : ((ya : Int) == (xa : Int)) = true := by rw [heq]; simp
              have HA2 : Hid ((acc ++ [(xa, xb, yb)]) ++ sd (ps0.drop (k + 1)) ((ya, yb) :: qs2) = tot) := by
                have := HA1.out
                rw [HD2.out, hd3, if_pos heq] at this
                rw [List.append_assoc]
                exact this
              have hacc : acc.length + 1 ≤ 400 := by
                have h9 := congrArg List.length HA2.out
                have := HB.out
                simp only [List.length_append, List.length_singleton] at h9
                omega
              have hmx : acc.length + 1 ≤ maxLen := by unfold maxLen; omega
              clear heq
              gi_wp2
              refine wpIn_region_quiet_lit rfl hmix (by kernel_rfl) ?_
              repeat (gi_big_quiet_step (fail))
              refine wpQuietIn_nil ?_
              rintro w' ⟨j1, rfl⟩
              gi_wp2
              refine wpIn_region_quiet_lit rfl hmix (by kernel_rfl) ?_
              repeat (gi_big_quiet_step (fail))
              refine wpQuietIn_nil ?_
              rintro w' ⟨j2, rfl⟩
              gi_wp2
              have cw3 : Chg No w2 ((wr.drewN j1).drewN j2) := drewNC (drewNC cw2 j1) j2
              have hr3 : ((wr.drewN j1).drewN j2).ownsRow w2.heap.size 181 3 (.slice pr0 acc.length cr0) acc.length (acc.flatMap eT) := hr2
              have k1 : ((wr.drewN j1).drewN j2).cell? ⟨B, 0, none⟩ = some (.int .i64 (xa : Int)) := z1
              have k2 : ((wr.drewN j1).drewN j2).cell? ⟨B, 1, none⟩ = some (.int .i64 (xb : Int)) := z2
              have k3 : ((wr.drewN j1).drewN j2).cell? ⟨bq, oq + 1, none⟩ = some (.int .i64 (yb : Int)) := q2
              generalize (wr.drewN j1).drewN j2 = W0 at *
              have hbq : bq < w2.heap.size := SlE.lt eP_len (by decide) sR1 bq ⟨by simp, rfl⟩
              have hany := AfterB.any (fun k => Value.ownBlock (.slice pr0 acc.length cr0) = some k) W0
              have f1 : ∀ c : AfterB (fun k => Value.ownBlock (.slice pr0 acc.length cr0) = some k) W0, c.val.cell? ⟨B, 0, none⟩ = some (.int .i64 (xa : Int)) := fun c => c.cell k1 (fun h => (hBn B h).2 rfl)
              have f2 : ∀ c : AfterB (fun k => Value.ownBlock (.slice pr0 acc.length cr0) = some k) W0, c.val.cell? ⟨B, 1, none⟩ = some (.int .i64 (xb : Int)) := fun c => c.cell k2 (fun h => (hBn B h).2 rfl)
              have f3 : ∀ c : AfterB (fun k => Value.ownBlock (.slice pr0 acc.length cr0) = some k) W0, c.val.cell? ⟨bq, oq + 1, none⟩ = some (.int .i64 (yb : Int)) := fun c => c.cell k3 (fun h => by have := (hBn bq h).1; omega)
              refine region_push 10 11 _ _ hmix (by kernel_rfl) (by kernel_rfl) rfl rfl (by kernel_rfl) rfl _ _ 182 rfl w2.heap.size 181 i0 (.agg #[.int .i64 0, .int .i64 0, .int .i64 0]) 3 24 Tryz.underlying182 hi hz0 hz1 hz2 rfl (by decide) (.slice pr0 acc.length cr0) acc.length (acc.flatMap eT) [.int .i64 (xa : Int), .int .i64 (xb : Int), .int .i64 (yb : Int)] hr3 rfl (by simp [Value.oneCell']) hmx (by omega) cw3.size ?_
              intro v1 v2
              simp only [hushE, Nat.reduceAdd, Nat.reduceBEq, Bool.or_self, Bool.or_true, Bool.or_false, if_true, if_false, Bool.false_eq_true]
              repeat (gi_big_quiet_step (fail))
              refine wpQuietIn_nil ⟨fun W => ?_, ⟨rfl, rfl⟩, ?_⟩
              · simp [execOp, go_sem]
              · intro W hown' c' hmv
                have c9 : Chg No w2 W := cw3.trans c' (fun k h => .inr (hBn k h).1)
                gi_wp2
                go_roundw
                case rel => exact ⟨acc ++ [(xa, xb, yb)], (ya, yb) :: qs2, k + 1, n1, _, c1', hlt, by go_num, rfl, HN1, hn1, sR1, HA2, by rw [List.length_append, List.flatMap_append]; exact hown', c9⟩
                case measure => simp [intOf]; omega
            · have he : ((ya : Int) == (xa : Int)) = false := by rw [beq_eq_false_iff_ne]; omega
              have HA2 : Hid (acc ++ sd (ps0.drop (k + 1)) ((ya, yb) :: qs2) = tot) := by
                have := HA1.out
                rw [HD2.out, hd3, if_neg heq, List.nil_append] at this
                exact this
              clear heq
              gi_wp2
              refine wpIn_region_quiet_lit rfl hmix (by kernel_rfl) ?_
              repeat (gi_big_quiet_step (fail))
              refine wpQuietIn_nil ?_
              rintro w' ⟨j1, rfl⟩
              gi_wp2
              refine wpIn_region_quiet_lit rfl hmix (by kernel_rfl) ?_
              repeat (gi_big_quiet_step (fail))
              refine wpQuietIn_nil ?_
              rintro w' ⟨j2, rfl⟩
              gi_wp2
              go_roundw
              case rel => exact ⟨acc, (ya, yb) :: qs2, k + 1, n1, _, c1', hlt, by go_num, rfl, HN1, hn1, sR1, HA2, hr2, drewNC cw2 _⟩
              case measure => simp [intOf]; omega
    · obtain rfl : k = np := by omega
      have hlt' : ¬ (k : Int) < (k : Int) := by omega
      have HD : Hid (acc = tot) := by
        have := HA.out
        rw [List.drop_eq_nil_of_le (by rw [HNP.out]; exact Nat.le_refl _)] at this
        show _ = _
        simpa [sd] using this
      have hres : wr.ownsRow w.heap.size 181 3 (.slice pr0 acc.length cr0) tot.length (tot.flatMap eT) := by
        have := rowBase hr c02.size
        rw [HD.out] at this ⊢
        exact this
      gi_wp2
      go_ret
      exact ⟨_, rfl, hres, Chg.seq c02 cw⟩

end Go.Proofs.YtakbeololabmhaaGreatDoor

end
