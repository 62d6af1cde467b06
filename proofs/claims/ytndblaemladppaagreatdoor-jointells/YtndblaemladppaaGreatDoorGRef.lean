/-
  Of: RTab, RPairs, RSame, T3R, RPlaces, RParts, RMerge.
-/
import Derived.Test.YtndblaemladppaaGreatDoorGDiff
import Derived.Sort.CutIn
import Derived.Test.YtndblaemladppaaGreatDoorTxt
import Derived.Deep.QuietTactic
import Derived.BigQuiet
import Derived.Test.YtndblaemladppaaGreatDoorGPure
section
-- RTab
namespace Go.Proofs.YtndblaemladppaaGreatDoor
open Go.RowKit Go.Shelf Go.SeqLib Go.DiffLib Go.BigFrame
attribute [local go_sem] Oper.semAt_some

set_option maxHeartbeats 1000000 in
theorem refGreat_in (p q : Option Addr) (n m c d : Nat) (hn : n ≤ 400) (hm : m ≤ 400) (w : World) : CallsIn Fence.wide 0 Tryz.prog 134 #[.slice p n c, .slice q m d] w fun e w' => e = .returned (.bool false) ∧ w' = w := by
  have h1 : ¬ (400 : Int) < (n : Int) := by omega
  have h2 : ¬ (400 : Int) < (m : Int) := by omega
  refine callsIn_of_wp Tryz.func134 rfl trivial ?_
  simp only [Tryz.ntmps134, List.size_toArray, List.length_cons, List.length_nil, Nat.reduceAdd, Nat.reduceSub, Array.replicate_succ, Array.replicate_zero, List.push_toArray, List.append_toArray, List.nil_append, List.cons_append]
  gi_wp2
  go_ret
  exact ⟨rfl, rfl⟩

set_option maxRecDepth 100000 in
set_option maxHeartbeats 2000000 in
theorem table_in (v u : Value) (a b : List ByteArray) (w : World) (hv : SlV w v (a.map Value.string)) (hu : SlV w u (b.map Value.string)) (ha : a.length ≤ 400) (hb : b.length ≤ 400) :
    CallsIn Fence.wide 0 Tryz.prog 135 #[v, u] w fun e w' => ∃ G R, e = .returned (.slice (some ⟨G, 0, none⟩) (a.length + 1) (a.length + 1)) ∧ Tab w' G a.length b.length 0 R (fillV a b 0 0) ∧ (∀ k, tabB G a.length 0 R k → w.heap.size ≤ k) ∧ Chg No w w' := by
  have hmix : Tryz.prog.follows .mixedOrders = true := by kernel_rfl
  obtain ⟨p, cp, rfl, hp1, hp2, hpc⟩ := id hv
  obtain ⟨q, cq, rfl, hq1, hq2, hqc⟩ := id hu
  rw [List.length_map] at hp1 hq1
  obtain ⟨n, HN⟩ : ∃ n, Hid (a.length = n) := ⟨_, rfl⟩
  obtain ⟨m, HM⟩ : ∃ m, Hid (b.length = m) := ⟨_, rfl⟩
  rw [List.length_map, HN.out] at hv
  rw [List.length_map, HM.out] at hu
  rw [List.length_map, List.length_map, HN.out, HM.out]
  rw [HN.out] at ha hp1
  rw [HM.out] at hb hq1
  have hmR := makeR n (by omega)
  have hmI := makeI m (by omega)
  clear hpc hqc
  refine callsIn_of_wp Tryz.func135 rfl trivial ?_
  simp only [Tryz.ntmps135, List.size_toArray, List.length_cons, List.length_nil, Nat.reduceAdd, Nat.reduceSub, Array.replicate_succ, Array.replicate_zero, List.push_toArray, List.append_toArray, List.nil_append, List.cons_append]
  have hT0 := Tab.empty w n m (fun _ => 0) (fun _ _ => 0)
  have c0 : Chg No w (w.alloc (.cells (madeCells #[.slice none 0 0] (n + 1)) 141)) := (Chg.refl _ w).alloc _
  gi_wp2
  generalize hG : w.heap.size = G at *
  gi_loopw [6] (fun vi wr => ∃ (r : Nat) (R : Nat → Nat), r ≤ n + 1 ∧ vi = .int .i64 ((r : Int) - 1) ∧ Tab wr G n m r R (fillV a b r 0) ∧ Hid (∀ k, tabB G n r R k → G ≤ k) ∧ Chg No w wr) (fun vi _ => (intOf vi + 1).toNat)
  case atStart =>
    refine ⟨n + 1, fun _ => 0, Nat.le_refl _, by go_num, hT0.congr (fun i j h1 h2 _ => by omega), ?_, c0⟩
    rintro k (rfl | ⟨i, h1, h2, _⟩)
    · exact Nat.le_refl _
    · omega
  case round =>
    obtain ⟨r, R, hr, rfl, hT, HOW, cw⟩ := hrel
    by_cases hlt : 0 < r
    · obtain ⟨x, rfl⟩ : ∃ x, r = x + 1 := ⟨r - 1, by omega⟩
      have hxI : ((x + 1 : Nat) : Int) - 1 = (x : Int) := by omega
      rw [hxI]
      have hxn : x ≤ n := by omega
      have hx1 : (x : Int) < (n : Int) + 1 := by omega
      have hx0 : (0 : Int) ≤ (x : Int) := by omega
      have hT5 : Tab ((wr.alloc (.cells (madeCells #[.int .i64 0] (m + 1)) 3)).setCell ⟨G, x, none⟩ (.slice (some ⟨wr.heap.size, 0, none⟩) (m + 1) (m + 1))) G n m x (fun i => if i = x then wr.heap.size else R i) (fillV a b x m) := by
        refine (hT.new hxn).congr (fun i j h1 h2 h3 => ?_)
        by_cases e : i = x
        · subst e
          rw [if_pos rfl]
          unfold fillV
          split
          · obtain rfl : j = m := by omega
            rw [← HM.out, tl_end']
            rfl
          · rfl
        · rw [if_neg e, fillV_old _ (show x < i by omega)]
          unfold fillV
          rw [if_pos (by omega)]
      have hGs : G < wr.heap.size := hT.outer.lt
      have cT : Chg No w ((wr.alloc (.cells (madeCells #[.int .i64 0] (m + 1)) 3)).setCell ⟨G, x, none⟩ (.slice (some ⟨wr.heap.size, 0, none⟩) (m + 1) (m + 1))) := (cw.alloc _).setCell (p := ⟨G, x, none⟩) (.inr (by rw [hG]; exact Nat.le_refl _)) _
      have hcl : (wr.alloc (.cells (madeCells #[.int .i64 0] (m + 1)) 3)).cell? ⟨G, x, none⟩ = some (.slice none 0 0) := by
        have := (hT.outer.alloc (.cells (madeCells #[.int .i64 0] (m + 1)) 3)).cell (i := x) (by omega)
        rw [if_neg (by omega)] at this
        exact this
      have hfl := (hT.outer.alloc (.cells (madeCells #[.int .i64 0] (m + 1)) 3)).frozen x
      have hRn : Hid (∀ i, x + 1 ≤ i → i ≤ n → R i < wr.heap.size ∧ G ≤ R i) := fun i h1 h2 => ⟨hT.lt _ (.inr ⟨i, h1, h2, rfl⟩), HOW.out _ (.inr ⟨i, h1, h2, rfl⟩)⟩
      obtain ⟨N, hN⟩ : ∃ N, wr.heap.size = N := ⟨_, rfl⟩
      rw [hN] at hT5 hRn hGs cT
      have hcomm : (wr.alloc (.cells (madeCells #[.int .i64 0] (m + 1)) 3)).setCell ⟨G, x, none⟩ (.slice (some ⟨N, 0, none⟩) (m + 1) (m + 1)) = (wr.setCell ⟨G, x, none⟩ (.slice (some ⟨N, 0, none⟩) (m + 1) (m + 1))).alloc (.cells (madeCells #[.int .i64 0] (m + 1)) 3) := by
        exact World.setCell_alloc_past _ _ _ _ (by omega)
      rw [hcomm] at hT5 cT
      clear hcomm
      gi_wp2
      have HG : Hid (w.heap.size = G) := hG
      have hc1 : Chg No w _ := cT
      generalize ((wr.setCell ⟨G, x, none⟩ (.slice (some ⟨N, 0, none⟩) (m + 1) (m + 1))).alloc (.cells (madeCells #[.int .i64 0] (m + 1)) 3)) = W5 at *
      clear hcl hfl hT cw hG hN cT hT0 c0 hmR hmI
      have HEnd : Hid (∀ wz, Tab wz G n m x (fun i => if i = x then N else R i) (fillV a b x 0) → Chg No w wz → ∃ R', Tab wz G n m x R' (fillV a b x 0) ∧ Hid (∀ k, tabB G n x R' k → G ≤ k)) := by
        intro wz hz _
        refine ⟨_, hz, ?_⟩
        rintro k (rfl | ⟨i, h1, h2, hk⟩)
        · exact Nat.le_refl _
        · by_cases e : i = x
          · simp only [if_pos e] at hk; omega
          · simp only [if_neg e] at hk
            have := (hRn.out i (by omega) h2).2
            omega
      gi_loopw [7] (fun vj wr => ∃ c : Nat, c ≤ m ∧ vj = .int .i64 ((c : Int) - 1) ∧ Tab wr G n m x (fun i => if i = x then N else R i) (fillV a b x c) ∧ Chg No w wr) (fun vj _ => (intOf vj + 1).toNat)
      case atStart => exact ⟨m, Nat.le_refl _, by go_num, hT5, hc1⟩
      case round =>
        obtain ⟨c, hc, rfl, h, cw⟩ := hrel
        by_cases hxx : x < n
        · have hxx' : (x : Int) < (n : Int) := by omega
          by_cases hcl : 0 < c
          · obtain ⟨j, rfl⟩ : ∃ j, c = j + 1 := ⟨c - 1, by omega⟩
            have hjI : ((j + 1 : Nat) : Int) - 1 = (j : Int) := by omega
            rw [hjI]
            have hjm : j < m := by omega
            have hj0 : (0 : Int) ≤ (j : Int) := by omega
            have hxa : x < a.length := by rw [HN.out]; exact hxx
            have hjb : j < b.length := by rw [HM.out]; exact hjm
            obtain ⟨ax, hax⟩ : ∃ ax, a[x] = ax := ⟨_, rfl⟩
            obtain ⟨bj, hbj⟩ : ∃ bj, b[j] = bj := ⟨_, rfl⟩
            obtain ⟨ba, oa, rfl, hca⟩ : ∃ ba oa, p = some ⟨ba, oa, none⟩ ∧ wr.cell? ⟨ba, oa + x, none⟩ = some (.string ax) := by
              obtain ⟨p', cap', e, _, _, hcc⟩ := hv.no cw
              cases e
              exact hcc x (.string ax) (by rw [List.getElem?_map, List.getElem?_eq_getElem hxa, hax]; rfl)
            obtain ⟨bb, ob, rfl, hcb⟩ : ∃ bb ob, q = some ⟨bb, ob, none⟩ ∧ wr.cell? ⟨bb, ob + j, none⟩ = some (.string bj) := by
              obtain ⟨p', cap', e, _, _, hcc⟩ := hu.no cw
              cases e
              exact hcc j (.string bj) (by rw [List.getElem?_map, List.getElem?_eq_getElem hjb, hbj]; rfl)
            have HTL : Hid (tl (a.drop x) (b.drop j) = if ax = bj then tl (a.drop (x + 1)) (b.drop (j + 1)) + 1 else max (tl (a.drop (x + 1)) (b.drop j)) (tl (a.drop x) (b.drop (j + 1)))) := by
              have htl := tl_at a b x j hxa hjb
              rw [hax, hbj] at htl
              exact htl
            have r0 : wr.cell? ⟨G, x, none⟩ = some (.slice (some ⟨N, 0, none⟩) (m + 1) (m + 1)) := by
              have := h.row (i := x) (Nat.le_refl _) (by omega)
              simp only [if_pos] at this
              exact this
            have r1 : wr.cell? ⟨G, x + 1, none⟩ = some (.slice (some ⟨R (x + 1), 0, none⟩) (m + 1) (m + 1)) := by
              have := h.row (i := x + 1) (by omega) (by omega)
              simp only [if_neg (show ¬ x + 1 = x by omega)] at this
              exact this
            have hV1 : ∀ j', j' ≤ m → wr.cell? ⟨R (x + 1), j', none⟩ = some (.int .i64 (tl (a.drop (x + 1)) (b.drop j') : Int)) := by
              intro j' hj'
              have := h.num (i := x + 1) (by omega) (by omega) hj'
              rw [fillV_old _ (by omega)] at this
              simp only [if_neg (show ¬ x + 1 = x by omega)] at this
              exact this
            have v01 : wr.cell? ⟨N, j + 1, none⟩ = some (.int .i64 (tl (a.drop x) (b.drop (j + 1)) : Int)) := by
              have := h.num (i := x) (Nat.le_refl _) (by omega) (show j + 1 ≤ m by omega)
              rw [fillV_now (Nat.le_refl _)] at this
              simp only [if_pos] at this
              exact this
            obtain ⟨⟨uu, w1⟩, w2⟩ : (∃ u, wr.cell? ⟨N, j, none⟩ = some u) ∧ wr.frozen? ⟨N, j, none⟩ = false := by
              have h9 := h.inner x (Nat.le_refl _) (by omega)
              simp only [if_pos] at h9
              exact ⟨⟨_, h9.cell (by omega)⟩, h9.frozen j⟩
            have HP : Hid (∀ (k : Nat) (z : Int), z = (tl (a.drop x) (b.drop j) : Int) → Tab ((wr.drewN k).setCell ⟨N, j, none⟩ (.int .i64 z)) G n m x (fun i => if i = x then N else R i) (fillV a b x j) ∧ Chg No w ((wr.drewN k).setCell ⟨N, j, none⟩ (.int .i64 z))) := by
              intro k z hz
              refine ⟨?_, (drewNC cw k).setCell (p := ⟨N, j, none⟩) (.inr (by rw [HG.out]; exact Nat.le_of_lt hGs)) _⟩
              have h9 := (h.kept (W' := wr.drewN k) (fun _ _ => rfl)).put (i := x) (Nat.le_refl _) (by omega) j z
              simp only [if_pos] at h9
              refine h9.congr (fun i j' e1 e2 e3 => ?_)
              by_cases ei : i = x
              · subst ei
                by_cases ej : j' = j
                · subst ej
                  rw [if_pos ⟨rfl, rfl⟩, fillV_now (Nat.le_refl _), hz]
                · rw [if_neg (fun h => ej h.2)]
                  by_cases hjj : j ≤ j'
                  · rw [fillV_now (by omega), fillV_now hjj]
                  · unfold fillV
                    rw [if_neg (by omega), if_neg (by omega)]
              · rw [if_neg (fun h => ei h.1), fillV_old _ (by omega), fillV_old _ (by omega)]
            have v11 := hV1 (j + 1) (by omega)
            have v10 := hV1 j (by omega)
            have hx2 : (x : Int) + 1 < (n : Int) + 1 := by omega
            have hj1 : (j : Int) < (m : Int) + 1 := by omega
            have hj2 : (j : Int) + 1 < (m : Int) + 1 := by omega
            have hjm' : (j : Int) < (m : Int) := by omega
            have hbd := (tl_le (a.drop (x + 1)) (b.drop (j + 1))).1
            rw [List.length_drop, HN.out] at hbd
            clear hV1 hax hbj hxa hjb h hT5
            generalize tl (a.drop (x + 1)) (b.drop (j + 1)) = t11 at *
            generalize tl (a.drop (x + 1)) (b.drop j) = t10 at *
            generalize tl (a.drop x) (b.drop (j + 1)) = t01 at *
            generalize tl (a.drop x) (b.drop j) = t00 at *
            generalize R (x + 1) = Rx at *
            by_cases hxy : ax = bj
            · have hb : (ax.toList == bj.toList) = true := by rw [hxy]; simp
              have HT0 : Hid (((1 : Int) + (t11 : Int)) = (t00 : Int)) := by
                have := HTL.out
                rw [if_pos hxy] at this
                show _ = _
                omega
              clear hxy HTL
              gi_wp2
              refine wpIn_region_quiet_lit rfl hmix (by kernel_rfl) ?_
              repeat (gi_big_quiet_step (fail))
              refine wpQuietIn_nil ?_
              rintro w' ⟨k1, rfl⟩
              gi_wp2
              refine region_store_lit hmix rfl (by kernel_rfl) (by kernel_rfl) rfl ?_
              simp only [lastHush, hush, List.replicate, List.length_cons, List.length_nil, List.nil_append, List.cons_append, Nat.reduceAdd, Nat.reduceSub]
              repeat (gi_big_quiet_step (fail))
              refine wpQuietIn_nil ?_
              rintro w' ⟨k, rfl⟩
              refine ⟨(wr.drewN (k1 + k)).setCell ⟨N, j, none⟩ (.int .i64 ((1 : Int) + (t11 : Int))), ?_, ?_⟩
              · simp [execOp, go_sem, w1, w2]
              obtain ⟨hz1, hz2⟩ := HP.out (k1 + k) _ HT0.out
              gi_wp2
              go_roundw
              case rel => exact ⟨j, by omega, by go_num, hz1, hz2⟩
              case measure => simp [intOf]
            · have hb : (ax.toList == bj.toList) = false := by rw [beq_eq_false_iff_ne]; exact fun h => hxy (text_ext h)
              have HT0 : Hid ((if t10 < t01 then (t01 : Int) else (t10 : Int)) = (t00 : Int)) := by
                have := HTL.out
                rw [if_neg hxy] at this
                rw [this]
                show _ = _
                split <;> omega
              clear hxy HTL
              gi_wp2
              refine wpIn_region_quiet_lit rfl hmix (by kernel_rfl) ?_
              repeat (gi_big_quiet_step (fail))
              refine wpQuietIn_nil ?_
              rintro w' ⟨k1, rfl⟩
              gi_wp2
              refine region_store_lit hmix rfl (by kernel_rfl) (by kernel_rfl) rfl ?_
              simp only [lastHush, hush, List.replicate, List.length_cons, List.length_nil, List.nil_append, List.cons_append, Nat.reduceAdd, Nat.reduceSub]
              repeat (gi_big_quiet_step (fail))
              refine wpQuietIn_nil ?_
              rintro w' ⟨k, rfl⟩
              refine ⟨(wr.drewN (k1 + k)).setCell ⟨N, j, none⟩ (.int .i64 (if t10 < t01 then (t01 : Int) else (t10 : Int))), ?_, ?_⟩
              · simp [execOp, go_sem, w1, w2]
              rw [HT0.out]
              obtain ⟨hz1, hz2⟩ := HP.out (k1 + k) _ rfl
              gi_wp2
              go_roundw
              case rel => exact ⟨j, by omega, by go_num, hz1, hz2⟩
              case measure => simp [intOf]
          · obtain rfl : c = 0 := by omega
            have hneg : ((0 : Nat) : Int) - 1 = -1 := by omega
            rw [hneg]
            clear hneg
            obtain ⟨R', h1, h2⟩ := HEnd.out _ h cw
            gi_wp2
            go_roundw
            case rel => exact ⟨x, R', by omega, by go_num, h1, h2, cw⟩
            case measure => simp [intOf]
        · have hxx' : ¬ (x : Int) < (n : Int) := by omega
          have hxn' : x = n := by omega
          have h' : Tab wr G n m x (fun i => if i = x then N else R i) (fillV a b x 0) := by
            refine h.congr (fun i j' e1 e2 e3 => ?_)
            obtain rfl : i = x := by omega
            rw [fillV_now (Nat.zero_le _)]
            unfold fillV
            have hz : tl (a.drop i) (b.drop j') = 0 := by rw [hxn', ← HN.out, tl_end]
            rw [hz]
            split <;> rfl
          clear hxn'
          obtain ⟨R', h1, h2⟩ := HEnd.out _ h' cw
          by_cases hcl : 0 < c
          · have hc0 : (0 : Int) ≤ (c : Int) - 1 := by omega
            gi_wp2
            go_roundw
            case rel => exact ⟨x, R', by omega, by go_num, h1, h2, cw⟩
            case measure => simp [intOf]
          · have hc0 : ¬ (0 : Int) ≤ (c : Int) - 1 := by omega
            gi_wp2
            go_roundw
            case rel => exact ⟨x, R', by omega, by go_num, h1, h2, cw⟩
            case measure => simp [intOf]
    · obtain rfl : r = 0 := by omega
      have hneg : ((0 : Nat) : Int) - 1 = -1 := by omega
      rw [hneg]
      clear hneg
      gi_wp2
      go_ret
      exact ⟨G, R, rfl, hT, fun k hk => by rw [hG]; exact HOW.out k hk, cw⟩

end Go.Proofs.YtndblaemladppaaGreatDoor

end
section
-- RPairs
namespace Go.Proofs.YtndblaemladppaaGreatDoor
open Go.RowKit Go.Shelf Go.SeqLib Go.DiffLib Go.BigFrame
attribute [local go_sem] Oper.semAt_some

set_option maxRecDepth 100000 in
set_option maxHeartbeats 1000000 in
theorem refPairs_in (v u : Value) (a b : List ByteArray) (w : World) (hv : SlV w v (a.map Value.string)) (hu : SlV w u (b.map Value.string)) (ha : a.length ≤ 400) (hb : b.length ≤ 400) :
    CallsIn Fence.wide 0 Tryz.prog 130 #[v, u] w fun e w' => ∃ v', e = .returned v' ∧ w'.ownsRow w.heap.size 135 2 v' (pr a b 0 0).length ((pr a b 0 0).flatMap eP) ∧ Chg No w w' := by
  have hmix : Tryz.prog.follows .mixedOrders = true := by kernel_rfl
  obtain ⟨i0, hi, hz0, hz1, hz2⟩ := info_parts info135
  obtain ⟨p, cp, rfl, hp1, hp2, hpc⟩ := id hv
  obtain ⟨q, cq, rfl, hq1, hq2, hqc⟩ := id hu
  have HT := table_in _ _ a b w hv hu (by omega) (by omega)
  have hv0 := hv
  have hu0 := hu
  rw [List.length_map] at hp1 hq1
  obtain ⟨n, HN⟩ : ∃ n, Hid (a.length = n) := ⟨_, rfl⟩
  obtain ⟨m, HM⟩ : ∃ m, Hid (b.length = m) := ⟨_, rfl⟩
  rw [List.length_map, HN.out] at hv
  rw [List.length_map, HM.out] at hu
  rw [List.length_map, List.length_map, HN.out, HM.out] at HT
  rw [List.length_map, List.length_map, HN.out, HM.out]
  rw [HN.out] at ha hp1
  rw [HM.out] at hb hq1
  have hl := refGreat_in p q n m cp cq ha hb w
  clear hpc hqc hv0 hu0
  obtain ⟨tot, HTot⟩ : ∃ t, Hid (pr a b 0 0 = t) := ⟨_, rfl⟩
  rw [HTot.out]
  have HB : Hid (tot.length ≤ 400) := by
    show _ ≤ _
    rw [← HTot.out, pr_length]
    exact Nat.le_trans (tl_le a b).1 (by rw [HN.out]; exact ha)
  refine callsIn_of_wp Tryz.func130 rfl trivial ?_
  simp only [Tryz.ntmps130, List.size_toArray, List.length_cons, List.length_nil, Nat.reduceAdd, Nat.reduceSub, Array.replicate_succ, Array.replicate_zero, List.push_toArray, List.append_toArray, List.nil_append, List.cons_append]
  gi_wp2_with fail
  refine ⟨trivial, rfl, hl.mono ?_⟩
  rintro e w1 ⟨rfl, rfl⟩
  gi_wp2_with fail
  refine ⟨trivial, rfl, HT.mono ?_⟩
  rintro e w2 ⟨G, R, rfl, hT, hown, c⟩
  clear HT hl
  have hv2 := hv.no c
  have hu2 := hu.no c
  gi_wp2
  gi_loopw [6, 7, 8] (fun v i j wr => ∃ (acc : List (Nat × Nat)) (ki kj : Nat), ki ≤ n ∧ kj ≤ m ∧ i = .int .i64 (ki : Int) ∧ j = .int .i64 (kj : Int) ∧ Hid (acc ++ pr (a.drop ki) (b.drop kj) ki kj = tot) ∧ wr.ownsRow w2.heap.size 135 2 v acc.length (acc.flatMap eP) ∧ Chg No w2 wr) (fun v i j _ => (n - (intOf i).toNat) + (m - (intOf j).toNat))
  case atStart => exact ⟨[], 0, 0, Nat.zero_le _, Nat.zero_le _, rfl, rfl, by show _ = _; simpa using HTot.out, World.ownsRow_nil _ _ _ _, Chg.refl _ _⟩
  case round =>
    obtain ⟨acc, ki, kj, hki, hkj, rfl, rfl, HA, hr, cw⟩ := hrel
    by_cases hlt : ki < n ∧ kj < m
    · obtain ⟨hlt1, hlt2⟩ := hlt
      have h1 : (ki : Int) < (n : Int) := by omega
      have h2 : (kj : Int) < (m : Int) := by omega
      have hka : ki < a.length := by rw [HN.out]; exact hlt1
      have hkb : kj < b.length := by rw [HM.out]; exact hlt2
      have hat := pr_at a b ki kj hka hkb
      obtain ⟨x, hx⟩ : ∃ x, a[ki] = x := ⟨_, rfl⟩
      obtain ⟨y, hy⟩ : ∃ y, b[kj] = y := ⟨_, rfl⟩
      rw [hx, hy] at hat
      obtain ⟨ba, oa, rfl, hca⟩ : ∃ ba oa, p = some ⟨ba, oa, none⟩ ∧ wr.cell? ⟨ba, oa + ki, none⟩ = some (.string x) := by
        obtain ⟨p', cap', e, _, _, hc⟩ := hv2.no cw
        cases e
        exact hc ki (.string x) (by rw [List.getElem?_map, List.getElem?_eq_getElem hka, hx]; rfl)
      obtain ⟨bb, ob, rfl, hcb⟩ : ∃ bb ob, q = some ⟨bb, ob, none⟩ ∧ wr.cell? ⟨bb, ob + kj, none⟩ = some (.string y) := by
        obtain ⟨p', cap', e, _, _, hc⟩ := hu2.no cw
        cases e
        exact hc kj (.string y) (by rw [List.getElem?_map, List.getElem?_eq_getElem hkb, hy]; rfl)
      have HAt : Hid (pr (a.drop ki) (b.drop kj) ki kj = if x = y then (ki, kj) :: pr (a.drop (ki + 1)) (b.drop (kj + 1)) (ki + 1) (kj + 1)
        else if tl (a.drop ki) (b.drop (kj + 1)) ≤ tl (a.drop (ki + 1)) (b.drop kj) then pr (a.drop (ki + 1)) (b.drop kj) (ki + 1) kj else pr (a.drop ki) (b.drop (kj + 1)) ki (kj + 1)) := hat
      clear hat hx hy hka hkb
      have hT3 := hT.chg cw (fun _ _ h => h)
      have r0 := hT3.row (i := ki) (Nat.zero_le _) (by omega)
      have r1 := hT3.row (i := ki + 1) (Nat.zero_le _) (by omega)
      have v10 := hT3.num (i := ki + 1) (j := kj) (Nat.zero_le _) (by omega) (by omega)
      have v01 := hT3.num (i := ki) (j := kj + 1) (Nat.zero_le _) (by omega) (by omega)
      rw [fillV_old _ (by omega)] at v10
      have e01 : fillV a b 0 0 ki (kj + 1) = (tl (a.drop ki) (b.drop (kj + 1)) : Int) := by unfold fillV; rw [if_pos (by omega)]
      rw [e01] at v01
      clear e01
      generalize R ki = Rk at *
      generalize R (ki + 1) = Rk1 at *
      obtain ⟨t10, ht10⟩ : ∃ t, Hid (tl (a.drop (ki + 1)) (b.drop kj) = t) := ⟨_, rfl⟩
      obtain ⟨t01, ht01⟩ : ∃ t, Hid (tl (a.drop ki) (b.drop (kj + 1)) = t) := ⟨_, rfl⟩
      rw [ht10.out] at v10 HAt
      rw [ht01.out] at v01 HAt
      have hx1 : (ki : Int) < (n : Int) + 1 := by omega
      have hx2 : (ki : Int) + 1 < (n : Int) + 1 := by omega
      have hj1 : (kj : Int) < (m : Int) + 1 := by omega
      have hj2 : (kj : Int) + 1 < (m : Int) + 1 := by omega
      obtain ⟨z, hz⟩ : ∃ z, decide (x = y) = z := ⟨_, rfl⟩
      have hzb : (x.toList == y.toList) = z := by
        rw [← hz]
        by_cases h : x = y
        · rw [h]; simp
        · rw [decide_eq_false h, beq_eq_false_iff_ne]; exact fun e => h (text_ext e)
      obtain ⟨pr0, cr0, rfl⟩ := row_slice hr
      gi_wp2
      refine wpIn_region_quiet_lit rfl hmix (by kernel_rfl) ?_
      repeat (gi_big_quiet_step (fail))
      refine wpQuietIn_nil ?_
      rintro w' ⟨k, rfl⟩
      have cw2 := drewNC cw k
      have hr2 : (wr.drewN k).ownsRow w2.heap.size 135 2 (.slice pr0 acc.length cr0) acc.length (acc.flatMap eP) := hr
      cases z
      · -- unlike
        have hne := of_decide_eq_false hz
        by_cases hge : t01 ≤ t10
        · have hge' : (t01 : Int) ≤ (t10 : Int) := by omega
          have HA2 : Hid (acc ++ pr (a.drop (ki + 1)) (b.drop kj) (ki + 1) kj = tot) := by
            have := HA.out
            rw [HAt.out, if_neg hne, if_pos hge] at this
            exact this
          clear hne hge HAt hzb hz hr
          gi_wp2
          refine wpIn_region_quiet_lit rfl hmix (by kernel_rfl) ?_
          repeat (gi_big_quiet_step (fail))
          refine wpQuietIn_nil ?_
          rintro w' ⟨k2, rfl⟩
          gi_wp2
          go_roundw
          case rel => exact ⟨acc, ki + 1, kj, hlt1, hkj, by go_num, rfl, HA2, hr2, drewNC cw _⟩
          case measure => simp [intOf]; omega
        · have hge' : ¬ (t01 : Int) ≤ (t10 : Int) := by omega
          have HA2 : Hid (acc ++ pr (a.drop ki) (b.drop (kj + 1)) ki (kj + 1) = tot) := by
            have := HA.out
            rw [HAt.out, if_neg hne, if_neg hge] at this
            exact this
          clear hne hge HAt hzb hz hr
          gi_wp2
          refine wpIn_region_quiet_lit rfl hmix (by kernel_rfl) ?_
          repeat (gi_big_quiet_step (fail))
          refine wpQuietIn_nil ?_
          rintro w' ⟨k2, rfl⟩
          gi_wp2
          go_roundw
          case rel => exact ⟨acc, ki, kj + 1, hki, hlt2, rfl, by go_num, HA2, hr2, drewNC cw _⟩
          case measure => simp [intOf]; omega
      · have hxy := of_decide_eq_true hz
        have HA2 : Hid ((acc ++ [(ki, kj)]) ++ pr (a.drop (ki + 1)) (b.drop (kj + 1)) (ki + 1) (kj + 1) = tot) := by
          have := HA.out
          rw [HAt.out, if_pos hxy] at this
          rw [List.append_assoc]
          exact this
        have hacc : acc.length + 1 ≤ 400 := by
          have h9 := congrArg List.length HA2.out
          have := HB.out
          simp only [List.length_append, List.length_singleton] at h9
          omega
        have hmx : acc.length + 1 ≤ maxLen := by unfold maxLen; omega
        have hbs : w2.heap.size ≤ ((wr.drewN k).alloc (.cells #[.int .i64 (ki : Int), .int .i64 (kj : Int)] 135)).heap.size := (cw2.alloc _).size
        have hcn := cells_new (wr.drewN k) [.int .i64 (ki : Int), .int .i64 (kj : Int)] 135
        have hsz : (wr.drewN k).heap.size = wr.heap.size := rfl
        clear hxy HAt hzb hz hr
        gi_wp2_with (gi_at_builtin; refine wpListIn_append_at _ rfl _ _ 133 rfl w2.heap.size 135 i0 (.agg #[.int .i64 0, .int .i64 0]) 2 16 Tryz.underlying133 hi hz0 hz1 hz2 rfl (by decide) _ _ _ rfl (hr2.alloc _) ⟨wr.heap.size, 0, none⟩ 1 1 [.int .i64 (ki : Int), .int .i64 (kj : Int)] rfl rfl hcn (by simp [Value.oneCell']) hmx (by omega) hbs ?_; intro v' w1 hown' hgrow _ hat; have c1 : Chg No w2 w1 := (cw2.alloc _).grown hgrow (fun k e => .inr (hr2.lt k e).1))
        go_roundw
        case rel => exact ⟨acc ++ [(ki, kj)], ki + 1, kj + 1, hlt1, hlt2, by go_num, by go_num, HA2, by rw [List.length_append, List.flatMap_append]; exact hown', c1⟩
        case measure => simp [intOf]; omega
    · obtain ⟨pr0, cr0, rfl⟩ := row_slice hr
      have HD : Hid (acc = tot) := by
        have := HA.out
        rw [pr_end a b ki kj (by rw [HN.out, HM.out]; exact hlt), List.append_nil] at this
        exact this
      have hres : wr.ownsRow w1.heap.size 135 2 (.slice pr0 acc.length cr0) tot.length (tot.flatMap eP) := by
        have := rowBase hr c.size
        rw [HD.out] at this ⊢
        exact this
      by_cases h1 : ki < n
      · have h1' : (ki : Int) < (n : Int) := by omega
        have h2' : ¬ (kj : Int) < (m : Int) := by omega
        gi_wp2
        go_ret
        exact ⟨_, rfl, hres, Chg.seq c cw⟩
      · have h1' : ¬ (ki : Int) < (n : Int) := by omega
        gi_wp2
        go_ret
        exact ⟨_, rfl, hres, Chg.seq c cw⟩

end Go.Proofs.YtndblaemladppaaGreatDoor

end
section
-- RSame
namespace Go.Proofs.YtndblaemladppaaGreatDoor
open Go.RowKit Go.Shelf Go.SeqLib
attribute [local go_sem] Oper.semAt_some

set_option maxHeartbeats 1000000 in
theorem refSame_in (v u : Value) (xs ys : List ByteArray) (w : World) (hv : SlV w v (xs.map Value.string)) (hu : SlV w u (ys.map Value.string)) :
    CallsIn Fence.wide 0 Tryz.prog 105 #[v, u] w fun e w' => e = .returned (.bool (decide (xs = ys))) ∧ Chg (fun _ => False) w w' := by
  obtain ⟨p, c1, rfl, hp1, hp2, hpc⟩ := hv
  obtain ⟨q, c2, rfl, hq1, hq2, hqc⟩ := hu
  rw [List.length_map] at hp1 hq1
  have hl1 : xs.length ≤ maxLen := by omega
  have hl2 : ys.length ≤ maxLen := by omega
  unfold maxLen at hl1 hl2
  rw [List.length_map, List.length_map]
  by_cases hlen : xs.length = ys.length
  · have he : ((xs.length : Int) != (ys.length : Int)) = false := by simp [hlen]
    have HL : Hid (xs.length = ys.length) := hlen
    clear hlen
    refine callsIn_of_wp Tryz.func105 rfl trivial ?_
    simp only [Tryz.ntmps105, List.size_toArray, List.length_cons, List.length_nil, Nat.reduceAdd, Nat.reduceSub, Array.replicate_succ, Array.replicate_zero, List.push_toArray, List.append_toArray, List.nil_append, List.cons_append]
    gi_wp2
    gi_loopw [5] (fun i wr => ∃ k : Nat, k ≤ xs.length ∧ i = .int .i64 (k : Int) ∧ Hid (xs.take k = ys.take k) ∧ Chg (fun _ => False) w wr) (fun i _ => xs.length - (intOf i).toNat)
    case atStart => exact ⟨0, Nat.zero_le _, rfl, rfl, Chg.refl _ _⟩
    case round =>
      obtain ⟨k, hk, rfl, hT, c⟩ := hrel
      by_cases hlt : k < xs.length
      · have hlt2 : k < ys.length := by rw [← HL.out]; exact hlt
        obtain ⟨b1, o1, rfl, hc1⟩ := hpc k (.string xs[k]) (by simp [hlt])
        obtain ⟨b2, o2, rfl, hc2⟩ := hqc k (.string ys[k]) (by simp [hlt2])
        have hw1 : wr.cell? ⟨b1, o1 + k, none⟩ = some (.string xs[k]) := (World.cell?_of_block (a := ⟨b1, o1 + k, none⟩) (c.block b1 (World.block_lt_of_cell? w _ hc1) (fun h => h))).trans hc1
        have hw2 : wr.cell? ⟨b2, o2 + k, none⟩ = some (.string ys[k]) := (World.cell?_of_block (a := ⟨b2, o2 + k, none⟩) (c.block b2 (World.block_lt_of_cell? w _ hc2) (fun h => h))).trans hc2
        clear hc1 hc2
        have hmix : Tryz.prog.follows .mixedOrders = true := by kernel_rfl
        by_cases hxy : xs[k] = ys[k]
        · have hb : (xs[k].toList == ys[k].toList) = true := by rw [hxy]; simp
          have HT : Hid (xs.take (k + 1) = ys.take (k + 1)) := by
            show _ = _
            rw [List.take_succ_eq_append_getElem hlt, List.take_succ_eq_append_getElem hlt2, hT.out, hxy]
          clear hxy
          generalize xs[k] = x at *
          generalize ys[k] = y at *
          gi_wp2
          gi_big_quiet_th_o (fail)
          gi_wp2
          go_roundw
          case rel => exact ⟨k + 1, hlt, by go_num, HT, drewNC c _⟩
          case measure => simp [intOf]; omega
        · have hb : (xs[k].toList == ys[k].toList) = false := by rw [beq_eq_false_iff_ne]; exact fun h => hxy (text_ext h)
          have HD : Hid (decide (xs = ys) = false) := by
            show _ = _
            rw [decide_eq_false_iff_not]; rintro rfl; exact hxy rfl
          clear hxy
          generalize xs[k] = x at *
          generalize ys[k] = y at *
          gi_wp2
          gi_big_quiet_th_o (fail)
          gi_wp2
          go_ret
          exact ⟨by rw [HD.out]; rfl, drewNC c _⟩
      · obtain rfl : k = xs.length := by omega
        have HD : Hid (decide (xs = ys) = true) := by
          show _ = _
          rw [decide_eq_true_iff]
          have h := hT.out
          rw [List.take_length] at h
          rw [HL.out, List.take_length] at h
          exact h
        clear hT
        gi_wp2
        go_ret
        exact ⟨by rw [HD.out]; rfl, c⟩
  · have he : ((xs.length : Int) != (ys.length : Int)) = true := by simp; omega
    have HD : Hid (decide (xs = ys) = false) := by
      show _ = _
      rw [decide_eq_false_iff_not]; rintro rfl; exact hlen rfl
    clear hlen
    refine callsIn_of_wp Tryz.func105 rfl trivial ?_
    simp only [Tryz.ntmps105, List.size_toArray, List.length_cons, List.length_nil, Nat.reduceAdd, Nat.reduceSub, Array.replicate_succ, Array.replicate_zero, List.push_toArray, List.append_toArray, List.nil_append, List.cons_append]
    gi_wp2
    go_ret
    exact ⟨by rw [HD.out]; rfl, Chg.refl _ _⟩

end Go.Proofs.YtndblaemladppaaGreatDoor

end
section
-- T3R
namespace Go.DiffLib

/-- A place's number: where its pair leads, or -1. -/
def pv (o : Option Nat) : Int := match o with
  | some j => (j : Int)
  | none => -1
/-- Numbers put at places. -/
def plc (l : List Int) (ps : List (Nat × Nat)) : List Int := ps.foldl (fun l p => l.set p.1 (p.2 : Int)) l
theorem plc_length (ps : List (Nat × Nat)) : ∀ l, (plc l ps).length = l.length := by
  induction ps with
  | nil => intro l; rfl
  | cons p ps ih => intro l; show (plc (l.set p.1 (p.2 : Int)) ps).length = _; rw [ih, List.length_set]
theorem plc_get {n m : Nat} : ∀ (ps : List (Nat × Nat)) (i j : Nat) (l : List Int), Inc n m i j ps → ∀ x, x < l.length → (plc l ps)[x]? = match fx x ps with | some y => some (y : Int) | none => l[x]?
  | [], _, _, _, _, _, _ => rfl
  | p :: ps, i, j, l, h, x, hx => by
    obtain ⟨_, _, _, _, h5⟩ := h
    have ih := plc_get ps (p.1 + 1) (p.2 + 1) (l.set p.1 (p.2 : Int)) h5 x (by rw [List.length_set]; exact hx)
    show (plc (l.set p.1 (p.2 : Int)) ps)[x]? = _
    rw [ih]
    by_cases e : p.1 = x
    · subst e
      rw [fx_none h5 (by omega), fx, if_pos rfl]
      simp [hx]
    · rw [fx, if_neg e]
      cases fx x ps with
      | some y => rfl
      | none => simp [e]
/-- All of base's. -/
def plcs (ps : List (Nat × Nat)) (n : Nat) : List Int := plc (List.replicate n (-1)) ps
theorem plcs_length (ps : List (Nat × Nat)) (n : Nat) : (plcs ps n).length = n := by unfold plcs; rw [plc_length]; simp
theorem plcs_get {n m : Nat} {ps : List (Nat × Nat)} (h : Inc n m 0 0 ps) (x : Nat) (hx : x < n) : (plcs ps n)[x]? = some (pv (fx x ps)) := by
  unfold plcs
  rw [plc_get ps 0 0 _ h x (by simpa using hx)]
  cases fx x ps with
  | some y => rfl
  | none => simp [hx, pv]
theorem pv_neg (o : Option Nat) : pv o < 0 ↔ o = none := by
  cases o with
  | none => simp [pv]
  | some j => simp only [pv]; constructor
              · intro h; omega
              · intro h; cases h
theorem fx_lt {n m : Nat} {ps : List (Nat × Nat)} {i j x y : Nat} (h : Inc n m i j ps) (hf : fx x ps = some y) : y < m := (Inc.mem h _ (fx_mem hf)).2.2.2

section
variable {g : Nat → Option (Nat × Nat)}
theorem sg_skip {N k : Nat} (hk : k < N) (hg : g k = none) : sg g (N - k) k = sg g (N - (k + 1)) (k + 1) := by
  rw [show N - k = (N - (k + 1)) + 1 by omega, sg, hg]
theorem sg_hit {N k u v : Nat} (hk : k < N) (hg : g k = some (u, v)) : sg g (N - k) k = (k, u, v) :: sg g (N - (k + 1)) (k + 1) := by
  rw [show N - k = (N - (k + 1)) + 1 by omega, sg, hg]
theorem sg_from : ∀ (c i : Nat), ∀ s ∈ sg g c i, i ≤ s.1
  | 0, _, s, hs => by simp [sg] at hs
  | c + 1, i, s, hs => by
    rw [sg] at hs
    cases hg : g i with
    | none => rw [hg] at hs; have := sg_from c (i + 1) s hs; omega
    | some q =>
      rw [hg] at hs
      rcases List.mem_cons.1 hs with rfl | hs
      · exact Nat.le_refl _
      · have := sg_from c (i + 1) s hs; omega
theorem rn3_far (S : List Pl) (q : Pl) (h : ∀ s ∈ S, q.1 < s.1) : rn3 S q = 0 := by
  cases S with
  | nil => rfl
  | cons s r =>
    have := h s List.mem_cons_self
    rw [rn3, if_neg]
    rintro rfl
    omega
theorem rn3_sg_zero {c : Nat} {q : Pl} (h : g q.1 ≠ some (q.2.1, q.2.2)) : rn3 (sg g c q.1) q = 0 := by
  cases c with
  | zero => rfl
  | succ c =>
    rw [sg]
    cases hg : g q.1 with
    | none => exact rn3_far _ _ (fun s hs => by have := sg_from c (q.1 + 1) s hs; omega)
    | some r =>
      show rn3 ((q.1, r.1, r.2) :: sg g c (q.1 + 1)) q = 0
      rw [rn3, if_neg]
      intro e
      apply h
      rw [hg, ← e]
end
theorem both_some {ps qs : List (Nat × Nat)} {i u v : Nat} : both ps qs i = some (u, v) ↔ fx i ps = some u ∧ fx i qs = some v := by
  unfold both
  cases fx i ps <;> cases fx i qs <;> simp
theorem both_none {ps qs : List (Nat × Nat)} {i : Nat} : both ps qs i = none ↔ fx i ps = none ∨ fx i qs = none := by
  unfold both
  cases fx i ps <;> cases fx i qs <;> simp
end Go.DiffLib

end
section
-- RPlaces
namespace Go.Proofs.YtndblaemladppaaGreatDoor
open Go.RowKit Go.Shelf Go.SeqLib Go.DiffLib Go.BigFrame
attribute [local go_sem] Oper.semAt_some

/-- A cell of a row that is owned is written. -/
theorem row_set {W : World} {base : Nat} {e : TypeId} {g n cap : Nat} {xs : List Value} (h : W.ownsRow base e 1 (.slice (some ⟨g, 0, none⟩) n cap) n xs) {j : Nat} (hj : j < n) (u : Value) :
    (∃ x, W.cell? ⟨g, j, none⟩ = some x) ∧ W.frozen? ⟨g, j, none⟩ = false ∧ (W.setCell ⟨g, j, none⟩ u).ownsRow base e 1 (.slice (some ⟨g, 0, none⟩) n cap) n (xs.set j u) := by
  obtain ⟨h1, h2⟩ := h
  rcases h2 with ⟨h2, _⟩ | ⟨g', cap', cur, hv, hb, hg, hn, hm, hs, ht⟩
  · cases h2
  · cases hv
    have hjs : j < cur.size := by omega
    refine ⟨⟨cur[j], by simp [World.cell?, hg, hjs]⟩, by simp [World.frozen?, hg], ⟨by simpa using h1, .inr ⟨g, cap, cur.setIfInBounds j u, rfl, hb, set_cells hg j u, hn, hm, by simpa using hs, ?_⟩⟩⟩
    rw [← ht, Nat.mul_one]
    refine List.ext_getElem? fun i => ?_
    simp only [List.getElem?_take, Array.getElem?_toList, Array.getElem?_setIfInBounds, List.getElem?_set, List.length_take, Array.length_toList]
    by_cases e1 : j = i
    · subst e1
      have : j < min n cur.size := by omega
      simp [hj, hjs, this]
    · simp [e1]

theorem set_minus (k n : Nat) (hk : k < n) : (List.replicate k (-1 : Int) ++ List.replicate (n - k) 0).set k (-1) = List.replicate (k + 1) (-1) ++ List.replicate (n - (k + 1)) 0 := by
  refine List.ext_getElem? fun i => ?_
  rw [List.getElem?_set]
  simp only [List.length_append, List.length_replicate, List.getElem?_append, List.getElem?_replicate]
  by_cases e : k = i
  · subst e
    simp [show k < k + (n - k) by omega]
  · simp only [e, if_false]
    by_cases h1 : i < k
    · simp [h1, show i < k + 1 by omega]
    · simp only [h1, if_false, show ¬ i < k + 1 by omega]
      by_cases h2 : i - k < n - k
      · simp [h2, show i - (k + 1) < n - (k + 1) by omega]
      · simp [h2, show ¬ i - (k + 1) < n - (k + 1) by omega]
theorem plc_take (l : List Int) (ps : List (Nat × Nat)) (t : Nat) (p : Nat × Nat) (h : ps[t]? = some p) : plc l (ps.take (t + 1)) = (plc l (ps.take t)).set p.1 (p.2 : Int) := by
  obtain ⟨h1, h2⟩ := List.getElem?_eq_some_iff.1 h
  rw [List.take_succ_eq_append_getElem h1, h2]
  unfold plc
  rw [List.foldl_append]
  rfl

theorem makeN (n : Nat) (hn : n ≤ 1000000) (w : World) : (Instr.makeSlice 141 (.int .i64 (n : Int)) (.int .i64 (n : Int))).run Tryz.prog w = .ok (.slice (some ⟨w.heap.size, 0, none⟩) n n) (w.alloc (.cells (madeCells #[.int .i64 0] n) 3)) :=
  run_make_row' 141 3 (.int .i64 0) 8 Tryz.underlying141 info3 rfl .i64 .i64 n (by omega) (by omega) w
theorem madeRow (w : World) (n : Nat) (hn : n ≤ 1000000) : (w.alloc (.cells (madeCells #[.int .i64 0] n) 3)).ownsRow w.heap.size 3 1 (.slice (some ⟨w.heap.size, 0, none⟩) n n) n ((List.replicate n (0 : Int)).map (Value.int .i64)) := by
  refine ⟨by simp, .inr ⟨w.heap.size, n, madeCells #[.int .i64 0] n, rfl, Nat.le_refl _, World.alloc_heap_new w _, Nat.le_refl _, by unfold maxLen; omega, by rw [size_madeCells]; omega, ?_⟩⟩
  refine List.ext_getElem? fun i => ?_
  rw [List.getElem?_take, Nat.mul_one]
  by_cases h : i < n
  · simp [h, madeCells, Nat.mod_one]
  · simp [h]

set_option maxRecDepth 100000 in
set_option maxHeartbeats 4000000 in
theorem places_in (v u : Value) (o a : List ByteArray) (w : World) (hv : SlV w v (o.map Value.string)) (hu : SlV w u (a.map Value.string)) (ho : o.length ≤ 400) (ha : a.length ≤ 400) :
    CallsIn Fence.wide 0 Tryz.prog 116 #[v, u] w fun e w' => ∃ v', e = .returned v' ∧ w'.ownsRow w.heap.size 3 1 v' o.length ((plcs (pr o a 0 0) o.length).map (Value.int .i64)) ∧ Chg No w w' := by
  have hmix : Tryz.prog.follows .mixedOrders = true := by kernel_rfl
  obtain ⟨i0, hi, hz0, hz1, hz2⟩ := info_parts info3
  have hP : ∀ W, Chg No w W → _ := fun W c => refPairs_in v u o a W (hv.no c) (hu.no c) ho ha
  have hinc := pr_inc0 o a
  have hprl : (pr o a 0 0).length ≤ 400 := by rw [pr_length]; exact Nat.le_trans (tl_le o a).1 ho
  obtain ⟨p, cp, rfl, _⟩ := id hv
  obtain ⟨q, cq, rfl, _⟩ := id hu
  rw [List.length_map] at hP
  rw [List.length_map]
  clear hv hu
  generalize (a.map Value.string).length = la at *
  obtain ⟨n, HN⟩ : ∃ n, Hid (o.length = n) := ⟨_, rfl⟩
  rw [HN.out] at ho hP hinc ⊢
  generalize pr o a 0 0 = ps at *
  have HIn : Hid (∀ p ∈ ps, p.1 < n) := fun p hp => (Inc.mem hinc p hp).2.2.1
  clear hinc
  refine callsIn_of_wp Tryz.func116 rfl trivial ?_
  simp only [Tryz.ntmps116, List.size_toArray, List.length_cons, List.length_nil, Nat.reduceAdd, Nat.reduceSub, Array.replicate_succ, Array.replicate_zero, List.push_toArray, List.append_toArray, List.nil_append, List.cons_append]
  have hmk := fun W => makeN n (by omega) W
  have hr1 := madeRow w n (by omega)
  have c1 : Chg No w (w.alloc (.cells (madeCells #[.int .i64 0] n) 3)) := (Chg.refl _ w).alloc _
  gi_wp2
  generalize w.alloc (.cells (madeCells #[.int .i64 0] n) 3) = W1 at *
  obtain ⟨G, hG⟩ : ∃ G, w.heap.size = G := ⟨_, rfl⟩
  rw [hG] at hr1 ⊢
  gi_loopw [6] (fun i wr => ∃ k : Nat, k ≤ n ∧ i = .int .i64 (k : Int) ∧ wr.ownsRow G 3 1 (.slice (some ⟨G, 0, none⟩) n n) n ((List.replicate k (-1) ++ List.replicate (n - k) 0).map (Value.int .i64)) ∧ Chg No w wr) (fun i _ => n - (intOf i).toNat)
  case atStart => exact ⟨0, Nat.zero_le _, rfl, by simpa using hr1, c1⟩
  case round =>
    obtain ⟨k, hk, rfl, hr, cw⟩ := hrel
    by_cases hlt : k < n
    · have hlt' : (k : Int) < (n : Int) := by omega
      obtain ⟨⟨x, hx⟩, hf, hr2⟩ := row_set hr hlt (.int .i64 (-1))
      have cw2 := cw.setCell (p := ⟨G, k, none⟩) (.inr (by rw [hG]; exact Nat.le_refl _)) (.int .i64 (-1))
      gi_wp2
      go_roundw
      case rel => exact ⟨k + 1, hlt, by go_num, by rw [← set_minus k n hlt, List.map_set]; exact hr2, cw2⟩
      case measure => simp [intOf]; omega
    · obtain rfl : k = n := by omega
      have hlt' : ¬ (k : Int) < (k : Int) := by omega
      rw [Nat.sub_self, List.replicate_zero, List.append_nil] at hr
      clear hlt
      gi_wp2_with fail
      refine ⟨trivial, rfl, (hP wr cw).mono ?_⟩
      rintro e w2 ⟨v2, rfl, r2, c2⟩
      have sp : SlP w2 v2 ps := SlE.ofRow eP_len r2
      obtain ⟨pp, cpp, rfl⟩ := row_slice r2
      have hr2 := own_still hr c2 (fun _ _ h => h)
      have cw2 := Chg.seq cw c2
      have hbp : ∀ k, Value.ownBlock (.slice pp ps.length cpp) = some k → wr.heap.size ≤ k := fun k hk => (r2.lt k hk).1
      have hGlt : G < wr.heap.size := (hr.lt G rfl).2
      clear hP r2
      obtain ⟨np, HNP⟩ : ∃ n, Hid (ps.length = n) := ⟨_, rfl⟩
      rw [HNP.out] at sp hprl hbp ⊢
      gi_wp2
      gi_loopw [8] (fun i wr2 => ∃ t : Nat, t ≤ np ∧ i = .int .i64 (t : Int) ∧ wr2.ownsRow G 3 1 (.slice (some ⟨G, 0, none⟩) k k) k ((plc (List.replicate k (-1)) (ps.take t)).map (Value.int .i64)) ∧ SlP wr2 (.slice pp np cpp) ps ∧ Chg No w wr2) (fun i _ => np - (intOf i).toNat)
      case atStart => exact ⟨0, Nat.zero_le _, rfl, hr2, sp, cw2⟩
      case round =>
        obtain ⟨t, htn, rfl, hr3, sp3, cw3⟩ := hrel
        by_cases hlt : t < np
        · have hlt' : (t : Int) < (np : Int) := by omega
          obtain ⟨x, hx⟩ : ∃ x, ps[t]? = some x := ⟨_, List.getElem?_eq_getElem (by rw [HNP.out]; exact hlt)⟩
          have hx1 := HIn.out x (List.mem_of_getElem? hx)
          have HTk := plc_take (List.replicate k (-1)) ps t x hx
          obtain ⟨b1, o1, rfl, y1, y2⟩ := SlP.at sp3 t x hx
          obtain ⟨xa, xb⟩ := x
          simp only at hx1 y1 y2 HTk
          have HT : Hid (plc (List.replicate k (-1)) (ps.take (t + 1)) = (plc (List.replicate k (-1)) (ps.take t)).set xa (xb : Int)) := HTk
          clear HTk hx
          have hx1' : (xa : Int) < (k : Int) := by omega
          obtain ⟨⟨z, hz⟩, hf, hr4⟩ := row_set hr3 hx1 (.int .i64 (xb : Int))
          have hb1 : b1 ≠ G := by have := hbp b1 rfl; omega
          gi_wp2
          refine region_store_lit hmix rfl (by kernel_rfl) (by kernel_rfl) rfl ?_
          simp only [lastHush, hush, List.replicate, List.length_cons, List.length_nil, List.nil_append, List.cons_append, Nat.reduceAdd, Nat.reduceSub]
          repeat (gi_big_quiet_step (fail))
          refine wpQuietIn_nil ?_
          rintro w' ⟨j, rfl⟩
          have hz' : (wr.drewN j).cell? ⟨G, xa, none⟩ = some z := hz
          have hf' : (wr.drewN j).frozen? ⟨G, xa, none⟩ = false := hf
          refine ⟨(wr.drewN j).setCell ⟨G, xa, none⟩ (.int .i64 (xb : Int)), ?_, ?_⟩
          · simp [execOp, go_sem, hz', hf']
          have hr5 : ((wr.drewN j).setCell ⟨G, xa, none⟩ (.int .i64 (xb : Int))).ownsRow G 3 1 (.slice (some ⟨G, 0, none⟩) k k) k ((plc (List.replicate k (-1)) (ps.take (t + 1))).map (Value.int .i64)) := by
            rw [HT.out, List.map_set]
            exact hr4
          have cx : Chg (fun k => k = G) wr ((wr.drewN j).setCell ⟨G, xa, none⟩ (.int .i64 (xb : Int))) := (drewNC (Chg.refl (fun k => k = G) wr) j).setCell (p := ⟨G, xa, none⟩) (.inl rfl) _
          have sp5 : SlP ((wr.drewN j).setCell ⟨G, xa, none⟩ (.int .i64 (xb : Int))) (.slice (some ⟨b1, o1, none⟩) np cpp) ps := SlE.chg eP_len (by decide) sp3 cx (fun k hk e => by have := hbp k hk.2; omega)
          have cw5 : Chg No w ((wr.drewN j).setCell ⟨G, xa, none⟩ (.int .i64 (xb : Int))) := cw3.trans cx (fun k e => .inr (by omega))
          gi_wp2
          go_roundw
          case rel => exact ⟨t + 1, hlt, by go_num, hr5, sp5, cw5⟩
          case measure => simp [intOf]; omega
        · obtain rfl : t = np := by omega
          have hlt' : ¬ (t : Int) < (t : Int) := by omega
          rw [List.take_of_length_le (by rw [HNP.out]; exact Nat.le_refl _)] at hr3
          gi_wp2
          go_ret
          exact ⟨_, rfl, hr3, cw3⟩

theorem info130 : (Tryz.prog.info? 130).map (fun i => (i.zero, i.size, i.bytes)) = some (some (.agg #[.bool false, .slice none 0 0, .slice none 0 0, .slice none 0 0]), 4, 80) := by kernel_rfl

set_option maxRecDepth 100000 in
set_option maxHeartbeats 4000000 in
theorem loose_in (p q r : Option Addr) (n1 n2 n3 c1 c2 c3 : Nat) (X Y Z : List ByteArray) (w : World) (hv : SlV w (.slice p n1 c1) (X.map Value.string)) (hu : SlV w (.slice q n2 c2) (Y.map Value.string)) (ht : SlV w (.slice r n3 c3) (Z.map Value.string)) :
    CallsIn Fence.wide 0 Tryz.prog 117 #[.slice p n1 c1, .slice q n2 c2, .slice r n3 c3] w fun e w' => e = .returned (.agg #[.bool (mk3 X Y Z).c, .slice p n1 c1, .slice q n2 c2, .slice r n3 c3]) ∧ Chg No w w' := by
  have HC : Hid ((mk3 X Y Z).c = (!decide (X = Y) && (!decide (X = Z) && !decide (Y = Z)))) := by
    show decide _ = _
    by_cases h1 : Y = Z
    · simp [h1]
    · by_cases h2 : Y = X
      · simp [h2]
      · by_cases h3 : Z = X
        · simp [h3]
        · have h2' : ¬ X = Y := fun e => h2 e.symm
          have h3' : ¬ X = Z := fun e => h3 e.symm
          simp [h1, h2, h3, h2', h3']
  rw [HC.out]
  have A1 := fun W1 (k1 : Chg No w W1) => refSame_in _ _ X Y W1 (hv.no k1) (hu.no k1)
  have A2 := fun W1 (k1 : Chg No w W1) => refSame_in _ _ X Z W1 (hv.no k1) (ht.no k1)
  have A3 := fun W1 (k1 : Chg No w W1) => refSame_in _ _ Y Z W1 (hu.no k1) (ht.no k1)
  clear hv hu ht HC
  generalize decide (X = Y) = z1 at *
  generalize decide (X = Z) = z2 at *
  generalize decide (Y = Z) = z3 at *
  refine callsIn_of_wp Tryz.func117 rfl trivial ?_
  simp only [Tryz.ntmps117, List.size_toArray, List.length_cons, List.length_nil, Nat.reduceAdd, Nat.reduceSub, Array.replicate_succ, Array.replicate_zero, List.push_toArray, List.append_toArray, List.nil_append, List.cons_append]
  have bx : (w.alloc (.cells #[.bool false, .slice none 0 0, .slice none 0 0, .slice none 0 0] 130)).heap[w.heap.size]? = some (.cells #[.bool false, .slice none 0 0, .slice none 0 0, .slice none 0 0] 130) := World.alloc_heap_new w _
  have c0 : Chg No w (w.alloc (.cells #[.bool false, .slice none 0 0, .slice none 0 0, .slice none 0 0] 130)) := (Chg.refl _ w).alloc _
  gi_wp2_with fail
  generalize w.alloc (.cells #[.bool false, .slice none 0 0, .slice none 0 0, .slice none 0 0] 130) = W0 at *
  obtain ⟨G, hG⟩ : ∃ G, w.heap.size = G := ⟨_, rfl⟩
  rw [hG] at bx ⊢
  have tail : ∀ (cb : Bool) (W1 : World), Chg No W0 W1 → Hid (
      ((W1.cell? ⟨G, 0, none⟩ = some (.bool false) ∧ W1.cell? ⟨G, 1, none⟩ = some (.slice none 0 0)) ∧ (W1.cell? ⟨G, 2, none⟩ = some (.slice none 0 0) ∧ W1.cell? ⟨G, 3, none⟩ = some (.slice none 0 0))) ∧
      (∀ j, W1.frozen? ⟨G, j, none⟩ = false) ∧
      (let W9 := ((((W1.setCell ⟨G, 0, none⟩ (.bool cb)).setCell ⟨G, 1, none⟩ (.slice p n1 c1)).setCell ⟨G, 2, none⟩ (.slice q n2 c2)).setCell ⟨G, 3, none⟩ (.slice r n3 c3))
       (W9.cell? ⟨G, 0, none⟩ = some (.bool cb) ∧ W9.cell? ⟨G, 1, none⟩ = some (.slice p n1 c1)) ∧ (W9.cell? ⟨G, 2, none⟩ = some (.slice q n2 c2) ∧ W9.cell? ⟨G, 3, none⟩ = some (.slice r n3 c3)) ∧ Chg No w W9)) := by
    intro cb W1 k1
    have b1 : W1.heap[G]? = some (.cells #[.bool false, .slice none 0 0, .slice none 0 0, .slice none 0 0] 130) := k1.same bx (fun h => h)
    have b2 := set_cells (set_cells (set_cells (set_cells b1 0 (.bool cb)) 1 (.slice p n1 c1)) 2 (.slice q n2 c2)) 3 (.slice r n3 c3)
    refine ⟨by simp [World.cell?, b1], fun j => by simp [World.frozen?, b1], ?_⟩
    refine ⟨⟨?_, ?_⟩, ⟨?_, ?_⟩, ?_⟩
    · simp [World.cell?, b2]
    · simp [World.cell?, b2]
    · simp [World.cell?, b2]
    · simp [World.cell?, b2]
    · have hg : w.heap.size ≤ G := by omega
      exact ((((Chg.seq c0 k1).setCell (p := ⟨G, 0, none⟩) (.inr hg) _).setCell (p := ⟨G, 1, none⟩) (.inr hg) _).setCell (p := ⟨G, 2, none⟩) (.inr hg) _).setCell (p := ⟨G, 3, none⟩) (.inr hg) _
  refine ⟨trivial, rfl, (A1 W0 c0).mono ?_⟩
  rintro e W1 ⟨rfl, k1⟩
  cases z1 with
  | true =>
    obtain ⟨⟨⟨i0, i1⟩, ⟨i2, i3⟩⟩, fz, ⟨m0, m1⟩, ⟨m2, m3⟩, cc⟩ := (tail false W1 k1).out
    have f0 := fz 0
    have f1 := fz 1
    have f2 := fz 2
    have f3 := fz 3
    clear tail A1 A2 A3
    gi_wp2_with fail
    refine ⟨trivial, ?_⟩
    rename_i hKK
    apply hKK
    gi_wp2_with fail
    refine ⟨trivial, ?_⟩
    rename_i hKK
    apply hKK
    gi_wp2
    refine bodyPost_ret (v := .agg #[.bool false, .slice p n1 c1, .slice q n2 c2, .slice r n3 c3]) ?_ rfl ⟨rfl, cc⟩
    rw [results_cell1 rfl]
    go_simp
  | false =>
    gi_wp2_with fail
    refine ⟨trivial, rfl, (A2 W1 (Chg.seq c0 k1)).mono ?_⟩
    rintro e W2 ⟨rfl, k2⟩
    have k02 := Chg.seq k1 k2
    cases z2 with
    | true =>
      obtain ⟨⟨⟨i0, i1⟩, ⟨i2, i3⟩⟩, fz, ⟨m0, m1⟩, ⟨m2, m3⟩, cc⟩ := (tail false W2 k02).out
      have f0 := fz 0
      have f1 := fz 1
      have f2 := fz 2
      have f3 := fz 3
      clear tail A1 A2 A3
      gi_wp2_with fail
      refine ⟨trivial, ?_⟩
      rename_i hKK
      apply hKK
      gi_wp2
      refine bodyPost_ret (v := .agg #[.bool false, .slice p n1 c1, .slice q n2 c2, .slice r n3 c3]) ?_ rfl ⟨rfl, cc⟩
      rw [results_cell1 rfl]
      go_simp
    | false =>
      gi_wp2_with fail
      refine ⟨trivial, rfl, (A3 W2 (Chg.seq c0 k02)).mono ?_⟩
      rintro e W3 ⟨rfl, k3⟩
      obtain ⟨⟨⟨i0, i1⟩, ⟨i2, i3⟩⟩, fz, ⟨m0, m1⟩, ⟨m2, m3⟩, cc⟩ := (tail (!z3) W3 (Chg.seq k02 k3)).out
      have f0 := fz 0
      have f1 := fz 1
      have f2 := fz 2
      have f3 := fz 3
      clear tail A1 A2 A3
      gi_wp2
      refine bodyPost_ret (v := .agg #[.bool (!z3), .slice p n1 c1, .slice q n2 c2, .slice r n3 c3]) ?_ rfl ⟨by simp, cc⟩
      rw [results_cell1 rfl]
      go_simp

end Go.Proofs.YtndblaemladppaaGreatDoor

end
section
-- RParts
namespace Go.DiffLib
theorem sg_head {g : Nat → Option (Nat × Nat)} {N k : Nat} {s : Pl} {r : List Pl} (h : sg g (N - k) k = s :: r) (hs : s.1 = k) : k < N ∧ g k = some (s.2.1, s.2.2) ∧ r = sg g (N - (k + 1)) (k + 1) := by
  have hk : k < N := by
    rcases Nat.lt_or_ge k N with h1 | h1
    · exact h1
    · rw [show N - k = 0 by omega] at h; cases h
  cases hg : g k with
  | none =>
    rw [sg_skip hk hg] at h
    have := sg_from (g := g) (N - (k + 1)) (k + 1) s (by rw [h]; exact List.mem_cons_self)
    omega
  | some q =>
    rw [sg_hit hk (u := q.1) (v := q.2) hg] at h
    obtain ⟨h1, h2⟩ := List.cons.inj h
    rw [← h1]
    exact ⟨hk, rfl, h2.symm⟩
theorem sg_no {g : Nat → Option (Nat × Nat)} {N k : Nat} {e : Pl} (hk : k < N) (hs : k ≠ ((sg g (N - k) k).headD e).1) : g k = none := by
  cases hg : g k with
  | none => rfl
  | some q =>
    rw [sg_hit hk (u := q.1) (v := q.2) hg] at hs
    exact absurd rfl hs
theorem sg_le {g : Nat → Option (Nat × Nat)} {N k : Nat} {e : Pl} (he : e.1 = N) (hk : k ≤ N) : k ≤ ((sg g (N - k) k).headD e).1 := by
  cases hS : sg g (N - k) k with
  | nil => simp [he, hk]
  | cons s r => exact sg_from (g := g) (N - k) k s (by rw [hS]; exact List.mem_cons_self)
theorem head_eq {S : List Pl} {e : Pl} : (S = [] ∧ S.headD e = e) ∨ ∃ r, S = S.headD e :: r := by
  cases S with
  | nil => exact .inl ⟨rfl, rfl⟩
  | cons s r => exact .inr ⟨r, rfl⟩
theorem Inc3.head {e s : Pl} {S : List Pl} (h : Inc3 e s S) : s.1 ≤ (S.headD e).1 ∧ s.2.1 ≤ (S.headD e).2.1 ∧ s.2.2 ≤ (S.headD e).2.2 ∧ (S.headD e).1 ≤ e.1 ∧ (S.headD e).2.1 ≤ e.2.1 ∧ (S.headD e).2.2 ≤ e.2.2 := by
  cases S with
  | nil => obtain ⟨h1, h2, h3⟩ := h; exact ⟨h1, h2, h3, Nat.le_refl _, Nat.le_refl _, Nat.le_refl _⟩
  | cons p r => obtain ⟨h1, h2, h3, h4, h5, h6, _⟩ := h; exact ⟨h1, h2, h3, Nat.le_of_lt h4, Nat.le_of_lt h5, Nat.le_of_lt h6⟩
end Go.DiffLib

namespace Go.Proofs.YtndblaemladppaaGreatDoor
open Go.RowKit Go.Shelf Go.SeqLib Go.DiffLib Go.BigFrame
attribute [local go_sem] Oper.semAt_some

/-- Three lists that read, in blocks below B. -/
def Read3 (W : World) (B : Nat) (x y z : Value) (p : Prt ByteArray) : Prop :=
  (SlV W x (p.o.map Value.string) ∧ SlV W y (p.a.map Value.string) ∧ SlV W z (p.b.map Value.string)) ∧ ∀ k, (svD x (p.o.map Value.string) k ∨ svD y (p.a.map Value.string) k ∨ svD z (p.b.map Value.string) k) → k < B
theorem Read3.chg {W W' : World} {B : Nat} {x y z : Value} {p : Prt ByteArray} (h : Read3 W B x y z p) {S : Blk} (c : Chg S W W') (hS : ∀ k, k < B → ¬ S k) : Read3 W' B x y z p :=
  ⟨⟨h.1.1.chg c (fun k hk => hS k (h.2 k (.inl hk))), h.1.2.1.chg c (fun k hk => hS k (h.2 k (.inr (.inl hk)))), h.1.2.2.chg c (fun k hk => hS k (h.2 k (.inr (.inr hk))))⟩, h.2⟩
/-- The reference's parts as they lie in memory. -/
structure RPartsAt (W : World) (base B : Nat) (v : Value) (rs : List PRow) (ps : List (Prt ByteArray)) : Prop where
  row : W.ownsRow base 130 4 v rs.length (rs.flatMap eR)
  len : rs.length = ps.length
  own : ∀ (i : Nat) (r : PRow) (p : Prt ByteArray), rs[i]? = some r → ps[i]? = some p → r.1 = p.c ∧ Read3 W B r.2.1 r.2.2.1 r.2.2.2 p
section
variable {W W' : World} {base B : Nat} {v : Value} {rs : List PRow} {ps : List (Prt ByteArray)}
theorem RPartsAt.nil (W : World) (base B : Nat) : RPartsAt W base B (.slice none 0 0) [] [] := {
  row := World.ownsRow_nil _ _ _ _
  len := rfl
  own := fun i r p h => by simp at h }
theorem RPartsAt.at (h : RPartsAt W base B v rs ps) {i : Nat} {r : PRow} (hr : rs[i]? = some r) : ∃ p, ps[i]? = some p ∧ r.1 = p.c ∧ Read3 W B r.2.1 r.2.2.1 r.2.2.2 p := by
  have hi : i < ps.length := by rw [← h.len]; exact (List.getElem?_eq_some_iff.1 hr).1
  exact ⟨ps[i], List.getElem?_eq_getElem hi, h.own i r _ hr (List.getElem?_eq_getElem hi)⟩
theorem RPartsAt.chg (h : RPartsAt W base B v rs ps) {S : Blk} (c : Chg S W W') (hS : ∀ k, k < B ∨ v.ownBlock = some k → ¬ S k) : RPartsAt W' base B v rs ps := {
  row := own_still h.row c (fun k hk => hS k (.inr hk))
  len := h.len
  own := fun i r p hr hp => by
    obtain ⟨h1, o3⟩ := h.own i r p hr hp
    exact ⟨h1, o3.chg c (fun k hk => hS k (.inl hk))⟩ }
theorem RPartsAt.no (h : RPartsAt W base B v rs ps) (c : Chg No W W') : RPartsAt W' base B v rs ps := h.chg c (fun _ _ h => h)
theorem RPartsAt.less (h : RPartsAt W base B v rs ps) {base' : Nat} (hb : base' ≤ base) : RPartsAt W base' B v rs ps := ⟨rowBase h.row hb, h.len, h.own⟩
/-- One more. -/
theorem RPartsAt.push {W2 : World} {v2 x y z : Value} {p : Prt ByteArray} {c : Bool} (h : RPartsAt W base B v rs ps) (o3 : Read3 W B x y z p)
    (hown : W2.ownsRow base 130 4 v2 (rs.length + 1) (rs.flatMap eR ++ [.bool c, x, y, z])) {S : Blk} (k2 : Chg S W W2) (hS : ∀ k, k < B → ¬ S k) (hc : c = p.c) :
    RPartsAt W2 base B v2 (rs ++ [(c, x, y, z)]) (ps ++ [p]) := by
  refine ⟨by rw [List.length_append, List.length_singleton, List.flatMap_append]; exact hown, by simp [h.len], fun i r q hr hq => ?_⟩
  by_cases hi : i < rs.length
  · rw [List.getElem?_append_left hi] at hr
    rw [List.getElem?_append_left (by rw [← h.len]; exact hi)] at hq
    obtain ⟨h1, o4⟩ := h.own i r q hr hq
    exact ⟨h1, o4.chg k2 hS⟩
  · rw [List.getElem?_append_right (by omega)] at hr
    rw [List.getElem?_append_right (by rw [← h.len]; omega), ← h.len] at hq
    have : i - rs.length = 0 := by
      have := (List.getElem?_eq_some_iff.1 hr).1
      simpa using this
    rw [this] at hr hq
    simp at hr hq
    subst hr hq
    exact ⟨hc, o3.chg k2 hS⟩
end

set_option maxRecDepth 100000 in
set_option maxHeartbeats 16000000 in
theorem refParts_at (vo va vb : Value) (o a b : List ByteArray) (w : World) (B : Nat) (hB : B ≤ w.heap.size) (hv : SlV w vo (o.map Value.string)) (hu : SlV w va (a.map Value.string)) (ht : SlV w vb (b.map Value.string)) (ho : o.length ≤ 400) (ha : a.length ≤ 400) (hb : b.length ≤ 400) (dO : ∀ k, svD vo (o.map Value.string) k → k < B) (dA : ∀ k, svD va (a.map Value.string) k → k < B) (dB : ∀ k, svD vb (b.map Value.string) k → k < B) :
    CallsIn Fence.wide 0 Tryz.prog 104 #[vo, va, vb] w fun e w' => ∃ v', e = .returned v' ∧ (∃ rs, RPartsAt w' w.heap.size B v' rs (parts o a b)) ∧ Chg No w w' := by
  have hmix : Tryz.prog.follows .mixedOrders = true := by kernel_rfl
  obtain ⟨i0, hi, hz0, hz1, hz2⟩ := info_parts info130
  obtain ⟨p, cp, rfl, _⟩ := id hv
  obtain ⟨q, cq, rfl, _⟩ := id hu
  obtain ⟨r, cr, rfl, _⟩ := id ht
  have P1 := places_in _ _ o a w hv hu ho ha
  have P2 : ∀ W, Chg No w W → _ := fun W c => places_in _ _ o b W (hv.no c) (ht.no c) ho hb
  rw [List.length_map] at hv hu ht P1 P2 dO dA dB
  rw [List.length_map] at P1 P2
  rw [List.length_map, List.length_map, List.length_map]
  have hinc := std_inc o a b
  have hsl := std_length o a b
  have hpl := parts_length o a b
  have hlk := std_like o a b
  have hI1 := pr_inc0 o a
  have hI2 := pr_inc0 o b
  unfold parts at hpl ⊢
  rw [std_sg] at hinc hsl hpl hlk ⊢
  obtain ⟨lo, HLo⟩ : ∃ n, Hid (o.length = n) := ⟨_, rfl⟩
  obtain ⟨la, HLa⟩ : ∃ n, Hid (a.length = n) := ⟨_, rfl⟩
  obtain ⟨lb, HLb⟩ : ∃ n, Hid (b.length = n) := ⟨_, rfl⟩
  rw [HLo.out] at hv hinc hsl hpl ho P1 P2 hI1 hI2 dO hlk ⊢
  rw [HLa.out] at hu hinc ha P1 hI1 dA ⊢
  rw [HLb.out] at ht hinc hb P2 hI2 dB ⊢
  have HX : Hid (∀ x, x < lo → (plcs (pr o a 0 0) lo)[x]? = some (pv (fx x (pr o a 0 0)))) := fun x hx => plcs_get hI1 x hx
  have HY : Hid (∀ x, x < lo → (plcs (pr o b 0 0) lo)[x]? = some (pv (fx x (pr o b 0 0)))) := fun x hx => plcs_get hI2 x hx
  generalize plcs (pr o a 0 0) lo = XS at *
  generalize plcs (pr o b 0 0) lo = YS at *
  generalize pr o a 0 0 = ps0 at *
  generalize pr o b 0 0 = qs0 at *
  have HG : Hid (∀ x, both ps0 qs0 x = none ↔ fx x ps0 = none ∨ fx x qs0 = none) := fun x => both_none
  have HG2 : Hid (∀ x u v, both ps0 qs0 x = some (u, v) ↔ fx x ps0 = some u ∧ fx x qs0 = some v) := fun x u v => both_some
  generalize both ps0 qs0 = g at *
  clear hI1 hI2
  obtain ⟨tot, HTot⟩ : ∃ t, Hid (pt o a b (lo + 1) (sg g lo 0) (0, 0, 0) = t) := ⟨_, rfl⟩
  rw [HTot.out] at hpl ⊢
  have HB : Hid (tot.length ≤ 801) := by show _ ≤ _; omega
  clear hpl
  refine callsIn_of_wp Tryz.func104 rfl trivial ?_
  simp only [Tryz.ntmps104, List.size_toArray, List.length_cons, List.length_nil, Nat.reduceAdd, Nat.reduceSub, Array.replicate_succ, Array.replicate_zero, List.push_toArray, List.append_toArray, List.nil_append, List.cons_append]
  have b1 : ¬ (400 : Int) < (lo : Int) := by omega
  have b2 : ¬ (400 : Int) < (la : Int) := by omega
  have b3 : ¬ (400 : Int) < (lb : Int) := by omega
  gi_wp2_with fail
  refine ⟨trivial, rfl, P1.mono ?_⟩
  rintro e w1 ⟨v7, rfl, r7, k1⟩
  gi_wp2_with fail
  refine ⟨trivial, rfl, (P2 w1 k1).mono ?_⟩
  rintro e Wp ⟨v8, rfl, r8, k2⟩
  have s7 : SlV w1 v7 (XS.map (Value.int .i64)) := SlV.ofRow (by have h := r7.1; rw [Nat.mul_one] at h; rw [h]; exact r7)
  have s8 : SlV Wp v8 (YS.map (Value.int .i64)) := SlV.ofRow (by have h := r8.1; rw [Nat.mul_one] at h; rw [h]; exact r8)
  have s7p := s7.no k2
  obtain ⟨p7, c7, rfl⟩ := row_slice r7
  obtain ⟨p8, c8, rfl⟩ := row_slice r8
  have cP := Chg.seq k1 k2
  have hvP := hv.no cP
  have huP := hu.no cP
  have htP := ht.no cP
  have hwP : B ≤ Wp.heap.size := Nat.le_trans hB cP.size
  clear P1 P2 r7 r8 k1 k2 s7 hv hu ht
  have hcx : ∀ W, Chg No Wp W → ∀ x, x < lo → ∃ b off, p7 = some ⟨b, off, none⟩ ∧ W.cell? ⟨b, off + x, none⟩ = some (.int .i64 (pv (fx x ps0))) := fun W c x hx => by
    obtain ⟨p', cap', e, _, _, hc⟩ := s7p.no c
    cases e
    exact hc x _ (by rw [List.getElem?_map, HX.out x hx]; rfl)
  have hcy : ∀ W, Chg No Wp W → ∀ x, x < lo → ∃ b off, p8 = some ⟨b, off, none⟩ ∧ W.cell? ⟨b, off + x, none⟩ = some (.int .i64 (pv (fx x qs0))) := fun W c x hx => by
    obtain ⟨p', cap', e, _, _, hc⟩ := s8.no c
    cases e
    exact hc x _ (by rw [List.getElem?_map, HY.out x hx]; rfl)
  have HCX : Hid (∀ W, Chg No Wp W → ∀ x, x < lo → ∃ b off, p7 = some ⟨b, off, none⟩ ∧ W.cell? ⟨b, off + x, none⟩ = some (.int .i64 (pv (fx x ps0)))) := hcx
  have HCY : Hid (∀ W, Chg No Wp W → ∀ x, x < lo → ∃ b off, p8 = some ⟨b, off, none⟩ ∧ W.cell? ⟨b, off + x, none⟩ = some (.int .i64 (pv (fx x qs0)))) := hcy
  clear hcx hcy s7p s8 HX HY
  gi_wp2
  gi_loopw [9, 10, 11, 12] (fun v9 v10 v11 v12 wr => ∃ (acc : List (Prt ByteArray)) (rs : List PRow) (at_ : Pl) (f : Nat), v10 = .int .i64 (at_.1 : Int) ∧ v11 = .int .i64 (at_.2.1 : Int) ∧ v12 = .int .i64 (at_.2.2 : Int) ∧ at_.1 ≤ lo ∧ Hid (Inc3 (lo, la, lb) at_ (sg g (lo - at_.1) at_.1)) ∧ Hid ((sg g (lo - at_.1) at_.1).length < f) ∧ Hid (∀ s ∈ sg g (lo - at_.1) at_.1, ∃ x, o[s.1]? = some x ∧ a[s.2.1]? = some x ∧ b[s.2.2]? = some x) ∧
      Hid (acc ++ pt o a b f (sg g (lo - at_.1) at_.1) at_ = tot) ∧ RPartsAt wr Wp.heap.size B v9 rs acc ∧ Chg No Wp wr) (fun v9 v10 v11 v12 _ => lo - (intOf v10).toNat)
  case atStart => exact ⟨[], [], (0, 0, 0), lo + 1, rfl, rfl, rfl, Nat.zero_le _, hinc, by show _ < _; simpa using Nat.lt_succ_of_le hsl, hlk, HTot, RPartsAt.nil _ _ _, Chg.refl _ _⟩
  case round =>
    obtain ⟨acc, rs, at_, f, rfl, rfl, rfl, hat, HIn, HF, HLk, HA, PA, cw⟩ := hrel
    obtain ⟨p9, c9, rfl⟩ := row_slice PA.row
    obtain ⟨S, hS⟩ : ∃ S, sg g (lo - at_.1) at_.1 = S := ⟨_, rfl⟩
    have HS : Hid (sg g (lo - at_.1) at_.1 = S) := hS
    rw [hS] at HIn HF HLk HA
    obtain ⟨s, hs⟩ : ∃ s, S.headD (lo, la, lb) = s := ⟨_, rfl⟩
    have hh := HIn.out.head
    have HSs := head_eq (S := S) (e := (lo, la, lb))
    rw [hs] at hh HSs
    obtain ⟨h1, h2, h3, h4, h5, h6⟩ := hh
    simp only at h4 h5 h6
    have HSs' : Hid ((S = [] ∧ s = (lo, la, lb)) ∨ ∃ r, S = s :: r) := HSs
    have HSh : Hid (S.headD (lo, la, lb) = s) := hs
    clear hS hs HSs
    gi_wp2
    gi_loopw [13] (fun v13 wk => ∃ k : Nat, at_.1 ≤ k ∧ k ≤ s.1 ∧ v13 = .int .i64 (k : Int) ∧ Hid (sg g (lo - k) k = S) ∧ wk = wr) (fun v13 _ => lo - (intOf v13).toNat)
    case atStart => exact ⟨at_.1, Nat.le_refl _, h1, rfl, HS, rfl⟩
    case round =>
      obtain ⟨k, hk1, hk2, rfl, HK, rfl⟩ := hrel
      gi_upto_region 7 with (fail)
      gi_cut [54] from 500 (fun v w' => v = .bool (!decide (k = s.1)) ∧ w' = wr)
      case first =>
        rename_i JJ KK hJJ hKK
        by_cases hkl : k < lo
        · have hkl' : (k : Int) < (lo : Int) := by omega
          obtain ⟨bx, ox, rfl, x1⟩ := HCX.out wr cw k hkl
          obtain ⟨by_, oy, rfl, y1⟩ := HCY.out wr cw k hkl
          cases hfx : fx k ps0 with
          | none =>
            have HN : Hid (decide (k = s.1) = false) := by
              refine decide_eq_false (fun e => ?_)
              rcases HSs'.out with ⟨hn, rfl⟩ | ⟨r', hr⟩
              · simp only at e; omega
              · have h9 := HK.out
                rw [hr] at h9
                have := (sg_head h9 e.symm).2.1
                have := ((HG2.out k _ _).1 this).1
                rw [hfx] at this
                cases this
            rw [hfx] at x1
            simp only [pv] at x1
            gi_wp2
            gi_meet
            exact ⟨by rw [HN.out]; rfl, rfl⟩
          | some jx =>
            rw [hfx] at x1
            simp only [pv] at x1
            have hx0 : ¬ (jx : Int) < 0 := by omega
            cases hfy : fx k qs0 with
            | none =>
              have HN : Hid (decide (k = s.1) = false) := by
                refine decide_eq_false (fun e => ?_)
                rcases HSs'.out with ⟨hn, rfl⟩ | ⟨r', hr⟩
                · simp only at e; omega
                · have h9 := HK.out
                  rw [hr] at h9
                  have := (sg_head h9 e.symm).2.1
                  have := ((HG2.out k _ _).1 this).2
                  rw [hfy] at this
                  cases this
              rw [hfy] at y1
              simp only [pv] at y1
              gi_wp2
              gi_meet
              exact ⟨by rw [HN.out]; rfl, rfl⟩
            | some jy =>
              have HN : Hid (decide (k = s.1) = true) := by
                refine decide_eq_true ?_
                refine Classical.byContradiction (fun hne => ?_)
                have h9 : g k = none := sg_no (e := (lo, la, lb)) hkl (by rw [HK.out, HSh.out]; exact hne)
                have h10 := (HG2.out k jx jy).2 ⟨hfx, hfy⟩
                rw [h9] at h10
                cases h10
              rw [hfy] at y1
              simp only [pv] at y1
              have hy0 : ¬ (jy : Int) < 0 := by omega
              gi_wp2
              gi_meet
              exact ⟨by rw [HN.out]; rfl, rfl⟩
        · have hkl' : ¬ (k : Int) < (lo : Int) := by omega
          have HN : Hid (decide (k = s.1) = true) := decide_eq_true (by omega)
          gi_wp2
          gi_meet
          exact ⟨by rw [HN.out]; rfl, rfl⟩
      case rest =>
      obtain ⟨rfl, rfl⟩ := hcut
      by_cases hke : k = s.1
      · rw [decide_eq_true hke]
        subst hke
        have hp1 : at_.1 ≤ 400 := by omega
        -- the three places
        gi_upto_if 64 with (fail)
        gi_cut [14, 15] from 57 (fun v14 v15 w' => v14 = .int .i64 (s.2.1 : Int) ∧ v15 = .int .i64 (s.2.2 : Int) ∧ ∃ j, w' = wc.drewN j)
        case first =>
          rename_i JJ KK hJJ hKK
          by_cases hkl : s.1 < lo
          · have hkl' : (s.1 : Int) < (lo : Int) := by omega
            obtain ⟨r', hr⟩ : ∃ r, S = s :: r := by
              rcases HSs'.out with ⟨hn, e⟩ | h
              · rw [e] at hkl; simp at hkl
              · exact h
            have h9 := HK.out
            rw [hr] at h9
            obtain ⟨_, h10, _⟩ := sg_head h9 rfl
            obtain ⟨h11, h12⟩ := (HG2.out s.1 _ _).1 h10
            obtain ⟨bx, ox, rfl, x1⟩ := HCX.out wc cw s.1 hkl
            obtain ⟨by_, oy, rfl, y1⟩ := HCY.out wc cw s.1 hkl
            rw [h11] at x1
            rw [h12] at y1
            simp only [pv] at x1 y1
            clear h9 h10 h11 h12 hr
            gi_wp2
            refine wpIn_region_quiet_lit rfl hmix (by kernel_rfl) ?_
            repeat (gi_big_quiet_step (fail))
            refine wpQuietIn_nil ?_
            rintro w' ⟨j1, rfl⟩
            gi_wp2
            gi_meet
            exact ⟨rfl, rfl, _, rfl⟩
          · have hkl' : ¬ (s.1 : Int) < (lo : Int) := by omega
            have HE : Hid (s = (lo, la, lb)) := by
              rcases HSs'.out with ⟨hn, e⟩ | ⟨r', hr⟩
              · exact e
              · have h9 := HK.out
                rw [hr] at h9
                have := (sg_head h9 rfl).1
                omega
            gi_wp2
            gi_meet
            exact ⟨by rw [HE.out], by rw [HE.out], 0, rfl⟩
        case rest =>
        obtain ⟨rfl, rfl, j1, rfl⟩ := hcut
        have cw1 : Chg No Wp (wc.drewN j1) := drewNC cw j1
        have PA1 := PA.no (drewNC (Chg.refl No wc) j1)
        clear cw PA
        generalize wc.drewN j1 = W1 at *
        gi_upto_region 12 with (fail)
        gi_cut [85] from 500 (fun v w' => v = .bool (!decide (s = at_)) ∧ w' = W1)
        case first =>
          rename_i JJ KK hJJ hKK
          by_cases c1 : at_.1 < s.1
          · have c1' : (at_.1 : Int) < (s.1 : Int) := by omega
            have HN : Hid (decide (s = at_) = false) := decide_eq_false (fun e => by rw [e] at c1; omega)
            gi_wp2
            gi_meet
            exact ⟨by rw [HN.out]; rfl, rfl⟩
          · have c1' : ¬ (at_.1 : Int) < (s.1 : Int) := by omega
            by_cases c2 : at_.2.1 < s.2.1
            · have c2' : (at_.2.1 : Int) < (s.2.1 : Int) := by omega
              have HN : Hid (decide (s = at_) = false) := decide_eq_false (fun e => by rw [e] at c2; omega)
              gi_wp2
              gi_meet
              exact ⟨by rw [HN.out]; rfl, rfl⟩
            · have c2' : ¬ (at_.2.1 : Int) < (s.2.1 : Int) := by omega
              by_cases c3 : at_.2.2 < s.2.2
              · have c3' : (at_.2.2 : Int) < (s.2.2 : Int) := by omega
                have HN : Hid (decide (s = at_) = false) := decide_eq_false (fun e => by rw [e] at c3; omega)
                gi_wp2
                gi_meet
                exact ⟨by rw [HN.out]; rfl, rfl⟩
              · have c3' : ¬ (at_.2.2 : Int) < (s.2.2 : Int) := by omega
                have HN : Hid (decide (s = at_) = true) := decide_eq_true (by
                  obtain ⟨x1, x2, x3⟩ := s
                  obtain ⟨y1, y2, y3⟩ := at_
                  simp only at c1 c2 c3 h1 h2 h3
                  rw [show x1 = y1 by omega, show x2 = y2 by omega, show x3 = y3 by omega])
                gi_wp2
                gi_meet
                exact ⟨by rw [HN.out]; rfl, rfl⟩
        case rest =>
        obtain ⟨rfl, rfl⟩ := hcut
        generalize wc = W1 at *
        have hlacc : rs.length ≤ 801 := by
          rw [PA1.len]
          have h9 := congrArg List.length HA.out
          have := HB.out
          simp only [List.length_append] at h9
          omega
        have HAcc : Hid (s ≠ at_ → acc.length + 1 ≤ 801) := fun hne => by
          obtain ⟨f', rfl⟩ : ∃ f', f = f' + 1 := ⟨f - 1, by have := HF.out; omega⟩
          have h9 := congrArg List.length HA.out
          have := HB.out
          rcases HSs'.out with ⟨hn, e⟩ | ⟨r', hr⟩
          · rw [hn, pt_nil, HLo.out, HLa.out, HLb.out, ← e, if_neg (fun e2 => hne e2.symm)] at h9
            simp only [List.length_append, List.length_singleton] at h9
            omega
          · rw [hr, pt_cons, if_neg hne] at h9
            simp only [List.length_append, List.length_cons, List.length_nil] at h9
            omega
        have hvW := hvP.no cw1
        have huW := huP.no cw1
        have htW := htP.no cw1
        gi_upto_if 85 with (fail)
        gi_cut [9] from 73 (fun v9 w' => (∃ p9 n9 c9 rs1, v9 = .slice p9 n9 c9 ∧ n9 = rs1.length ∧ RPartsAt w' Wp.heap.size B (.slice p9 n9 c9) rs1 (acc ++ if s = at_ then [] else [prt o a b at_ s])) ∧ Chg No Wp w')
        case first =>
          rename_i JJ KK hJJ hKK
          by_cases hne : s = at_
          · rw [decide_eq_true hne]
            have PA2 := PA1
            rw [← List.append_nil acc] at PA2
            gi_wp2
            gi_meet
            exact ⟨⟨_, _, _, rs, rfl, rfl, by rw [if_pos hne]; exact PA2⟩, cw1⟩
          · rw [decide_eq_false hne]
            have hacc1 := HAcc.out hne
            rw [← PA1.len] at hacc1
            obtain ⟨q1, d1, m1, o1, hc1⟩ := SlV.mid hvW (by rw [List.length_map]; exact HLo.out) at_.1 s.1 h1 h4
            obtain ⟨q2, d2, m2, o2, hc2⟩ := SlV.mid huW (by rw [List.length_map]; exact HLa.out) at_.2.1 s.2.1 h2 h5
            obtain ⟨q3, d3, m3, o3, hc3⟩ := SlV.mid htW (by rw [List.length_map]; exact HLb.out) at_.2.2 s.2.2 h3 h6
            rw [← List.map_take, ← List.map_drop] at m1 m2 m3
            have R3 : Read3 W1 B (.slice q1 (s.1 - at_.1) d1) (.slice q2 (s.2.1 - at_.2.1) d2) (.slice q3 (s.2.2 - at_.2.2) d3) (prt o a b at_ s) := ⟨⟨m1, m2, m3⟩, fun k hk => by
              rcases hk with hk | hk | hk
              · exact dO k ⟨fun e => hk.1 (by simp only [prt, mk3, cut]; rw [List.map_eq_nil_iff] at e; rw [e]; simp), o1 k hk.2⟩
              · exact dA k ⟨fun e => hk.1 (by simp only [prt, mk3, cut]; rw [List.map_eq_nil_iff] at e; rw [e]; simp), o2 k hk.2⟩
              · exact dB k ⟨fun e => hk.1 (by simp only [prt, mk3, cut]; rw [List.map_eq_nil_iff] at e; rw [e]; simp), o3 k hk.2⟩⟩
            generalize s.1 - at_.1 = n1 at *
            generalize s.2.1 - at_.2.1 = n2 at *
            generalize s.2.2 - at_.2.2 = n3 at *
            have HCl : Hid (∀ W, Chg No W1 W → CallsIn Fence.wide 0 Tryz.prog 117 #[.slice q1 n1 d1, .slice q2 n2 d2, .slice q3 n3 d3] W fun ex W' => ∃ v0, ex = .returned v0 ∧ v0 = .agg #[.bool (prt o a b at_ s).c, .slice q1 n1 d1, .slice q2 n2 d2, .slice q3 n3 d3] ∧ Chg No W W') := fun W c => by
              refine (loose_in q1 q2 q3 n1 n2 n3 d1 d2 d3 _ _ _ W (m1.no c) (m2.no c) (m3.no c)).mono ?_
              rintro e W' ⟨rfl, c'⟩
              exact ⟨_, rfl, rfl, c'⟩
            have hany := AfterB.any (fun k => Value.ownBlock (.slice p9 rs.length c9) = some k) W1
            clear m1 m2 m3
            gi_wp2
            refine region_pushc 13 14 15 _ _ _ hmix (by kernel_rfl) (by kernel_rfl) rfl rfl rfl (by kernel_rfl) (by kernel_rfl) rfl rfl _ _ 128 rfl Wp.heap.size 130 i0 (.agg #[.bool false, .slice none 0 0, .slice none 0 0, .slice none 0 0]) 4 80 Tryz.underlying128 hi hz0 hz1 hz2 rfl (by decide) (.slice p9 rs.length c9) rs.length (rs.flatMap eR) (fun v0 W' => v0 = .agg #[.bool (prt o a b at_ s).c, .slice q1 n1 d1, .slice q2 n2 d2, .slice q3 n3 d3]) PA1.row (by unfold maxLen; omega) (by omega) cw1.size 117 #[.slice q1 n1 d1, .slice q2 n2 d2, .slice q3 n3 d3] HCl.out (fun v0 W e => by rw [e]; exact ⟨rfl, by intro u hu; simp [aggCells] at hu; rcases hu with rfl | rfl | rfl | rfl <;> rfl⟩) ?_
            intro v0 v1 v2
            simp only [hushE, Nat.reduceAdd, Nat.reduceBEq, Bool.or_self, Bool.or_true, Bool.or_false, if_true, if_false, Bool.false_eq_true]
            repeat (gi_big_quiet_step (fail))
            refine wpQuietIn_nil ⟨fun W => ?_, ?_, ⟨rfl, rfl⟩, ?_⟩
            · simp [go_sem]
            · rintro W W' rfl
              simp [execOp, go_sem, aggCells]
            · rintro W7 W8 k7 rfl hown' k8 hmv
              have k18 : Chg (fun k => Value.ownBlock (.slice p9 rs.length c9) = some k) W1 W8 := (k7.mono (fun _ h => h.elim)).trans k8 (Grew.refl _ _)
              have hbo : ∀ k, Value.ownBlock (.slice p9 rs.length c9) = some k → Wp.heap.size ≤ k := fun k hk => (PA1.row.lt k hk).1
              have PA8 := PA1.push R3 hown' k18 (fun k hk h => by have := hbo k h; omega) rfl
              obtain ⟨p99, c99, rfl⟩ := row_slice hown'
              have cw8 : Chg No Wp W8 := cw1.trans k18 (fun k h => .inr (hbo k h))
              gi_wp2
              gi_meet
              exact ⟨⟨_, _, _, rs ++ [((prt o a b at_ s).c, .slice q1 n1 d1, .slice q2 n2 d2, .slice q3 n3 d3)], rfl, by simp, by rw [if_neg hne]; exact PA8⟩, cw8⟩
        case rest =>
        obtain ⟨⟨p9', n9, c9', rs1, rfl, hn9, PA2⟩, cw2⟩ := hcut
        have HN9 : Hid (n9 = rs1.length) := hn9
        clear hn9 PA1 cw1 hvW huW htW
        generalize hac : (acc ++ if s = at_ then [] else [prt o a b at_ s]) = acc1 at *
        have HAc : Hid ((acc ++ if s = at_ then [] else [prt o a b at_ s]) = acc1) := hac
        clear hac
        rcases HSs'.out with ⟨hn, he⟩ | ⟨r', hr⟩
        · -- nothing stands any more
          have HD : Hid (acc1 = tot) := by
            obtain ⟨f', rfl⟩ : ∃ f', f = f' + 1 := ⟨f - 1, by have := HF.out; omega⟩
            have h9 := HA.out
            rw [hn, pt_nil, HLo.out, HLa.out, HLb.out, ← he] at h9
            rw [← HAc.out, ← h9]
            show _ = _
            congr 1
            by_cases e : s = at_
            · rw [if_pos e, if_pos e.symm]
            · rw [if_neg e, if_neg (fun h => e h.symm)]
          have hq : ((s.1 : Int) == (lo : Int)) = true := by rw [he]; simp
          clear hn he
          gi_wp2
          go_ret
          exact ⟨_, rfl, ⟨rs1, by rw [← HD.out]; exact PA2.less cP.size⟩, Chg.seq cP cw2⟩
        · have h9 := HK.out
          rw [hr] at h9
          obtain ⟨hkl, _, _⟩ := sg_head h9 rfl
          have hq : ((s.1 : Int) == (lo : Int)) = false := by rw [beq_eq_false_iff_ne]; omega
          obtain ⟨n, hn⟩ : ∃ n, rn3 S s = n := ⟨_, rfl⟩
          have hn1 : 1 ≤ n := by rw [← hn, hr, rn3_self]; omega
          have HI2 : Hid (Inc3 (lo, la, lb) (on s n) (S.drop n)) := by
            have h10 := HIn.out
            rw [hr] at h10
            have h11 := h10.first.run
            rw [← hr, hn] at h11
            exact h11
          have HI3 := HI2.out.le
          simp only [on] at HI3
          have HFl := fast_like o a b S HLk.out s n (by omega)
          have HFa : Hid (cut a s.2.1 (s.2.1 + n) = cut o s.1 (s.1 + n) ∧ cut b s.2.2 (s.2.2 + n) = cut o s.1 (s.1 + n)) := HFl
          have HRn : Hid (rn3 S s = n) := hn
          have HSr : Hid (S = s :: r') := hr
          have HA2 : Hid (∃ f', f = f' + 1 ∧ (S.drop n).length < f' ∧ acc1 ++ prt o a b s (on s n) :: pt o a b f' (S.drop n) (on s n) = tot) := by
            obtain ⟨f', rfl⟩ : ∃ f', f = f' + 1 := ⟨f - 1, by have := HF.out; omega⟩
            refine ⟨f', rfl, ?_, ?_⟩
            · have h10 := drop_less s r'
              rw [← hr, hn] at h10
              have h11 := HF.out
              rw [hr, List.length_cons] at h11
              omega
            · have h10 := HA.out
              rw [hr, pt_cons, ← hr, hn, ← List.append_assoc, HAc.out] at h10
              exact h10
          clear HFl hn hr h9
          gi_wp2
          gi_loopw [16] (fun v16 wk => ∃ m : Nat, 1 ≤ m ∧ m ≤ n ∧ v16 = .int .i64 (m : Int) ∧ Hid (n = m + rn3 (sg g (lo - (s.1 + m)) (s.1 + m)) (on s m)) ∧ Hid (S.drop m = sg g (lo - (s.1 + m)) (s.1 + m)) ∧ wk = wc) (fun v16 _ => n - (intOf v16).toNat)
          case atStart =>
            have h9 := HK.out
            rw [HSr.out] at h9
            obtain ⟨_, _, h10⟩ := sg_head h9 rfl
            refine ⟨1, Nat.le_refl _, hn1, rfl, ?_, ?_, rfl⟩
            · show _ = _
              rw [← HRn.out, HSr.out, rn3_self, h10]
              omega
            · show _ = _
              rw [HSr.out, h10]; rfl
          case round =>
            obtain ⟨m, hm1, hm2, rfl, HM, HDr, rfl⟩ := hrel
            have hml : s.1 + m ≤ lo := by omega
            gi_upto_region 17 with (fail)
            gi_cut [136] from 500 (fun v w' => v = .bool (!decide (m = n)) ∧ w' = wr)
            case first =>
              rename_i JJ KK hJJ hKK
              by_cases hlt : s.1 + m < lo
              · have hlt' : (s.1 : Int) + (m : Int) < (lo : Int) := by omega
                obtain ⟨bx, ox, rfl, x1⟩ := HCX.out wr cw2 (s.1 + m) hlt
                obtain ⟨by_, oy, rfl, y1⟩ := HCY.out wr cw2 (s.1 + m) hlt
                have hz : g (s.1 + m) ≠ some (s.2.1 + m, s.2.2 + m) → m = n := fun h => by
                  have h9 := HM.out
                  have h10 : rn3 (sg g (lo - (s.1 + m)) (s.1 + m)) (on s m) = 0 := rn3_sg_zero (q := on s m) h
                  rw [h10] at h9
                  omega
                by_cases e1 : fx (s.1 + m) ps0 = some (s.2.1 + m)
                · have ex : (pv (fx (s.1 + m) ps0) == (s.2.1 : Int) + (m : Int)) = true := by rw [e1]; simp [pv]
                  by_cases e2 : fx (s.1 + m) qs0 = some (s.2.2 + m)
                  · have ey : (pv (fx (s.1 + m) qs0) == (s.2.2 : Int) + (m : Int)) = true := by rw [e2]; simp [pv]
                    have HN : Hid (decide (m = n) = false) := by
                      refine decide_eq_false (fun e => ?_)
                      have h9 := HM.out
                      rw [sg_hit hlt ((HG2.out _ _ _).2 ⟨e1, e2⟩)] at h9
                      have : rn3 ((s.1 + m, s.2.1 + m, s.2.2 + m) :: sg g (lo - (s.1 + m + 1)) (s.1 + m + 1)) (on s m) = rn3 (sg g (lo - (s.1 + m + 1)) (s.1 + m + 1)) (on (on s m) 1) + 1 := rn3_self _ _
                      omega
                    generalize pv (fx (s.1 + m) ps0) = vx at *
                    generalize pv (fx (s.1 + m) qs0) = vy at *
                    clear e1 e2 hz
                    gi_wp2
                    gi_meet
                    exact ⟨by rw [HN.out]; rfl, rfl⟩
                  · have ey : (pv (fx (s.1 + m) qs0) == (s.2.2 : Int) + (m : Int)) = false := by
                      rw [beq_eq_false_iff_ne]
                      intro e3
                      apply e2
                      cases hf : fx (s.1 + m) qs0 with
                      | none => rw [hf] at e3; simp only [pv] at e3; omega
                      | some jj => rw [hf] at e3; simp only [pv] at e3; rw [show jj = s.2.2 + m by omega]
                    have HN : Hid (decide (m = n) = true) := decide_eq_true (hz (fun h => e2 ((HG2.out _ _ _).1 h).2))
                    generalize pv (fx (s.1 + m) ps0) = vx at *
                    generalize pv (fx (s.1 + m) qs0) = vy at *
                    clear e1 e2 hz
                    gi_wp2
                    gi_meet
                    exact ⟨by rw [HN.out]; rfl, rfl⟩
                · have ex : (pv (fx (s.1 + m) ps0) == (s.2.1 : Int) + (m : Int)) = false := by
                    rw [beq_eq_false_iff_ne]
                    intro e3
                    apply e1
                    cases hf : fx (s.1 + m) ps0 with
                    | none => rw [hf] at e3; simp only [pv] at e3; omega
                    | some jj => rw [hf] at e3; simp only [pv] at e3; rw [show jj = s.2.1 + m by omega]
                  have HN : Hid (decide (m = n) = true) := decide_eq_true (hz (fun h => e1 ((HG2.out _ _ _).1 h).1))
                  generalize pv (fx (s.1 + m) ps0) = vx at *
                  generalize pv (fx (s.1 + m) qs0) = vy at *
                  clear e1 hz
                  gi_wp2
                  gi_meet
                  exact ⟨by rw [HN.out]; rfl, rfl⟩
              · have hlt' : ¬ (s.1 : Int) + (m : Int) < (lo : Int) := by omega
                have HN : Hid (decide (m = n) = true) := by
                  have h9 := HM.out
                  rw [show lo - (s.1 + m) = 0 by omega] at h9
                  exact decide_eq_true (by simp only [sg, rn3] at h9; omega)
                gi_wp2
                gi_meet
                exact ⟨by rw [HN.out]; rfl, rfl⟩
            case rest =>
            obtain ⟨rfl, rfl⟩ := hcut
            by_cases hmn : m = n
            · rw [decide_eq_true hmn]
              subst hmn
              obtain ⟨f', rfl, hfl, hA3⟩ := HA2.out
              have hvW := hvP.no cw2
              have huW := huP.no cw2
              have htW := htP.no cw2
              obtain ⟨q1, d1, m1, o1, hc1⟩ := SlV.mid hvW (by rw [List.length_map]; exact HLo.out) s.1 (s.1 + m) (by omega) HI3.1
              obtain ⟨q2, d2, m2, o2, hc2⟩ := SlV.mid huW (by rw [List.length_map]; exact HLa.out) s.2.1 (s.2.1 + m) (by omega) HI3.2.1
              obtain ⟨q3, d3, m3, o3, hc3⟩ := SlV.mid htW (by rw [List.length_map]; exact HLb.out) s.2.2 (s.2.2 + m) (by omega) HI3.2.2
              rw [← List.map_take, ← List.map_drop] at m1 m2 m3
              have R3 : Read3 wc B (.slice q1 (s.1 + m - s.1) d1) (.slice q2 (s.2.1 + m - s.2.1) d2) (.slice q3 (s.2.2 + m - s.2.2) d3) (prt o a b s (on s m)) := ⟨⟨m1, m2, m3⟩, fun k hk => by
                rcases hk with hk | hk | hk
                · exact dO k ⟨fun e => hk.1 (by simp only [prt, mk3, cut]; rw [List.map_eq_nil_iff] at e; rw [e]; simp), o1 k hk.2⟩
                · exact dA k ⟨fun e => hk.1 (by simp only [prt, mk3, cut]; rw [List.map_eq_nil_iff] at e; rw [e]; simp), o2 k hk.2⟩
                · exact dB k ⟨fun e => hk.1 (by simp only [prt, mk3, cut]; rw [List.map_eq_nil_iff] at e; rw [e]; simp), o3 k hk.2⟩⟩
              have HPc : Hid (false = (prt o a b s (on s m)).c) := by
                refine Eq.symm ?_
                show (mk3 (cut o s.1 (s.1 + m)) (cut a s.2.1 (s.2.1 + m)) (cut b s.2.2 (s.2.2 + m))).c = false
                rw [mk3_c]
                exact .inr (.inl HFa.out.1)
              rw [show s.1 + m - s.1 = m by omega] at R3 hc1
              rw [show s.2.1 + m - s.2.1 = m by omega] at R3 hc2
              rw [show s.2.2 + m - s.2.2 = m by omega] at R3 hc3
              rw [Int.natCast_add] at hc1 hc2 hc3
              have hlacc1 : rs1.length + 1 ≤ 801 := by
                rw [PA2.len]
                have h9 := congrArg List.length hA3
                have := HB.out
                simp only [List.length_append, List.length_cons] at h9
                omega
              obtain ⟨z1, z2, z3⟩ := id HI3
              obtain rfl := HN9.out
              have hany := AfterB.any (fun k => Value.ownBlock (.slice p9' rs1.length c9') = some k) wc
              have HA3 : Hid ((acc1 ++ [prt o a b s (on s m)]) ++ pt o a b f' (sg g (lo - (on s m).1) (on s m).1) (on s m) = tot) := by
                rw [List.append_assoc]
                show _ ++ ([_] ++ pt o a b f' (sg g (lo - (s.1 + m)) (s.1 + m)) (on s m)) = tot
                rw [← HDr.out]
                exact hA3
              have HI4 : Hid (Inc3 (lo, la, lb) (on s m) (sg g (lo - (on s m).1) (on s m).1)) := by
                show Inc3 _ _ (sg g (lo - (s.1 + m)) (s.1 + m))
                rw [← HDr.out]
                exact HI2.out
              have HF4 : Hid ((sg g (lo - (on s m).1) (on s m).1).length < f') := by
                show (sg g (lo - (s.1 + m)) (s.1 + m)).length < f'
                rw [← HDr.out]
                exact hfl
              have HL4 : Hid (∀ t ∈ sg g (lo - (on s m).1) (on s m).1, ∃ x, o[t.1]? = some x ∧ a[t.2.1]? = some x ∧ b[t.2.2]? = some x) := by
                show ∀ t ∈ sg g (lo - (s.1 + m)) (s.1 + m), _
                rw [← HDr.out]
                exact fun t ht => HLk.out t (List.mem_of_mem_drop ht)
              clear m1 m2 m3 hA3 hfl
              gi_wp2
              refine region_push 20 21 _ _ hmix (by kernel_rfl) (by kernel_rfl) rfl rfl (by kernel_rfl) rfl _ _ 128 rfl Wp.heap.size 130 i0 (.agg #[.bool false, .slice none 0 0, .slice none 0 0, .slice none 0 0]) 4 80 Tryz.underlying128 hi hz0 hz1 hz2 rfl (by decide) (.slice p9' rs1.length c9') rs1.length (rs1.flatMap eR) [.bool false, .slice q1 m d1, .slice q2 m d2, .slice q3 m d3] PA2.row rfl (by simp [Value.oneCell']) (by unfold maxLen; omega) (by omega) cw2.size ?_
              intro v1 v2
              simp only [hushE, Nat.reduceAdd, Nat.reduceBEq, Bool.or_self, Bool.or_true, Bool.or_false, if_true, if_false, Bool.false_eq_true]
              repeat (gi_big_quiet_step (fail))
              refine wpQuietIn_nil ⟨fun W => ?_, ⟨rfl, rfl⟩, ?_⟩
              · simp [execOp, go_sem]
              · intro W hown' c' hmv
                have hbo : ∀ k, Value.ownBlock (.slice p9' rs1.length c9') = some k → Wp.heap.size ≤ k := fun k hk => (PA2.row.lt k hk).1
                have PA9 := PA2.push R3 hown' c' (fun k hk h => by have := hbo k h; omega) HPc.out
                have cw9 : Chg No Wp W := cw2.trans c' (fun k h => .inr (hbo k h))
                gi_wp2
                go_roundw
                case rel => exact ⟨acc1 ++ [prt o a b s (on s m)], rs1 ++ [(false, .slice q1 m d1, .slice q2 m d2, .slice q3 m d3)], on s m, f', by simp only [on]; go_num, by simp only [on]; go_num, by simp only [on]; go_num, HI3.1, HI4, HF4, HL4, HA3, PA9, cw9⟩
                case measure => simp [intOf]; omega
            · rw [decide_eq_false hmn]
              have hlt : s.1 + m < lo := by
                rcases Nat.lt_or_ge (s.1 + m) lo with h | h
                · exact h
                · have h9 := HM.out
                  rw [show lo - (s.1 + m) = 0 by omega] at h9
                  simp only [sg, rn3] at h9
                  omega
              have hg : g (s.1 + m) = some (s.2.1 + m, s.2.2 + m) := by
                refine Classical.byContradiction (fun h => ?_)
                have h9 := HM.out
                have h10 : rn3 (sg g (lo - (s.1 + m)) (s.1 + m)) (on s m) = 0 := rn3_sg_zero (q := on s m) h
                rw [h10] at h9
                omega
              have HM2 : Hid (n = (m + 1) + rn3 (sg g (lo - (s.1 + (m + 1))) (s.1 + (m + 1))) (on s (m + 1))) := by
                have h9 := HM.out
                rw [sg_hit hlt hg] at h9
                have h10 : rn3 ((s.1 + m, s.2.1 + m, s.2.2 + m) :: sg g (lo - (s.1 + m + 1)) (s.1 + m + 1)) (on s m) = rn3 (sg g (lo - (s.1 + m + 1)) (s.1 + m + 1)) (on (on s m) 1) + 1 := rn3_self _ _
                rw [h10, on_on] at h9
                show _ = _
                rw [← Nat.add_assoc s.1 m 1]
                omega
              have HD2 : Hid (S.drop (m + 1) = sg g (lo - (s.1 + (m + 1))) (s.1 + (m + 1))) := by
                show _ = _
                rw [← List.drop_drop, HDr.out, sg_hit hlt hg]
                rfl
              gi_wp2
              go_roundw
              case rel => exact ⟨m + 1, by omega, by omega, by go_num, HM2, HD2, trivial⟩
              case measure => simp [intOf]; omega
      · rw [decide_eq_false hke]
        have hkl : k < lo := by omega
        have HK2 : Hid (sg g (lo - (k + 1)) (k + 1) = S) := by
          show _ = _
          rw [← sg_skip hkl (sg_no (e := (lo, la, lb)) hkl (by rw [HK.out, HSh.out]; exact hke))]
          exact HK.out
        gi_wp2
        go_roundw
        case rel => exact ⟨k + 1, by omega, by omega, by go_num, HK2, trivial⟩
        case measure => simp [intOf]; omega

theorem refParts_in (vo va vb : Value) (o a b : List ByteArray) (w : World) (hv : SlV w vo (o.map Value.string)) (hu : SlV w va (a.map Value.string)) (ht : SlV w vb (b.map Value.string)) (ho : o.length ≤ 400) (ha : a.length ≤ 400) (hb : b.length ≤ 400) :
    CallsIn Fence.wide 0 Tryz.prog 104 #[vo, va, vb] w fun e w' => ∃ v', e = .returned v' ∧ (∃ rs, RPartsAt w' w.heap.size w.heap.size v' rs (parts o a b)) ∧ Chg No w w' :=
  refParts_at vo va vb o a b w w.heap.size (Nat.le_refl _) hv hu ht ho ha hb hv.lt hu.lt ht.lt

end Go.Proofs.YtndblaemladppaaGreatDoor

end
section
-- RMerge
namespace Go.Proofs.YtndblaemladppaaGreatDoor
open Go.RowKit Go.Shelf Go.SeqLib Go.DiffLib Go.BigFrame
attribute [local go_sem] Oper.semAt_some

theorem boxR {W W' : World} {B : Nat} {c x y z : Value} (h : W.heap[B]? = some (.cells #[c, x, y, z] 130)) (k : Chg No W W') : W'.heap[B]? = some (.cells #[c, x, y, z] 130) ∧ W'.cell? ⟨B, 0, none⟩ = some c ∧ W'.cell? ⟨B, 1, none⟩ = some x ∧ W'.cell? ⟨B, 2, none⟩ = some y ∧ W'.cell? ⟨B, 3, none⟩ = some z := by
  have h1 := k.same h (fun h => h)
  refine ⟨h1, ?_⟩
  simp [World.cell?, h1]

set_option maxRecDepth 100000 in
set_option maxHeartbeats 8000000 in
theorem refMerge_in (vo va vb : Value) (o a b : List ByteArray) (w : World) (hv : SlV w vo (o.map Value.string)) (hu : SlV w va (a.map Value.string)) (ht : SlV w vb (b.map Value.string)) (ho : o.length ≤ 400) (ha : a.length ≤ 400) (hb : b.length ≤ 400) :
    CallsIn Fence.wide 0 Tryz.prog 84 #[vo, va, vb] w fun e w' => appRes w (mrg o a b) e w' ∧ Chg No w w' := by
  have hP := refParts_in vo va vb o a b w hv hu ht ho ha hb
  have hpl := parts_length o a b
  have hlens := parts_lens o a b
  obtain ⟨p, cp, rfl, _⟩ := id hv
  obtain ⟨q, cq, rfl, _⟩ := id hu
  obtain ⟨r, cr, rfl, _⟩ := id ht
  have b1 : ¬ (400 : Int) < ((o.map Value.string).length : Int) := by rw [List.length_map]; omega
  have b2 : ¬ (400 : Int) < ((a.map Value.string).length : Int) := by rw [List.length_map]; omega
  have b3 : ¬ (400 : Int) < ((b.map Value.string).length : Int) := by rw [List.length_map]; omega
  clear hv hu ht
  generalize (o.map Value.string).length = lo at *
  generalize (a.map Value.string).length = la at *
  generalize (b.map Value.string).length = lb at *
  have HLn : Hid (∀ p ∈ parts o a b, p.o.length ≤ 400 ∧ p.a.length ≤ 400 ∧ p.b.length ≤ 400) := fun p hp => by have := hlens p hp; omega
  unfold mrg
  generalize parts o a b = ps at *
  have hpl' : ps.length ≤ 801 := by omega
  clear hlens hpl ho ha hb
  obtain ⟨tot, HTot⟩ : ∃ t, Hid (gather ps = t) := ⟨_, rfl⟩
  rw [HTot.out]
  refine callsIn_of_wp Tryz.func84 rfl trivial ?_
  simp only [Tryz.ntmps84, List.size_toArray, List.length_cons, List.length_nil, Nat.reduceAdd, Nat.reduceSub, Array.replicate_succ, Array.replicate_zero, List.push_toArray, List.append_toArray, List.nil_append, List.cons_append]
  gi_wp2_with fail
  refine ⟨trivial, rfl, hP.mono ?_⟩
  rintro e wP ⟨vP, rfl, ⟨rs, PA⟩, cP⟩
  clear hP
  have sR : SlR wP vP rs := SlE.ofRow eR_len PA.row
  obtain ⟨pP, ccP, rfl⟩ := row_slice PA.row
  have hrl := PA.len
  obtain ⟨np, HNP⟩ : ∃ n, Hid (rs.length = n) := ⟨_, rfl⟩
  have HNS : Hid (ps.length = np) := by show _ = _; rw [← hrl, HNP.out]
  rw [HNP.out] at sR ⊢
  rw [HNS.out] at hpl'
  clear hrl
  gi_wp2
  gi_loopw [9, 10] (fun v8 i wr => ∃ (k : Nat) (acc : List ByteArray), k ≤ np ∧ i = .int .i64 (k : Int) ∧ acc.length ≤ k * 400 ∧ wr.ownsRow wP.heap.size 9 1 v8 acc.length (acc.map Value.string) ∧ Hid ((gather (ps.drop k)).map (fun t => acc ++ t) = tot) ∧ Chg No wP wr) (fun v8 i _ => np - (intOf i).toNat)
  case atStart => exact ⟨0, [], Nat.zero_le _, rfl, by simp, World.ownsRow_nil _ _ _ _, by show _ = _; rw [← HTot.out, List.drop_zero]; cases gather ps <;> rfl, Chg.refl _ _⟩
  case round =>
    obtain ⟨k, acc, hk, rfl, hacc, hr, HT, cw⟩ := hrel
    obtain ⟨p8, c8, rfl⟩ := row_slice hr
    by_cases hlt : k < np
    · have hlt' : (k : Int) < (np : Int) := by omega
      have hkr : k < rs.length := by rw [HNP.out]; exact hlt
      obtain ⟨x, hx⟩ : ∃ x, rs[k]? = some x := ⟨_, List.getElem?_eq_getElem hkr⟩
      obtain ⟨pp, hpp, hxc, o3⟩ := PA.at hx
      have hkp : k < ps.length := by rw [HNS.out]; exact hlt
      have HTk : Hid (ps.drop k = pp :: ps.drop (k + 1)) := by
        rw [List.drop_eq_getElem_cons hkp]
        rw [List.getElem?_eq_getElem hkp] at hpp
        rw [Option.some.inj hpp]
        exact rfl
      have hln := HLn.out pp (List.mem_of_getElem? hpp)
      obtain ⟨b1, o1, rfl, x1, x2, x3, x4⟩ := SlR.at (show SlR wr _ _ from SlE.no eR_len (by decide) sR cw) k x hx
      obtain ⟨xc, xo, xa, xb⟩ := x
      simp only at hxc o3 x1 x2 x3 x4
      have HXC : Hid (xc = pp.c) := hxc
      obtain ⟨⟨v1, v2, v3⟩, _⟩ := o3.chg cw (fun _ _ h => h)
      obtain ⟨q1, d1, rfl, _⟩ := id v1
      obtain ⟨q2, d2, rfl, _⟩ := id v2
      obtain ⟨q3, d3, rfl, _⟩ := id v3
      rw [List.length_map] at v1 v2 v3 x2 x3 x4
      clear hx hpp hkr hkp o3 hxc
      obtain ⟨n1, HN1⟩ : ∃ n, Hid (pp.o.length = n) := ⟨_, rfl⟩
      obtain ⟨n2, HN2⟩ : ∃ n, Hid (pp.a.length = n) := ⟨_, rfl⟩
      obtain ⟨n3, HN3⟩ : ∃ n, Hid (pp.b.length = n) := ⟨_, rfl⟩
      rw [HN1.out] at v1 x2 hln
      rw [HN2.out] at v2 x3 hln
      rw [HN3.out] at v3 x4 hln
      have cb : Chg No wr (wr.alloc (.cells #[.bool xc, .slice q1 n1 d1, .slice q2 n2 d2, .slice q3 n3 d3] 130)) := (Chg.refl _ wr).alloc _
      have bx : (wr.alloc (.cells #[.bool xc, .slice q1 n1 d1, .slice q2 n2 d2, .slice q3 n3 d3] 130)).heap[wr.heap.size]? = some (.cells #[.bool xc, .slice q1 n1 d1, .slice q2 n2 d2, .slice q3 n3 d3] 130) := World.alloc_heap_new wr _
      have hr1 := hr.alloc (.cells #[.bool xc, .slice q1 n1 d1, .slice q2 n2 d2, .slice q3 n3 d3] 130)
      have w1' := v1.no cb
      have w2' := v2.no cb
      have w3' := v3.no cb
      obtain ⟨_, a0, a1, a2, a3⟩ := boxR bx (Chg.refl No _)
      clear v1 v2 v3
      have hka : k * 400 ≤ 801 * 400 := Nat.mul_le_mul_right _ (by omega)
      cases xc with
      | true =>
        obtain rfl : tot = none := by
          have := HT.out
          rw [HTk.out, gather_cons, if_pos HXC.out.symm] at this
          exact this.symm
        gi_wp2
        go_ret2
        exact ⟨rfl, Chg.seq (Chg.seq cP cw) cb⟩
      | false =>
        have HT2 : Hid ((gather (ps.drop (k + 1))).map (fun t => (acc ++ pick pp) ++ t) = tot) := by
          have := HT.out
          rw [HTk.out, gather_cons, if_neg (by rw [← HXC.out]; simp), Option.map_map] at this
          rw [← this]
          show _ = _
          congr 1
          funext t
          simp
        have cb2 := Chg.seq cw cb
        gi_wp2_with fail
        generalize wr.alloc (.cells #[.bool false, .slice q1 n1 d1, .slice q2 n2 d2, .slice q3 n3 d3] 130) = W1 at *
        refine ⟨trivial, rfl, (refSame_in _ _ pp.a pp.b W1 w2' w3').mono ?_⟩
        rintro e W2 ⟨rfl, k2⟩
        obtain ⟨bx2, e0, e1, e2, e3⟩ := boxR bx k2
        have hr2 := own_still hr1 k2 (fun _ _ h => h)
        have u1' := w1'.no k2
        have u2' := w2'.no k2
        have u3' := w3'.no k2
        have cb3 := Chg.seq cb2 k2
        have hbs := cb3.size
        clear a0 a1 a2 a3 w1' w2' w3' bx hr1 hr cb
        by_cases h1 : pp.a = pp.b
        · have HP : Hid (pick pp = pp.a) := if_pos (.inl h1)
          rw [decide_eq_true h1]
          clear h1
          gi_wp2_with fail
          refine ⟨trivial, ?_⟩
          rename_i hKK
          apply hKK
          gi_wp2_with (gi_at_builtin; refine wpListIn_append_sv _ rfl _ _ rfl wP.heap.size _ acc.length _ rfl hr2 q2 n2 d2 pp.a rfl u2' (by omega) hbs ?_; intro v5 W5 hown5 hgrow5 hat5)
          have c5 : Chg No wP W5 := cb3.grown hgrow5 (fun k e => .inr (hr2.lt k e).1)
          have hlen : (acc ++ pick pp).length = acc.length + n2 := by rw [HP.out, List.length_append, HN2.out]
          go_roundw
          case rel => exact ⟨k + 1, acc ++ pick pp, hlt, by go_num, by rw [hlen, Nat.succ_mul]; omega, by rw [hlen, HP.out, List.map_append]; exact hown5, HT2, c5⟩
          case measure => simp [intOf]; omega
        · rw [decide_eq_false h1]
          gi_wp2_with fail
          refine ⟨trivial, rfl, (refSame_in _ _ pp.b pp.o W2 u3' u1').mono ?_⟩
          rintro e W3 ⟨rfl, k3⟩
          obtain ⟨bx3, f0, f1, f2, f3⟩ := boxR bx2 k3
          have hr3 := own_still hr2 k3 (fun _ _ h => h)
          have y2' := u2'.no k3
          have y3' := u3'.no k3
          have cb4 := Chg.seq cb3 k3
          have hbs4 := cb4.size
          clear e0 e1 e2 e3 u1' u2' u3' bx2 hr2
          by_cases h2 : pp.b = pp.o
          · have HP : Hid (pick pp = pp.a) := if_pos (.inr h2)
            rw [decide_eq_true h2]
            clear h1 h2
            gi_wp2_with (gi_at_builtin; refine wpListIn_append_sv _ rfl _ _ rfl wP.heap.size _ acc.length _ rfl hr3 q2 n2 d2 pp.a rfl y2' (by omega) hbs4 ?_; intro v5 W5 hown5 hgrow5 hat5)
            have c5 : Chg No wP W5 := cb4.grown hgrow5 (fun k e => .inr (hr3.lt k e).1)
            have hlen : (acc ++ pick pp).length = acc.length + n2 := by rw [HP.out, List.length_append, HN2.out]
            go_roundw
            case rel => exact ⟨k + 1, acc ++ pick pp, hlt, by go_num, by rw [hlen, Nat.succ_mul]; omega, by rw [hlen, HP.out, List.map_append]; exact hown5, HT2, c5⟩
            case measure => simp [intOf]; omega
          · have HP : Hid (pick pp = pp.b) := if_neg (by rintro (h | h); exact h1 h; exact h2 h)
            rw [decide_eq_false h2]
            clear h1 h2
            gi_wp2_with (gi_at_builtin; refine wpListIn_append_sv _ rfl _ _ rfl wP.heap.size _ acc.length _ rfl hr3 q3 n3 d3 pp.b rfl y3' (by omega) hbs4 ?_; intro v5 W5 hown5 hgrow5 hat5)
            have c5 : Chg No wP W5 := cb4.grown hgrow5 (fun k e => .inr (hr3.lt k e).1)
            have hlen : (acc ++ pick pp).length = acc.length + n3 := by rw [HP.out, List.length_append, HN3.out]
            go_roundw
            case rel => exact ⟨k + 1, acc ++ pick pp, hlt, by go_num, by rw [hlen, Nat.succ_mul]; omega, by rw [hlen, HP.out, List.map_append]; exact hown5, HT2, c5⟩
            case measure => simp [intOf]; omega
    · obtain rfl : k = np := by omega
      have hlt' : ¬ (k : Int) < (k : Int) := by omega
      obtain rfl : tot = some acc := by
        have := HT.out
        rw [List.drop_eq_nil_of_le (by rw [HNS.out]; exact Nat.le_refl _)] at this
        rw [← this]
        simp [gather]
      gi_wp2
      go_ret2
      exact ⟨⟨_, rfl, rowBase hr cP.size⟩, Chg.seq cP cw⟩

end Go.Proofs.YtndblaemladppaaGreatDoor

end
