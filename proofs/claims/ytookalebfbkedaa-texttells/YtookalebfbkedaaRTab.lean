/-
  The reference's own great and table.
-/
import Derived.Test.YtookalebfbkedaaDTails
import Derived.Test.YtookalebfbkedaaDFits
import Derived.Sort.CutIn
namespace Go.Proofs.Ytookalebfbkedaa
open Go.RowKit Go.Shelf Go.SeqLib Go.DiffLib Go.BigFrame
attribute [local go_sem] Oper.semAt_some

set_option maxHeartbeats 1000000 in
theorem refGreat_in (p q : Option Addr) (n m c d : Nat) (hn : n ≤ 400) (hm : m ≤ 400) (w : World) : CallsIn Fence.wide 0 Try.prog 56 #[.slice p n c, .slice q m d] w fun e w' => e = .returned (.bool false) ∧ w' = w := by
  have h1 : ¬ (400 : Int) < (n : Int) := by omega
  have h2 : ¬ (400 : Int) < (m : Int) := by omega
  refine callsIn_of_wp Try.func56 rfl trivial ?_
  simp only [Try.ntmps56, List.size_toArray, List.length_cons, List.length_nil, Nat.reduceAdd, Nat.reduceSub, Array.replicate_succ, Array.replicate_zero, List.push_toArray, List.append_toArray, List.nil_append, List.cons_append]
  gi_wp2
  go_ret
  exact ⟨rfl, rfl⟩

set_option maxRecDepth 100000 in
set_option maxHeartbeats 2000000 in
theorem table_in (v u : Value) (a b : List ByteArray) (w : World) (hv : SlV w v (a.map Value.string)) (hu : SlV w u (b.map Value.string)) (ha : a.length ≤ 400) (hb : b.length ≤ 400) :
    CallsIn Fence.wide 0 Try.prog 57 #[v, u] w fun e w' => ∃ G R, e = .returned (.slice (some ⟨G, 0, none⟩) (a.length + 1) (a.length + 1)) ∧ Tab w' G a.length b.length 0 R (fillV a b 0 0) ∧ (∀ k, tabB G a.length 0 R k → w.heap.size ≤ k) ∧ Chg No w w' := by
  have hmix : Try.prog.follows .mixedOrders = true := by kernel_rfl
  obtain ⟨p, cp, rfl, hp1, hp2, hpc⟩ := id hv
  obtain ⟨q, cq, rfl, hq1, hq2, hqc⟩ := id hu
  rw [List.length_map] at hp1 hq1
  obtain ⟨n, HN⟩ : ∃ n, Hid (a.length = n) := ⟨_, rfl⟩
  obtain ⟨m, HM⟩ : ∃ m, Hid (b.length = m) := ⟨_, rfl⟩
  rw [List.length_map, HN.out] at hv
  rw [List.length_map, HM.out] at hu
  rw [List.length_map, List.length_map, HN.out, HM.out]
  rw [HN.out] at ha hp1
  rw [HM.out] at hb hq1
  have hmR := makeR n (by omega)
  have hmI := makeI m (by omega)
  clear hpc hqc
  refine callsIn_of_wp Try.func57 rfl trivial ?_
  simp only [Try.ntmps57, List.size_toArray, List.length_cons, List.length_nil, Nat.reduceAdd, Nat.reduceSub, Array.replicate_succ, Array.replicate_zero, List.push_toArray, List.append_toArray, List.nil_append, List.cons_append]
  have hT0 := Tab.empty w n m (fun _ => 0) (fun _ _ => 0)
  have c0 : Chg No w (w.alloc (.cells (madeCells #[.slice none 0 0] (n + 1)) 62)) := (Chg.refl _ w).alloc _
  gi_wp2
  generalize hG : w.heap.size = G at *
  gi_loopw [6] (fun vi wr => ∃ (r : Nat) (R : Nat → Nat), r ≤ n + 1 ∧ vi = .int .i64 ((r : Int) - 1) ∧ Tab wr G n m r R (fillV a b r 0) ∧ Hid (∀ k, tabB G n r R k → G ≤ k) ∧ Chg No w wr) (fun vi _ => (intOf vi + 1).toNat)
  case atStart =>
    refine ⟨n + 1, fun _ => 0, Nat.le_refl _, by go_num, hT0.congr (fun i j h1 h2 _ => by omega), ?_, c0⟩
    rintro k (rfl | ⟨i, h1, h2, _⟩)
    · exact Nat.le_refl _
    · omega
  case round =>
    obtain ⟨r, R, hr, rfl, hT, HOW, cw⟩ := hrel
    by_cases hlt : 0 < r
    · obtain ⟨x, rfl⟩ : ∃ x, r = x + 1 := ⟨r - 1, by omega⟩
      have hxI : ((x + 1 : Nat) : Int) - 1 = (x : Int) := by omega
      rw [hxI]
      have hxn : x ≤ n := by omega
      have hx1 : (x : Int) < (n : Int) + 1 := by omega
      have hx0 : (0 : Int) ≤ (x : Int) := by omega
      have hT5 : Tab ((wr.alloc (.cells (madeCells #[.int .i64 0] (m + 1)) 3)).setCell ⟨G, x, none⟩ (.slice (some ⟨wr.heap.size, 0, none⟩) (m + 1) (m + 1))) G n m x (fun i => if i = x then wr.heap.size else R i) (fillV a b x m) := by
        refine (hT.new hxn).congr (fun i j h1 h2 h3 => ?_)
        by_cases e : i = x
        · subst e
          rw [if_pos rfl]
          unfold fillV
          split
          · obtain rfl : j = m := by omega
            rw [← HM.out, tl_end']
            rfl
          · rfl
        · rw [if_neg e, fillV_old _ (show x < i by omega)]
          unfold fillV
          rw [if_pos (by omega)]
      have hGs : G < wr.heap.size := hT.outer.lt
      have cT : Chg No w ((wr.alloc (.cells (madeCells #[.int .i64 0] (m + 1)) 3)).setCell ⟨G, x, none⟩ (.slice (some ⟨wr.heap.size, 0, none⟩) (m + 1) (m + 1))) := (cw.alloc _).setCell (p := ⟨G, x, none⟩) (.inr (by rw [hG]; exact Nat.le_refl _)) _
      have hcl : (wr.alloc (.cells (madeCells #[.int .i64 0] (m + 1)) 3)).cell? ⟨G, x, none⟩ = some (.slice none 0 0) := by
        have := (hT.outer.alloc (.cells (madeCells #[.int .i64 0] (m + 1)) 3)).cell (i := x) (by omega)
        rw [if_neg (by omega)] at this
        exact this
      have hfl := (hT.outer.alloc (.cells (madeCells #[.int .i64 0] (m + 1)) 3)).frozen x
      have hRn : Hid (∀ i, x + 1 ≤ i → i ≤ n → R i < wr.heap.size ∧ G ≤ R i) := fun i h1 h2 => ⟨hT.lt _ (.inr ⟨i, h1, h2, rfl⟩), HOW.out _ (.inr ⟨i, h1, h2, rfl⟩)⟩
      obtain ⟨N, hN⟩ : ∃ N, wr.heap.size = N := ⟨_, rfl⟩
      rw [hN] at hT5 hRn hGs cT
      have hcomm : (wr.alloc (.cells (madeCells #[.int .i64 0] (m + 1)) 3)).setCell ⟨G, x, none⟩ (.slice (some ⟨N, 0, none⟩) (m + 1) (m + 1)) = (wr.setCell ⟨G, x, none⟩ (.slice (some ⟨N, 0, none⟩) (m + 1) (m + 1))).alloc (.cells (madeCells #[.int .i64 0] (m + 1)) 3) := by
        exact World.setCell_alloc_past _ _ _ _ (by omega)
      rw [hcomm] at hT5 cT
      clear hcomm
      gi_wp2
      have HG : Hid (w.heap.size = G) := hG
      have hc1 : Chg No w _ := cT
      generalize ((wr.setCell ⟨G, x, none⟩ (.slice (some ⟨N, 0, none⟩) (m + 1) (m + 1))).alloc (.cells (madeCells #[.int .i64 0] (m + 1)) 3)) = W5 at *
      clear hcl hfl hT cw hG hN cT hT0 c0 hmR hmI
      have HEnd : Hid (∀ wz, Tab wz G n m x (fun i => if i = x then N else R i) (fillV a b x 0) → Chg No w wz → ∃ R', Tab wz G n m x R' (fillV a b x 0) ∧ Hid (∀ k, tabB G n x R' k → G ≤ k)) := by
        intro wz hz _
        refine ⟨_, hz, ?_⟩
        rintro k (rfl | ⟨i, h1, h2, hk⟩)
        · exact Nat.le_refl _
        · by_cases e : i = x
          · simp only [if_pos e] at hk; omega
          · simp only [if_neg e] at hk
            have := (hRn.out i (by omega) h2).2
            omega
      gi_loopw [7] (fun vj wr => ∃ c : Nat, c ≤ m ∧ vj = .int .i64 ((c : Int) - 1) ∧ Tab wr G n m x (fun i => if i = x then N else R i) (fillV a b x c) ∧ Chg No w wr) (fun vj _ => (intOf vj + 1).toNat)
      case atStart => exact ⟨m, Nat.le_refl _, by go_num, hT5, hc1⟩
      case round =>
        obtain ⟨c, hc, rfl, h, cw⟩ := hrel
        by_cases hxx : x < n
        · have hxx' : (x : Int) < (n : Int) := by omega
          by_cases hcl : 0 < c
          · obtain ⟨j, rfl⟩ : ∃ j, c = j + 1 := ⟨c - 1, by omega⟩
            have hjI : ((j + 1 : Nat) : Int) - 1 = (j : Int) := by omega
            rw [hjI]
            have hjm : j < m := by omega
            have hj0 : (0 : Int) ≤ (j : Int) := by omega
            have hxa : x < a.length := by rw [HN.out]; exact hxx
            have hjb : j < b.length := by rw [HM.out]; exact hjm
            obtain ⟨ax, hax⟩ : ∃ ax, a[x] = ax := ⟨_, rfl⟩
            obtain ⟨bj, hbj⟩ : ∃ bj, b[j] = bj := ⟨_, rfl⟩
            obtain ⟨ba, oa, rfl, hca⟩ : ∃ ba oa, p = some ⟨ba, oa, none⟩ ∧ wr.cell? ⟨ba, oa + x, none⟩ = some (.string ax) := by
              obtain ⟨p', cap', e, _, _, hcc⟩ := hv.no cw
              cases e
              exact hcc x (.string ax) (by rw [List.getElem?_map, List.getElem?_eq_getElem hxa, hax]; rfl)
            obtain ⟨bb, ob, rfl, hcb⟩ : ∃ bb ob, q = some ⟨bb, ob, none⟩ ∧ wr.cell? ⟨bb, ob + j, none⟩ = some (.string bj) := by
              obtain ⟨p', cap', e, _, _, hcc⟩ := hu.no cw
              cases e
              exact hcc j (.string bj) (by rw [List.getElem?_map, List.getElem?_eq_getElem hjb, hbj]; rfl)
            have HTL : Hid (tl (a.drop x) (b.drop j) = if ax = bj then tl (a.drop (x + 1)) (b.drop (j + 1)) + 1 else max (tl (a.drop (x + 1)) (b.drop j)) (tl (a.drop x) (b.drop (j + 1)))) := by
              have htl := tl_at a b x j hxa hjb
              rw [hax, hbj] at htl
              exact htl
            have r0 : wr.cell? ⟨G, x, none⟩ = some (.slice (some ⟨N, 0, none⟩) (m + 1) (m + 1)) := by
              have := h.row (i := x) (Nat.le_refl _) (by omega)
              simp only [if_pos] at this
              exact this
            have r1 : wr.cell? ⟨G, x + 1, none⟩ = some (.slice (some ⟨R (x + 1), 0, none⟩) (m + 1) (m + 1)) := by
              have := h.row (i := x + 1) (by omega) (by omega)
              simp only [if_neg (show ¬ x + 1 = x by omega)] at this
              exact this
            have hV1 : ∀ j', j' ≤ m → wr.cell? ⟨R (x + 1), j', none⟩ = some (.int .i64 (tl (a.drop (x + 1)) (b.drop j') : Int)) := by
              intro j' hj'
              have := h.num (i := x + 1) (by omega) (by omega) hj'
              rw [fillV_old _ (by omega)] at this
              simp only [if_neg (show ¬ x + 1 = x by omega)] at this
              exact this
            have v01 : wr.cell? ⟨N, j + 1, none⟩ = some (.int .i64 (tl (a.drop x) (b.drop (j + 1)) : Int)) := by
              have := h.num (i := x) (Nat.le_refl _) (by omega) (show j + 1 ≤ m by omega)
              rw [fillV_now (Nat.le_refl _)] at this
              simp only [if_pos] at this
              exact this
            obtain ⟨⟨uu, w1⟩, w2⟩ : (∃ u, wr.cell? ⟨N, j, none⟩ = some u) ∧ wr.frozen? ⟨N, j, none⟩ = false := by
              have h9 := h.inner x (Nat.le_refl _) (by omega)
              simp only [if_pos] at h9
              exact ⟨⟨_, h9.cell (by omega)⟩, h9.frozen j⟩
            have HP : Hid (∀ (k : Nat) (z : Int), z = (tl (a.drop x) (b.drop j) : Int) → Tab ((wr.drewN k).setCell ⟨N, j, none⟩ (.int .i64 z)) G n m x (fun i => if i = x then N else R i) (fillV a b x j) ∧ Chg No w ((wr.drewN k).setCell ⟨N, j, none⟩ (.int .i64 z))) := by
              intro k z hz
              refine ⟨?_, (drewNC cw k).setCell (p := ⟨N, j, none⟩) (.inr (by rw [HG.out]; exact Nat.le_of_lt hGs)) _⟩
              have h9 := (h.kept (W' := wr.drewN k) (fun _ _ => rfl)).put (i := x) (Nat.le_refl _) (by omega) j z
              simp only [if_pos] at h9
              refine h9.congr (fun i j' e1 e2 e3 => ?_)
              by_cases ei : i = x
              · subst ei
                by_cases ej : j' = j
                · subst ej
                  rw [if_pos ⟨rfl, rfl⟩, fillV_now (Nat.le_refl _), hz]
                · rw [if_neg (fun h => ej h.2)]
                  by_cases hjj : j ≤ j'
                  · rw [fillV_now (by omega), fillV_now hjj]
                  · unfold fillV
                    rw [if_neg (by omega), if_neg (by omega)]
              · rw [if_neg (fun h => ei h.1), fillV_old _ (by omega), fillV_old _ (by omega)]
            have v11 := hV1 (j + 1) (by omega)
            have v10 := hV1 j (by omega)
            have hx2 : (x : Int) + 1 < (n : Int) + 1 := by omega
            have hj1 : (j : Int) < (m : Int) + 1 := by omega
            have hj2 : (j : Int) + 1 < (m : Int) + 1 := by omega
            have hjm' : (j : Int) < (m : Int) := by omega
            have hbd := (tl_le (a.drop (x + 1)) (b.drop (j + 1))).1
            rw [List.length_drop, HN.out] at hbd
            clear hV1 hax hbj hxa hjb h hT5
            generalize tl (a.drop (x + 1)) (b.drop (j + 1)) = t11 at *
            generalize tl (a.drop (x + 1)) (b.drop j) = t10 at *
            generalize tl (a.drop x) (b.drop (j + 1)) = t01 at *
            generalize tl (a.drop x) (b.drop j) = t00 at *
            generalize R (x + 1) = Rx at *
            by_cases hxy : ax = bj
            · have hb : (ax.toList == bj.toList) = true := by rw [hxy]; simp
              have HT0 : Hid (((1 : Int) + (t11 : Int)) = (t00 : Int)) := by
                have := HTL.out
                rw [if_pos hxy] at this
                show _ = _
                omega
              clear hxy HTL
              gi_wp2
              refine wpIn_region_quiet_lit rfl hmix (by kernel_rfl) ?_
              repeat (gi_big_quiet_step (fail))
              refine wpQuietIn_nil ?_
              rintro w' ⟨k1, rfl⟩
              gi_wp2
              refine region_store_lit hmix rfl (by kernel_rfl) (by kernel_rfl) rfl ?_
              simp only [lastHush, hush, List.replicate, List.length_cons, List.length_nil, List.nil_append, List.cons_append, Nat.reduceAdd, Nat.reduceSub]
              repeat (gi_big_quiet_step (fail))
              refine wpQuietIn_nil ?_
              rintro w' ⟨k, rfl⟩
              refine ⟨(wr.drewN (k1 + k)).setCell ⟨N, j, none⟩ (.int .i64 ((1 : Int) + (t11 : Int))), ?_, ?_⟩
              · simp [execOp, go_sem, w1, w2]
              obtain ⟨hz1, hz2⟩ := HP.out (k1 + k) _ HT0.out
              gi_wp2
              go_roundw
              case rel => exact ⟨j, by omega, by go_num, hz1, hz2⟩
              case measure => simp [intOf]
            · have hb : (ax.toList == bj.toList) = false := by rw [beq_eq_false_iff_ne]; exact fun h => hxy (text_ext h)
              have HT0 : Hid ((if t10 < t01 then (t01 : Int) else (t10 : Int)) = (t00 : Int)) := by
                have := HTL.out
                rw [if_neg hxy] at this
                rw [this]
                show _ = _
                split <;> omega
              clear hxy HTL
              gi_wp2
              refine wpIn_region_quiet_lit rfl hmix (by kernel_rfl) ?_
              repeat (gi_big_quiet_step (fail))
              refine wpQuietIn_nil ?_
              rintro w' ⟨k1, rfl⟩
              gi_wp2
              refine region_store_lit hmix rfl (by kernel_rfl) (by kernel_rfl) rfl ?_
              simp only [lastHush, hush, List.replicate, List.length_cons, List.length_nil, List.nil_append, List.cons_append, Nat.reduceAdd, Nat.reduceSub]
              repeat (gi_big_quiet_step (fail))
              refine wpQuietIn_nil ?_
              rintro w' ⟨k, rfl⟩
              refine ⟨(wr.drewN (k1 + k)).setCell ⟨N, j, none⟩ (.int .i64 (if t10 < t01 then (t01 : Int) else (t10 : Int))), ?_, ?_⟩
              · simp [execOp, go_sem, w1, w2]
              rw [HT0.out]
              obtain ⟨hz1, hz2⟩ := HP.out (k1 + k) _ rfl
              gi_wp2
              go_roundw
              case rel => exact ⟨j, by omega, by go_num, hz1, hz2⟩
              case measure => simp [intOf]
          · obtain rfl : c = 0 := by omega
            have hneg : ((0 : Nat) : Int) - 1 = -1 := by omega
            rw [hneg]
            clear hneg
            obtain ⟨R', h1, h2⟩ := HEnd.out _ h cw
            gi_wp2
            go_roundw
            case rel => exact ⟨x, R', by omega, by go_num, h1, h2, cw⟩
            case measure => simp [intOf]
        · have hxx' : ¬ (x : Int) < (n : Int) := by omega
          have hxn' : x = n := by omega
          have h' : Tab wr G n m x (fun i => if i = x then N else R i) (fillV a b x 0) := by
            refine h.congr (fun i j' e1 e2 e3 => ?_)
            obtain rfl : i = x := by omega
            rw [fillV_now (Nat.zero_le _)]
            unfold fillV
            have hz : tl (a.drop i) (b.drop j') = 0 := by rw [hxn', ← HN.out, tl_end]
            rw [hz]
            split <;> rfl
          clear hxn'
          obtain ⟨R', h1, h2⟩ := HEnd.out _ h' cw
          by_cases hcl : 0 < c
          · have hc0 : (0 : Int) ≤ (c : Int) - 1 := by omega
            gi_wp2
            go_roundw
            case rel => exact ⟨x, R', by omega, by go_num, h1, h2, cw⟩
            case measure => simp [intOf]
          · have hc0 : ¬ (0 : Int) ≤ (c : Int) - 1 := by omega
            gi_wp2
            go_roundw
            case rel => exact ⟨x, R', by omega, by go_num, h1, h2, cw⟩
            case measure => simp [intOf]
    · obtain rfl : r = 0 := by omega
      have hneg : ((0 : Nat) : Int) - 1 = -1 := by omega
      rw [hneg]
      clear hneg
      gi_wp2
      go_ret
      exact ⟨G, R, rfl, hT, fun k hk => by rw [hG]; exact HOW.out k hk, cw⟩

end Go.Proofs.Ytookalebfbkedaa
