/-
  The document's own comparison of two lists of files, and of two commits.
-/
import Derived.Test.YtmpgeacfnikbpaaDoorMCm
import Derived.Test.YtmpgeacfnikbpaaDoorRSameI
import Derived.Test.YtmpgeacfnikbpaaDoorGFile
import Derived.Shelf.RegionOpen
import Derived.Sort.QuietThIn
namespace Go.Proofs.YtmpgeacfnikbpaaDoor
open Go.RowKit Go.Shelf Go.SeqLib Go.DiffLib Go.TreeLib Go.RepoLib Go.BigFrame
attribute [local go_sem] Oper.semAt_some

set_option maxHeartbeats 1000000 in
theorem refSameF_in (v u : Value) (xs ys : List Fl) (w : World) (hv : SlF w v xs) (hu : SlF w u ys) (hx : xs.length ≤ 1000000) :
    CallsIn Fence.wide 0 Tryd.prog 69 #[v, u] w fun e w' => e = .returned (.bool (decide (xs = ys))) ∧ Chg No w w' := by
  have hmix : Tryd.prog.follows .mixedOrders = true := by kernel_rfl
  have hgd := guard_file
  obtain ⟨p, c1, rfl, _, hc1⟩ := hv.slice
  obtain ⟨q, c2, rfl, _, hc2⟩ := hu.slice
  have hy : ys.length ≤ 9223372036854775807 := by unfold maxLen at hc2; omega
  obtain ⟨n, HN⟩ : ∃ n, Hid (xs.length = n) := ⟨_, rfl⟩
  obtain ⟨m, HM⟩ : ∃ m, Hid (ys.length = m) := ⟨_, rfl⟩
  rw [HN.out] at hv hx ⊢
  rw [HM.out] at hu hy ⊢
  clear hc1 hc2
  refine callsIn_of_wp Tryd.func69 rfl trivial ?_
  simp only [Tryd.ntmps69, List.size_toArray, List.length_cons, List.length_nil, Nat.reduceAdd, Nat.reduceSub, Array.replicate_succ, Array.replicate_zero, List.push_toArray, List.append_toArray, List.nil_append, List.cons_append]
  by_cases hlen : n = m
  · have he : ((n : Int) != (m : Int)) = false := by simp [hlen]
    have HL : Hid (n = m) := hlen
    clear hlen
    gi_wp2
    gi_loopw [5] (fun i wr => ∃ k : Nat, k ≤ n ∧ i = .int .i64 (k : Int) ∧ Hid (xs.take k = ys.take k) ∧ Chg No w wr) (fun i _ => n - (intOf i).toNat)
    case atStart => exact ⟨0, Nat.zero_le _, rfl, rfl, Chg.refl _ _⟩
    case round =>
      obtain ⟨k, hk, rfl, HT, c⟩ := hrel
      by_cases hlt : k < n
      · have hlt2 : k < m := by rw [← HL.out]; exact hlt
        have hlt' : (k : Int) < (n : Int) := by omega
        have hlt2' : (k : Int) < (m : Int) := by omega
        have hkx : k < xs.length := by rw [HN.out]; exact hlt
        have hky : k < ys.length := by rw [HM.out]; exact hlt2
        obtain ⟨x, hx⟩ : ∃ x, xs[k] = x := ⟨_, rfl⟩
        obtain ⟨y, hy⟩ : ∃ y, ys[k] = y := ⟨_, rfl⟩
        have hv' : SlF wr _ xs := hv.no c
        have hu' : SlF wr _ ys := hu.no c
        obtain ⟨b1, o1, rfl, x1, x2⟩ := SlF.at hv' k x (by rw [List.getElem?_eq_getElem hkx, hx])
        obtain ⟨b2, o2, rfl, y1, y2⟩ := SlF.at hu' k y (by rw [List.getElem?_eq_getElem hky, hy])
        by_cases hxy : x = y
        · have HT2 : Hid (xs.take (k + 1) = ys.take (k + 1)) := by
            show _ = _
            rw [List.take_succ_eq_append_getElem hkx, List.take_succ_eq_append_getElem hky, HT.out, hx, hy, hxy]
          have hne : ∀ w, (binOp .neq 86 (.agg #[.string x.1, .string x.2]) (.agg #[.string y.1, .string y.2])).run Tryd.prog w = .ok (.bool false) w := fun w => by rw [run_neq_file, decide_eq_true hxy]; rfl
          clear hxy hx hy hv' hu'
          gi_wp2
          refine wpIn_region_quiet_lit rfl hmix (by kernel_rfl) ?_
          repeat (gi_big_quiet_step (fail))
          refine wpQuietIn_nil ?_
          rintro w' ⟨j, rfl⟩
          gi_wp2
          go_roundw
          case rel => exact ⟨k + 1, hlt, by go_num, HT2, drewNC c _⟩
          case measure => simp [intOf]; omega
        · have HD : Hid (decide (xs = ys) = false) := by
            show _ = _
            rw [decide_eq_false_iff_not]
            rintro rfl
            exact hxy (hx.symm.trans hy)
          have hne : ∀ w, (binOp .neq 86 (.agg #[.string x.1, .string x.2]) (.agg #[.string y.1, .string y.2])).run Tryd.prog w = .ok (.bool true) w := fun w => by rw [run_neq_file, decide_eq_false hxy]; rfl
          clear hxy hx hy hv' hu'
          gi_wp2
          refine wpIn_region_quiet_lit rfl hmix (by kernel_rfl) ?_
          repeat (gi_big_quiet_step (fail))
          refine wpQuietIn_nil ?_
          rintro w' ⟨j, rfl⟩
          gi_wp2
          go_ret
          exact ⟨by rw [HD.out]; rfl, drewNC c _⟩
      · obtain rfl : k = n := by omega
        have hlt' : ¬ (k : Int) < (k : Int) := by omega
        have HD : Hid (decide (xs = ys) = true) := by
          show _ = _
          rw [decide_eq_true_iff]
          have h := HT.out
          rw [List.take_of_length_le (by rw [HN.out]; exact Nat.le_refl _), List.take_of_length_le (by rw [HM.out, ← HL.out]; exact Nat.le_refl _)] at h
          exact h
        gi_wp2
        go_ret
        exact ⟨by rw [HD.out]; rfl, c⟩
  · have he : ((n : Int) != (m : Int)) = true := by simp; omega
    have HD : Hid (decide (xs = ys) = false) := by
      show _ = _
      rw [decide_eq_false_iff_not]
      rintro rfl
      exact hlen (HN.out.symm.trans HM.out)
    clear hlen
    gi_wp2
    go_ret
    exact ⟨by rw [HD.out]; rfl, Chg.refl _ _⟩

set_option maxHeartbeats 1000000 in
theorem refSameC_in (v u : Value) (c d : Cm) (D D' : Blk) (hx : c.2.1.length ≤ 1000000) (w : World) (hv : CmD D w v c) (hu : CmD D' w u d) :
    CallsIn Fence.wide 0 Tryd.prog 56 #[v, u] w fun e w' => e = .returned (.bool (decide (c = d))) ∧ Chg No w w' := by
  obtain ⟨p, n, k, q, m, l, rfl, h1, h2, _, _⟩ := hv
  obtain ⟨p', n', k', q', m', l', rfl, h1', h2', _, _⟩ := hu
  obtain ⟨c1, c2, c3⟩ := c
  obtain ⟨d1, d2, d3⟩ := d
  dsimp only at h1 h2 h1' h2' hx ⊢
  have ca : Chg No w ((w.alloc (.cells #[.slice p n k, .slice q m l, .string c3] 46)).alloc (.cells #[.slice p' n' k', .slice q' m' l', .string d3] 46)) := ((Chg.refl _ w).alloc _).alloc _
  have I1 := fun W hv hu => refSameI_in (.slice p n k) (.slice p' n' k') c1 d1 W hv hu
  have F1 := fun W hv hu => refSameF_in (.slice q m l) (.slice q' m' l') c2 d2 W hv hu hx
  have HE : Hid (decide (((c1, c2, c3) : Cm) = (d1, d2, d3)) = ((c3.toList == d3.toList) && (decide (c1 = d1) && decide (c2 = d2)))) := by
    show _ = _
    by_cases h3 : c3 = d3
    · rw [eqR_true h3, Bool.true_and, Bool.eq_iff_iff]
      simp [h3]
    · rw [eqR_false h3, Bool.false_and, decide_eq_false (fun e => h3 (congrArg (fun x : Cm => x.2.2) e))]
  rw [HE.out]
  clear HE
  generalize hb3 : (c3.toList == d3.toList) = b3
  generalize decide (c1 = d1) = b1 at I1 ⊢
  generalize decide (c2 = d2) = b2 at F1 ⊢
  have g1 := h1.no ca
  have g2 := h2.no ca
  have g1' := h1'.no ca
  have g2' := h2'.no ca
  clear h1 h2 h1' h2'
  refine callsIn_of_wp Tryd.func56 rfl trivial ?_
  simp only [Tryd.ntmps56, List.size_toArray, List.length_cons, List.length_nil, Nat.reduceAdd, Nat.reduceSub, Array.replicate_succ, Array.replicate_zero, List.push_toArray, List.append_toArray, List.nil_append, List.cons_append]
  cases b3 with
  | false =>
    gi_wp2_with fail
    refine ⟨trivial, ?_⟩
    rename_i hKK
    apply hKK
    gi_wp2_with fail
    refine ⟨trivial, ?_⟩
    rename_i hKK
    apply hKK
    gi_wp2
    go_ret
    exact ⟨rfl, ca⟩
  | true =>
  gi_wp2_with fail
  refine ⟨trivial, rfl, (I1 _ g1 g1').mono ?_⟩
  rintro e w1 ⟨rfl, c1'⟩
  have k1 := Chg.seq ca c1'
  cases b1 with
  | false =>
    gi_wp2_with fail
    refine ⟨trivial, ?_⟩
    rename_i hKK
    apply hKK
    gi_wp2
    go_ret
    exact ⟨rfl, k1⟩
  | true =>
  have x0 : w1.heap[w.heap.size]? = some (.cells #[.slice p n k, .slice q m l, .string c3] 46 (0, 0)) := c1'.same (by
    rw [Below.heap_alloc _ _ _ (by rw [World.size_alloc]; omega)]
    exact World.alloc_heap_new w _) (fun h => h)
  have x1 : w1.heap[w.heap.size + 1]? = some (.cells #[.slice p' n' k', .slice q' m' l', .string d3] 46 (0, 0)) := c1'.same (by
    have := World.alloc_heap_new (w.alloc (.cells #[.slice p n k, .slice q m l, .string c3] 46)) (.cells #[.slice p' n' k', .slice q' m' l', .string d3] 46 (0, 0))
    rw [World.size_alloc] at this
    exact this) (fun h => h)
  have y0 : w1.cell? ⟨w.heap.size, 1, none⟩ = some (.slice q m l) := by simp [World.cell?, x0]
  have y1 : w1.cell? ⟨w.heap.size + 1, 1, none⟩ = some (.slice q' m' l') := by simp [World.cell?, x1]
  clear x0 x1 I1
  gi_wp2_with fail
  refine ⟨trivial, rfl, (F1 _ (g2.no c1') (g2'.no c1')).mono ?_⟩
  rintro e w2 ⟨rfl, c2'⟩
  gi_wp2
  go_ret
  exact ⟨rfl, Chg.seq k1 c2'⟩

end Go.Proofs.YtmpgeacfnikbpaaDoor
