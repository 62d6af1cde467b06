/-
  The statements' own SameFiles, and slices.Equal at files.
-/
import Derived.Test.YtbiholcdncndfaaFSl
import Derived.Shelf.RegionOpen
import Derived.Sort.QuietThIn
namespace Go.Proofs.Ytbiholcdncndfaa
open Go.RowKit Go.Shelf Go.SeqLib Go.DiffLib Go.BigFrame Go.TreeLib
attribute [local go_sem] Oper.semAt_some

set_option maxHeartbeats 1000000 in
theorem sameF_in (v u : Value) (xs ys : List Fl) (w : World) (hv : SlF w v xs) (hu : SlF w u ys) (hx : xs.length ≤ 1000000) :
    CallsIn Fence.wide 0 Try.prog 12 #[v, u] w fun e w' => e = .returned (.bool (decide (xs = ys))) ∧ Chg No w w' := by
  have hmix : Try.prog.follows .mixedOrders = true := by kernel_rfl
  have hgd := guard_file
  obtain ⟨p, c1, rfl, _, hc1⟩ := hv.slice
  obtain ⟨q, c2, rfl, _, hc2⟩ := hu.slice
  have hy : ys.length ≤ 9223372036854775807 := by unfold maxLen at hc2; omega
  obtain ⟨n, HN⟩ : ∃ n, Hid (xs.length = n) := ⟨_, rfl⟩
  obtain ⟨m, HM⟩ : ∃ m, Hid (ys.length = m) := ⟨_, rfl⟩
  rw [HN.out] at hv hx ⊢
  rw [HM.out] at hu hy ⊢
  clear hc1 hc2
  refine callsIn_of_wp Try.func12 rfl trivial ?_
  simp only [Try.ntmps12, List.size_toArray, List.length_cons, List.length_nil, Nat.reduceAdd, Nat.reduceSub, Array.replicate_succ, Array.replicate_zero, List.push_toArray, List.append_toArray, List.nil_append, List.cons_append]
  by_cases hlen : n = m
  · have he : ((n : Int) != (m : Int)) = false := by simp [hlen]
    have HL : Hid (n = m) := hlen
    clear hlen
    gi_wp2
    gi_loopw [5] (fun i wr => ∃ k : Nat, k ≤ n ∧ i = .int .i64 (k : Int) ∧ Hid (xs.take k = ys.take k) ∧ Chg No w wr) (fun i _ => n - (intOf i).toNat)
    case atStart => exact ⟨0, Nat.zero_le _, rfl, rfl, Chg.refl _ _⟩
    case round =>
      obtain ⟨k, hk, rfl, HT, c⟩ := hrel
      by_cases hlt : k < n
      · have hlt2 : k < m := by rw [← HL.out]; exact hlt
        have hlt' : (k : Int) < (n : Int) := by omega
        have hlt2' : (k : Int) < (m : Int) := by omega
        have hkx : k < xs.length := by rw [HN.out]; exact hlt
        have hky : k < ys.length := by rw [HM.out]; exact hlt2
        obtain ⟨x, hx⟩ : ∃ x, xs[k] = x := ⟨_, rfl⟩
        obtain ⟨y, hy⟩ : ∃ y, ys[k] = y := ⟨_, rfl⟩
        have hv' : SlF wr _ xs := hv.no c
        have hu' : SlF wr _ ys := hu.no c
        obtain ⟨b1, o1, rfl, x1, x2⟩ := SlF.at hv' k x (by rw [List.getElem?_eq_getElem hkx, hx])
        obtain ⟨b2, o2, rfl, y1, y2⟩ := SlF.at hu' k y (by rw [List.getElem?_eq_getElem hky, hy])
        by_cases hxy : x = y
        · have HT2 : Hid (xs.take (k + 1) = ys.take (k + 1)) := by
            show _ = _
            rw [List.take_succ_eq_append_getElem hkx, List.take_succ_eq_append_getElem hky, HT.out, hx, hy, hxy]
          have hne : ∀ w, (binOp .neq 43 (.agg #[.string x.1, .string x.2]) (.agg #[.string y.1, .string y.2])).run Try.prog w = .ok (.bool false) w := fun w => by rw [run_neq_file, decide_eq_true hxy]; rfl
          clear hxy hx hy hv' hu'
          gi_wp2
          refine wpIn_region_quiet_lit rfl hmix (by kernel_rfl) ?_
          repeat (gi_big_quiet_step (fail))
          refine wpQuietIn_nil ?_
          rintro w' ⟨j, rfl⟩
          gi_wp2
          go_roundw
          case rel => exact ⟨k + 1, hlt, by go_num, HT2, drewNC c _⟩
          case measure => simp [intOf]; omega
        · have HD : Hid (decide (xs = ys) = false) := by
            show _ = _
            rw [decide_eq_false_iff_not]
            rintro rfl
            exact hxy (hx.symm.trans hy)
          have hne : ∀ w, (binOp .neq 43 (.agg #[.string x.1, .string x.2]) (.agg #[.string y.1, .string y.2])).run Try.prog w = .ok (.bool true) w := fun w => by rw [run_neq_file, decide_eq_false hxy]; rfl
          clear hxy hx hy hv' hu'
          gi_wp2
          refine wpIn_region_quiet_lit rfl hmix (by kernel_rfl) ?_
          repeat (gi_big_quiet_step (fail))
          refine wpQuietIn_nil ?_
          rintro w' ⟨j, rfl⟩
          gi_wp2
          go_ret
          exact ⟨by rw [HD.out]; rfl, drewNC c _⟩
      · obtain rfl : k = n := by omega
        have hlt' : ¬ (k : Int) < (k : Int) := by omega
        have HD : Hid (decide (xs = ys) = true) := by
          show _ = _
          rw [decide_eq_true_iff]
          have h := HT.out
          rw [List.take_of_length_le (by rw [HN.out]; exact Nat.le_refl _), List.take_of_length_le (by rw [HM.out, ← HL.out]; exact Nat.le_refl _)] at h
          exact h
        gi_wp2
        go_ret
        exact ⟨by rw [HD.out]; rfl, c⟩
  · have he : ((n : Int) != (m : Int)) = true := by simp; omega
    have HD : Hid (decide (xs = ys) = false) := by
      show _ = _
      rw [decide_eq_false_iff_not]
      rintro rfl
      exact hlen (HN.out.symm.trans HM.out)
    clear hlen
    gi_wp2
    go_ret
    exact ⟨by rw [HD.out]; rfl, Chg.refl _ _⟩

end Go.Proofs.Ytbiholcdncndfaa
