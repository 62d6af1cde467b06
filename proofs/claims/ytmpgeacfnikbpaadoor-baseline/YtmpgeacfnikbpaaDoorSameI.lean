/-
  The statements' own SameInts.
-/
import Derived.Test.YtmpgeacfnikbpaaDoorGTxt
import Derived.Deep.QuietTactic
import Derived.BigQuiet
namespace Go.Proofs.YtmpgeacfnikbpaaDoor
open Go.RowKit Go.Shelf Go.SeqLib
attribute [local go_sem] Oper.semAt_some

set_option maxHeartbeats 1000000 in
theorem sameI_in (v u : Value) (xs ys : List Int) (w : World) (hv : SlV w v (xs.map (Value.int .i64))) (hu : SlV w u (ys.map (Value.int .i64))) :
    CallsIn Fence.wide 0 Tryd.prog 12 #[v, u] w fun e w' => e = .returned (.bool (decide (xs = ys))) ∧ Chg (fun _ => False) w w' := by
  obtain ⟨p, c1, rfl, hp1, hp2, hpc⟩ := hv
  obtain ⟨q, c2, rfl, hq1, hq2, hqc⟩ := hu
  rw [List.length_map] at hp1 hq1
  have hl1 : xs.length ≤ maxLen := by omega
  have hl2 : ys.length ≤ maxLen := by omega
  unfold maxLen at hl1 hl2
  rw [List.length_map, List.length_map]
  by_cases hlen : xs.length = ys.length
  · have he : ((xs.length : Int) != (ys.length : Int)) = false := by simp [hlen]
    have HL : Hid (xs.length = ys.length) := hlen
    clear hlen
    refine callsIn_of_wp Tryd.func12 rfl trivial ?_
    simp only [Tryd.ntmps12, List.size_toArray, List.length_cons, List.length_nil, Nat.reduceAdd, Nat.reduceSub, Array.replicate_succ, Array.replicate_zero, List.push_toArray, List.append_toArray, List.nil_append, List.cons_append]
    gi_wp2
    gi_loopw [5] (fun i wr => ∃ k : Nat, k ≤ xs.length ∧ i = .int .i64 (k : Int) ∧ Hid (xs.take k = ys.take k) ∧ Chg (fun _ => False) w wr) (fun i _ => xs.length - (intOf i).toNat)
    case atStart => exact ⟨0, Nat.zero_le _, rfl, rfl, Chg.refl _ _⟩
    case round =>
      obtain ⟨k, hk, rfl, hT, c⟩ := hrel
      by_cases hlt : k < xs.length
      · have hlt2 : k < ys.length := by rw [← HL.out]; exact hlt
        obtain ⟨b1, o1, rfl, hc1⟩ := hpc k (.int .i64 xs[k]) (by simp [hlt])
        obtain ⟨b2, o2, rfl, hc2⟩ := hqc k (.int .i64 ys[k]) (by simp [hlt2])
        have hw1 : wr.cell? ⟨b1, o1 + k, none⟩ = some (.int .i64 xs[k]) := (World.cell?_of_block (a := ⟨b1, o1 + k, none⟩) (c.block b1 (World.block_lt_of_cell? w _ hc1) (fun h => h))).trans hc1
        have hw2 : wr.cell? ⟨b2, o2 + k, none⟩ = some (.int .i64 ys[k]) := (World.cell?_of_block (a := ⟨b2, o2 + k, none⟩) (c.block b2 (World.block_lt_of_cell? w _ hc2) (fun h => h))).trans hc2
        clear hc1 hc2
        have hmix : Tryd.prog.follows .mixedOrders = true := by kernel_rfl
        by_cases hxy : xs[k] = ys[k]
        · have hb : (xs[k] == ys[k]) = true := by rw [hxy]; simp
          have HT : Hid (xs.take (k + 1) = ys.take (k + 1)) := by
            show _ = _
            rw [List.take_succ_eq_append_getElem hlt, List.take_succ_eq_append_getElem hlt2, hT.out, hxy]
          clear hxy
          generalize xs[k] = x at *
          generalize ys[k] = y at *
          gi_wp2
          gi_big_quiet_th_o (fail)
          gi_wp2
          go_roundw
          case rel => exact ⟨k + 1, hlt, by go_num, HT, drewNC c _⟩
          case measure => simp [intOf]; omega
        · have hb : (xs[k] == ys[k]) = false := by rw [beq_eq_false_iff_ne]; exact hxy
          have HD : Hid (decide (xs = ys) = false) := by
            show _ = _
            rw [decide_eq_false_iff_not]; rintro rfl; exact hxy rfl
          clear hxy
          generalize xs[k] = x at *
          generalize ys[k] = y at *
          gi_wp2
          gi_big_quiet_th_o (fail)
          gi_wp2
          go_ret
          exact ⟨by rw [HD.out]; rfl, drewNC c _⟩
      · obtain rfl : k = xs.length := by omega
        have HD : Hid (decide (xs = ys) = true) := by
          show _ = _
          rw [decide_eq_true_iff]
          have h := hT.out
          rw [List.take_length] at h
          rw [HL.out, List.take_length] at h
          exact h
        clear hT
        gi_wp2
        go_ret
        exact ⟨by rw [HD.out]; rfl, c⟩
  · have he : ((xs.length : Int) != (ys.length : Int)) = true := by simp; omega
    have HD : Hid (decide (xs = ys) = false) := by
      show _ = _
      rw [decide_eq_false_iff_not]; rintro rfl; exact hlen rfl
    clear hlen
    refine callsIn_of_wp Tryd.func12 rfl trivial ?_
    simp only [Tryd.ntmps12, List.size_toArray, List.length_cons, List.length_nil, Nat.reduceAdd, Nat.reduceSub, Array.replicate_succ, Array.replicate_zero, List.push_toArray, List.append_toArray, List.nil_append, List.cons_append]
    gi_wp2
    go_ret
    exact ⟨by rw [HD.out]; rfl, Chg.refl _ _⟩

end Go.Proofs.YtmpgeacfnikbpaaDoor
