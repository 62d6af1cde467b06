/-
  diff's own fits; slices.EqualFunc by like, at texts; how slices that read are cut.
-/
import Derived.Test.YtfpceedjkmkidaaDFits
import Derived.Test.YtfpceedjkmkidaaDLikeI
import Derived.Test.YtfpceedjkmkidaaAppTI
namespace Go.Proofs.Ytfpceedjkmkidaa.I
open Go.RowKit Go.Shelf Go.SeqLib Go.DiffLib Go.BigFrame
attribute [local go_sem] Oper.semAt_some

set_option maxHeartbeats 1000000 in
theorem equalF_in (v u : Value) (xs ys : List Int) (w : World) (hv : SlV w v (xs.map (Value.int .i64))) (hu : SlV w u (ys.map (Value.int .i64))) (hx : xs.length ≤ 1000) (hy : ys.length = xs.length) :
    CallsIn Fence.wide 0 Try.prog 57 #[v, u, .func (.func 52) #[] #[]] w fun e w' => e = .returned (.bool (decide (xs = ys))) ∧ w' = w := by
  obtain ⟨p, c1, rfl, hp1, hp2, hpc⟩ := hv
  obtain ⟨q, c2, rfl, hq1, hq2, hqc⟩ := hu
  rw [List.length_map] at hp1 hq1
  rw [List.length_map, List.length_map, hy]
  obtain ⟨n, HN⟩ : ∃ n, Hid (xs.length = n) := ⟨_, rfl⟩
  have HY : Hid (ys.length = n) := hy.trans HN.out
  rw [HN.out] at hx ⊢
  clear hy hp1 hq1
  refine callsIn_of_wp Try.func57 rfl trivial ?_
  simp only [Try.ntmps57, List.size_toArray, List.length_cons, List.length_nil, Nat.reduceAdd, Nat.reduceSub, Array.replicate_succ, Array.replicate_zero, List.push_toArray, List.append_toArray, List.nil_append, List.cons_append]
  gi_wp2
  gi_loopw [17] (fun i wr => ∃ k : Nat, k ≤ n ∧ i = .int .i64 (k : Int) ∧ Hid (xs.take k = ys.take k) ∧ wr = w) (fun i _ => n - (intOf i).toNat)
  case atStart => exact ⟨0, Nat.zero_le _, rfl, rfl, rfl⟩
  case round =>
    obtain ⟨k, hk, rfl, HT, rfl⟩ := hrel
    by_cases hlt : k < n
    · have hlt' : (k : Int) < (n : Int) := by omega
      have hk1 : k < xs.length := by rw [HN.out]; exact hlt
      have hk2 : k < ys.length := by rw [HY.out]; exact hlt
      obtain ⟨b1, o1, rfl, hw1⟩ := hpc k (.int .i64 xs[k]) (by simp [hk1])
      obtain ⟨b2, o2, rfl, hw2⟩ := hqc k (.int .i64 ys[k]) (by simp [hk2])
      have hlk := like_in xs[k] ys[k]
      by_cases hxy : xs[k] = ys[k]
      · have HT2 : Hid (xs.take (k + 1) = ys.take (k + 1)) := by
          show _ = _
          rw [List.take_succ_eq_append_getElem hk1, List.take_succ_eq_append_getElem hk2, HT.out, hxy]
        rw [decide_eq_true hxy] at hlk
        clear hxy
        generalize xs[k] = x at *
        generalize ys[k] = y at *
        gi_wp2_with fail
        refine ⟨trivial, rfl, (hlk _).mono ?_⟩
        rintro e w1 ⟨rfl, rfl⟩
        gi_wp2
        go_roundw
        case rel => exact ⟨k + 1, hlt, by go_num, HT2, trivial⟩
        case measure => simp [intOf]; omega
      · have HD : Hid (decide (xs = ys) = false) := by
          show _ = _
          rw [decide_eq_false_iff_not]; rintro rfl; exact hxy rfl
        rw [decide_eq_false hxy] at hlk
        clear hxy
        generalize xs[k] = x at *
        generalize ys[k] = y at *
        gi_wp2_with fail
        refine ⟨trivial, rfl, (hlk _).mono ?_⟩
        rintro e w1 ⟨rfl, rfl⟩
        gi_wp2
        go_ret
        exact ⟨by rw [HD.out]; rfl, rfl⟩
    · obtain rfl : k = n := by omega
      have hlt' : ¬ (k : Int) < (k : Int) := by omega
      have HD : Hid (decide (xs = ys) = true) := by
        show _ = _
        rw [decide_eq_true_iff]
        have h := HT.out
        rw [List.take_of_length_le (by rw [HN.out]; exact Nat.le_refl _), List.take_of_length_le (by rw [HY.out]; exact Nat.le_refl _)] at h
        exact h
      gi_wp2
      go_ret
      exact ⟨by rw [HD.out]; rfl, rfl⟩

theorem size_string (w : World) : (sizeOf 3).run Try.prog w = .ok 1 w := by
  obtain ⟨i0, hi, _, h2, _⟩ := info_parts info3
  rw [run_sizeOf w hi]
  have : Try.prog.cellsOf 3 = 1 := by kernel_rfl
  rw [this]
section
variable {W : World} {p : Option Addr} {n cap : Nat} {vals : List Value}
theorem elem_texts : Try.prog.elem 37 = 3 := by simp [Program.elem, Try.underlying37]
theorem SlV.high (h : SlV W (.slice p n cap) vals) (hl : vals.length = n) (hi : Nat) (h2 : hi ≤ n) :
    ∃ p' c', SlV W (.slice p' hi c') (vals.take hi) ∧ (∀ k, Value.ownBlock (.slice p' hi c') = some k → Value.ownBlock (.slice p n cap) = some k) ∧ ∀ w, (Instr.sliceAt 37 (.slice p n cap) none (some (.int .i64 (hi : Int))) none).run Try.prog w = .ok (.slice p' hi c') w := by
  have hcap : n ≤ cap := by obtain ⟨p0, cap0, e0, q1, _⟩ := h; cases e0; omega
  obtain ⟨p', c', e, s, o⟩ := SlV.cutCore h hl 0 hi (Nat.zero_le _) h2
  refine ⟨p', c', by simpa using s, o, fun w => ?_⟩
  have ht : Try.prog.underlying 37 = some (.slice (Try.prog.elem 37)) := by rw [elem_texts]; exact Try.underlying37
  rw [run_sliceAt_slice _ _ _ _ _ _ ht, run_slice_h _ _ _ _ _ ht .i64 (hi : Int) (by omega) (by omega), elem_texts, size_string]
  show Result.ok (sliced p 0 hi cap 1) w = _
  rw [e]
  rfl
theorem SlV.low (h : SlV W (.slice p n cap) vals) (hl : vals.length = n) (lo : Nat) (h2 : lo ≤ n) :
    ∃ p' c', SlV W (.slice p' (n - lo) c') (vals.drop lo) ∧ (∀ k, Value.ownBlock (.slice p' (n - lo) c') = some k → Value.ownBlock (.slice p n cap) = some k) ∧ ∀ w, (Instr.sliceAt 37 (.slice p n cap) (some (.int .i64 (lo : Int))) none none).run Try.prog w = .ok (.slice p' (n - lo) c') w := by
  obtain ⟨p', c', e, s, o⟩ := SlV.cutCore h hl lo n h2 (Nat.le_refl _)
  rw [List.take_of_length_le (by omega)] at s
  refine ⟨p', c', s, o, fun w => ?_⟩
  have ht : Try.prog.underlying 37 = some (.slice (Try.prog.elem 37)) := by rw [elem_texts]; exact Try.underlying37
  rw [run_sliceAt_slice _ _ _ _ _ _ ht, run_slice_l _ _ _ _ _ ht .i64 (lo : Int) (by omega) (by omega), elem_texts, size_string]
  show Result.ok (sliced p lo n cap 1) w = _
  rw [e]
theorem SlV.mid (h : SlV W (.slice p n cap) vals) (hl : vals.length = n) (lo hi : Nat) (h1 : lo ≤ hi) (h2 : hi ≤ n) :
    ∃ p' c', SlV W (.slice p' (hi - lo) c') ((vals.take hi).drop lo) ∧ (∀ k, Value.ownBlock (.slice p' (hi - lo) c') = some k → Value.ownBlock (.slice p n cap) = some k) ∧ ∀ w, (Instr.sliceAt 37 (.slice p n cap) (some (.int .i64 (lo : Int))) (some (.int .i64 (hi : Int))) none).run Try.prog w = .ok (.slice p' (hi - lo) c') w := by
  have hcap : n ≤ cap := by obtain ⟨p0, cap0, e0, q1, _⟩ := h; cases e0; omega
  obtain ⟨p', c', e, s, o⟩ := SlV.cutCore h hl lo hi h1 h2
  refine ⟨p', c', s, o, fun w => ?_⟩
  have ht : Try.prog.underlying 37 = some (.slice (Try.prog.elem 37)) := by rw [elem_texts]; exact Try.underlying37
  rw [run_sliceAt_slice _ _ _ _ _ _ ht, run_slice_lh _ _ _ _ _ ht .i64 .i64 (lo : Int) (hi : Int) (by omega) (by omega) (by omega), elem_texts, size_string]
  show Result.ok (sliced p lo hi cap 1) w = _
  rw [e]
end

end Go.Proofs.Ytfpceedjkmkidaa.I
