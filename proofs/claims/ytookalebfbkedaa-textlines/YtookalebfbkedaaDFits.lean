/-
  diff's own fits; slices.EqualFunc by like, at texts; how slices that read are cut.
-/
import Derived.Test.YtookalebfbkedaaDLike
import Derived.Test.YtookalebfbkedaaDWide
import Derived.Test.YtookalebfbkedaaDTab
import Derived.Test.YtookalebfbkedaaAppT
namespace Go.SeqLib
open Go
/-- A statement that changes nothing, in whatever order, where what is called may lay blocks of its own. -/
theorem region_quietC {n : Nat} {P : Program} {id : Nat} {Q : Exit → Act → World → Prop} {a : Act} {w : World} {l : List Oper} (hm : P.follows .mixedOrders = true) (hB : Region.lexB .any l.toArray = true)
    (h : wpQuietIn Fence.wide n P l.toArray (fun w' => ∃ c : After w, w' = c.val) (fun a' => ∀ w', (∃ c : After w, w' = c.val) → Q .normal a' w') l a) : (Code.region id l.toArray true).wpIn Fence.wide n P Q a w :=
  wpIn_region_quiet (C := fun w' => ∃ c : After w, w' = c.val) rfl hm hB ⟨⟨_, (Chg.refl _ w).drew⟩, rfl⟩ (by simpa using h)
/-- The same by the check of what each operation sees: cheaper where there are many. -/
theorem region_quiet_sees {n : Nat} {P : Program} {id : Nat} {Q : Exit → Act → World → Prop} {a : Act} {w : World} {l : List Oper} (hm : P.follows .mixedOrders = true) (hs : seesB l.toArray = true)
    (h : wpQuietIn Fence.wide n P l.toArray (fun w' => ∃ n, w' = w.drewN n) (fun a' => ∀ w', (∃ n, w' = w.drewN n) → Q .normal a' w') l a) : (Code.region id l.toArray true).wpIn Fence.wide n P Q a w := by
  refine wpIn_region_any hm ?_
  have h0 : hush [] l = l := by cases l <;> rfl
  have := region_loudA (l := l) (loud := []) (Q := Q) (a := a) (w := w.drew) (C := fun w' => ∃ n, w' = w.drewN n) (D := fun _ _ w' => ∃ n, w' = w.drewN n) hs ⟨1, rfl⟩ (fun i o v _ hv => by simp at hv) (fun _ => ⟨1, rfl⟩) (fun _ _ _ _ _ _ h => h) (fun _ _ _ _ _ _ _ _ _ _ h _ => h)
    (by
      rw [h0]
      refine wpQuietIn_mono ?_ _ _ h
      intro a' ha
      exact ⟨fun i o v listed w1 _ hv => by simp at hv, fun _ w' hw _ => ha w' hw⟩)
  simpa using this
end Go.SeqLib

namespace Go.Proofs.Ytookalebfbkedaa
open Go.RowKit Go.Shelf Go.SeqLib Go.DiffLib Go.BigFrame
attribute [local go_sem] Oper.semAt_some

/-- May the step be done where so many are left? -/
def fitsB (x : Int × Int × Int) (la lb : Nat) : Bool := decide (0 ≤ x.1 ∧ 0 ≤ x.2.1 ∧ 0 ≤ x.2.2 ∧ x.1 ≤ la ∧ x.1 ≤ lb ∧ x.2.1 ≤ (la : Int) - x.1 ∧ x.2.2 ≤ (lb : Int) - x.1)

set_option maxHeartbeats 1000000 in
theorem fits_in (s o n : Int) (la lb : Nat) (hla : la ≤ 1000) (hlb : lb ≤ 1000) (w : World) :
    CallsIn Fence.wide 0 Try.prog 59 #[.agg #[.int .i64 s, .int .i64 o, .int .i64 n], .int .i64 (la : Int), .int .i64 (lb : Int)] w fun e w' => e = .returned (.bool (fitsB (s, o, n) la lb)) ∧ Chg No w w' := by
  refine callsIn_of_wp Try.func59 rfl trivial ?_
  simp only [Try.ntmps59, List.size_toArray, List.length_cons, List.length_nil, Nat.reduceAdd, Nat.reduceSub, Array.replicate_succ, Array.replicate_zero, List.push_toArray, List.append_toArray, List.nil_append, List.cons_append]
  have hF : ∀ {b : Bool}, (¬ (0 ≤ s ∧ 0 ≤ o ∧ 0 ≤ n ∧ s ≤ la ∧ s ≤ lb ∧ o ≤ (la : Int) - s ∧ n ≤ (lb : Int) - s)) → Hid (fitsB (s, o, n) la lb = false) := fun h => decide_eq_false h
  by_cases h1 : s < 0
  · have HF := hF (b := true) (by omega)
    gi_wp2
    go_ret
    exact ⟨by rw [HF.out]; rfl, (Chg.refl _ w).alloc _⟩
  by_cases h2 : o < 0
  · have HF := hF (b := true) (by omega)
    gi_wp2
    go_ret
    exact ⟨by rw [HF.out]; rfl, (Chg.refl _ w).alloc _⟩
  by_cases h3 : n < 0
  · have HF := hF (b := true) (by omega)
    gi_wp2
    go_ret
    exact ⟨by rw [HF.out]; rfl, (Chg.refl _ w).alloc _⟩
  obtain ⟨s', rfl⟩ := Int.eq_ofNat_of_zero_le (show 0 ≤ s by omega)
  by_cases h4 : s' ≤ la ∧ s' ≤ lb
  · have hmin : (s' : Int) ≤ min (la : Int) (lb : Int) := by omega
    by_cases h5 : o ≤ (la : Int) - (s' : Int)
    · by_cases h6 : n ≤ (lb : Int) - (s' : Int)
      · have HF : Hid (fitsB (s', o, n) la lb = true) := by
          refine decide_eq_true ?_
          simp only
          omega
        gi_wp2
        all_goals (go_ret; exact ⟨by rw [HF.out]; rfl, (Chg.refl _ w).alloc _⟩)
      · have HF := hF (b := true) (by omega)
        gi_wp2
        all_goals (go_ret; exact ⟨by rw [HF.out]; rfl, (Chg.refl _ w).alloc _⟩)
    · have HF := hF (b := true) (by omega)
      gi_wp2
      all_goals (go_ret; exact ⟨by rw [HF.out]; rfl, (Chg.refl _ w).alloc _⟩)
  · have HF := hF (b := true) (by omega)
    have hmin : ¬ (s' : Int) ≤ min (la : Int) (lb : Int) := by omega
    gi_wp2
    all_goals (go_ret; exact ⟨by rw [HF.out]; rfl, (Chg.refl _ w).alloc _⟩)

set_option maxHeartbeats 1000000 in
theorem equalF_in (v u : Value) (xs ys : List ByteArray) (w : World) (hv : SlV w v (xs.map Value.string)) (hu : SlV w u (ys.map Value.string)) (hx : xs.length ≤ 1000) (hy : ys.length = xs.length) :
    CallsIn Fence.wide 0 Try.prog 60 #[v, u, .func (.func 55) #[] #[]] w fun e w' => e = .returned (.bool (decide (xs = ys))) ∧ w' = w := by
  obtain ⟨p, c1, rfl, hp1, hp2, hpc⟩ := hv
  obtain ⟨q, c2, rfl, hq1, hq2, hqc⟩ := hu
  rw [List.length_map] at hp1 hq1
  rw [List.length_map, List.length_map, hy]
  obtain ⟨n, HN⟩ : ∃ n, Hid (xs.length = n) := ⟨_, rfl⟩
  have HY : Hid (ys.length = n) := hy.trans HN.out
  rw [HN.out] at hx ⊢
  clear hy hp1 hq1
  refine callsIn_of_wp Try.func60 rfl trivial ?_
  simp only [Try.ntmps60, List.size_toArray, List.length_cons, List.length_nil, Nat.reduceAdd, Nat.reduceSub, Array.replicate_succ, Array.replicate_zero, List.push_toArray, List.append_toArray, List.nil_append, List.cons_append]
  gi_wp2
  gi_loopw [17] (fun i wr => ∃ k : Nat, k ≤ n ∧ i = .int .i64 (k : Int) ∧ Hid (xs.take k = ys.take k) ∧ wr = w) (fun i _ => n - (intOf i).toNat)
  case atStart => exact ⟨0, Nat.zero_le _, rfl, rfl, rfl⟩
  case round =>
    obtain ⟨k, hk, rfl, HT, rfl⟩ := hrel
    by_cases hlt : k < n
    · have hlt' : (k : Int) < (n : Int) := by omega
      have hk1 : k < xs.length := by rw [HN.out]; exact hlt
      have hk2 : k < ys.length := by rw [HY.out]; exact hlt
      obtain ⟨b1, o1, rfl, hw1⟩ := hpc k (.string xs[k]) (by simp [hk1])
      obtain ⟨b2, o2, rfl, hw2⟩ := hqc k (.string ys[k]) (by simp [hk2])
      have hlk := like_in xs[k] ys[k]
      by_cases hxy : xs[k] = ys[k]
      · have HT2 : Hid (xs.take (k + 1) = ys.take (k + 1)) := by
          show _ = _
          rw [List.take_succ_eq_append_getElem hk1, List.take_succ_eq_append_getElem hk2, HT.out, hxy]
        rw [decide_eq_true hxy] at hlk
        clear hxy
        generalize xs[k] = x at *
        generalize ys[k] = y at *
        gi_wp2_with fail
        refine ⟨trivial, rfl, (hlk _).mono ?_⟩
        rintro e w1 ⟨rfl, rfl⟩
        gi_wp2
        go_roundw
        case rel => exact ⟨k + 1, hlt, by go_num, HT2, trivial⟩
        case measure => simp [intOf]; omega
      · have HD : Hid (decide (xs = ys) = false) := by
          show _ = _
          rw [decide_eq_false_iff_not]; rintro rfl; exact hxy rfl
        rw [decide_eq_false hxy] at hlk
        clear hxy
        generalize xs[k] = x at *
        generalize ys[k] = y at *
        gi_wp2_with fail
        refine ⟨trivial, rfl, (hlk _).mono ?_⟩
        rintro e w1 ⟨rfl, rfl⟩
        gi_wp2
        go_ret
        exact ⟨by rw [HD.out]; rfl, rfl⟩
    · obtain rfl : k = n := by omega
      have hlt' : ¬ (k : Int) < (k : Int) := by omega
      have HD : Hid (decide (xs = ys) = true) := by
        show _ = _
        rw [decide_eq_true_iff]
        have h := HT.out
        rw [List.take_of_length_le (by rw [HN.out]; exact Nat.le_refl _), List.take_of_length_le (by rw [HY.out]; exact Nat.le_refl _)] at h
        exact h
      gi_wp2
      go_ret
      exact ⟨by rw [HD.out]; rfl, rfl⟩

/-- A slice that reads, cut. -/
theorem SlV.cutCore {W : World} {p : Option Addr} {n cap : Nat} {vals : List Value} (h : SlV W (.slice p n cap) vals) (hl : vals.length = n) (lo hi : Nat) (h1 : lo ≤ hi) (h2 : hi ≤ n) :
    ∃ p' c', sliced p lo hi cap 1 = .slice p' (hi - lo) c' ∧ SlV W (.slice p' (hi - lo) c') ((vals.take hi).drop lo) ∧ (∀ k, Value.ownBlock (.slice p' (hi - lo) c') = some k → Value.ownBlock (.slice p n cap) = some k) := by
  obtain ⟨p0, cap0, e0, q1, q2, hc⟩ := h
  rw [Value.slice.injEq] at e0
  obtain ⟨rfl, _, rfl⟩ := e0
  have hlen : ((vals.take hi).drop lo).length = hi - lo := by rw [List.length_drop, List.length_take]; omega
  refine ⟨_, _, rfl, ⟨_, _, by rw [hlen], by rw [hlen]; omega, by omega, fun i x hi' => ?_⟩, fun k hk => ?_⟩
  · rw [List.getElem?_drop, List.getElem?_take] at hi'
    split at hi'
    · obtain ⟨b, off, rfl, hcell⟩ := hc _ _ hi'
      have hne : ¬ cap = lo := by omega
      rw [if_neg hne]
      have ea : (⟨b, off, none⟩ : Addr).add (lo * 1) = ⟨b, off + lo, none⟩ := by unfold Addr.add; split <;> simp_all
      refine ⟨b, off + lo, by rw [Option.map_some, ea], ?_⟩
      rw [Nat.add_assoc]
      exact hcell
    · cases hi'
  · cases p with
    | none =>
      by_cases e : cap = lo
      · rw [if_pos e] at hk; cases hk
      · rw [if_neg e] at hk; cases hk
    | some ad =>
      by_cases e : cap = lo
      · rw [if_pos e] at hk; exact hk
      · rw [if_neg e] at hk
        have : (ad.add (lo * 1)).block = ad.block := by unfold Addr.add; split <;> rfl
        simp only [Option.map_some, Value.ownBlock, this] at hk
        exact hk
theorem size_string (w : World) : (sizeOf 9).run Try.prog w = .ok 1 w := by
  obtain ⟨i0, hi, _, h2, _⟩ := info_parts info9
  rw [run_sizeOf w hi]
  have : Try.prog.cellsOf 9 = 1 := by kernel_rfl
  rw [this]
section
variable {W : World} {p : Option Addr} {n cap : Nat} {vals : List Value}
theorem elem_texts : Try.prog.elem 29 = 9 := by simp [Program.elem, Try.underlying29]
theorem SlV.high (h : SlV W (.slice p n cap) vals) (hl : vals.length = n) (hi : Nat) (h2 : hi ≤ n) :
    ∃ p' c', SlV W (.slice p' hi c') (vals.take hi) ∧ (∀ k, Value.ownBlock (.slice p' hi c') = some k → Value.ownBlock (.slice p n cap) = some k) ∧ ∀ w, (Instr.sliceAt 29 (.slice p n cap) none (some (.int .i64 (hi : Int))) none).run Try.prog w = .ok (.slice p' hi c') w := by
  have hcap : n ≤ cap := by obtain ⟨p0, cap0, e0, q1, _⟩ := h; cases e0; omega
  obtain ⟨p', c', e, s, o⟩ := h.cutCore hl 0 hi (Nat.zero_le _) h2
  refine ⟨p', c', by simpa using s, o, fun w => ?_⟩
  have ht : Try.prog.underlying 29 = some (.slice (Try.prog.elem 29)) := by rw [elem_texts]; exact Try.underlying29
  rw [run_sliceAt_slice _ _ _ _ _ _ ht, run_slice_h _ _ _ _ _ ht .i64 (hi : Int) (by omega) (by omega), elem_texts, size_string]
  show Result.ok (sliced p 0 hi cap 1) w = _
  rw [e]
  rfl
theorem SlV.low (h : SlV W (.slice p n cap) vals) (hl : vals.length = n) (lo : Nat) (h2 : lo ≤ n) :
    ∃ p' c', SlV W (.slice p' (n - lo) c') (vals.drop lo) ∧ (∀ k, Value.ownBlock (.slice p' (n - lo) c') = some k → Value.ownBlock (.slice p n cap) = some k) ∧ ∀ w, (Instr.sliceAt 29 (.slice p n cap) (some (.int .i64 (lo : Int))) none none).run Try.prog w = .ok (.slice p' (n - lo) c') w := by
  obtain ⟨p', c', e, s, o⟩ := h.cutCore hl lo n h2 (Nat.le_refl _)
  rw [List.take_of_length_le (by omega)] at s
  refine ⟨p', c', s, o, fun w => ?_⟩
  have ht : Try.prog.underlying 29 = some (.slice (Try.prog.elem 29)) := by rw [elem_texts]; exact Try.underlying29
  rw [run_sliceAt_slice _ _ _ _ _ _ ht, run_slice_l _ _ _ _ _ ht .i64 (lo : Int) (by omega) (by omega), elem_texts, size_string]
  show Result.ok (sliced p lo n cap 1) w = _
  rw [e]
theorem SlV.mid (h : SlV W (.slice p n cap) vals) (hl : vals.length = n) (lo hi : Nat) (h1 : lo ≤ hi) (h2 : hi ≤ n) :
    ∃ p' c', SlV W (.slice p' (hi - lo) c') ((vals.take hi).drop lo) ∧ (∀ k, Value.ownBlock (.slice p' (hi - lo) c') = some k → Value.ownBlock (.slice p n cap) = some k) ∧ ∀ w, (Instr.sliceAt 29 (.slice p n cap) (some (.int .i64 (lo : Int))) (some (.int .i64 (hi : Int))) none).run Try.prog w = .ok (.slice p' (hi - lo) c') w := by
  have hcap : n ≤ cap := by obtain ⟨p0, cap0, e0, q1, _⟩ := h; cases e0; omega
  obtain ⟨p', c', e, s, o⟩ := h.cutCore hl lo hi h1 h2
  refine ⟨p', c', s, o, fun w => ?_⟩
  have ht : Try.prog.underlying 29 = some (.slice (Try.prog.elem 29)) := by rw [elem_texts]; exact Try.underlying29
  rw [run_sliceAt_slice _ _ _ _ _ _ ht, run_slice_lh _ _ _ _ _ ht .i64 .i64 (lo : Int) (hi : Int) (by omega) (by omega) (by omega), elem_texts, size_string]
  show Result.ok (sliced p lo hi cap 1) w = _
  rw [e]
end

end Go.Proofs.Ytookalebfbkedaa
