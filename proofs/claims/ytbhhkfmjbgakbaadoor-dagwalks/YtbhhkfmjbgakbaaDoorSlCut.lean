/-
  How slices of texts that read are cut.
-/
import Derived.Test.YtbhhkfmjbgakbaaDoorDWide
import Derived.Test.YtbhhkfmjbgakbaaDoorDTab
import Derived.Test.YtbhhkfmjbgakbaaDoorAppT
namespace Go.Proofs.YtbhhkfmjbgakbaaDoor
open Go.RowKit Go.Shelf Go.SeqLib Go.DiffLib Go.BigFrame
attribute [local go_sem] Oper.semAt_some

/-- A slice that reads, cut. -/
theorem SlV.cutCore {W : World} {p : Option Addr} {n cap : Nat} {vals : List Value} (h : SlV W (.slice p n cap) vals) (hl : vals.length = n) (lo hi : Nat) (h1 : lo ≤ hi) (h2 : hi ≤ n) :
    ∃ p' c', sliced p lo hi cap 1 = .slice p' (hi - lo) c' ∧ SlV W (.slice p' (hi - lo) c') ((vals.take hi).drop lo) ∧ (∀ k, Value.ownBlock (.slice p' (hi - lo) c') = some k → Value.ownBlock (.slice p n cap) = some k) := by
  obtain ⟨p0, cap0, e0, q1, q2, hc⟩ := h
  rw [Value.slice.injEq] at e0
  obtain ⟨rfl, _, rfl⟩ := e0
  have hlen : ((vals.take hi).drop lo).length = hi - lo := by rw [List.length_drop, List.length_take]; omega
  refine ⟨_, _, rfl, ⟨_, _, by rw [hlen], by rw [hlen]; omega, by omega, fun i x hi' => ?_⟩, fun k hk => ?_⟩
  · rw [List.getElem?_drop, List.getElem?_take] at hi'
    split at hi'
    · obtain ⟨b, off, rfl, hcell⟩ := hc _ _ hi'
      have hne : ¬ cap = lo := by omega
      rw [if_neg hne]
      have ea : (⟨b, off, none⟩ : Addr).add (lo * 1) = ⟨b, off + lo, none⟩ := by unfold Addr.add; split <;> simp_all
      refine ⟨b, off + lo, by rw [Option.map_some, ea], ?_⟩
      rw [Nat.add_assoc]
      exact hcell
    · cases hi'
  · cases p with
    | none =>
      by_cases e : cap = lo
      · rw [if_pos e] at hk; cases hk
      · rw [if_neg e] at hk; cases hk
    | some ad =>
      by_cases e : cap = lo
      · rw [if_pos e] at hk; exact hk
      · rw [if_neg e] at hk
        have : (ad.add (lo * 1)).block = ad.block := by unfold Addr.add; split <;> rfl
        simp only [Option.map_some, Value.ownBlock, this] at hk
        exact hk
theorem size_string (w : World) : (sizeOf 9).run Tryd.prog w = .ok 1 w := by
  obtain ⟨i0, hi, _, h2, _⟩ := info_parts info9
  rw [run_sizeOf w hi]
  have : Tryd.prog.cellsOf 9 = 1 := by kernel_rfl
  rw [this]
section
variable {W : World} {p : Option Addr} {n cap : Nat} {vals : List Value}
theorem elem_texts : Tryd.prog.elem 97 = 9 := by simp [Program.elem, Tryd.underlying97]
theorem SlV.high (h : SlV W (.slice p n cap) vals) (hl : vals.length = n) (hi : Nat) (h2 : hi ≤ n) :
    ∃ p' c', SlV W (.slice p' hi c') (vals.take hi) ∧ (∀ k, Value.ownBlock (.slice p' hi c') = some k → Value.ownBlock (.slice p n cap) = some k) ∧ ∀ w, (Instr.sliceAt 97 (.slice p n cap) none (some (.int .i64 (hi : Int))) none).run Tryd.prog w = .ok (.slice p' hi c') w := by
  have hcap : n ≤ cap := by obtain ⟨p0, cap0, e0, q1, _⟩ := h; cases e0; omega
  obtain ⟨p', c', e, s, o⟩ := h.cutCore hl 0 hi (Nat.zero_le _) h2
  refine ⟨p', c', by simpa using s, o, fun w => ?_⟩
  have ht : Tryd.prog.underlying 97 = some (.slice (Tryd.prog.elem 97)) := by rw [elem_texts]; exact Tryd.underlying97
  rw [run_sliceAt_slice _ _ _ _ _ _ ht, run_slice_h _ _ _ _ _ ht .i64 (hi : Int) (by omega) (by omega), elem_texts, size_string]
  show Result.ok (sliced p 0 hi cap 1) w = _
  rw [e]
  rfl
theorem SlV.low (h : SlV W (.slice p n cap) vals) (hl : vals.length = n) (lo : Nat) (h2 : lo ≤ n) :
    ∃ p' c', SlV W (.slice p' (n - lo) c') (vals.drop lo) ∧ (∀ k, Value.ownBlock (.slice p' (n - lo) c') = some k → Value.ownBlock (.slice p n cap) = some k) ∧ ∀ w, (Instr.sliceAt 97 (.slice p n cap) (some (.int .i64 (lo : Int))) none none).run Tryd.prog w = .ok (.slice p' (n - lo) c') w := by
  obtain ⟨p', c', e, s, o⟩ := h.cutCore hl lo n h2 (Nat.le_refl _)
  rw [List.take_of_length_le (by omega)] at s
  refine ⟨p', c', s, o, fun w => ?_⟩
  have ht : Tryd.prog.underlying 97 = some (.slice (Tryd.prog.elem 97)) := by rw [elem_texts]; exact Tryd.underlying97
  rw [run_sliceAt_slice _ _ _ _ _ _ ht, run_slice_l _ _ _ _ _ ht .i64 (lo : Int) (by omega) (by omega), elem_texts, size_string]
  show Result.ok (sliced p lo n cap 1) w = _
  rw [e]
theorem SlV.mid (h : SlV W (.slice p n cap) vals) (hl : vals.length = n) (lo hi : Nat) (h1 : lo ≤ hi) (h2 : hi ≤ n) :
    ∃ p' c', SlV W (.slice p' (hi - lo) c') ((vals.take hi).drop lo) ∧ (∀ k, Value.ownBlock (.slice p' (hi - lo) c') = some k → Value.ownBlock (.slice p n cap) = some k) ∧ ∀ w, (Instr.sliceAt 97 (.slice p n cap) (some (.int .i64 (lo : Int))) (some (.int .i64 (hi : Int))) none).run Tryd.prog w = .ok (.slice p' (hi - lo) c') w := by
  have hcap : n ≤ cap := by obtain ⟨p0, cap0, e0, q1, _⟩ := h; cases e0; omega
  obtain ⟨p', c', e, s, o⟩ := h.cutCore hl lo hi h1 h2
  refine ⟨p', c', s, o, fun w => ?_⟩
  have ht : Tryd.prog.underlying 97 = some (.slice (Tryd.prog.elem 97)) := by rw [elem_texts]; exact Tryd.underlying97
  rw [run_sliceAt_slice _ _ _ _ _ _ ht, run_slice_lh _ _ _ _ _ ht .i64 .i64 (lo : Int) (hi : Int) (by omega) (by omega) (by omega), elem_texts, size_string]
  show Result.ok (sliced p lo hi cap 1) w = _
  rw [e]
end

end Go.Proofs.YtbhhkfmjbgakbaaDoor
