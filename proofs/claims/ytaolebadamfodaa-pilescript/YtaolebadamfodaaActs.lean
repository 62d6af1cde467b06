/-
  How a list of acts that came in is read: each is two numbers.
-/
import Derived.Test.YtaolebadamfodaaOpen
import Derived.Test.YtaolebadamfodaaTSl
import Derived.Deep.SlicePairs
namespace Go.Proofs.Ytaolebadamfodaa.T
open Go.ChangeShapes Go.WideShapes Go.ChangeAt Go.RowKit Go.SeqLib Go.Deep

theorem acts_of {H : Type} {enc : TypeId × Value → H} {W : World} {a : Option Addr} {len cap : Nat} {d : DataW H} {ps : List MemPlace} (h : DataW.Trod enc Try.prog W 0 (fun _ => true) true 22 (.slice a len cap) d ps) :
    ∃ zs : List (Int × Int), zs.length = len ∧ SlT W (.slice a len cap) zs := by
  obtain ⟨fuel, hf⟩ := h
  rcases open_slice_pairs Try.underlying22 Try.underlying32 (by kernel_rfl) rfl rfl (by kernel_rfl) (by kernel_rfl) hf with ⟨hcs, _⟩ | ⟨x, l, c, m, k, V0, V1, D0, D1, P0, P1, hcs, _, hl, hm, hmm, _, hall⟩
  · simp [Value.cells] at hcs
    obtain ⟨rfl, rfl, rfl⟩ := hcs
    exact ⟨[], rfl, SlT.nil _⟩
  · simp [Value.cells] at hcs
    obtain ⟨rfl, rfl, rfl⟩ := hcs
    simp only [if_true] at hmm
    subst hmm
    have hint : ∀ i, i < m → ∃ z1 z2, V0 i = .int .i64 z1 ∧ V1 i = .int .i64 z2 := fun i hi => by
      obtain ⟨z1, h1, _, _⟩ := DataW.trod_int Try.underlying3 (hall i hi).2.2.1
      obtain ⟨z2, h2, _, _⟩ := DataW.trod_int Try.underlying3 (hall i hi).2.2.2
      simp only [List.cons.injEq, and_true] at h1 h2
      exact ⟨z1, z2, h1, h2⟩
    refine ⟨(List.range len).map fun i => (intOf (V0 i), intOf (V1 i)), by simp, some x, m, by simp, by simpa using hl, hm, ?_⟩
    intro i y hy
    rw [List.getElem?_map] at hy
    by_cases hi : i < len
    · rw [List.getElem?_range hi] at hy
      cases hy
      have him : i < m := by omega
      obtain ⟨z1, z2, e1, e2⟩ := hint i him
      have hc := hall i him
      obtain ⟨b, off, spot⟩ := x
      have hspot : spot = none := by simpa [Addr.add] using World.cell?_spot (hall 0 (by omega)).1
      subst hspot
      refine ⟨b, off, rfl, ?_, ?_⟩
      · have := hc.1; rw [add_plain, e1] at this; show W.cell? _ = some (.int .i64 (intOf (V0 i))); rw [e1]; exact this
      · have := hc.2.1; rw [add_plain, e2] at this; show W.cell? _ = some (.int .i64 (intOf (V1 i))); rw [e2]; exact this
    · rw [List.getElem?_eq_none (by simpa using hi)] at hy
      cases hy
end Go.Proofs.Ytaolebadamfodaa.T
