/-
  Proved: cortegelaw2.PileSorts answers true for every list of numbers, and its argument reads afterwards as it read before. Conditions: none beyond the given row's own.
-/
import Derived.Test.YtaolebadamfodaaRows
import Derived.Test.YtaolebadamfodaaSortsW
import Derived.Test.YtaolebadamfodaaOpen
namespace Go.Proofs.Ytaolebadamfodaa
open Go.ChangeShapes Go.WideShapes Go.ChangeAt Go.RowKit Go.SeqLib
set_option linter.unusedVariables false

theorem sorts_walk (a0 : Option Addr) (len0 cap0 : Nat) (z0 : List Int) (w : World) (w0 : IsRow w a0 len0 cap0 z0) :
    Calls Try.prog 4 #[.slice a0 len0 cap0] w fun e w' => e = .returned (.bool true) ∧ Below w.heap.size w w' := by
  refine (callsIn_wide (n := 0)).1 ?_
  by_cases h : 100 < len0
  · refine (sorts_long a0 len0 cap0 h  w).mono ?_
    rintro e w' ⟨rfl, c⟩
    exact ⟨rfl, c.belowNo⟩
  · have hs0 := w0.slI
    have hl0 := w0.len
    generalize z0.take len0 = zs0 at hs0 hl0
    subst hl0
    refine (sorts_in a0 cap0 zs0 (by omega)  w hs0).mono ?_
    rintro e w' ⟨rfl, c⟩
    exact ⟨rfl, c.belowNo⟩

set_option maxRecDepth 100000 in
theorem sorts_lifted (os : Os) (started : os.Started) (H : Type) (enc : TypeId × Value → H) :
    ReturnsInHanded {} Try.checked os 4 .any (Rows.pileSortsSpec.pre6 enc Try.prog Try.f4 Rows.pileSortsRow.domain false) (Rows.pileSortsSpec.post enc Try.prog Try.f4 false true false false) := by
  refine returnsInHanded_of_change (C := Try.checked) own started (by kernel_rfl) Try.func4
    (ChangeSpec.witness6 (enc := enc) (C := Try.checked) false ⟨#[], #[.slice none 0 0], []⟩ 8 (by kernel_rfl) (by kernel_rfl) (by kernel_rfl) (by kernel_rfl)) ?_
  intro W base args ds gs before hval0 hW hcnd _
  have hval : ∀ (j : Nat) t v, Try.f4.params[j]? = some t → args[j]? = some v → Value.okWide Try.prog W .any base t v := hval0
  have hW' := hW
  obtain ⟨p, q, hA0, hV, rfl, hfz, hnd⟩ := hW
  have hA : DataW.TrodAll enc Try.prog W 0 (fun _ => true) true Try.f4.params.toList args.toList ds p := hA0
  rw [Try.params4] at hA hval
  obtain ⟨v0, vs0, d0, ds0, p0, q0, hargs, rfl, rfl, h0, r0⟩ := trodAll_cons hA
  obtain ⟨rfl, rfl, rfl⟩ := trodAll_nil r0
  obtain rfl : args = #[v0] := by cases args; simp_all
  obtain ⟨rfl, rfl⟩ := trodVars_none hV
  obtain ⟨a0, len0, cap0, rfl⟩ := okWide_slice Try.underlying44 (hval 0 44 v0 rfl rfl)
  have lt0 : ∀ x ∈ p0, x.block < W.heap.size := by obtain ⟨m, hm⟩ := h0; exact DataW.trod_lt m _ _ _ hm
  obtain ⟨z0, w0⟩ := isRow_of h0
  clear hA0 hval0
  refine (sorts_walk a0 len0 cap0 z0 W w0).mono fun e W' ⟨he, bel⟩ => ?_
  subst he
  exact ⟨_, rfl, _, _, _, [], _, [], hW', trodAll_mk1 (shut_bool Try.underlying4 _), (trodAll_cons_mk (Below.trod laidOut (by kernel_rfl) (of_decide_eq_true (by kernel_rfl)) h0 bel lt0) trodAll_mk0), rfl, bel.frame _, fun h => by cases h⟩

theorem sorts_over : Rows.pileSortsRow.holds Try.pinned (OpenSpec.ofChange Rows.pileSortsSpec) :=
  OpenClaim.holds_of_wide 4 Try.f4 rfl rfl rfl rfl rfl rfl rfl ⟨rfl, rfl, rfl, rfl, rfl⟩ rfl rfl rfl rfl rfl (by kernel_rfl) Try.func4 (by kernel_rfl)
    (of_decide_eq_true (by kernel_rfl)) (by unfold Func.isWrapper; first | (rw [if_pos (by decide +kernel)]; kernel_rfl) | (rw [if_neg (by decide +kernel)]; exact ⟨rfl, rfl⟩))
    (fun os started H enc _ => sorts_lifted os started H enc)

/-- THE STATEMENT. -/
theorem sorts_holds : Rows.PileSortsSaid := sorts_over
#print axioms sorts_holds
end Go.Proofs.Ytaolebadamfodaa
