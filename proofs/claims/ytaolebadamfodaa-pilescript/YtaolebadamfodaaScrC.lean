/-
  A slice of a slice inside a statement whose order is open: its answer by name, so that the walk need not part on where it lies; of things: list[:k] and list[k:].
-/
import Derived.Test.YtaolebadamfodaaScrB
namespace Go.SeqLib
open Go
/-- In every world the cut answers r. -/
def SlcTo (P : Program) (t : TypeId) (v : Value) (lo hi : Option Value) (r : Value) : Prop := ∀ w, (Instr.sliceAt t v lo hi none).run P w = .ok r w
def SlcOk (P : Program) (t : TypeId) (v : Value) (lo hi : Option Value) : Prop := ∃ r, SlcTo P t v lo hi r
def slcV (P : Program) (t : TypeId) (v : Value) (lo hi : Option Value) : Value := match (Instr.sliceAt t v lo hi none).run P default with
  | .ok r _ => r
  | _ => undef
theorem SlcTo.ok {P : Program} {t : TypeId} {v : Value} {lo hi : Option Value} {r : Value} (h : SlcTo P t v lo hi r) : SlcOk P t v lo hi := ⟨r, h⟩
theorem SlcTo.eq {P : Program} {t : TypeId} {v : Value} {lo hi : Option Value} {r : Value} (h : SlcTo P t v lo hi r) : slcV P t v lo hi = r := by
  unfold slcV
  rw [h default]
theorem SlcOk.run {P : Program} {t : TypeId} {v : Value} {lo hi : Option Value} (h : SlcOk P t v lo hi) : SlcTo P t v lo hi (slcV P t v lo hi) := by
  obtain ⟨r, h⟩ := h
  rw [h.eq]
  exact h

theorem wpIn_slice_h {F : Fence} {n : Nat} {P : Program} {dst : Option Tmp} {s x : Operand} {t ty : TypeId} {pos : String} {after : Array Edge} {a : Act} {w : World} {K : Act → World → Prop} {Q : Exit → Act → World → Prop} (h : SlcOk P t (a.eval s) none (some (a.eval x))) :
    Oper.wpIn F n P { dst := dst, op := Op.slice t s none (some x) none, type := ty, pos := pos, after := after, guard := none } a w K Q = K (a.put dst (slcV P t (a.eval s) none (some (a.eval x)))) w := by
  have hrun := h.run w
  unfold Oper.wpIn
  rw [Oper.semAt_plain F _ _ (by intro c hc'; cases hc')]
  simp [Oper.about, execOp, hrun, Result.andThen]
  exact Iff.rfl
theorem wpIn_slice_l {F : Fence} {n : Nat} {P : Program} {dst : Option Tmp} {s x : Operand} {t ty : TypeId} {pos : String} {after : Array Edge} {a : Act} {w : World} {K : Act → World → Prop} {Q : Exit → Act → World → Prop} (h : SlcOk P t (a.eval s) (some (a.eval x)) none) :
    Oper.wpIn F n P { dst := dst, op := Op.slice t s (some x) none none, type := ty, pos := pos, after := after, guard := none } a w K Q = K (a.put dst (slcV P t (a.eval s) (some (a.eval x)) none)) w := by
  have hrun := h.run w
  unfold Oper.wpIn
  rw [Oper.semAt_plain F _ _ (by intro c hc'; cases hc')]
  simp [Oper.about, execOp, hrun, Result.andThen]
  exact Iff.rfl
end Go.SeqLib
namespace Go.Proofs.Ytaolebadamfodaa.T
open Go.RowKit Go.Shelf Go.SeqLib Go.BigFrame Go.PileLib

theorem cutT {W : World} {pv : Option Addr} {cv : Nat} {zs : List (Int × Int)} (h : SlT W (.slice pv zs.length cv) zs) (hf : (pv = none ∧ zs = [] ∧ cv = 0) ∨ ∃ b off, pv = some ⟨b, off, none⟩) (k : Nat) (hk : k ≤ zs.length) :
    ∃ tp tc dp dc, SlcTo Try.prog 29 (.slice pv zs.length cv) none (some (.int .i64 (k : Int))) (.slice tp k tc) ∧ SlT W (.slice tp k tc) (zs.take k) ∧ SlcTo Try.prog 29 (.slice pv zs.length cv) (some (.int .i64 (k : Int))) none (.slice dp (zs.length - k) dc) ∧ SlT W (.slice dp (zs.length - k) dc) (zs.drop k) := by
  have hc : zs.length ≤ cv := by obtain ⟨_, _, e, h1, _⟩ := h; cases e; exact h1
  rcases hf with ⟨rfl, rfl, rfl⟩ | ⟨b, off, rfl⟩
  · obtain rfl : k = 0 := by simpa using hk
    refine ⟨none, 0, none, 0, ?_, SlT.nil _, ?_, SlT.nil _⟩
    · intro w; simp [go_sem]
    · intro w; simp [go_sem]
  · have h1 : (k : Int) ≤ (zs.length : Int) := by omega
    have h2 : (k : Int) ≤ (cv : Int) := by omega
    have h3 := h.take k hk
    by_cases e : cv = k
    · subst e
      refine ⟨_, cv, some ⟨b, off, none⟩, 0, ?_, h3, ?_, ?_⟩
      · intro w; simp [go_sem]
      · intro w; simp [go_sem, h1]
      · rw [show zs.drop cv = [] from List.drop_eq_nil_of_le hc, show zs.length - cv = 0 by omega]
        exact ⟨_, _, rfl, Nat.le_refl _, Nat.zero_le _, fun i x hi => by simp at hi⟩
    · refine ⟨_, cv, some ⟨b, off + k * 2, none⟩, cv - k, ?_, h3, ?_, h.drop k hk⟩
      · intro w; simp [go_sem, h2]
      · intro w; simp [go_sem, h1, e]
end Go.Proofs.Ytaolebadamfodaa.T
