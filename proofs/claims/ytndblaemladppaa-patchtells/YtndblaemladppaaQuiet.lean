/-
  Statements of open order that change nothing: where what is called may lay blocks of its own; by the check of what each operation sees.
-/
import Derived.Test.YtndblaemladppaaLoud
namespace Go.SeqLib
open Go
/-- A statement that changes nothing, in whatever order, where what is called may lay blocks of its own. -/
theorem region_quietC {n : Nat} {P : Program} {id : Nat} {Q : Exit → Act → World → Prop} {a : Act} {w : World} {l : List Oper} (hm : P.follows .mixedOrders = true) (hB : Region.lexB .any l.toArray = true)
    (h : wpQuietIn Fence.wide n P l.toArray (fun w' => ∃ c : After w, w' = c.val) (fun a' => ∀ w', (∃ c : After w, w' = c.val) → Q .normal a' w') l a) : (Code.region id l.toArray true).wpIn Fence.wide n P Q a w :=
  wpIn_region_quiet (C := fun w' => ∃ c : After w, w' = c.val) rfl hm hB ⟨⟨_, (Chg.refl _ w).drew⟩, rfl⟩ (by simpa using h)
/-- The same by the check of what each operation sees: cheaper where there are many. -/
theorem region_quiet_sees {n : Nat} {P : Program} {id : Nat} {Q : Exit → Act → World → Prop} {a : Act} {w : World} {l : List Oper} (hm : P.follows .mixedOrders = true) (hs : seesB l.toArray = true)
    (h : wpQuietIn Fence.wide n P l.toArray (fun w' => ∃ n, w' = w.drewN n) (fun a' => ∀ w', (∃ n, w' = w.drewN n) → Q .normal a' w') l a) : (Code.region id l.toArray true).wpIn Fence.wide n P Q a w := by
  refine wpIn_region_any hm ?_
  have h0 : hush [] l = l := by cases l <;> rfl
  have := region_loudA (l := l) (loud := []) (Q := Q) (a := a) (w := w.drew) (C := fun w' => ∃ n, w' = w.drewN n) (D := fun _ _ w' => ∃ n, w' = w.drewN n) hs ⟨1, rfl⟩ (fun i o v _ hv => by simp at hv) (fun _ => ⟨1, rfl⟩) (fun _ _ _ _ _ _ h => h) (fun _ _ _ _ _ _ _ _ _ _ h _ => h)
    (by
      rw [h0]
      refine wpQuietIn_mono ?_ _ _ h
      intro a' ha
      exact ⟨fun i o v listed w1 _ hv => by simp at hv, fun _ w' hw _ => ha w' hw⟩)
  simpa using this
end Go.SeqLib
