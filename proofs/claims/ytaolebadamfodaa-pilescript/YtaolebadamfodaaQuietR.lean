/-
  A statement whose order Go leaves open, and that changes nothing, inside a round of a loop over a function.
-/
import Derived.Sort.QuietThIn
import Derived.OwnWalkIn
import Derived.Test.YtaolebadamfodaaSeq
namespace Go.SeqLib
open Go

theorem oper_inRound {n r : Nat} {P : Program} {o : Oper} {a : Act} {w : World} {K : Act → World → Prop} {Q : Exit → Act → World → Prop} (h : ∀ c, o.op ≠ .defer c) (hw : Oper.wpIn Fence.wide n P o a w K Q) : Oper.wpIn (Fence.wide.inRound r) n P o a w K Q := by
  unfold Oper.wpIn at hw ⊢
  rw [Oper.semAt_plain _ _ _ h] at hw ⊢
  exact hw

/-- No operation of it defers a call. -/
def noDefer (ops : Array Oper) : Bool := ops.all fun o => match o.op with
  | .defer _ => false
  | _ => true
theorem noDefer_at {ops : Array Oper} (h : noDefer ops = true) {i : Nat} {o : Oper} (ho : ops[i]? = some o) : ∀ c, o.op ≠ .defer c := by
  obtain ⟨hi, rfl⟩ := Array.getElem?_eq_some_iff.1 ho
  intro c hc
  have := (Array.all_eq_true.1 h) i hi
  rw [hc] at this
  cases this

theorem any_inRound {n r : Nat} {P : Program} {md : Region.Mode} {ops : Array Oper} {Q : Exit → Act → World → Prop} (h : noDefer ops = true) :
    ∀ (fuel : Nat) (listed : Array Bool) (a : Act) (w : World), wpAnyIn Fence.wide n P md ops Q fuel listed a w → wpAnyIn (Fence.wide.inRound r) n P md ops Q fuel listed a w := by
  intro fuel
  induction fuel with
  | zero => intro listed a w hw; exact hw
  | succ fuel ih =>
    intro listed a w hw
    refine ⟨hw.1, fun i hi => ?_⟩
    have h1 := hw.2 i hi
    unfold wpOpIn at h1 ⊢
    cases ho : ops[i]? with
    | none =>
      simp only [ho] at h1 ⊢
      exact ih _ _ _ h1
    | some o =>
      simp only [ho] at h1 ⊢
      by_cases hwant : Region.wanted o (yielded ops a.tmps) = true
      · rw [if_pos hwant] at h1 ⊢
        exact oper_inRound (noDefer_at h ho) (Oper.wpIn_mono (fun a' w' h' => ih _ _ _ h') h1)
      · rw [if_neg hwant] at h1 ⊢
        exact ⟨h1.1, ih _ _ _ h1.2⟩

section
variable {n r : Nat} {P : Program} {C : World → Prop}
theorem region_quietR {ops : Array Oper} {id : Nat} {Q : Exit → Act → World → Prop} {a : Act} {w : World} (hnd : noDefer ops = true) (hm : P.follows .mixedOrders = true) (hB : Region.lexB .any ops = true) (hC : C { w with drawn := w.drawn + 1 })
    (h : wpQuietIn Fence.wide n P ops C (fun a' => ∀ w', C w' → Q .normal a' w') ops.toList a) : (Code.region id ops true).wpIn (Fence.wide.inRound r) n P Q a w := by
  simp only [Region.lexB, Bool.and_eq_true] at hB
  refine wpIn_region_any hm (any_inRound hnd _ _ _ _ (wpAnyIn_of_quiet (F := Fence.wide) (Q := fun a' => ∀ w', C w' → Q .normal a' w') rfl (fun _ w' hw' h => h w' hw') _ _ _ _ hC ?_))
  have := wpAnyQIn_lex (F := Fence.wide) (n := n) (C := C) (md := .any) hB.1 ops.toList 0 (Array.replicate ops.size false) a (by simp) (by simpa using hB.2) h
  simpa using this
theorem region_quietR_lit {id : Nat} {Q : Exit → Act → World → Prop} {a : Act} {w : World} {l : List Oper} (hnd : noDefer l.toArray = true) (hm : P.follows .mixedOrders = true) (hB : Region.lexB .any l.toArray = true)
    (h : wpQuietIn Fence.wide n P l.toArray (fun w' => ∃ n, w' = w.drewN n) (fun a' => ∀ w', (∃ n, w' = w.drewN n) → Q .normal a' w') l a) : (Code.region id l.toArray true).wpIn (Fence.wide.inRound r) n P Q a w :=
  region_quietR (C := fun w' => ∃ n, w' = w.drewN n) hnd hm hB ⟨1, rfl⟩ (by simpa using h)
end

/-- A world in which all that was there in w is as it was. -/
structure After (w : World) where
  val : World
  chg : Chg (fun _ => False) w val
theorem After.any (w : World) : Nonempty (After w) := ⟨⟨w, Chg.refl _ w⟩⟩
theorem After.more {w : World} (a : After w) {v : World} (c : Chg (fun _ => False) a.val v) : ∃ c : After w, v = c.val := ⟨⟨v, a.chg.trans c (Grew.refl _ _)⟩, rfl⟩

/-- The same where what is called may lay blocks of its own: the class is the worlds in which all that was there before is as it was. -/
theorem region_quietC {n : Nat} {P : Program} {id : Nat} {Q : Exit → Act → World → Prop} {a : Act} {w : World} {l : List Oper} (hm : P.follows .mixedOrders = true) (hB : Region.lexB .any l.toArray = true)
    (h : wpQuietIn Fence.wide n P l.toArray (fun w' => ∃ c : After w, w' = c.val) (fun a' => ∀ w', (∃ c : After w, w' = c.val) → Q .normal a' w') l a) : (Code.region id l.toArray true).wpIn Fence.wide n P Q a w :=
  wpIn_region_quiet (C := fun w' => ∃ c : After w, w' = c.val) rfl hm hB ⟨⟨_, (Chg.refl _ w).drew⟩, rfl⟩ (by simpa using h)

/-- What a cell already holds may be written into it: nothing changes. -/
theorem setCell_kept {w : World} {a : Addr} {v : Value} (h : w.cell? a = some v) : w.setCell a v = w := by
  have hh : (w.setCell a v).heap = w.heap := by
    apply Array.ext_getElem?
    intro i
    by_cases hi : i = a.block
    · subst hi
      unfold World.cell? at h
      simp only [World.setCell, Array.getElem?_modify, if_true]
      cases hb : w.heap[a.block]? with
      | none => rfl
      | some o =>
        rw [hb] at h
        cases o with
        | cells c e f =>
          simp only at h
          split at h
          · cases h
          · rename_i hs
            simp only [Option.map_some, hs]
            congr 2
            simp only [Bool.false_eq_true, if_false]
            apply Array.ext_getElem?
            intro j
            by_cases hj : j = a.off
            · subst hj
              rw [h]
              obtain ⟨hl, hg⟩ := Array.getElem?_eq_some_iff.1 h
              simp [hl]
            · rw [Array.getElem?_setIfInBounds_ne (Ne.symm hj)]
        | _ => rfl
    · simp only [World.setCell]; rw [Array.getElem?_modify, if_neg (Ne.symm hi)]
  have : w.setCell a v = { w with heap := (w.setCell a v).heap } := rfl
  rw [this, hh]
end Go.SeqLib
