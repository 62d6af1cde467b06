/-
  Statements of open order that change nothing, whose calls lay blocks: what holds of each loud operation's value, from the beginning (ok) and when it has come up (val). No program is named.
-/
import Derived.Test.YtbhhkfmjbgakbaaDoorGLoud
import Derived.Test.YtbhhkfmjbgakbaaDoorGTxt
namespace Go.SeqLib
open Go Go.RowKit

structure KInv (W0 : World) (ok : Nat → Value → Prop) (val : Nat → Value → World → Prop) (d : Nat → Bool) (u : Nat → Value) (W : World) : Prop where
  chg : Chg (fun _ => False) W0 W
  ok : ∀ i, ok i (u i)
  val : ∀ i, d i = true → val i (u i) W
theorem KInv.step {W0 W W' : World} {ok : Nat → Value → Prop} {val : Nat → Value → World → Prop} {d : Nat → Bool} {u : Nat → Value} (h : KInv W0 ok val d u W) (hno : ∀ i v W W', val i v W → Chg (fun _ => False) W W' → val i v W') (k : Nat) (v : Value) (c : Chg (fun _ => False) W W') (h1 : ok k v) (h2 : val k v W') :
    KInv W0 ok val (fun n => if n = k then true else d n) (fun n => if n = k then v else u n) W' := by
  refine ⟨h.chg.trans c (Grew.refl _ _), fun n => ?_, fun n hn => ?_⟩
  · by_cases e : n = k
    · subst e; simpa using h1
    · simp only [if_neg e]; exact h.ok n
  · by_cases e : n = k
    · subst e; simpa using h2
    · simp only [if_neg e] at hn ⊢; exact hno _ _ _ _ (h.val n hn) c
theorem KInv.start {W0 : World} {ok : Nat → Value → Prop} {val : Nat → Value → World → Prop} {u : Nat → Value} (h : ∀ i, ok i (u i)) : KInv W0 ok val (fun _ => false) u W0.drew := ⟨(Chg.refl _ W0).drew, h, fun _ e => by cases e⟩
end Go.SeqLib
