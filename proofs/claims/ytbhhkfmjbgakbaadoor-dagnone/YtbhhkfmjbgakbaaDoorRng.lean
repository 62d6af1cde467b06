/-
  What is told by two values at once, taken apart; statements of open order in a round.
-/
import Derived.Test.YtbhhkfmjbgakbaaDoorBase
import Derived.Test.YtbhhkfmjbgakbaaDoorGLoud
namespace Go.SeqLib
open Go Go.RowKit
/-- The law of statements of open order whose loud operations may be guarded, in a round. -/
theorem region_loudGR {n r : Nat} {P : Program} {id : Nat} {l : List Oper} (hnd : noDefer l.toArray = true) (mask : Nat → Bool) (C : World → Prop) (Inv : (Nat → Bool) → (Nat → Value) → World → Prop) (dflt : Nat → Value) {Q : Exit → Act → World → Prop} {a : Act} {w : World} (hm : P.follows .mixedOrders = true)
    (hs : seesW l.toArray = true) (hqb : quietG mask l = true) (hIC : ∀ d u w, Inv d u w → C w) (h0 : Inv (fun _ => false) dflt w.drew)
    (hq : ∀ u, (∃ d w, Inv d u w) → wpQuietIn Fence.wide n P (hushE mask u 0 l).toArray C (LoudPostG P n l mask Q Inv u) (hushE mask u 0 l) a) :
    (Code.region id l.toArray true).wpIn (Fence.wide.inRound r) n P Q a w := by
  refine wpIn_region_any hm (any_inRound hnd _ _ _ _ ?_)
  have := any_loudG (Q := Q) (w := w.drew) dflt hs hqb hIC h0 (fun u hu => by have := hq u hu; rw [hushE_vals] at this; exact this)
  simpa using this
end Go.SeqLib
namespace Go.Proofs.YtbhhkfmjbgakbaaDoor
open Go.RowKit Go.Shelf Go.SeqLib

/-- The first and the second of what is told. -/
def valA (vals : Array Value) : Value := vals.toList.getD 0 undef
def valB (vals : Array Value) : Value := vals.toList.getD 1 undef
theorem valA_mk (x y : Value) : valA #[x, y] = x := rfl
theorem valB_mk (x y : Value) : valB #[x, y] = y := rfl
def aggA : Value → Array Value
  | .agg xs => xs
  | _ => #[]
theorem aggA_mk (xs : Array Value) : aggA (.agg xs) = xs := rfl

end Go.Proofs.YtbhhkfmjbgakbaaDoor
