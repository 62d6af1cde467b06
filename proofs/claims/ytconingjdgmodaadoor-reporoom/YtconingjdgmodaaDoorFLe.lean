/-
  Bytes compared by less or alike are bytes compared the other way round, turned.
-/
import Derived.Test.YtconingjdgmodaaDoorGFile
namespace Go.TreeLib
open Go
theorem leB_lt (p q : ByteArray) : (Op.bytesLess p.toList q.toList || p.toList == q.toList) = !lt q p := by
  show (lt p q || p.toList == q.toList) = _
  cases h : lt q p with
  | true =>
    have : ¬ p.toList = q.toList := fun e => lt_ne h (toList_inj e).symm
    rw [lt_asymm h, beq_eq_false_iff_ne.2 this]
    rfl
  | false =>
    cases h2 : lt p q with
    | true => rfl
    | false =>
      have : p = q := lt_tri h2 h
      subst this
      simp
end Go.TreeLib
