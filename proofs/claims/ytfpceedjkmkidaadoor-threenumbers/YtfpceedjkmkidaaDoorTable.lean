/-
  What the rows' listed tables give: the library's powers of ten lie in memory as its text lays them; a world that holds all three.
-/
import Derived.Test.YtfpceedjkmkidaaDoorCards
import Derived.Test.YtfpceedjkmkidaaDoorTie
import Derived.Test.YtfpceedjkmkidaaDoorDItoa
import Derived.Test.YtfpceedjkmkidaaDoorOpen
import Derived.WalkKit
import Derived.ProofKit
import Derived.OpenShut
import Derived.Deep.DeepHandedRow
import Derived.Lib.LaidTab
import Derived.LaidSub
namespace Go.Proofs.YtfpceedjkmkidaaDoor
open Go.ChangeShapes Go.WideShapes Go.ChangeAt Go.RowKit

theorem tabType : (Tryd.prog.globals[0]?).map (·.type) = some 89 := by kernel_rfl
theorem tabCells : Tryd.prog.cellsOf 89 = 20 := by kernel_rfl
theorem cellsU : Tryd.prog.cellsOf 75 = 1 := by kernel_rfl

theorem powDatum : (Rows.laid_internal_strconv_uint64pow10 : DataW Unit) = Lib.tabData .u64 Lib.pow10Tab := by kernel_rfl

theorem table {W : World} (h : laidMetH Tryd.prog [("math/bits.deBruijn32tab", Rows.laid_math_bits_deBruijn32tab), ("math/bits.deBruijn64tab", Rows.laid_math_bits_deBruijn64tab), ("internal/strconv.uint64pow10", Rows.laid_internal_strconv_uint64pow10)] W) : TabAt W := by
  have h2 := h.filter (fun x => x.1 == "internal/strconv.uint64pow10")
  rw [show (List.filter (fun x : String × DataW Unit => x.1 == "internal/strconv.uint64pow10") [("math/bits.deBruijn32tab", Rows.laid_math_bits_deBruijn32tab), ("math/bits.deBruijn64tab", Rows.laid_math_bits_deBruijn64tab), ("internal/strconv.uint64pow10", Rows.laid_internal_strconv_uint64pow10)]) = [("internal/strconv.uint64pow10", Lib.tabData .u64 Lib.pow10Tab)] from by
    rw [← powDatum]
    simp [List.filter]] at h2
  exact Lib.tabIs_of_head (rest := []) tab_global tabType Tryd.underlying89 Tryd.underlying75 cellsU tabCells h2

/-- The number in a datum. -/
def litOf : DataW Unit → Value
  | .lit (.int k n) => .int k n
  | _ => undef
def litsOf : DataW Unit → Array Value
  | .agg l => (l.map litOf).toArray
  | _ => #[]

def putCells (a : Array Value) : Obj → Obj
  | .cells _ t frozen => .cells a t frozen
  | o => o

/-- FOR THE WITNESS: a world (the settled one), the three tables holding what their initialisers lay. -/
def laidOver (w : World) : World :=
  { w with heap := ((w.heap.modify 0 (putCells (litsOf Rows.laid_internal_strconv_uint64pow10))).modify 1 (putCells (litsOf Rows.laid_math_bits_deBruijn32tab))).modify 2 (putCells (litsOf Rows.laid_math_bits_deBruijn64tab)) }

/-- Each number is one that an int holds. -/
theorem IsRow.okI {W : World} {a : Option Addr} {len cap : Nat} {zs : List Int} (h : IsRow W a len cap zs) : ∀ x ∈ zs.take len, okI x := by
  intro x hx
  have := h.wf x hx
  simpa [Lit.wf, IntKind.min, IntKind.max, IntKind.signed, IntKind.bits, Go.Proofs.YtfpceedjkmkidaaDoor.okI] using this

end Go.Proofs.YtfpceedjkmkidaaDoor
