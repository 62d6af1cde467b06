/-
  The library's contracts at this program.
-/
import Derived.Test.YtndblaemladppaaDoorShelfT
namespace Go.Proofs
end Go.Proofs
