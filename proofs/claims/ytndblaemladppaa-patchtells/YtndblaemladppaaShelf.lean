/-
  The library's contracts at this program.
-/
import Derived.Test.YtndblaemladppaaShelfT
namespace Go.Proofs
end Go.Proofs
