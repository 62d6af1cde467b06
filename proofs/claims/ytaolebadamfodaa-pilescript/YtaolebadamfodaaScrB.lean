/-
  A function that is there is not nil.
-/
import Derived.Test.YtaolebadamfodaaScrA
namespace Go.Proofs.Ytaolebadamfodaa.T
open Go.RowKit Go.Shelf Go.SeqLib Go.BigFrame Go.PileLib
theorem run_neq_func_nil {P : Program} {t : TypeId} {ps rs : Array TypeId} {vr : Bool} (h : P.underlying t = some (.func ps rs vr)) (f : Fn) (r c : Array Value) (w : World) :
    (binOp .neq t (.func f r c) .nilFunc).run P w = .ok (.bool true) w := by
  simp only [binOp]
  simp [Op.equal, Op.maxDepth, run_equalIn_func_nil h 9999]
end Go.Proofs.Ytaolebadamfodaa.T
