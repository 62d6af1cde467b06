/-
  How a list of texts that came in is read: what the lifted proofs share.
-/
import Derived.Test.YtakbeololabmhaaGreatDoorRows
import Derived.Test.YtakbeololabmhaaGreatDoorG02
import Derived.WalkKit
import Derived.ProofKit
import Derived.OpenShut
import Derived.ShutString
import Derived.ChangeOld
import Derived.Below
import Derived.Carry
import Derived.SliceStrings
namespace Go.Proofs.YtakbeololabmhaaGreatDoor
open Go.ChangeShapes Go.WideShapes Go.ChangeAt Go.RowKit Go.SeqLib

theorem own : ownKnob Tryz.prog.godebug = none := by kernel_rfl
theorem laidOut : laidOutB Tryz.prog = true := by kernel_rfl

end Go.Proofs.YtakbeololabmhaaGreatDoor
namespace Go.SeqLib
theorem Chg.belowNo {w w' : World} (c : Chg (fun _ => False) w w') : Go.RowKit.Below w.heap.size w w' := ⟨c.os, c.tape, c.output, c.size, fun k hk => c.block k hk (fun h => h)⟩
end Go.SeqLib
