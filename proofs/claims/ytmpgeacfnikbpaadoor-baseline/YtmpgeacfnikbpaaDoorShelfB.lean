/-
  The library's contract of slices.BinarySearch at the stack of numbers, in plain words: the table of numbers and the kernel's comparisons.
-/
import Derived.Shelf.SlicesG.SearchI
import Derived.Shelf.SlGeneric
import Derived.Ground.SlgnProg
import Derived.Test.YtmpgeacfnikbpaaDoorProg
namespace Go.Proofs
open Go.Shelf
def Tryd.laysBin_ren : Go.Shelf.Ren := ⟨fun | 49 => 60 | 59 => 70 | 60 => 71 | 68 => 79 | n => n, fun | 22 => 79 | 23 => 3 | 3 => 3 | 4 => 4 | 51 => 47 | 0 => 0 | n => n, fun | n => n⟩
theorem Tryd.laysBin : Go.Proofs.SlLaysN.n49 Tryd.prog Tryd.laysBin_ren := {
  mixed := by kernel_rfl
  f49 := ⟨Tryd.f60.name, by decide, Tryd.func60.trans (congrArg some (by kernel_rfl))⟩
  f59 := ⟨Tryd.f70.name, by decide, Tryd.func70.trans (congrArg some (by kernel_rfl))⟩
  f60 := ⟨Tryd.f71.name, by decide, Tryd.func71.trans (congrArg some (by kernel_rfl))⟩
  f68 := ⟨Tryd.f79.name, by decide, Tryd.func79.trans (congrArg some (by kernel_rfl))⟩
  t0 := Tryd.underlying0
  a0 := Tryd.isAgg0
  z0 := Tryd.sizeOf0
  v0 := Tryd.zeroValue0
  t3 := Tryd.underlying3
  a3 := Tryd.isAgg3
  z3 := Tryd.sizeOf3
  v3 := Tryd.zeroValue3
  t4 := Tryd.underlying4
  a4 := Tryd.isAgg4
  z4 := Tryd.sizeOf4
  v4 := Tryd.zeroValue4
  t22 := Tryd.underlying79
  a22 := Tryd.isAgg79
  z22 := Tryd.sizeOf79
  v22 := Tryd.zeroValue79
  t23 := Tryd.underlying3
  a23 := Tryd.isAgg3
  z23 := Tryd.sizeOf3
  v23 := Tryd.zeroValue3
  t51 := Tryd.underlying47
  a51 := Tryd.isAgg47
  z51 := Tryd.sizeOf47
  v51 := Tryd.zeroValue47 }
end Go.Proofs
