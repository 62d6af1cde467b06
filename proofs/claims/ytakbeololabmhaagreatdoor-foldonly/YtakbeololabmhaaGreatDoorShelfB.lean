/-
  The library's contract of slices.BinarySearch at this program, in plain words: the table of numbers and the kernel's comparisons.
-/
import Derived.Shelf.SlicesG.SearchI
import Derived.Shelf.SlGeneric
import Derived.Ground.SlgnProg
import Derived.Test.YtakbeololabmhaaGreatDoorProg
namespace Go.Proofs
open Go.Shelf
def Tryz.laysBin_ren : Go.Shelf.Ren := ⟨fun | 49 => 105 | 59 => 123 | 60 => 124 | 68 => 155 | n => n, fun | 22 => 117 | 23 => 3 | 3 => 3 | 4 => 4 | 51 => 62 | 0 => 0 | n => n, fun | n => n⟩
theorem Tryz.laysBin : Go.Proofs.SlLaysN.n49 Tryz.prog Tryz.laysBin_ren := {
  mixed := by kernel_rfl
  f49 := ⟨Tryz.f105.name, by decide, Tryz.func105.trans (congrArg some (by kernel_rfl))⟩
  f59 := ⟨Tryz.f123.name, by decide, Tryz.func123.trans (congrArg some (by kernel_rfl))⟩
  f60 := ⟨Tryz.f124.name, by decide, Tryz.func124.trans (congrArg some (by kernel_rfl))⟩
  f68 := ⟨Tryz.f155.name, by decide, Tryz.func155.trans (congrArg some (by kernel_rfl))⟩
  t0 := Tryz.underlying0
  a0 := Tryz.isAgg0
  z0 := Tryz.sizeOf0
  v0 := Tryz.zeroValue0
  t3 := Tryz.underlying3
  a3 := Tryz.isAgg3
  z3 := Tryz.sizeOf3
  v3 := Tryz.zeroValue3
  t4 := Tryz.underlying4
  a4 := Tryz.isAgg4
  z4 := Tryz.sizeOf4
  v4 := Tryz.zeroValue4
  t22 := Tryz.underlying117
  a22 := Tryz.isAgg117
  z22 := Tryz.sizeOf117
  v22 := Tryz.zeroValue117
  t23 := Tryz.underlying3
  a23 := Tryz.isAgg3
  z23 := Tryz.sizeOf3
  v23 := Tryz.zeroValue3
  t51 := Tryz.underlying62
  a51 := Tryz.isAgg62
  z51 := Tryz.sizeOf62
  v51 := Tryz.zeroValue62 }
end Go.Proofs
