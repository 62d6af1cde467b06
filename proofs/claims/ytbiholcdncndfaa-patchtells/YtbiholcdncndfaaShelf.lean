import Derived.Shelf.Small.Strs
import Derived.Shelf.Sort.Plain
import Derived.Shelf.Slices.CompactS
import Derived.Shelf.Slices.In.SortNone
import Derived.Shelf.SlSortCmp.KitK
import Derived.Shelf.Lay
import Derived.Shelf.LaySoft
import Derived.Shelf.SlGeneric
import Derived.Ground.NamesProg
import Derived.Ground.SlsfProg
import Derived.Test.YtbiholcdncndfaaProg
namespace Go.Proofs
open Go.Shelf
shelf_try shelf_lay Lays.n106 Nm 106 at Try as Try.laysCompare
shelf_try shelf_lay Lays.n190 Nm 190 at Try as Try.laysSort
shelf_try shelf_lay Lays.n194 Nm 194 at Try as Try.laysCompact
shelf_try shelf_lay_g SlLaysF0.n20 Slsf 20 at Try 56 as Try.laysIns
shelf_tried
end Go.Proofs
