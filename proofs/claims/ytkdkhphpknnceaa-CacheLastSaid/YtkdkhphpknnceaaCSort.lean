/- The contract of slices.Sort over numbers: the shelf's, laid here in plain words. -/
import Derived.Test.YtkdkhphpknnceaaCOrd
import Derived.Ground.NamesProg
import Derived.Shelf.Slices.In.SortAlone
import Derived.Shelf.Slices.In.SortNone
import Derived.Lib.SortBridge
import Derived.Sort.EveryDepth
namespace Go.Proofs.Ytkdkhphpknnceaa.C
open Go.RowKit Go.Maps Go.Proofs.Ytkdkhphpknnceaa.H Go.Shelf Go.Sort
open Go.Proofs.Ytkdkhphpknnceaa.W (OwnI IntsIn wpList_append_ints ints_one take_snoc)

abbrev sortI (zs : List Int) : List Int := zs.mergeSort fun x y => decide (x ≤ y)
end Go.Proofs.Ytkdkhphpknnceaa.C
