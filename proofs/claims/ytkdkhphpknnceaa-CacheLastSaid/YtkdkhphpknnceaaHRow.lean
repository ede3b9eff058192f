/- A row of spans, cell by cell: copy into it, clear, and what slices.overlaps says of it. -/
import Derived.Test.YtkdkhphpknnceaaHMis
import Derived.Lib.Overlaps
import Derived.Laws.Externs
import Derived.Lib.AppendZerosOnto
import Derived.Shelf.RegionOpenPlain
import Derived.StillTailTactics
namespace Go.Proofs.Ytkdkhphpknnceaa.H
open Go.RowKit Go.Shelf

end Go.Proofs.Ytkdkhphpknnceaa.H
