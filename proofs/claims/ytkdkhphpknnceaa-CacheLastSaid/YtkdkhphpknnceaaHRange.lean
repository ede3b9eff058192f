/- A loop over an iterator that writes boxes of its own: what the caller keeps abides these writes. -/
import Derived.Test.YtkdkhphpknnceaaMerged0
import Derived.RangeFuncNested
import Derived.RangeFuncBound
import Derived.RangeFuncCalls
import Derived.RangeFuncLeaves
import Derived.RangeFuncBox
import Derived.Shelf.Abstract
import Derived.Shelf.RegionOpen
import Derived.OwnWalkIn
import Derived.TacticsInMore
import Derived.LoopNIn
import Derived.LoopIn
namespace Go.Proofs.Ytkdkhphpknnceaa.H
open Go.RowKit Go.Shelf

/-- the block of the slice that stands in a box -/
def rowOf (b0 : Nat) (W : World) : Option Nat := (W.cell? ⟨b0, 0, none⟩).bind Value.ownBlock
variable {F : Fence} {n : Nat} {P : Program}
end Go.Proofs.Ytkdkhphpknnceaa.H
