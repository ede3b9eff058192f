/- Same: are spans alike, pair by pair? -/
import Derived.Test.YtkdkhphpknnceaaHCut
import Derived.Test.YtkdkhphpknnceaaRelP
namespace Go.Proofs.Ytkdkhphpknnceaa.H
open Go.RowKit

end Go.Proofs.Ytkdkhphpknnceaa.H

/- The law's awake of spans. -/
namespace Go.Proofs.Ytkdkhphpknnceaa.H
open Go.RowKit

theorem alloc_below (w : World) (o : Obj) : Below w.heap.size w (w.alloc o) := (Below.refl _ _).alloc (Nat.le_refl _) _
end Go.Proofs.Ytkdkhphpknnceaa.H
