/- The law's awake of spans. -/
import Derived.Test.YthplghcpjmodeaaHSam
namespace Go.Proofs.Ythplghcpjmodeaa.H
open Go.RowKit

theorem alloc_below (w : World) (o : Obj) : Below w.heap.size w (w.alloc o) := (Below.refl _ _).alloc (Nat.le_refl _) _
end Go.Proofs.Ythplghcpjmodeaa.H
