/- FlowCounts: how many rows there are: the walk. -/
import Derived.Test.YtjlhinofglokoaaDoorFAwk
import Derived.Test.YtjlhinofglokoaaDoorWRef
import Derived.Lib.MinMax
namespace Go.Proofs.YtjlhinofglokoaaDoor.F
open Go.RowKit H
open W (Tab ofS refOf refOf_any ofS_ref ofS_le)

theorem clamp_go (W : Int) : max 2 (min W 1000) = clampW W := rfl
/-- the first ones, in a slice of our own -/
theorem lit_q (w : World) : OwnQ .i32 42 w.heap.size (.slice (some ⟨w.heap.size, 0, none⟩) 0 0) [] (w.alloc (.cells #[] 42)) := OwnP.lit2 w
end Go.Proofs.YtjlhinofglokoaaDoor.F
