/- FlowWidths: at another width and back: the walk. -/
import Derived.Test.YtjlhinofglokoaaDoorFJoW
import Derived.Test.YtjlhinofglokoaaDoorFRows
namespace Go.Proofs.YtjlhinofglokoaaDoor.F
open Go.RowKit H
open W (Tab)

theorem cut_short (C : Int) (hC : 2 ≤ C) (l : List (Int × Int)) : (cutR C l).length ≤ l.length + 1 := (brk_few hC l [] 0 (by simp)).1
end Go.Proofs.YtjlhinofglokoaaDoor.F
