/- What runes are as bytes; the contract of the document's own Encode, where glyph is wanting. -/
import Derived.Test.YtjlhinofglokoaaDoorRows
import Derived.Test.YtjlhinofglokoaaDoorYMath
import Derived.WalkKit
import Derived.WalkLawsBesides
import Derived.WalkSpells
import Derived.Outline
import Derived.Lib.Hide
import Derived.Below
import Derived.IntWalk
import Derived.OwnWalk
import Derived.Laws.Cover4
import Derived.Laws.BytesArg
namespace Go.Proofs.YtjlhinofglokoaaDoor.Y
open Go.RowKit

end Go.Proofs.YtjlhinofglokoaaDoor.Y
