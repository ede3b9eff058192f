/- Where spans stand: sort.Search, behind, Has. -/
import Derived.Test.YtkdkhphpknnceaaHSet
import Derived.Lib.QuietBelow
import Derived.BigQuiet
namespace Go.Proofs.Ytkdkhphpknnceaa.H
open Go.RowKit

end Go.Proofs.Ytkdkhphpknnceaa.H

/- Append of pairs upon pairs of our own; a slice's copy; Spans, Clone, Has, Len. -/
namespace Go.Proofs.Ytkdkhphpknnceaa.H
open Go.RowKit

end Go.Proofs.Ytkdkhphpknnceaa.H

/- Which of a set's spans have numbers of a span: over. -/
namespace Go.Proofs.Ytkdkhphpknnceaa.H
open Go.RowKit

end Go.Proofs.Ytkdkhphpknnceaa.H
