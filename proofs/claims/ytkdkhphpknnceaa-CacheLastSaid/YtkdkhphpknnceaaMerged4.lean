/- The document's near and Fit. -/
import Derived.Test.YtkdkhphpknnceaaHTot
namespace Go.Proofs.Ytkdkhphpknnceaa.H
open Go.RowKit

end Go.Proofs.Ytkdkhphpknnceaa.H

/- The document's Has, keep, one. -/
namespace Go.Proofs.Ytkdkhphpknnceaa.H
open Go.RowKit

end Go.Proofs.Ytkdkhphpknnceaa.H

/- The document's one: a span, as it counts; none, if it is empty. -/
namespace Go.Proofs.Ytkdkhphpknnceaa.H
open Go.RowKit

end Go.Proofs.Ytkdkhphpknnceaa.H
