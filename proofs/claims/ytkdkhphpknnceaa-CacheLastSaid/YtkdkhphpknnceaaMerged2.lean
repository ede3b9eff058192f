/- slices.Insert of spans. -/
import Derived.Test.YtkdkhphpknnceaaHRow
import Derived.Test.YtkdkhphpknnceaaRelT
import Derived.Test.YtkdkhphpknnceaaRelU
namespace Go.Proofs.Ytkdkhphpknnceaa.H
open Go.RowKit Go.Shelf

end Go.Proofs.Ytkdkhphpknnceaa.H

/- Rows of spans that are made anew, with others put among them; slices.Insert where there is no room. -/
namespace Go.Proofs.Ytkdkhphpknnceaa.H
open Go.RowKit Go.Shelf

end Go.Proofs.Ytkdkhphpknnceaa.H

/- slices.Replace of spans. -/
namespace Go.Proofs.Ytkdkhphpknnceaa.H
open Go.RowKit Go.Shelf

end Go.Proofs.Ytkdkhphpknnceaa.H
