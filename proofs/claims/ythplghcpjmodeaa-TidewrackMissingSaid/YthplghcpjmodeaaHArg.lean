/- Spans and acts that were handed in. -/
import Derived.Test.YthplghcpjmodeaaHAwk
import Derived.Deep.Slices
import Derived.ProofKit
namespace Go.Proofs.Ythplghcpjmodeaa.H
open Go.RowKit Go.ChangeShapes Go.WideShapes

end Go.Proofs.Ythplghcpjmodeaa.H
