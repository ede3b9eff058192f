/- Same: are spans alike, pair by pair? -/
import Derived.Test.YthplghcpjmodeaaHCut
import Derived.Test.YthplghcpjmodeaaRelP
namespace Go.Proofs.Ythplghcpjmodeaa.H
open Go.RowKit

end Go.Proofs.Ythplghcpjmodeaa.H
