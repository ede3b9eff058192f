/- Which of a set's spans have numbers of a span: over. -/
import Derived.Test.YthplghcpjmodeaaHOwn
namespace Go.Proofs.Ythplghcpjmodeaa.H
open Go.RowKit

end Go.Proofs.Ythplghcpjmodeaa.H
