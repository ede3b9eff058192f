/- slices.AppendSeq and slices.Collect of what is left. -/
import Derived.Test.YthplghcpjmodeaaHLeft
namespace Go.Proofs.Ythplghcpjmodeaa.H
open Go.RowKit Go.Shelf

attribute [local go_sem] Oper.semAt_some

end Go.Proofs.Ythplghcpjmodeaa.H
