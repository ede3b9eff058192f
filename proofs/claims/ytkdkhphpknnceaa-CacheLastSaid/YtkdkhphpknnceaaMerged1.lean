/- What is left of some spans without others, gathered: left, AppendSeq, Collect. -/
import Derived.Test.YtkdkhphpknnceaaHIter
namespace Go.Proofs.Ytkdkhphpknnceaa.H
open Go.RowKit Go.Shelf

attribute [local go_sem] Oper.semAt_some

end Go.Proofs.Ytkdkhphpknnceaa.H

/- slices.AppendSeq and slices.Collect of what is left. -/
namespace Go.Proofs.Ytkdkhphpknnceaa.H
open Go.RowKit Go.Shelf

attribute [local go_sem] Oper.semAt_some

end Go.Proofs.Ytkdkhphpknnceaa.H
