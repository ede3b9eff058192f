/- wp_region_tailT, where the last operations may write slots that the first ones read. -/
import Derived.Test.YtjbjflmpdmflmaaRelU
namespace Go.Proofs.Ytjbjflmpdmflmaa.R
open Go
section
variable {P : Program} {ops : Array Oper} {Q : Exit → Act → World → Prop}
end
end Go.Proofs.Ytjbjflmpdmflmaa.R
