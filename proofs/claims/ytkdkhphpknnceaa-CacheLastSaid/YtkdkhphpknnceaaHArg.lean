/- Spans and acts that were handed in. -/
import Derived.Test.YtkdkhphpknnceaaMerged3
import Derived.Deep.Slices
import Derived.ProofKit
namespace Go.Proofs.Ytkdkhphpknnceaa.H
open Go.RowKit Go.ChangeShapes Go.WideShapes

theorem cI : Try.prog.cellsOf 3 = 1 := by kernel_rfl
theorem addN (b off j : Nat) : (⟨b, off, none⟩ : Addr).add j = ⟨b, off + j, none⟩ := by unfold Addr.add; split <;> simp_all
end Go.Proofs.Ytkdkhphpknnceaa.H
