/- The contract of cache.Order. -/
import Derived.Test.YtkdkhphpknnceaaCGet
import Derived.Test.YtkdkhphpknnceaaWInts
namespace Go.Proofs.Ytkdkhphpknnceaa.C
open Go.RowKit Go.Maps Go.Proofs.Ytkdkhphpknnceaa.H
open Go.Proofs.Ytkdkhphpknnceaa.W (OwnI IntsIn wpList_append_ints ints_one take_snoc)

def slLen : Value → Nat
  | .slice _ n _ => n
  | _ => 0
theorem OwnI.slLen {base : Nat} {v : Value} {xs : List Int} {w : World} (h : OwnI base v xs w) : slLen v = xs.length := by
  obtain ⟨a, c, rfl, -⟩ := W.OwnI.shape h
  rfl
end Go.Proofs.Ytkdkhphpknnceaa.C
