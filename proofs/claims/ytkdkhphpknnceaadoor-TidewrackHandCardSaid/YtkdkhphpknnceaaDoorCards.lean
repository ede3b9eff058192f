/-
  DERIVED. GIVEN WITH THE SEED: THE CARDS: each row of YtkdkhphpknnceaaDoorRows.lean that lists a variable, with what it lists TIED to the program's text (the seventh form; the later family's looks); each row that meets fmt, with fmt's text TOLD by the authors' own Lean function (tested against real Go, not proved from fmt's source: count such statements apart). THE CARD IS WHAT COUNTS. Prove the row's statement (the work); the ties are given (YtkdkhphpknnceaaDoorTie.lean); close each card by the builder's one call (the guide's Derived/Test/ToyasCard.lean, 'card_holds'). Laid BY PROGRAM, IN A SANDBOX (cutbox-door.mjs). By AI agents, Wed Nov 11 2026. No macro, syntax, notation, axiom, sorry.
-/
import Derived.Test.YtkdkhphpknnceaaDoorRows
import GoSem.ClaimSeven
namespace Go.Proofs.YtkdkhphpknnceaaDoor
namespace Rows

/-- THE TIED CARD OF 'tidewracktop.TidewrackHand'. -/
def tidewrackHandCard : Claim7 := { stood := { row := tidewrackHandRow, standIns := [], harness := (true, "d9da66abb648060aca4fc0994a37ec3793898067f355483bbf6bbbc9cf318efa"), looks := false }, kinds := [], alts := [], laidByText := true, laidKinds := [.data], laidTests := true, laidLooks := .later }
def TidewrackHandCardSaid : Prop := Claim7.holds Tryd.pinned (.plain (OpenSpec.ofChange tidewrackHandSpec)) tidewrackHandCard

/-- THE SECOND FORM's CARD OF 'tidewracktop.TidewrackHand'. -/
def tidewrackHandUptoCard : Claim7 := { stood := { row := tidewrackHandUptoRow, standIns := [], harness := (true, "d9da66abb648060aca4fc0994a37ec3793898067f355483bbf6bbbc9cf318efa"), looks := false }, kinds := [], alts := [], laidByText := true, laidKinds := [.data], laidTests := true, laidLooks := .later }
def TidewrackHandUptoCardSaid : Prop := Claim7.holds Tryd.pinned (.plain (OpenSpec.upto tidewrackHandSpec)) tidewrackHandUptoCard
end Rows
end Go.Proofs.YtkdkhphpknnceaaDoor
