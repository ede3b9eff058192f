/-
  DERIVED. GIVEN WITH THE SEED: THE CARDS: each row of YtghnkpfnpidncaaDoorRows.lean that lists a variable, with what it lists TIED to the program's text (the seventh form; the later family's looks); each row that meets fmt, with fmt's text TOLD by the authors' own Lean function (tested against real Go, not proved from fmt's source: count such statements apart). THE CARD IS WHAT COUNTS. Prove the row's statement (the work); the ties are given (YtghnkpfnpidncaaDoorTie.lean); close each card by the builder's one call (the guide's Derived/Test/ToyasCard.lean, 'card_holds'). Laid BY PROGRAM, IN A SANDBOX (cutbox-door.mjs). By AI agents, Wed Nov 11 2026. No macro, syntax, notation, axiom, sorry.
-/
import Derived.Test.YtghnkpfnpidncaaDoorRows
import GoSem.ClaimSeven
namespace Go.Proofs.YtghnkpfnpidncaaDoor
namespace Rows

/-- THE TIED CARD OF 'tidewracklaw03.GramBack'. -/
def gramBackCard : Claim7 := { stood := { row := gramBackRow, standIns := [], harness := (true, "e3c277c50e0a0d3e147dd0face308bc81228f51b16d98ee12398e5cc5fd3f7b3"), looks := false }, kinds := [], alts := [], laidByText := true, laidKinds := [.data], laidTests := true, laidLooks := .later }
def GramBackCardSaid : Prop := Claim7.holds Tryd.pinned (.plain (OpenSpec.ofChange gramBackSpec)) gramBackCard

/-- THE TIED CARD OF 'tidewracklaw03.GramParses'. -/
def gramParsesCard : Claim7 := { stood := { row := gramParsesRow, standIns := [], harness := (true, "e3c277c50e0a0d3e147dd0face308bc81228f51b16d98ee12398e5cc5fd3f7b3"), looks := false }, kinds := [], alts := [], laidByText := true, laidKinds := [.data], laidTests := true, laidLooks := .later }
def GramParsesCardSaid : Prop := Claim7.holds Tryd.pinned (.plain (OpenSpec.ofChange gramParsesSpec)) gramParsesCard

/-- THE TIED CARD OF 'tidewracklaw03.GramTold'. -/
def gramToldCard : Claim7 := { stood := { row := gramToldRow, standIns := [], harness := (true, "e3c277c50e0a0d3e147dd0face308bc81228f51b16d98ee12398e5cc5fd3f7b3"), looks := false }, kinds := [], alts := [], laidByText := true, laidKinds := [.data], laidTests := true, laidLooks := .later }
def GramToldCardSaid : Prop := Claim7.holds Tryd.pinned (.plain (OpenSpec.ofChange gramToldSpec)) gramToldCard

/-- THE TIED CARD OF 'tidewracklaw03.GramLongest'. -/
def gramLongestCard : Claim7 := { stood := { row := gramLongestRow, standIns := [], harness := (true, "e3c277c50e0a0d3e147dd0face308bc81228f51b16d98ee12398e5cc5fd3f7b3"), looks := false }, kinds := [], alts := [], laidByText := true, laidKinds := [.data], laidTests := true, laidLooks := .later }
def GramLongestCardSaid : Prop := Claim7.holds Tryd.pinned (.plain (OpenSpec.ofChange gramLongestSpec)) gramLongestCard

/-- THE TIED CARD OF 'tidewracklaw03.GramApart'. -/
def gramApartCard : Claim7 := { stood := { row := gramApartRow, standIns := [], harness := (true, "e3c277c50e0a0d3e147dd0face308bc81228f51b16d98ee12398e5cc5fd3f7b3"), looks := false }, kinds := [], alts := [], laidByText := true, laidKinds := [.data], laidTests := true, laidLooks := .later }
def GramApartCardSaid : Prop := Claim7.holds Tryd.pinned (.plain (OpenSpec.ofChange gramApartSpec)) gramApartCard

/-- THE TIED CARD OF 'tidewracktop.TidewrackParts'. -/
def tidewrackPartsCard : Claim7 := { stood := { row := tidewrackPartsRow, standIns := [], harness := (true, "e3c277c50e0a0d3e147dd0face308bc81228f51b16d98ee12398e5cc5fd3f7b3"), looks := false }, kinds := [], alts := [], laidByText := true, laidKinds := [.data], laidTests := true, laidLooks := .later }
def TidewrackPartsCardSaid : Prop := Claim7.holds Tryd.pinned (.plain (OpenSpec.ofChange tidewrackPartsSpec)) tidewrackPartsCard

/-- THE SECOND FORM's CARD OF 'tidewracklaw03.GramBack'. -/
def gramBackUptoCard : Claim7 := { stood := { row := gramBackUptoRow, standIns := [], harness := (true, "e3c277c50e0a0d3e147dd0face308bc81228f51b16d98ee12398e5cc5fd3f7b3"), looks := false }, kinds := [], alts := [], laidByText := true, laidKinds := [.data], laidTests := true, laidLooks := .later }
def GramBackUptoCardSaid : Prop := Claim7.holds Tryd.pinned (.plain (OpenSpec.upto gramBackSpec)) gramBackUptoCard

/-- THE SECOND FORM's CARD OF 'tidewracklaw03.GramParses'. -/
def gramParsesUptoCard : Claim7 := { stood := { row := gramParsesUptoRow, standIns := [], harness := (true, "e3c277c50e0a0d3e147dd0face308bc81228f51b16d98ee12398e5cc5fd3f7b3"), looks := false }, kinds := [], alts := [], laidByText := true, laidKinds := [.data], laidTests := true, laidLooks := .later }
def GramParsesUptoCardSaid : Prop := Claim7.holds Tryd.pinned (.plain (OpenSpec.upto gramParsesSpec)) gramParsesUptoCard

/-- THE SECOND FORM's CARD OF 'tidewracklaw03.GramTold'. -/
def gramToldUptoCard : Claim7 := { stood := { row := gramToldUptoRow, standIns := [], harness := (true, "e3c277c50e0a0d3e147dd0face308bc81228f51b16d98ee12398e5cc5fd3f7b3"), looks := false }, kinds := [], alts := [], laidByText := true, laidKinds := [.data], laidTests := true, laidLooks := .later }
def GramToldUptoCardSaid : Prop := Claim7.holds Tryd.pinned (.plain (OpenSpec.upto gramToldSpec)) gramToldUptoCard

/-- THE SECOND FORM's CARD OF 'tidewracklaw03.GramLongest'. -/
def gramLongestUptoCard : Claim7 := { stood := { row := gramLongestUptoRow, standIns := [], harness := (true, "e3c277c50e0a0d3e147dd0face308bc81228f51b16d98ee12398e5cc5fd3f7b3"), looks := false }, kinds := [], alts := [], laidByText := true, laidKinds := [.data], laidTests := true, laidLooks := .later }
def GramLongestUptoCardSaid : Prop := Claim7.holds Tryd.pinned (.plain (OpenSpec.upto gramLongestSpec)) gramLongestUptoCard

/-- THE SECOND FORM's CARD OF 'tidewracklaw03.GramApart'. -/
def gramApartUptoCard : Claim7 := { stood := { row := gramApartUptoRow, standIns := [], harness := (true, "e3c277c50e0a0d3e147dd0face308bc81228f51b16d98ee12398e5cc5fd3f7b3"), looks := false }, kinds := [], alts := [], laidByText := true, laidKinds := [.data], laidTests := true, laidLooks := .later }
def GramApartUptoCardSaid : Prop := Claim7.holds Tryd.pinned (.plain (OpenSpec.upto gramApartSpec)) gramApartUptoCard

/-- THE SECOND FORM's CARD OF 'tidewracktop.TidewrackParts'. -/
def tidewrackPartsUptoCard : Claim7 := { stood := { row := tidewrackPartsUptoRow, standIns := [], harness := (true, "e3c277c50e0a0d3e147dd0face308bc81228f51b16d98ee12398e5cc5fd3f7b3"), looks := false }, kinds := [], alts := [], laidByText := true, laidKinds := [.data], laidTests := true, laidLooks := .later }
def TidewrackPartsUptoCardSaid : Prop := Claim7.holds Tryd.pinned (.plain (OpenSpec.upto tidewrackPartsSpec)) tidewrackPartsUptoCard
end Rows
end Go.Proofs.YtghnkpfnpidncaaDoor
