/-
  DERIVED. GIVEN WITH THE SEED: THE CARDS: each row of YtnjkgbnkfncjkaaDoorRows.lean that lists a variable, with what it lists TIED to the program's text (the seventh form; the later family's looks); each row that meets fmt, with fmt's text TOLD by the authors' own Lean function (tested against real Go, not proved from fmt's source: count such statements apart). THE CARD IS WHAT COUNTS. Prove the row's statement (the work); the ties are given (YtnjkgbnkfncjkaaDoorTie.lean); close each card by the builder's one call (the guide's Derived/Test/ToyasCard.lean, 'card_holds'). Laid BY PROGRAM, IN A SANDBOX (cutbox-door.mjs). By AI agents, Wed Nov 11 2026. No macro, syntax, notation, axiom, sorry.
-/
import Derived.Test.YtnjkgbnkfncjkaaDoorRows
import GoSem.ClaimSeven
namespace Go.Proofs.YtnjkgbnkfncjkaaDoor
namespace Rows

/-- THE TIED CARD OF 'tidewracklaw05.GlyphDecodes'. -/
def glyphDecodesCard : Claim7 := { stood := { row := glyphDecodesRow, standIns := [], harness := (true, "f760f5065c7ffa79ef321d333240d532439ae9e0fbea0616539c6f85b36d8e40"), looks := false }, kinds := [], alts := [], laidByText := true, laidKinds := [.data], laidTests := true, laidLooks := .later }
def GlyphDecodesCardSaid : Prop := Claim7.holds Tryd.pinned (.plain (OpenSpec.ofChange glyphDecodesSpec)) glyphDecodesCard

/-- THE TIED CARD OF 'tidewracklaw05.GlyphParts'. -/
def glyphPartsCard : Claim7 := { stood := { row := glyphPartsRow, standIns := [], harness := (true, "f760f5065c7ffa79ef321d333240d532439ae9e0fbea0616539c6f85b36d8e40"), looks := false }, kinds := [], alts := [], laidByText := true, laidKinds := [.data], laidTests := true, laidLooks := .later }
def GlyphPartsCardSaid : Prop := Claim7.holds Tryd.pinned (.plain (OpenSpec.ofChange glyphPartsSpec)) glyphPartsCard

/-- THE TIED CARD OF 'tidewracklaw05.GlyphBack'. -/
def glyphBackCard : Claim7 := { stood := { row := glyphBackRow, standIns := [], harness := (true, "f760f5065c7ffa79ef321d333240d532439ae9e0fbea0616539c6f85b36d8e40"), looks := false }, kinds := [], alts := [], laidByText := true, laidKinds := [.data], laidTests := true, laidLooks := .later }
def GlyphBackCardSaid : Prop := Claim7.holds Tryd.pinned (.plain (OpenSpec.ofChange glyphBackSpec)) glyphBackCard

/-- THE TIED CARD OF 'tidewracklaw05.GlyphHeals'. -/
def glyphHealsCard : Claim7 := { stood := { row := glyphHealsRow, standIns := [], harness := (true, "f760f5065c7ffa79ef321d333240d532439ae9e0fbea0616539c6f85b36d8e40"), looks := false }, kinds := [], alts := [], laidByText := true, laidKinds := [.data], laidTests := true, laidLooks := .later }
def GlyphHealsCardSaid : Prop := Claim7.holds Tryd.pinned (.plain (OpenSpec.ofChange glyphHealsSpec)) glyphHealsCard

/-- THE TIED CARD OF 'tidewracklaw05.GlyphValid'. -/
def glyphValidCard : Claim7 := { stood := { row := glyphValidRow, standIns := [], harness := (true, "f760f5065c7ffa79ef321d333240d532439ae9e0fbea0616539c6f85b36d8e40"), looks := false }, kinds := [], alts := [], laidByText := true, laidKinds := [.data], laidTests := true, laidLooks := .later }
def GlyphValidCardSaid : Prop := Claim7.holds Tryd.pinned (.plain (OpenSpec.ofChange glyphValidSpec)) glyphValidCard

/-- THE TIED CARD OF 'tidewracklaw06.WideTells'. -/
def wideTellsCard : Claim7 := { stood := { row := wideTellsRow, standIns := [], harness := (true, "f760f5065c7ffa79ef321d333240d532439ae9e0fbea0616539c6f85b36d8e40"), looks := false }, kinds := [], alts := [], laidByText := true, laidKinds := [.data], laidTests := true, laidLooks := .later }
def WideTellsCardSaid : Prop := Claim7.holds Tryd.pinned (.plain (OpenSpec.ofChange wideTellsSpec)) wideTellsCard

/-- THE TIED CARD OF 'tidewracklaw06.WideFits'. -/
def wideFitsCard : Claim7 := { stood := { row := wideFitsRow, standIns := [], harness := (true, "f760f5065c7ffa79ef321d333240d532439ae9e0fbea0616539c6f85b36d8e40"), looks := false }, kinds := [], alts := [], laidByText := true, laidKinds := [.data], laidTests := true, laidLooks := .later }
def WideFitsCardSaid : Prop := Claim7.holds Tryd.pinned (.plain (OpenSpec.ofChange wideFitsSpec)) wideFitsCard

/-- THE TIED CARD OF 'tidewracklaw06.WideAdds'. -/
def wideAddsCard : Claim7 := { stood := { row := wideAddsRow, standIns := [], harness := (true, "f760f5065c7ffa79ef321d333240d532439ae9e0fbea0616539c6f85b36d8e40"), looks := false }, kinds := [], alts := [], laidByText := true, laidKinds := [.data], laidTests := true, laidLooks := .later }
def WideAddsCardSaid : Prop := Claim7.holds Tryd.pinned (.plain (OpenSpec.ofChange wideAddsSpec)) wideAddsCard

/-- THE TIED CARD OF 'tidewracktop.TidewrackColumns'. -/
def tidewrackColumnsCard : Claim7 := { stood := { row := tidewrackColumnsRow, standIns := [], harness := (true, "f760f5065c7ffa79ef321d333240d532439ae9e0fbea0616539c6f85b36d8e40"), looks := false }, kinds := [], alts := [], laidByText := true, laidKinds := [.data, .data], laidTests := true, laidLooks := .later }
def TidewrackColumnsCardSaid : Prop := Claim7.holds Tryd.pinned (.plain (OpenSpec.ofChange tidewrackColumnsSpec)) tidewrackColumnsCard

/-- THE SECOND FORM's CARD OF 'tidewracklaw05.GlyphDecodes'. -/
def glyphDecodesUptoCard : Claim7 := { stood := { row := glyphDecodesUptoRow, standIns := [], harness := (true, "f760f5065c7ffa79ef321d333240d532439ae9e0fbea0616539c6f85b36d8e40"), looks := false }, kinds := [], alts := [], laidByText := true, laidKinds := [.data], laidTests := true, laidLooks := .later }
def GlyphDecodesUptoCardSaid : Prop := Claim7.holds Tryd.pinned (.plain (OpenSpec.upto glyphDecodesSpec)) glyphDecodesUptoCard

/-- THE SECOND FORM's CARD OF 'tidewracklaw05.GlyphParts'. -/
def glyphPartsUptoCard : Claim7 := { stood := { row := glyphPartsUptoRow, standIns := [], harness := (true, "f760f5065c7ffa79ef321d333240d532439ae9e0fbea0616539c6f85b36d8e40"), looks := false }, kinds := [], alts := [], laidByText := true, laidKinds := [.data], laidTests := true, laidLooks := .later }
def GlyphPartsUptoCardSaid : Prop := Claim7.holds Tryd.pinned (.plain (OpenSpec.upto glyphPartsSpec)) glyphPartsUptoCard

/-- THE SECOND FORM's CARD OF 'tidewracklaw05.GlyphBack'. -/
def glyphBackUptoCard : Claim7 := { stood := { row := glyphBackUptoRow, standIns := [], harness := (true, "f760f5065c7ffa79ef321d333240d532439ae9e0fbea0616539c6f85b36d8e40"), looks := false }, kinds := [], alts := [], laidByText := true, laidKinds := [.data], laidTests := true, laidLooks := .later }
def GlyphBackUptoCardSaid : Prop := Claim7.holds Tryd.pinned (.plain (OpenSpec.upto glyphBackSpec)) glyphBackUptoCard

/-- THE SECOND FORM's CARD OF 'tidewracklaw05.GlyphHeals'. -/
def glyphHealsUptoCard : Claim7 := { stood := { row := glyphHealsUptoRow, standIns := [], harness := (true, "f760f5065c7ffa79ef321d333240d532439ae9e0fbea0616539c6f85b36d8e40"), looks := false }, kinds := [], alts := [], laidByText := true, laidKinds := [.data], laidTests := true, laidLooks := .later }
def GlyphHealsUptoCardSaid : Prop := Claim7.holds Tryd.pinned (.plain (OpenSpec.upto glyphHealsSpec)) glyphHealsUptoCard

/-- THE SECOND FORM's CARD OF 'tidewracklaw05.GlyphValid'. -/
def glyphValidUptoCard : Claim7 := { stood := { row := glyphValidUptoRow, standIns := [], harness := (true, "f760f5065c7ffa79ef321d333240d532439ae9e0fbea0616539c6f85b36d8e40"), looks := false }, kinds := [], alts := [], laidByText := true, laidKinds := [.data], laidTests := true, laidLooks := .later }
def GlyphValidUptoCardSaid : Prop := Claim7.holds Tryd.pinned (.plain (OpenSpec.upto glyphValidSpec)) glyphValidUptoCard

/-- THE SECOND FORM's CARD OF 'tidewracklaw06.WideTells'. -/
def wideTellsUptoCard : Claim7 := { stood := { row := wideTellsUptoRow, standIns := [], harness := (true, "f760f5065c7ffa79ef321d333240d532439ae9e0fbea0616539c6f85b36d8e40"), looks := false }, kinds := [], alts := [], laidByText := true, laidKinds := [.data], laidTests := true, laidLooks := .later }
def WideTellsUptoCardSaid : Prop := Claim7.holds Tryd.pinned (.plain (OpenSpec.upto wideTellsSpec)) wideTellsUptoCard

/-- THE SECOND FORM's CARD OF 'tidewracklaw06.WideFits'. -/
def wideFitsUptoCard : Claim7 := { stood := { row := wideFitsUptoRow, standIns := [], harness := (true, "f760f5065c7ffa79ef321d333240d532439ae9e0fbea0616539c6f85b36d8e40"), looks := false }, kinds := [], alts := [], laidByText := true, laidKinds := [.data], laidTests := true, laidLooks := .later }
def WideFitsUptoCardSaid : Prop := Claim7.holds Tryd.pinned (.plain (OpenSpec.upto wideFitsSpec)) wideFitsUptoCard

/-- THE SECOND FORM's CARD OF 'tidewracklaw06.WideAdds'. -/
def wideAddsUptoCard : Claim7 := { stood := { row := wideAddsUptoRow, standIns := [], harness := (true, "f760f5065c7ffa79ef321d333240d532439ae9e0fbea0616539c6f85b36d8e40"), looks := false }, kinds := [], alts := [], laidByText := true, laidKinds := [.data], laidTests := true, laidLooks := .later }
def WideAddsUptoCardSaid : Prop := Claim7.holds Tryd.pinned (.plain (OpenSpec.upto wideAddsSpec)) wideAddsUptoCard

/-- THE SECOND FORM's CARD OF 'tidewracktop.TidewrackColumns'. -/
def tidewrackColumnsUptoCard : Claim7 := { stood := { row := tidewrackColumnsUptoRow, standIns := [], harness := (true, "f760f5065c7ffa79ef321d333240d532439ae9e0fbea0616539c6f85b36d8e40"), looks := false }, kinds := [], alts := [], laidByText := true, laidKinds := [.data, .data], laidTests := true, laidLooks := .later }
def TidewrackColumnsUptoCardSaid : Prop := Claim7.holds Tryd.pinned (.plain (OpenSpec.upto tidewrackColumnsSpec)) tidewrackColumnsUptoCard
end Rows
end Go.Proofs.YtnjkgbnkfncjkaaDoor
