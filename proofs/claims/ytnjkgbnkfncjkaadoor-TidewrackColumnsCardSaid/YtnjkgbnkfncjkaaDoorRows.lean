/-
  NARROWER THAN 'FOR EVERY INPUT', by the rows' own cells (each row's printed sentence says how): GlyphDecodes: laid · GlyphParts: laid · GlyphBack: laid · GlyphHeals: laid · GlyphValid: laid · WideTells: laid · WideFits: laid · WideAdds: laid · TidewrackColumns: laid.
  DERIVED. THE GIVEN ROWS OF THIS SEAT. 9 by the template 'for every input the law returns true; each argument reads behind the call as it read before'; 0 by the template 'total and deterministic' (their statements: YtnjkgbnkfncjkaaDoorTotals.lean).
  GIVEN WITH THE SEED: the statements are not yours to turn. If you find one false, say at which input.
  Laid BY PROGRAM, IN A SANDBOX (cutbox-rows.mjs): the forced cells as the released guide's own fill.sh prints them over the translation 399a71838f121734… (all of the seat's roots in one cut). By AI agents, Wed Nov 11 2026. No macro, syntax, notation, axiom, sorry.
-/
import Derived.Test.YtnjkgbnkfncjkaaDoorChecked
import GoSem.Claim
import GoSem.ClaimJoined
import GoSem.ClaimMapViews
import Derived.JoinedTies
import Derived.KernelRfl
namespace Go.Proofs.YtnjkgbnkfncjkaaDoor
/- THE CELL 'sum', in the pinned program and in every row, IS THE sha256 OF THE DUMP (.gsa) THAT YtnjkgbnkfncjkaaDoorProg.lean LOADS. Nothing in Lean hashes anything: it is a label: what it is worth is what the hold of that sum in a sandbox is worth. -/
noncomputable def Tryd.pinned : Pinned := { name := "ytnjkgbnkfncjkaadoor", sum := "399a71838f121734759a23cd93dc62da0af7d5dcea414e241f0ca86edfb10389", checked := Tryd.checked }
namespace Rows
def none {H : Type} : Left H := { results := [], args := [] }

/- WHAT THE LISTED PACKAGE-LEVEL VARIABLES READ AS WHEN THE CALL BEGINS. Each datum BY PROGRAM (the guide's laid-datum.mjs) off the statement by which the dump's own 'gosem.cut.vars' lays the variable. In a bare row this is a premise. The card (YtnjkgbnkfncjkaaDoorCards.lean) ties it to the program's text. -/
def laid_tidewrack_glyph_leads {H : Type} : DataW H := .agg [.agg [.lit (.int .u8 0), .lit (.int .u8 127), .lit (.int .u8 127), .lit (.int .i64 0), .lit (.int .u8 0), .lit (.int .u8 0)], .agg [.lit (.int .u8 194), .lit (.int .u8 223), .lit (.int .u8 31), .lit (.int .i64 1), .lit (.int .u8 128), .lit (.int .u8 191)], .agg [.lit (.int .u8 224), .lit (.int .u8 224), .lit (.int .u8 15), .lit (.int .i64 2), .lit (.int .u8 160), .lit (.int .u8 191)], .agg [.lit (.int .u8 225), .lit (.int .u8 236), .lit (.int .u8 15), .lit (.int .i64 2), .lit (.int .u8 128), .lit (.int .u8 191)], .agg [.lit (.int .u8 237), .lit (.int .u8 237), .lit (.int .u8 15), .lit (.int .i64 2), .lit (.int .u8 128), .lit (.int .u8 159)], .agg [.lit (.int .u8 238), .lit (.int .u8 239), .lit (.int .u8 15), .lit (.int .i64 2), .lit (.int .u8 128), .lit (.int .u8 191)], .agg [.lit (.int .u8 240), .lit (.int .u8 240), .lit (.int .u8 7), .lit (.int .i64 3), .lit (.int .u8 144), .lit (.int .u8 191)], .agg [.lit (.int .u8 241), .lit (.int .u8 243), .lit (.int .u8 7), .lit (.int .i64 3), .lit (.int .u8 128), .lit (.int .u8 191)], .agg [.lit (.int .u8 244), .lit (.int .u8 244), .lit (.int .u8 7), .lit (.int .i64 3), .lit (.int .u8 128), .lit (.int .u8 143)]]
def laid_tidewrack_wide_spans {H : Type} : DataW H := .agg [.agg [.lit (.int .i32 (-2147483648)), .lit (.int .i32 31), .lit (.int .i64 0)], .agg [.lit (.int .i32 127), .lit (.int .i32 159), .lit (.int .i64 0)], .agg [.lit (.int .i32 768), .lit (.int .i32 879), .lit (.int .i64 0)], .agg [.lit (.int .i32 4352), .lit (.int .i32 4447), .lit (.int .i64 2)], .agg [.lit (.int .i32 6832), .lit (.int .i32 6911), .lit (.int .i64 0)], .agg [.lit (.int .i32 7616), .lit (.int .i32 7679), .lit (.int .i64 0)], .agg [.lit (.int .i32 8203), .lit (.int .i32 8207), .lit (.int .i64 0)], .agg [.lit (.int .i32 8400), .lit (.int .i32 8447), .lit (.int .i64 0)], .agg [.lit (.int .i32 11904), .lit (.int .i32 12350), .lit (.int .i64 2)], .agg [.lit (.int .i32 12353), .lit (.int .i32 13311), .lit (.int .i64 2)], .agg [.lit (.int .i32 13312), .lit (.int .i32 19903), .lit (.int .i64 2)], .agg [.lit (.int .i32 19968), .lit (.int .i32 40959), .lit (.int .i64 2)], .agg [.lit (.int .i32 40960), .lit (.int .i32 42191), .lit (.int .i64 2)], .agg [.lit (.int .i32 44032), .lit (.int .i32 55203), .lit (.int .i64 2)], .agg [.lit (.int .i32 55296), .lit (.int .i32 57343), .lit (.int .i64 0)], .agg [.lit (.int .i32 63744), .lit (.int .i32 64255), .lit (.int .i64 2)], .agg [.lit (.int .i32 65024), .lit (.int .i32 65039), .lit (.int .i64 0)], .agg [.lit (.int .i32 65056), .lit (.int .i32 65071), .lit (.int .i64 0)], .agg [.lit (.int .i32 65072), .lit (.int .i32 65135), .lit (.int .i64 2)], .agg [.lit (.int .i32 65279), .lit (.int .i32 65279), .lit (.int .i64 0)], .agg [.lit (.int .i32 65280), .lit (.int .i32 65376), .lit (.int .i64 2)], .agg [.lit (.int .i32 65504), .lit (.int .i32 65510), .lit (.int .i64 2)], .agg [.lit (.int .i32 127744), .lit (.int .i32 128591), .lit (.int .i64 2)], .agg [.lit (.int .i32 129280), .lit (.int .i32 129535), .lit (.int .i64 2)], .agg [.lit (.int .i32 131072), .lit (.int .i32 262141), .lit (.int .i64 2)], .agg [.lit (.int .i32 917760), .lit (.int .i32 917999), .lit (.int .i64 0)], .agg [.lit (.int .i32 1114112), .lit (.int .i32 2147483647), .lit (.int .i64 0)]]

/-- 'tidewracklaw05.GlyphDecodes': WHATEVER THE INPUT: true; the input reads as it did. -/
def glyphDecodesSpec : ChangeSpec := { name := "glyphDecodes", fn := fun _ => fun
  | [d] => { results := [.lit (.bool true)], args := [d] }
  | _ => none }
def glyphDecodesRow : OpenClaim := { program := "ytnjkgbnkfncjkaadoor", sum := "399a71838f121734759a23cd93dc62da0af7d5dcea414e241f0ca86edfb10389", func := "tidewrack/tidewracklaw05.GlyphDecodes", spec := "glyphDecodes", named := ["tidewrack/glyph.leads"], apart := false, laid := [("tidewrack/glyph.leads", laid_tidewrack_glyph_leads)] }
def GlyphDecodesSaid : Prop := glyphDecodesRow.holds Tryd.pinned (OpenSpec.ofChange glyphDecodesSpec)

/-- ITS FALSE NEIGHBOUR: 'it returns false'. Refute it at one input. -/
def glyphDecodesWrong : ChangeSpec := { name := "glyphDecodes", fn := fun _ => fun
  | [d] => { results := [.lit (.bool false)], args := [d] }
  | _ => none }
def GlyphDecodesWrongFalsely : Prop := glyphDecodesRow.holds Tryd.pinned (OpenSpec.ofChange glyphDecodesWrong)

/-- 'tidewracklaw05.GlyphParts': WHATEVER THE INPUT: true; the input reads as it did. -/
def glyphPartsSpec : ChangeSpec := { name := "glyphParts", fn := fun _ => fun
  | [d1, d2] => { results := [.lit (.bool true)], args := [d1, d2] }
  | _ => none }
def glyphPartsRow : OpenClaim := { program := "ytnjkgbnkfncjkaadoor", sum := "399a71838f121734759a23cd93dc62da0af7d5dcea414e241f0ca86edfb10389", func := "tidewrack/tidewracklaw05.GlyphParts", spec := "glyphParts", named := ["tidewrack/glyph.leads"], apart := false, laid := [("tidewrack/glyph.leads", laid_tidewrack_glyph_leads)] }
def GlyphPartsSaid : Prop := glyphPartsRow.holds Tryd.pinned (OpenSpec.ofChange glyphPartsSpec)

/-- ITS FALSE NEIGHBOUR: 'it returns false'. Refute it at one input. -/
def glyphPartsWrong : ChangeSpec := { name := "glyphParts", fn := fun _ => fun
  | [d1, d2] => { results := [.lit (.bool false)], args := [d1, d2] }
  | _ => none }
def GlyphPartsWrongFalsely : Prop := glyphPartsRow.holds Tryd.pinned (OpenSpec.ofChange glyphPartsWrong)

/-- 'tidewracklaw05.GlyphBack': WHATEVER THE INPUT: true; the input reads as it did. -/
def glyphBackSpec : ChangeSpec := { name := "glyphBack", fn := fun _ => fun
  | [d] => { results := [.lit (.bool true)], args := [d] }
  | _ => none }
def glyphBackRow : OpenClaim := { program := "ytnjkgbnkfncjkaadoor", sum := "399a71838f121734759a23cd93dc62da0af7d5dcea414e241f0ca86edfb10389", func := "tidewrack/tidewracklaw05.GlyphBack", spec := "glyphBack", named := ["tidewrack/glyph.leads"], apart := false, laid := [("tidewrack/glyph.leads", laid_tidewrack_glyph_leads)] }
def GlyphBackSaid : Prop := glyphBackRow.holds Tryd.pinned (OpenSpec.ofChange glyphBackSpec)

/-- ITS FALSE NEIGHBOUR: 'it returns false'. Refute it at one input. -/
def glyphBackWrong : ChangeSpec := { name := "glyphBack", fn := fun _ => fun
  | [d] => { results := [.lit (.bool false)], args := [d] }
  | _ => none }
def GlyphBackWrongFalsely : Prop := glyphBackRow.holds Tryd.pinned (OpenSpec.ofChange glyphBackWrong)

/-- 'tidewracklaw05.GlyphHeals': WHATEVER THE INPUT: true; the input reads as it did. -/
def glyphHealsSpec : ChangeSpec := { name := "glyphHeals", fn := fun _ => fun
  | [d1, d2] => { results := [.lit (.bool true)], args := [d1, d2] }
  | _ => none }
def glyphHealsRow : OpenClaim := { program := "ytnjkgbnkfncjkaadoor", sum := "399a71838f121734759a23cd93dc62da0af7d5dcea414e241f0ca86edfb10389", func := "tidewrack/tidewracklaw05.GlyphHeals", spec := "glyphHeals", named := ["tidewrack/glyph.leads"], apart := false, laid := [("tidewrack/glyph.leads", laid_tidewrack_glyph_leads)] }
def GlyphHealsSaid : Prop := glyphHealsRow.holds Tryd.pinned (OpenSpec.ofChange glyphHealsSpec)

/-- ITS FALSE NEIGHBOUR: 'it returns false'. Refute it at one input. -/
def glyphHealsWrong : ChangeSpec := { name := "glyphHeals", fn := fun _ => fun
  | [d1, d2] => { results := [.lit (.bool false)], args := [d1, d2] }
  | _ => none }
def GlyphHealsWrongFalsely : Prop := glyphHealsRow.holds Tryd.pinned (OpenSpec.ofChange glyphHealsWrong)

/-- 'tidewracklaw05.GlyphValid': WHATEVER THE INPUT: true; the input reads as it did. -/
def glyphValidSpec : ChangeSpec := { name := "glyphValid", fn := fun _ => fun
  | [d] => { results := [.lit (.bool true)], args := [d] }
  | _ => none }
def glyphValidRow : OpenClaim := { program := "ytnjkgbnkfncjkaadoor", sum := "399a71838f121734759a23cd93dc62da0af7d5dcea414e241f0ca86edfb10389", func := "tidewrack/tidewracklaw05.GlyphValid", spec := "glyphValid", named := ["tidewrack/glyph.leads"], apart := false, laid := [("tidewrack/glyph.leads", laid_tidewrack_glyph_leads)] }
def GlyphValidSaid : Prop := glyphValidRow.holds Tryd.pinned (OpenSpec.ofChange glyphValidSpec)

/-- ITS FALSE NEIGHBOUR: 'it returns false'. Refute it at one input. -/
def glyphValidWrong : ChangeSpec := { name := "glyphValid", fn := fun _ => fun
  | [d] => { results := [.lit (.bool false)], args := [d] }
  | _ => none }
def GlyphValidWrongFalsely : Prop := glyphValidRow.holds Tryd.pinned (OpenSpec.ofChange glyphValidWrong)

/-- 'tidewracklaw06.WideTells': WHATEVER THE INPUT: true; the input reads as it did. -/
def wideTellsSpec : ChangeSpec := { name := "wideTells", fn := fun _ => fun
  | [d1, d2] => { results := [.lit (.bool true)], args := [d1, d2] }
  | _ => none }
def wideTellsRow : OpenClaim := { program := "ytnjkgbnkfncjkaadoor", sum := "399a71838f121734759a23cd93dc62da0af7d5dcea414e241f0ca86edfb10389", func := "tidewrack/tidewracklaw06.WideTells", spec := "wideTells", unfollowed := true, recurses := true, named := ["tidewrack/wide.spans"], apart := false, laid := [("tidewrack/wide.spans", laid_tidewrack_wide_spans)] }
def WideTellsSaid : Prop := wideTellsRow.holds Tryd.pinned (OpenSpec.ofChange wideTellsSpec)

/-- ITS FALSE NEIGHBOUR: 'it returns false'. Refute it at one input. -/
def wideTellsWrong : ChangeSpec := { name := "wideTells", fn := fun _ => fun
  | [d1, d2] => { results := [.lit (.bool false)], args := [d1, d2] }
  | _ => none }
def WideTellsWrongFalsely : Prop := wideTellsRow.holds Tryd.pinned (OpenSpec.ofChange wideTellsWrong)

/-- 'tidewracklaw06.WideFits': WHATEVER THE INPUT: true; the input reads as it did. -/
def wideFitsSpec : ChangeSpec := { name := "wideFits", fn := fun _ => fun
  | [d1, d2] => { results := [.lit (.bool true)], args := [d1, d2] }
  | _ => none }
def wideFitsRow : OpenClaim := { program := "ytnjkgbnkfncjkaadoor", sum := "399a71838f121734759a23cd93dc62da0af7d5dcea414e241f0ca86edfb10389", func := "tidewrack/tidewracklaw06.WideFits", spec := "wideFits", unfollowed := true, recurses := true, named := ["tidewrack/wide.spans"], apart := false, laid := [("tidewrack/wide.spans", laid_tidewrack_wide_spans)] }
def WideFitsSaid : Prop := wideFitsRow.holds Tryd.pinned (OpenSpec.ofChange wideFitsSpec)

/-- ITS FALSE NEIGHBOUR: 'it returns false'. Refute it at one input. -/
def wideFitsWrong : ChangeSpec := { name := "wideFits", fn := fun _ => fun
  | [d1, d2] => { results := [.lit (.bool false)], args := [d1, d2] }
  | _ => none }
def WideFitsWrongFalsely : Prop := wideFitsRow.holds Tryd.pinned (OpenSpec.ofChange wideFitsWrong)

/-- 'tidewracklaw06.WideAdds': WHATEVER THE INPUT: true; the input reads as it did. -/
def wideAddsSpec : ChangeSpec := { name := "wideAdds", fn := fun _ => fun
  | [d1, d2, d3] => { results := [.lit (.bool true)], args := [d1, d2, d3] }
  | _ => none }
def wideAddsRow : OpenClaim := { program := "ytnjkgbnkfncjkaadoor", sum := "399a71838f121734759a23cd93dc62da0af7d5dcea414e241f0ca86edfb10389", func := "tidewrack/tidewracklaw06.WideAdds", spec := "wideAdds", unfollowed := true, recurses := true, named := ["tidewrack/wide.spans"], apart := false, laid := [("tidewrack/wide.spans", laid_tidewrack_wide_spans)] }
def WideAddsSaid : Prop := wideAddsRow.holds Tryd.pinned (OpenSpec.ofChange wideAddsSpec)

/-- ITS FALSE NEIGHBOUR: 'it returns false'. Refute it at one input. -/
def wideAddsWrong : ChangeSpec := { name := "wideAdds", fn := fun _ => fun
  | [d1, d2, d3] => { results := [.lit (.bool false)], args := [d1, d2, d3] }
  | _ => none }
def WideAddsWrongFalsely : Prop := wideAddsRow.holds Tryd.pinned (OpenSpec.ofChange wideAddsWrong)

/-- 'tidewracktop.TidewrackColumns': WHATEVER THE INPUT: true; the input reads as it did. -/
def tidewrackColumnsSpec : ChangeSpec := { name := "tidewrackColumns", fn := fun _ => fun
  | [d1, d2] => { results := [.lit (.bool true)], args := [d1, d2] }
  | _ => none }
def tidewrackColumnsRow : OpenClaim := { program := "ytnjkgbnkfncjkaadoor", sum := "399a71838f121734759a23cd93dc62da0af7d5dcea414e241f0ca86edfb10389", func := "tidewrack/tidewracktop.TidewrackColumns", spec := "tidewrackColumns", unfollowed := true, recurses := true, named := ["tidewrack/wide.spans", "tidewrack/glyph.leads"], apart := false, laid := [("tidewrack/glyph.leads", laid_tidewrack_glyph_leads), ("tidewrack/wide.spans", laid_tidewrack_wide_spans)] }
def TidewrackColumnsSaid : Prop := tidewrackColumnsRow.holds Tryd.pinned (OpenSpec.ofChange tidewrackColumnsSpec)

/-- ITS FALSE NEIGHBOUR: 'it returns false'. Refute it at one input. -/
def tidewrackColumnsWrong : ChangeSpec := { name := "tidewrackColumns", fn := fun _ => fun
  | [d1, d2] => { results := [.lit (.bool false)], args := [d1, d2] }
  | _ => none }
def TidewrackColumnsWrongFalsely : Prop := tidewrackColumnsRow.holds Tryd.pinned (OpenSpec.ofChange tidewrackColumnsWrong)

/- THE SECOND FORM. 'bulk': how many values and letters a reading holds, each counted each time it is reached (what is shared counts as often as it is met; a slice's spare places count too). A statement '..UptoSaid' is the law's where the arguments, and the package variables that the reading takes, are together of bulk at most 1048576: NARROWER than '..Said'. Prove '..Said' where nothing that the law and all that it calls make is longer than what came in: it says more and counts as full. Else prove '..UptoSaid'. A law counts once. -/
mutual
def uptoBulk {H : Type} : DataW H → Nat
  | .lit (.string bytes) => bytes.length + 1
  | .lit _ => 1
  | .nil => 1
  | .ptr d => uptoBulk d + 1
  | .slice elems spare => uptoBulkAll elems + uptoBulkAll spare + 1
  | .agg parts => uptoBulkAll parts + 1
  | .iface _ d => uptoBulk d + 1
  | .map entries => uptoBulkEntries entries + 1
  | .held _ => 1
def uptoBulkAll {H : Type} : List (DataW H) → Nat
  | [] => 0
  | d :: r => uptoBulk d + uptoBulkAll r
def uptoBulkEntries {H : Type} : List (Lit × DataW H) → Nat
  | [] => 0
  | x :: r => uptoBulkEntry x + uptoBulkEntries r
def uptoBulkEntry {H : Type} : Lit × DataW H → Nat
  | (.string bytes, d) => bytes.length + uptoBulk d + 1
  | (_, d) => uptoBulk d + 1
 end
def uptoSmall : (H : Type) → List (DataW H) → Bool := fun _ ds => decide (uptoBulkAll ds ≤ 1048576)
def OpenSpec.upto (s : _root_.Go.ChangeSpec) : _root_.Go.OpenSpec := { _root_.Go.OpenSpec.ofChange s with cond := some uptoSmall }

/-- 'tidewracklaw05.GlyphDecodes', WHERE WHAT IT READS IS OF BULK AT MOST 1048576: true; the input reads as it did. -/
def glyphDecodesUptoRow : OpenClaim := { program := "ytnjkgbnkfncjkaadoor", sum := "399a71838f121734759a23cd93dc62da0af7d5dcea414e241f0ca86edfb10389", func := "tidewrack/tidewracklaw05.GlyphDecodes", spec := "glyphDecodes", named := ["tidewrack/glyph.leads"], apart := false, laid := [("tidewrack/glyph.leads", laid_tidewrack_glyph_leads)], narrowed := true }
def GlyphDecodesUptoSaid : Prop := glyphDecodesUptoRow.holds Tryd.pinned (OpenSpec.upto glyphDecodesSpec)

/-- 'tidewracklaw05.GlyphParts', WHERE WHAT IT READS IS OF BULK AT MOST 1048576: true; the input reads as it did. -/
def glyphPartsUptoRow : OpenClaim := { program := "ytnjkgbnkfncjkaadoor", sum := "399a71838f121734759a23cd93dc62da0af7d5dcea414e241f0ca86edfb10389", func := "tidewrack/tidewracklaw05.GlyphParts", spec := "glyphParts", named := ["tidewrack/glyph.leads"], apart := false, laid := [("tidewrack/glyph.leads", laid_tidewrack_glyph_leads)], narrowed := true }
def GlyphPartsUptoSaid : Prop := glyphPartsUptoRow.holds Tryd.pinned (OpenSpec.upto glyphPartsSpec)

/-- 'tidewracklaw05.GlyphBack', WHERE WHAT IT READS IS OF BULK AT MOST 1048576: true; the input reads as it did. -/
def glyphBackUptoRow : OpenClaim := { program := "ytnjkgbnkfncjkaadoor", sum := "399a71838f121734759a23cd93dc62da0af7d5dcea414e241f0ca86edfb10389", func := "tidewrack/tidewracklaw05.GlyphBack", spec := "glyphBack", named := ["tidewrack/glyph.leads"], apart := false, laid := [("tidewrack/glyph.leads", laid_tidewrack_glyph_leads)], narrowed := true }
def GlyphBackUptoSaid : Prop := glyphBackUptoRow.holds Tryd.pinned (OpenSpec.upto glyphBackSpec)

/-- 'tidewracklaw05.GlyphHeals', WHERE WHAT IT READS IS OF BULK AT MOST 1048576: true; the input reads as it did. -/
def glyphHealsUptoRow : OpenClaim := { program := "ytnjkgbnkfncjkaadoor", sum := "399a71838f121734759a23cd93dc62da0af7d5dcea414e241f0ca86edfb10389", func := "tidewrack/tidewracklaw05.GlyphHeals", spec := "glyphHeals", named := ["tidewrack/glyph.leads"], apart := false, laid := [("tidewrack/glyph.leads", laid_tidewrack_glyph_leads)], narrowed := true }
def GlyphHealsUptoSaid : Prop := glyphHealsUptoRow.holds Tryd.pinned (OpenSpec.upto glyphHealsSpec)

/-- 'tidewracklaw05.GlyphValid', WHERE WHAT IT READS IS OF BULK AT MOST 1048576: true; the input reads as it did. -/
def glyphValidUptoRow : OpenClaim := { program := "ytnjkgbnkfncjkaadoor", sum := "399a71838f121734759a23cd93dc62da0af7d5dcea414e241f0ca86edfb10389", func := "tidewrack/tidewracklaw05.GlyphValid", spec := "glyphValid", named := ["tidewrack/glyph.leads"], apart := false, laid := [("tidewrack/glyph.leads", laid_tidewrack_glyph_leads)], narrowed := true }
def GlyphValidUptoSaid : Prop := glyphValidUptoRow.holds Tryd.pinned (OpenSpec.upto glyphValidSpec)

/-- 'tidewracklaw06.WideTells', WHERE WHAT IT READS IS OF BULK AT MOST 1048576: true; the input reads as it did. -/
def wideTellsUptoRow : OpenClaim := { program := "ytnjkgbnkfncjkaadoor", sum := "399a71838f121734759a23cd93dc62da0af7d5dcea414e241f0ca86edfb10389", func := "tidewrack/tidewracklaw06.WideTells", spec := "wideTells", unfollowed := true, recurses := true, named := ["tidewrack/wide.spans"], apart := false, laid := [("tidewrack/wide.spans", laid_tidewrack_wide_spans)], narrowed := true }
def WideTellsUptoSaid : Prop := wideTellsUptoRow.holds Tryd.pinned (OpenSpec.upto wideTellsSpec)

/-- 'tidewracklaw06.WideFits', WHERE WHAT IT READS IS OF BULK AT MOST 1048576: true; the input reads as it did. -/
def wideFitsUptoRow : OpenClaim := { program := "ytnjkgbnkfncjkaadoor", sum := "399a71838f121734759a23cd93dc62da0af7d5dcea414e241f0ca86edfb10389", func := "tidewrack/tidewracklaw06.WideFits", spec := "wideFits", unfollowed := true, recurses := true, named := ["tidewrack/wide.spans"], apart := false, laid := [("tidewrack/wide.spans", laid_tidewrack_wide_spans)], narrowed := true }
def WideFitsUptoSaid : Prop := wideFitsUptoRow.holds Tryd.pinned (OpenSpec.upto wideFitsSpec)

/-- 'tidewracklaw06.WideAdds', WHERE WHAT IT READS IS OF BULK AT MOST 1048576: true; the input reads as it did. -/
def wideAddsUptoRow : OpenClaim := { program := "ytnjkgbnkfncjkaadoor", sum := "399a71838f121734759a23cd93dc62da0af7d5dcea414e241f0ca86edfb10389", func := "tidewrack/tidewracklaw06.WideAdds", spec := "wideAdds", unfollowed := true, recurses := true, named := ["tidewrack/wide.spans"], apart := false, laid := [("tidewrack/wide.spans", laid_tidewrack_wide_spans)], narrowed := true }
def WideAddsUptoSaid : Prop := wideAddsUptoRow.holds Tryd.pinned (OpenSpec.upto wideAddsSpec)

/-- 'tidewracktop.TidewrackColumns', WHERE WHAT IT READS IS OF BULK AT MOST 1048576: true; the input reads as it did. -/
def tidewrackColumnsUptoRow : OpenClaim := { program := "ytnjkgbnkfncjkaadoor", sum := "399a71838f121734759a23cd93dc62da0af7d5dcea414e241f0ca86edfb10389", func := "tidewrack/tidewracktop.TidewrackColumns", spec := "tidewrackColumns", unfollowed := true, recurses := true, named := ["tidewrack/wide.spans", "tidewrack/glyph.leads"], apart := false, laid := [("tidewrack/glyph.leads", laid_tidewrack_glyph_leads), ("tidewrack/wide.spans", laid_tidewrack_wide_spans)], narrowed := true }
def TidewrackColumnsUptoSaid : Prop := tidewrackColumnsUptoRow.holds Tryd.pinned (OpenSpec.upto tidewrackColumnsSpec)

end Rows
end Go.Proofs.YtnjkgbnkfncjkaaDoor
