/-
  NARROWER THAN 'FOR EVERY INPUT', by the rows' own cells (each row's printed sentence says how): RowPlays: laid · RowKeeps: laid · RowLength: laid · RowColumns: laid · GridPlays: laid · GridClones: laid · GridRegions: laid · GridSteps: laid · GridRows: laid · TidewrackShown: laid.
  DERIVED. THE GIVEN ROWS OF THIS SEAT. 10 by the template 'for every input the law returns true; each argument reads behind the call as it read before'; 0 by the template 'total and deterministic' (their statements: YtmdnnpcofbhceaaDoorTotals.lean).
  GIVEN WITH THE SEED: the statements are not yours to turn. If you find one false, say at which input.
  Laid BY PROGRAM, IN A SANDBOX (cutbox-rows.mjs): the forced cells as the released guide's own fill.sh prints them over the translation 3484e5d7f967b4f8… (all of the seat's roots in one cut). By AI agents, Wed Nov 11 2026. No macro, syntax, notation, axiom, sorry.
-/
import Derived.Test.YtmdnnpcofbhceaaDoorChecked
import GoSem.Claim
import GoSem.ClaimJoined
import GoSem.ClaimMapViews
import Derived.JoinedTies
import Derived.KernelRfl
namespace Go.Proofs.YtmdnnpcofbhceaaDoor
/- THE CELL 'sum', in the pinned program and in every row, IS THE sha256 OF THE DUMP (.gsa) THAT YtmdnnpcofbhceaaDoorProg.lean LOADS. Nothing in Lean hashes anything: it is a label: what it is worth is what the hold of that sum in a sandbox is worth. -/
noncomputable def Tryd.pinned : Pinned := { name := "ytmdnnpcofbhceaadoor", sum := "3484e5d7f967b4f83013170555a211b0e601ed69fea3f34e5995550a9806dddb", checked := Tryd.checked }
namespace Rows
def none {H : Type} : Left H := { results := [], args := [] }

/- WHAT THE LISTED PACKAGE-LEVEL VARIABLES READ AS WHEN THE CALL BEGINS. Each datum BY PROGRAM (the guide's laid-datum.mjs) off the statement by which the dump's own 'gosem.cut.vars' lays the variable. In a bare row this is a premise. The card (YtmdnnpcofbhceaaDoorCards.lean) ties it to the program's text. -/
def laid_tidewrack_wide_spans {H : Type} : DataW H := .agg [.agg [.lit (.int .i32 (-2147483648)), .lit (.int .i32 31), .lit (.int .i64 0)], .agg [.lit (.int .i32 127), .lit (.int .i32 159), .lit (.int .i64 0)], .agg [.lit (.int .i32 768), .lit (.int .i32 879), .lit (.int .i64 0)], .agg [.lit (.int .i32 4352), .lit (.int .i32 4447), .lit (.int .i64 2)], .agg [.lit (.int .i32 6832), .lit (.int .i32 6911), .lit (.int .i64 0)], .agg [.lit (.int .i32 7616), .lit (.int .i32 7679), .lit (.int .i64 0)], .agg [.lit (.int .i32 8203), .lit (.int .i32 8207), .lit (.int .i64 0)], .agg [.lit (.int .i32 8400), .lit (.int .i32 8447), .lit (.int .i64 0)], .agg [.lit (.int .i32 11904), .lit (.int .i32 12350), .lit (.int .i64 2)], .agg [.lit (.int .i32 12353), .lit (.int .i32 13311), .lit (.int .i64 2)], .agg [.lit (.int .i32 13312), .lit (.int .i32 19903), .lit (.int .i64 2)], .agg [.lit (.int .i32 19968), .lit (.int .i32 40959), .lit (.int .i64 2)], .agg [.lit (.int .i32 40960), .lit (.int .i32 42191), .lit (.int .i64 2)], .agg [.lit (.int .i32 44032), .lit (.int .i32 55203), .lit (.int .i64 2)], .agg [.lit (.int .i32 55296), .lit (.int .i32 57343), .lit (.int .i64 0)], .agg [.lit (.int .i32 63744), .lit (.int .i32 64255), .lit (.int .i64 2)], .agg [.lit (.int .i32 65024), .lit (.int .i32 65039), .lit (.int .i64 0)], .agg [.lit (.int .i32 65056), .lit (.int .i32 65071), .lit (.int .i64 0)], .agg [.lit (.int .i32 65072), .lit (.int .i32 65135), .lit (.int .i64 2)], .agg [.lit (.int .i32 65279), .lit (.int .i32 65279), .lit (.int .i64 0)], .agg [.lit (.int .i32 65280), .lit (.int .i32 65376), .lit (.int .i64 2)], .agg [.lit (.int .i32 65504), .lit (.int .i32 65510), .lit (.int .i64 2)], .agg [.lit (.int .i32 127744), .lit (.int .i32 128591), .lit (.int .i64 2)], .agg [.lit (.int .i32 129280), .lit (.int .i32 129535), .lit (.int .i64 2)], .agg [.lit (.int .i32 131072), .lit (.int .i32 262141), .lit (.int .i64 2)], .agg [.lit (.int .i32 917760), .lit (.int .i32 917999), .lit (.int .i64 0)], .agg [.lit (.int .i32 1114112), .lit (.int .i32 2147483647), .lit (.int .i64 0)]]

/-- 'tidewracklaw09.RowPlays': WHATEVER THE INPUT: true; the input reads as it did. -/
def rowPlaysSpec : ChangeSpec := { name := "rowPlays", fn := fun _ => fun
  | [d1, d2, d3] => { results := [.lit (.bool true)], args := [d1, d2, d3] }
  | _ => none }
def rowPlaysRow : OpenClaim := { program := "ytmdnnpcofbhceaadoor", sum := "3484e5d7f967b4f83013170555a211b0e601ed69fea3f34e5995550a9806dddb", func := "tidewrack/tidewracklaw09.RowPlays", spec := "rowPlays", named := ["tidewrack/wide.spans"], apart := false, laid := [("tidewrack/wide.spans", laid_tidewrack_wide_spans)] }
def RowPlaysSaid : Prop := rowPlaysRow.holds Tryd.pinned (OpenSpec.ofChange rowPlaysSpec)

/-- ITS FALSE NEIGHBOUR: 'it returns false'. Refute it at one input. -/
def rowPlaysWrong : ChangeSpec := { name := "rowPlays", fn := fun _ => fun
  | [d1, d2, d3] => { results := [.lit (.bool false)], args := [d1, d2, d3] }
  | _ => none }
def RowPlaysWrongFalsely : Prop := rowPlaysRow.holds Tryd.pinned (OpenSpec.ofChange rowPlaysWrong)

/-- 'tidewracklaw09.RowKeeps': WHATEVER THE INPUT: true; the input reads as it did. -/
def rowKeepsSpec : ChangeSpec := { name := "rowKeeps", fn := fun _ => fun
  | [d1, d2, d3] => { results := [.lit (.bool true)], args := [d1, d2, d3] }
  | _ => none }
def rowKeepsRow : OpenClaim := { program := "ytmdnnpcofbhceaadoor", sum := "3484e5d7f967b4f83013170555a211b0e601ed69fea3f34e5995550a9806dddb", func := "tidewrack/tidewracklaw09.RowKeeps", spec := "rowKeeps", named := ["tidewrack/wide.spans"], apart := false, laid := [("tidewrack/wide.spans", laid_tidewrack_wide_spans)] }
def RowKeepsSaid : Prop := rowKeepsRow.holds Tryd.pinned (OpenSpec.ofChange rowKeepsSpec)

/-- ITS FALSE NEIGHBOUR: 'it returns false'. Refute it at one input. -/
def rowKeepsWrong : ChangeSpec := { name := "rowKeeps", fn := fun _ => fun
  | [d1, d2, d3] => { results := [.lit (.bool false)], args := [d1, d2, d3] }
  | _ => none }
def RowKeepsWrongFalsely : Prop := rowKeepsRow.holds Tryd.pinned (OpenSpec.ofChange rowKeepsWrong)

/-- 'tidewracklaw09.RowLength': WHATEVER THE INPUT: true; the input reads as it did. -/
def rowLengthSpec : ChangeSpec := { name := "rowLength", fn := fun _ => fun
  | [d1, d2, d3] => { results := [.lit (.bool true)], args := [d1, d2, d3] }
  | _ => none }
def rowLengthRow : OpenClaim := { program := "ytmdnnpcofbhceaadoor", sum := "3484e5d7f967b4f83013170555a211b0e601ed69fea3f34e5995550a9806dddb", func := "tidewrack/tidewracklaw09.RowLength", spec := "rowLength", named := ["tidewrack/wide.spans"], apart := false, laid := [("tidewrack/wide.spans", laid_tidewrack_wide_spans)] }
def RowLengthSaid : Prop := rowLengthRow.holds Tryd.pinned (OpenSpec.ofChange rowLengthSpec)

/-- ITS FALSE NEIGHBOUR: 'it returns false'. Refute it at one input. -/
def rowLengthWrong : ChangeSpec := { name := "rowLength", fn := fun _ => fun
  | [d1, d2, d3] => { results := [.lit (.bool false)], args := [d1, d2, d3] }
  | _ => none }
def RowLengthWrongFalsely : Prop := rowLengthRow.holds Tryd.pinned (OpenSpec.ofChange rowLengthWrong)

/-- 'tidewracklaw09.RowColumns': WHATEVER THE INPUT: true; the input reads as it did. -/
def rowColumnsSpec : ChangeSpec := { name := "rowColumns", fn := fun _ => fun
  | [d1, d2] => { results := [.lit (.bool true)], args := [d1, d2] }
  | _ => none }
def rowColumnsRow : OpenClaim := { program := "ytmdnnpcofbhceaadoor", sum := "3484e5d7f967b4f83013170555a211b0e601ed69fea3f34e5995550a9806dddb", func := "tidewrack/tidewracklaw09.RowColumns", spec := "rowColumns", named := ["tidewrack/wide.spans"], apart := false, laid := [("tidewrack/wide.spans", laid_tidewrack_wide_spans)] }
def RowColumnsSaid : Prop := rowColumnsRow.holds Tryd.pinned (OpenSpec.ofChange rowColumnsSpec)

/-- ITS FALSE NEIGHBOUR: 'it returns false'. Refute it at one input. -/
def rowColumnsWrong : ChangeSpec := { name := "rowColumns", fn := fun _ => fun
  | [d1, d2] => { results := [.lit (.bool false)], args := [d1, d2] }
  | _ => none }
def RowColumnsWrongFalsely : Prop := rowColumnsRow.holds Tryd.pinned (OpenSpec.ofChange rowColumnsWrong)

/-- 'tidewracklaw10.GridPlays': WHATEVER THE INPUT: true; the input reads as it did. -/
def gridPlaysSpec : ChangeSpec := { name := "gridPlays", fn := fun _ => fun
  | [d1, d2, d3] => { results := [.lit (.bool true)], args := [d1, d2, d3] }
  | _ => none }
def gridPlaysRow : OpenClaim := { program := "ytmdnnpcofbhceaadoor", sum := "3484e5d7f967b4f83013170555a211b0e601ed69fea3f34e5995550a9806dddb", func := "tidewrack/tidewracklaw10.GridPlays", spec := "gridPlays", unfollowed := true, recurses := true, named := ["tidewrack/wide.spans"], apart := false, laid := [("tidewrack/wide.spans", laid_tidewrack_wide_spans)] }
def GridPlaysSaid : Prop := gridPlaysRow.holds Tryd.pinned (OpenSpec.ofChange gridPlaysSpec)

/-- ITS FALSE NEIGHBOUR: 'it returns false'. Refute it at one input. -/
def gridPlaysWrong : ChangeSpec := { name := "gridPlays", fn := fun _ => fun
  | [d1, d2, d3] => { results := [.lit (.bool false)], args := [d1, d2, d3] }
  | _ => none }
def GridPlaysWrongFalsely : Prop := gridPlaysRow.holds Tryd.pinned (OpenSpec.ofChange gridPlaysWrong)

/-- 'tidewracklaw10.GridClones': WHATEVER THE INPUT: true; the input reads as it did. -/
def gridClonesSpec : ChangeSpec := { name := "gridClones", fn := fun _ => fun
  | [d1, d2] => { results := [.lit (.bool true)], args := [d1, d2] }
  | _ => none }
def gridClonesRow : OpenClaim := { program := "ytmdnnpcofbhceaadoor", sum := "3484e5d7f967b4f83013170555a211b0e601ed69fea3f34e5995550a9806dddb", func := "tidewrack/tidewracklaw10.GridClones", spec := "gridClones", unfollowed := true, recurses := true, named := ["tidewrack/wide.spans"], apart := false, laid := [("tidewrack/wide.spans", laid_tidewrack_wide_spans)] }
def GridClonesSaid : Prop := gridClonesRow.holds Tryd.pinned (OpenSpec.ofChange gridClonesSpec)

/-- ITS FALSE NEIGHBOUR: 'it returns false'. Refute it at one input. -/
def gridClonesWrong : ChangeSpec := { name := "gridClones", fn := fun _ => fun
  | [d1, d2] => { results := [.lit (.bool false)], args := [d1, d2] }
  | _ => none }
def GridClonesWrongFalsely : Prop := gridClonesRow.holds Tryd.pinned (OpenSpec.ofChange gridClonesWrong)

/-- 'tidewracklaw10.GridRegions': WHATEVER THE INPUT: true; the input reads as it did. -/
def gridRegionsSpec : ChangeSpec := { name := "gridRegions", fn := fun _ => fun
  | [d1, d2] => { results := [.lit (.bool true)], args := [d1, d2] }
  | _ => none }
def gridRegionsRow : OpenClaim := { program := "ytmdnnpcofbhceaadoor", sum := "3484e5d7f967b4f83013170555a211b0e601ed69fea3f34e5995550a9806dddb", func := "tidewrack/tidewracklaw10.GridRegions", spec := "gridRegions", unfollowed := true, recurses := true, named := ["tidewrack/wide.spans"], apart := false, laid := [("tidewrack/wide.spans", laid_tidewrack_wide_spans)] }
def GridRegionsSaid : Prop := gridRegionsRow.holds Tryd.pinned (OpenSpec.ofChange gridRegionsSpec)

/-- ITS FALSE NEIGHBOUR: 'it returns false'. Refute it at one input. -/
def gridRegionsWrong : ChangeSpec := { name := "gridRegions", fn := fun _ => fun
  | [d1, d2] => { results := [.lit (.bool false)], args := [d1, d2] }
  | _ => none }
def GridRegionsWrongFalsely : Prop := gridRegionsRow.holds Tryd.pinned (OpenSpec.ofChange gridRegionsWrong)

/-- 'tidewracklaw10.GridSteps': WHATEVER THE INPUT: true; the input reads as it did. -/
def gridStepsSpec : ChangeSpec := { name := "gridSteps", fn := fun _ => fun
  | [d1, d2, d3] => { results := [.lit (.bool true)], args := [d1, d2, d3] }
  | _ => none }
def gridStepsRow : OpenClaim := { program := "ytmdnnpcofbhceaadoor", sum := "3484e5d7f967b4f83013170555a211b0e601ed69fea3f34e5995550a9806dddb", func := "tidewrack/tidewracklaw10.GridSteps", spec := "gridSteps", unfollowed := true, recurses := true, named := ["tidewrack/wide.spans"], apart := false, laid := [("tidewrack/wide.spans", laid_tidewrack_wide_spans)] }
def GridStepsSaid : Prop := gridStepsRow.holds Tryd.pinned (OpenSpec.ofChange gridStepsSpec)

/-- ITS FALSE NEIGHBOUR: 'it returns false'. Refute it at one input. -/
def gridStepsWrong : ChangeSpec := { name := "gridSteps", fn := fun _ => fun
  | [d1, d2, d3] => { results := [.lit (.bool false)], args := [d1, d2, d3] }
  | _ => none }
def GridStepsWrongFalsely : Prop := gridStepsRow.holds Tryd.pinned (OpenSpec.ofChange gridStepsWrong)

/-- 'tidewracklaw10.GridRows': WHATEVER THE INPUT: true; the input reads as it did. -/
def gridRowsSpec : ChangeSpec := { name := "gridRows", fn := fun _ => fun
  | [d1, d2, d3] => { results := [.lit (.bool true)], args := [d1, d2, d3] }
  | _ => none }
def gridRowsRow : OpenClaim := { program := "ytmdnnpcofbhceaadoor", sum := "3484e5d7f967b4f83013170555a211b0e601ed69fea3f34e5995550a9806dddb", func := "tidewrack/tidewracklaw10.GridRows", spec := "gridRows", unfollowed := true, recurses := true, named := ["tidewrack/wide.spans"], apart := false, laid := [("tidewrack/wide.spans", laid_tidewrack_wide_spans)] }
def GridRowsSaid : Prop := gridRowsRow.holds Tryd.pinned (OpenSpec.ofChange gridRowsSpec)

/-- ITS FALSE NEIGHBOUR: 'it returns false'. Refute it at one input. -/
def gridRowsWrong : ChangeSpec := { name := "gridRows", fn := fun _ => fun
  | [d1, d2, d3] => { results := [.lit (.bool false)], args := [d1, d2, d3] }
  | _ => none }
def GridRowsWrongFalsely : Prop := gridRowsRow.holds Tryd.pinned (OpenSpec.ofChange gridRowsWrong)

/-- 'tidewracktop.TidewrackShown': WHATEVER THE INPUT: true; the input reads as it did. -/
def tidewrackShownSpec : ChangeSpec := { name := "tidewrackShown", fn := fun _ => fun
  | [d1, d2, d3] => { results := [.lit (.bool true)], args := [d1, d2, d3] }
  | _ => none }
def tidewrackShownRow : OpenClaim := { program := "ytmdnnpcofbhceaadoor", sum := "3484e5d7f967b4f83013170555a211b0e601ed69fea3f34e5995550a9806dddb", func := "tidewrack/tidewracktop.TidewrackShown", spec := "tidewrackShown", named := ["tidewrack/wide.spans"], apart := false, laid := [("tidewrack/wide.spans", laid_tidewrack_wide_spans)] }
def TidewrackShownSaid : Prop := tidewrackShownRow.holds Tryd.pinned (OpenSpec.ofChange tidewrackShownSpec)

/-- ITS FALSE NEIGHBOUR: 'it returns false'. Refute it at one input. -/
def tidewrackShownWrong : ChangeSpec := { name := "tidewrackShown", fn := fun _ => fun
  | [d1, d2, d3] => { results := [.lit (.bool false)], args := [d1, d2, d3] }
  | _ => none }
def TidewrackShownWrongFalsely : Prop := tidewrackShownRow.holds Tryd.pinned (OpenSpec.ofChange tidewrackShownWrong)

/- THE SECOND FORM. 'bulk': how many values and letters a reading holds, each counted each time it is reached (what is shared counts as often as it is met; a slice's spare places count too). A statement '..UptoSaid' is the law's where the arguments, and the package variables that the reading takes, are together of bulk at most 1048576: NARROWER than '..Said'. Prove '..Said' where nothing that the law and all that it calls make is longer than what came in: it says more and counts as full. Else prove '..UptoSaid'. A law counts once. -/
mutual
def uptoBulk {H : Type} : DataW H → Nat
  | .lit (.string bytes) => bytes.length + 1
  | .lit _ => 1
  | .nil => 1
  | .ptr d => uptoBulk d + 1
  | .slice elems spare => uptoBulkAll elems + uptoBulkAll spare + 1
  | .agg parts => uptoBulkAll parts + 1
  | .iface _ d => uptoBulk d + 1
  | .map entries => uptoBulkEntries entries + 1
  | .held _ => 1
def uptoBulkAll {H : Type} : List (DataW H) → Nat
  | [] => 0
  | d :: r => uptoBulk d + uptoBulkAll r
def uptoBulkEntries {H : Type} : List (Lit × DataW H) → Nat
  | [] => 0
  | x :: r => uptoBulkEntry x + uptoBulkEntries r
def uptoBulkEntry {H : Type} : Lit × DataW H → Nat
  | (.string bytes, d) => bytes.length + uptoBulk d + 1
  | (_, d) => uptoBulk d + 1
 end
def uptoSmall : (H : Type) → List (DataW H) → Bool := fun _ ds => decide (uptoBulkAll ds ≤ 1048576)
def OpenSpec.upto (s : _root_.Go.ChangeSpec) : _root_.Go.OpenSpec := { _root_.Go.OpenSpec.ofChange s with cond := some uptoSmall }

/-- 'tidewracklaw09.RowPlays', WHERE WHAT IT READS IS OF BULK AT MOST 1048576: true; the input reads as it did. -/
def rowPlaysUptoRow : OpenClaim := { program := "ytmdnnpcofbhceaadoor", sum := "3484e5d7f967b4f83013170555a211b0e601ed69fea3f34e5995550a9806dddb", func := "tidewrack/tidewracklaw09.RowPlays", spec := "rowPlays", named := ["tidewrack/wide.spans"], apart := false, laid := [("tidewrack/wide.spans", laid_tidewrack_wide_spans)], narrowed := true }
def RowPlaysUptoSaid : Prop := rowPlaysUptoRow.holds Tryd.pinned (OpenSpec.upto rowPlaysSpec)

/-- 'tidewracklaw09.RowKeeps', WHERE WHAT IT READS IS OF BULK AT MOST 1048576: true; the input reads as it did. -/
def rowKeepsUptoRow : OpenClaim := { program := "ytmdnnpcofbhceaadoor", sum := "3484e5d7f967b4f83013170555a211b0e601ed69fea3f34e5995550a9806dddb", func := "tidewrack/tidewracklaw09.RowKeeps", spec := "rowKeeps", named := ["tidewrack/wide.spans"], apart := false, laid := [("tidewrack/wide.spans", laid_tidewrack_wide_spans)], narrowed := true }
def RowKeepsUptoSaid : Prop := rowKeepsUptoRow.holds Tryd.pinned (OpenSpec.upto rowKeepsSpec)

/-- 'tidewracklaw09.RowLength', WHERE WHAT IT READS IS OF BULK AT MOST 1048576: true; the input reads as it did. -/
def rowLengthUptoRow : OpenClaim := { program := "ytmdnnpcofbhceaadoor", sum := "3484e5d7f967b4f83013170555a211b0e601ed69fea3f34e5995550a9806dddb", func := "tidewrack/tidewracklaw09.RowLength", spec := "rowLength", named := ["tidewrack/wide.spans"], apart := false, laid := [("tidewrack/wide.spans", laid_tidewrack_wide_spans)], narrowed := true }
def RowLengthUptoSaid : Prop := rowLengthUptoRow.holds Tryd.pinned (OpenSpec.upto rowLengthSpec)

/-- 'tidewracklaw09.RowColumns', WHERE WHAT IT READS IS OF BULK AT MOST 1048576: true; the input reads as it did. -/
def rowColumnsUptoRow : OpenClaim := { program := "ytmdnnpcofbhceaadoor", sum := "3484e5d7f967b4f83013170555a211b0e601ed69fea3f34e5995550a9806dddb", func := "tidewrack/tidewracklaw09.RowColumns", spec := "rowColumns", named := ["tidewrack/wide.spans"], apart := false, laid := [("tidewrack/wide.spans", laid_tidewrack_wide_spans)], narrowed := true }
def RowColumnsUptoSaid : Prop := rowColumnsUptoRow.holds Tryd.pinned (OpenSpec.upto rowColumnsSpec)

/-- 'tidewracklaw10.GridPlays', WHERE WHAT IT READS IS OF BULK AT MOST 1048576: true; the input reads as it did. -/
def gridPlaysUptoRow : OpenClaim := { program := "ytmdnnpcofbhceaadoor", sum := "3484e5d7f967b4f83013170555a211b0e601ed69fea3f34e5995550a9806dddb", func := "tidewrack/tidewracklaw10.GridPlays", spec := "gridPlays", unfollowed := true, recurses := true, named := ["tidewrack/wide.spans"], apart := false, laid := [("tidewrack/wide.spans", laid_tidewrack_wide_spans)], narrowed := true }
def GridPlaysUptoSaid : Prop := gridPlaysUptoRow.holds Tryd.pinned (OpenSpec.upto gridPlaysSpec)

/-- 'tidewracklaw10.GridClones', WHERE WHAT IT READS IS OF BULK AT MOST 1048576: true; the input reads as it did. -/
def gridClonesUptoRow : OpenClaim := { program := "ytmdnnpcofbhceaadoor", sum := "3484e5d7f967b4f83013170555a211b0e601ed69fea3f34e5995550a9806dddb", func := "tidewrack/tidewracklaw10.GridClones", spec := "gridClones", unfollowed := true, recurses := true, named := ["tidewrack/wide.spans"], apart := false, laid := [("tidewrack/wide.spans", laid_tidewrack_wide_spans)], narrowed := true }
def GridClonesUptoSaid : Prop := gridClonesUptoRow.holds Tryd.pinned (OpenSpec.upto gridClonesSpec)

/-- 'tidewracklaw10.GridRegions', WHERE WHAT IT READS IS OF BULK AT MOST 1048576: true; the input reads as it did. -/
def gridRegionsUptoRow : OpenClaim := { program := "ytmdnnpcofbhceaadoor", sum := "3484e5d7f967b4f83013170555a211b0e601ed69fea3f34e5995550a9806dddb", func := "tidewrack/tidewracklaw10.GridRegions", spec := "gridRegions", unfollowed := true, recurses := true, named := ["tidewrack/wide.spans"], apart := false, laid := [("tidewrack/wide.spans", laid_tidewrack_wide_spans)], narrowed := true }
def GridRegionsUptoSaid : Prop := gridRegionsUptoRow.holds Tryd.pinned (OpenSpec.upto gridRegionsSpec)

/-- 'tidewracklaw10.GridSteps', WHERE WHAT IT READS IS OF BULK AT MOST 1048576: true; the input reads as it did. -/
def gridStepsUptoRow : OpenClaim := { program := "ytmdnnpcofbhceaadoor", sum := "3484e5d7f967b4f83013170555a211b0e601ed69fea3f34e5995550a9806dddb", func := "tidewrack/tidewracklaw10.GridSteps", spec := "gridSteps", unfollowed := true, recurses := true, named := ["tidewrack/wide.spans"], apart := false, laid := [("tidewrack/wide.spans", laid_tidewrack_wide_spans)], narrowed := true }
def GridStepsUptoSaid : Prop := gridStepsUptoRow.holds Tryd.pinned (OpenSpec.upto gridStepsSpec)

/-- 'tidewracklaw10.GridRows', WHERE WHAT IT READS IS OF BULK AT MOST 1048576: true; the input reads as it did. -/
def gridRowsUptoRow : OpenClaim := { program := "ytmdnnpcofbhceaadoor", sum := "3484e5d7f967b4f83013170555a211b0e601ed69fea3f34e5995550a9806dddb", func := "tidewrack/tidewracklaw10.GridRows", spec := "gridRows", unfollowed := true, recurses := true, named := ["tidewrack/wide.spans"], apart := false, laid := [("tidewrack/wide.spans", laid_tidewrack_wide_spans)], narrowed := true }
def GridRowsUptoSaid : Prop := gridRowsUptoRow.holds Tryd.pinned (OpenSpec.upto gridRowsSpec)

/-- 'tidewracktop.TidewrackShown', WHERE WHAT IT READS IS OF BULK AT MOST 1048576: true; the input reads as it did. -/
def tidewrackShownUptoRow : OpenClaim := { program := "ytmdnnpcofbhceaadoor", sum := "3484e5d7f967b4f83013170555a211b0e601ed69fea3f34e5995550a9806dddb", func := "tidewrack/tidewracktop.TidewrackShown", spec := "tidewrackShown", named := ["tidewrack/wide.spans"], apart := false, laid := [("tidewrack/wide.spans", laid_tidewrack_wide_spans)], narrowed := true }
def TidewrackShownUptoSaid : Prop := tidewrackShownUptoRow.holds Tryd.pinned (OpenSpec.upto tidewrackShownSpec)

end Rows
end Go.Proofs.YtmdnnpcofbhceaaDoor
