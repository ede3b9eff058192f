/- The contract of the document's Pack of a line. -/
import Derived.Test.YtbikehngbkfckaaMerged18
import Derived.Test.YtbikehngbkfckaaMerged21
import Derived.Test.YtbikehngbkfckaaMerged24
namespace Go.Proofs.Ytbikehngbkfckaa.K
open Go.RowKit Go.Proofs.Ytbikehngbkfckaa.I

theorem bytes_eq {a b : ByteArray} (h : a.data.toList = b.data.toList) : a = b := by
  cases a; cases b
  congr 1
  exact Array.toList_inj.1 h
/-- a glyph of the document's, in its block -/
structure PkS (gb : Nat) (x s : Int) (w5 u : World) : Prop where
  b : Below w5.heap.size w5 u
  h : u.heap[gb]? = some (.cells #[.int .i64 x, .int .i64 s] 113 (0, 0))
theorem PkS.c0 {gb : Nat} {x s : Int} {w5 u : World} (h : PkS gb x s w5 u) : u.cell? ⟨gb, 0, none⟩ = some (.int .i64 x) := by rw [cell_block h.h]; rfl
theorem PkS.c1 {gb : Nat} {x s : Int} {w5 u : World} (h : PkS gb x s w5 u) : u.cell? ⟨gb, 1, none⟩ = some (.int .i64 s) := by rw [cell_block h.h]; rfl
theorem PkS.below {gb : Nat} {x s : Int} {w5 u u' : World} (h : PkS gb x s w5 u) (hb : Below u.heap.size u u') : PkS gb x s w5 u' := ⟨h.b.trans (hb.mono h.b.size), (hb.block gb (Array.getElem?_eq_some_iff.1 h.h).1).trans h.h⟩
end Go.Proofs.Ytbikehngbkfckaa.K
