/- What the rows of books list: the table of the sum, then the spans. -/
import Derived.Test.YtkggmcnocpgnbaaDoorMerged13
import Derived.Test.YtkggmcnocpgnbaaDoorMerged9
import Derived.Lib.LaidTab
namespace Go.Proofs.YtkggmcnocpgnbaaDoor.K

theorem gHalf : Tryd.prog.globalNamed "tidewrack/sum.half" = some 1 := by kernel_rfl
theorem gHalfType : (Tryd.prog.globals[1]?).map (·.type) = some 191 := by kernel_rfl
theorem cells16 : Tryd.prog.cellsOf 191 = 16 := by kernel_rfl
theorem cells1 : Tryd.prog.cellsOf 175 = 1 := by kernel_rfl
def halfInts : List Int := [0, 498536548, 997073096, 651767980, 1994146192, 1802195444, 1303535960, 1342533948, 3988292384, 4027552580, 3604390888, 3412177804, 2607071920, 2262029012, 2685067896, 3183342108]
theorem halfInts_tbl : ∀ j, j < 16 → j < halfInts.length ∧ halfInts.getD j 0 = (S.tbl j : Int) := by decide
theorem half_of {rest : List (String × DataW Unit)} {w : World} (h : laidMet Tryd.prog (("tidewrack/sum.half", Rows.laid_tidewrack_sum_half) :: rest) w) : S.Tab w := by
  have ht : Lib.TabIs Tryd.prog w "tidewrack/sum.half" .u32 halfInts := Lib.tabIs_of_head (rest := rest) gHalf gHalfType Tryd.underlying191 Tryd.underlying175 cells1 cells16 h
  intro j hj
  rw [← (halfInts_tbl j hj).2]
  exact ht.cell gHalf j (halfInts_tbl j hj).1
end Go.Proofs.YtkggmcnocpgnbaaDoor.K
