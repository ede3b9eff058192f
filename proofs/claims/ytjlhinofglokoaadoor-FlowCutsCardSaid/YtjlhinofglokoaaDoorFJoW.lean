/- FlowJoins: rows joined are the line: the walk. -/
import Derived.Test.YtjlhinofglokoaaDoorFCoW
import Derived.Test.YtjlhinofglokoaaDoorFJoin
import Derived.Test.YtjlhinofglokoaaDoorFTold
namespace Go.Proofs.YtjlhinofglokoaaDoor.F
open Go.RowKit H
open W (Tab ofS refOf refOf_any ofS_ref ofS_le)

theorem row_len {C : Int} (l : List (Int × Int)) {r : List (Int × Int)} (h : r ∈ cutR C l) : r.length ≤ l.length := by
  have h2 := congrArg List.length (cutR_join C l)
  obtain ⟨i, hi, rfl⟩ := List.mem_iff_getElem.1 h
  have h3 := totS_succ (L := cutR C l) (j := i) (l := (cutR C l)[i]) (List.getElem?_eq_getElem hi)
  have h4 := tot_le (cutR C l) (i + 1)
  rw [h3, List.length_append] at h4
  omega
theorem row_rng {C : Int} {l : List (Int × Int)} (hl : RngG l) {r : List (Int × Int)} (h : r ∈ cutR C l) : RngG r := fun g hg => hl g (by
  rw [← cutR_join C l]
  exact List.mem_flatten.2 ⟨r, h, hg⟩)
end Go.Proofs.YtjlhinofglokoaaDoor.F
