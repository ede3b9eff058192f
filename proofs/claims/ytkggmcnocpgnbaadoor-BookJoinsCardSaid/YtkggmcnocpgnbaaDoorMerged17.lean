/- A mask of small numbers. -/
import Derived.Test.YtkggmcnocpgnbaaDoorMerged1
import Derived.Test.YtkggmcnocpgnbaaDoorBAwk
namespace Go.Proofs.YtkggmcnocpgnbaaDoor.K
open Go.RowKit

end Go.Proofs.YtkggmcnocpgnbaaDoor.K

/- BookBlanks: rows of blanks are lines without glyphs: the walk. -/
namespace Go.Proofs.YtkggmcnocpgnbaaDoor.K
open Go.RowKit

/-- a slice of one row, just built -/
theorem rows_one {rk : IntKind} {M : List Nat} {a : Option Addr} {n c : Nat} {b : Bool} {r : Ro} {T : TypeId} (u : World) (h : RowV rk (.agg #[.slice a n c, .bool b]) r u) (ho : Off M ⟨a, n, c, b⟩) (hM : ∀ p ∈ M, p < u.heap.size) : RowsL rk M (some ⟨u.heap.size, 0, none⟩) 1 1 [r] (u.alloc (.cells #[.slice a n c, .bool b] T)) := by
  have hb : Below u.heap.size u (u.alloc (.cells #[.slice a n c, .bool b] T)) := (Below.refl _ _).alloc (Nat.le_refl _) _
  refine ⟨⟨[⟨a, n, c, b⟩], rvs_one u ⟨a, n, c, b⟩ T, ⟨rfl, fun i d q hd hq => ?_⟩, fun d hd => ?_⟩, (fun e => by cases e), fun _ b' o e hm => by cases e; have := hM _ hm; omega⟩
  · match i, hd, hq with
    | 0, hd, hq => cases hd; cases hq; exact h.belowAll hb
    | i + 1, hd, _ => simp at hd
  · rw [List.mem_singleton.1 hd]; exact ho
end Go.Proofs.YtkggmcnocpgnbaaDoor.K
