/- A set in memory; the small calls: counted, none. -/
import Derived.Test.YtkdkhphpknnceaaHBase
import Derived.Test.YtkdkhphpknnceaaHMath
namespace Go.Proofs.Ytkdkhphpknnceaa.H
open Go.RowKit

theorem OwnP.moved {rk : IntKind} {T : TypeId} {base : Nat} {v : Value} {l : List (Int × Int)} {w w' : World} (h : OwnP rk T base v l w) (hv : ∀ q, v.ownBlock = some q → w'.heap[q]? = w.heap[q]?) : OwnP rk T base v l w' := by
  refine ⟨h.1, ?_⟩
  rcases h.2 with h0 | ⟨g', c', cur, he, hbase, hgb, hc, hmx, hsz, ht⟩
  · exact .inl h0
  · exact .inr ⟨g', c', cur, he, hbase, (hv g' (by rw [he]; rfl)).trans hgb, hc, hmx, hsz, ht⟩
def i64 (n : Int) : Prop := -9223372036854775808 ≤ n ∧ n ≤ 9223372036854775807
end Go.Proofs.Ytkdkhphpknnceaa.H
