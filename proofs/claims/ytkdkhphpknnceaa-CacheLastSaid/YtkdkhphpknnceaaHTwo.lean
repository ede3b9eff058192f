/- One set, and two sets beside each other, that a law has made. -/
import Derived.Test.YtkdkhphpknnceaaHArg
namespace Go.Proofs.Ytkdkhphpknnceaa.R
end Go.Proofs.Ytkdkhphpknnceaa.R
namespace Go.Proofs.Ytkdkhphpknnceaa.H
open Go.RowKit

/-- pairs of the first l -/
theorem PairsIn.one {rk : IntKind} {a : Option Addr} {n c : Nat} {l : List Sp} {w : World} (h : PairsIn rk a n c l w) {k : Nat} (hk : k < n) : ∃ g off x, a = some ⟨g, off, none⟩ ∧ g < w.heap.size ∧ l[k]? = some x ∧ w.cell? ⟨g, off + k * 2, none⟩ = some (.int rk x.1) ∧ w.cell? ⟨g, off + k * 2 + 1, none⟩ = some (.int .i64 x.2) := by
  obtain ⟨x, hx⟩ : ∃ x, l[k]? = some x := ⟨_, List.getElem?_eq_getElem (by rw [← h.len]; exact hk)⟩
  obtain ⟨g, off, ha, hg, hi⟩ := h.at_.resolve_left (by intro e; rw [e] at hx; cases hx)
  exact ⟨g, off, x, ha, hg, hx, (hi k x hx).1, (hi k x hx).2⟩
theorem PairsIn.front {rk : IntKind} {a : Option Addr} {n c : Nat} {l : List Sp} {w : World} (h : PairsIn rk a n c l w) {k : Nat} (hk : k ≤ n) : PairsIn rk a k c (l.take k) w := by
  refine ⟨by rw [List.length_take, ← h.len]; omega, Nat.le_trans hk h.fit, h.top, ?_⟩
  rcases h.at_ with e | ⟨b, off, ha, hb, hi⟩
  · exact .inl (by rw [e]; simp)
  · refine .inr ⟨b, off, ha, hb, fun i g hg => ?_⟩
    rw [List.getElem?_take] at hg
    split at hg
    · exact hi i g hg
    · cases hg
end Go.Proofs.Ytkdkhphpknnceaa.H
