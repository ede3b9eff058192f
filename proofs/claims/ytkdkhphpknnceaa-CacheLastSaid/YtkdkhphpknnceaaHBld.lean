/- The document's build, as a function: edges, and what is kept between them. -/
import Derived.Test.YtkdkhphpknnceaaMerged4
namespace Go.Proofs.Ytkdkhphpknnceaa.H
open Go.RowKit

/-- strictly rising -/
def Asc (l : List Int) : Prop := l.Pairwise (· < ·)
theorem Asc.at {E : List Int} (h : Asc E) {i j : Nat} {e f : Int} (he : E[i]? = some e) (hf : E[j]? = some f) (hij : i < j) : e < f := by
  have h1 := List.getElem?_eq_some_iff.1 he
  have h2 := List.getElem?_eq_some_iff.1 hf
  have := List.pairwise_iff_getElem.1 h i j h1.1 h2.1 hij
  rw [h1.2, h2.2] at this
  exact this
/-- between two edges that stand beside each other nothing changes -/
theorem Asc.same {E : List Int} (h : Asc E) {l : List Sp} (hl : ∀ x ∈ l, x.1 ∈ E ∧ x.2 ∈ E) {j : Nat} {f g n : Int} (hf : E[j]? = some f) (hg : E[j + 1]? = some g) (h1 : f ≤ n) (h2 : n < g) : mem n l ↔ mem f l := by
  have btw : ∀ x ∈ E, x ≤ f ∨ g ≤ x := by
    intro x hx
    obtain ⟨i, hi⟩ := List.mem_iff_getElem?.1 hx
    rcases Nat.lt_trichotomy i j with hij | hij | hij
    · have := h.at hi hf hij; omega
    · subst hij; rw [hf] at hi; cases hi; omega
    · rcases Nat.lt_or_ge (j + 1) i with h3 | h3
      · have := h.at hg hi h3; omega
      · obtain rfl : i = j + 1 := by omega
        rw [hg] at hi; cases hi; omega
  rw [mem_iff, mem_iff]
  constructor
  · rintro ⟨x, hx, h3, h4⟩
    refine ⟨x, hx, ?_, by omega⟩
    rcases btw _ (hl x hx).1 with h5 | h5 <;> omega
  · rintro ⟨x, hx, h3, h4⟩
    refine ⟨x, hx, by omega, ?_⟩
    rcases btw _ (hl x hx).2 with h5 | h5 <;> omega
end Go.Proofs.Ytkdkhphpknnceaa.H
