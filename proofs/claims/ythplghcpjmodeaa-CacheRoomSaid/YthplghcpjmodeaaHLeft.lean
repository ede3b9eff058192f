/- What is left of some spans without others, gathered: left, AppendSeq, Collect. -/
import Derived.Test.YthplghcpjmodeaaHIter
namespace Go.Proofs.Ythplghcpjmodeaa.H
open Go.RowKit Go.Shelf

attribute [local go_sem] Oper.semAt_some

/-- what stands between two rounds of a loop that gathers: in box b0, rows from base on -/
def Gath (w0 : World) (b0 base : Nat) (pre : List Sp) (W : World) : Prop :=
  ∃ v, Boxed W b0 53 v ∧ OwnP .i64 56 base v pre W ∧ (v = .slice none 0 0 ∨ pre ≠ []) ∧ Below w0.heap.size w0 W ∧ base ≤ W.heap.size
theorem Gath.row {w0 : World} {b0 base : Nat} {pre : List Sp} {W : World} (h : Gath w0 b0 base pre W) : ∃ v, Boxed W b0 53 v ∧ OwnP .i64 56 base v pre W ∧ rowOf b0 W = v.ownBlock := by
  obtain ⟨v, h1, h2, -⟩ := h
  exact ⟨v, h1, h2, by unfold rowOf; rw [h1.cell]; rfl⟩
end Go.Proofs.Ythplghcpjmodeaa.H
