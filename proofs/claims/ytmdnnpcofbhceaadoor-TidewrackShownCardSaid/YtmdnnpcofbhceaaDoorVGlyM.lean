/- Glyphs of a row: cut from the end, and gathered from the front. -/
import Derived.Test.YtmdnnpcofbhceaaDoorKMath
namespace Go.Proofs.YtmdnnpcofbhceaaDoor.K

/-- the pairs of what is shown -/
def glF (l : List Cel) : List (Int × Int) := (l.filter fun c => decide (c.part = 0 ∨ c.part = 1)).map fun c => (c.rune, c.style)
theorem glF_nil : glF [] = [] := rfl
theorem glF_append (a b : List Cel) : glF (a ++ b) = glF a ++ glF b := by unfold glF; rw [List.filter_append, List.map_append]
theorem glF_yes (c : Cel) (h : c.part = 0 ∨ c.part = 1) : glF [c] = [(c.rune, c.style)] := by unfold glF; simp [h]
theorem glF_no (c : Cel) (h : ¬ (c.part = 0 ∨ c.part = 1)) : glF [c] = [] := by unfold glF; simp [h]
theorem glF_length (l : List Cel) : (glF l).length ≤ l.length := by unfold glF; rw [List.length_map]; exact List.length_filter_le ..
theorem glyphs_glF (r : Ro) : glyphs r = glF (trimS r) := rfl
theorem trimS_wrapped (l : List Cel) : trimS ⟨l, true⟩ = l := by unfold trimS; rw [if_pos rfl]
theorem trimS_nil (b : Bool) : trimS ⟨[], b⟩ = [] := by unfold trimS; cases b <;> rfl
theorem trimS_blank (l : List Cel) : trimS ⟨l ++ [blk 0], false⟩ = trimS ⟨l, false⟩ := by
  unfold trimS
  rw [if_neg Bool.false_ne_true, if_neg Bool.false_ne_true, List.reverse_append]
  show (trimG (blk 0 :: l.reverse)).reverse = _
  unfold trimG
  rw [if_pos rfl]
  cases l.reverse <;> rfl
theorem trimS_stop (l : List Cel) (c : Cel) (h : c ≠ blk 0) : trimS ⟨l ++ [c], false⟩ = l ++ [c] := by
  unfold trimS
  rw [if_neg Bool.false_ne_true, List.reverse_append]
  show (trimG (c :: l.reverse)).reverse = _
  unfold trimG
  rw [if_neg h]
  simp
theorem take_last {α : Type} (l : List α) (j : Nat) (h : j < l.length) : l.take (j + 1) = l.take j ++ [l[j]] := by
  rw [List.take_add_one, List.getElem?_eq_getElem h]; rfl
end Go.Proofs.YtmdnnpcofbhceaaDoor.K
