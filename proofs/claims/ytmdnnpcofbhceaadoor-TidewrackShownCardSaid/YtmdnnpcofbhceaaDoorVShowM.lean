/- Runes put into a row of blanks, one behind the other: what the row is, and its runes. -/
import Derived.Test.YtmdnnpcofbhceaaDoorVGlyM
import Derived.Test.YtmdnnpcofbhceaaDoorWMath
namespace Go.Proofs.YtmdnnpcofbhceaaDoor.K

/-- the cells of a rune that has one column, or two -/
def cellsR (s r : Int) : List Cel := if W.ofS r = 2 then [⟨r, s, 1⟩, ⟨r, s, 2⟩] else [⟨r, s, 0⟩]
def cellsG (s : Int) (gs : List Int) : List Cel := gs.flatMap (cellsR s)
theorem cellsG_snoc (s : Int) (gs : List Int) (r : Int) : cellsG s (gs ++ [r]) = cellsG s gs ++ cellsR s r := by unfold cellsG; rw [List.flatMap_append]; simp
theorem cellsR_length (s r : Int) (h : W.ofS r ≠ 0) : (cellsR s r).length = W.ofS r := by
  have := W.ofS_le r
  unfold cellsR
  split
  · rename_i h2; rw [h2]; rfl
  · show 1 = _; omega
theorem cellsG_whole (s : Int) (k : Nat) : ∀ (gs : List Int) (p : Bool), mendG p (cellsG s gs ++ blanks k 0) = cellsG s gs ++ blanks k 0
  | [], p => whole_zero _ _ (fun c hc => by rw [(List.mem_replicate.1 (show c ∈ List.replicate k (blk 0) from hc)).2]; rfl)
  | r :: gs, p => by
    show mendG p ((cellsR s r ++ cellsG s gs) ++ blanks k 0) = (cellsR s r ++ cellsG s gs) ++ blanks k 0
    unfold cellsR
    split
    · show mendG p (⟨r, s, 1⟩ :: ⟨r, s, 2⟩ :: (cellsG s gs ++ blanks k 0)) = ⟨r, s, 1⟩ :: ⟨r, s, 2⟩ :: (cellsG s gs ++ blanks k 0)
      have h1 : fixC p ⟨r, s, 1⟩ (⟨r, s, 2⟩ :: (cellsG s gs ++ blanks k 0)) = ⟨r, s, 1⟩ := by simp [fixC, badC]
      have h2 : fixC true ⟨r, s, 2⟩ (cellsG s gs ++ blanks k 0) = ⟨r, s, 2⟩ := by simp [fixC, badC]
      rw [mendG, h1]
      show _ :: mendG true _ = _
      rw [mendG, h2, cellsG_whole s k gs]
    · show mendG p (⟨r, s, 0⟩ :: (cellsG s gs ++ blanks k 0)) = ⟨r, s, 0⟩ :: (cellsG s gs ++ blanks k 0)
      rw [mendG, fix_zero rfl, cellsG_whole s k gs]
theorem cellsG_last (s : Int) (gs : List Int) (h : gs ≠ []) : ∃ l c, cellsG s gs = l ++ [c] ∧ c.part ≠ 1 ∧ c.style = s := by
  obtain ⟨gs', r, rfl⟩ : ∃ gs' r, gs = gs' ++ [r] := ⟨gs.dropLast, gs.getLast h, (List.dropLast_concat_getLast h).symm⟩
  rw [cellsG_snoc]
  unfold cellsR
  split
  · exact ⟨cellsG s gs' ++ [⟨r, s, 1⟩], ⟨r, s, 2⟩, by simp, by simp, rfl⟩
  · exact ⟨cellsG s gs', ⟨r, s, 0⟩, rfl, by simp, rfl⟩
theorem cellsG_glF (s : Int) (gs : List Int) : glF (cellsG s gs) = gs.map fun r => (r, s) := by
  induction gs with
  | nil => rfl
  | cons r gs ih =>
    show glF (cellsR s r ++ cellsG s gs) = _
    rw [glF_append, ih]
    unfold cellsR
    split
    · show glF ([⟨r, s, 1⟩] ++ [⟨r, s, 2⟩]) ++ _ = _
      rw [glF_append, glF_yes _ (.inr rfl), glF_no _ (by simp)]
      rfl
    · rw [glF_yes _ (.inl rfl)]
      rfl
theorem trim_blanks (l : List Cel) (k : Nat) : trimS ⟨l ++ blanks k 0, false⟩ = trimS ⟨l, false⟩ := by
  induction k with
  | zero => simp [blanks]
  | succ k ih =>
    have : blanks (k + 1) 0 = blanks k 0 ++ [blk 0] := List.replicate_succ'
    rw [this, ← List.append_assoc, trimS_blank, ih]
theorem shown_glyphs (s : Int) (hs : s ≠ 0) (gs : List Int) (k : Nat) : glyphs ⟨cellsG s gs ++ blanks k 0, false⟩ = gs.map fun r => (r, s) := by
  rw [glyphs_glF, trim_blanks, ← cellsG_glF]
  by_cases hg : gs = []
  · subst hg; rw [show cellsG s [] = [] from rfl, trimS_nil]
  · obtain ⟨l, c, hl, _, hc⟩ := cellsG_last s gs hg
    rw [hl, trimS_stop _ _ (fun e => hs (by rw [← hc, e]; rfl))]
theorem shown_put (s : Int) (gs : List Int) (k : Nat) (r : Int) (h0 : W.ofS r ≠ 0) (hk : W.ofS r ≤ k) :
    putS (W.ofS r) (cellsG s gs ++ blanks k 0) ((cellsG s gs).length : Int) r s = cellsG s (gs ++ [r]) ++ blanks (k - W.ofS r) 0 := by
  have hle := W.ofS_le r
  have hlen : (cellsG s gs ++ blanks k 0).length = (cellsG s gs).length + k := by rw [List.length_append, blanks_length]
  unfold putS
  rw [if_neg (by rw [hlen]; omega)]
  refine Eq.trans ?_ (cellsG_whole s (k - W.ofS r) (gs ++ [r]) false)
  show _ = mend _
  by_cases h2 : W.ofS r = 2
  · rw [if_pos h2]
    simp only
    obtain ⟨k', rfl⟩ : ∃ k', k = k' + 2 := ⟨k - 2, by omega⟩
    have hprev : ¬ (0 < ((cellsG s gs).length : Int).toNat ∧ ((cellsG s gs ++ blanks (k' + 2) 0).getD (((cellsG s gs).length : Int).toNat - 1) (blk 0)).part = 1) := by
      rintro ⟨hp, hq⟩
      rw [Int.toNat_natCast] at hp hq
      have hg : gs ≠ [] := by rintro rfl; exact Nat.lt_irrefl _ hp
      obtain ⟨l, c, hl, hc, _⟩ := cellsG_last s gs hg
      rw [hl] at hq
      rw [List.length_append, List.length_singleton, Nat.add_sub_cancel, List.append_assoc, List.getD_eq_getElem?_getD, List.getElem?_append_right (Nat.le_refl _), Nat.sub_self] at hq
      exact hc hq
    rw [if_neg hprev, Int.toNat_natCast, cellsG_snoc]
    congr 1
    have hb : blanks (k' + 2) 0 = blk 0 :: blk 0 :: blanks k' 0 := rfl
    have hc : cellsR s r = [⟨r, s, 1⟩, ⟨r, s, 2⟩] := by unfold cellsR; rw [if_pos h2]
    rw [hb, hc, h2, Nat.add_sub_cancel, List.set_append_right _ _ (Nat.le_refl _), List.set_append_right _ _ (Nat.le_succ _), Nat.sub_self, show (cellsG s gs).length.succ - (cellsG s gs).length = 1 by omega]
    simp
  · rw [if_neg h2]
    have h1 : W.ofS r = 1 := by omega
    obtain ⟨k', rfl⟩ : ∃ k', k = k' + 1 := ⟨k - 1, by omega⟩
    rw [Int.toNat_natCast, cellsG_snoc]
    congr 1
    have hb : blanks (k' + 1) 0 = blk 0 :: blanks k' 0 := rfl
    have hc : cellsR s r = [⟨r, s, 0⟩] := by unfold cellsR; rw [if_neg h2]
    rw [hb, hc, h1, Nat.add_sub_cancel, List.set_append_right _ _ (Nat.le_refl _), Nat.sub_self]
    simp
end Go.Proofs.YtmdnnpcofbhceaaDoor.K
