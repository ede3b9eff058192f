/- wp_region_tail where the last operations wait for all others by way of others. -/
import Derived.Test.YtkdkhphpknnceaaRelT
namespace Go.Proofs.Ytkdkhphpknnceaa.R
open Go

theorem fold_get (f : Nat → Value) : ∀ (D : List Nat) (t : Array Value) (i : Nat), (D.foldl (fun t d => t.setIfInBounds d (f d)) t).size = t.size ∧ (D.foldl (fun t d => t.setIfInBounds d (f d)) t)[i]? = if i ∈ D then (if i < t.size then some (f i) else none) else t[i]?
  | [], t, i => by simp
  | d :: D, t, i => by
    obtain ⟨h1, h2⟩ := fold_get f D (t.setIfInBounds d (f d)) i
    rw [List.foldl_cons]
    refine ⟨by rw [h1]; simp, ?_⟩
    rw [h2]
    by_cases hD : i ∈ D
    · rw [if_pos hD, if_pos (List.mem_cons_of_mem _ hD)]
      simp
    · rw [if_neg hD, Array.getElem?_setIfInBounds]
      by_cases hd : d = i
      · subst hd
        simp
      · rw [if_neg hd, if_neg (by simp [hD, Ne.symm hd])]
/-- The frame behind the region: the one ahead of it, but for the slots that it writes. -/
theorem agree_frame {ops : Array Oper} {base a : Act} (D : List Nat) (hD : ops.toList.filterMap (·.dst) = D) (h : Agree ops base a) :
    ∃ u : Nat → Value, (∀ i, u i = a.tmps.getD i undef) ∧ a = { tmps := D.foldl (fun t d => t.setIfInBounds d (u d)) base.tmps, defers := base.defers } := by
  refine ⟨fun i => a.tmps.getD i undef, fun _ => rfl, ?_⟩
  obtain ⟨tmps, ds⟩ := a
  obtain ⟨h1, h2, h3⟩ := h
  simp only at h1 h2 h3
  subst h1
  congr 1
  apply Array.ext
  · rw [(fold_get _ D base.tmps 0).1, h2]
  · intro i hi1 hi2
    have h4 := (fold_get (fun i => tmps.getD i undef) D base.tmps i).2
    have h5 : tmps[i]? = (D.foldl (fun t d => t.setIfInBounds d (tmps.getD d undef)) base.tmps)[i]? := by
      rw [h4]
      by_cases hD' : i ∈ D
      · rw [if_pos hD', if_pos (by omega), Array.getD_eq_getD_getElem?, Array.getElem?_eq_getElem hi1]
        rfl
      · rw [if_neg hD']
        have h6 := h3 i (by
          refine List.all_eq_true.2 fun o ho => ?_
          rw [bne_iff_ne]
          intro e
          exact hD' (by rw [← hD]; exact List.mem_filterMap.2 ⟨o, ho, e⟩))
        rw [Array.getD_eq_getD_getElem?, Array.getD_eq_getD_getElem?, Array.getElem?_eq_getElem hi1, Array.getElem?_eq_getElem (by omega)] at h6
        rw [Array.getElem?_eq_getElem hi1, Array.getElem?_eq_getElem (by omega)]
        simpa using h6
    rw [Array.getElem?_eq_getElem hi1, Array.getElem?_eq_getElem hi2] at h5
    simpa using h5
section
variable {P : Program} {ops : Array Oper} {Q : Exit → Act → World → Prop}

end
end Go.Proofs.Ytkdkhphpknnceaa.R
