/- TidewrackParts: which parts are there behind so many rounds. -/
import Derived.Test.YtghnkpfnpidncaaDoorPWholeF
import Derived.Test.YtghnkpfnpidncaaDoorPPut
import Derived.Test.YtghnkpfnpidncaaDoorPMath
namespace Go.Proofs.YtghnkpfnpidncaaDoor.T
open Go.Proofs.YtghnkpfnpidncaaDoor.P

theorem filter_both (p : Nat → Bool) : ∀ l : List Nat, (l.filter p).length + (l.filter fun i => !p i).length = l.length
  | [] => rfl
  | x :: l => by
    have := filter_both p l
    cases hp : p x <;> simp [hp] <;> omega
section
variable (N : Nat) (bad : Nat → Bool) (ch : Nat → List UInt8)
def badN (k : Nat) : Nat := ((List.range k).filter bad).length
def LK (k : Nat) : PL := (List.range N).map fun i => if i < k ∧ bad i = false then some (ch i) else none
def stS (k : Nat) : Int × PL := if badN bad k = k then (0, []) else (1, LK N bad ch k)
theorem badN_le (k : Nat) : badN bad k ≤ k := by
  have h := List.length_filter_le bad (List.range k)
  rw [List.length_range] at h
  exact h
theorem badN_yes {k : Nat} (h : bad k = true) : badN bad (k + 1) = badN bad k + 1 := by
  unfold badN
  rw [List.range_succ, List.filter_append]
  simp [h]
theorem badN_no {k : Nat} (h : bad k = false) : badN bad (k + 1) = badN bad k := by
  unfold badN
  rw [List.range_succ, List.filter_append]
  simp [h]
theorem LK_len (k : Nat) : (LK N bad ch k).length = N := by simp [LK]
theorem LK_get (k i : Nat) (h : i < N) : (LK N bad ch k).getD i none = if i < k ∧ bad i = false then some (ch i) else none := by
  unfold LK
  simp [h]
theorem LK_yes {k : Nat} (h : bad k = true) : LK N bad ch (k + 1) = LK N bad ch k := by
  unfold LK
  refine List.map_congr_left fun i _ => ?_
  by_cases hi : i = k
  · subst hi; simp [h]
  · have : (i < k + 1 ∧ bad i = false) ↔ (i < k ∧ bad i = false) := ⟨fun h => ⟨by omega, h.2⟩, fun h => ⟨by omega, h.2⟩⟩
    simp only [this]
theorem LK_no {k : Nat} (hk : k < N) (h : bad k = false) : (LK N bad ch k).set k (some (ch k)) = LK N bad ch (k + 1) := by
  apply List.ext_getElem
  · simp [LK]
  · intro i h1 h2
    rw [List.getElem_set]
    by_cases hi : k = i
    · subst hi; simp [LK, h]
    · rw [if_neg hi]
      have : (i < k + 1 ∧ bad i = false) ↔ (i < k ∧ bad i = false) := ⟨fun h => ⟨by omega, h.2⟩, fun h => ⟨by omega, h.2⟩⟩
      simp [LK, this]
theorem badN_all {k : Nat} (h : badN bad k = k) : ∀ i, i < k → bad i = true := by
  unfold badN at h
  have h2 : (List.range k).filter bad = List.range k := by
    have := List.filter_sublist (p := bad) (l := List.range k)
    exact this.eq_of_length (by rw [h, List.length_range])
  intro i hi
  exact (List.filter_eq_self.1 h2) i (List.mem_range.2 hi)
theorem LK_none {k : Nat} (h : badN bad k = k) : LK N bad ch k = List.replicate N none := by
  apply List.ext_getElem
  · simp [LK]
  · intro i h1 h2
    have hf : ¬ (i < k ∧ bad i = false) := fun ⟨a, b⟩ => by rw [badN_all bad h i a] at b; cases b
    simp [LK, hf]
theorem st_yes {k : Nat} (h : bad k = true) : stS N bad ch (k + 1) = stS N bad ch k := by
  unfold stS
  rw [badN_yes bad h, LK_yes N bad ch h]
  by_cases hk : badN bad k = k
  · rw [if_pos hk, if_pos (by omega)]
  · rw [if_neg hk, if_neg (by omega)]
theorem st_no {k : Nat} (hk : k < N) (hN : N ≤ 4096) (h : bad k = false) : putS (stS N bad ch k).1 (stS N bad ch k).2 1 k N (ch k) = (stS N bad ch (k + 1), 0) := by
  have hn := badN_no bad h
  have hle := badN_le bad k
  have hs : stS N bad ch (k + 1) = (1, LK N bad ch (k + 1)) := by unfold stS; rw [hn, if_neg (by omega)]
  rw [hs, ← LK_no N bad ch hk h]
  have h1 : ¬ ((N : Int) < 1 ∨ 4096 < (N : Int) ∨ (k : Int) < 0 ∨ (N : Int) ≤ k ∨ (1 : Int) < 1) := by omega
  unfold stS
  by_cases hb : badN bad k = k
  · rw [if_pos hb, LK_none N bad ch hb]
    unfold putS
    rw [if_neg h1, if_neg (by decide), if_pos (by decide)]
    simp
  · rw [if_neg hb]
    unfold putS
    rw [if_neg h1, if_neg (show ¬ ((1 : Int) < 1) by decide), if_neg (show ¬ ((1 : Int) < 1) by decide), if_neg (by rw [LK_len]; simp)]
    simp only [Int.toNat_natCast]
    rw [LK_get N bad ch k k hk, if_neg (by omega)]
theorem which_false (k : Nat) : (whichS (LK N bad ch k) false).length = ((List.range N).filter fun i => !(decide (i < k) && !bad i)).length := by
  unfold whichS
  rw [LK_len]
  congr 1
  refine List.filter_congr fun i hi => ?_
  rw [LK_get N bad ch k i (List.mem_range.1 hi)]
  by_cases h1 : i < k <;> cases h2 : bad i <;> simp [h1]
theorem lacks_end (hN : 0 < N) : (whichS (stS N bad ch N).2 false).length = badN bad N * (if badN bad N < N then 1 else 0) := by
  have hle := badN_le bad N
  unfold stS
  by_cases h : badN bad N = N
  · rw [if_pos h, if_neg (by omega)]
    simp [whichS]
  · rw [if_neg h, if_pos (by omega), which_false]
    unfold badN
    rw [Nat.mul_one]
    congr 1
    refine List.filter_congr fun i hi => ?_
    have := List.mem_range.1 hi
    simp [this]
theorem full_end (hN : 0 < N) : fullS (stS N bad ch N).2 = decide (badN bad N = 0) := by
  have hle := badN_le bad N
  unfold stS
  by_cases h : badN bad N = N
  · rw [if_pos h, decide_eq_false (by omega)]
    rfl
  · rw [if_neg h]
    have hh : haveN (LK N bad ch N) = N - badN bad N := by
      unfold haveN LK badN
      have h1 : ((List.range N).map fun i => if i < N ∧ bad i = false then some (ch i) else none).filter Option.isSome = ((List.range N).filter fun i => !bad i).map fun i => some (ch i) := by
        rw [List.filter_map]
        have h2 : (List.range N).filter (Option.isSome ∘ fun i => if i < N ∧ bad i = false then some (ch i) else none) = (List.range N).filter fun i => !bad i := by
          refine List.filter_congr fun i hi => ?_
          have := List.mem_range.1 hi
          cases hb : bad i <;> simp [this, hb]
        rw [h2]
        refine List.map_congr_left fun i hi => ?_
        have h3 := List.mem_filter.1 hi
        have h4 := List.mem_range.1 h3.1
        have h5 : bad i = false := by simpa using h3.2
        simp [h4, h5]
      rw [h1, List.length_map]
      have h6 := filter_both bad (List.range N)
      rw [List.length_range] at h6
      omega
    unfold fullS
    rw [LK_len, hh, decide_eq_true hN, Bool.true_and]
    by_cases h0 : badN bad N = 0
    · rw [decide_eq_true h0, decide_eq_true (by omega)]
    · rw [decide_eq_false h0, decide_eq_false (by omega)]
theorem cat_end (h0 : badN bad N = 0) (hN : 0 < N) : catS (stS N bad ch N).2 = ((List.range N).map ch).flatten := by
  unfold stS
  rw [if_neg (by omega)]
  unfold catS LK
  rw [List.map_map]
  congr 1
  refine List.map_congr_left fun i hi => ?_
  have h1 := List.mem_range.1 hi
  have hb : bad i = false := by
    unfold badN at h0
    have h2 := List.length_eq_zero_iff.1 h0
    have h3 := List.filter_eq_nil_iff.1 h2 i hi
    simpa using h3
  simp [h1, hb]
theorem fits_st (hch : ∀ i, (ch i).length ≤ 1000000000) (k : Nat) : Fits (stS N bad ch k).2 := by
  intro i
  unfold stS
  split
  · simp [partLen]
  · unfold partLen
    by_cases hi : i < N
    · rw [LK_get N bad ch k i hi]
      split
      · exact hch i
      · simp
    · have : (LK N bad ch k).getD i none = none := by simp [LK, hi]
      rw [this]
      simp
end
end Go.Proofs.YtghnkpfnpidncaaDoor.T
