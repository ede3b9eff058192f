/- The fixed fact of layer 4, and Cut. -/
import Derived.Test.YtghnkpfnpidncaaPSplit
import Derived.Test.YtghnkpfnpidncaaPWholeF
import Derived.Test.YtghnkpfnpidncaaPPut
namespace Go.Proofs.Ytghnkpfnpidncaa.P
open Go.RowKit Go.Shelf

theorem fits_nil : Fits [] := fun i => by simp [partLen]
theorem fits_set {L : PL} (h : Fits L) (i : Nat) (l : List UInt8) (hl : l.length ≤ 1000000000) : Fits (L.set i (some l)) := fun j => by
  unfold partLen
  by_cases e : j = i
  · subst e
    by_cases hj : j < L.length
    · simp [List.getD_eq_getElem?_getD, hj]; exact hl
    · simp [List.getD_eq_getElem?_getD, hj]
  · have := h j
    unfold partLen at this
    rw [List.getD_eq_getElem?_getD, List.getElem?_set_ne (Ne.symm e), ← List.getD_eq_getElem?_getD]
    exact this
theorem fits_replicate (n : Nat) : Fits (List.replicate n none) := fun j => by
  unfold partLen
  by_cases hj : j < n <;> simp [List.getD_eq_getElem?_getD, hj]
theorem fits_put {k : Int} {L : PL} (h : Fits L) (key index count : Int) (l : List UInt8) (hl : l.length ≤ 1000000000) : Fits (putS k L key index count l).1.2 := by
  unfold putS
  split
  · exact h
  · split
    · exact h
    · split
      · exact fits_set (fits_replicate _) _ _ hl
      · split
        · exact h
        · split
          · exact h
          · exact fits_set h _ _ hl
theorem ba_eq {u : ByteArray} {l : List UInt8} (h : bl u = l) : u = ⟨l.toArray⟩ := by
  cases u with
  | mk d =>
    rw [← h]

theorem abc_parts : ∀ ss : List ByteArray, ss.map bl = [[97, 98], [99]] → ss = [⟨#[97, 98]⟩, ⟨#[99]⟩]
  | [], h => by simp at h
  | [_], h => by simp at h
  | [a, b], h => by
    simp only [List.map_cons, List.map_nil, List.cons.injEq, and_true] at h
    rw [ba_eq h.1, ba_eq h.2]
  | _ :: _ :: _ :: _, h => by simp at h
set_option maxHeartbeats 1000000 in
theorem awake_any (w : World) : Calls Try.prog 7 #[] w fun e w' => e = .returned (.bool true) ∧ Below w.heap.size w w' := by
  go_enter Try.func7, Try.ntmps7
  go_wp2_with fail
  refine (split_any ⟨#[97, 98, 99]⟩ 2 (by decide) w).mono ?_
  rintro e w1 ⟨v, ss, rfl, hss, hrow, hb1⟩
  have hss' := abc_parts ss (hss.trans (by decide))
  subst hss'
  obtain ⟨g, cap, rfl⟩ := ownsRow_succ (k := 1) hrow
  have hcell := hrow.cells (g := g) rfl 1 (.string ⟨#[99]⟩) rfl
  have hadd : (⟨g, 0, none⟩ : Addr).add 1 = ⟨g, 1, none⟩ := rfl
  rw [hadd] at hcell
  have HCell := Lib.hid hcell
  have hg := hrow.lt g rfl
  have HS0 := Lib.hid (zero_slot w1)
  have HB1 := Lib.hid hb1
  have hs1 := hb1.size
  clear hss hrow hcell hadd hb1
  obtain ⟨p, hp⟩ : ∃ p, w1.heap.size = p := ⟨_, rfl⟩
  obtain ⟨W0, hW0⟩ : ∃ W0, w1.alloc (.cells #[.int .i64 0, .int .i64 0, .map none] 30) = W0 := ⟨_, rfl⟩
  have hb0 : Below p w1 W0 := by rw [← hW0, ← hp]; exact (Below.refl _ _).alloc (Nat.le_refl _) _
  have HB0 := Lib.hid hb0
  rw [hp, hW0] at HS0
  have hwp : w.heap.size ≤ p := by omega
  have hgp : g < p := by omega
  go_wp2_with fail
  clear hb0 hp hW0 hs1 hg
  refine (put_any p none 0 [] 1 1 2 ⟨#[99]⟩ W0 HS0.out).mono ?_
  rintro e w2 ⟨rfl, mo2, hS2, hmo2, hT2⟩
  have hS2' : SlotAt p mo2 1 [none, some [99]] w2 := hS2
  have hb2 : Below p W0 w2 := hT2.below (Nat.le_refl _) (fun b e => by cases e) (Nat.le_of_lt HS0.out.lt)
  have HS2 := Lib.hid hS2'
  have HB2 := Lib.hid hb2
  have hmp : ∀ b, mo2 = some b → p ≤ b := fun b e => by
    rcases hmo2 with h | ⟨b', h, h'⟩
    · rw [h] at e; cases e
    · rw [h] at e; cases e
      have := HS0.out.lt; omega
  have HM2 := Lib.hid hmp
  clear hS2 hmo2 hT2 hS2' hb2 hmp
  go_wp2_with fail
  refine (put_any p mo2 1 [none, some [99]] 1 0 2 ⟨#[97, 98]⟩ w2 HS2.out).mono ?_
  rintro e w3 ⟨rfl, mo3, hS3, hmo3, hT3⟩
  have hS3' : SlotAt p mo3 1 [some [97, 98], some [99]] w3 := hS3
  have hb3 : Below p w2 w3 := hT3.below (Nat.le_refl _) HM2.out (Nat.le_of_lt HS2.out.lt)
  have HS3 := Lib.hid hS3'
  have HB3 := Lib.hid hb3
  clear hS3 hmo3 hT3 hS3' hb3
  go_wp2_with fail
  refine (whole_any p mo3 1 [some [97, 98], some [99]] w3 HS3.out (fun i => by
    match i with
    | 0 => decide
    | 1 => decide
    | i + 2 => simp [partLen])).mono ?_
  rintro e w4 ⟨u, rfl, hu, hb4⟩
  obtain rfl := ba_eq (hu.trans (show wholeS [some [97, 98], some [99]] = [97, 98, 99] by decide))
  have hf : fullS [some [97, 98], some [99]] = true := by decide
  rw [hf]
  have hS4 := HS3.out.belowAll hb4
  have hlt3 := HS3.out.lt
  have hall : Below p w1 w4 := HB0.out.trans (HB2.out.trans (HB3.out.trans (hb4.mono (by omega))))
  have hc : w4.cell? ⟨g, 1, none⟩ = some (.string ⟨#[99]⟩) := (hall.cell (p := ⟨g, 1, none⟩) hgp).trans HCell.out
  have HB4 := Lib.hid (HB1.out.trans (hall.mono hwp))
  have HK := Lib.hid (key_any p mo3 1 _ w4 hS4)
  clear hu hf hS4 hall hb4
  go_wp2_with fail
  refine HK.out.mono ?_
  rintro e w' ⟨rfl, rfl⟩
  go_wp2
  go_ret
  exact ⟨rfl, HB4.out⟩
end Go.Proofs.Ytghnkpfnpidncaa.P
