/- The fixed facts of layer 6's laws. -/
import Derived.Test.YtnjkgbnkfncjkaaDoorWFit
namespace Go.Proofs.YtnjkgbnkfncjkaaDoor.W
open Go.RowKit

theorem of97 : ofS 97 = 1 := by decide
theorem of20013 : ofS 20013 = 2 := by decide
theorem of769 : ofS 769 = 0 := by decide
theorem fit3 : fitS 2 [97, 769, 20013] = 2 := by decide
def awArr : Array Value := #[.int .i32 97, .int .i32 769, .int .i32 20013]
theorem aw_runes (w : World) (t : TypeId) (hT : Tab w) : Rn (some ⟨w.heap.size, 0, none⟩) 3 [97, 769, 20013] (w.alloc (.cells awArr t)) := by
  refine ⟨⟨rfl, .inr ⟨w.heap.size, 0, rfl, by simp, ?_⟩⟩, hT.belowAll ((Below.refl _ _).alloc (Nat.le_refl _) _), ?_, by decide⟩
  · intro j hj
    have hj : j < 3 := hj
    rw [World.cell?_alloc_new]
    obtain rfl | rfl | rfl : j = 0 ∨ j = 1 ∨ j = 2 := by omega
    all_goals rfl
  · intro b hb
    simp [blkOf] at hb
    subst hb
    simp

set_option maxRecDepth 100000 in
set_option maxHeartbeats 2000000 in
theorem awake_any (w : World) (hT : Tab w) : Calls Tryd.prog 22 #[] w fun e w' => e = .returned (.bool true) ∧ Below w.heap.size w w' := by
  have HT := Lib.hid hT
  have H1 := Lib.hid (of_any 97 w hT)
  rw [of97] at H1
  clear hT
  go_enter Tryd.func22, Tryd.ntmps22
  go_wp2_with fail
  refine H1.out.mono ?_
  rintro e w1 ⟨rfl, hb1⟩
  have H2 := Lib.hid (of_any 20013 w1 (HT.out.belowAll hb1))
  rw [of20013] at H2
  have HB1 := Lib.hid hb1
  clear hb1 H1
  go_wp2_with fail
  refine H2.out.mono ?_
  rintro e w2 ⟨rfl, hb2⟩
  have HB2 := Lib.hid (HB1.out.trans (hb2.mono HB1.out.size))
  have H3 := Lib.hid (of_any 769 w2 (HT.out.belowAll HB2.out))
  rw [of769] at H3
  clear hb2 H2
  go_wp2_with fail
  refine H3.out.mono ?_
  rintro e w3 ⟨rfl, hb3⟩
  have HB3 := Lib.hid (HB2.out.trans (hb3.mono HB2.out.size))
  have H4 := Lib.hid (fit_any 2 (by decide) (by decide) (some ⟨w3.heap.size, 0, none⟩) 3 3 [97, 769, 20013] _ (aw_runes w3 21 (HT.out.belowAll HB3.out)))
  rw [fit3] at H4
  unfold awArr at H4
  clear hb3 H3
  go_wp2_with fail
  refine H4.out.mono ?_
  rintro e w4 ⟨rfl, hb4⟩
  have HB4 : Hid (Below w.heap.size w w4) := Lib.hid ((HB3.out.alloc HB3.out.size _).trans (hb4.mono (by have := HB3.out.size; simp; omega)))
  clear hb4 H4
  go_wp2
  go_ret
  exact ⟨rfl, HB4.out⟩
end Go.Proofs.YtnjkgbnkfncjkaaDoor.W
