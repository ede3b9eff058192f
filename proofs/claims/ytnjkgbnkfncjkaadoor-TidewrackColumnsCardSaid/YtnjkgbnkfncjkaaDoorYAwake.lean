/- The fixed fact of layer 5's laws. -/
import Derived.Test.YtnjkgbnkfncjkaaDoorYSame
namespace Go.Proofs.YtnjkgbnkfncjkaaDoor.Y
open Go.RowKit
open Go.Proofs.YtnjkgbnkfncjkaaDoor.W (OwnR OwnI RunesIn IntsIn isRune runes_one grownBy_of_below)

theorem dec3 : decS [65, 195, 40] = [65, 65533, 40] := by decide +kernel
theorem enc233 : encS 233 = [195, 169] := by decide +kernel
def awArr : Array Value := #[.int .i64 65, .int .i64 65533, .int .i64 40]
theorem aw_ints (w : World) (t : TypeId) : IntsIn (some ⟨w.heap.size, 0, none⟩) 3 [65, 65533, 40] (w.alloc (.cells awArr t)) := by
  refine ⟨rfl, .inr ⟨w.heap.size, 0, rfl, by simp, ?_⟩⟩
  intro j hj
  have hj : j < 3 := hj
  rw [World.cell?_alloc_new]
  obtain rfl | rfl | rfl : j = 0 ∨ j = 1 ∨ j = 2 := by omega
  all_goals rfl
theorem nat_rune {l : List Nat} (h : ∀ r ∈ l, validN r) : ∀ i, i < (toI l).length → isRune ((toI l).getD i 0) := by
  intro i hi
  rw [toI_len] at hi
  have e : (toI l).getD i 0 = (l[i] : Int) := by simp [toI, List.getD_eq_getElem?_getD, hi]
  have hv := h l[i] (List.getElem_mem hi)
  rw [e]
  unfold validN at hv
  unfold isRune
  omega

set_option maxRecDepth 100000 in
set_option maxHeartbeats 2000000 in
theorem awake_any (w : World) (hT : Tab w) : Calls Tryd.prog 12 #[] w fun e w' => e = .returned (.bool true) ∧ Below w.heap.size w w' := by
  have hdec := decode_any ⟨#[65, 195, 40]⟩ (by decide) w hT
  rw [show (⟨#[65, 195, 40]⟩ : ByteArray).data.toList = [65, 195, 40] from rfl, dec3] at hdec
  have HDec := Lib.hid hdec
  clear hdec hT
  go_enter Tryd.func12, Tryd.ntmps12
  go_wp2_with fail
  refine HDec.out.mono ?_
  rintro e w1 ⟨a, c, rfl, hown, hb1⟩
  obtain ⟨a', c', hv, hin, hnil⟩ := toI_shape hown
  injection hv with hv1 _ hv2
  subst hv1 hv2
  have hb2 : Below w1.heap.size w1 (w1.alloc (.cells awArr 3)) := (Below.refl _ _).alloc (Nat.le_refl _) _
  have hsame := same_any a (some ⟨w1.heap.size, 0, none⟩) 3 c 3 3 (toI [65, 65533, 40]) [65, 65533, 40] (by decide) (nat_rune (by decide)) _ (hin.belowAll hb2) (aw_ints w1 3)
  rw [show decide (toI [65, 65533, 40] = [65, 65533, 40]) = true from by decide] at hsame
  unfold awArr at hsame
  have HSame := Lib.hid hsame
  have HB1 := Lib.hid hb1
  have hls : w.heap.size ≤ w1.heap.size := hb1.size
  clear hb1 hb2 hin hnil hown hsame HDec
  simp only [List.length_cons, List.length_nil, Nat.reduceAdd]
  go_wp2_with fail
  refine HSame.out.mono ?_
  rintro e w2 ⟨rfl, hb2⟩
  have HB2 : Hid (Below w.heap.size w w2) := Lib.hid ((HB1.out.alloc hls _).trans (hb2.mono (by simp; omega)))
  have hls2 : w.heap.size ≤ w2.heap.size := by have := hb2.size; simp at this; omega
  have henc := encode_any (some ⟨w2.heap.size, 0, none⟩) 1 1 [233] _ (runes_one w2 233 21)
  have HEnc := Lib.hid henc
  clear hb2 henc HSame
  go_wp2_with fail
  refine HEnc.out.mono ?_
  rintro e w3 ⟨⟨s, rfl, hs⟩, rfl⟩
  have hpre : (s.toList == [195, 169]) = true := by
    rw [ByteArray.toList_eq, hs, List.flatMap_cons, enc233]
    rfl
  have HB3 : Hid (Below w.heap.size w (w2.alloc (.cells #[.int .i32 233] 21))) := Lib.hid (HB2.out.alloc hls2 _)
  clear hs
  go_wp2
  go_ret
  exact ⟨rfl, HB3.out⟩
end Go.Proofs.YtnjkgbnkfncjkaaDoor.Y
