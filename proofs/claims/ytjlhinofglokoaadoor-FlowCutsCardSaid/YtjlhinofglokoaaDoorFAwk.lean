/- The statements' fixed fact. -/
import Derived.Test.YtjlhinofglokoaaDoorFCut
import Derived.Test.YtjlhinofglokoaaDoorFText
namespace Go.Proofs.YtjlhinofglokoaaDoor.F
open Go.RowKit H
open W (Tab)

theorem three_in (w : World) : PairsIn .i32 (some ⟨w.heap.size, 0, none⟩) 3 3 [(97, 0), (98, 0), (20013, 0)] (w.alloc (.cells #[.int .i32 97, .int .i64 0, .int .i32 98, .int .i64 0, .int .i32 20013, .int .i64 0] 42)) := by
  refine ⟨rfl, Nat.le_refl _, by decide, .inr ⟨w.heap.size, 0, rfl, by simp, fun i g hi => ?_⟩⟩
  rw [World.cell?_alloc_new, World.cell?_alloc_new]
  match i, hi with
  | 0, hi => cases hi; exact ⟨rfl, rfl⟩
  | 1, hi => cases hi; exact ⟨rfl, rfl⟩
  | 2, hi => cases hi; exact ⟨rfl, rfl⟩
  | i + 3, hi => simp at hi
theorem cut_three : cutR (clampW 3) [(97, 0), (98, 0), (20013, 0)] = [[(97, 0), (98, 0)], [(20013, 0)]] := by decide +kernel
theorem cut_none : cutR (clampW 5) [] = [[]] := by decide +kernel
theorem text_three : runesBytes (runesF [(97, 0), (98, 0), (20013, 0)]) = ⟨#[97, 98, 228, 184, 173]⟩ := by decide +kernel
set_option maxRecDepth 100000 in
set_option maxHeartbeats 4000000 in
theorem awake_any (w : World) (hT : Tab w) : Calls Tryd.prog 9 #[] w fun e w' => e = .returned (.bool true) ∧ Below w.heap.size w w' := by
  obtain ⟨P, hP⟩ : ∃ P : Ending → World → Prop, (fun e w' => e = .returned (.bool true) ∧ Below w.heap.size w w') = P := ⟨_, rfl⟩
  rw [hP]
  have HP := Lib.hid hP
  obtain ⟨w1, hw1⟩ : ∃ w1, w.alloc (.cells #[.int .i32 97, .int .i64 0, .int .i32 98, .int .i64 0, .int .i32 20013, .int .i64 0] 42) = w1 := ⟨_, rfl⟩
  have hb1 : Below w.heap.size w w1 := by rw [← hw1]; exact (Below.refl _ _).alloc (Nat.le_refl _) _
  have h3 := three_in w
  rw [hw1] at h3
  have hT1 := hT.belowAll hb1
  have HC := Lib.hid (cut_any _ 3 3 _ 3 w1 h3 (fun e => by cases e) hT1 (by decide))
  rw [cut_three] at HC
  have HT1 := Lib.hid hT1
  have H3 := Lib.hid h3
  have HB1 := Lib.hid hb1
  have HW1 := Lib.hid hw1
  clear hP hw1 hb1 h3 hT1 hT
  go_enter Tryd.func9, Tryd.ntmps9
  go_wp2_with fail
  rw [HW1.out]
  refine HC.out.mono ?_
  rintro e w2 ⟨v, us, rfl, hus, hsv, hb2⟩
  obtain ⟨a, c, rfl, hfc, hct, -, hat⟩ := hus.shape
  have hul : us.length = 2 := hsv.1
  obtain ⟨u0, u1, rfl⟩ : ∃ u0 u1, us = [u0, u1] := by
    match us, hul with
    | [x, y], _ => exact ⟨x, y, rfl⟩
  obtain ⟨g, rfl, -, hgl, hA⟩ := hat.resolve_left (by simp)
  have c0 := hA 0 u0 rfl
  have c1 := hA 1 u1 rfl
  have n0 := (hsv.row (i := 0) (u := u0) (l := [(97, 0), (98, 0)]) rfl rfl).2.1
  have n1 := (hsv.row (i := 1) (u := u1) (l := [(20013, 0)]) rfl rfl).2.1
  obtain ⟨a0, x0, y0⟩ := u0
  obtain ⟨a1, x1, y1⟩ := u1
  simp only at c0 c1 n0 n1
  simp only [List.length_cons, List.length_nil] at n0 n1 hfc
  subst n0 n1
  have H4 := Lib.hid (text_any _ 3 3 _ w2 (H3.out.belowAll hb2) (by decide))
  rw [text_three] at H4
  have HT2 := Lib.hid (HT1.out.belowAll hb2)
  have HB2 := Lib.hid (HB1.out.trans (hb2.mono HB1.out.size))
  clear hus hsv hat hA hul hgl hb2 HC
  go_wp2_with fail
  refine H4.out.mono ?_
  rintro e w3 ⟨rfl, hb3⟩
  have H5 := Lib.hid (cut_any none 0 0 [] 5 w3 ⟨rfl, Nat.le_refl _, by decide, .inl rfl⟩ (fun _ => rfl) (HT2.out.belowAll hb3) (by decide))
  rw [cut_none] at H5
  have HB3 := Lib.hid (HB2.out.trans (hb3.mono HB2.out.size))
  clear hb3 H4 c0 c1
  go_wp2_with fail
  refine H5.out.mono ?_
  rintro e w4 ⟨v, us, rfl, hus, hsv, hb4⟩
  obtain ⟨a, c, rfl, -⟩ := hus.shape
  have hul : us.length = 1 := hsv.1
  rw [hul]
  have HE : Hid (P (.returned (.bool true)) w4) := Lib.hid (by rw [← HP.out]; exact ⟨rfl, HB3.out.trans (hb4.mono HB3.out.size)⟩)
  clear hus hsv hul hb4 H5
  go_wp2_with fail
  exact HE.out
end Go.Proofs.YtjlhinofglokoaaDoor.F
