/- The contract of the statements' awake (layer 9). -/
import Derived.Test.YtmdnnpcofbhceaaDoorVDo
import Derived.Test.YtmdnnpcofbhceaaDoorVGly
namespace Go.Proofs.YtmdnnpcofbhceaaDoor.K
open Go.RowKit

theorem awake_row : putS (W.ofS 97) (putS (W.ofS 20013) (blanks (nearN 3) 0) 0 20013 0) 1 97 0 = [⟨32, 0, 0⟩, ⟨97, 0, 0⟩, ⟨32, 0, 0⟩] := by decide
theorem awake_glyphs : (glyphs ⟨[⟨32, 0, 0⟩, ⟨97, 0, 0⟩, ⟨32, 0, 0⟩], false⟩).length = 2 := by decide
set_option maxRecDepth 100000 in
set_option maxHeartbeats 8000000 in
theorem awake_any (w : World) (hT : W.Tab w) : Calls Tryd.prog 13 #[] w fun e w' => e = .returned (.bool true) ∧ Below w.heap.size w w' := by
  obtain ⟨rb, hrb⟩ : ∃ rb, w.heap.size = rb := ⟨_, rfl⟩
  rw [hrb]
  have HRb := Lib.hid hrb
  have HT := Lib.hid hT
  have H1 := Lib.hid (rowBlank_any 3 0 w)
  clear hrb hT
  go_enter Tryd.func13, Tryd.ntmps13
  go_wp2_with fail
  refine H1.out.mono ?_
  rintro e w1 ⟨v1, rfl, hO1, hb1⟩
  obtain ⟨a1, c1, rfl, hi1, -, hn1, -⟩ := hO1.shape
  have hl1 : (blanks (nearN 3) 0).length = 3 := by decide
  rw [hl1] at hi1 ⊢
  have H2 := Lib.hid (rowPut_any a1 3 c1 false _ 0 20013 0 w1 (HT.out.belowAll hb1) hi1 hn1 (by decide))
  have HB1 := Lib.hid hb1
  clear hO1 hb1 hi1 hn1 hl1 H1
  go_wp2_with fail
  refine H2.out.mono ?_
  rintro e w2 ⟨v2, rfl, hO2, hb2⟩
  have HB2 := Lib.hid (HB1.out.trans (hb2.mono HB1.out.size))
  obtain ⟨a2, c2, rfl, hi2, -, hn2, -⟩ := hO2.shape
  have hl2 : (putS (W.ofS 20013) (blanks (nearN 3) 0) 0 20013 0).length = 3 := by rw [put_length]; decide
  rw [hl2] at hi2 ⊢
  have H3 := Lib.hid (rowPut_any a2 3 c2 false _ 1 97 0 w2 (HT.out.belowAll HB2.out) hi2 hn2 (by decide))
  rw [awake_row] at H3
  clear hO2 hb2 hi2 hn2 hl2 H2
  go_wp2_with fail
  refine H3.out.mono ?_
  rintro e w3 ⟨v3, rfl, hO3, hb3⟩
  have HB3 := Lib.hid (HB2.out.trans (hb3.mono HB2.out.size))
  obtain ⟨a3, c3, rfl, hi3, -, hn3, hc3, hx3⟩ := hO3.shape
  obtain ⟨b3, o3, rfl, hbl3, hA3⟩ := hi3.at_.resolve_left (by intro e; cases e)
  have k0 := hA3 0 _ rfl
  have k1 := hA3 1 _ rfl
  have k2 := hA3 2 _ rfl
  obtain ⟨w4, hw4⟩ : ∃ w4, w3.alloc (.cells #[.slice (some ⟨b3, o3, none⟩) 3 c3, .bool false] 26) = w4 := ⟨_, rfl⟩
  have hb4 : Below w3.heap.size w3 w4 := by rw [← hw4]; exact (Below.refl _ _).alloc (Nat.le_refl _) _
  have hR : RoB 26 w3.heap.size (.slice (some ⟨b3, o3, none⟩) 3 c3) false w4 := by rw [← hw4]; exact RoB.new _ _ _ _
  have z0 := hR.c0
  have z1 := hR.c1
  have k0' := k0.block (hb4.block b3 hbl3)
  have k1' := k1.block (hb4.block b3 hbl3)
  have k2' := k2.block (hb4.block b3 hbl3)
  have x0 : w4.cell? ⟨b3, o3, none⟩ = some (.int .i32 32) := k0'.c0
  have x1 : w4.cell? ⟨b3, o3 + 3, none⟩ = some (.int .i32 97) := k1'.c0
  have x2 : w4.cell? ⟨b3, o3 + 6, none⟩ = some (.int .i32 32) := k2'.c0
  have x3 : w4.cell? ⟨b3, o3 + 6 + 2, none⟩ = some (.int .i64 0) := k2'.c2
  have x4 : w4.cell? ⟨b3, o3 + 8, none⟩ = some (.int .i64 0) := k2'.c2
  have HG := Lib.hid (glyphs_any (some ⟨b3, o3, none⟩) 3 c3 false _ w4 (hi3.belowAll hb4) (by decide) (by simpa using hc3) hx3)
  have HB4 := Lib.hid (HB3.out.trans (hb4.mono HB3.out.size))
  obtain ⟨g, hg⟩ : ∃ g, w3.heap.size = g := ⟨_, rfl⟩
  rw [hg] at z0 z1
  have HW4 := Lib.hid hw4
  have HGg := Lib.hid hg
  have hc33 : (3 : Int) ≤ c3 := by simp at hc3; omega
  clear hO3 hb3 hi3 hn3 hA3 k0 k1 k2 k0' k1' k2' hb4 hR hw4 hg H3 hbl3
  go_upto_region 2 with fail
  have e3 : ([⟨32, 0, 0⟩, ⟨97, 0, 0⟩, ⟨32, 0, 0⟩] : List Cel).length = 3 := rfl
  first | rw [HW4.out, HGg.out] | (rw [e3, HW4.out, HGg.out])
  go_wp2_with fail
  refine HG.out.mono ?_
  rintro e w5 ⟨a5, n5, c5, rfl, hG, hb5⟩
  have hn5 := hG.len
  rw [awake_glyphs] at hn5
  subst hn5
  have HB5 := Lib.hid (HB4.out.trans (hb5.mono HB4.out.size))
  clear hG hb5 HG
  go_wp2_with fail
  go_ret
  exact ⟨rfl, by rw [← HRb.out]; exact HB5.out⟩
end Go.Proofs.YtmdnnpcofbhceaaDoor.K
