/- The fixed fact of layer 3's laws. -/
import Derived.Test.YtghnkpfnpidncaaDoorGParse
import Derived.Test.YtghnkpfnpidncaaDoorGPackR
namespace Go.Proofs.YtghnkpfnpidncaaDoor.G
open Go.RowKit Go.Proofs.YtghnkpfnpidncaaDoor.I

theorem digs1 : digs (clipN 1) = [1] := by rw [show clipN 1 = 1 by decide, digs_small (by decide)]; rfl
theorem digs2 : digs (clipN 2) = [2] := by rw [show clipN 2 = 2 by decide, digs_small (by decide)]; rfl
theorem digs0 : digs (clipN 0) = [0] := by rw [show clipN 0 = 0 by decide, digs_small (by decide)]; rfl
theorem digs0' : digs (clipN ((0 : Nat) : Int)) = [0] := digs0
theorem size12 : sizeN 1 2 [] 0 = 8 := by
  unfold sizeN
  rw [digs1, digs2, List.length_nil, digs0']
  rfl
theorem check12 : checkS 1 2 [] 0 = 0 := by
  unfold checkS
  rw [size12]
  decide
theorem body12 : bodyS 1 2 [] ⟨#[]⟩ = [1, 2, 0, 0] := by
  unfold bodyS numsOf textB
  simp only [List.flatMap_cons, List.flatMap_nil, List.length_nil]
  rw [digs1, digs2, digs0', show (⟨#[]⟩ : ByteArray).size = 0 from rfl, digs0']
  rfl
theorem pack12 : packS 1 2 [] ⟨#[]⟩ = [1, 2, 0, 0, 23, 108, 124, 154] := by
  unfold packS
  rw [show (⟨#[]⟩ : ByteArray).size = 0 from rfl, if_pos check12, body12]
  decide +kernel
theorem parse12 (s : ByteArray) (h : s.data.toList = [1, 2, 0, 0, 23, 108, 124, 154]) (w : World) (hT : S.Tab w) :
    Calls Tryd.prog 16 #[.string s] w (ParseOk 1 2 [] [] w) := by
  have hs : s.size = 8 := by have : s.data.toList.length = 8 := by rw [h]; rfl
                             exact this
  refine parse_read s (by omega) w hT (by rw [h]; decide +kernel) [1, 2, 0, 0] [2, 0, 0] [0, 0] [0] [0] [0] [] [] 0 0 0 0 0 0 1 2 0 0 [] (by rw [h]; decide +kernel) (by decide +kernel) (by decide +kernel) (by decide +kernel) (by decide) (by decide) (by decide) (by decide +kernel) (by decide) check12

set_option maxRecDepth 100000 in
set_option maxHeartbeats 2000000 in
theorem awake_any (w : World) (hT : S.Tab w) : Calls Tryd.prog 9 #[] w fun e w' => e = .returned (.bool true) ∧ Below w.heap.size w w' := by
  have HPk := Lib.hid (pack_any 1 2 none 0 0 ⟨#[]⟩ [] w ⟨rfl, .inl ⟨rfl, rfl⟩⟩ (by decide) hT)
  rw [pack12] at HPk
  have HT := Lib.hid hT
  unfold gramV at HPk
  clear hT
  go_enter Tryd.func9, Tryd.ntmps9
  go_wp2_with fail
  refine HPk.out.mono ?_
  rintro en w1 ⟨s, rfl, hsl, hb1⟩
  have HPa := Lib.hid (parse12 s hsl w1 (S.tab_of HT.out hb1))
  have hs8 : (s.size : Int) = 8 := by have h : s.data.toList.length = 8 := by rw [hsl]; rfl
                                      have h2 : s.data.toList.length = s.size := rfl
                                      omega
  have hpre : ((s.extract 0 4).toList == [1, 2, 0, 0]) = true := by
    rw [ByteArray.toList_eq, ByteArray.data_extract]
    simp [hsl]
  have HPre := Lib.hid hpre
  have HB1 := Lib.hid hb1
  clear hsl hb1 hpre HPk
  go_wp2_with fail
  refine HPa.out.mono ?_
  rintro en w2 ⟨a, cap, d, rfl, hdl, hna, hb2⟩
  have hpre := HPre.out
  obtain ⟨gb, hgb⟩ : ∃ gb, w2.heap.size = gb := ⟨_, rfl⟩
  obtain ⟨wG, hwG⟩ : ∃ wG, w2.alloc (.cells #[.int .i64 1, .int .i64 2, .slice a 0 cap, .string d] 26) = wG := ⟨_, rfl⟩
  have hbG : Below w2.heap.size w2 wG := by rw [← hwG]; exact (Below.refl _ _).alloc (Nat.le_refl _) _
  have HGG : Hid (GBlk gb (.int .i64 1) (.int .i64 2) (.slice a 0 cap) (.string d) wG) := Lib.hid (by rw [← hwG, ← hgb]; exact World.alloc_heap_new _ _)
  have HNum := Lib.hid (gnum_any 1 2 a 0 cap d [] 0 wG (hna.numsIn.below hbG))
  have HBG : Hid (Below w.heap.size w wG) := Lib.hid (by
    have h := HB1.out.trans (hb2.mono HB1.out.size)
    exact h.trans (hbG.mono h.size))
  have k0 := HGG.out.c0
  have k1 := HGG.out.c1
  have k2 := HGG.out.c2
  have k3 := HGG.out.c3
  unfold gramV at *
  clear hdl hna hb2 hbG HPa HPre
  go_wp2_with fail
  refine HNum.out.mono ?_
  rintro en w3 ⟨rfl, hb3⟩
  have HB3 : Hid (Below w.heap.size w w3) := Lib.hid (HBG.out.trans (hb3.mono HBG.out.size))
  clear hb3 k0 k1 k2 k3 hwG hgb
  go_wp2
  go_ret
  exact ⟨rfl, HB3.out⟩
end Go.Proofs.YtghnkpfnpidncaaDoor.G
