/- gram.Parse: not sealed; read with an error; read, but not what may be. -/
import Derived.Test.YtghnkpfnpidncaaDoorGParse
namespace Go.Proofs.YtghnkpfnpidncaaDoor.G
open Go.RowKit Go.Proofs.YtghnkpfnpidncaaDoor.I

set_option maxHeartbeats 1000000 in
theorem parse_sum (s : ByteArray) (hs : (s.size : Int) ≤ 8192) (w : World) (hT : S.Tab w) (hse : S.isSealed s.data.toList = false) :
    Calls Tryd.prog 16 #[.string s] w (ParseErr 4 w) := by
  obtain ⟨P, hP⟩ : ∃ P, ParseErr 4 w = P := ⟨_, rfl⟩
  rw [hP]
  have HP := Lib.hid hP
  obtain ⟨wA, hwA⟩ : ∃ wA, w.alloc (.cells #[.int .i64 0, .int .i64 0, .slice none 0 0, .string ⟨#[]⟩] 26) = wA := ⟨_, rfl⟩
  obtain ⟨r, hr⟩ : ∃ r, w.heap.size = r := ⟨_, rfl⟩
  have hbA : Below w.heap.size w wA := by rw [← hwA]; exact (Below.refl _ _).alloc (Nat.le_refl _) _
  have hrA : GBlk r (.int .i64 0) (.int .i64 0) (.slice none 0 0) (.string ⟨#[]⟩) wA := by rw [← hwA, ← hr]; exact World.alloc_heap_new _ _
  have h1 := S.open_any s (by omega) wA (S.tab_of hT hbA)
  rw [hse] at h1
  have H1 := Lib.hid h1
  have HBA := Lib.hid hbA
  have HRA := Lib.hid hrA
  have HR := Lib.hid hr
  clear hP hbA hrA hT hse h1
  go_enter Tryd.func16, Tryd.ntmps16
  go_wp2_with fail
  refine H1.out.mono ?_
  rintro en w2 ⟨t, rfl, htl, hb2⟩
  have hB2 : Below w.heap.size w w2 := HBA.out.trans (hb2.mono HBA.out.size)
  have hR2 : GBlk r (.int .i64 0) (.int .i64 0) (.slice none 0 0) (.string ⟨#[]⟩) w2 := (hb2.block r HRA.out.lt).trans HRA.out
  have r0 := hR2.c0
  have r1 := hR2.c1
  have r2 := hR2.c2
  have r3 := hR2.c3
  have q0 := hR2.fr 0
  have q1 := hR2.fr 1
  have q2 := hR2.fr 2
  have q3 := hR2.fr 3
  have HB2 := Lib.hid hB2
  clear hwA hr hb2 htl H1 hB2 hR2
  go_wp2
  (try simp only [Exit.inBlock, Exit.then])
  refine bodyPost_ret (v := .tuple #[.agg #[.int .i64 0, .int .i64 0, .slice none 0 0, .string ⟨#[]⟩], .int .i64 (4 : Nat)]) (by rw [results_cell_tmp rfl]; go_simp) rfl ?_
  rw [← HP.out]
  exact ⟨rfl, (((HB2.out.setCell (p := ⟨r, 0, none⟩) (Nat.le_of_eq HR.out) _).setCell (p := ⟨r, 1, none⟩) (Nat.le_of_eq HR.out) _).setCell (p := ⟨r, 2, none⟩) (Nat.le_of_eq HR.out) _).setCell (p := ⟨r, 3, none⟩) (Nat.le_of_eq HR.out) _⟩

set_option maxRecDepth 100000 in
set_option maxHeartbeats 2000000 in
theorem parse_bad (s : ByteArray) (hs : (s.size : Int) ≤ 8192) (w : World) (hT : S.Tab w) (hse : S.isSealed s.data.toList = true) (l l1 l2 l3 l4 l6 l7 dl : List UInt8) (e1 e2 e3 e4 e6 e7 v1 v2 v3 c E : Nat) (ns : List Nat) (hl : S.opened s.data.toList = l) (hn1 : numS l 0 = ((l1, e1), v1)) (hn2 : numS l1 e1 = ((l2, e2), v2)) (hn3 : numS l2 e2 = ((l3, e3), v3))
    (hst : (if 64 < v3 then failS l3 e3 1 else (l3, e3)) = (l4, e4)) (hc : (if 64 < v3 then 0 else v3) = c) (hq : rdTake c l4 e4 = ((l6, e6), ns)) (ht : textS l6 e6 = ((l7, e7), dl))
    (he : endS l7 e7 = E) (hE : E ≠ 0) :
    Calls Tryd.prog 16 #[.string s] w (ParseErr E w) := by
  obtain ⟨P, hP⟩ : ∃ P, ParseErr E w = P := ⟨_, rfl⟩
  rw [hP]
  have HP := Lib.hid hP
  obtain ⟨wA, hwA⟩ : ∃ wA, w.alloc (.cells #[.int .i64 0, .int .i64 0, .slice none 0 0, .string ⟨#[]⟩] 26) = wA := ⟨_, rfl⟩
  obtain ⟨r, hr⟩ : ∃ r, w.heap.size = r := ⟨_, rfl⟩
  have hbA : Below w.heap.size w wA := by rw [← hwA]; exact (Below.refl _ _).alloc (Nat.le_refl _) _
  have hrA : GBlk r (.int .i64 0) (.int .i64 0) (.slice none 0 0) (.string ⟨#[]⟩) wA := by rw [← hwA, ← hr]; exact World.alloc_heap_new _ _
  have H1 := Lib.hid (S.open_any s (by omega) wA (S.tab_of hT hbA))
  rw [hse, hl] at H1
  have HBA := Lib.hid hbA
  have HRA := Lib.hid hrA
  have HR := Lib.hid hr
  have HRead := Lib.hid (fun p u (h : InSt p l 0 u) => read_any p l 0 u h l1 l2 l3 l4 l6 l7 dl e1 e2 e3 e4 e6 e7 v1 v2 v3 c ns hn1 hn2 hn3 hst hc hq ht)
  rw [he] at HRead
  have hsl : l.length ≤ 8192 := by rw [← hl]; unfold S.opened; split <;> simp <;> (have : s.data.toList.length = s.size := rfl; omega)
  have HL := Lib.hid hsl
  have HE := Lib.hid hE
  have hne : ((E : Int) != 0) = true := by rw [bne_iff_ne]; omega
  have hneq : ((E : Int) == 0) = false := by rw [beq_eq_false_iff_ne]; omega
  clear hP hbA hrA hT hse hl hn1 hn2 hn3 hst hc hq ht he hsl hE
  go_enter Tryd.func16, Tryd.ntmps16
  go_wp2_with fail
  refine H1.out.mono ?_
  rintro en w2 ⟨t, rfl, htl, hb2⟩
  have hts : (t.size : Int) ≤ 8192 := by have h : t.size = l.length := by rw [← htl]; rfl
                                         have := HL.out; omega
  have HOf := Lib.hid (of_any t (by omega) w2)
  rw [htl] at HOf
  have HB2 : Hid (Below w.heap.size w w2) := Lib.hid (HBA.out.trans (hb2.mono HBA.out.size))
  have HR2 : Hid (GBlk r (.int .i64 0) (.int .i64 0) (.slice none 0 0) (.string ⟨#[]⟩) w2) := Lib.hid ((hb2.block r HRA.out.lt).trans HRA.out)
  clear hwA hr hb2 htl H1
  go_wp2_with fail
  refine HOf.out.mono ?_
  rintro en w3 ⟨rfl, hi3, hw3⟩
  have HRd := Lib.hid (HRead.out _ w3 hi3)
  have HB3 : Hid (Below w2.heap.size w2 w3) := Lib.hid (by rw [hw3]; exact (Below.refl _ _).alloc (Nat.le_refl _) _)
  clear hi3 hw3 HOf
  go_wp2_with fail
  refine HRd.out.mono ?_
  rintro en w4 ⟨a, cap, d, rfl, hdl, hds, hna, hab, hb4⟩
  have HB4 : Hid (Below w.heap.size w w4) := Lib.hid (by
    have h := HB3.out.trans (hb4.mono (Nat.le_refl _))
    exact HB2.out.trans (h.mono HB2.out.size))
  have HR4 : Hid (GBlk r (.int .i64 0) (.int .i64 0) (.slice none 0 0) (.string ⟨#[]⟩) w4) := Lib.hid (by
    have h := HB3.out.trans (hb4.mono (Nat.le_refl _))
    exact (h.block r HR2.out.lt).trans HR2.out)
  have hr4 : r < w4.heap.size := HR4.out.lt
  obtain ⟨wG, hwG⟩ : ∃ wG, w4.alloc (.cells #[.int .i64 v1, .int .i64 v2, .slice a ns.length cap, .string d] 26) = wG := ⟨_, rfl⟩
  have hrG : GBlk r (.int .i64 0) (.int .i64 0) (.slice none 0 0) (.string ⟨#[]⟩) wG := by
    rw [← hwG]; exact (Below.heap_alloc _ _ _ hr4).trans HR4.out
  have HBG : Hid (Below w.heap.size w wG) := Lib.hid (by rw [← hwG]; exact HB4.out.alloc HB4.out.size _)
  have r0 := hrG.c0
  have r1 := hrG.c1
  have r2 := hrG.c2
  have r3 := hrG.c3
  have q0 := hrG.fr 0
  have q1 := hrG.fr 1
  have q2 := hrG.fr 2
  have q3 := hrG.fr 3
  unfold gramV at *
  clear hdl hds hna hab hb4 HRd HRead hr4 hrG
  go_wp2
  (try simp only [Exit.inBlock, Exit.then])
  refine bodyPost_ret (v := .tuple #[.agg #[.int .i64 0, .int .i64 0, .slice none 0 0, .string ⟨#[]⟩], .int .i64 E]) (by rw [results_cell_tmp rfl]; go_simp) rfl ?_
  rw [← HP.out]
  exact ⟨rfl, (((HBG.out.setCell (p := ⟨r, 0, none⟩) (Nat.le_of_eq HR.out) _).setCell (p := ⟨r, 1, none⟩) (Nat.le_of_eq HR.out) _).setCell (p := ⟨r, 2, none⟩) (Nat.le_of_eq HR.out) _).setCell (p := ⟨r, 3, none⟩) (Nat.le_of_eq HR.out) _⟩

set_option maxRecDepth 100000 in
set_option maxHeartbeats 2000000 in
theorem parse_not (s : ByteArray) (hs : (s.size : Int) ≤ 8192) (w : World) (hT : S.Tab w) (hse : S.isSealed s.data.toList = true) (l l1 l2 l3 l4 l6 l7 dl : List UInt8) (e1 e2 e3 e4 e6 e7 v1 v2 v3 c E : Nat) (ns : List Nat) (hl : S.opened s.data.toList = l) (hn1 : numS l 0 = ((l1, e1), v1)) (hn2 : numS l1 e1 = ((l2, e2), v2)) (hn3 : numS l2 e2 = ((l3, e3), v3))
    (hst : (if 64 < v3 then failS l3 e3 1 else (l3, e3)) = (l4, e4)) (hc : (if 64 < v3 then 0 else v3) = c) (hq : rdTake c l4 e4 = ((l6, e6), ns)) (ht : textS l6 e6 = ((l7, e7), dl))
    (he : endS l7 e7 = 0) (hck : checkS v1 v2 (ns.map Int.ofNat) dl.length = E) (hE : E ≠ 0) :
    Calls Tryd.prog 16 #[.string s] w (ParseErr E w) := by
  obtain ⟨P, hP⟩ : ∃ P, ParseErr E w = P := ⟨_, rfl⟩
  rw [hP]
  have HP := Lib.hid hP
  obtain ⟨wA, hwA⟩ : ∃ wA, w.alloc (.cells #[.int .i64 0, .int .i64 0, .slice none 0 0, .string ⟨#[]⟩] 26) = wA := ⟨_, rfl⟩
  obtain ⟨r, hr⟩ : ∃ r, w.heap.size = r := ⟨_, rfl⟩
  have hbA : Below w.heap.size w wA := by rw [← hwA]; exact (Below.refl _ _).alloc (Nat.le_refl _) _
  have hrA : GBlk r (.int .i64 0) (.int .i64 0) (.slice none 0 0) (.string ⟨#[]⟩) wA := by rw [← hwA, ← hr]; exact World.alloc_heap_new _ _
  have H1 := Lib.hid (S.open_any s (by omega) wA (S.tab_of hT hbA))
  rw [hse, hl] at H1
  have HBA := Lib.hid hbA
  have HRA := Lib.hid hrA
  have HR := Lib.hid hr
  have HRead := Lib.hid (fun p u (h : InSt p l 0 u) => read_any p l 0 u h l1 l2 l3 l4 l6 l7 dl e1 e2 e3 e4 e6 e7 v1 v2 v3 c ns hn1 hn2 hn3 hst hc hq ht)
  rw [he] at HRead
  have hsl : l.length ≤ 8192 := by rw [← hl]; unfold S.opened; split <;> simp <;> (have : s.data.toList.length = s.size := rfl; omega)
  have HL := Lib.hid hsl
  have HCk := Lib.hid hck
  have hne : ((E : Int) != 0) = true := by rw [bne_iff_ne]; omega
  clear hP hbA hrA hT hse hl hn1 hn2 hn3 hst hc hq ht he hck hsl hE
  go_enter Tryd.func16, Tryd.ntmps16
  go_wp2_with fail
  refine H1.out.mono ?_
  rintro en w2 ⟨t, rfl, htl, hb2⟩
  have hts : (t.size : Int) ≤ 8192 := by have h : t.size = l.length := by rw [← htl]; rfl
                                         have := HL.out; omega
  have HOf := Lib.hid (of_any t (by omega) w2)
  rw [htl] at HOf
  have HB2 : Hid (Below w.heap.size w w2) := Lib.hid (HBA.out.trans (hb2.mono HBA.out.size))
  have HR2 : Hid (GBlk r (.int .i64 0) (.int .i64 0) (.slice none 0 0) (.string ⟨#[]⟩) w2) := Lib.hid ((hb2.block r HRA.out.lt).trans HRA.out)
  clear hwA hr hb2 htl H1
  go_wp2_with fail
  refine HOf.out.mono ?_
  rintro en w3 ⟨rfl, hi3, hw3⟩
  have HRd := Lib.hid (HRead.out _ w3 hi3)
  have HB3 : Hid (Below w2.heap.size w2 w3) := Lib.hid (by rw [hw3]; exact (Below.refl _ _).alloc (Nat.le_refl _) _)
  clear hi3 hw3 HOf
  go_wp2_with fail
  refine HRd.out.mono ?_
  rintro en w4 ⟨a, cap, d, rfl, hdl, hds, hna, hab, hb4⟩
  clear hab
  have HB4 : Hid (Below w.heap.size w w4) := Lib.hid (by
    have h := HB3.out.trans (hb4.mono (Nat.le_refl _))
    exact HB2.out.trans (h.mono HB2.out.size))
  have HR4 : Hid (GBlk r (.int .i64 0) (.int .i64 0) (.slice none 0 0) (.string ⟨#[]⟩) w4) := Lib.hid (by
    have h := HB3.out.trans (hb4.mono (Nat.le_refl _))
    exact (h.block r HR2.out.lt).trans HR2.out)
  have hr4 : r < w4.heap.size := HR4.out.lt
  obtain ⟨gb, hgb⟩ : ∃ gb, w4.heap.size = gb := ⟨_, rfl⟩
  obtain ⟨wG, hwG⟩ : ∃ wG, w4.alloc (.cells #[.int .i64 v1, .int .i64 v2, .slice a ns.length cap, .string d] 26) = wG := ⟨_, rfl⟩
  have hbG : Below w4.heap.size w4 wG := by rw [← hwG]; exact (Below.refl _ _).alloc (Nat.le_refl _) _
  have HGG : Hid (GBlk gb (.int .i64 v1) (.int .i64 v2) (.slice a ns.length cap) (.string d) wG) := Lib.hid (by rw [← hwG, ← hgb]; exact World.alloc_heap_new _ _)
  have hnaG := hna.numsIn.below hbG
  have hds2 : d.size = dl.length := by rw [← hdl]; rfl
  have HCkC := Lib.hid (check_any v1 v2 a ns.length cap d (ns.map Int.ofNat) wG hnaG (by omega))
  rw [hds2, HCk.out] at HCkC
  have HBG : Hid (Below w.heap.size w wG) := Lib.hid (HB4.out.trans (hbG.mono HB4.out.size))
  have HRG : Hid (GBlk r (.int .i64 0) (.int .i64 0) (.slice none 0 0) (.string ⟨#[]⟩) wG) := Lib.hid ((hbG.block r hr4).trans HR4.out)
  unfold gramV at *
  have k0 := HGG.out.c0
  have k1 := HGG.out.c1
  have k2 := HGG.out.c2
  have k3 := HGG.out.c3
  clear hdl hds hna hb4 hbG hnaG hds2 hr4 HRd HRead
  go_wp2_with fail
  refine HCkC.out.mono ?_
  rintro en w5 ⟨rfl, hb5⟩
  have hr5 : GBlk r (.int .i64 0) (.int .i64 0) (.slice none 0 0) (.string ⟨#[]⟩) w5 := (hb5.block r HRG.out.lt).trans HRG.out
  have r0 := hr5.c0
  have r1 := hr5.c1
  have r2 := hr5.c2
  have r3 := hr5.c3
  have q0 := hr5.fr 0
  have q1 := hr5.fr 1
  have q2 := hr5.fr 2
  have q3 := hr5.fr 3
  have HB5 := Lib.hid hb5
  clear hb5 hr5 hwG hgb k0 k1 k2 k3
  go_wp2
  (try simp only [Exit.inBlock, Exit.then])
  refine bodyPost_ret (v := .tuple #[.agg #[.int .i64 0, .int .i64 0, .slice none 0 0, .string ⟨#[]⟩], .int .i64 E]) (by rw [results_cell_tmp rfl]; go_simp) rfl ?_
  rw [← HP.out]
  have hB : Below w.heap.size w w5 := HBG.out.trans (HB5.out.mono HBG.out.size)
  exact ⟨rfl, (((hB.setCell (p := ⟨r, 0, none⟩) (Nat.le_of_eq HR.out) _).setCell (p := ⟨r, 1, none⟩) (Nat.le_of_eq HR.out) _).setCell (p := ⟨r, 2, none⟩) (Nat.le_of_eq HR.out) _).setCell (p := ⟨r, 3, none⟩) (Nat.le_of_eq HR.out) _⟩
end Go.Proofs.YtghnkpfnpidncaaDoor.G
