/- FlowCuts: a line's rows, and where a glyph is: the walk. -/
import Derived.Test.YtjlhinofglokoaaDoorFRAt
namespace Go.Proofs.YtjlhinofglokoaaDoor.F
open Go.RowKit H
open W (Tab)

set_option maxRecDepth 100000 in
set_option maxHeartbeats 8000000 in
theorem fcuts_walk (a : Option Addr) (len cap : Nat) (l0 : List (Int × Int)) (W I0 : Int) (w : World) (hT : Tab w) (h : PairsIn .i32 a len cap l0 w) (hr : RngG l0) :
    Calls Tryd.prog 3 #[.slice a len cap, .int .i64 W, .int .i64 I0] w fun e w' => e = .returned (.bool true) ∧ Below w.heap.size w w' := by
  obtain ⟨P, hP⟩ : ∃ P : Ending → World → Prop, (fun e w' => e = .returned (.bool true) ∧ Below w.heap.size w w') = P := ⟨_, rfl⟩
  rw [hP]
  have HP := Lib.hid hP
  have HT := Lib.hid hT
  have HA := Lib.hid (awake_any w hT)
  obtain ⟨M, hM⟩ : ∃ M : Nat, min (len : Int) 60 = (M : Int) := ⟨min len 60, by omega⟩
  have hml : M ≤ len := by omega
  have hm60 : M ≤ 60 := by omega
  have hmc : (M : Int) ≤ cap := by have := h.fit; omega
  have htop := h.top
  obtain ⟨l, hl⟩ : ∃ l, l0.take M = l := ⟨_, rfl⟩
  have hll : l.length = M := by rw [← hl, List.length_take, ← h.len]; omega
  have HG : Hid (PairsIn .i32 a M cap l w) := Lib.hid (by rw [← hl]; exact h.take M hml)
  have HR : Hid (RngG l) := Lib.hid (by rw [← hl]; exact fun g hg => hr g (List.mem_of_mem_take hg))
  have HLl := Lib.hid hll
  obtain ⟨rb, hrb⟩ : ∃ rb, w.heap.size = rb := ⟨_, rfl⟩
  have HRb := Lib.hid hrb
  clear hP hT h hr hl hll hrb
  go_enter Tryd.func3, Tryd.ntmps3
  go_wp2_with fail
  refine HA.out.mono ?_
  rintro e w1 ⟨rfl, hb1⟩
  have hb2 : Below w1.heap.size w1 (w1.alloc (.cells #[] 42)) := (Below.refl _ _).alloc (Nat.le_refl _) _
  have HO := Lib.hid (lit_q w1)
  have HG1 := Lib.hid (HG.out.belowAll (hb1.trans (hb2.mono hb1.size)))
  have HB1 := Lib.hid hb1
  have HB2 := Lib.hid hb2
  clear hb1 hb2 HA
  go_wp2_with (at_builtin; refine wpList_append_q gluT rfl _ _ rfl rfl w1.heap.size _ [] a M cap l rfl rfl HO.out HG1.out (by simp) (by have := HLl.out; omega) HB2.out.size ?_)
  intro v' w3 hg
  have hb3 : Below w1.heap.size w1 w3 := HB2.out.grown hg.grown HB2.out.size (fun q hq => (HO.out.own q hq).1)
  obtain ⟨a3, c3, rfl, hp3, hn3, -⟩ := hg.own.shape
  have hn3x : a3 = none → c3 = 0 := hn3
  rw [HLl.out] at hp3
  try simp only [List.nil_append]
  rw [HLl.out]
  have HP3 := Lib.hid hp3
  have HB3 : Hid (Below w.heap.size w w3) := Lib.hid (HB1.out.trans (hb3.mono HB1.out.size))
  have HS3 : Hid (rb ≤ w3.heap.size) := Lib.hid (by rw [← HRb.out]; exact HB3.out.size)
  clear hg hb3 hp3 hn3 HO HG1 HB2
  go_wp2_with fail
  have HNil3 := Lib.hid hn3x
  have HT3 := Lib.hid (HT.out.belowAll HB3.out)
  have HTo := Lib.hid (told_any a3 M c3 l w3 HP3.out HR.out (by omega))
  have hc1 := clampW_le W
  obtain ⟨C, hC⟩ : ∃ C, clampW W = C := ⟨_, rfl⟩
  have HC := Lib.hid hC
  rw [hC] at hc1
  have HC1 := Lib.hid hc1.1
  obtain ⟨K, hK⟩ : ∃ K, (cutR C l).length = K := ⟨_, rfl⟩
  have hK61 : K ≤ 61 := by rw [← hK]; have := cut_short C hc1.1 l; have := HLl.out; omega
  have HK := Lib.hid hK
  clear hC hc1 hK
  refine HTo.out.mono ?_
  rintro e w4 ⟨v4, rfl, hx4, hb4⟩
  obtain ⟨a4, c4, rfl, hp4, -, -⟩ := hx4.shape
  rw [HLl.out] at hp4 ⊢
  have HX4 := Lib.hid hp4
  have HB4 : Hid (Below w3.heap.size w3 w4) := Lib.hid hb4
  have hcA := cut_any a3 M c3 l W w4 (HP3.out.belowAll hb4) HNil3.out (HT3.out.belowAll hb4) (by omega)
  rw [HC.out] at hcA
  have HCA := Lib.hid hcA
  clear hx4 hp4 hb4 hcA HTo
  go_wp2_with fail
  refine HCA.out.mono ?_
  rintro e w5 ⟨v5, us5, rfl, hus5, hsv5, hb5⟩
  obtain ⟨a5, c5, rfl, hr5⟩ := own_rows hus5 hsv5
  rw [HK.out] at hr5 ⊢
  have HR5 := Lib.hid hr5
  have HB45 := Lib.hid hb5
  have HB5 : Hid (Below w3.heap.size w3 w5) := Lib.hid (HB4.out.trans (hb5.mono HB4.out.size))
  have hat := at_any a3 M c3 l W I0 w5 (HP3.out.belowAll HB5.out) (HT3.out.belowAll HB5.out) (by omega)
  rw [HC.out] at hat
  obtain ⟨y, x, hyx⟩ : ∃ y x, atF C l I0 = (y, x) := ⟨_, _, rfl⟩
  rw [hyx] at hat
  have HYX := Lib.hid hyx
  have HAt := Lib.hid hat
  clear hus5 hsv5 hr5 hb5 hat hyx HCA
  go_wp2_with fail
  refine HAt.out.mono ?_
  rintro e w6 ⟨rfl, hb6⟩
  have HB56 := Lib.hid hb6
  have HB6 : Hid (Below w3.heap.size w3 w6) := Lib.hid (HB5.out.trans (hb6.mono HB5.out.size))
  have HB46 : Hid (Below w4.heap.size w4 w6) := Lib.hid (HB45.out.trans (hb6.mono HB45.out.size))
  have hra := refAt_any a4 M c4 l W I0 w6 (HX4.out.belowAll HB46.out) HR.out (by omega)
  rw [HC.out, HYX.out] at hra
  have HRa := Lib.hid hra
  clear hb6 hra HAt
  simp only
  go_wp2_with fail
  refine HRa.out.mono ?_
  rintro e w7 ⟨rfl, hb7⟩
  have HB57 : Hid (Below w5.heap.size w5 w7) := Lib.hid (HB56.out.trans (hb7.mono HB56.out.size))
  have HB7 : Hid (Below w3.heap.size w3 w7) := Lib.hid (HB6.out.trans (hb7.mono HB6.out.size))
  have HB47 : Hid (Below w4.heap.size w4 w7) := Lib.hid (HB46.out.trans (hb7.mono HB46.out.size))
  have hrc := refCut_any a4 M c4 l W w7 (HX4.out.belowAll HB47.out) HR.out (by omega)
  rw [HC.out] at hrc
  have HRc := Lib.hid hrc
  clear hb7 hrc HRa
  simp only
  go_wp2_with fail
  refine HRc.out.mono ?_
  rintro e w8 ⟨v8, us8, rfl, hus8, hsv8, hb8⟩
  obtain ⟨a8, c8, rfl, hr8⟩ := own_rows hus8 hsv8
  rw [HK.out] at hr8 ⊢
  have HB8 : Hid (Below w3.heap.size w3 w8) := Lib.hid (HB7.out.trans (hb8.mono HB7.out.size))
  have HB48 : Hid (Below w4.heap.size w4 w8) := Lib.hid (HB47.out.trans (hb8.mono HB47.out.size))
  have hb58 : Below w5.heap.size w5 w8 := HB57.out.trans (hb8.mono HB57.out.size)
  have hlr := lawRows_any a5 c5 a8 c8 K (cutR C l) w8 (HR5.out.belowAll hb58) hr8 (fun r hr => row_rng HR.out hr) (fun r hr => by have := row_len l hr; have := HLl.out; omega) (by omega)
  have HLr := Lib.hid hlr
  clear hus8 hsv8 hr8 hb8 hb58 hlr HRc
  go_wp2_with fail
  refine HLr.out.mono ?_
  rintro e w9 ⟨rfl, hb9⟩
  have HB9 : Hid (Below w3.heap.size w3 w9) := Lib.hid (HB8.out.trans (hb9.mono HB8.out.size))
  have HB49 : Hid (Below w4.heap.size w4 w9) := Lib.hid (HB48.out.trans (hb9.mono HB48.out.size))
  have hco := count_any a3 M c3 l W w9 (HP3.out.belowAll HB9.out) (HT3.out.belowAll HB9.out) (by omega)
  rw [HC.out, HK.out] at hco
  have HCo := Lib.hid hco
  have d0 : ((K : Int) == (K : Int)) = true := by simp
  have d1 : ((y : Int) == (y : Int)) = true := by simp
  have d2 : ((x : Int) == (x : Int)) = true := by simp
  clear hb9 hco HLr
  go_wp2_with fail
  refine HCo.out.mono ?_
  rintro e w10 ⟨rfl, hb10⟩
  have HB10 : Hid (Below w3.heap.size w3 w10) := Lib.hid (HB9.out.trans (hb10.mono HB9.out.size))
  have HB410 : Hid (Below w4.heap.size w4 w10) := Lib.hid (HB49.out.trans (hb10.mono HB49.out.size))
  have htx := text_any a3 M c3 l w10 (HP3.out.belowAll HB10.out) (by omega)
  obtain ⟨T, hT0⟩ : ∃ T, runesBytes (runesF l) = T := ⟨_, rfl⟩
  rw [hT0] at htx
  have HT0 := Lib.hid hT0
  have HTx := Lib.hid htx
  clear hb10 htx hT0 HCo
  go_wp2_with fail
  refine HTx.out.mono ?_
  rintro e w11 ⟨rfl, hb11⟩
  have HB11 : Hid (Below w3.heap.size w3 w11) := Lib.hid (HB10.out.trans (hb11.mono HB10.out.size))
  have HB411 : Hid (Below w4.heap.size w4 w11) := Lib.hid (HB410.out.trans (hb11.mono HB410.out.size))
  have hrt := refText_any a4 M c4 l w11 (HX4.out.belowAll HB411.out) (by omega)
  rw [HT0.out] at hrt
  have HRt := Lib.hid hrt
  clear hb11 hrt HTx
  go_wp2_with fail
  refine HRt.out.mono ?_
  rintro e w12 ⟨rfl, hb12⟩
  have HE : Hid (P (.returned (.bool true)) w12) := Lib.hid (by rw [← HP.out]; exact ⟨rfl, HB3.out.trans ((HB11.out.trans (hb12.mono HB11.out.size)).mono HB3.out.size)⟩)
  clear hb12 HRt
  go_wp2_with fail
  exact HE.out
end Go.Proofs.YtjlhinofglokoaaDoor.F
