/- FlowWidths: at another width and back: the walk. -/
import Derived.Test.YtjlhinofglokoaaDoorFJoW
import Derived.Test.YtjlhinofglokoaaDoorFRows
namespace Go.Proofs.YtjlhinofglokoaaDoor.F
open Go.RowKit H
open W (Tab)

theorem clampW_mono {a b : Int} (h : a ≤ b) : clampW a ≤ clampW b := by unfold clampW; omega
theorem cut_short (C : Int) (hC : 2 ≤ C) (l : List (Int × Int)) : (cutR C l).length ≤ l.length + 1 := (brk_few hC l [] 0 (by simp)).1
set_option maxRecDepth 100000 in
set_option maxHeartbeats 8000000 in
theorem widths_walk (a : Option Addr) (len cap : Nat) (l0 : List (Int × Int)) (W V0 : Int) (w : World) (hT : Tab w) (h : PairsIn .i32 a len cap l0 w) (hr : RngG l0) :
    Calls Tryd.prog 5 #[.slice a len cap, .int .i64 W, .int .i64 V0] w fun e w' => e = .returned (.bool true) ∧ Below w.heap.size w w' := by
  obtain ⟨P, hP⟩ : ∃ P : Ending → World → Prop, (fun e w' => e = .returned (.bool true) ∧ Below w.heap.size w w') = P := ⟨_, rfl⟩
  rw [hP]
  have HP := Lib.hid hP
  have HT := Lib.hid hT
  have HA := Lib.hid (awake_any w hT)
  obtain ⟨M, hM⟩ : ∃ M : Nat, min (len : Int) 60 = (M : Int) := ⟨min len 60, by omega⟩
  have hml : M ≤ len := by omega
  have hm60 : M ≤ 60 := by omega
  have hmc : (M : Int) ≤ cap := by have := h.fit; omega
  have htop := h.top
  obtain ⟨l, hl⟩ : ∃ l, l0.take M = l := ⟨_, rfl⟩
  have hll : l.length = M := by rw [← hl, List.length_take, ← h.len]; omega
  have HG : Hid (PairsIn .i32 a M cap l w) := Lib.hid (by rw [← hl]; exact h.take M hml)
  have HR : Hid (RngG l) := Lib.hid (by rw [← hl]; exact fun g hg => hr g (List.mem_of_mem_take hg))
  have HLl := Lib.hid hll
  obtain ⟨rb, hrb⟩ : ∃ rb, w.heap.size = rb := ⟨_, rfl⟩
  have HRb := Lib.hid hrb
  clear hP hT h hr hl hll hrb
  go_enter Tryd.func5, Tryd.ntmps5
  go_wp2_with fail
  refine HA.out.mono ?_
  rintro e w1 ⟨rfl, hb1⟩
  have hb2 : Below w1.heap.size w1 (w1.alloc (.cells #[] 42)) := (Below.refl _ _).alloc (Nat.le_refl _) _
  have HO := Lib.hid (lit_q w1)
  have HG1 := Lib.hid (HG.out.belowAll (hb1.trans (hb2.mono hb1.size)))
  have HB1 := Lib.hid hb1
  have HB2 := Lib.hid hb2
  clear hb1 hb2 HA
  go_wp2_with (at_builtin; refine wpList_append_q gluT rfl _ _ rfl rfl w1.heap.size _ [] a M cap l rfl rfl HO.out HG1.out (by simp) (by have := HLl.out; omega) HB2.out.size ?_)
  intro v' w3 hg
  have hb3 : Below w1.heap.size w1 w3 := HB2.out.grown hg.grown HB2.out.size (fun q hq => (HO.out.own q hq).1)
  obtain ⟨a3, c3, rfl, hp3, hn3, -⟩ := hg.own.shape
  have hn3x : a3 = none → c3 = 0 := hn3
  rw [HLl.out] at hp3
  try simp only [List.nil_append]
  rw [HLl.out]
  have HP3 := Lib.hid hp3
  have HB3 : Hid (Below w.heap.size w w3) := Lib.hid (HB1.out.trans (hb3.mono HB1.out.size))
  have HS3 : Hid (rb ≤ w3.heap.size) := Lib.hid (by rw [← HRb.out]; exact HB3.out.size)
  clear hg hb3 hp3 hn3 HO HG1 HB2
  go_wp2_with fail
  have HNil3 := Lib.hid hn3x
  have HT3 := Lib.hid (HT.out.belowAll HB3.out)
  have hcA := cut_any a3 M c3 l W w3 HP3.out HNil3.out HT3.out (by omega)
  have hc1 := clampW_le W
  have hc2 := clampW_le V0
  obtain ⟨C, hC⟩ : ∃ C, clampW W = C := ⟨_, rfl⟩
  obtain ⟨D, hD⟩ : ∃ D, clampW V0 = D := ⟨_, rfl⟩
  have HC := Lib.hid hC
  have HD := Lib.hid hD
  rw [hC] at hcA hc1
  rw [hD] at hc2
  have HC1 := Lib.hid hc1.1
  have HC2 := Lib.hid hc2.1
  have HCA := Lib.hid hcA
  obtain ⟨K, hK⟩ : ∃ K, (cutR C l).length = K := ⟨_, rfl⟩
  have hK61 : K ≤ 61 := by rw [← hK]; have := cut_short C hc1.1 l; have := HLl.out; omega
  obtain ⟨K2, hK2⟩ : ∃ K, (cutR D l).length = K := ⟨_, rfl⟩
  have hK261 : K2 ≤ 61 := by rw [← hK2]; have := cut_short D hc2.1 l; have := HLl.out; omega
  have HK := Lib.hid hK
  have HK2 := Lib.hid hK2
  clear hC hD hcA hc1 hc2 hK hK2
  refine HCA.out.mono ?_
  rintro e w4 ⟨v4, us4, rfl, hus4, hsv4, hb4⟩
  obtain ⟨a4, c4, rfl, hr4⟩ := own_rows hus4 hsv4
  rw [HK.out] at hr4 ⊢
  have hj4 := join_any a4 K c4 _ w4 hr4 (by rw [cutR_join, HLl.out]; omega) (by omega)
  rw [cutR_join] at hj4
  have HJ4 := Lib.hid hj4
  have HB4 : Hid (Below w3.heap.size w3 w4) := Lib.hid hb4
  clear hus4 hsv4 hr4 hj4 hb4 HCA
  go_wp2_with fail
  refine HJ4.out.mono ?_
  rintro e w5 ⟨v5, rfl, hq5, hb5⟩
  obtain ⟨a5, c5, rfl, hp5, hn5, -⟩ := hq5.shape
  rw [HLl.out] at hp5 ⊢
  have HB5 : Hid (Below w3.heap.size w3 w5) := Lib.hid (HB4.out.trans (hb5.mono HB4.out.size))
  have hcB := cut_any a5 M c5 l V0 w5 hp5 hn5 (HT3.out.belowAll HB5.out) (by omega)
  rw [HD.out] at hcB
  have HCB := Lib.hid hcB
  clear hq5 hp5 hn5 hb5 hcB HJ4
  go_wp2_with fail
  refine HCB.out.mono ?_
  rintro e w6 ⟨v6, us6, rfl, hus6, hsv6, hb6⟩
  obtain ⟨a6, c6, rfl, hr6⟩ := own_rows hus6 hsv6
  rw [HK2.out] at hr6 ⊢
  have hj6 := join_any a6 K2 c6 _ w6 hr6 (by rw [cutR_join, HLl.out]; omega) (by omega)
  rw [cutR_join] at hj6
  have HJ6 := Lib.hid hj6
  have HB6 : Hid (Below w3.heap.size w3 w6) := Lib.hid (HB5.out.trans (hb6.mono HB5.out.size))
  clear hus6 hsv6 hr6 hj6 hb6 HCB
  go_wp2_with fail
  refine HJ6.out.mono ?_
  rintro e w7 ⟨v7, rfl, hq7, hb7⟩
  obtain ⟨a7, c7, rfl, hp7, hn7, -⟩ := hq7.shape
  rw [HLl.out] at hp7 ⊢
  have HB7 : Hid (Below w3.heap.size w3 w7) := Lib.hid (HB6.out.trans (hb7.mono HB6.out.size))
  have hcC := cut_any a7 M c7 l W w7 hp7 hn7 (HT3.out.belowAll HB7.out) (by omega)
  rw [HC.out] at hcC
  have HCC := Lib.hid hcC
  clear hq7 hp7 hn7 hb7 hcC HJ6
  go_wp2_with fail
  refine HCC.out.mono ?_
  rintro e w8 ⟨v8, us8, rfl, hus8, hsv8, hb8⟩
  obtain ⟨a8, c8, rfl, hr8⟩ := own_rows hus8 hsv8
  rw [HK.out] at hr8 ⊢
  have HB8 : Hid (Below w3.heap.size w3 w8) := Lib.hid (HB7.out.trans (hb8.mono HB7.out.size))
  have HR8 := Lib.hid hr8
  have HTo := Lib.hid (told_any a3 M c3 l w8 (HP3.out.belowAll HB8.out) HR.out (by omega))
  obtain ⟨lo, hlo⟩ : ∃ lo, min W V0 = lo := ⟨_, rfl⟩
  obtain ⟨hi, hhi⟩ : ∃ hi, max W V0 = hi := ⟨_, rfl⟩
  have HLo : Hid (lo ≤ hi) := Lib.hid (by omega)
  clear hus8 hsv8 hr8 hb8 HCC
  go_wp2_with fail
  refine HTo.out.mono ?_
  rintro e w9 ⟨v9, rfl, hx9, hb9⟩
  obtain ⟨a9, c9, rfl, hp9, -, -⟩ := hx9.shape
  rw [HLl.out] at hp9 ⊢
  have HB9 : Hid (Below w3.heap.size w3 w9) := Lib.hid (HB8.out.trans (hb9.mono HB8.out.size))
  have HR9 := Lib.hid (HR8.out.belowAll hb9)
  have hrc := refCut_any a9 M c9 l W w9 hp9 HR.out (by omega)
  rw [HC.out] at hrc
  have HRc := Lib.hid hrc
  clear hx9 hp9 hb9 hrc HTo HR8
  go_wp2_with fail
  refine HRc.out.mono ?_
  rintro e w10 ⟨v10, us10, rfl, hus10, hsv10, hb10⟩
  obtain ⟨a10, c10, rfl, hr10⟩ := own_rows hus10 hsv10
  rw [HK.out] at hr10 ⊢
  have HB10 : Hid (Below w3.heap.size w3 w10) := Lib.hid (HB9.out.trans (hb10.mono HB9.out.size))
  have hlr := lawRows_any a8 c8 a10 c10 K (cutR C l) w10 (HR9.out.belowAll hb10) hr10 (fun r hr => row_rng HR.out hr) (fun r hr => by have := row_len l hr; have := HLl.out; omega) (by omega)
  have HLr := Lib.hid hlr
  clear hus10 hsv10 hr10 hb10 hlr HRc
  go_wp2_with fail
  refine HLr.out.mono ?_
  rintro e w11 ⟨rfl, hb11⟩
  have HB11 : Hid (Below w3.heap.size w3 w11) := Lib.hid (HB10.out.trans (hb11.mono HB10.out.size))
  have HCo := Lib.hid (count_any a3 M c3 l hi w11 (HP3.out.belowAll HB11.out) (HT3.out.belowAll HB11.out) (by omega))
  obtain ⟨N1, hN1⟩ : ∃ N, (cutR (clampW hi) l).length = N := ⟨_, rfl⟩
  obtain ⟨N2, hN2⟩ : ∃ N, (cutR (clampW lo) l).length = N := ⟨_, rfl⟩
  have hN12 : N1 ≤ N2 := by rw [← hN1, ← hN2]; exact cutR_mono (clampW_mono HLo.out) l
  rw [hN1] at HCo
  have HN2 := Lib.hid hN2
  have d0 : ((K : Int) == (K : Int)) = true := by simp
  have d1 : decide ((N1 : Int) ≤ (N2 : Int)) = true := decide_eq_true (by omega)
  have d1' : decide (N1 ≤ N2) = true := decide_eq_true hN12
  clear hb11 HLr hN1 hN2
  go_wp2_with fail
  refine HCo.out.mono ?_
  rintro e w12 ⟨rfl, hb12⟩
  have HB12 : Hid (Below w3.heap.size w3 w12) := Lib.hid (HB11.out.trans (hb12.mono HB11.out.size))
  have hco := count_any a3 M c3 l lo w12 (HP3.out.belowAll HB12.out) (HT3.out.belowAll HB12.out) (by omega)
  rw [HN2.out] at hco
  have HCo2 := Lib.hid hco
  clear hb12 HCo hco
  go_wp2_with fail
  refine HCo2.out.mono ?_
  rintro e w13 ⟨rfl, hb13⟩
  have HE : Hid (P (.returned (.bool true)) w13) := Lib.hid (by rw [← HP.out]; exact ⟨rfl, HB3.out.trans ((HB12.out.trans (hb13.mono HB12.out.size)).mono HB3.out.size)⟩)
  clear hb13 HCo2
  go_wp2_with fail
  exact HE.out
end Go.Proofs.YtjlhinofglokoaaDoor.F
