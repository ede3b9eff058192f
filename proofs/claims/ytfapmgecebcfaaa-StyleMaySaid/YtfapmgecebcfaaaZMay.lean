/- StyleMay: whatever numbers are set, of a style that may be one comes that may be: the walk. -/
import Derived.Test.YtfapmgecebcfaaaZArg
import Derived.Deep.DeepCutAuto
import Derived.Deep.RegionWith
namespace Go.Proofs.Ytfapmgecebcfaaa.Z
open Go.RowKit
open Go.Proofs.Ytfapmgecebcfaaa.W (OwnI IntsIn ArgI)

set_option maxRecDepth 100000 in
set_option maxHeartbeats 8000000 in
theorem may_walk (s : Sty) (a : Option Addr) (len cap : Nat) (zs : List Int) (w : World) (hA : ArgI a len cap zs w) : Calls Try.prog 7 #[sV s, .slice a len cap] w fun e w' => e = .returned (.bool true) ∧ Below w.heap.size w w' := by
  obtain ⟨rb, hrb⟩ : ∃ rb, w.heap.size = rb := ⟨_, rfl⟩
  obtain ⟨w1, hw1⟩ : ∃ w1, w.alloc (.cells #[.int .i64 s.fore, .int .i64 s.back, .bool s.bold, .bool s.under, .bool s.inv] 23) = w1 := ⟨_, rfl⟩
  have hb1 : Below rb w w1 := by rw [← hw1, ← hrb]; exact (Below.refl _ _).alloc (Nat.le_refl _) _
  have hd1 : SBlk 23 rb s w1 := by rw [← hw1, ← hrb]; exact SBlk.new _ _ _
  have hlt1 : rb < w1.heap.size := hd1.lt
  have HB1 := Lib.hid hb1
  have HD1 := Lib.hid hd1
  have HW1 := Lib.hid hw1
  have HRb := Lib.hid hrb
  have HAw := Lib.hid (fun w => awake_any w)
  obtain ⟨M, hM⟩ : ∃ M : Nat, min (len : Int) 40 = (M : Int) := ⟨min len 40, by omega⟩
  have hml : M ≤ len := by omega
  have hmc : (M : Int) ≤ cap := by have := hA.fit; omega
  have hm40 : (M : Int) ≤ 40 := by omega
  have htop := hA.top
  have HI : Hid (IntsIn a M (zs.take M) w) := Lib.hid (hA.rs.take hml)
  obtain ⟨ys, hys⟩ : ∃ ys, zs.take M = ys := ⟨_, rfl⟩
  rw [hys] at HI
  have HMay := Lib.hid (fun w => refMay_any s w)
  obtain ⟨N, hN⟩ : ∃ N, decide s.may = N := ⟨_, rfl⟩
  simp only [hN] at HMay
  have HN := Lib.hid hN
  clear hb1 hd1 hw1 hrb hA hys hN
  unfold sV
  unfold sV at HMay
  go_enter Try.func7, Try.ntmps7
  go_upto_region 1 with fail
  rw [HW1.out, HRb.out]
  go_wp2_with fail
  refine (HAw.out _).mono ?_
  rintro e w2 ⟨rfl, hb2⟩
  have hlt2 : rb < w2.heap.size := Nat.lt_of_lt_of_le hlt1 hb2.size
  have HB2 : Hid (Below rb w w2) := Lib.hid (HB1.out.trans (hb2.mono (by omega)))
  have hd2 := HD1.out.below hb2 hlt1
  have c0 := hd2.c0
  have c1 := hd2.c1
  have c2 := hd2.c2
  have c3 := hd2.c3
  have c4 := hd2.c4
  have HD2 := Lib.hid hd2
  clear hb2 HAw hd2
  go_wp2_with fail
  refine (HMay.out _).mono ?_
  rintro e w3 ⟨rfl, hb3⟩
  have hlt3 : rb < w3.heap.size := Nat.lt_of_lt_of_le hlt2 hb3.size
  have HB3 : Hid (Below rb w w3) := Lib.hid (HB2.out.trans (hb3.mono (by omega)))
  have HD3 := Lib.hid (HD2.out.below hb3 hlt2)
  clear c0 c1 c2 c3 c4 hb3 HMay
  go_upto_if 12 with fail
  go_cut [] (fun wx => ∃ s1 : Sty, s1.may ∧ rb < wx.heap.size ∧ Hid (Below rb w wx ∧ SBlk 23 rb s1 wx))
  case first =>
    cases N with
    | true =>
      have hm : s.may := by have := HN.out; simpa using this
      have HMy := Lib.hid hm
      clear hm
      go_wp2_with fail
      go_meet
      exact ⟨s, HMy.out, hlt3, Lib.hid ⟨HB3.out, HD3.out⟩⟩
    | false =>
      have c0 := HD3.out.c0
      have c1 := HD3.out.c1
      have c2 := HD3.out.c2
      have c3 := HD3.out.c3
      have c4 := HD3.out.c4
      have f0 := HD3.out.fr 0
      have f1 := HD3.out.fr 1
      have f2 := HD3.out.fr 2
      have f3 := HD3.out.fr 3
      have f4 := HD3.out.fr 4
      go_wp2_with fail
      go_meet
      exact ⟨⟨0, 0, s.bold, s.under, s.inv⟩, ⟨Int.le_refl 0, by simp, Int.le_refl 0, by simp⟩, by simpa using hlt3, Lib.hid ⟨below_set5 (s := ⟨0, 0, s.bold, s.under, s.inv⟩) HB3.out (Nat.le_refl _), HD3.out.laid5⟩⟩
  case rest =>
  obtain ⟨s1, hm1, hltc, HF⟩ := hcut
  obtain ⟨hbc, hdc⟩ := HF.out
  have hRm := setS_may s1 ys hm1
  have hS : ∀ w', Below wc.heap.size wc w' → Calls Try.prog 9 #[sV s1, .slice a M cap] w' fun e w'' => e = .returned (sV (setS s1 ys)) ∧ Below w'.heap.size w' w'' := fun w' h =>
    set_any s1 a M cap ys (by omega) htop w' (HI.out.belowAll (by rw [HRb.out]; exact hbc.trans (h.mono (by omega))))
  obtain ⟨R, hR⟩ : ∃ R, setS s1 ys = R := ⟨_, rfl⟩
  rw [hR] at hRm hS
  have c0 := hdc.c0
  have c1 := hdc.c1
  have c2 := hdc.c2
  have c3 := hdc.c3
  have c4 := hdc.c4
  unfold sV at hS
  have HS := Lib.hid hS
  have HRm := Lib.hid hRm
  have HBc := Lib.hid hbc
  clear hbc hdc hR HF hRm hS hm1 HD1 HD2 HD3 HB1 HB2 HB3 HN hlt1 hlt2 hlt3
  go_upto_region 5 with fail
  go_cut [5] (fun t5 wx => ∃ db : Nat, t5 = .pointer (some ⟨db, 0, none⟩) ∧ rb ≤ db ∧ Hid (Below rb w wx ∧ SBlk 26 db R wx))
  case first =>
    go_region_with (go_at_call 9; first | (refine (HS.out _ (Below.refl _ _).drew).mono ?_; rintro e w5 ⟨rfl, hb5⟩; have HB5 := Lib.hid hb5; clear hb5) | (refine (HS.out _ (((Below.refl _ _).drew).alloc (Nat.le_refl _) _)).mono ?_; rintro e w5 ⟨rfl, hb5⟩; have hz5 : SBlk 26 wc.heap.size .zero w5 := (SBlk.new 26 wc.drew .zero).below hb5 (by simp); have z0 := hz5.c0; have z1 := hz5.c1; have z2 := hz5.c2; have z3 := hz5.c3; have z4 := hz5.c4; simp only [Sty.zero] at z0 z1 z2 z3 z4; have f0 := hz5.fr 0; have f1 := hz5.fr 1; have f2 := hz5.fr 2; have f3 := hz5.fr 3; have f4 := hz5.fr 4; have HZ5 := Lib.hid hz5; have HBz := Lib.hid hb5; clear hb5 hz5))
    all_goals
      go_wp2_with fail
      go_meet
      first
        | exact ⟨w5.heap.size, rfl, by have := HB5.out.size; simp at this; omega, Lib.hid ⟨(HBc.out.drew.trans (HB5.out.mono (by simp; omega))).alloc (by have := HB5.out.size; simp at this; omega) _, SBlk.new 26 w5 R⟩⟩
        | exact ⟨wc.heap.size, rfl, by omega, Lib.hid ⟨below_set5 (s := R) ((HBc.out.drew.alloc (by simp; omega) _).trans (HBz.out.mono (by simp; omega))) (by omega), HZ5.out.laid5⟩⟩
  case rest =>
  obtain ⟨db, rfl, hdb, HF⟩ := hcut
  obtain ⟨hbd, hdd⟩ := HF.out
  have hltd := hdd.lt
  obtain ⟨K, hK⟩ : ∃ K, numS R = K := ⟨_, rfl⟩
  have hKb := numS_bound R
  have hoK := of_numS R HRm.out
  have HNum := Lib.hid (fun w => num_any R w)
  have hOf := fun w => of_any K w
  have hMy := fun w => refMay_any R w
  rw [hK] at hKb hoK
  simp only [hK] at HNum
  simp only [if_pos hKb, hoK] at hOf
  simp only [decide_eq_true HRm.out] at hMy
  unfold sV at HNum hOf hMy
  have HOf := Lib.hid hOf
  have HMy := Lib.hid hMy
  have HD := Lib.hid hdd
  have HB := Lib.hid hbd
  clear c0 c1 c2 c3 c4 hbd hOf hMy HS hK hoK hKb HF HBc HRm HI
  have c0 := hdd.c0
  have c1 := hdd.c1
  have c2 := hdd.c2
  have c3 := hdd.c3
  have c4 := hdd.c4
  clear hdd
  go_wp2_with fail
  refine (HNum.out _).mono ?_
  rintro e w6 ⟨rfl, hb6⟩
  have hlt6 : db < w6.heap.size := Nat.lt_of_lt_of_le hltd hb6.size
  have HB6 : Hid (Below rb w w6) := Lib.hid (HB.out.trans (hb6.mono (by omega)))
  have HD6 := Lib.hid (HD.out.below hb6 hltd)
  clear c0 c1 c2 c3 c4 hb6 HNum
  go_wp2_with fail
  refine (HOf.out _).mono ?_
  rintro e w7 ⟨rfl, hb7⟩
  have hlt7 : db < w7.heap.size := Nat.lt_of_lt_of_le hlt6 hb7.size
  have HB7 : Hid (Below rb w w7) := Lib.hid (HB6.out.trans (hb7.mono (by omega)))
  have HD7 := Lib.hid (HD6.out.below hb7 hlt6)
  clear hb7 HOf
  obtain ⟨w8, hw8⟩ : ∃ w8, w7.alloc (.cells #[.int .i64 R.fore, .int .i64 R.back, .bool R.bold, .bool R.under, .bool R.inv] 26) = w8 := ⟨_, rfl⟩
  have hy8 : SBlk 26 w7.heap.size R w8 := by rw [← hw8]; exact SBlk.new _ _ _
  have hd8 : SBlk 26 db R w8 := by rw [← hw8]; exact HD7.out.alloc _
  have HB8 : Hid (Below rb w w8) := Lib.hid (by rw [← hw8]; exact HB7.out.alloc (by omega) _)
  have hlt8 : w7.heap.size < w8.heap.size := hy8.lt
  have HY8 := Lib.hid hy8
  have HD8 := Lib.hid hd8
  have HW8 := Lib.hid hw8
  clear hy8 hw8
  go_upto_region 7 with fail
  rw [HW8.out]
  have c0 := hd8.c0
  have c1 := hd8.c1
  have c2 := hd8.c2
  have c3 := hd8.c3
  have c4 := hd8.c4
  clear hd8
  obtain ⟨yb, hyb⟩ : ∃ yb, w7.heap.size = yb := ⟨_, rfl⟩
  rw [hyb] at HY8 hlt8 hlt7
  rw [hyb]
  clear hyb
  go_wp2_with fail
  refine (HMy.out _).mono ?_
  rintro e w9 ⟨rfl, hb9⟩
  have HB9 : Hid (Below rb w w9) := Lib.hid (HB8.out.trans (hb9.mono (by omega)))
  have hd9 := HD8.out.below hb9 (by omega)
  have hy9 := HY8.out.below hb9 (by omega)
  clear c0 c1 c2 c3 c4 hb9 HMy
  have c0 := hd9.c0
  have c1 := hd9.c1
  have c2 := hd9.c2
  have c3 := hd9.c3
  have c4 := hd9.c4
  have e0 := hy9.c0
  have e1 := hy9.c1
  have e2 := hy9.c2
  have e3 := hy9.c3
  have e4 := hy9.c4
  clear hd9 hy9
  go_wp2
  go_ret
  exact ⟨rfl, by rw [HRb.out]; exact HB9.out⟩
end Go.Proofs.Ytfapmgecebcfaaa.Z
