/- StyleNums: a style's number is the document's, and makes it again: the walk. -/
import Derived.Test.YtfapmgecebcfaaaZArg
namespace Go.Proofs.Ytfapmgecebcfaaa.Z
open Go.RowKit

set_option maxRecDepth 100000 in
set_option maxHeartbeats 8000000 in
theorem nums_walk (s : Sty) (n : Int) (w : World) : Calls Try.prog 4 #[sV s, .int .i64 n] w fun e w' => e = .returned (.bool true) ∧ Below w.heap.size w w' := by
  obtain ⟨rb, hrb⟩ : ∃ rb, w.heap.size = rb := ⟨_, rfl⟩
  obtain ⟨w1, hw1⟩ : ∃ w1, w.alloc (.cells #[.int .i64 s.fore, .int .i64 s.back, .bool s.bold, .bool s.under, .bool s.inv] 23) = w1 := ⟨_, rfl⟩
  have hb1 : Below rb w w1 := by rw [← hw1, ← hrb]; exact (Below.refl _ _).alloc (Nat.le_refl _) _
  have hd1 : SBlk 23 rb s w1 := by rw [← hw1, ← hrb]; exact SBlk.new _ _ _
  have HB1 := Lib.hid hb1
  have HD1 := Lib.hid hd1
  have HW1 := Lib.hid hw1
  have HRb := Lib.hid hrb
  have HOf := Lib.hid (fun w => of_any n w)
  have HNum := Lib.hid (fun s w => num_any s w)
  have HRef := Lib.hid (fun w => refNum_any s w)
  have HMay := Lib.hid (fun w => refMay_any s w)
  have HAw := Lib.hid (fun w => awake_any w)
  obtain ⟨K, hK⟩ : ∃ K, numS s = K := ⟨_, rfl⟩
  have hKb := numS_bound s
  have HNs := Lib.hid (fun w => num_any s w)
  have hOK := fun w => of_any K w
  rw [hK] at hKb
  simp only [if_pos hKb] at hOK
  have HOK := Lib.hid hOK
  simp only [hK] at HNs HRef
  obtain ⟨k1, k2⟩ := hKb
  have HK := Lib.hid hK
  have hlt1 : rb < w1.heap.size := hd1.lt
  clear hb1 hd1 hw1 hrb hOK hK
  unfold sV
  go_enter Try.func4, Try.ntmps4
  go_upto_region 1 with fail
  rw [HW1.out, HRb.out]
  go_wp2_with fail
  refine (HAw.out _).mono ?_
  rintro e w2 ⟨rfl, hb2⟩
  have hlt2 : rb < w2.heap.size := Nat.lt_of_lt_of_le hlt1 hb2.size
  have HB2 : Hid (Below rb w w2) := Lib.hid (HB1.out.trans (hb2.mono (by omega)))
  have HD2 := Lib.hid (HD1.out.below hb2 hlt1)
  clear hb2 HAw
  go_wp2_with fail
  refine (HOf.out _).mono ?_
  rintro e w3 ⟨rfl, hb3⟩
  have hlt3 : rb < w3.heap.size := Nat.lt_of_lt_of_le hlt2 hb3.size
  have HB3 : Hid (Below rb w w3) := Lib.hid (HB2.out.trans (hb3.mono (by omega)))
  have HD3 := Lib.hid (HD2.out.below hb3 hlt2)
  clear hb3 HOf
  have tail : True := trivial
  by_cases hn : 0 ≤ n ∧ n ≤ 647
  · rw [if_pos hn, if_pos hn]
    obtain ⟨n1, n2⟩ := hn
    have HN1 := Lib.hid (fun w => num_any (ofN n) w)
    simp only [numS_of n n1 n2] at HN1
    unfold sV at HN1 ⊢
    unfold ofN at HN1 ⊢
    simp only at HN1 ⊢
    obtain ⟨y0, hy0⟩ : ∃ y, n % 9 = y := ⟨_, rfl⟩
    obtain ⟨y1, hy1⟩ : ∃ y, n % 81 / 9 = y := ⟨_, rfl⟩
    obtain ⟨y2, hy2⟩ : ∃ y, decide (81 ≤ n % 162) = y := ⟨_, rfl⟩
    obtain ⟨y3, hy3⟩ : ∃ y, decide (162 ≤ n % 324) = y := ⟨_, rfl⟩
    obtain ⟨y4, hy4⟩ : ∃ y, decide (324 ≤ n) = y := ⟨_, rfl⟩
    simp only [hy0, hy1, hy2, hy3, hy4] at HN1 ⊢
    clear hy0 hy1 hy2 hy3 hy4
    go_wp2_with fail
    refine (HN1.out _).mono ?_
    rintro e w4 ⟨rfl, hb4⟩
    have hlt4 : rb < w4.heap.size := Nat.lt_of_lt_of_le (show rb < _ by simp; omega) hb4.size
    have HB4 : Hid (Below rb w w4) := Lib.hid ((HB3.out.alloc (Nat.le_of_lt hlt3) _).trans (hb4.mono (by simp; omega)))
    have HD4 : Hid (SBlk 23 rb s w4) := Lib.hid ((HD3.out.alloc _).below hb4 (by simp; omega))
    clear hb4 HN1
    have c0 := HD4.out.c0
    have c1 := HD4.out.c1
    have c2 := HD4.out.c2
    have c3 := HD4.out.c3
    have c4 := HD4.out.c4
    unfold sV at HNs
    go_wp2_with fail
    refine (HNs.out _).mono ?_
    rintro e w5 ⟨rfl, hb5⟩
    have hlt5 : rb < w5.heap.size := Nat.lt_of_lt_of_le hlt4 hb5.size
    have HB5 : Hid (Below rb w w5) := Lib.hid (HB4.out.trans (hb5.mono (by omega)))
    have HD5 := Lib.hid (HD4.out.below hb5 hlt4)
    clear hb5 HNs c0 c1 c2 c3 c4
    go_wp2_with fail
    refine (HOK.out _).mono ?_
    rintro e w6 ⟨rfl, hb6⟩
    have hlt6 : rb < w6.heap.size := Nat.lt_of_lt_of_le hlt5 hb6.size
    have HB6 : Hid (Below rb w w6) := Lib.hid (HB5.out.trans (hb6.mono (by omega)))
    have HD6 := Lib.hid (HD5.out.below hb6 hlt5)
    clear hb6 HOK
    obtain ⟨y, hy⟩ : ∃ y, ofN K = y := ⟨_, rfl⟩
    have HY := Lib.hid hy
    rw [hy]
    clear hy
    obtain ⟨w7, hw7⟩ : ∃ w7, w6.alloc (.cells #[.int .i64 y.fore, .int .i64 y.back, .bool y.bold, .bool y.under, .bool y.inv] 26) = w7 := ⟨_, rfl⟩
    have hy7 : SBlk 26 w6.heap.size y w7 := by rw [← hw7]; exact SBlk.new _ _ _
    have hlt7 : w6.heap.size < w7.heap.size := hy7.lt
    have HB7 : Hid (Below rb w w7) := Lib.hid (by rw [← hw7]; exact HB6.out.alloc (by omega) _)
    have HD7 : Hid (SBlk 23 rb s w7) := Lib.hid (by rw [← hw7]; exact HD6.out.alloc _)
    have HY7 := Lib.hid hy7
    have HW7 := Lib.hid hw7
    have c0 := HD6.out.c0
    have c1 := HD6.out.c1
    have c2 := HD6.out.c2
    have c3 := HD6.out.c3
    have c4 := HD6.out.c4
    have z0 := HD7.out.c0
    have z1 := HD7.out.c1
    have z2 := HD7.out.c2
    have z3 := HD7.out.c3
    have z4 := HD7.out.c4
    clear hy7 hw7
    unfold sV at HRef HMay ⊢
    go_upto_region 8 with fail
    rw [HW7.out]
    clear c0 c1 c2 c3 c4
    obtain ⟨yb, hyb⟩ : ∃ yb, w6.heap.size = yb := ⟨_, rfl⟩
    rw [hyb] at HY7 hlt7
    rw [hyb]
    have hyr : rb < yb := by omega
    clear hyb
    go_wp2_with fail
    refine (HRef.out _).mono ?_
    rintro e w8 ⟨rfl, hb8⟩
    have HB8 : Hid (Below rb w w8) := Lib.hid (HB7.out.trans (hb8.mono (by omega)))
    have HD8 := Lib.hid (HD7.out.below hb8 (by omega))
    have HY8 := Lib.hid (HY7.out.below hb8 (by omega))
    have hlt8 : yb < w8.heap.size := Nat.lt_of_lt_of_le hlt7 hb8.size
    clear hb8 HRef z0 z1 z2 z3 z4
    have z0 := HD8.out.c0
    have z1 := HD8.out.c1
    have z2 := HD8.out.c2
    have z3 := HD8.out.c3
    have z4 := HD8.out.c4
    go_wp2_with fail
    refine (HMay.out _).mono ?_
    rintro e w9 ⟨rfl, hb9⟩
    have HB9 : Hid (Below rb w w9) := Lib.hid (HB8.out.trans (hb9.mono (by omega)))
    have HD9 := Lib.hid (HD8.out.below hb9 (by omega))
    have HY9 := Lib.hid (HY8.out.below hb9 (by omega))
    clear hb9 HMay z0 z1 z2 z3 z4
    by_cases hm : s.may
    · rw [decide_eq_true hm]
      have hys : y = s := by rw [← HY.out, ← HK.out]; exact of_numS s hm
      subst hys
      have z0 := HD9.out.c0
      have z1 := HD9.out.c1
      have z2 := HD9.out.c2
      have z3 := HD9.out.c3
      have z4 := HD9.out.c4
      have e0 := HY9.out.c0
      have e1 := HY9.out.c1
      have e2 := HY9.out.c2
      have e3 := HY9.out.c3
      have e4 := HY9.out.c4
      clear hm
      go_wp2
      go_ret
      exact ⟨rfl, by rw [HRb.out]; exact HB9.out⟩
    · rw [decide_eq_false hm]
      go_wp2
      go_ret
      exact ⟨rfl, by rw [HRb.out]; exact HB9.out⟩
  · rw [if_neg hn, if_neg hn]
    have hn' : ¬ 0 ≤ n ∨ ¬ n ≤ 647 := by omega
    have HB3a : Hid (∀ o, Below rb w (w3.alloc o)) := Lib.hid (fun o => HB3.out.alloc (Nat.le_of_lt hlt3) o)
    obtain ⟨w4, hw4⟩ : ∃ w4, w3.alloc (.cells #[.int .i64 0, .int .i64 0, .bool false, .bool false, .bool false] 26) = w4 := ⟨_, rfl⟩
    have hz4 : SBlk 26 w3.heap.size .zero w4 := by rw [← hw4]; exact SBlk.new _ _ _
    have HB4 : Hid (Below rb w w4) := Lib.hid (by rw [← hw4]; exact HB3a.out _)
    have HD4 : Hid (SBlk 23 rb s w4) := Lib.hid (by rw [← hw4]; exact HD3.out.alloc _)
    have hlt4 : rb < w4.heap.size := HD4.out.lt
    have HW4 := Lib.hid hw4
    clear hz4 hw4 HB3a
    have d0 := HD3.out.c0
    have d1 := HD3.out.c1
    have d2 := HD3.out.c2
    have d3 := HD3.out.c3
    have d4 := HD3.out.c4
    unfold sV Sty.zero
    simp only
    unfold sV at HNs
    have hcase : n < 0 ∨ (0 ≤ n ∧ 647 < n) := by omega
    clear hn' hn
    rcases hcase with hn | ⟨hn, hm⟩
    all_goals
      have c0 := HD4.out.c0
      have c1 := HD4.out.c1
      have c2 := HD4.out.c2
      have c3 := HD4.out.c3
      have c4 := HD4.out.c4
      go_wp2_with fail
      rw [HW4.out]
      refine (HNs.out _).mono ?_
      rintro e w5 ⟨rfl, hb5⟩
      have hlt5 : rb < w5.heap.size := Nat.lt_of_lt_of_le hlt4 hb5.size
      have HB5 : Hid (Below rb w w5) := Lib.hid (HB4.out.trans (hb5.mono (by omega)))
      have HD5 := Lib.hid (HD4.out.below hb5 hlt4)
      clear hb5 HNs c0 c1 c2 c3 c4
      go_wp2_with fail
      refine (HOK.out _).mono ?_
      rintro e w6 ⟨rfl, hb6⟩
      have hlt6 : rb < w6.heap.size := Nat.lt_of_lt_of_le hlt5 hb6.size
      have HB6 : Hid (Below rb w w6) := Lib.hid (HB5.out.trans (hb6.mono (by omega)))
      have HD6 := Lib.hid (HD5.out.below hb6 hlt5)
      clear hb6 HOK
      obtain ⟨y, hy⟩ : ∃ y, ofN K = y := ⟨_, rfl⟩
      have HY := Lib.hid hy
      rw [hy]
      clear hy
      obtain ⟨w7, hw7⟩ : ∃ w7, w6.alloc (.cells #[.int .i64 y.fore, .int .i64 y.back, .bool y.bold, .bool y.under, .bool y.inv] 26) = w7 := ⟨_, rfl⟩
      have hy7 : SBlk 26 w6.heap.size y w7 := by rw [← hw7]; exact SBlk.new _ _ _
      have hlt7 : w6.heap.size < w7.heap.size := hy7.lt
      have HB7 : Hid (Below rb w w7) := Lib.hid (by rw [← hw7]; exact HB6.out.alloc (by omega) _)
      have HD7 : Hid (SBlk 23 rb s w7) := Lib.hid (by rw [← hw7]; exact HD6.out.alloc _)
      have HY7 := Lib.hid hy7
      have HW7 := Lib.hid hw7
      have c0 := HD6.out.c0
      have c1 := HD6.out.c1
      have c2 := HD6.out.c2
      have c3 := HD6.out.c3
      have c4 := HD6.out.c4
      have z0 := HD7.out.c0
      have z1 := HD7.out.c1
      have z2 := HD7.out.c2
      have z3 := HD7.out.c3
      have z4 := HD7.out.c4
      clear hy7 hw7
      unfold sV at HRef HMay ⊢
      go_upto_region 8 with fail
      rw [HW7.out]
      clear c0 c1 c2 c3 c4
      obtain ⟨yb, hyb⟩ : ∃ yb, w6.heap.size = yb := ⟨_, rfl⟩
      rw [hyb] at HY7 hlt7
      rw [hyb]
      have hyr : rb < yb := by omega
      clear hyb
      go_wp2_with fail
      refine (HRef.out _).mono ?_
      rintro e w8 ⟨rfl, hb8⟩
      have HB8 : Hid (Below rb w w8) := Lib.hid (HB7.out.trans (hb8.mono (by omega)))
      have HD8 := Lib.hid (HD7.out.below hb8 (by omega))
      have HY8 := Lib.hid (HY7.out.below hb8 (by omega))
      have hlt8 : yb < w8.heap.size := Nat.lt_of_lt_of_le hlt7 hb8.size
      clear hb8 HRef z0 z1 z2 z3 z4
      have z0 := HD8.out.c0
      have z1 := HD8.out.c1
      have z2 := HD8.out.c2
      have z3 := HD8.out.c3
      have z4 := HD8.out.c4
      go_wp2_with fail
      refine (HMay.out _).mono ?_
      rintro e w9 ⟨rfl, hb9⟩
      have HB9 : Hid (Below rb w w9) := Lib.hid (HB8.out.trans (hb9.mono (by omega)))
      have HD9 := Lib.hid (HD8.out.below hb9 (by omega))
      have HY9 := Lib.hid (HY8.out.below hb9 (by omega))
      clear hb9 HMay z0 z1 z2 z3 z4
      by_cases hm : s.may
      · rw [decide_eq_true hm]
        have hys : y = s := by rw [← HY.out, ← HK.out]; exact of_numS s hm
        subst hys
        have z0 := HD9.out.c0
        have z1 := HD9.out.c1
        have z2 := HD9.out.c2
        have z3 := HD9.out.c3
        have z4 := HD9.out.c4
        have e0 := HY9.out.c0
        have e1 := HY9.out.c1
        have e2 := HY9.out.c2
        have e3 := HY9.out.c3
        have e4 := HY9.out.c4
        clear hm
        go_wp2
        go_ret
        exact ⟨rfl, by rw [HRb.out]; exact HB9.out⟩
      · rw [decide_eq_false hm]
        go_wp2
        go_ret
        exact ⟨rfl, by rw [HRb.out]; exact HB9.out⟩
end Go.Proofs.Ytfapmgecebcfaaa.Z
