/- The contracts of style's Num and Of, and of the document's number. -/
import Derived.Test.YtfapmgecebcfaaaZBase
namespace Go.Proofs.Ytfapmgecebcfaaa.Z
open Go.RowKit

set_option maxRecDepth 100000 in
set_option maxHeartbeats 4000000 in
theorem num_any (s : Sty) (w : World) : Calls Try.prog 12 #[sV s] w fun e w' => e = .returned (.int .i64 (numS s)) ∧ Below w.heap.size w w' := by
  obtain ⟨rb, hrb⟩ : ∃ rb, w.heap.size = rb := ⟨_, rfl⟩
  obtain ⟨w1, hw1⟩ : ∃ w1, w.alloc (.cells #[.int .i64 s.fore, .int .i64 s.back, .bool s.bold, .bool s.under, .bool s.inv] 26) = w1 := ⟨_, rfl⟩
  have hb1 : Below rb w w1 := by rw [← hw1, ← hrb]; exact (Below.refl _ _).alloc (Nat.le_refl _) _
  have hd1 : SBlk 26 rb s w1 := by rw [← hw1, ← hrb]; exact SBlk.new _ _ _
  have HB1 := Lib.hid hb1
  have HD1 := Lib.hid hd1
  have HW1 := Lib.hid hw1
  have HRb := Lib.hid hrb
  have HM := Lib.hid (mayBe_any s w1)
  by_cases hm : s.may
  · rw [decide_eq_true hm] at HM
    have hn : numS s = s.fore + 9 * s.back + b2 s.bold 81 + b2 s.under 162 + b2 s.inv 324 := by unfold numS; rw [if_pos hm]
    obtain ⟨f, b, u, v, i⟩ := s
    obtain ⟨m1, m2, m3, m4⟩ := hm
    simp only at m1 m2 m3 m4 hn
    rw [hn]
    clear hb1 hd1 hw1 hrb hn
    unfold sV
    simp only at HW1 ⊢
    unfold sV at HM
    simp only at HM
    go_enter Try.func12, Try.ntmps12
    go_upto_region 1 with fail
    rw [HW1.out, HRb.out]
    have c0 := HD1.out.c0
    have c1 := HD1.out.c1
    have c2 := HD1.out.c2
    have c3 := HD1.out.c3
    have c4 := HD1.out.c4
    simp only at c0 c1 c2 c3 c4
    go_wp2_with fail
    refine HM.out.mono ?_
    rintro e w2 ⟨rfl, hb2⟩
    have hd2 := HD1.out.below hb2 HD1.out.lt
    have e0 := hd2.c0
    have e1 := hd2.c1
    have e2 := hd2.c2
    have e3 := hd2.c3
    have e4 := hd2.c4
    simp only at e0 e1 e2 e3 e4
    have HB2 : Hid (Below rb w w2) := Lib.hid (HB1.out.trans (hb2.mono (by have := HD1.out.lt; omega)))
    clear hb2 hd2 HM c0 c1 c2 c3 c4
    cases u <;> cases v <;> cases i
    all_goals
      go_wp2
      go_ret
      refine ⟨?_, by rw [HRb.out]; exact HB2.out⟩
      show Ending.returned (.int .i64 _) = .returned (.int .i64 _)
      congr 2 <;> simp [b2]
  · rw [decide_eq_false hm] at HM
    have hn : numS s = 0 := by unfold numS; rw [if_neg hm]
    obtain ⟨f, b, u, v, i⟩ := s
    rw [hn]
    clear hb1 hd1 hw1 hrb hn
    unfold sV
    simp only at HW1 ⊢
    unfold sV at HM
    simp only at HM
    go_enter Try.func12, Try.ntmps12
    go_upto_region 1 with fail
    rw [HW1.out, HRb.out]
    have c0 := HD1.out.c0
    have c1 := HD1.out.c1
    have c2 := HD1.out.c2
    have c3 := HD1.out.c3
    have c4 := HD1.out.c4
    simp only at c0 c1 c2 c3 c4
    go_wp2_with fail
    refine HM.out.mono ?_
    rintro e w2 ⟨rfl, hb2⟩
    have HB2 : Hid (Below rb w w2) := Lib.hid (HB1.out.trans (hb2.mono (by have := HD1.out.lt; omega)))
    clear hb2 HM c0 c1 c2 c3 c4
    go_wp2
    go_ret
    exact ⟨rfl, by rw [HRb.out]; exact HB2.out⟩

set_option maxRecDepth 100000 in
set_option maxHeartbeats 4000000 in
theorem refNum_any (s : Sty) (w : World) : Calls Try.prog 13 #[sV s] w fun e w' => e = .returned (.int .i64 (numS s)) ∧ Below w.heap.size w w' := by
  obtain ⟨rb, hrb⟩ : ∃ rb, w.heap.size = rb := ⟨_, rfl⟩
  obtain ⟨w1, hw1⟩ : ∃ w1, w.alloc (.cells #[.int .i64 s.fore, .int .i64 s.back, .bool s.bold, .bool s.under, .bool s.inv] 23) = w1 := ⟨_, rfl⟩
  have hb1 : Below rb w w1 := by rw [← hw1, ← hrb]; exact (Below.refl _ _).alloc (Nat.le_refl _) _
  have hd1 : SBlk 23 rb s w1 := by rw [← hw1, ← hrb]; exact SBlk.new _ _ _
  have HB1 := Lib.hid hb1
  have HD1 := Lib.hid hd1
  have HW1 := Lib.hid hw1
  have HRb := Lib.hid hrb
  have HM := Lib.hid (refMay_any s w1)
  by_cases hm : s.may
  · rw [decide_eq_true hm] at HM
    have hn : numS s = s.fore + 9 * s.back + b2 s.bold 81 + b2 s.under 162 + b2 s.inv 324 := by unfold numS; rw [if_pos hm]
    obtain ⟨f, b, u, v, i⟩ := s
    obtain ⟨m1, m2, m3, m4⟩ := hm
    simp only at m1 m2 m3 m4 hn
    rw [hn]
    clear hb1 hd1 hw1 hrb hn
    unfold sV
    simp only at HW1 ⊢
    unfold sV at HM
    simp only at HM
    go_enter Try.func13, Try.ntmps13
    go_upto_region 1 with fail
    rw [HW1.out, HRb.out]
    have c0 := HD1.out.c0
    have c1 := HD1.out.c1
    have c2 := HD1.out.c2
    have c3 := HD1.out.c3
    have c4 := HD1.out.c4
    simp only at c0 c1 c2 c3 c4
    go_wp2_with fail
    refine HM.out.mono ?_
    rintro e w2 ⟨rfl, hb2⟩
    have hd2 := HD1.out.below hb2 HD1.out.lt
    have e0 := hd2.c0
    have e1 := hd2.c1
    have e2 := hd2.c2
    have e3 := hd2.c3
    have e4 := hd2.c4
    simp only at e0 e1 e2 e3 e4
    have HB2 : Hid (Below rb w w2) := Lib.hid (HB1.out.trans (hb2.mono (by have := HD1.out.lt; omega)))
    clear hb2 hd2 HM c0 c1 c2 c3 c4
    cases u <;> cases v <;> cases i
    all_goals
      go_wp2
      go_ret
      refine ⟨?_, by rw [HRb.out]; exact HB2.out⟩
      show Ending.returned (.int .i64 _) = .returned (.int .i64 _)
      congr 2 <;> simp [b2]
  · rw [decide_eq_false hm] at HM
    have hn : numS s = 0 := by unfold numS; rw [if_neg hm]
    obtain ⟨f, b, u, v, i⟩ := s
    rw [hn]
    clear hb1 hd1 hw1 hrb hn
    unfold sV
    simp only at HW1 ⊢
    unfold sV at HM
    simp only at HM
    go_enter Try.func13, Try.ntmps13
    go_upto_region 1 with fail
    rw [HW1.out, HRb.out]
    have c0 := HD1.out.c0
    have c1 := HD1.out.c1
    have c2 := HD1.out.c2
    have c3 := HD1.out.c3
    have c4 := HD1.out.c4
    simp only at c0 c1 c2 c3 c4
    go_wp2_with fail
    refine HM.out.mono ?_
    rintro e w2 ⟨rfl, hb2⟩
    have HB2 : Hid (Below rb w w2) := Lib.hid (HB1.out.trans (hb2.mono (by have := HD1.out.lt; omega)))
    clear hb2 HM c0 c1 c2 c3 c4
    go_wp2
    go_ret
    exact ⟨rfl, by rw [HRb.out]; exact HB2.out⟩

set_option maxRecDepth 100000 in
set_option maxHeartbeats 4000000 in
theorem of_any (n : Int) (w : World) : Calls Try.prog 11 #[.int .i64 n] w fun e w' => e = .returned (.tuple #[sV (if 0 ≤ n ∧ n ≤ 647 then ofN n else .zero), .int .i64 (if 0 ≤ n ∧ n ≤ 647 then 0 else 1)]) ∧ Below w.heap.size w w' := by
  obtain ⟨rb, hrb⟩ : ∃ rb, w.heap.size = rb := ⟨_, rfl⟩
  obtain ⟨w1, hw1⟩ : ∃ w1, w.alloc (.cells #[.int .i64 0, .int .i64 0, .bool false, .bool false, .bool false] 26) = w1 := ⟨_, rfl⟩
  have hb1 : Below rb w w1 := by rw [← hw1, ← hrb]; exact (Below.refl _ _).alloc (Nat.le_refl _) _
  have hd1 : SBlk 26 rb .zero w1 := by rw [← hw1, ← hrb]; exact SBlk.new _ _ _
  have HB1 := Lib.hid hb1
  have HW1 := Lib.hid hw1
  have HRb := Lib.hid hrb
  have c0 := hd1.c0
  have c1 := hd1.c1
  have c2 := hd1.c2
  have c3 := hd1.c3
  have c4 := hd1.c4
  simp only [Sty.zero] at c0 c1 c2 c3 c4
  have f0 := hd1.fr 0
  have f1 := hd1.fr 1
  have f2 := hd1.fr 2
  have f3 := hd1.fr 3
  have f4 := hd1.fr 4
  clear hb1 hw1 hrb hd1
  by_cases h0 : 0 ≤ n
  · by_cases h1 : n ≤ 647
    · rw [if_pos ⟨h0, h1⟩, if_pos ⟨h0, h1⟩]
      go_enter Try.func11, Try.ntmps11
      go_upto_region 1 with fail
      rw [HW1.out, HRb.out]
      go_wp2
      refine bodyPost_ret (v := .tuple #[sV (ofN n), .int .i64 0]) (by rw [results_cell_tmp (fn := Try.f11) rfl]; go_simp; rfl) rfl ?_
      exact ⟨rfl, by rw [HRb.out]; exact below_set5 (s := ofN n) HB1.out (by omega)⟩
    · rw [if_neg (fun e => h1 e.2), if_neg (fun e => h1 e.2)]
      go_enter Try.func11, Try.ntmps11
      go_upto_region 1 with fail
      rw [HW1.out, HRb.out]
      go_wp2
      refine bodyPost_ret (v := .tuple #[sV .zero, .int .i64 1]) (by rw [results_cell_tmp (fn := Try.f11) rfl]; go_simp; rfl) rfl ?_
      exact ⟨rfl, by rw [HRb.out]; exact below_set5 (s := .zero) HB1.out (by omega)⟩
  · rw [if_neg (fun e => h0 e.1), if_neg (fun e => h0 e.1)]
    go_enter Try.func11, Try.ntmps11
    go_upto_region 1 with fail
    rw [HW1.out, HRb.out]
    go_wp2
    refine bodyPost_ret (v := .tuple #[sV .zero, .int .i64 1]) (by rw [results_cell_tmp (fn := Try.f11) rfl]; go_simp; rfl) rfl ?_
    exact ⟨rfl, by rw [HRb.out]; exact below_set5 (s := .zero) HB1.out (by omega)⟩
end Go.Proofs.Ytfapmgecebcfaaa.Z
