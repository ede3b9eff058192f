/- The contract of the document's limited: a number, at most so great. -/
import Derived.Test.YtjlljkdlgkociaaBRefR
import Derived.Test.YtjlljkdlgkociaaNSn
namespace Go.Proofs.Ytjlljkdlgkociaa.K
open Go.RowKit Go.Proofs.Ytjlljkdlgkociaa.I

/-- what it leaves -/
def LimPost (q : Sta × Nat) (w : World) (e : Ending) (w' : World) : Prop := ∃ t : ByteArray, e = .returned (.tuple #[.agg #[.string t, .int .i64 (q.1.2 : Int)], .int .i64 (q.2 : Int)]) ∧ t.data.toList = q.1.1 ∧ (t.size : Int) ≤ 1000000 ∧ Below w.heap.size w w'
theorem numS_bad (s : Sta) (hs : InOk s) (h : (numS s.1 s.2).1.2 ≠ 0) : (numS s.1 s.2).2 = 0 := by
  obtain ⟨l, e⟩ := s
  by_cases he : e = 0
  · exact numS_err h he
  · have hl : l = [] := hs he
    subst hl
    have := numS_stuck e he
    simp only [this]
set_option maxRecDepth 100000 in
set_option maxHeartbeats 16000000 in
theorem nlim_any (s : ByteArray) (hs : (s.size : Int) ≤ 1000000) (st : Sta) (hst : s.data.toList = st.1) (hok : InOk st) (m : Nat) (hm : (m : Int) ≤ 2000000) (w : World) : Calls Try.prog 26 #[.agg #[.string s, .int .i64 (st.2 : Int)], .int .i64 (m : Int)] w (LimPost (atS st m) w) := by
  obtain ⟨rb, hrb⟩ : ∃ rb, w.heap.size = rb := ⟨_, rfl⟩
  obtain ⟨P, hP⟩ : ∃ P, LimPost (atS st m) w = P := ⟨_, rfl⟩
  rw [hP]
  have HP := Lib.hid hP
  obtain ⟨l0, e0⟩ := st
  simp only at hst
  obtain ⟨w2, hw2⟩ : ∃ w2, (w.alloc (.cells #[.string s, .int .i64 (e0 : Int)] 65)).alloc (.cells #[.string ⟨#[]⟩, .int .i64 0] 65) = w2 := ⟨_, rfl⟩
  have hi2 : RdI rb s e0 w w2 := by
    rw [← hw2, ← hrb]
    have b1 : Below w.heap.size w (w.alloc (.cells #[.string s, .int .i64 (e0 : Int)] 65)) := (Below.refl _ _).alloc (Nat.le_refl _) _
    refine ⟨b1.alloc (by rw [World.size_alloc]; omega) _, ?_, ?_⟩
    · rw [Below.heap_alloc _ _ _ (by rw [World.size_alloc]; omega)]
      exact heap_alloc_new w _
    · have h := heap_alloc_new (w.alloc (.cells #[.string s, .int .i64 (e0 : Int)] 65)) (.cells #[.string ⟨#[]⟩, .int .i64 0] 65)
      rw [World.size_alloc] at h
      exact h
  have HI2 := Lib.hid hi2
  have HW2 := Lib.hid hw2
  have HRb := Lib.hid hrb
  have HR := Lib.hid (refread_any s hs e0 (fun h => by rw [hst]; exact hok h) w2)
  have c0 : w2.cell? ⟨rb, 0, none⟩ = some (.string s) := by simp [World.cell?, hi2.i]
  have c1 : w2.cell? ⟨rb, 1, none⟩ = some (.int .i64 (e0 : Int)) := by simp [World.cell?, hi2.i]
  obtain ⟨⟨⟨l1, e1⟩, v⟩, hn1⟩ : ∃ q, numS s.data.toList e0 = q := ⟨_, rfl⟩
  rw [hn1] at HR
  unfold inV at HR
  rw [hst] at hn1
  have HN1 : Hid (numS ((l0, e0) : Sta).1 ((l0, e0) : Sta).2 = ((l1, e1), v)) := Lib.hid hn1
  have HEr1 : Hid (e1 ≠ 0 → v = 0) := Lib.hid (fun h => by have h2 := numS_bad (l0, e0) hok (by simp only [hn1]; exact h); simp only [hn1] at h2; exact h2)
  clear hP hst hok hi2 hw2 hrb hn1
  go_enter Try.func26, Try.ntmps26
  go_upto_region 1 with fail
  rw [HW2.out, HRb.out]
  go_wp2_with fail
  refine HR.out.mono ?_
  rintro e w3 ⟨t3, rfl, ht3, hz3, hb3⟩
  have hi3 := HI2.out.more (hb3.mono HI2.out.size)
  obtain ⟨xb, hxb⟩ : ∃ xb, w3.heap.size = xb := ⟨_, rfl⟩
  obtain ⟨w4, hw4⟩ : ∃ w4, w3.alloc (.cells #[.string t3, .int .i64 (e1 : Int)] 65) = w4 := ⟨_, rfl⟩
  have hb4 : Below w3.heap.size w3 w4 := by rw [← hw4]; exact (Below.refl _ _).alloc (Nat.le_refl _) _
  have hi4 := hi3.more (hb4.mono hi3.size)
  have hx4 : w4.heap[xb]? = some (.cells #[.string t3, .int .i64 (e1 : Int)] 65 (0, 0)) := by rw [← hw4, ← hxb]; exact heap_alloc_new w3 _
  have HI4 := Lib.hid hi4
  have HT3 : Hid (t3.data.toList = l1 ∧ (t3.size : Int) ≤ 1000000) := Lib.hid ⟨ht3, hz3⟩
  have HW4 := Lib.hid hw4
  have HXb := Lib.hid hxb
  have x0 : w4.cell? ⟨xb, 0, none⟩ = some (.string t3) := by simp [World.cell?, hx4]
  have x1 : w4.cell? ⟨xb, 1, none⟩ = some (.int .i64 (e1 : Int)) := by simp [World.cell?, hx4]
  have o0 : w4.cell? ⟨rb + 1, 0, none⟩ = some (.string ⟨#[]⟩) := by simp [World.cell?, hi4.o]
  have o1 : w4.cell? ⟨rb + 1, 1, none⟩ = some (.int .i64 0) := by simp [World.cell?, hi4.o]
  have g0 : w4.frozen? ⟨rb + 1, 0, none⟩ = false := by simp [World.frozen?, hi4.o]
  have g1 : w4.frozen? ⟨rb + 1, 1, none⟩ = false := by simp [World.frozen?, hi4.o]
  clear ht3 hz3 hb3 hi3 hw4 HR HI2 c0 c1 hxb hb4 hi4 hx4
  go_upto_region 2 with fail
  rw [HW4.out, HXb.out]
  by_cases hov : e1 = 0 ∧ ¬ v ≤ m
  · obtain ⟨rfl, hv⟩ := hov
    have d1 : decide ((v : Int) > (m : Int)) = true := decide_eq_true (by omega)
    have d2 : decide (m < v) = true := decide_eq_true (by omega)
    have hend : Hid (P (.returned (.tuple #[.agg #[.string ⟨#[]⟩, .int .i64 1], .int .i64 0])) ((w4.setCell ⟨rb + 1, 0, none⟩ (.string ⟨#[]⟩)).setCell ⟨rb + 1, 1, none⟩ (.int .i64 1))) := Lib.hid (by
      rw [← HP.out]
      unfold LimPost
      rw [atS_over HN1.out hv]
      exact ⟨_, rfl, rfl, by decide, by rw [HRb.out]; exact HI4.out.outB _ _⟩)
    clear hv
    go_wp2_with fail
    refine bodyPost_ret (v := .tuple #[.agg #[.string ⟨#[]⟩, .int .i64 1], .int .i64 0]) (by rw [results_cell_tmp rfl]; go_simp) rfl ?_
    exact hend.out
  · have hv : v ≤ m := by
      by_cases h0 : e1 = 0
      · exact Decidable.not_not.1 (fun h => hov ⟨h0, h⟩)
      · have := HEr1.out h0; omega
    have hat : atS (l0, e0) m = ((l1, e1), v) := atS_in HN1.out hv
    have d1 : decide ((v : Int) > (m : Int)) = false := decide_eq_false (by omega)
    have d2 : decide (m < v) = false := decide_eq_false (by omega)
    have hway : ((e1 : Int) == 0) = true ∨ ((e1 : Int) == 0) = false := by cases (e1 : Int) == 0 <;> simp
    have hend : Hid (P (.returned (.tuple #[.agg #[.string t3, .int .i64 (e1 : Int)], .int .i64 (v : Int)])) ((w4.setCell ⟨rb + 1, 0, none⟩ (.string t3)).setCell ⟨rb + 1, 1, none⟩ (.int .i64 (e1 : Int)))) := Lib.hid (by
      rw [← HP.out]
      unfold LimPost
      rw [hat]
      exact ⟨_, rfl, HT3.out.1, HT3.out.2, by rw [HRb.out]; exact HI4.out.outB _ _⟩)
    clear hov hv hat
    rcases hway with hq | hq
    all_goals
      go_wp2_with fail
      refine bodyPost_ret (v := .tuple #[.agg #[.string t3, .int .i64 (e1 : Int)], .int .i64 (v : Int)]) (by rw [results_cell_tmp rfl]; go_simp) rfl ?_
      exact hend.out
end Go.Proofs.Ytjlljkdlgkociaa.K
