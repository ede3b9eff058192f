/- The contract of the document's Empty: is a snap the empty one? -/
import Derived.Test.YtjlljkdlgkociaaMerged21
namespace Go.Proofs.Ytjlljkdlgkociaa.K
open Go.RowKit Go.Proofs.Ytjlljkdlgkociaa.I

set_option maxRecDepth 100000 in
set_option maxHeartbeats 16000000 in
theorem nrfempty_any (s : Sn) (ra : Option Addr) (rn rc : Nat) (ga : Option Addr) (gn gc : Nat) (w : World) (hrn : rn = s.R.length) (hgn : gn = s.B.length) (hr1 : (rn : Int) ≤ 1000000) (hg1 : (gn : Int) ≤ 1000000) :
    Calls Try.prog 31 #[.agg (snA s ra rn rc ga gn gc)] w fun e w' => e = .returned (.bool (decide (s = emptyN))) ∧ Below w.heap.size w w' := by
  obtain ⟨rb, hrb⟩ : ∃ rb, w.heap.size = rb := ⟨_, rfl⟩
  obtain ⟨D, hD⟩ : ∃ D, decide (s = emptyN) = D := ⟨_, rfl⟩
  rw [hD]
  obtain ⟨P, hP⟩ : ∃ P : Ending → World → Prop, (fun e w' => e = .returned (.bool D) ∧ Below w.heap.size w w') = P := ⟨_, rfl⟩
  rw [hP]
  obtain ⟨w1, hw1⟩ : ∃ w1, w.alloc (.cells (snA s ra rn rc ga gn gc) 35) = w1 := ⟨_, rfl⟩
  have hb1 : Below rb w w1 := by rw [← hw1, ← hrb]; exact (Below.refl _ _).alloc (Nat.le_refl _) _
  have hA : w1.heap[rb]? = some (.cells (snA s ra rn rc ga gn gc) 35 (0, 0)) := by rw [← hw1, ← hrb]; exact heap_alloc_new w _
  have HEnd : Hid (∀ b, (s = emptyN ↔ b = true) → P (.returned (.bool b)) w1) := Lib.hid (fun b hb => by
    rw [← hP]
    have : D = b := by rw [← hD]; cases b <;> simp_all
    rw [this]
    exact ⟨rfl, by rw [hrb]; exact hb1⟩)
  obtain ⟨c0, c1, c2, c3, c4, c5, c6, c7, c8, c9⟩ := ten_cells hA
  clear hP hD hb1 hA
  obtain ⟨k, W, h, x, y, t, R, n, c, B⟩ := s
  unfold emptyN at HEnd
  unfold snA at hw1 ⊢
  simp only at hw1 hrn hgn c0 c1 c2 c3 c4 c5 c6 c7 c8 c9 ⊢
  have HBad : Hid ((⟨k, W, h, x, y, t, R, n, c, B⟩ : Sn) ≠ ⟨0, 0, 0, 0, 0, ⟨#[]⟩, [], 0, 0, []⟩ → P (.returned (.bool false)) w1) := Lib.hid (fun h => HEnd.out false ⟨fun e => absurd e h, fun e => by cases e⟩)
  have HW1 := Lib.hid hw1
  have HRb := Lib.hid hrb
  have HRn := Lib.hid hrn
  have HGn := Lib.hid hgn
  clear hw1 hrb hrn hgn
  go_enter Try.func31, Try.ntmps31
  go_upto_region 1 with fail
  rw [HW1.out, HRb.out]
  by_cases h_k : k = 0
  rotate_left
  · have q : (k == 0) = false := by rw [beq_eq_false_iff_ne]; exact h_k
    have hend : Hid (P (.returned (.bool false)) w1) := Lib.hid (HBad.out (fun e => h_k (congrArg Sn.k e)))
    clear h_k
    go_wp2_with fail
    exact hend.out
  have q_k : (k == 0) = true := by rw [beq_iff_eq]; exact h_k
  by_cases h_W : W = 0
  rotate_left
  · have q : (W == 0) = false := by rw [beq_eq_false_iff_ne]; exact h_W
    have hend : Hid (P (.returned (.bool false)) w1) := Lib.hid (HBad.out (fun e => h_W (congrArg Sn.w e)))
    clear h_W
    go_wp2_with fail
    exact hend.out
  have q_W : (W == 0) = true := by rw [beq_iff_eq]; exact h_W
  by_cases h_h : h = 0
  rotate_left
  · have q : (h == 0) = false := by rw [beq_eq_false_iff_ne]; exact h_h
    have hend : Hid (P (.returned (.bool false)) w1) := Lib.hid (HBad.out (fun e => h_h (congrArg Sn.h e)))
    clear h_h
    go_wp2_with fail
    exact hend.out
  have q_h : (h == 0) = true := by rw [beq_iff_eq]; exact h_h
  by_cases h_x : x = 0
  rotate_left
  · have q : (x == 0) = false := by rw [beq_eq_false_iff_ne]; exact h_x
    have hend : Hid (P (.returned (.bool false)) w1) := Lib.hid (HBad.out (fun e => h_x (congrArg Sn.x e)))
    clear h_x
    go_wp2_with fail
    exact hend.out
  have q_x : (x == 0) = true := by rw [beq_iff_eq]; exact h_x
  by_cases h_y : y = 0
  rotate_left
  · have q : (y == 0) = false := by rw [beq_eq_false_iff_ne]; exact h_y
    have hend : Hid (P (.returned (.bool false)) w1) := Lib.hid (HBad.out (fun e => h_y (congrArg Sn.y e)))
    clear h_y
    go_wp2_with fail
    exact hend.out
  have q_y : (y == 0) = true := by rw [beq_iff_eq]; exact h_y
  by_cases h_t : t.data.toList = []
  rotate_left
  · have q : (t.toList == ([] : List UInt8)) = false := by rw [ByteArray.toList_eq, beq_eq_false_iff_ne]; exact h_t
    have q2 : (t.toList == (⟨#[]⟩ : ByteArray).toList) = false := by rw [ByteArray.toList_eq, ByteArray.toList_eq, beq_eq_false_iff_ne]; exact h_t
    have hend : Hid (P (.returned (.bool false)) w1) := Lib.hid (HBad.out (fun e => h_t (by have h := congrArg Sn.t e; simp only at h; rw [h])))
    clear h_t
    go_wp2_with fail
    exact hend.out
  obtain rfl : t = ⟨#[]⟩ := bytes_eqN (by rw [h_t])
  by_cases h_R : rn = 0
  rotate_left
  · have q : ((rn : Int) == 0) = false := by rw [beq_eq_false_iff_ne]; omega
    have hend : Hid (P (.returned (.bool false)) w1) := Lib.hid (HBad.out (fun e => h_R (by have h := congrArg Sn.R e; simp only at h; rw [HRn.out, h]; rfl)))
    clear h_R
    go_wp2_with fail
    exact hend.out
  have q_R : ((rn : Int) == 0) = true := by rw [beq_iff_eq]; omega
  by_cases h_n : n = 0
  rotate_left
  · have q : (n == 0) = false := by rw [beq_eq_false_iff_ne]; exact h_n
    have hend : Hid (P (.returned (.bool false)) w1) := Lib.hid (HBad.out (fun e => h_n (congrArg Sn.n e)))
    clear h_n
    go_wp2_with fail
    exact hend.out
  have q_n : (n == 0) = true := by rw [beq_iff_eq]; exact h_n
  by_cases h_c : c = 0
  rotate_left
  · have q : (c == 0) = false := by rw [beq_eq_false_iff_ne]; exact h_c
    have hend : Hid (P (.returned (.bool false)) w1) := Lib.hid (HBad.out (fun e => h_c (congrArg Sn.c e)))
    clear h_c
    go_wp2_with fail
    exact hend.out
  have q_c : (c == 0) = true := by rw [beq_iff_eq]; exact h_c
  by_cases h_B : gn = 0
  rotate_left
  · have q : ((gn : Int) == 0) = false := by rw [beq_eq_false_iff_ne]; omega
    have hend : Hid (P (.returned (.bool false)) w1) := Lib.hid (HBad.out (fun e => h_B (by have h := congrArg Sn.B e; simp only at h; rw [HGn.out, h]; rfl)))
    clear h_B
    go_wp2_with fail
    exact hend.out
  have q_B : ((gn : Int) == 0) = true := by rw [beq_iff_eq]; omega
  have hend : Hid (P (.returned (.bool true)) w1) := Lib.hid (HEnd.out true ⟨fun _ => rfl, fun _ => by
    rw [h_k, h_W, h_h, h_x, h_y, h_n, h_c, List.eq_nil_of_length_eq_zero (show R.length = 0 by have := HRn.out; omega), List.eq_nil_of_length_eq_zero (show B.length = 0 by have := HGn.out; omega)]⟩)
  clear h_k h_W h_h h_x h_y h_n h_c h_R h_B h_t
  go_wp2_with fail
  exact hend.out
end Go.Proofs.Ytjlljkdlgkociaa.K
