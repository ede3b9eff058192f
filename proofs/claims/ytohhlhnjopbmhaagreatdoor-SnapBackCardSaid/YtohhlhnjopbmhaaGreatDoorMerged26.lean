/- The contract of the statements' Is: is a snap the document's? -/
import Derived.Test.YtohhlhnjopbmhaaGreatDoorMerged16
import Derived.Test.YtohhlhnjopbmhaaGreatDoorMerged17
import Derived.Test.YtohhlhnjopbmhaaGreatDoorMerged25
namespace Go.Proofs.YtohhlhnjopbmhaaGreatDoor.K
open Go.RowKit Go.Proofs.YtohhlhnjopbmhaaGreatDoor.I

set_option maxRecDepth 100000 in
set_option maxHeartbeats 16000000 in
theorem nis_any (s s2 : Sn) (ra : Option Addr) (rn rc : Nat) (rga : Option Addr) (rgn rgc : Nat) (qa : Option Addr) (qn qc : Nat) (qga : Option Addr) (qgn qgc : Nat) (w : World) (h1 : SnIn .i32 ra rn rc rga rgn rgc s w) (h2 : SnIn .i64 qa qn qc qga qgn qgc s2 w) (m1 : SnB s) (m2 : SnB s2) :
    Calls Tryz.prog 13 #[.agg (snA s ra rn rc rga rgn rgc), .agg (snA s2 qa qn qc qga qgn qgc)] w fun e w' => e = .returned (.bool (decide (s = s2))) ∧ Below w.heap.size w w' := by
  obtain ⟨rb, hrb⟩ : ∃ rb, w.heap.size = rb := ⟨_, rfl⟩
  obtain ⟨D, hD⟩ : ∃ D, decide (s = s2) = D := ⟨_, rfl⟩
  rw [hD]
  obtain ⟨P, hP⟩ : ∃ P : Ending → World → Prop, (fun e w' => e = .returned (.bool D) ∧ Below w.heap.size w w') = P := ⟨_, rfl⟩
  rw [hP]
  obtain ⟨w1, hw1⟩ : ∃ w1, w.alloc (.cells (snA s ra rn rc rga rgn rgc) 25) = w1 := ⟨_, rfl⟩
  obtain ⟨w2, hw2⟩ : ∃ w2, w1.alloc (.cells (snA s2 qa qn qc qga qgn qgc) 32) = w2 := ⟨_, rfl⟩
  have hs1 : w1.heap.size = rb + 1 := by rw [← hw1, World.size_alloc, hrb]
  have hb1 : Below rb w w1 := by rw [← hw1, ← hrb]; exact (Below.refl _ _).alloc (Nat.le_refl _) _
  have hb2 : Below rb w w2 := by rw [← hw2]; exact hb1.alloc (by omega) _
  have hA1 : w1.heap[rb]? = some (.cells (snA s ra rn rc rga rgn rgc) 25 (0, 0)) := by rw [← hw1, ← hrb]; exact heap_alloc_new w _
  have hA : w2.heap[rb]? = some (.cells (snA s ra rn rc rga rgn rgc) 25 (0, 0)) := by rw [← hw2, Below.heap_alloc _ _ _ (by omega)]; exact hA1
  have hB : w2.heap[rb + 1]? = some (.cells (snA s2 qa qn qc qga qgn qgc) 32 (0, 0)) := by rw [← hw2, ← hs1]; exact heap_alloc_new w1 _
  have g1 := h1.belowAll (by rw [hrb]; exact hb2)
  have g2 := h2.belowAll (by rw [hrb]; exact hb2)
  have KG : Hid (∀ w3, Below w2.heap.size w2 w3 → Calls Tryz.prog 43 #[.slice rga rgn rgc, .slice qga qgn qgc] w3 fun e w' => e = .returned (.bool (decide (s.B = s2.B))) ∧ Below w3.heap.size w3 w') := Lib.hid (fun w3 hb => lawGlyphs_any rga rgn rgc s.B qga qgn qgc s2.B w3 (g1.beg.belowAll hb) (g2.beg.belowAll hb) m1.brng (by rw [g1.beg.len]; exact m1.beg) (by rw [g2.beg.len]; exact m2.beg))
  have KR := Lib.hid (lawRows_any w2 g1.rows g2.rows m1.rng m1.cells m2.cells (by have := g1.rows.len; have := m1.rows; omega) (by have := g2.rows.len; have := m2.rows; omega))
  have HEnd : Hid (∀ b, (s = s2 ↔ b = true) → ∀ w3, Below w2.heap.size w2 w3 → P (.returned (.bool b)) w3) := Lib.hid (fun b hb w3 h3 => by
    rw [← hP]
    have : D = b := by rw [← hD]; cases b <;> simp_all
    rw [this]
    exact ⟨rfl, by rw [hrb]; exact hb2.trans (h3.mono hb2.size |>.mono (by have := hb2.size; omega))⟩)
  clear hP hD h1 h2 m1 m2 g1 g2 hb1 hb2 hA1
  obtain ⟨ak, aw, ah, ax, ay, at_, aR, an, ac, aB⟩ := s
  obtain ⟨bk, bw, bh, bx, bY, bt, bR, bn, bc, bB⟩ := s2
  have HBad : Hid ((⟨ak, aw, ah, ax, ay, at_, aR, an, ac, aB⟩ : Sn) ≠ ⟨bk, bw, bh, bx, bY, bt, bR, bn, bc, bB⟩ → ∀ w3, Below w2.heap.size w2 w3 → P (.returned (.bool false)) w3) := Lib.hid (fun h w3 h3 => HEnd.out false ⟨fun e => absurd e h, fun e => by cases e⟩ w3 h3)
  unfold snA at hw1 hw2 hA hB ⊢
  simp only at hw1 hw2 hA hB ⊢ KG KR
  have ca0 : w2.cell? ⟨rb, 0, none⟩ = some (.int .i64 ak) := by rw [cell_block hA]; rfl
  have ca1 : w2.cell? ⟨rb, 1, none⟩ = some (.int .i64 aw) := by rw [cell_block hA]; rfl
  have ca2 : w2.cell? ⟨rb, 2, none⟩ = some (.int .i64 ah) := by rw [cell_block hA]; rfl
  have ca3 : w2.cell? ⟨rb, 3, none⟩ = some (.int .i64 ax) := by rw [cell_block hA]; rfl
  have ca4 : w2.cell? ⟨rb, 4, none⟩ = some (.int .i64 ay) := by rw [cell_block hA]; rfl
  have ca5 : w2.cell? ⟨rb, 5, none⟩ = some (.string at_) := by rw [cell_block hA]; rfl
  have ca6 : w2.cell? ⟨rb, 6, none⟩ = some (.slice ra rn rc) := by rw [cell_block hA]; rfl
  have ca7 : w2.cell? ⟨rb, 7, none⟩ = some (.int .i64 an) := by rw [cell_block hA]; rfl
  have ca8 : w2.cell? ⟨rb, 8, none⟩ = some (.int .i64 ac) := by rw [cell_block hA]; rfl
  have ca9 : w2.cell? ⟨rb, 9, none⟩ = some (.slice rga rgn rgc) := by rw [cell_block hA]; rfl
  have cb0 : w2.cell? ⟨rb + 1, 0, none⟩ = some (.int .i64 bk) := by rw [cell_block hB]; rfl
  have cb1 : w2.cell? ⟨rb + 1, 1, none⟩ = some (.int .i64 bw) := by rw [cell_block hB]; rfl
  have cb2 : w2.cell? ⟨rb + 1, 2, none⟩ = some (.int .i64 bh) := by rw [cell_block hB]; rfl
  have cb3 : w2.cell? ⟨rb + 1, 3, none⟩ = some (.int .i64 bx) := by rw [cell_block hB]; rfl
  have cb4 : w2.cell? ⟨rb + 1, 4, none⟩ = some (.int .i64 bY) := by rw [cell_block hB]; rfl
  have cb5 : w2.cell? ⟨rb + 1, 5, none⟩ = some (.string bt) := by rw [cell_block hB]; rfl
  have cb6 : w2.cell? ⟨rb + 1, 6, none⟩ = some (.slice qa qn qc) := by rw [cell_block hB]; rfl
  have cb7 : w2.cell? ⟨rb + 1, 7, none⟩ = some (.int .i64 bn) := by rw [cell_block hB]; rfl
  have cb8 : w2.cell? ⟨rb + 1, 8, none⟩ = some (.int .i64 bc) := by rw [cell_block hB]; rfl
  have cb9 : w2.cell? ⟨rb + 1, 9, none⟩ = some (.slice qga qgn qgc) := by rw [cell_block hB]; rfl
  have HLt : Hid (rb < w2.heap.size ∧ rb + 1 < w2.heap.size) := Lib.hid ⟨(Array.getElem?_eq_some_iff.1 hA).1, (Array.getElem?_eq_some_iff.1 hB).1⟩
  have HW1 := Lib.hid hw1
  have HW2 := Lib.hid hw2
  have HRb := Lib.hid hrb
  have HS1 := Lib.hid hs1
  clear hw1 hw2 hA hB hrb hs1
  go_enter Tryz.func13, Tryz.ntmps13
  go_upto_region 1 with fail
  rw [HW1.out, HW2.out, HRb.out]
  by_cases h_k : ak = bk
  rotate_left
  · have q : (ak == bk) = false := by rw [beq_eq_false_iff_ne]; exact h_k
    have hend : Hid (P (.returned (.bool false)) w2) := Lib.hid (HBad.out (fun e => h_k (congrArg Sn.k e)) w2 (Below.refl _ _))
    clear h_k
    go_wp2_with fail
    exact hend.out
  subst h_k
  by_cases h_w : aw = bw
  rotate_left
  · have q : (aw == bw) = false := by rw [beq_eq_false_iff_ne]; exact h_w
    have hend : Hid (P (.returned (.bool false)) w2) := Lib.hid (HBad.out (fun e => h_w (congrArg Sn.w e)) w2 (Below.refl _ _))
    clear h_w
    go_wp2_with fail
    exact hend.out
  subst h_w
  by_cases h_h : ah = bh
  rotate_left
  · have q : (ah == bh) = false := by rw [beq_eq_false_iff_ne]; exact h_h
    have hend : Hid (P (.returned (.bool false)) w2) := Lib.hid (HBad.out (fun e => h_h (congrArg Sn.h e)) w2 (Below.refl _ _))
    clear h_h
    go_wp2_with fail
    exact hend.out
  subst h_h
  by_cases h_x : ax = bx
  rotate_left
  · have q : (ax == bx) = false := by rw [beq_eq_false_iff_ne]; exact h_x
    have hend : Hid (P (.returned (.bool false)) w2) := Lib.hid (HBad.out (fun e => h_x (congrArg Sn.x e)) w2 (Below.refl _ _))
    clear h_x
    go_wp2_with fail
    exact hend.out
  subst h_x
  by_cases h_y : ay = bY
  rotate_left
  · have q : (ay == bY) = false := by rw [beq_eq_false_iff_ne]; exact h_y
    have hend : Hid (P (.returned (.bool false)) w2) := Lib.hid (HBad.out (fun e => h_y (congrArg Sn.y e)) w2 (Below.refl _ _))
    clear h_y
    go_wp2_with fail
    exact hend.out
  subst h_y
  by_cases h_t : at_ = bt
  rotate_left
  · have q : (at_.toList == bt.toList) = false := by
      rw [beq_eq_false_iff_ne, ByteArray.toList_eq, ByteArray.toList_eq]
      exact fun e => h_t (bytes_eqN e)
    have hend : Hid (P (.returned (.bool false)) w2) := Lib.hid (HBad.out (fun e => h_t (congrArg Sn.t e)) w2 (Below.refl _ _))
    clear h_t
    go_wp2_with fail
    exact hend.out
  subst h_t
  by_cases h_n : an = bn
  rotate_left
  · have q : (an == bn) = false := by rw [beq_eq_false_iff_ne]; exact h_n
    have hend : Hid (P (.returned (.bool false)) w2) := Lib.hid (HBad.out (fun e => h_n (congrArg Sn.n e)) w2 (Below.refl _ _))
    clear h_n
    go_wp2_with fail
    exact hend.out
  subst h_n
  by_cases h_c : ac = bc
  rotate_left
  · have q : (ac == bc) = false := by rw [beq_eq_false_iff_ne]; exact h_c
    have hend : Hid (P (.returned (.bool false)) w2) := Lib.hid (HBad.out (fun e => h_c (congrArg Sn.c e)) w2 (Below.refl _ _))
    clear h_c
    go_wp2_with fail
    exact hend.out
  subst h_c
  have KB := KR.out
  by_cases h_R : aR = bR
  rotate_left
  · rw [decide_eq_false h_R] at KB
    have hend : Hid (∀ w3, Below w2.heap.size w2 w3 → P (.returned (.bool false)) w3) := Lib.hid (fun w3 h3 => HBad.out (fun e => h_R (congrArg Sn.R e)) w3 h3)
    have K2 := Lib.hid KB
    clear h_R KB
    go_wp2_with fail
    refine K2.out.mono ?_
    rintro e w3 ⟨rfl, h3⟩
    have h4 := hend.out w3 h3
    clear h3
    go_wp2_with fail
    exact h4
  rw [decide_eq_true h_R] at KB
  subst h_R
  have K2 := Lib.hid KB
  have HE2 : Hid (∀ w3, Below w2.heap.size w2 w3 → P (.returned (.bool (decide (aB = bB)))) w3) := Lib.hid (fun w3 h3 => HEnd.out _ (by rw [decide_eq_true_iff]; exact ⟨fun e => congrArg Sn.B e, fun e => by rw [e]⟩) w3 h3)
  clear KB
  go_wp2_with fail
  refine K2.out.mono ?_
  rintro e w3 ⟨rfl, h3⟩
  have l6 : w3.cell? ⟨rb, 9, none⟩ = some (.slice rga rgn rgc) := (h3.cell (p := ⟨rb, 9, none⟩) HLt.out.1).trans ca9
  have l7 : w3.cell? ⟨rb + 1, 9, none⟩ = some (.slice qga qgn qgc) := (h3.cell (p := ⟨rb + 1, 9, none⟩) HLt.out.2).trans cb9
  have K3 := Lib.hid (KG.out w3 h3)
  have H3 := Lib.hid h3
  clear h3 ca0 ca1 ca2 ca3 ca4 ca5 ca6 ca7 ca8 ca9 cb0 cb1 cb2 cb3 cb4 cb5 cb6 cb7 cb8 cb9
  go_wp2_with fail
  refine K3.out.mono ?_
  rintro e w4 ⟨rfl, h4⟩
  have hend := HE2.out w4 (H3.out.trans (h4.mono H3.out.size))
  generalize decide (aB = bB) = D2 at hend
  clear h4 l6 l7
  cases D2
  · go_wp2_with fail
    exact hend
  · go_wp2_with fail
    exact hend
end Go.Proofs.YtohhlhnjopbmhaaGreatDoor.K

/- The contract of the document's Empty: is a snap the empty one? -/
namespace Go.Proofs.YtohhlhnjopbmhaaGreatDoor.K
open Go.RowKit Go.Proofs.YtohhlhnjopbmhaaGreatDoor.I

set_option maxRecDepth 100000 in
set_option maxHeartbeats 16000000 in
theorem nrfempty_any (s : Sn) (ra : Option Addr) (rn rc : Nat) (ga : Option Addr) (gn gc : Nat) (w : World) (hrn : rn = s.R.length) (hgn : gn = s.B.length) (hr1 : (rn : Int) ≤ 1000000) (hg1 : (gn : Int) ≤ 1000000) :
    Calls Tryz.prog 35 #[.agg (snA s ra rn rc ga gn gc)] w fun e w' => e = .returned (.bool (decide (s = emptyN))) ∧ Below w.heap.size w w' := by
  obtain ⟨rb, hrb⟩ : ∃ rb, w.heap.size = rb := ⟨_, rfl⟩
  obtain ⟨D, hD⟩ : ∃ D, decide (s = emptyN) = D := ⟨_, rfl⟩
  rw [hD]
  obtain ⟨P, hP⟩ : ∃ P : Ending → World → Prop, (fun e w' => e = .returned (.bool D) ∧ Below w.heap.size w w') = P := ⟨_, rfl⟩
  rw [hP]
  obtain ⟨w1, hw1⟩ : ∃ w1, w.alloc (.cells (snA s ra rn rc ga gn gc) 32) = w1 := ⟨_, rfl⟩
  have hb1 : Below rb w w1 := by rw [← hw1, ← hrb]; exact (Below.refl _ _).alloc (Nat.le_refl _) _
  have hA : w1.heap[rb]? = some (.cells (snA s ra rn rc ga gn gc) 32 (0, 0)) := by rw [← hw1, ← hrb]; exact heap_alloc_new w _
  have HEnd : Hid (∀ b, (s = emptyN ↔ b = true) → P (.returned (.bool b)) w1) := Lib.hid (fun b hb => by
    rw [← hP]
    have : D = b := by rw [← hD]; cases b <;> simp_all
    rw [this]
    exact ⟨rfl, by rw [hrb]; exact hb1⟩)
  obtain ⟨c0, c1, c2, c3, c4, c5, c6, c7, c8, c9⟩ := ten_cells hA
  clear hP hD hb1 hA
  obtain ⟨k, W, h, x, y, t, R, n, c, B⟩ := s
  unfold emptyN at HEnd
  unfold snA at hw1 ⊢
  simp only at hw1 hrn hgn c0 c1 c2 c3 c4 c5 c6 c7 c8 c9 ⊢
  have HBad : Hid ((⟨k, W, h, x, y, t, R, n, c, B⟩ : Sn) ≠ ⟨0, 0, 0, 0, 0, ⟨#[]⟩, [], 0, 0, []⟩ → P (.returned (.bool false)) w1) := Lib.hid (fun h => HEnd.out false ⟨fun e => absurd e h, fun e => by cases e⟩)
  have HW1 := Lib.hid hw1
  have HRb := Lib.hid hrb
  have HRn := Lib.hid hrn
  have HGn := Lib.hid hgn
  clear hw1 hrb hrn hgn
  go_enter Tryz.func35, Tryz.ntmps35
  go_upto_region 1 with fail
  rw [HW1.out, HRb.out]
  by_cases h_k : k = 0
  rotate_left
  · have q : (k == 0) = false := by rw [beq_eq_false_iff_ne]; exact h_k
    have hend : Hid (P (.returned (.bool false)) w1) := Lib.hid (HBad.out (fun e => h_k (congrArg Sn.k e)))
    clear h_k
    go_wp2_with fail
    exact hend.out
  have q_k : (k == 0) = true := by rw [beq_iff_eq]; exact h_k
  by_cases h_W : W = 0
  rotate_left
  · have q : (W == 0) = false := by rw [beq_eq_false_iff_ne]; exact h_W
    have hend : Hid (P (.returned (.bool false)) w1) := Lib.hid (HBad.out (fun e => h_W (congrArg Sn.w e)))
    clear h_W
    go_wp2_with fail
    exact hend.out
  have q_W : (W == 0) = true := by rw [beq_iff_eq]; exact h_W
  by_cases h_h : h = 0
  rotate_left
  · have q : (h == 0) = false := by rw [beq_eq_false_iff_ne]; exact h_h
    have hend : Hid (P (.returned (.bool false)) w1) := Lib.hid (HBad.out (fun e => h_h (congrArg Sn.h e)))
    clear h_h
    go_wp2_with fail
    exact hend.out
  have q_h : (h == 0) = true := by rw [beq_iff_eq]; exact h_h
  by_cases h_x : x = 0
  rotate_left
  · have q : (x == 0) = false := by rw [beq_eq_false_iff_ne]; exact h_x
    have hend : Hid (P (.returned (.bool false)) w1) := Lib.hid (HBad.out (fun e => h_x (congrArg Sn.x e)))
    clear h_x
    go_wp2_with fail
    exact hend.out
  have q_x : (x == 0) = true := by rw [beq_iff_eq]; exact h_x
  by_cases h_y : y = 0
  rotate_left
  · have q : (y == 0) = false := by rw [beq_eq_false_iff_ne]; exact h_y
    have hend : Hid (P (.returned (.bool false)) w1) := Lib.hid (HBad.out (fun e => h_y (congrArg Sn.y e)))
    clear h_y
    go_wp2_with fail
    exact hend.out
  have q_y : (y == 0) = true := by rw [beq_iff_eq]; exact h_y
  by_cases h_t : t.data.toList = []
  rotate_left
  · have q : (t.toList == ([] : List UInt8)) = false := by rw [ByteArray.toList_eq, beq_eq_false_iff_ne]; exact h_t
    have q2 : (t.toList == (⟨#[]⟩ : ByteArray).toList) = false := by rw [ByteArray.toList_eq, ByteArray.toList_eq, beq_eq_false_iff_ne]; exact h_t
    have hend : Hid (P (.returned (.bool false)) w1) := Lib.hid (HBad.out (fun e => h_t (by have h := congrArg Sn.t e; simp only at h; rw [h])))
    clear h_t
    go_wp2_with fail
    exact hend.out
  obtain rfl : t = ⟨#[]⟩ := bytes_eqN (by rw [h_t])
  by_cases h_R : rn = 0
  rotate_left
  · have q : ((rn : Int) == 0) = false := by rw [beq_eq_false_iff_ne]; omega
    have hend : Hid (P (.returned (.bool false)) w1) := Lib.hid (HBad.out (fun e => h_R (by have h := congrArg Sn.R e; simp only at h; rw [HRn.out, h]; rfl)))
    clear h_R
    go_wp2_with fail
    exact hend.out
  have q_R : ((rn : Int) == 0) = true := by rw [beq_iff_eq]; omega
  by_cases h_n : n = 0
  rotate_left
  · have q : (n == 0) = false := by rw [beq_eq_false_iff_ne]; exact h_n
    have hend : Hid (P (.returned (.bool false)) w1) := Lib.hid (HBad.out (fun e => h_n (congrArg Sn.n e)))
    clear h_n
    go_wp2_with fail
    exact hend.out
  have q_n : (n == 0) = true := by rw [beq_iff_eq]; exact h_n
  by_cases h_c : c = 0
  rotate_left
  · have q : (c == 0) = false := by rw [beq_eq_false_iff_ne]; exact h_c
    have hend : Hid (P (.returned (.bool false)) w1) := Lib.hid (HBad.out (fun e => h_c (congrArg Sn.c e)))
    clear h_c
    go_wp2_with fail
    exact hend.out
  have q_c : (c == 0) = true := by rw [beq_iff_eq]; exact h_c
  by_cases h_B : gn = 0
  rotate_left
  · have q : ((gn : Int) == 0) = false := by rw [beq_eq_false_iff_ne]; omega
    have hend : Hid (P (.returned (.bool false)) w1) := Lib.hid (HBad.out (fun e => h_B (by have h := congrArg Sn.B e; simp only at h; rw [HGn.out, h]; rfl)))
    clear h_B
    go_wp2_with fail
    exact hend.out
  have q_B : ((gn : Int) == 0) = true := by rw [beq_iff_eq]; omega
  have hend : Hid (P (.returned (.bool true)) w1) := Lib.hid (HEnd.out true ⟨fun _ => rfl, fun _ => by
    rw [h_k, h_W, h_h, h_x, h_y, h_n, h_c, List.eq_nil_of_length_eq_zero (show R.length = 0 by have := HRn.out; omega), List.eq_nil_of_length_eq_zero (show B.length = 0 by have := HGn.out; omega)]⟩)
  clear h_k h_W h_h h_x h_y h_n h_c h_R h_B h_t
  go_wp2_with fail
  exact hend.out
end Go.Proofs.YtohhlhnjopbmhaaGreatDoor.K
