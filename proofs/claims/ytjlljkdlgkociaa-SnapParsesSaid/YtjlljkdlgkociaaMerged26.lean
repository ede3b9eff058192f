/- The contract of the statements' Is: is a snap the document's? -/
import Derived.Test.YtjlljkdlgkociaaMerged15
import Derived.Test.YtjlljkdlgkociaaMerged16
import Derived.Test.YtjlljkdlgkociaaMerged25
import Derived.Test.YtjlljkdlgkociaaMerged23
import Derived.Test.YtjlljkdlgkociaaNRfG
import Derived.Test.YtjlljkdlgkociaaNPack
import Derived.Test.YtjlljkdlgkociaaMerged3
namespace Go.Proofs.Ytjlljkdlgkociaa.K
open Go.RowKit Go.Proofs.Ytjlljkdlgkociaa.I

set_option maxRecDepth 100000 in
set_option maxHeartbeats 16000000 in
theorem nis_any (s s2 : Sn) (ra : Option Addr) (rn rc : Nat) (rga : Option Addr) (rgn rgc : Nat) (qa : Option Addr) (qn qc : Nat) (qga : Option Addr) (qgn qgc : Nat) (w : World) (h1 : SnIn .i32 ra rn rc rga rgn rgc s w) (h2 : SnIn .i64 qa qn qc qga qgn qgc s2 w) (m1 : SnB s) (m2 : SnB s2) :
    Calls Try.prog 10 #[.agg (snA s ra rn rc rga rgn rgc), .agg (snA s2 qa qn qc qga qgn qgc)] w fun e w' => e = .returned (.bool (decide (s = s2))) ∧ Below w.heap.size w w' := by
  obtain ⟨rb, hrb⟩ : ∃ rb, w.heap.size = rb := ⟨_, rfl⟩
  obtain ⟨D, hD⟩ : ∃ D, decide (s = s2) = D := ⟨_, rfl⟩
  rw [hD]
  obtain ⟨P, hP⟩ : ∃ P : Ending → World → Prop, (fun e w' => e = .returned (.bool D) ∧ Below w.heap.size w w') = P := ⟨_, rfl⟩
  rw [hP]
  obtain ⟨w1, hw1⟩ : ∃ w1, w.alloc (.cells (snA s ra rn rc rga rgn rgc) 27) = w1 := ⟨_, rfl⟩
  obtain ⟨w2, hw2⟩ : ∃ w2, w1.alloc (.cells (snA s2 qa qn qc qga qgn qgc) 35) = w2 := ⟨_, rfl⟩
  have hs1 : w1.heap.size = rb + 1 := by rw [← hw1, World.size_alloc, hrb]
  have hb1 : Below rb w w1 := by rw [← hw1, ← hrb]; exact (Below.refl _ _).alloc (Nat.le_refl _) _
  have hb2 : Below rb w w2 := by rw [← hw2]; exact hb1.alloc (by omega) _
  have hA1 : w1.heap[rb]? = some (.cells (snA s ra rn rc rga rgn rgc) 27 (0, 0)) := by rw [← hw1, ← hrb]; exact heap_alloc_new w _
  have hA : w2.heap[rb]? = some (.cells (snA s ra rn rc rga rgn rgc) 27 (0, 0)) := by rw [← hw2, Below.heap_alloc _ _ _ (by omega)]; exact hA1
  have hB : w2.heap[rb + 1]? = some (.cells (snA s2 qa qn qc qga qgn qgc) 35 (0, 0)) := by rw [← hw2, ← hs1]; exact heap_alloc_new w1 _
  have g1 := h1.belowAll (by rw [hrb]; exact hb2)
  have g2 := h2.belowAll (by rw [hrb]; exact hb2)
  have KG : Hid (∀ w3, Below w2.heap.size w2 w3 → Calls Try.prog 33 #[.slice rga rgn rgc, .slice qga qgn qgc] w3 fun e w' => e = .returned (.bool (decide (s.B = s2.B))) ∧ Below w3.heap.size w3 w') := Lib.hid (fun w3 hb => lawGlyphs_any rga rgn rgc s.B qga qgn qgc s2.B w3 (g1.beg.belowAll hb) (g2.beg.belowAll hb) m1.brng (by rw [g1.beg.len]; exact m1.beg) (by rw [g2.beg.len]; exact m2.beg))
  have KR := Lib.hid (lawRows_any w2 g1.rows g2.rows m1.rng m1.cells m2.cells (by have := g1.rows.len; have := m1.rows; omega) (by have := g2.rows.len; have := m2.rows; omega))
  have HEnd : Hid (∀ b, (s = s2 ↔ b = true) → ∀ w3, Below w2.heap.size w2 w3 → P (.returned (.bool b)) w3) := Lib.hid (fun b hb w3 h3 => by
    rw [← hP]
    have : D = b := by rw [← hD]; cases b <;> simp_all
    rw [this]
    exact ⟨rfl, by rw [hrb]; exact hb2.trans (h3.mono hb2.size |>.mono (by have := hb2.size; omega))⟩)
  clear hP hD h1 h2 m1 m2 g1 g2 hb1 hb2 hA1
  obtain ⟨ak, aw, ah, ax, ay, at_, aR, an, ac, aB⟩ := s
  obtain ⟨bk, bw, bh, bx, bY, bt, bR, bn, bc, bB⟩ := s2
  have HBad : Hid ((⟨ak, aw, ah, ax, ay, at_, aR, an, ac, aB⟩ : Sn) ≠ ⟨bk, bw, bh, bx, bY, bt, bR, bn, bc, bB⟩ → ∀ w3, Below w2.heap.size w2 w3 → P (.returned (.bool false)) w3) := Lib.hid (fun h w3 h3 => HEnd.out false ⟨fun e => absurd e h, fun e => by cases e⟩ w3 h3)
  unfold snA at hw1 hw2 hA hB ⊢
  simp only at hw1 hw2 hA hB ⊢ KG KR
  have ca0 : w2.cell? ⟨rb, 0, none⟩ = some (.int .i64 ak) := by rw [cell_block hA]; rfl
  have ca1 : w2.cell? ⟨rb, 1, none⟩ = some (.int .i64 aw) := by rw [cell_block hA]; rfl
  have ca2 : w2.cell? ⟨rb, 2, none⟩ = some (.int .i64 ah) := by rw [cell_block hA]; rfl
  have ca3 : w2.cell? ⟨rb, 3, none⟩ = some (.int .i64 ax) := by rw [cell_block hA]; rfl
  have ca4 : w2.cell? ⟨rb, 4, none⟩ = some (.int .i64 ay) := by rw [cell_block hA]; rfl
  have ca5 : w2.cell? ⟨rb, 5, none⟩ = some (.string at_) := by rw [cell_block hA]; rfl
  have ca6 : w2.cell? ⟨rb, 6, none⟩ = some (.slice ra rn rc) := by rw [cell_block hA]; rfl
  have ca7 : w2.cell? ⟨rb, 7, none⟩ = some (.int .i64 an) := by rw [cell_block hA]; rfl
  have ca8 : w2.cell? ⟨rb, 8, none⟩ = some (.int .i64 ac) := by rw [cell_block hA]; rfl
  have ca9 : w2.cell? ⟨rb, 9, none⟩ = some (.slice rga rgn rgc) := by rw [cell_block hA]; rfl
  have cb0 : w2.cell? ⟨rb + 1, 0, none⟩ = some (.int .i64 bk) := by rw [cell_block hB]; rfl
  have cb1 : w2.cell? ⟨rb + 1, 1, none⟩ = some (.int .i64 bw) := by rw [cell_block hB]; rfl
  have cb2 : w2.cell? ⟨rb + 1, 2, none⟩ = some (.int .i64 bh) := by rw [cell_block hB]; rfl
  have cb3 : w2.cell? ⟨rb + 1, 3, none⟩ = some (.int .i64 bx) := by rw [cell_block hB]; rfl
  have cb4 : w2.cell? ⟨rb + 1, 4, none⟩ = some (.int .i64 bY) := by rw [cell_block hB]; rfl
  have cb5 : w2.cell? ⟨rb + 1, 5, none⟩ = some (.string bt) := by rw [cell_block hB]; rfl
  have cb6 : w2.cell? ⟨rb + 1, 6, none⟩ = some (.slice qa qn qc) := by rw [cell_block hB]; rfl
  have cb7 : w2.cell? ⟨rb + 1, 7, none⟩ = some (.int .i64 bn) := by rw [cell_block hB]; rfl
  have cb8 : w2.cell? ⟨rb + 1, 8, none⟩ = some (.int .i64 bc) := by rw [cell_block hB]; rfl
  have cb9 : w2.cell? ⟨rb + 1, 9, none⟩ = some (.slice qga qgn qgc) := by rw [cell_block hB]; rfl
  have HLt : Hid (rb < w2.heap.size ∧ rb + 1 < w2.heap.size) := Lib.hid ⟨(Array.getElem?_eq_some_iff.1 hA).1, (Array.getElem?_eq_some_iff.1 hB).1⟩
  have HW1 := Lib.hid hw1
  have HW2 := Lib.hid hw2
  have HRb := Lib.hid hrb
  have HS1 := Lib.hid hs1
  clear hw1 hw2 hA hB hrb hs1
  go_enter Try.func10, Try.ntmps10
  go_upto_region 1 with fail
  rw [HW1.out, HW2.out, HRb.out]
  by_cases h_k : ak = bk
  rotate_left
  · have q : (ak == bk) = false := by rw [beq_eq_false_iff_ne]; exact h_k
    have hend : Hid (P (.returned (.bool false)) w2) := Lib.hid (HBad.out (fun e => h_k (congrArg Sn.k e)) w2 (Below.refl _ _))
    clear h_k
    go_wp2_with fail
    exact hend.out
  subst h_k
  by_cases h_w : aw = bw
  rotate_left
  · have q : (aw == bw) = false := by rw [beq_eq_false_iff_ne]; exact h_w
    have hend : Hid (P (.returned (.bool false)) w2) := Lib.hid (HBad.out (fun e => h_w (congrArg Sn.w e)) w2 (Below.refl _ _))
    clear h_w
    go_wp2_with fail
    exact hend.out
  subst h_w
  by_cases h_h : ah = bh
  rotate_left
  · have q : (ah == bh) = false := by rw [beq_eq_false_iff_ne]; exact h_h
    have hend : Hid (P (.returned (.bool false)) w2) := Lib.hid (HBad.out (fun e => h_h (congrArg Sn.h e)) w2 (Below.refl _ _))
    clear h_h
    go_wp2_with fail
    exact hend.out
  subst h_h
  by_cases h_x : ax = bx
  rotate_left
  · have q : (ax == bx) = false := by rw [beq_eq_false_iff_ne]; exact h_x
    have hend : Hid (P (.returned (.bool false)) w2) := Lib.hid (HBad.out (fun e => h_x (congrArg Sn.x e)) w2 (Below.refl _ _))
    clear h_x
    go_wp2_with fail
    exact hend.out
  subst h_x
  by_cases h_y : ay = bY
  rotate_left
  · have q : (ay == bY) = false := by rw [beq_eq_false_iff_ne]; exact h_y
    have hend : Hid (P (.returned (.bool false)) w2) := Lib.hid (HBad.out (fun e => h_y (congrArg Sn.y e)) w2 (Below.refl _ _))
    clear h_y
    go_wp2_with fail
    exact hend.out
  subst h_y
  by_cases h_t : at_ = bt
  rotate_left
  · have q : (at_.toList == bt.toList) = false := by
      rw [beq_eq_false_iff_ne, ByteArray.toList_eq, ByteArray.toList_eq]
      exact fun e => h_t (bytes_eqN e)
    have hend : Hid (P (.returned (.bool false)) w2) := Lib.hid (HBad.out (fun e => h_t (congrArg Sn.t e)) w2 (Below.refl _ _))
    clear h_t
    go_wp2_with fail
    exact hend.out
  subst h_t
  by_cases h_n : an = bn
  rotate_left
  · have q : (an == bn) = false := by rw [beq_eq_false_iff_ne]; exact h_n
    have hend : Hid (P (.returned (.bool false)) w2) := Lib.hid (HBad.out (fun e => h_n (congrArg Sn.n e)) w2 (Below.refl _ _))
    clear h_n
    go_wp2_with fail
    exact hend.out
  subst h_n
  by_cases h_c : ac = bc
  rotate_left
  · have q : (ac == bc) = false := by rw [beq_eq_false_iff_ne]; exact h_c
    have hend : Hid (P (.returned (.bool false)) w2) := Lib.hid (HBad.out (fun e => h_c (congrArg Sn.c e)) w2 (Below.refl _ _))
    clear h_c
    go_wp2_with fail
    exact hend.out
  subst h_c
  have KB := KR.out
  by_cases h_R : aR = bR
  rotate_left
  · rw [decide_eq_false h_R] at KB
    have hend : Hid (∀ w3, Below w2.heap.size w2 w3 → P (.returned (.bool false)) w3) := Lib.hid (fun w3 h3 => HBad.out (fun e => h_R (congrArg Sn.R e)) w3 h3)
    have K2 := Lib.hid KB
    clear h_R KB
    go_wp2_with fail
    refine K2.out.mono ?_
    rintro e w3 ⟨rfl, h3⟩
    have h4 := hend.out w3 h3
    clear h3
    go_wp2_with fail
    exact h4
  rw [decide_eq_true h_R] at KB
  subst h_R
  have K2 := Lib.hid KB
  have HE2 : Hid (∀ w3, Below w2.heap.size w2 w3 → P (.returned (.bool (decide (aB = bB)))) w3) := Lib.hid (fun w3 h3 => HEnd.out _ (by rw [decide_eq_true_iff]; exact ⟨fun e => congrArg Sn.B e, fun e => by rw [e]⟩) w3 h3)
  clear KB
  go_wp2_with fail
  refine K2.out.mono ?_
  rintro e w3 ⟨rfl, h3⟩
  have l6 : w3.cell? ⟨rb, 9, none⟩ = some (.slice rga rgn rgc) := (h3.cell (p := ⟨rb, 9, none⟩) HLt.out.1).trans ca9
  have l7 : w3.cell? ⟨rb + 1, 9, none⟩ = some (.slice qga qgn qgc) := (h3.cell (p := ⟨rb + 1, 9, none⟩) HLt.out.2).trans cb9
  have K3 := Lib.hid (KG.out w3 h3)
  have H3 := Lib.hid h3
  clear h3 ca0 ca1 ca2 ca3 ca4 ca5 ca6 ca7 ca8 ca9 cb0 cb1 cb2 cb3 cb4 cb5 cb6 cb7 cb8 cb9
  go_wp2_with fail
  refine K3.out.mono ?_
  rintro e w4 ⟨rfl, h4⟩
  have hend := HE2.out w4 (H3.out.trans (h4.mono H3.out.size))
  generalize decide (aB = bB) = D2 at hend
  clear h4 l6 l7
  cases D2
  · go_wp2_with fail
    exact hend
  · go_wp2_with fail
    exact hend
end Go.Proofs.Ytjlljkdlgkociaa.K

/- SnapParses' walk. -/
namespace Go.Proofs.Ytjlljkdlgkociaa.K
open Go.RowKit Go.Proofs.Ytjlljkdlgkociaa.I

theorem parseS_b (l : List UInt8) : SnB (parseS l).1 := by
  unfold parseS
  split
  · exact SnB.empty
  · split
    · exact SnB.empty
    · split
      · exact SnB.empty
      · exact readN_b _
set_option maxRecDepth 100000 in
set_option maxHeartbeats 16000000 in
theorem snapParses_walk (s0 : ByteArray) (hs0 : (s0.size : Int) ≤ 9223372036854775807) (w : World) : Calls Try.prog 3 #[.string s0] w fun e w' => e = .returned (.bool true) ∧ Below w.heap.size w w' := by
  obtain ⟨P, hP⟩ : ∃ P : Ending → World → Prop, (fun e w' => e = .returned (.bool true) ∧ Below w.heap.size w w') = P := ⟨_, rfl⟩
  rw [hP]
  have HEnd : Hid (∀ v, Below w.heap.size w v → P (.returned (.bool true)) v) := Lib.hid (fun v hb => by rw [← hP]; exact ⟨rfl, hb⟩)
  have HA := Lib.hid (nawake_any w)
  have HCu : Hid (∀ v, Calls Try.prog 7 #[.string s0, .int .i64 300] v fun e w' => (∃ t : ByteArray, e = .returned (.string t) ∧ (t.size : Int) ≤ 300 ∧ t.data.toList = s0.data.toList.take 300) ∧ v = w') := Lib.hid (fun v => cut_any s0 300 hs0 (by decide) v)
  clear hP
  go_enter Try.func3, Try.ntmps3
  go_wp2_with fail
  refine HA.out.mono ?_
  rintro e w1 ⟨rfl, hb1⟩
  have HB1 := Lib.hid hb1
  have HCu1 := Lib.hid (HCu.out w1)
  clear hb1
  go_wp2_with fail
  refine HCu1.out.mono ?_
  rintro e w2 ⟨⟨s, rfl, hs, -⟩, rfl⟩
  have HSz := Lib.hid hs
  have HPr := Lib.hid (nparse_any s (by omega) w1)
  clear hs HA HCu HCu1
  go_wp2_with fail
  refine HPr.out.mono ?_
  obtain ⟨q, hq⟩ : ∃ q, parseS s.data.toList = q := ⟨_, rfl⟩
  have hqb := parseS_b s.data.toList
  have hqz := fun h => parse_zero (l := s.data.toList) h
  rw [hq] at hqb hqz
  have HRf : Hid (∀ v, Calls Try.prog 9 #[.string s] v (SnRPost q v)) := Lib.hid (fun v => by
    have h := nrfparse_any s (by have := HSz.out; omega) v
    rw [hq] at h
    exact h)
  rw [hq]
  rintro e w3 ⟨xa, xn, xc, ya, yn, yc, rfl, hg3, ho3, hb3⟩
  obtain ⟨x, er⟩ := q
  simp only at hqb hqz hg3 ho3 ⊢
  have hz3 := snIn_of hg3 ho3
  obtain ⟨xb, hxb⟩ : ∃ b, w3.heap.size = b := ⟨_, rfl⟩
  obtain ⟨w4, hw4⟩ : ∃ w4, w3.alloc (.cells (snA x xa xn xc ya yn yc) 27) = w4 := ⟨_, rfl⟩
  have hb4 : Below w3.heap.size w3 w4 := by rw [← hw4]; exact (Below.refl _ _).alloc (Nat.le_refl _) _
  have hx4 : w4.heap[xb]? = some (.cells (snA x xa xn xc ya yn yc) 27 (0, 0)) := by rw [← hw4, ← hxb]; exact heap_alloc_new w3 _
  have HZ4 := Lib.hid (hz3.belowAll hb4)
  have HX4 := Lib.hid hx4
  have HW4 := Lib.hid hw4
  have HXb := Lib.hid hxb
  have HB4 := Lib.hid (HB1.out.trans ((hb3.trans (hb4.mono hb3.size)).mono HB1.out.size))
  have HQb := Lib.hid hqb
  have HQz := Lib.hid hqz
  have HRf4 := Lib.hid (HRf.out w4)
  clear hq hqb hqz hg3 ho3 hb3 hz3 hxb hw4 hb4 hx4 HPr HRf
  unfold snA at HW4
  unfold snA
  go_upto_region 5 with fail
  rw [HW4.out, HXb.out]
  go_wp2_with fail
  refine HRf4.out.mono ?_
  rintro e w5 ⟨za, zn, zc, ua, un, uc, rfl, hz5, hb5⟩
  simp only at hz5 ⊢
  obtain ⟨yb, hyb⟩ : ∃ b, w5.heap.size = b := ⟨_, rfl⟩
  obtain ⟨w6, hw6⟩ : ∃ w6, w5.alloc (.cells (snA x za zn zc ua un uc) 35) = w6 := ⟨_, rfl⟩
  have hb6 : Below w5.heap.size w5 w6 := by rw [← hw6]; exact (Below.refl _ _).alloc (Nat.le_refl _) _
  have hy6 : w6.heap[yb]? = some (.cells (snA x za zn zc ua un uc) 35 (0, 0)) := by rw [← hw6, ← hyb]; exact heap_alloc_new w5 _
  have hb46 := hb5.trans (hb6.mono hb5.size)
  have hx6 := (hb46.block xb (Array.getElem?_eq_some_iff.1 HX4.out).1).trans HX4.out
  have HB6 := Lib.hid (HB4.out.trans (hb46.mono HB4.out.size))
  have HIs : Hid (Calls Try.prog 10 #[.agg (snA x xa xn xc ya yn yc), .agg (snA x za zn zc ua un uc)] w6 fun e w' => e = .returned (.bool true) ∧ Below w6.heap.size w6 w') := Lib.hid (by
    have h := nis_any x x xa xn xc ya yn yc za zn zc ua un uc w6 (HZ4.out.belowAll hb46) (hz5.belowAll hb6) HQb.out HQb.out
    rw [decide_eq_true rfl] at h
    exact h)
  have HZ6 := Lib.hid (HZ4.out.belowAll hb46)
  have HW6 := Lib.hid hw6
  have HYb := Lib.hid hyb
  have HX6 := Lib.hid hx6
  obtain ⟨c0, c1, c2, c3, c4, c5, c6, c7, c8, c9⟩ := ten_cells hx6
  obtain ⟨d0, d1, d2, d3, d4, d5, d6, d7, d8, d9⟩ := ten_cells hy6
  clear hz5 hb5 hyb hw6 hb6 hy6 hb46 hx6 HRf4 HZ4 HX4
  unfold snA at HW6 HIs
  unfold snA
  go_upto_region 6 with fail
  rw [HW6.out, HYb.out]
  have ee : ((er : Int) == (er : Int)) = true := by simp
  by_cases he : er = 0
  rotate_left
  · have q : ((er : Int) != 0) = true := by rw [bne_iff_ne]; omega
    clear he
    go_wp2_with fail
    refine HIs.out.mono ?_
    rintro e w7 ⟨rfl, hb7⟩
    have hend := Lib.hid (HEnd.out w7 (HB6.out.trans (hb7.mono HB6.out.size)))
    clear hb7
    go_wp2_with fail
    exact hend.out
  have q : ((er : Int) != 0) = false := by rw [bne_eq_false_iff_eq]; omega
  have HPk : Hid (packN x = s.data.toList) := Lib.hid (HQz.out he).1
  clear he
  go_wp2_with fail
  refine HIs.out.mono ?_
  rintro e w7 ⟨rfl, hb7⟩
  have hp7 := npack_any x xa xn xc ya yn yc w7 (HZ6.out.belowAll hb7) HQb.out
  have hx7 := (hb7.block xb (Array.getElem?_eq_some_iff.1 HX6.out).1).trans HX6.out
  have HP7 := Lib.hid hp7
  have HB7 := Lib.hid (HB6.out.trans (hb7.mono HB6.out.size))
  clear c0 c1 c2 c3 c4 c5 c6 c7 c8 c9 d0 d1 d2 d3 d4 d5 d6 d7 d8 d9
  obtain ⟨c0, c1, c2, c3, c4, c5, c6, c7, c8, c9⟩ := ten_cells hx7
  clear hp7 hx7 hb7
  unfold snA at HP7
  go_wp2_with fail
  refine HP7.out.mono ?_
  rintro e w8 ⟨rfl, hb8⟩
  have hend := Lib.hid (HEnd.out w8 (HB7.out.trans (hb8.mono HB7.out.size)))
  have hpk : (⟨(packN x).toArray⟩ : ByteArray) = s := bytes_eqN (by rw [HPk.out])
  rw [hpk]
  have q3 : (s.toList == s.toList) = true := by simp
  clear hb8 c0 c1 c2 c3 c4 c5 c6 c7 c8 c9 hpk
  go_wp2_with fail
  exact hend.out
end Go.Proofs.Ytjlljkdlgkociaa.K
