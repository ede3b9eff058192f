/- The program's grid: are two alike? -/
import Derived.Test.YtohhlhnjopbmhaaGreatDoorMerged15
import Derived.Lib.QuietBelow
import Derived.BigQuiet
import Derived.Test.YtohhlhnjopbmhaaGreatDoorMerged14
namespace Go.Proofs.YtohhlhnjopbmhaaGreatDoor.K
open Go.RowKit

theorem takeR_one {α : Type} (l : List α) (j : Nat) (h : j < l.length) : l.take (j + 1) = l.take j ++ [l[j]] := by rw [List.take_add_one, List.getElem?_eq_getElem h]; rfl
set_option maxRecDepth 100000 in
set_option maxHeartbeats 4000000 in
theorem eqRows_any {a1 a2 : Option Addr} {n1 c1 n2 c2 : Nat} {us1 us2 : List Rv} {rs1 rs2 : List Ro} (w : World) (h1 : RvsIn a1 n1 c1 us1 w) (h2 : RvsIn a2 n2 c2 us2 w) (v1 : RowsV .i32 us1 rs1 w) (v2 : RowsV .i32 us2 rs2 w) (hl1 : ∀ r ∈ rs1, r.l.length ≤ 1000) (hl2 : ∀ r ∈ rs2, r.l.length ≤ 1000) (hn1 : n1 ≤ 1000) (hn2 : n2 ≤ 1000) :
    Calls Tryz.prog 47 #[.slice a1 n1 c1, .slice a2 n2 c2, .func (.func 48) #[] #[]] w fun e w' => e = .returned (.bool (decide (rs1 = rs2))) ∧ Below w.heap.size w w' := by
  obtain ⟨rb, hrb⟩ : ∃ rb, w.heap.size = rb := ⟨_, rfl⟩
  rw [hrb]
  obtain ⟨D, hD⟩ : ∃ D, decide (rs1 = rs2) = D := ⟨_, rfl⟩
  obtain ⟨P, hP⟩ : ∃ P : Ending → World → Prop, (fun e w' => e = .returned (.bool D) ∧ Below rb w w') = P := ⟨_, rfl⟩
  rw [hD, hP]
  have HP := Lib.hid hP
  have HD := Lib.hid hD
  have HL1 : Hid (n1 = rs1.length) := Lib.hid (h1.len.trans v1.1)
  have HL2 : Hid (n2 = rs2.length) := Lib.hid (h2.len.trans v2.1)
  have H1 := Lib.hid h1
  have H2 := Lib.hid h2
  have HV1 := Lib.hid v1
  have HV2 := Lib.hid v2
  have HR1 := Lib.hid hl1
  have HR2 := Lib.hid hl2
  have HRb := Lib.hid hrb
  by_cases hnn : n1 = n2
  · subst hnn
    have q1 : ((n1 : Int) != (n1 : Int)) = false := by simp
    clear hP hD h1 h2 v1 v2 hl1 hl2 hrb hn2
    go_enter Tryz.func47, Tryz.ntmps47
    go_wp2_with fail
    go_loopw [17] (fun i wr => ∃ j : Nat, i = .int .i64 (j : Int) ∧ j ≤ n1 ∧ Hid (rs1.take j = rs2.take j ∧ Below rb w wr)) (fun i _ => n1 - (intOf i).toNat)
    case atStart => exact ⟨0, rfl, by omega, Lib.hid ⟨by simp, Below.refl _ _⟩⟩
    case round =>
      obtain ⟨j, rfl, hj, HF⟩ := hrel
      by_cases hlt : j < n1
      · have hd : decide (j < n1) = true := by simp; omega
        have hj1 : j < rs1.length := by rw [← HL1.out]; exact hlt
        have hj2 : j < rs2.length := by rw [← HL2.out]; exact hlt
        have hu1 : j < us1.length := by rw [HV1.out.1]; exact hj1
        have hu2 : j < us2.length := by rw [HV2.out.1]; exact hj2
        obtain ⟨b1, o1, rfl, hb1, hA1⟩ := H1.out.at_.resolve_left (by intro e; rw [e] at hu1; simp at hu1)
        obtain ⟨b2, o2, rfl, hb2, hA2⟩ := H2.out.at_.resolve_left (by intro e; rw [e] at hu2; simp at hu2)
        have hbw : Below w.heap.size w wr := by rw [HRb.out]; exact HF.out.2
        have hat1 := hA1 j us1[j] (List.getElem?_eq_getElem hu1)
        have hat2 := hA2 j us2[j] (List.getElem?_eq_getElem hu2)
        have hr1 := (HV1.out.2 j us1[j] rs1[j] (List.getElem?_eq_getElem hu1) (List.getElem?_eq_getElem hj1)).belowAll hbw
        have hr2 := (HV2.out.2 j us2[j] rs2[j] (List.getElem?_eq_getElem hu2) (List.getElem?_eq_getElem hj2)).belowAll hbw
        have hs1 := takeR_one rs1 j hj1
        have hs2 := takeR_one rs2 j hj2
        have hm1 := HR1.out rs1[j] (List.getElem_mem hj1)
        have hm2 := HR2.out rs2[j] (List.getElem_mem hj2)
        obtain ⟨⟨x1, m1, y1, g1⟩, hx1⟩ : ∃ k, us1[j] = k := ⟨_, rfl⟩
        obtain ⟨⟨x2, m2, y2, g2⟩, hx2⟩ : ∃ k, us2[j] = k := ⟨_, rfl⟩
        obtain ⟨r1, hre1⟩ : ∃ k, rs1[j] = k := ⟨_, rfl⟩
        obtain ⟨r2, hre2⟩ : ∃ k, rs2[j] = k := ⟨_, rfl⟩
        rw [hx1] at hat1 hr1
        rw [hx2] at hat2 hr2
        rw [hre1] at hr1 hs1 hm1
        rw [hre2] at hr2 hs2 hm2
        have p0 : wr.cell? ⟨b1, o1 + j * 2, none⟩ = some (.slice x1 m1 y1) := (World.cell?_of_block (a := ⟨b1, o1 + j * 2, none⟩) (hbw.block b1 hb1)).trans hat1.1
        have p1 : wr.cell? ⟨b1, o1 + j * 2 + 1, none⟩ = some (.bool g1) := (World.cell?_of_block (a := ⟨b1, o1 + j * 2 + 1, none⟩) (hbw.block b1 hb1)).trans hat1.2
        have p2 : wr.cell? ⟨b2, o2 + j * 2, none⟩ = some (.slice x2 m2 y2) := (World.cell?_of_block (a := ⟨b2, o2 + j * 2, none⟩) (hbw.block b2 hb2)).trans hat2.1
        have p3 : wr.cell? ⟨b2, o2 + j * 2 + 1, none⟩ = some (.bool g2) := (World.cell?_of_block (a := ⟨b2, o2 + j * 2 + 1, none⟩) (hbw.block b2 hb2)).trans hat2.2
        have hX : b1 < wr.heap.size := Nat.lt_of_lt_of_le hb1 hbw.size
        have hY : b2 < wr.heap.size := Nat.lt_of_lt_of_le hb2 hbw.size
        obtain ⟨w1, hw1⟩ : ∃ w1, wr.alloc (.cells #[.slice x1 m1 y1, .bool g1] 54) = w1 := ⟨_, rfl⟩
        obtain ⟨w2, hw2⟩ : ∃ w2, w1.alloc (.cells #[.slice x2 m2 y2, .bool g2] 54) = w2 := ⟨_, rfl⟩
        have hbb : Below wr.heap.size wr w2 := by rw [← hw2, ← hw1]; exact ((Below.refl _ _).alloc (Nat.le_refl _) _).alloc (by simp) _
        have hr1' := hr1.belowAll hbb
        have hr2' := hr2.belowAll hbb
        unfold Rv.val at hr1' hr2'
        simp only at hr1' hr2'
        obtain ⟨hg1, hi1, -, -, -, hk1⟩ := hr1'.of
        obtain ⟨hg2, hi2, -, -, -, hk2⟩ := hr2'.of
        have HS := Lib.hid (rowSame_any x1 x2 m1 m2 y1 y2 g1 g2 r1.l r2.l w2 hi1 hi2 (by omega) (by omega))
        have hee : (⟨r1.l, g1⟩ : Ro) = r1 := by rw [hg1]
        have hee2 : (⟨r2.l, g2⟩ : Ro) = r2 := by rw [hg2]
        rw [hee, hee2] at HS
        have HS1 := Lib.hid hs1
        have HS2 := Lib.hid hs2
        have HE1 := Lib.hid hre1
        have HE2 := Lib.hid hre2
        have HBb := Lib.hid hbb
        have HW1 := Lib.hid hw1
        have HW2 := Lib.hid hw2
        have HBw := Lib.hid hbw
        clear hA1 hA2 hat1 hat2 hr1 hr2 hs1 hs2 hm1 hm2 hx1 hx2 hre1 hre2 hb1 hb2 hw1 hw2 hbb hr1' hr2' hi1 hi2 hk1 hk2 hg1 hg2 hee hee2 hbw hu1 hu2
        by_cases hE : r1 = r2
        · have hde : decide (r1 = r2) = true := decide_eq_true hE
          rw [hde] at HS
          have HE := Lib.hid hE
          clear hE hde
          go_wp2_with fail
          first | rw [HW1.out, HW2.out] | skip
          refine HS.out.mono ?_
          rintro e w3 ⟨rfl, hb3⟩
          have HF3 : Hid (rs1.take (j + 1) = rs2.take (j + 1) ∧ Below rb w w3) := Lib.hid ⟨by rw [HS1.out, HS2.out, HF.out.1, HE.out], HF.out.2.trans ((HBb.out.trans (hb3.mono HBb.out.size)).mono (by have := HBw.out.size; have := HRb.out; omega))⟩
          clear hb3
          go_wp2_with fail
          go_roundw
          case rel => exact ⟨j + 1, by go_num, by omega, HF3⟩
          case measure => simp [intOf]; omega
        · have hde : decide (r1 = r2) = false := decide_eq_false hE
          rw [hde] at HS
          have HE := Lib.hid hE
          clear hE hde
          go_wp2_with fail
          first | rw [HW1.out, HW2.out] | skip
          refine HS.out.mono ?_
          rintro e w3 ⟨rfl, hb3⟩
          have hne : D = false := by
            rw [← HD.out]
            refine decide_eq_false (fun e => HE.out ?_)
            subst e
            rw [← HE1.out, ← HE2.out]
          have HF3 : Hid (P (.returned (.bool false)) w3) := Lib.hid (by rw [← HP.out, hne]; exact ⟨rfl, HF.out.2.trans ((HBb.out.trans (hb3.mono HBb.out.size)).mono (by have := HBw.out.size; have := HRb.out; omega))⟩)
          clear hb3 hne
          go_wp2_with fail
          exact HF3.out
      · obtain rfl : j = n1 := by omega
        have hd : decide (j < j) = false := by simp
        have hd' : decide ((j : Int) < (j : Int)) = false := by simp
        go_wp2
        rw [← HP.out]
        obtain ⟨h3, h4⟩ := HF.out
        rw [List.take_of_length_le (by rw [← HL1.out]; exact Nat.le_refl _), List.take_of_length_le (by rw [← HL2.out]; exact Nat.le_refl _)] at h3
        exact ⟨by rw [← HD.out, h3]; simp, h4⟩
  · have q1 : ((n1 : Int) != (n2 : Int)) = true := by simp; omega
    have hne : D = false := by
      rw [← hD]
      refine decide_eq_false (fun e => hnn ?_)
      rw [HL1.out, HL2.out, e]
    clear hP hD h1 h2 v1 v2 hl1 hl2 hrb
    go_enter Tryz.func47, Tryz.ntmps47
    go_wp2
    rw [← HP.out, hne]
    exact ⟨rfl, Below.refl _ _⟩
end Go.Proofs.YtohhlhnjopbmhaaGreatDoor.K

/- The contracts of snap's Same, empty and Check. -/
namespace Go.Proofs.YtohhlhnjopbmhaaGreatDoor.K
open Go.RowKit Go.Proofs.YtohhlhnjopbmhaaGreatDoor.I

theorem bytes_eqN {a b : ByteArray} (h : a.data.toList = b.data.toList) : a = b := by
  cases a; cases b
  congr 1
  exact Array.toList_inj.1 h
/-- not too much of anything -/
structure SnB (s : Sn) : Prop where
  rows : s.R.length ≤ 1000
  cells : ∀ r ∈ s.R, r.l.length ≤ 1000
  rng : ∀ r ∈ s.R, AllC Rng r.l
  beg : s.B.length ≤ 1000000
  brng : ∀ g ∈ s.B, -2147483648 ≤ g.1 ∧ g.1 ≤ 2147483647
theorem SnB.empty : SnB emptyN := ⟨Nat.zero_le _, (fun r h => by cases h), (fun r h => by cases h), Nat.zero_le _, (fun r h => by cases h)⟩
set_option maxRecDepth 100000 in
set_option maxHeartbeats 16000000 in
theorem nsame_any (s s2 : Sn) (ra : Option Addr) (rn rc : Nat) (rga : Option Addr) (rgn rgc : Nat) (qa : Option Addr) (qn qc : Nat) (qga : Option Addr) (qgn qgc : Nat) (w : World) (h1 : SnIn .i32 ra rn rc rga rgn rgc s w) (h2 : SnIn .i32 qa qn qc qga qgn qgc s2 w) (m1 : SnB s) (m2 : SnB s2) :
    Calls Tryz.prog 15 #[.agg (snA s ra rn rc rga rgn rgc), .agg (snA s2 qa qn qc qga qgn qgc)] w fun e w' => e = .returned (.bool (decide (s = s2))) ∧ Below w.heap.size w w' := by
  obtain ⟨rb, hrb⟩ : ∃ rb, w.heap.size = rb := ⟨_, rfl⟩
  obtain ⟨D, hD⟩ : ∃ D, decide (s = s2) = D := ⟨_, rfl⟩
  rw [hD]
  obtain ⟨P, hP⟩ : ∃ P : Ending → World → Prop, (fun e w' => e = .returned (.bool D) ∧ Below w.heap.size w w') = P := ⟨_, rfl⟩
  rw [hP]
  obtain ⟨w1, hw1⟩ : ∃ w1, w.alloc (.cells (snA s ra rn rc rga rgn rgc) 25) = w1 := ⟨_, rfl⟩
  obtain ⟨w2, hw2⟩ : ∃ w2, w1.alloc (.cells (snA s2 qa qn qc qga qgn qgc) 25) = w2 := ⟨_, rfl⟩
  have hs1 : w1.heap.size = rb + 1 := by rw [← hw1, World.size_alloc, hrb]
  have hb1 : Below rb w w1 := by rw [← hw1, ← hrb]; exact (Below.refl _ _).alloc (Nat.le_refl _) _
  have hb2 : Below rb w w2 := by rw [← hw2]; exact hb1.alloc (by omega) _
  have hA1 : w1.heap[rb]? = some (.cells (snA s ra rn rc rga rgn rgc) 25 (0, 0)) := by rw [← hw1, ← hrb]; exact heap_alloc_new w _
  have hA : w2.heap[rb]? = some (.cells (snA s ra rn rc rga rgn rgc) 25 (0, 0)) := by rw [← hw2, Below.heap_alloc _ _ _ (by omega)]; exact hA1
  have hB : w2.heap[rb + 1]? = some (.cells (snA s2 qa qn qc qga qgn qgc) 25 (0, 0)) := by rw [← hw2, ← hs1]; exact heap_alloc_new w1 _
  have g1 := h1.belowAll (by rw [hrb]; exact hb2)
  have g2 := h2.belowAll (by rw [hrb]; exact hb2)
  have KG := Lib.hid (equalG_any rga rgn rgc s.B qga qgn qgc s2.B w2 g1.beg g2.beg (by rw [g1.beg.len]; exact m1.beg) (by rw [g2.beg.len]; exact m2.beg))
  have KR : Hid (∀ w3, Below w2.heap.size w2 w3 → Calls Tryz.prog 47 #[.slice ra rn rc, .slice qa qn qc, .func (.func 48) #[] #[]] w3 fun e w' => e = .returned (.bool (decide (s.R = s2.R))) ∧ Below w3.heap.size w3 w') := Lib.hid (fun w3 hb => by
    have k1 := g1.rows.below hb
    have k2 := g2.rows.below hb
    have e1 := k1.len
    have e2 := k2.len
    obtain ⟨us1, i1, v1, -⟩ := k1.ex
    obtain ⟨us2, i2, v2, -⟩ := k2.ex
    exact eqRows_any w3 i1 i2 v1 v2 m1.cells m2.cells (by rw [e1]; exact m1.rows) (by rw [e2]; exact m2.rows))
  have HEnd : Hid (∀ b, (s = s2 ↔ b = true) → ∀ w3, Below w2.heap.size w2 w3 → P (.returned (.bool b)) w3) := Lib.hid (fun b hb w3 h3 => by
    rw [← hP]
    have : D = b := by rw [← hD]; cases b <;> simp_all
    rw [this]
    exact ⟨rfl, by rw [hrb]; exact hb2.trans (h3.mono hb2.size |>.mono (by have := hb2.size; omega))⟩)
  clear hP hD h1 h2 m1 m2 g1 g2 hb1 hb2 hA1
  obtain ⟨ak, aw, ah, ax, ay, at_, aR, an, ac, aB⟩ := s
  obtain ⟨bk, bw, bh, bx, bY, bt, bR, bn, bc, bB⟩ := s2
  have HBad : Hid ((⟨ak, aw, ah, ax, ay, at_, aR, an, ac, aB⟩ : Sn) ≠ ⟨bk, bw, bh, bx, bY, bt, bR, bn, bc, bB⟩ → ∀ w3, Below w2.heap.size w2 w3 → P (.returned (.bool false)) w3) := Lib.hid (fun h w3 h3 => HEnd.out false ⟨fun e => absurd e h, fun e => by cases e⟩ w3 h3)
  unfold snA at hw1 hw2 hA hB ⊢
  simp only at hw1 hw2 hA hB ⊢ KG KR
  have ca0 : w2.cell? ⟨rb, 0, none⟩ = some (.int .i64 ak) := by rw [cell_block hA]; rfl
  have ca1 : w2.cell? ⟨rb, 1, none⟩ = some (.int .i64 aw) := by rw [cell_block hA]; rfl
  have ca2 : w2.cell? ⟨rb, 2, none⟩ = some (.int .i64 ah) := by rw [cell_block hA]; rfl
  have ca3 : w2.cell? ⟨rb, 3, none⟩ = some (.int .i64 ax) := by rw [cell_block hA]; rfl
  have ca4 : w2.cell? ⟨rb, 4, none⟩ = some (.int .i64 ay) := by rw [cell_block hA]; rfl
  have ca5 : w2.cell? ⟨rb, 5, none⟩ = some (.string at_) := by rw [cell_block hA]; rfl
  have ca6 : w2.cell? ⟨rb, 6, none⟩ = some (.slice ra rn rc) := by rw [cell_block hA]; rfl
  have ca7 : w2.cell? ⟨rb, 7, none⟩ = some (.int .i64 an) := by rw [cell_block hA]; rfl
  have ca8 : w2.cell? ⟨rb, 8, none⟩ = some (.int .i64 ac) := by rw [cell_block hA]; rfl
  have ca9 : w2.cell? ⟨rb, 9, none⟩ = some (.slice rga rgn rgc) := by rw [cell_block hA]; rfl
  have cb0 : w2.cell? ⟨rb + 1, 0, none⟩ = some (.int .i64 bk) := by rw [cell_block hB]; rfl
  have cb1 : w2.cell? ⟨rb + 1, 1, none⟩ = some (.int .i64 bw) := by rw [cell_block hB]; rfl
  have cb2 : w2.cell? ⟨rb + 1, 2, none⟩ = some (.int .i64 bh) := by rw [cell_block hB]; rfl
  have cb3 : w2.cell? ⟨rb + 1, 3, none⟩ = some (.int .i64 bx) := by rw [cell_block hB]; rfl
  have cb4 : w2.cell? ⟨rb + 1, 4, none⟩ = some (.int .i64 bY) := by rw [cell_block hB]; rfl
  have cb5 : w2.cell? ⟨rb + 1, 5, none⟩ = some (.string bt) := by rw [cell_block hB]; rfl
  have cb6 : w2.cell? ⟨rb + 1, 6, none⟩ = some (.slice qa qn qc) := by rw [cell_block hB]; rfl
  have cb7 : w2.cell? ⟨rb + 1, 7, none⟩ = some (.int .i64 bn) := by rw [cell_block hB]; rfl
  have cb8 : w2.cell? ⟨rb + 1, 8, none⟩ = some (.int .i64 bc) := by rw [cell_block hB]; rfl
  have cb9 : w2.cell? ⟨rb + 1, 9, none⟩ = some (.slice qga qgn qgc) := by rw [cell_block hB]; rfl
  have HLt : Hid (rb < w2.heap.size ∧ rb + 1 < w2.heap.size) := Lib.hid ⟨(Array.getElem?_eq_some_iff.1 hA).1, (Array.getElem?_eq_some_iff.1 hB).1⟩
  have HW1 := Lib.hid hw1
  have HW2 := Lib.hid hw2
  have HRb := Lib.hid hrb
  have HS1 := Lib.hid hs1
  clear hw1 hw2 hA hB hrb hs1
  go_enter Tryz.func15, Tryz.ntmps15
  go_upto_region 1 with fail
  rw [HW1.out, HW2.out, HRb.out]
  by_cases h_k : ak = bk
  rotate_left
  · have q : (ak == bk) = false := by rw [beq_eq_false_iff_ne]; exact h_k
    have hend : Hid (P (.returned (.bool false)) w2) := Lib.hid (HBad.out (fun e => h_k (congrArg Sn.k e)) w2 (Below.refl _ _))
    clear h_k
    go_wp2_with fail
    exact hend.out
  subst h_k
  by_cases h_w : aw = bw
  rotate_left
  · have q : (aw == bw) = false := by rw [beq_eq_false_iff_ne]; exact h_w
    have hend : Hid (P (.returned (.bool false)) w2) := Lib.hid (HBad.out (fun e => h_w (congrArg Sn.w e)) w2 (Below.refl _ _))
    clear h_w
    go_wp2_with fail
    exact hend.out
  subst h_w
  by_cases h_h : ah = bh
  rotate_left
  · have q : (ah == bh) = false := by rw [beq_eq_false_iff_ne]; exact h_h
    have hend : Hid (P (.returned (.bool false)) w2) := Lib.hid (HBad.out (fun e => h_h (congrArg Sn.h e)) w2 (Below.refl _ _))
    clear h_h
    go_wp2_with fail
    exact hend.out
  subst h_h
  by_cases h_x : ax = bx
  rotate_left
  · have q : (ax == bx) = false := by rw [beq_eq_false_iff_ne]; exact h_x
    have hend : Hid (P (.returned (.bool false)) w2) := Lib.hid (HBad.out (fun e => h_x (congrArg Sn.x e)) w2 (Below.refl _ _))
    clear h_x
    go_wp2_with fail
    exact hend.out
  subst h_x
  by_cases h_y : ay = bY
  rotate_left
  · have q : (ay == bY) = false := by rw [beq_eq_false_iff_ne]; exact h_y
    have hend : Hid (P (.returned (.bool false)) w2) := Lib.hid (HBad.out (fun e => h_y (congrArg Sn.y e)) w2 (Below.refl _ _))
    clear h_y
    go_wp2_with fail
    exact hend.out
  subst h_y
  by_cases h_t : at_ = bt
  rotate_left
  · have q : (at_.toList == bt.toList) = false := by
      rw [beq_eq_false_iff_ne, ByteArray.toList_eq, ByteArray.toList_eq]
      exact fun e => h_t (bytes_eqN e)
    have hend : Hid (P (.returned (.bool false)) w2) := Lib.hid (HBad.out (fun e => h_t (congrArg Sn.t e)) w2 (Below.refl _ _))
    clear h_t
    go_wp2_with fail
    exact hend.out
  subst h_t
  by_cases h_n : an = bn
  rotate_left
  · have q : (an == bn) = false := by rw [beq_eq_false_iff_ne]; exact h_n
    have hend : Hid (P (.returned (.bool false)) w2) := Lib.hid (HBad.out (fun e => h_n (congrArg Sn.n e)) w2 (Below.refl _ _))
    clear h_n
    go_wp2_with fail
    exact hend.out
  subst h_n
  by_cases h_c : ac = bc
  rotate_left
  · have q : (ac == bc) = false := by rw [beq_eq_false_iff_ne]; exact h_c
    have hend : Hid (P (.returned (.bool false)) w2) := Lib.hid (HBad.out (fun e => h_c (congrArg Sn.c e)) w2 (Below.refl _ _))
    clear h_c
    go_wp2_with fail
    exact hend.out
  subst h_c
  have KB := KG.out
  by_cases h_B : aB = bB
  rotate_left
  · rw [decide_eq_false h_B] at KB
    have hend : Hid (∀ w3, Below w2.heap.size w2 w3 → P (.returned (.bool false)) w3) := Lib.hid (fun w3 h3 => HBad.out (fun e => h_B (congrArg Sn.B e)) w3 h3)
    have K2 := Lib.hid KB
    clear h_B KB
    go_wp2_with fail
    refine K2.out.mono ?_
    rintro e w3 ⟨rfl, h3⟩
    have h4 := hend.out w3 h3
    clear h3
    go_wp2_with fail
    exact h4
  rw [decide_eq_true h_B] at KB
  subst h_B
  have K2 := Lib.hid KB
  have HE2 : Hid (∀ w3, Below w2.heap.size w2 w3 → P (.returned (.bool (decide (aR = bR)))) w3) := Lib.hid (fun w3 h3 => HEnd.out _ (by rw [decide_eq_true_iff]; exact ⟨fun e => congrArg Sn.R e, fun e => by rw [e]⟩) w3 h3)
  clear KB
  go_wp2_with fail
  refine K2.out.mono ?_
  rintro e w3 ⟨rfl, h3⟩
  have l6 : w3.cell? ⟨rb, 6, none⟩ = some (.slice ra rn rc) := (h3.cell (p := ⟨rb, 6, none⟩) HLt.out.1).trans ca6
  have l7 : w3.cell? ⟨rb + 1, 6, none⟩ = some (.slice qa qn qc) := (h3.cell (p := ⟨rb + 1, 6, none⟩) HLt.out.2).trans cb6
  have K3 := Lib.hid (KR.out w3 h3)
  have H3 := Lib.hid h3
  clear h3 ca0 ca1 ca2 ca3 ca4 ca5 ca6 ca7 ca8 ca9 cb0 cb1 cb2 cb3 cb4 cb5 cb6 cb7 cb8 cb9
  go_wp2_with fail
  refine K3.out.mono ?_
  rintro e w4 ⟨rfl, h4⟩
  have hend := HE2.out w4 (H3.out.trans (h4.mono H3.out.size))
  generalize decide (aR = bR) = D2 at hend
  clear h4 l6 l7
  cases D2
  · go_wp2_with fail
    exact hend
  · go_wp2_with fail
    exact hend
end Go.Proofs.YtohhlhnjopbmhaaGreatDoor.K
