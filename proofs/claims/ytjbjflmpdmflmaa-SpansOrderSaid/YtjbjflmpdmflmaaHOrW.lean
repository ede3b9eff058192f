/- SpansOrder: in whatever order spans are added, there are the same numbers. -/
import Derived.Test.YtjbjflmpdmflmaaHTwo
import Derived.Test.YtjbjflmpdmflmaaRelV
import Derived.Test.YtjbjflmpdmflmaaRelP
namespace Go.Proofs.Ytjbjflmpdmflmaa.H
open Go.RowKit

def OrOkF (g m c1 g2 c2 : Nat) (x1 x2 : Int) : Nat → Value → World → Prop
  | 0, u, _ => u = .slice (some ⟨g, 0, none⟩) m c1
  | 1, u, _ => u = .int .i64 0
  | 2, u, _ => u = .pointer (some ⟨g, 0, none⟩)
  | 3, u, _ => u = .agg #[.int .i64 x1, .int .i64 x2]
  | 4, u, _ => u = .slice (some ⟨g2, 0, none⟩) m c2
  | 5, u, _ => u = .int .i64 0
  | 6, u, _ => u = .pointer (some ⟨g2, 0, none⟩)
  | 7, u, _ => u = .agg #[.int .i64 x1, .int .i64 x2]
  | 8, u, _ => u = .bool false
  | 9, u, _ => u = .bool false
  | 10, u, _ => u = .slice (some ⟨g, 0, none⟩) m c1
  | 11, u, _ => u = .int .i64 0
  | 12, u, _ => u = .pointer (some ⟨g, 0, none⟩)
  | 13, u, _ => u = .pointer (some ⟨g, 1, none⟩)
  | 14, u, _ => u = .int .i64 x2
  | 15, u, _ => u = .slice (some ⟨g, 0, none⟩) m c1
  | 16, u, _ => u = .int .i64 0
  | 17, u, _ => u = .pointer (some ⟨g, 0, none⟩)
  | 18, u, _ => u = .pointer (some ⟨g, 0, none⟩)
  | 19, u, _ => u = .int .i64 x1
  | 20, u, _ => u = .bool false
  | 21, u, _ => u = .bool false
  | 22, u, _ => u = .bool false
  | 23, u, _ => u = .int .i64 0
  | 24, u, _ => u = .bool false
  | 25, u, _ => u = .bool false
  | 26, _, _ => True
  | 27, _, _ => True
  | 28, _, _ => True
  | 29, _, _ => True
  | 30, _, _ => True
  | 31, _, _ => True
  | 32, _, _ => True
  | 33, _, _ => True
  | 34, _, _ => True
  | 35, _, _ => True
  | 36, _, _ => True
  | 37, _, _ => True
  | 38, u, _ => u = .bool false
  | 39, u, _ => u = .bool false
  | _, _, _ => True
def OrOkR (g m c1 g2 c2 j j0 : Nat) (x1 x2 y2 : Int) : Nat → Value → World → Prop
  | 0, u, _ => u = .slice (some ⟨g, 0, none⟩) m c1
  | 1, u, _ => u = .int .i64 (j : Int)
  | 2, u, _ => u = .pointer (some ⟨g, j * 2, none⟩)
  | 3, u, _ => u = .agg #[.int .i64 x1, .int .i64 x2]
  | 4, u, _ => u = .slice (some ⟨g2, 0, none⟩) m c2
  | 5, u, _ => u = .int .i64 (j : Int)
  | 6, u, _ => u = .pointer (some ⟨g2, j * 2, none⟩)
  | 7, u, _ => u = .agg #[.int .i64 x1, .int .i64 x2]
  | 8, u, _ => u = .bool false
  | 9, u, _ => u = .bool false
  | 10, u, _ => u = .slice (some ⟨g, 0, none⟩) m c1
  | 11, u, _ => u = .int .i64 (j : Int)
  | 12, u, _ => u = .pointer (some ⟨g, j * 2, none⟩)
  | 13, u, _ => u = .pointer (some ⟨g, j * 2 + 1, none⟩)
  | 14, u, _ => u = .int .i64 x2
  | 15, u, _ => u = .slice (some ⟨g, 0, none⟩) m c1
  | 16, u, _ => u = .int .i64 (j : Int)
  | 17, u, _ => u = .pointer (some ⟨g, j * 2, none⟩)
  | 18, u, _ => u = .pointer (some ⟨g, j * 2, none⟩)
  | 19, u, _ => u = .int .i64 x1
  | 20, u, _ => u = .bool false
  | 21, u, _ => u = .bool false
  | 22, u, _ => u = .bool false
  | 23, u, _ => u = .int .i64 (j : Int)
  | 24, u, _ => u = .bool true
  | 25, u, _ => u = .bool true
  | 26, u, _ => u = .slice (some ⟨g, 0, none⟩) m c1
  | 27, u, _ => u = .int .i64 (j : Int)
  | 28, u, _ => u = .pointer (some ⟨g, j * 2, none⟩)
  | 29, u, _ => u = .pointer (some ⟨g, j * 2, none⟩)
  | 30, u, _ => u = .int .i64 x1
  | 31, u, _ => u = .slice (some ⟨g, 0, none⟩) m c1
  | 32, u, _ => u = .int .i64 (j : Int)
  | 33, u, _ => u = .int .i64 (j0 : Int)
  | 34, u, _ => u = .pointer (some ⟨g, j0 * 2, none⟩)
  | 35, u, _ => u = .pointer (some ⟨g, j0 * 2 + 1, none⟩)
  | 36, u, _ => u = .int .i64 y2
  | 37, u, _ => u = .bool false
  | 38, u, _ => u = .bool false
  | 39, u, _ => u = .bool false
  | _, _, _ => True
theorem order_same (l : List Sp) : addsS [] l.reverse = addsS [] l :=
  Nm.ext (Nm.nil.adds _) (Nm.nil.adds _) fun n => by rw [addsS_mem n _ _ Nm.nil, addsS_mem n _ _ Nm.nil]; simp
set_option maxRecDepth 100000 in
set_option maxHeartbeats 8000000 in
theorem order_walk (a : Option Addr) (n c : Nat) (l : List Sp) (W : World) (h : PairsIn .i64 a n c l W) :
    Calls Try.prog 5 #[.slice a n c] W (BPost true W) := by
  obtain ⟨P, hP⟩ : ∃ P, BPost true W = P := ⟨_, rfl⟩
  rw [hP]
  have HP := Lib.hid hP
  obtain ⟨N, hN⟩ : ∃ N, min n 20 = N := ⟨_, rfl⟩
  have hNn : N ≤ n := by omega
  have hN20 : N ≤ 20 := by omega
  have hnc := h.fit
  have htop := h.top
  have hmin : min (n : Int) 20 = (N : Int) := by omega
  obtain ⟨L, hL⟩ : ∃ L, l.take N = L := ⟨_, rfl⟩
  have hF := h.front hNn
  rw [hL] at hF
  have HF := Lib.hid hF
  have HLn : Hid (L.length = N) := Lib.hid hF.len.symm
  have HA := Lib.hid (awake_any W)
  clear hP h hL hF
  go_enter Try.func5, Try.ntmps5
  go_wp2_with fail
  refine HA.out.mono ?_
  rintro e W1 ⟨rfl, hb1⟩
  obtain ⟨s, hs⟩ : ∃ s, s = W1.heap.size := ⟨_, rfl⟩
  obtain ⟨W2, hW2⟩ : ∃ W2, W2 = (W1.alloc (.cells #[.slice none 0 0] 28)).alloc (.cells #[.slice none 0 0] 28) := ⟨_, rfl⟩
  have h2 : Two s (s + 1) [] [] W1 W2 := by rw [hW2, hs]; exact Two.new W1 _ rfl
  have HT := Lib.hid h2
  have HS := Lib.hid hs
  have HW := Lib.hid hW2
  have HB1 := Lib.hid hb1
  clear h2 hs hW2 hb1 HA
  go_wp2_with fail
  rw [← HW.out, ← HS.out]
  clear hmin hNn hnc
  go_loopw [18] (fun i wr => ∃ k : Nat, i = .int .i64 (k : Int) ∧ k ≤ N ∧ Hid (Two s (s + 1) (addsS [] (L.take k)) (addsS [] (L.reverse.take k)) W1 wr)) (fun i _ => N - (intOf i).toNat)
  case atStart => exact ⟨0, rfl, by omega, HT⟩
  case round =>
    rename_i wr
    obtain ⟨k, rfl, hk, HF2⟩ := hrel
    clear HT HW
    by_cases hlt : k < N
    · have hd : decide (k < N) = true := decide_eq_true hlt
      have hkI : (k : Int) < N := by omega
      obtain ⟨k2, hk2⟩ : ∃ k2, N - 1 - k = k2 := ⟨_, rfl⟩
      have hk2I : (N : Int) - 1 - (k : Int) = (k2 : Int) := by omega
      have hk2N : k2 < N := by omega
      have hk2NI : (k2 : Int) < N := by omega
      have hb2 : Below W.heap.size W wr := HB1.out.trans (HF2.out.bel.mono HB1.out.size)
      obtain ⟨g, off, x, rfl, hg, hx, k0w, k1w⟩ := HF.out.one hlt
      obtain ⟨g', off', y, hgo, hg', hy, k0', k1'⟩ := HF.out.one hk2N
      obtain ⟨rfl, rfl⟩ : g = g' ∧ off = off' := by injection hgo with e; injection e with e1 e2; exact ⟨e1, e2⟩
      have k0 := (hb2.cell (p := ⟨g, off + k * 2, none⟩) hg).trans k0w
      have k1 := (hb2.cell (p := ⟨g, off + k * 2 + 1, none⟩) hg).trans k1w
      clear k0w k1w
      obtain ⟨x1, x2⟩ := x
      obtain ⟨y1, y2⟩ := y
      simp only at k0 k1 k0' k1'
      have hry : L.reverse[k]? = some (y1, y2) := by rw [List.getElem?_reverse (by rw [HLn.out]; exact hlt), HLn.out, hk2]; exact hy
      have HX1 := Lib.hid (addsS_take L k _ hx)
      have HX2 := Lib.hid (addsS_take L.reverse k _ hry)
      have hl1 : (addsS [] (L.take k)).length < 100000 := by have := addsS_len [] (L.take k); simp at this; omega
      have hl2 : (addsS [] (L.reverse.take k)).length < 100000 := by have := addsS_len [] (L.reverse.take k); simp at this; omega
      obtain ⟨s1, hs1⟩ : ∃ s1, wr.heap.size = s1 := ⟨_, rfl⟩
      have HC1 := Lib.hid (HF2.out.act fun M hM => add_one x1 x2 hM (Nm.nil.adds _) hl1 s1 hs1)
      have HS1 := Lib.hid hs1
      have HG := Lib.hid hg
      have HY := Lib.hid (And.intro k0' k1')
      have HL2 := Lib.hid hl2
      clear hb2 hx hy hry hl1 hl2 hs1 hg hg' k0' k1' hgo hk2
      go_wp2_with fail
      rw [HS1.out]
      refine HC1.out.mono ?_
      rintro e w3 ⟨rfl, h3⟩
      have hb3 : Below W.heap.size W w3 := HB1.out.trans (h3.bel.mono HB1.out.size)
      rw [← HX1.out] at h3
      have k0 : w3.cell? ⟨g, off + k2 * 2, none⟩ = some (.int .i64 y1) := (hb3.cell HG.out).trans HY.out.1
      have k1 : w3.cell? ⟨g, off + k2 * 2 + 1, none⟩ = some (.int .i64 y2) := (hb3.cell HG.out).trans HY.out.2
      obtain ⟨s3, hs3⟩ : ∃ s3, w3.heap.size = s3 := ⟨_, rfl⟩
      have HC2 := Lib.hid (h3.swap.act fun M hM => add_one y1 y2 hM (Nm.nil.adds _) HL2.out s3 hs3)
      have HS3 := Lib.hid hs3
      clear hb3 h3 hs3 HC1 HS1 HX1 HY HL2 HG
      go_wp2_with fail
      rw [HS3.out]
      refine HC2.out.mono ?_
      rintro e w4 ⟨rfl, h4⟩
      rw [← HX2.out] at h4
      have H4 := Lib.hid h4.swap
      clear h4 HC2 HS3 HX2
      go_wp2_with fail
      go_roundw
      case rel => exact ⟨k + 1, by go_num, by omega, H4⟩
      case measure => simp [intOf]; omega
    · have hd : decide (k < N) = false := decide_eq_false hlt
      obtain rfl : k = N := by omega
      have e1 : L.take k = L := List.take_of_length_le (by rw [HLn.out]; exact Nat.le_refl _)
      have e2 : L.reverse.take k = L.reverse := List.take_of_length_le (by rw [List.length_reverse, HLn.out]; exact Nat.le_refl _)
      have hT := HF2.out
      rw [e1, e2, order_same] at hT
      have hll : (addsS [] L).length ≤ 100000 := by have := addsS_len [] L; rw [HLn.out] at this; simp at this; omega
      have hln : (addsS [] L).length ≤ 1000 := by have := addsS_len [] L; rw [HLn.out] at this; simp at this; omega
      have hNm : Nm (addsS [] L) := Nm.nil.adds _
      obtain ⟨O, hO⟩ : ∃ O, addsS [] L = O := ⟨_, rfl⟩
      rw [hO] at hT hll hNm hln
      obtain ⟨m, hm⟩ : ∃ m, O.length = m := ⟨_, rfl⟩
      have HNm := Lib.hid hNm
      have HT := Lib.hid hT
      have HLl := Lib.hid hll
      have HM := Lib.hid hm
      have HC1 := Lib.hid (hT.see fun M hM => stspans_any hM hll)
      rw [hm] at hln
      clear hT hll hNm hO hm e1 e2 HF2 hlt HF HLn hN20 hd hk hN
      go_wp2_with fail
      refine HC1.out.mono ?_
      rintro e w3 ⟨v1, rfl, ho1, hb3⟩
      have hT3 := HT.out.below hb3
      have HC2 := Lib.hid (hT3.swap.see fun M hM => stspans_any hM HLl.out)
      have HO1 := Lib.hid ho1
      have HT3 := Lib.hid hT3
      clear ho1 hb3 hT3 HC1 HT
      go_wp2_with fail
      refine HC2.out.mono ?_
      rintro e w4 ⟨v2, rfl, ho2, hb4⟩
      have ho1 := HO1.out.belowAll hb4
      obtain ⟨a1, c1, rfl, hI1, hA1, -⟩ := ho1.shape
      obtain ⟨a2, c2, rfl, hI2, hA2, -⟩ := ho2.shape
      rw [HM.out] at hI1 hI2 ⊢
      have HI1 := Lib.hid hI1
      have HI2 := Lib.hid hI2
      have hA1' := hA1
      have hA2' := hA2
      have HA1 : Hid (∀ b off, a1 = some ⟨b, off, none⟩ → off = 0) := Lib.hid fun b off e => (hA1 b off e).2.2
      have HA2 : Hid (∀ b off, a2 = some ⟨b, off, none⟩ → off = 0) := Lib.hid fun b off e => (hA2 b off e).2.2
      have hT4 := HT3.out.below hb4
      have HL1 := Lib.hid (hT4.see fun M hM => stlen_any hM HNm.out HLl.out)
      have HT4 := Lib.hid hT4
      have q1 : ((m : Int) != (m : Int)) = false := by simp
      clear ho1 ho2 hb4 hI1 hI2 hA1 hA2 hA1' hA2' hT4 HC2 HO1 HT3
      go_wp2_with fail
      refine HL1.out.mono ?_
      rintro e w5 ⟨rfl, hb5⟩
      have hT5 := HT4.out.below hb5
      have HL2 := Lib.hid (hT5.swap.see fun M hM => stlen_any hM HNm.out HLl.out)
      have HB5 := Lib.hid hb5
      have HT5 := Lib.hid hT5
      clear hb5 hT5 HL1 q1
      go_wp2_with fail
      refine HL2.out.mono ?_
      rintro e w6 ⟨rfl, hb6⟩
      have HB6 : Hid (Below w4.heap.size w4 w6) := Lib.hid (HB5.out.trans (hb6.mono HB5.out.size))
      have q1 : (tot O != tot O) = false := by simp
      have HBE : Hid (Below W.heap.size W w4) := Lib.hid (HB1.out.trans (HT4.out.bel.mono HB1.out.size))
      clear hb6 HL2 HB5 HT5
      go_wp2_with fail
      clear q1
      go_loopw [52] (fun i wr => ∃ j : Nat, i = .int .i64 (j : Int) ∧ j ≤ m ∧ Hid (Below w4.heap.size w4 wr)) (fun i _ => m - (intOf i).toNat)
      case atStart => exact ⟨0, rfl, by omega, HB6⟩
      case round =>
        rename_i wr2
        obtain ⟨j, rfl, hj, HF⟩ := hrel
        clear HB6
        by_cases hlt : j < m
        · have hd : decide (j < m) = true := decide_eq_true hlt
          have hjI : (j : Int) < m := by omega
          obtain ⟨g, off, x, rfl, hg1, hx, k0, k1⟩ := HI1.out.one hlt
          obtain ⟨g2, off2, x', rfl, hg2, hx', k0', k1'⟩ := HI2.out.one hlt
          obtain rfl := HA1.out _ _ rfl
          obtain rfl := HA2.out _ _ rfl
          obtain rfl : x = x' := by rw [hx] at hx'; injection hx'
          have hfull := HNm.out.1.full j x hx
          obtain ⟨x1, x2⟩ := x
          simp only at hfull k0 k1 k0' k1'
          have q1 : decide (x2 ≤ x1) = false := decide_eq_false (by omega)
          rw [Nat.zero_add] at k0 k1 k0' k1'
          rcases j with _ | j0
          · have L0 := Lib.hid (show w4.cell? ⟨g, 0, none⟩ = some (.int .i64 x1) ∧ w4.cell? ⟨g, 1, none⟩ = some (.int .i64 x2) from ⟨by simpa using k0, by simpa using k1⟩)
            have M0 := Lib.hid (show w4.cell? ⟨g2, 0, none⟩ = some (.int .i64 x1) ∧ w4.cell? ⟨g2, 1, none⟩ = some (.int .i64 x2) from ⟨by simpa using k0', by simpa using k1'⟩)
            have hm0 : 0 < m := hlt
            clear hx hx' hfull k0 k1 k0' k1'
            go_upto_region 17 with fail
            rw [show ((0 : Nat) : Int) = 0 from rfl]
            refine Go.Proofs.Ytjbjflmpdmflmaa.R.wp_region_prog [] (by kernel_rfl) (fun _ _ u => Below w4.heap.size w4 u) (fun a b => Below a.heap.size a b) (OrOkF g m c1 g2 c2 x1 x2) (by rfl) (by kernel_rfl) (by kernel_rfl) (by kernel_rfl) ?hcong ?hOk ?hop ?hdone ?h0
            case hcong => intro k f f2 u hs hst; exact hst
            case hOk => intro i u w1 w2 h hr; unfold OrOkF at h ⊢; split at h <;> exact h
            case h0 => exact HF.out.trans (((Below.refl _ _).drew).mono HF.out.size)
            case hop =>
              refine ⟨?_, ?_, ?_, ?_, ?_, ?_, ?_, ?_, ?_, ?_, ?_, ?_, ?_, ?_, ?_, ?_, ?_, ?_, ?_, ?_, ?_, ?_, ?_, ?_, ?_, ?_, ?_, ?_, ?_, ?_, ?_, ?_, ?_, ?_, ?_, ?_, ?_, ?_, ?_, ?_, trivial⟩
              · intro k z v hst hag hdep
                refine .inl ⟨rfl, fun K hK => ?_⟩
                have d6 : z.tmps.getD 6 undef = .slice (some ⟨g, 0, none⟩) m c1 := hag.2.2 6 (by kernel_rfl)
                have e6 := d6
                rw [Array.getD_eq_getD_getElem?] at e6
                have HSt := Lib.hid hst
                clear hdep hag hst
                go_simp
                exact hK _ _ (Below.refl _ _) rfl HSt.out
              · intro k z v hst hag hdep
                refine .inl ⟨rfl, fun K hK => ?_⟩
                have d8 : z.tmps.getD 8 undef = .int .i64 0 := hag.2.2 8 (by kernel_rfl)
                have e8 := d8
                rw [Array.getD_eq_getD_getElem?] at e8
                have HSt := Lib.hid hst
                clear hdep hag hst
                go_simp
                exact hK _ _ (Below.refl _ _) rfl HSt.out
              · intro k z v hst hag hdep
                refine .inl ⟨rfl, fun K hK => ?_⟩
                have d55 : z.tmps.getD 55 undef = .slice (some ⟨g, 0, none⟩) m c1 := hdep { on := 0, ground := .data } (by simp) rfl _ _ rfl rfl
                have e55 := d55
                rw [Array.getD_eq_getD_getElem?] at e55
                have d56 : z.tmps.getD 56 undef = .int .i64 0 := hdep { on := 1, ground := .data } (by simp) rfl _ _ rfl rfl
                have e56 := d56
                rw [Array.getD_eq_getD_getElem?] at e56
                have HSt := Lib.hid hst
                clear hdep hag hst
                go_simp
                exact hK _ _ (Below.refl _ _) rfl HSt.out
              · intro k z v hst hag hdep
                refine .inl ⟨rfl, fun K hK => ?_⟩
                have d57 : z.tmps.getD 57 undef = .pointer (some ⟨g, 0, none⟩) := hdep { on := 2, ground := .data } (by simp) rfl _ _ rfl rfl
                have e57 := d57
                rw [Array.getD_eq_getD_getElem?] at e57
                have hst : Below w4.heap.size w4 v := hst
                have l0 := (hst.cell hg1).trans L0.out.1
                have l1 := (hst.cell hg1).trans L0.out.2
                have HSt := Lib.hid hst
                clear hdep hag hst
                go_simp
                exact hK _ _ (Below.refl _ _) rfl HSt.out
              · intro k z v hst hag hdep
                refine .inl ⟨rfl, fun K hK => ?_⟩
                have d7 : z.tmps.getD 7 undef = .slice (some ⟨g2, 0, none⟩) m c2 := hag.2.2 7 (by kernel_rfl)
                have e7 := d7
                rw [Array.getD_eq_getD_getElem?] at e7
                have HSt := Lib.hid hst
                clear hdep hag hst
                go_simp
                exact hK _ _ (Below.refl _ _) rfl HSt.out
              · intro k z v hst hag hdep
                refine .inl ⟨rfl, fun K hK => ?_⟩
                have d8 : z.tmps.getD 8 undef = .int .i64 0 := hag.2.2 8 (by kernel_rfl)
                have e8 := d8
                rw [Array.getD_eq_getD_getElem?] at e8
                have HSt := Lib.hid hst
                clear hdep hag hst
                go_simp
                exact hK _ _ (Below.refl _ _) rfl HSt.out
              · intro k z v hst hag hdep
                refine .inl ⟨rfl, fun K hK => ?_⟩
                have d59 : z.tmps.getD 59 undef = .slice (some ⟨g2, 0, none⟩) m c2 := hdep { on := 4, ground := .data } (by simp) rfl _ _ rfl rfl
                have e59 := d59
                rw [Array.getD_eq_getD_getElem?] at e59
                have d60 : z.tmps.getD 60 undef = .int .i64 0 := hdep { on := 5, ground := .data } (by simp) rfl _ _ rfl rfl
                have e60 := d60
                rw [Array.getD_eq_getD_getElem?] at e60
                have HSt := Lib.hid hst
                clear hdep hag hst
                go_simp
                exact hK _ _ (Below.refl _ _) rfl HSt.out
              · intro k z v hst hag hdep
                refine .inl ⟨rfl, fun K hK => ?_⟩
                have d61 : z.tmps.getD 61 undef = .pointer (some ⟨g2, 0, none⟩) := hdep { on := 6, ground := .data } (by simp) rfl _ _ rfl rfl
                have e61 := d61
                rw [Array.getD_eq_getD_getElem?] at e61
                have hst : Below w4.heap.size w4 v := hst
                have l0 := (hst.cell hg2).trans M0.out.1
                have l1 := (hst.cell hg2).trans M0.out.2
                have HSt := Lib.hid hst
                clear hdep hag hst
                go_simp
                exact hK _ _ (Below.refl _ _) rfl HSt.out
              · intro k z v hst hag hdep
                refine .inl ⟨rfl, fun K hK => ?_⟩
                have d58 : z.tmps.getD 58 undef = .agg #[.int .i64 x1, .int .i64 x2] := hdep { on := 3, ground := .data } (by simp) rfl _ _ rfl rfl
                have e58 := d58
                rw [Array.getD_eq_getD_getElem?] at e58
                have d62 : z.tmps.getD 62 undef = .agg #[.int .i64 x1, .int .i64 x2] := hdep { on := 7, ground := .data } (by simp) rfl _ _ rfl rfl
                have e62 := d62
                rw [Array.getD_eq_getD_getElem?] at e62
                have HSt := Lib.hid hst
                clear hdep hag hst
                go_simp
                exact hK _ _ (Below.refl _ _) rfl HSt.out
              · intro k z v hst hag hdep
                refine .inl ⟨rfl, fun K hK => ?_⟩
                have d63 : z.tmps.getD 63 undef = .bool false := hdep { on := 8, ground := .data } (by simp) rfl _ _ rfl rfl
                have e63 := d63
                rw [Array.getD_eq_getD_getElem?] at e63
                have HSt := Lib.hid hst
                clear hdep hag hst
                go_simp
                exact hK _ _ (Below.refl _ _) rfl HSt.out
              · intro k z v hst hag hdep
                have dg : OrOkF g m c1 g2 c2 x1 x2 9 (z.tmps.getD 64 undef) v := hdep { on := 9, ground := .guard } (by simp) rfl _ _ rfl rfl
                simp only [OrOkF] at dg
                refine .inl ⟨Go.Proofs.Ytjbjflmpdmflmaa.R.wanted_of (j := 9) rfl rfl rfl dg (by rw [hag.2.1]; show 64 < 96; decide), fun K hK => ?_⟩
                have d6 : z.tmps.getD 6 undef = .slice (some ⟨g, 0, none⟩) m c1 := hag.2.2 6 (by kernel_rfl)
                have e6 := d6
                rw [Array.getD_eq_getD_getElem?] at e6
                have HSt := Lib.hid hst
                clear hdep hag hst
                go_simp
                exact hK _ _ (Below.refl _ _) rfl HSt.out
              · intro k z v hst hag hdep
                have dg : OrOkF g m c1 g2 c2 x1 x2 9 (z.tmps.getD 64 undef) v := hdep { on := 9, ground := .guard } (by simp) rfl _ _ rfl rfl
                simp only [OrOkF] at dg
                refine .inl ⟨Go.Proofs.Ytjbjflmpdmflmaa.R.wanted_of (j := 9) rfl rfl rfl dg (by rw [hag.2.1]; show 64 < 96; decide), fun K hK => ?_⟩
                have d8 : z.tmps.getD 8 undef = .int .i64 0 := hag.2.2 8 (by kernel_rfl)
                have e8 := d8
                rw [Array.getD_eq_getD_getElem?] at e8
                have HSt := Lib.hid hst
                clear hdep hag hst
                go_simp
                exact hK _ _ (Below.refl _ _) rfl HSt.out
              · intro k z v hst hag hdep
                have dg : OrOkF g m c1 g2 c2 x1 x2 9 (z.tmps.getD 64 undef) v := hdep { on := 9, ground := .guard } (by simp) rfl _ _ rfl rfl
                simp only [OrOkF] at dg
                refine .inl ⟨Go.Proofs.Ytjbjflmpdmflmaa.R.wanted_of (j := 9) rfl rfl rfl dg (by rw [hag.2.1]; show 64 < 96; decide), fun K hK => ?_⟩
                have d65 : z.tmps.getD 65 undef = .slice (some ⟨g, 0, none⟩) m c1 := hdep { on := 10, ground := .data } (by simp) rfl _ _ rfl rfl
                have e65 := d65
                rw [Array.getD_eq_getD_getElem?] at e65
                have d66 : z.tmps.getD 66 undef = .int .i64 0 := hdep { on := 11, ground := .data } (by simp) rfl _ _ rfl rfl
                have e66 := d66
                rw [Array.getD_eq_getD_getElem?] at e66
                have HSt := Lib.hid hst
                clear hdep hag hst
                go_simp
                exact hK _ _ (Below.refl _ _) rfl HSt.out
              · intro k z v hst hag hdep
                have dg : OrOkF g m c1 g2 c2 x1 x2 9 (z.tmps.getD 64 undef) v := hdep { on := 9, ground := .guard } (by simp) rfl _ _ rfl rfl
                simp only [OrOkF] at dg
                refine .inl ⟨Go.Proofs.Ytjbjflmpdmflmaa.R.wanted_of (j := 9) rfl rfl rfl dg (by rw [hag.2.1]; show 64 < 96; decide), fun K hK => ?_⟩
                have d67 : z.tmps.getD 67 undef = .pointer (some ⟨g, 0, none⟩) := hdep { on := 12, ground := .data } (by simp) rfl _ _ rfl rfl
                have e67 := d67
                rw [Array.getD_eq_getD_getElem?] at e67
                have HSt := Lib.hid hst
                clear hdep hag hst
                go_simp
                exact hK _ _ (Below.refl _ _) rfl HSt.out
              · intro k z v hst hag hdep
                have dg : OrOkF g m c1 g2 c2 x1 x2 9 (z.tmps.getD 64 undef) v := hdep { on := 9, ground := .guard } (by simp) rfl _ _ rfl rfl
                simp only [OrOkF] at dg
                refine .inl ⟨Go.Proofs.Ytjbjflmpdmflmaa.R.wanted_of (j := 9) rfl rfl rfl dg (by rw [hag.2.1]; show 64 < 96; decide), fun K hK => ?_⟩
                have d68 : z.tmps.getD 68 undef = .pointer (some ⟨g, 1, none⟩) := hdep { on := 13, ground := .data } (by simp) rfl _ _ rfl rfl
                have e68 := d68
                rw [Array.getD_eq_getD_getElem?] at e68
                have hst : Below w4.heap.size w4 v := hst
                have l0 := (hst.cell hg1).trans L0.out.1
                have l1 := (hst.cell hg1).trans L0.out.2
                have HSt := Lib.hid hst
                clear hdep hag hst
                go_simp
                exact hK _ _ (Below.refl _ _) rfl HSt.out
              · intro k z v hst hag hdep
                have dg : OrOkF g m c1 g2 c2 x1 x2 9 (z.tmps.getD 64 undef) v := hdep { on := 9, ground := .guard } (by simp) rfl _ _ rfl rfl
                simp only [OrOkF] at dg
                refine .inl ⟨Go.Proofs.Ytjbjflmpdmflmaa.R.wanted_of (j := 9) rfl rfl rfl dg (by rw [hag.2.1]; show 64 < 96; decide), fun K hK => ?_⟩
                have d6 : z.tmps.getD 6 undef = .slice (some ⟨g, 0, none⟩) m c1 := hag.2.2 6 (by kernel_rfl)
                have e6 := d6
                rw [Array.getD_eq_getD_getElem?] at e6
                have HSt := Lib.hid hst
                clear hdep hag hst
                go_simp
                exact hK _ _ (Below.refl _ _) rfl HSt.out
              · intro k z v hst hag hdep
                have dg : OrOkF g m c1 g2 c2 x1 x2 9 (z.tmps.getD 64 undef) v := hdep { on := 9, ground := .guard } (by simp) rfl _ _ rfl rfl
                simp only [OrOkF] at dg
                refine .inl ⟨Go.Proofs.Ytjbjflmpdmflmaa.R.wanted_of (j := 9) rfl rfl rfl dg (by rw [hag.2.1]; show 64 < 96; decide), fun K hK => ?_⟩
                have d8 : z.tmps.getD 8 undef = .int .i64 0 := hag.2.2 8 (by kernel_rfl)
                have e8 := d8
                rw [Array.getD_eq_getD_getElem?] at e8
                have HSt := Lib.hid hst
                clear hdep hag hst
                go_simp
                exact hK _ _ (Below.refl _ _) rfl HSt.out
              · intro k z v hst hag hdep
                have dg : OrOkF g m c1 g2 c2 x1 x2 9 (z.tmps.getD 64 undef) v := hdep { on := 9, ground := .guard } (by simp) rfl _ _ rfl rfl
                simp only [OrOkF] at dg
                refine .inl ⟨Go.Proofs.Ytjbjflmpdmflmaa.R.wanted_of (j := 9) rfl rfl rfl dg (by rw [hag.2.1]; show 64 < 96; decide), fun K hK => ?_⟩
                have d70 : z.tmps.getD 70 undef = .slice (some ⟨g, 0, none⟩) m c1 := hdep { on := 15, ground := .data } (by simp) rfl _ _ rfl rfl
                have e70 := d70
                rw [Array.getD_eq_getD_getElem?] at e70
                have d71 : z.tmps.getD 71 undef = .int .i64 0 := hdep { on := 16, ground := .data } (by simp) rfl _ _ rfl rfl
                have e71 := d71
                rw [Array.getD_eq_getD_getElem?] at e71
                have HSt := Lib.hid hst
                clear hdep hag hst
                go_simp
                exact hK _ _ (Below.refl _ _) rfl HSt.out
              · intro k z v hst hag hdep
                have dg : OrOkF g m c1 g2 c2 x1 x2 9 (z.tmps.getD 64 undef) v := hdep { on := 9, ground := .guard } (by simp) rfl _ _ rfl rfl
                simp only [OrOkF] at dg
                refine .inl ⟨Go.Proofs.Ytjbjflmpdmflmaa.R.wanted_of (j := 9) rfl rfl rfl dg (by rw [hag.2.1]; show 64 < 96; decide), fun K hK => ?_⟩
                have d72 : z.tmps.getD 72 undef = .pointer (some ⟨g, 0, none⟩) := hdep { on := 17, ground := .data } (by simp) rfl _ _ rfl rfl
                have e72 := d72
                rw [Array.getD_eq_getD_getElem?] at e72
                have HSt := Lib.hid hst
                clear hdep hag hst
                go_simp
                exact hK _ _ (Below.refl _ _) rfl HSt.out
              · intro k z v hst hag hdep
                have dg : OrOkF g m c1 g2 c2 x1 x2 9 (z.tmps.getD 64 undef) v := hdep { on := 9, ground := .guard } (by simp) rfl _ _ rfl rfl
                simp only [OrOkF] at dg
                refine .inl ⟨Go.Proofs.Ytjbjflmpdmflmaa.R.wanted_of (j := 9) rfl rfl rfl dg (by rw [hag.2.1]; show 64 < 96; decide), fun K hK => ?_⟩
                have d73 : z.tmps.getD 73 undef = .pointer (some ⟨g, 0, none⟩) := hdep { on := 18, ground := .data } (by simp) rfl _ _ rfl rfl
                have e73 := d73
                rw [Array.getD_eq_getD_getElem?] at e73
                have hst : Below w4.heap.size w4 v := hst
                have l0 := (hst.cell hg1).trans L0.out.1
                have l1 := (hst.cell hg1).trans L0.out.2
                have HSt := Lib.hid hst
                clear hdep hag hst
                go_simp
                exact hK _ _ (Below.refl _ _) rfl HSt.out
              · intro k z v hst hag hdep
                have dg : OrOkF g m c1 g2 c2 x1 x2 9 (z.tmps.getD 64 undef) v := hdep { on := 9, ground := .guard } (by simp) rfl _ _ rfl rfl
                simp only [OrOkF] at dg
                refine .inl ⟨Go.Proofs.Ytjbjflmpdmflmaa.R.wanted_of (j := 9) rfl rfl rfl dg (by rw [hag.2.1]; show 64 < 96; decide), fun K hK => ?_⟩
                have d69 : z.tmps.getD 69 undef = .int .i64 x2 := hdep { on := 14, ground := .data } (by simp) rfl _ _ rfl rfl
                have e69 := d69
                rw [Array.getD_eq_getD_getElem?] at e69
                have d74 : z.tmps.getD 74 undef = .int .i64 x1 := hdep { on := 19, ground := .data } (by simp) rfl _ _ rfl rfl
                have e74 := d74
                rw [Array.getD_eq_getD_getElem?] at e74
                have HSt := Lib.hid hst
                clear hdep hag hst
                go_simp
                exact hK _ _ (Below.refl _ _) rfl HSt.out
              · intro k z v hst hag hdep
                refine .inl ⟨rfl, fun K hK => ?_⟩
                have d64 : z.tmps.getD 64 undef = .bool false := hdep { on := 9, ground := .data } (by simp) rfl _ _ rfl rfl
                have e64 := d64
                rw [Array.getD_eq_getD_getElem?] at e64
                have d75 : z.tmps.getD 75 undef = .bool false := hdep { on := 20, ground := .data } (by simp) rfl _ _ rfl rfl
                have e75 := d75
                rw [Array.getD_eq_getD_getElem?] at e75
                have HSt := Lib.hid hst
                clear hdep hag hst
                go_simp
                exact hK _ _ (Below.refl _ _) rfl HSt.out
              · intro k z v hst hag hdep
                refine .inl ⟨rfl, fun K hK => ?_⟩
                have d76 : z.tmps.getD 76 undef = .bool false := hdep { on := 21, ground := .data } (by simp) rfl _ _ rfl rfl
                have e76 := d76
                rw [Array.getD_eq_getD_getElem?] at e76
                have HSt := Lib.hid hst
                clear hdep hag hst
                go_simp
                exact hK _ _ (Below.refl _ _) rfl HSt.out
              · intro k z v hst hag hdep
                have dg : OrOkF g m c1 g2 c2 x1 x2 22 (z.tmps.getD 77 undef) v := hdep { on := 22, ground := .guard } (by simp) rfl _ _ rfl rfl
                simp only [OrOkF] at dg
                refine .inl ⟨Go.Proofs.Ytjbjflmpdmflmaa.R.wanted_of (j := 22) rfl rfl rfl dg (by rw [hag.2.1]; show 77 < 96; decide), fun K hK => ?_⟩
                have d8 : z.tmps.getD 8 undef = .int .i64 0 := hag.2.2 8 (by kernel_rfl)
                have e8 := d8
                rw [Array.getD_eq_getD_getElem?] at e8
                have HSt := Lib.hid hst
                clear hdep hag hst
                go_simp
                exact hK _ _ (Below.refl _ _) rfl HSt.out
              · intro k z v hst hag hdep
                have dg : OrOkF g m c1 g2 c2 x1 x2 22 (z.tmps.getD 77 undef) v := hdep { on := 22, ground := .guard } (by simp) rfl _ _ rfl rfl
                simp only [OrOkF] at dg
                refine .inl ⟨Go.Proofs.Ytjbjflmpdmflmaa.R.wanted_of (j := 22) rfl rfl rfl dg (by rw [hag.2.1]; show 77 < 96; decide), fun K hK => ?_⟩
                have d78 : z.tmps.getD 78 undef = .int .i64 0 := hdep { on := 23, ground := .data } (by simp) rfl _ _ rfl rfl
                have e78 := d78
                rw [Array.getD_eq_getD_getElem?] at e78
                have HSt := Lib.hid hst
                clear hdep hag hst
                go_simp
                exact hK _ _ (Below.refl _ _) rfl HSt.out
              · intro k z v hst hag hdep
                have dg : OrOkF g m c1 g2 c2 x1 x2 22 (z.tmps.getD 77 undef) v := hdep { on := 22, ground := .guard } (by simp) rfl _ _ rfl rfl
                simp only [OrOkF] at dg
                refine .inl ⟨Go.Proofs.Ytjbjflmpdmflmaa.R.wanted_of (j := 22) rfl rfl rfl dg (by rw [hag.2.1]; show 77 < 96; decide), fun K hK => ?_⟩
                have d79 : z.tmps.getD 79 undef = .bool false := hdep { on := 24, ground := .data } (by simp) rfl _ _ rfl rfl
                have e79 := d79
                rw [Array.getD_eq_getD_getElem?] at e79
                have HSt := Lib.hid hst
                clear hdep hag hst
                go_simp
                exact hK _ _ (Below.refl _ _) rfl HSt.out
              · intro k z v hst hag hdep
                have dg : OrOkF g m c1 g2 c2 x1 x2 25 (z.tmps.getD 80 undef) v := hdep { on := 25, ground := .guard } (by simp) rfl _ _ rfl rfl
                simp only [OrOkF] at dg
                exact .inr ⟨Go.Proofs.Ytjbjflmpdmflmaa.R.unwanted_of (j := 25) rfl rfl rfl dg (by decide) (by rw [hag.2.1]; show 80 < 96; decide), (Below.refl _ _), True.intro⟩
              · intro k z v hst hag hdep
                have dg : OrOkF g m c1 g2 c2 x1 x2 25 (z.tmps.getD 80 undef) v := hdep { on := 25, ground := .guard } (by simp) rfl _ _ rfl rfl
                simp only [OrOkF] at dg
                exact .inr ⟨Go.Proofs.Ytjbjflmpdmflmaa.R.unwanted_of (j := 25) rfl rfl rfl dg (by decide) (by rw [hag.2.1]; show 80 < 96; decide), (Below.refl _ _), True.intro⟩
              · intro k z v hst hag hdep
                have dg : OrOkF g m c1 g2 c2 x1 x2 25 (z.tmps.getD 80 undef) v := hdep { on := 25, ground := .guard } (by simp) rfl _ _ rfl rfl
                simp only [OrOkF] at dg
                exact .inr ⟨Go.Proofs.Ytjbjflmpdmflmaa.R.unwanted_of (j := 25) rfl rfl rfl dg (by decide) (by rw [hag.2.1]; show 80 < 96; decide), (Below.refl _ _), True.intro⟩
              · intro k z v hst hag hdep
                have dg : OrOkF g m c1 g2 c2 x1 x2 25 (z.tmps.getD 80 undef) v := hdep { on := 25, ground := .guard } (by simp) rfl _ _ rfl rfl
                simp only [OrOkF] at dg
                exact .inr ⟨Go.Proofs.Ytjbjflmpdmflmaa.R.unwanted_of (j := 25) rfl rfl rfl dg (by decide) (by rw [hag.2.1]; show 80 < 96; decide), (Below.refl _ _), True.intro⟩
              · intro k z v hst hag hdep
                have dg : OrOkF g m c1 g2 c2 x1 x2 25 (z.tmps.getD 80 undef) v := hdep { on := 25, ground := .guard } (by simp) rfl _ _ rfl rfl
                simp only [OrOkF] at dg
                exact .inr ⟨Go.Proofs.Ytjbjflmpdmflmaa.R.unwanted_of (j := 25) rfl rfl rfl dg (by decide) (by rw [hag.2.1]; show 80 < 96; decide), (Below.refl _ _), True.intro⟩
              · intro k z v hst hag hdep
                have dg : OrOkF g m c1 g2 c2 x1 x2 25 (z.tmps.getD 80 undef) v := hdep { on := 25, ground := .guard } (by simp) rfl _ _ rfl rfl
                simp only [OrOkF] at dg
                exact .inr ⟨Go.Proofs.Ytjbjflmpdmflmaa.R.unwanted_of (j := 25) rfl rfl rfl dg (by decide) (by rw [hag.2.1]; show 80 < 96; decide), (Below.refl _ _), True.intro⟩
              · intro k z v hst hag hdep
                have dg : OrOkF g m c1 g2 c2 x1 x2 25 (z.tmps.getD 80 undef) v := hdep { on := 25, ground := .guard } (by simp) rfl _ _ rfl rfl
                simp only [OrOkF] at dg
                exact .inr ⟨Go.Proofs.Ytjbjflmpdmflmaa.R.unwanted_of (j := 25) rfl rfl rfl dg (by decide) (by rw [hag.2.1]; show 80 < 96; decide), (Below.refl _ _), True.intro⟩
              · intro k z v hst hag hdep
                have dg : OrOkF g m c1 g2 c2 x1 x2 25 (z.tmps.getD 80 undef) v := hdep { on := 25, ground := .guard } (by simp) rfl _ _ rfl rfl
                simp only [OrOkF] at dg
                exact .inr ⟨Go.Proofs.Ytjbjflmpdmflmaa.R.unwanted_of (j := 25) rfl rfl rfl dg (by decide) (by rw [hag.2.1]; show 80 < 96; decide), (Below.refl _ _), True.intro⟩
              · intro k z v hst hag hdep
                have dg : OrOkF g m c1 g2 c2 x1 x2 25 (z.tmps.getD 80 undef) v := hdep { on := 25, ground := .guard } (by simp) rfl _ _ rfl rfl
                simp only [OrOkF] at dg
                exact .inr ⟨Go.Proofs.Ytjbjflmpdmflmaa.R.unwanted_of (j := 25) rfl rfl rfl dg (by decide) (by rw [hag.2.1]; show 80 < 96; decide), (Below.refl _ _), True.intro⟩
              · intro k z v hst hag hdep
                have dg : OrOkF g m c1 g2 c2 x1 x2 25 (z.tmps.getD 80 undef) v := hdep { on := 25, ground := .guard } (by simp) rfl _ _ rfl rfl
                simp only [OrOkF] at dg
                exact .inr ⟨Go.Proofs.Ytjbjflmpdmflmaa.R.unwanted_of (j := 25) rfl rfl rfl dg (by decide) (by rw [hag.2.1]; show 80 < 96; decide), (Below.refl _ _), True.intro⟩
              · intro k z v hst hag hdep
                have dg : OrOkF g m c1 g2 c2 x1 x2 25 (z.tmps.getD 80 undef) v := hdep { on := 25, ground := .guard } (by simp) rfl _ _ rfl rfl
                simp only [OrOkF] at dg
                exact .inr ⟨Go.Proofs.Ytjbjflmpdmflmaa.R.unwanted_of (j := 25) rfl rfl rfl dg (by decide) (by rw [hag.2.1]; show 80 < 96; decide), (Below.refl _ _), True.intro⟩
              · intro k z v hst hag hdep
                have dg : OrOkF g m c1 g2 c2 x1 x2 25 (z.tmps.getD 80 undef) v := hdep { on := 25, ground := .guard } (by simp) rfl _ _ rfl rfl
                simp only [OrOkF] at dg
                exact .inr ⟨Go.Proofs.Ytjbjflmpdmflmaa.R.unwanted_of (j := 25) rfl rfl rfl dg (by decide) (by rw [hag.2.1]; show 80 < 96; decide), (Below.refl _ _), True.intro⟩
              · intro k z v hst hag hdep
                have dg : OrOkF g m c1 g2 c2 x1 x2 22 (z.tmps.getD 77 undef) v := hdep { on := 22, ground := .guard } (by simp) rfl _ _ rfl rfl
                simp only [OrOkF] at dg
                refine .inl ⟨Go.Proofs.Ytjbjflmpdmflmaa.R.wanted_of (j := 22) rfl rfl rfl dg (by rw [hag.2.1]; show 77 < 96; decide), fun K hK => ?_⟩
                have d80 : z.tmps.getD 80 undef = .bool false := hdep { on := 25, ground := .data } (by simp) rfl _ _ rfl rfl
                have e80 := d80
                rw [Array.getD_eq_getD_getElem?] at e80
                have HSt := Lib.hid hst
                clear hdep hag hst
                go_simp
                exact hK _ _ (Below.refl _ _) rfl HSt.out
              · intro k z v hst hag hdep
                refine .inl ⟨rfl, fun K hK => ?_⟩
                have d77 : z.tmps.getD 77 undef = .bool false := hdep { on := 22, ground := .data } (by simp) rfl _ _ rfl rfl
                have e77 := d77
                rw [Array.getD_eq_getD_getElem?] at e77
                have d93 : z.tmps.getD 93 undef = .bool false := hdep { on := 38, ground := .data } (by simp) rfl _ _ rfl rfl
                have e93 := d93
                rw [Array.getD_eq_getD_getElem?] at e93
                have HSt := Lib.hid hst
                clear hdep hag hst
                go_simp
                exact hK _ _ (Below.refl _ _) rfl HSt.out
            case hdone =>
              intro z v hst hag hok
              have hst : Below w4.heap.size w4 v := hst
              have d94 : z.tmps.getD 94 undef = .bool false := hok 39 _ 94 rfl rfl
              have HI := Lib.hid hst
              clear hst HF
              obtain ⟨uu, hu, hzz⟩ := Go.Proofs.Ytjbjflmpdmflmaa.R.agree_frame [55, 56, 57, 58, 59, 60, 61, 62, 63, 64, 65, 66, 67, 68, 69, 70, 71, 72, 73, 74, 75, 76, 77, 78, 79, 80, 81, 82, 83, 84, 85, 86, 87, 88, 89, 90, 91, 92, 93, 94] rfl hag
              have e94 := (hu 94).trans d94
              subst hzz
              simp only [List.foldl_cons, List.foldl_nil]
              rw [e94]
              clear e94 d94 hu hag hok
              try dsimp only [Exit.then]
              simp only [List.setIfInBounds_toArray, List.set_cons_succ, List.set_cons_zero]
              generalize uu 55 = u55', uu 56 = u56', uu 57 = u57', uu 58 = u58', uu 59 = u59', uu 60 = u60', uu 61 = u61', uu 62 = u62', uu 63 = u63', uu 64 = u64', uu 65 = u65', uu 66 = u66', uu 67 = u67', uu 68 = u68', uu 69 = u69', uu 70 = u70', uu 71 = u71', uu 72 = u72', uu 73 = u73', uu 74 = u74', uu 75 = u75', uu 76 = u76', uu 77 = u77', uu 78 = u78', uu 79 = u79', uu 80 = u80', uu 81 = u81', uu 82 = u82', uu 83 = u83', uu 84 = u84', uu 85 = u85', uu 86 = u86', uu 87 = u87', uu 88 = u88', uu 89 = u89', uu 90 = u90', uu 91 = u91', uu 92 = u92', uu 93 = u93'
              clear uu
              rename_i K hK
              refine hK _ _ ?_
              go_wp2_with fail
              go_roundw
              case rel => exact ⟨1, by go_num, by omega, HI⟩
              case measure => simp [intOf]; omega

          · obtain ⟨g3, off3, y, hgo, -, hy, -, hy1⟩ := HI1.out.one (show j0 < m by omega)
            obtain ⟨rfl, rfl⟩ : g = g3 ∧ 0 = off3 := by injection hgo with e; injection e with e1 e2; exact ⟨e1, e2⟩
            have hap := HNm.out.1.apart j0 (j0 + 1) y (x1, x2) hy hx (by omega)
            obtain ⟨y1, y2⟩ := y
            simp only at hap hy1
            rw [Nat.zero_add] at hy1
            have q2 : decide (x1 ≤ y2) = false := decide_eq_false (by omega)
            obtain ⟨j, hjj⟩ : ∃ j, j0 + 1 = j := ⟨_, rfl⟩
            rw [hjj] at hj hlt hd hjI k0 k1 k0' k1' ⊢
            have q3 : (j : Int) - 1 = (j0 : Int) := by omega
            have q4 : 0 < j := by omega
            have q5 : decide (0 < j) = true := decide_eq_true q4
            have q6 : (0 : Int) < (j : Int) := by omega
            have hj0 : j0 < m := by omega
            have q7 : IntKind.i64.wrap (j0 : Int) = (j0 : Int) := by rw [IntKind.wrap_i64]; omega
            have hj0I : (j0 : Int) < (m : Int) := by omega
            have L0 := Lib.hid (And.intro k0 k1)
            have M0 := Lib.hid (And.intro k0' k1')
            have N0 := Lib.hid hy1
            clear hx hx' hfull k0 k1 k0' k1' hy hy1 hap hgo hjj
            go_upto_region 17 with fail
            refine Go.Proofs.Ytjbjflmpdmflmaa.R.wp_region_prog [] (by kernel_rfl) (fun _ _ u => Below w4.heap.size w4 u) (fun a b => Below a.heap.size a b) (OrOkR g m c1 g2 c2 j j0 x1 x2 y2) (by rfl) (by kernel_rfl) (by kernel_rfl) (by kernel_rfl) ?hcongR ?hOkR ?hopR ?hdoneR ?h0R
            case hcongR => intro k f f2 u hs hst; exact hst
            case hOkR => intro i u w1 w2 h hr; unfold OrOkR at h ⊢; split at h <;> exact h
            case h0R => exact HF.out.trans (((Below.refl _ _).drew).mono HF.out.size)
            case hopR =>
              refine ⟨?_, ?_, ?_, ?_, ?_, ?_, ?_, ?_, ?_, ?_, ?_, ?_, ?_, ?_, ?_, ?_, ?_, ?_, ?_, ?_, ?_, ?_, ?_, ?_, ?_, ?_, ?_, ?_, ?_, ?_, ?_, ?_, ?_, ?_, ?_, ?_, ?_, ?_, ?_, ?_, trivial⟩
              · intro k z v hst hag hdep
                refine .inl ⟨rfl, fun K hK => ?_⟩
                have d6 : z.tmps.getD 6 undef = .slice (some ⟨g, 0, none⟩) m c1 := hag.2.2 6 (by kernel_rfl)
                have e6 := d6
                rw [Array.getD_eq_getD_getElem?] at e6
                have HSt := Lib.hid hst
                clear hdep hag hst
                go_simp
                exact hK _ _ (Below.refl _ _) rfl HSt.out
              · intro k z v hst hag hdep
                refine .inl ⟨rfl, fun K hK => ?_⟩
                have d8 : z.tmps.getD 8 undef = .int .i64 (j : Int) := hag.2.2 8 (by kernel_rfl)
                have e8 := d8
                rw [Array.getD_eq_getD_getElem?] at e8
                have HSt := Lib.hid hst
                clear hdep hag hst
                go_simp
                exact hK _ _ (Below.refl _ _) rfl HSt.out
              · intro k z v hst hag hdep
                refine .inl ⟨rfl, fun K hK => ?_⟩
                have d55 : z.tmps.getD 55 undef = .slice (some ⟨g, 0, none⟩) m c1 := hdep { on := 0, ground := .data } (by simp) rfl _ _ rfl rfl
                have e55 := d55
                rw [Array.getD_eq_getD_getElem?] at e55
                have d56 : z.tmps.getD 56 undef = .int .i64 (j : Int) := hdep { on := 1, ground := .data } (by simp) rfl _ _ rfl rfl
                have e56 := d56
                rw [Array.getD_eq_getD_getElem?] at e56
                have HSt := Lib.hid hst
                clear hdep hag hst
                go_simp
                exact hK _ _ (Below.refl _ _) rfl HSt.out
              · intro k z v hst hag hdep
                refine .inl ⟨rfl, fun K hK => ?_⟩
                have d57 : z.tmps.getD 57 undef = .pointer (some ⟨g, j * 2, none⟩) := hdep { on := 2, ground := .data } (by simp) rfl _ _ rfl rfl
                have e57 := d57
                rw [Array.getD_eq_getD_getElem?] at e57
                have hst : Below w4.heap.size w4 v := hst
                have l0 := (hst.cell hg1).trans L0.out.1
                have l1 := (hst.cell hg1).trans L0.out.2
                have HSt := Lib.hid hst
                clear hdep hag hst
                go_simp
                exact hK _ _ (Below.refl _ _) rfl HSt.out
              · intro k z v hst hag hdep
                refine .inl ⟨rfl, fun K hK => ?_⟩
                have d7 : z.tmps.getD 7 undef = .slice (some ⟨g2, 0, none⟩) m c2 := hag.2.2 7 (by kernel_rfl)
                have e7 := d7
                rw [Array.getD_eq_getD_getElem?] at e7
                have HSt := Lib.hid hst
                clear hdep hag hst
                go_simp
                exact hK _ _ (Below.refl _ _) rfl HSt.out
              · intro k z v hst hag hdep
                refine .inl ⟨rfl, fun K hK => ?_⟩
                have d8 : z.tmps.getD 8 undef = .int .i64 (j : Int) := hag.2.2 8 (by kernel_rfl)
                have e8 := d8
                rw [Array.getD_eq_getD_getElem?] at e8
                have HSt := Lib.hid hst
                clear hdep hag hst
                go_simp
                exact hK _ _ (Below.refl _ _) rfl HSt.out
              · intro k z v hst hag hdep
                refine .inl ⟨rfl, fun K hK => ?_⟩
                have d59 : z.tmps.getD 59 undef = .slice (some ⟨g2, 0, none⟩) m c2 := hdep { on := 4, ground := .data } (by simp) rfl _ _ rfl rfl
                have e59 := d59
                rw [Array.getD_eq_getD_getElem?] at e59
                have d60 : z.tmps.getD 60 undef = .int .i64 (j : Int) := hdep { on := 5, ground := .data } (by simp) rfl _ _ rfl rfl
                have e60 := d60
                rw [Array.getD_eq_getD_getElem?] at e60
                have HSt := Lib.hid hst
                clear hdep hag hst
                go_simp
                exact hK _ _ (Below.refl _ _) rfl HSt.out
              · intro k z v hst hag hdep
                refine .inl ⟨rfl, fun K hK => ?_⟩
                have d61 : z.tmps.getD 61 undef = .pointer (some ⟨g2, j * 2, none⟩) := hdep { on := 6, ground := .data } (by simp) rfl _ _ rfl rfl
                have e61 := d61
                rw [Array.getD_eq_getD_getElem?] at e61
                have hst : Below w4.heap.size w4 v := hst
                have l0 := (hst.cell hg2).trans M0.out.1
                have l1 := (hst.cell hg2).trans M0.out.2
                have HSt := Lib.hid hst
                clear hdep hag hst
                go_simp
                exact hK _ _ (Below.refl _ _) rfl HSt.out
              · intro k z v hst hag hdep
                refine .inl ⟨rfl, fun K hK => ?_⟩
                have d58 : z.tmps.getD 58 undef = .agg #[.int .i64 x1, .int .i64 x2] := hdep { on := 3, ground := .data } (by simp) rfl _ _ rfl rfl
                have e58 := d58
                rw [Array.getD_eq_getD_getElem?] at e58
                have d62 : z.tmps.getD 62 undef = .agg #[.int .i64 x1, .int .i64 x2] := hdep { on := 7, ground := .data } (by simp) rfl _ _ rfl rfl
                have e62 := d62
                rw [Array.getD_eq_getD_getElem?] at e62
                have HSt := Lib.hid hst
                clear hdep hag hst
                go_simp
                exact hK _ _ (Below.refl _ _) rfl HSt.out
              · intro k z v hst hag hdep
                refine .inl ⟨rfl, fun K hK => ?_⟩
                have d63 : z.tmps.getD 63 undef = .bool false := hdep { on := 8, ground := .data } (by simp) rfl _ _ rfl rfl
                have e63 := d63
                rw [Array.getD_eq_getD_getElem?] at e63
                have HSt := Lib.hid hst
                clear hdep hag hst
                go_simp
                exact hK _ _ (Below.refl _ _) rfl HSt.out
              · intro k z v hst hag hdep
                have dg : OrOkR g m c1 g2 c2 j j0 x1 x2 y2 9 (z.tmps.getD 64 undef) v := hdep { on := 9, ground := .guard } (by simp) rfl _ _ rfl rfl
                simp only [OrOkR] at dg
                refine .inl ⟨Go.Proofs.Ytjbjflmpdmflmaa.R.wanted_of (j := 9) rfl rfl rfl dg (by rw [hag.2.1]; show 64 < 96; decide), fun K hK => ?_⟩
                have d6 : z.tmps.getD 6 undef = .slice (some ⟨g, 0, none⟩) m c1 := hag.2.2 6 (by kernel_rfl)
                have e6 := d6
                rw [Array.getD_eq_getD_getElem?] at e6
                have HSt := Lib.hid hst
                clear hdep hag hst
                go_simp
                exact hK _ _ (Below.refl _ _) rfl HSt.out
              · intro k z v hst hag hdep
                have dg : OrOkR g m c1 g2 c2 j j0 x1 x2 y2 9 (z.tmps.getD 64 undef) v := hdep { on := 9, ground := .guard } (by simp) rfl _ _ rfl rfl
                simp only [OrOkR] at dg
                refine .inl ⟨Go.Proofs.Ytjbjflmpdmflmaa.R.wanted_of (j := 9) rfl rfl rfl dg (by rw [hag.2.1]; show 64 < 96; decide), fun K hK => ?_⟩
                have d8 : z.tmps.getD 8 undef = .int .i64 (j : Int) := hag.2.2 8 (by kernel_rfl)
                have e8 := d8
                rw [Array.getD_eq_getD_getElem?] at e8
                have HSt := Lib.hid hst
                clear hdep hag hst
                go_simp
                exact hK _ _ (Below.refl _ _) rfl HSt.out
              · intro k z v hst hag hdep
                have dg : OrOkR g m c1 g2 c2 j j0 x1 x2 y2 9 (z.tmps.getD 64 undef) v := hdep { on := 9, ground := .guard } (by simp) rfl _ _ rfl rfl
                simp only [OrOkR] at dg
                refine .inl ⟨Go.Proofs.Ytjbjflmpdmflmaa.R.wanted_of (j := 9) rfl rfl rfl dg (by rw [hag.2.1]; show 64 < 96; decide), fun K hK => ?_⟩
                have d65 : z.tmps.getD 65 undef = .slice (some ⟨g, 0, none⟩) m c1 := hdep { on := 10, ground := .data } (by simp) rfl _ _ rfl rfl
                have e65 := d65
                rw [Array.getD_eq_getD_getElem?] at e65
                have d66 : z.tmps.getD 66 undef = .int .i64 (j : Int) := hdep { on := 11, ground := .data } (by simp) rfl _ _ rfl rfl
                have e66 := d66
                rw [Array.getD_eq_getD_getElem?] at e66
                have HSt := Lib.hid hst
                clear hdep hag hst
                go_simp
                exact hK _ _ (Below.refl _ _) rfl HSt.out
              · intro k z v hst hag hdep
                have dg : OrOkR g m c1 g2 c2 j j0 x1 x2 y2 9 (z.tmps.getD 64 undef) v := hdep { on := 9, ground := .guard } (by simp) rfl _ _ rfl rfl
                simp only [OrOkR] at dg
                refine .inl ⟨Go.Proofs.Ytjbjflmpdmflmaa.R.wanted_of (j := 9) rfl rfl rfl dg (by rw [hag.2.1]; show 64 < 96; decide), fun K hK => ?_⟩
                have d67 : z.tmps.getD 67 undef = .pointer (some ⟨g, j * 2, none⟩) := hdep { on := 12, ground := .data } (by simp) rfl _ _ rfl rfl
                have e67 := d67
                rw [Array.getD_eq_getD_getElem?] at e67
                have HSt := Lib.hid hst
                clear hdep hag hst
                go_simp
                exact hK _ _ (Below.refl _ _) rfl HSt.out
              · intro k z v hst hag hdep
                have dg : OrOkR g m c1 g2 c2 j j0 x1 x2 y2 9 (z.tmps.getD 64 undef) v := hdep { on := 9, ground := .guard } (by simp) rfl _ _ rfl rfl
                simp only [OrOkR] at dg
                refine .inl ⟨Go.Proofs.Ytjbjflmpdmflmaa.R.wanted_of (j := 9) rfl rfl rfl dg (by rw [hag.2.1]; show 64 < 96; decide), fun K hK => ?_⟩
                have d68 : z.tmps.getD 68 undef = .pointer (some ⟨g, j * 2 + 1, none⟩) := hdep { on := 13, ground := .data } (by simp) rfl _ _ rfl rfl
                have e68 := d68
                rw [Array.getD_eq_getD_getElem?] at e68
                have hst : Below w4.heap.size w4 v := hst
                have l0 := (hst.cell hg1).trans L0.out.1
                have l1 := (hst.cell hg1).trans L0.out.2
                have HSt := Lib.hid hst
                clear hdep hag hst
                go_simp
                exact hK _ _ (Below.refl _ _) rfl HSt.out
              · intro k z v hst hag hdep
                have dg : OrOkR g m c1 g2 c2 j j0 x1 x2 y2 9 (z.tmps.getD 64 undef) v := hdep { on := 9, ground := .guard } (by simp) rfl _ _ rfl rfl
                simp only [OrOkR] at dg
                refine .inl ⟨Go.Proofs.Ytjbjflmpdmflmaa.R.wanted_of (j := 9) rfl rfl rfl dg (by rw [hag.2.1]; show 64 < 96; decide), fun K hK => ?_⟩
                have d6 : z.tmps.getD 6 undef = .slice (some ⟨g, 0, none⟩) m c1 := hag.2.2 6 (by kernel_rfl)
                have e6 := d6
                rw [Array.getD_eq_getD_getElem?] at e6
                have HSt := Lib.hid hst
                clear hdep hag hst
                go_simp
                exact hK _ _ (Below.refl _ _) rfl HSt.out
              · intro k z v hst hag hdep
                have dg : OrOkR g m c1 g2 c2 j j0 x1 x2 y2 9 (z.tmps.getD 64 undef) v := hdep { on := 9, ground := .guard } (by simp) rfl _ _ rfl rfl
                simp only [OrOkR] at dg
                refine .inl ⟨Go.Proofs.Ytjbjflmpdmflmaa.R.wanted_of (j := 9) rfl rfl rfl dg (by rw [hag.2.1]; show 64 < 96; decide), fun K hK => ?_⟩
                have d8 : z.tmps.getD 8 undef = .int .i64 (j : Int) := hag.2.2 8 (by kernel_rfl)
                have e8 := d8
                rw [Array.getD_eq_getD_getElem?] at e8
                have HSt := Lib.hid hst
                clear hdep hag hst
                go_simp
                exact hK _ _ (Below.refl _ _) rfl HSt.out
              · intro k z v hst hag hdep
                have dg : OrOkR g m c1 g2 c2 j j0 x1 x2 y2 9 (z.tmps.getD 64 undef) v := hdep { on := 9, ground := .guard } (by simp) rfl _ _ rfl rfl
                simp only [OrOkR] at dg
                refine .inl ⟨Go.Proofs.Ytjbjflmpdmflmaa.R.wanted_of (j := 9) rfl rfl rfl dg (by rw [hag.2.1]; show 64 < 96; decide), fun K hK => ?_⟩
                have d70 : z.tmps.getD 70 undef = .slice (some ⟨g, 0, none⟩) m c1 := hdep { on := 15, ground := .data } (by simp) rfl _ _ rfl rfl
                have e70 := d70
                rw [Array.getD_eq_getD_getElem?] at e70
                have d71 : z.tmps.getD 71 undef = .int .i64 (j : Int) := hdep { on := 16, ground := .data } (by simp) rfl _ _ rfl rfl
                have e71 := d71
                rw [Array.getD_eq_getD_getElem?] at e71
                have HSt := Lib.hid hst
                clear hdep hag hst
                go_simp
                exact hK _ _ (Below.refl _ _) rfl HSt.out
              · intro k z v hst hag hdep
                have dg : OrOkR g m c1 g2 c2 j j0 x1 x2 y2 9 (z.tmps.getD 64 undef) v := hdep { on := 9, ground := .guard } (by simp) rfl _ _ rfl rfl
                simp only [OrOkR] at dg
                refine .inl ⟨Go.Proofs.Ytjbjflmpdmflmaa.R.wanted_of (j := 9) rfl rfl rfl dg (by rw [hag.2.1]; show 64 < 96; decide), fun K hK => ?_⟩
                have d72 : z.tmps.getD 72 undef = .pointer (some ⟨g, j * 2, none⟩) := hdep { on := 17, ground := .data } (by simp) rfl _ _ rfl rfl
                have e72 := d72
                rw [Array.getD_eq_getD_getElem?] at e72
                have HSt := Lib.hid hst
                clear hdep hag hst
                go_simp
                exact hK _ _ (Below.refl _ _) rfl HSt.out
              · intro k z v hst hag hdep
                have dg : OrOkR g m c1 g2 c2 j j0 x1 x2 y2 9 (z.tmps.getD 64 undef) v := hdep { on := 9, ground := .guard } (by simp) rfl _ _ rfl rfl
                simp only [OrOkR] at dg
                refine .inl ⟨Go.Proofs.Ytjbjflmpdmflmaa.R.wanted_of (j := 9) rfl rfl rfl dg (by rw [hag.2.1]; show 64 < 96; decide), fun K hK => ?_⟩
                have d73 : z.tmps.getD 73 undef = .pointer (some ⟨g, j * 2, none⟩) := hdep { on := 18, ground := .data } (by simp) rfl _ _ rfl rfl
                have e73 := d73
                rw [Array.getD_eq_getD_getElem?] at e73
                have hst : Below w4.heap.size w4 v := hst
                have l0 := (hst.cell hg1).trans L0.out.1
                have l1 := (hst.cell hg1).trans L0.out.2
                have HSt := Lib.hid hst
                clear hdep hag hst
                go_simp
                exact hK _ _ (Below.refl _ _) rfl HSt.out
              · intro k z v hst hag hdep
                have dg : OrOkR g m c1 g2 c2 j j0 x1 x2 y2 9 (z.tmps.getD 64 undef) v := hdep { on := 9, ground := .guard } (by simp) rfl _ _ rfl rfl
                simp only [OrOkR] at dg
                refine .inl ⟨Go.Proofs.Ytjbjflmpdmflmaa.R.wanted_of (j := 9) rfl rfl rfl dg (by rw [hag.2.1]; show 64 < 96; decide), fun K hK => ?_⟩
                have d69 : z.tmps.getD 69 undef = .int .i64 x2 := hdep { on := 14, ground := .data } (by simp) rfl _ _ rfl rfl
                have e69 := d69
                rw [Array.getD_eq_getD_getElem?] at e69
                have d74 : z.tmps.getD 74 undef = .int .i64 x1 := hdep { on := 19, ground := .data } (by simp) rfl _ _ rfl rfl
                have e74 := d74
                rw [Array.getD_eq_getD_getElem?] at e74
                have HSt := Lib.hid hst
                clear hdep hag hst
                go_simp
                exact hK _ _ (Below.refl _ _) rfl HSt.out
              · intro k z v hst hag hdep
                refine .inl ⟨rfl, fun K hK => ?_⟩
                have d64 : z.tmps.getD 64 undef = .bool false := hdep { on := 9, ground := .data } (by simp) rfl _ _ rfl rfl
                have e64 := d64
                rw [Array.getD_eq_getD_getElem?] at e64
                have d75 : z.tmps.getD 75 undef = .bool false := hdep { on := 20, ground := .data } (by simp) rfl _ _ rfl rfl
                have e75 := d75
                rw [Array.getD_eq_getD_getElem?] at e75
                have HSt := Lib.hid hst
                clear hdep hag hst
                go_simp
                exact hK _ _ (Below.refl _ _) rfl HSt.out
              · intro k z v hst hag hdep
                refine .inl ⟨rfl, fun K hK => ?_⟩
                have d76 : z.tmps.getD 76 undef = .bool false := hdep { on := 21, ground := .data } (by simp) rfl _ _ rfl rfl
                have e76 := d76
                rw [Array.getD_eq_getD_getElem?] at e76
                have HSt := Lib.hid hst
                clear hdep hag hst
                go_simp
                exact hK _ _ (Below.refl _ _) rfl HSt.out
              · intro k z v hst hag hdep
                have dg : OrOkR g m c1 g2 c2 j j0 x1 x2 y2 22 (z.tmps.getD 77 undef) v := hdep { on := 22, ground := .guard } (by simp) rfl _ _ rfl rfl
                simp only [OrOkR] at dg
                refine .inl ⟨Go.Proofs.Ytjbjflmpdmflmaa.R.wanted_of (j := 22) rfl rfl rfl dg (by rw [hag.2.1]; show 77 < 96; decide), fun K hK => ?_⟩
                have d8 : z.tmps.getD 8 undef = .int .i64 (j : Int) := hag.2.2 8 (by kernel_rfl)
                have e8 := d8
                rw [Array.getD_eq_getD_getElem?] at e8
                have HSt := Lib.hid hst
                clear hdep hag hst
                go_simp
                exact hK _ _ (Below.refl _ _) rfl HSt.out
              · intro k z v hst hag hdep
                have dg : OrOkR g m c1 g2 c2 j j0 x1 x2 y2 22 (z.tmps.getD 77 undef) v := hdep { on := 22, ground := .guard } (by simp) rfl _ _ rfl rfl
                simp only [OrOkR] at dg
                refine .inl ⟨Go.Proofs.Ytjbjflmpdmflmaa.R.wanted_of (j := 22) rfl rfl rfl dg (by rw [hag.2.1]; show 77 < 96; decide), fun K hK => ?_⟩
                have d78 : z.tmps.getD 78 undef = .int .i64 (j : Int) := hdep { on := 23, ground := .data } (by simp) rfl _ _ rfl rfl
                have e78 := d78
                rw [Array.getD_eq_getD_getElem?] at e78
                have HSt := Lib.hid hst
                clear hdep hag hst
                go_simp
                exact hK _ _ (Below.refl _ _) rfl HSt.out
              · intro k z v hst hag hdep
                have dg : OrOkR g m c1 g2 c2 j j0 x1 x2 y2 22 (z.tmps.getD 77 undef) v := hdep { on := 22, ground := .guard } (by simp) rfl _ _ rfl rfl
                simp only [OrOkR] at dg
                refine .inl ⟨Go.Proofs.Ytjbjflmpdmflmaa.R.wanted_of (j := 22) rfl rfl rfl dg (by rw [hag.2.1]; show 77 < 96; decide), fun K hK => ?_⟩
                have d79 : z.tmps.getD 79 undef = .bool true := hdep { on := 24, ground := .data } (by simp) rfl _ _ rfl rfl
                have e79 := d79
                rw [Array.getD_eq_getD_getElem?] at e79
                have HSt := Lib.hid hst
                clear hdep hag hst
                go_simp
                exact hK _ _ (Below.refl _ _) rfl HSt.out
              · intro k z v hst hag hdep
                have dg : OrOkR g m c1 g2 c2 j j0 x1 x2 y2 25 (z.tmps.getD 80 undef) v := hdep { on := 25, ground := .guard } (by simp) rfl _ _ rfl rfl
                simp only [OrOkR] at dg
                refine .inl ⟨Go.Proofs.Ytjbjflmpdmflmaa.R.wanted_of (j := 25) rfl rfl rfl dg (by rw [hag.2.1]; show 80 < 96; decide), fun K hK => ?_⟩
                have d6 : z.tmps.getD 6 undef = .slice (some ⟨g, 0, none⟩) m c1 := hag.2.2 6 (by kernel_rfl)
                have e6 := d6
                rw [Array.getD_eq_getD_getElem?] at e6
                have HSt := Lib.hid hst
                clear hdep hag hst
                go_simp
                exact hK _ _ (Below.refl _ _) rfl HSt.out
              · intro k z v hst hag hdep
                have dg : OrOkR g m c1 g2 c2 j j0 x1 x2 y2 25 (z.tmps.getD 80 undef) v := hdep { on := 25, ground := .guard } (by simp) rfl _ _ rfl rfl
                simp only [OrOkR] at dg
                refine .inl ⟨Go.Proofs.Ytjbjflmpdmflmaa.R.wanted_of (j := 25) rfl rfl rfl dg (by rw [hag.2.1]; show 80 < 96; decide), fun K hK => ?_⟩
                have d8 : z.tmps.getD 8 undef = .int .i64 (j : Int) := hag.2.2 8 (by kernel_rfl)
                have e8 := d8
                rw [Array.getD_eq_getD_getElem?] at e8
                have HSt := Lib.hid hst
                clear hdep hag hst
                go_simp
                exact hK _ _ (Below.refl _ _) rfl HSt.out
              · intro k z v hst hag hdep
                have dg : OrOkR g m c1 g2 c2 j j0 x1 x2 y2 25 (z.tmps.getD 80 undef) v := hdep { on := 25, ground := .guard } (by simp) rfl _ _ rfl rfl
                simp only [OrOkR] at dg
                refine .inl ⟨Go.Proofs.Ytjbjflmpdmflmaa.R.wanted_of (j := 25) rfl rfl rfl dg (by rw [hag.2.1]; show 80 < 96; decide), fun K hK => ?_⟩
                have d81 : z.tmps.getD 81 undef = .slice (some ⟨g, 0, none⟩) m c1 := hdep { on := 26, ground := .data } (by simp) rfl _ _ rfl rfl
                have e81 := d81
                rw [Array.getD_eq_getD_getElem?] at e81
                have d82 : z.tmps.getD 82 undef = .int .i64 (j : Int) := hdep { on := 27, ground := .data } (by simp) rfl _ _ rfl rfl
                have e82 := d82
                rw [Array.getD_eq_getD_getElem?] at e82
                have HSt := Lib.hid hst
                clear hdep hag hst
                go_simp
                exact hK _ _ (Below.refl _ _) rfl HSt.out
              · intro k z v hst hag hdep
                have dg : OrOkR g m c1 g2 c2 j j0 x1 x2 y2 25 (z.tmps.getD 80 undef) v := hdep { on := 25, ground := .guard } (by simp) rfl _ _ rfl rfl
                simp only [OrOkR] at dg
                refine .inl ⟨Go.Proofs.Ytjbjflmpdmflmaa.R.wanted_of (j := 25) rfl rfl rfl dg (by rw [hag.2.1]; show 80 < 96; decide), fun K hK => ?_⟩
                have d83 : z.tmps.getD 83 undef = .pointer (some ⟨g, j * 2, none⟩) := hdep { on := 28, ground := .data } (by simp) rfl _ _ rfl rfl
                have e83 := d83
                rw [Array.getD_eq_getD_getElem?] at e83
                have HSt := Lib.hid hst
                clear hdep hag hst
                go_simp
                exact hK _ _ (Below.refl _ _) rfl HSt.out
              · intro k z v hst hag hdep
                have dg : OrOkR g m c1 g2 c2 j j0 x1 x2 y2 25 (z.tmps.getD 80 undef) v := hdep { on := 25, ground := .guard } (by simp) rfl _ _ rfl rfl
                simp only [OrOkR] at dg
                refine .inl ⟨Go.Proofs.Ytjbjflmpdmflmaa.R.wanted_of (j := 25) rfl rfl rfl dg (by rw [hag.2.1]; show 80 < 96; decide), fun K hK => ?_⟩
                have d84 : z.tmps.getD 84 undef = .pointer (some ⟨g, j * 2, none⟩) := hdep { on := 29, ground := .data } (by simp) rfl _ _ rfl rfl
                have e84 := d84
                rw [Array.getD_eq_getD_getElem?] at e84
                have hst : Below w4.heap.size w4 v := hst
                have l0 := (hst.cell hg1).trans L0.out.1
                have l1 := (hst.cell hg1).trans L0.out.2
                have HSt := Lib.hid hst
                clear hdep hag hst
                go_simp
                exact hK _ _ (Below.refl _ _) rfl HSt.out
              · intro k z v hst hag hdep
                have dg : OrOkR g m c1 g2 c2 j j0 x1 x2 y2 25 (z.tmps.getD 80 undef) v := hdep { on := 25, ground := .guard } (by simp) rfl _ _ rfl rfl
                simp only [OrOkR] at dg
                refine .inl ⟨Go.Proofs.Ytjbjflmpdmflmaa.R.wanted_of (j := 25) rfl rfl rfl dg (by rw [hag.2.1]; show 80 < 96; decide), fun K hK => ?_⟩
                have d6 : z.tmps.getD 6 undef = .slice (some ⟨g, 0, none⟩) m c1 := hag.2.2 6 (by kernel_rfl)
                have e6 := d6
                rw [Array.getD_eq_getD_getElem?] at e6
                have HSt := Lib.hid hst
                clear hdep hag hst
                go_simp
                exact hK _ _ (Below.refl _ _) rfl HSt.out
              · intro k z v hst hag hdep
                have dg : OrOkR g m c1 g2 c2 j j0 x1 x2 y2 25 (z.tmps.getD 80 undef) v := hdep { on := 25, ground := .guard } (by simp) rfl _ _ rfl rfl
                simp only [OrOkR] at dg
                refine .inl ⟨Go.Proofs.Ytjbjflmpdmflmaa.R.wanted_of (j := 25) rfl rfl rfl dg (by rw [hag.2.1]; show 80 < 96; decide), fun K hK => ?_⟩
                have d8 : z.tmps.getD 8 undef = .int .i64 (j : Int) := hag.2.2 8 (by kernel_rfl)
                have e8 := d8
                rw [Array.getD_eq_getD_getElem?] at e8
                have HSt := Lib.hid hst
                clear hdep hag hst
                go_simp
                exact hK _ _ (Below.refl _ _) rfl HSt.out
              · intro k z v hst hag hdep
                have dg : OrOkR g m c1 g2 c2 j j0 x1 x2 y2 25 (z.tmps.getD 80 undef) v := hdep { on := 25, ground := .guard } (by simp) rfl _ _ rfl rfl
                simp only [OrOkR] at dg
                refine .inl ⟨Go.Proofs.Ytjbjflmpdmflmaa.R.wanted_of (j := 25) rfl rfl rfl dg (by rw [hag.2.1]; show 80 < 96; decide), fun K hK => ?_⟩
                have d87 : z.tmps.getD 87 undef = .int .i64 (j : Int) := hdep { on := 32, ground := .data } (by simp) rfl _ _ rfl rfl
                have e87 := d87
                rw [Array.getD_eq_getD_getElem?] at e87
                have HSt := Lib.hid hst
                clear hdep hag hst
                go_simp
                exact hK _ _ (Below.refl _ _) rfl HSt.out
              · intro k z v hst hag hdep
                have dg : OrOkR g m c1 g2 c2 j j0 x1 x2 y2 25 (z.tmps.getD 80 undef) v := hdep { on := 25, ground := .guard } (by simp) rfl _ _ rfl rfl
                simp only [OrOkR] at dg
                refine .inl ⟨Go.Proofs.Ytjbjflmpdmflmaa.R.wanted_of (j := 25) rfl rfl rfl dg (by rw [hag.2.1]; show 80 < 96; decide), fun K hK => ?_⟩
                have d86 : z.tmps.getD 86 undef = .slice (some ⟨g, 0, none⟩) m c1 := hdep { on := 31, ground := .data } (by simp) rfl _ _ rfl rfl
                have e86 := d86
                rw [Array.getD_eq_getD_getElem?] at e86
                have d88 : z.tmps.getD 88 undef = .int .i64 (j0 : Int) := hdep { on := 33, ground := .data } (by simp) rfl _ _ rfl rfl
                have e88 := d88
                rw [Array.getD_eq_getD_getElem?] at e88
                have HSt := Lib.hid hst
                clear hdep hag hst
                go_simp
                exact hK _ _ (Below.refl _ _) rfl HSt.out
              · intro k z v hst hag hdep
                have dg : OrOkR g m c1 g2 c2 j j0 x1 x2 y2 25 (z.tmps.getD 80 undef) v := hdep { on := 25, ground := .guard } (by simp) rfl _ _ rfl rfl
                simp only [OrOkR] at dg
                refine .inl ⟨Go.Proofs.Ytjbjflmpdmflmaa.R.wanted_of (j := 25) rfl rfl rfl dg (by rw [hag.2.1]; show 80 < 96; decide), fun K hK => ?_⟩
                have d89 : z.tmps.getD 89 undef = .pointer (some ⟨g, j0 * 2, none⟩) := hdep { on := 34, ground := .data } (by simp) rfl _ _ rfl rfl
                have e89 := d89
                rw [Array.getD_eq_getD_getElem?] at e89
                have HSt := Lib.hid hst
                clear hdep hag hst
                go_simp
                exact hK _ _ (Below.refl _ _) rfl HSt.out
              · intro k z v hst hag hdep
                have dg : OrOkR g m c1 g2 c2 j j0 x1 x2 y2 25 (z.tmps.getD 80 undef) v := hdep { on := 25, ground := .guard } (by simp) rfl _ _ rfl rfl
                simp only [OrOkR] at dg
                refine .inl ⟨Go.Proofs.Ytjbjflmpdmflmaa.R.wanted_of (j := 25) rfl rfl rfl dg (by rw [hag.2.1]; show 80 < 96; decide), fun K hK => ?_⟩
                have d90 : z.tmps.getD 90 undef = .pointer (some ⟨g, j0 * 2 + 1, none⟩) := hdep { on := 35, ground := .data } (by simp) rfl _ _ rfl rfl
                have e90 := d90
                rw [Array.getD_eq_getD_getElem?] at e90
                have hst : Below w4.heap.size w4 v := hst
                have l1 := (hst.cell hg1).trans N0.out
                have HSt := Lib.hid hst
                clear hdep hag hst
                go_simp
                exact hK _ _ (Below.refl _ _) rfl HSt.out
              · intro k z v hst hag hdep
                have dg : OrOkR g m c1 g2 c2 j j0 x1 x2 y2 25 (z.tmps.getD 80 undef) v := hdep { on := 25, ground := .guard } (by simp) rfl _ _ rfl rfl
                simp only [OrOkR] at dg
                refine .inl ⟨Go.Proofs.Ytjbjflmpdmflmaa.R.wanted_of (j := 25) rfl rfl rfl dg (by rw [hag.2.1]; show 80 < 96; decide), fun K hK => ?_⟩
                have d85 : z.tmps.getD 85 undef = .int .i64 x1 := hdep { on := 30, ground := .data } (by simp) rfl _ _ rfl rfl
                have e85 := d85
                rw [Array.getD_eq_getD_getElem?] at e85
                have d91 : z.tmps.getD 91 undef = .int .i64 y2 := hdep { on := 36, ground := .data } (by simp) rfl _ _ rfl rfl
                have e91 := d91
                rw [Array.getD_eq_getD_getElem?] at e91
                have HSt := Lib.hid hst
                clear hdep hag hst
                go_simp
                exact hK _ _ (Below.refl _ _) rfl HSt.out
              · intro k z v hst hag hdep
                have dg : OrOkR g m c1 g2 c2 j j0 x1 x2 y2 22 (z.tmps.getD 77 undef) v := hdep { on := 22, ground := .guard } (by simp) rfl _ _ rfl rfl
                simp only [OrOkR] at dg
                refine .inl ⟨Go.Proofs.Ytjbjflmpdmflmaa.R.wanted_of (j := 22) rfl rfl rfl dg (by rw [hag.2.1]; show 77 < 96; decide), fun K hK => ?_⟩
                have d80 : z.tmps.getD 80 undef = .bool true := hdep { on := 25, ground := .data } (by simp) rfl _ _ rfl rfl
                have e80 := d80
                rw [Array.getD_eq_getD_getElem?] at e80
                have d92 : z.tmps.getD 92 undef = .bool false := hdep { on := 37, ground := .data } (by simp) rfl _ _ rfl rfl
                have e92 := d92
                rw [Array.getD_eq_getD_getElem?] at e92
                have HSt := Lib.hid hst
                clear hdep hag hst
                go_simp
                exact hK _ _ (Below.refl _ _) rfl HSt.out
              · intro k z v hst hag hdep
                refine .inl ⟨rfl, fun K hK => ?_⟩
                have d77 : z.tmps.getD 77 undef = .bool false := hdep { on := 22, ground := .data } (by simp) rfl _ _ rfl rfl
                have e77 := d77
                rw [Array.getD_eq_getD_getElem?] at e77
                have d93 : z.tmps.getD 93 undef = .bool false := hdep { on := 38, ground := .data } (by simp) rfl _ _ rfl rfl
                have e93 := d93
                rw [Array.getD_eq_getD_getElem?] at e93
                have HSt := Lib.hid hst
                clear hdep hag hst
                go_simp
                exact hK _ _ (Below.refl _ _) rfl HSt.out
            case hdoneR =>
              intro z v hst hag hok
              have hst : Below w4.heap.size w4 v := hst
              have d94 : z.tmps.getD 94 undef = .bool false := hok 39 _ 94 rfl rfl
              have HI := Lib.hid hst
              clear hst HF
              obtain ⟨uu, hu, hzz⟩ := Go.Proofs.Ytjbjflmpdmflmaa.R.agree_frame [55, 56, 57, 58, 59, 60, 61, 62, 63, 64, 65, 66, 67, 68, 69, 70, 71, 72, 73, 74, 75, 76, 77, 78, 79, 80, 81, 82, 83, 84, 85, 86, 87, 88, 89, 90, 91, 92, 93, 94] rfl hag
              have e94 := (hu 94).trans d94
              subst hzz
              simp only [List.foldl_cons, List.foldl_nil]
              rw [e94]
              clear e94 d94 hu hag hok
              try dsimp only [Exit.then]
              simp only [List.setIfInBounds_toArray, List.set_cons_succ, List.set_cons_zero]
              generalize uu 55 = u55', uu 56 = u56', uu 57 = u57', uu 58 = u58', uu 59 = u59', uu 60 = u60', uu 61 = u61', uu 62 = u62', uu 63 = u63', uu 64 = u64', uu 65 = u65', uu 66 = u66', uu 67 = u67', uu 68 = u68', uu 69 = u69', uu 70 = u70', uu 71 = u71', uu 72 = u72', uu 73 = u73', uu 74 = u74', uu 75 = u75', uu 76 = u76', uu 77 = u77', uu 78 = u78', uu 79 = u79', uu 80 = u80', uu 81 = u81', uu 82 = u82', uu 83 = u83', uu 84 = u84', uu 85 = u85', uu 86 = u86', uu 87 = u87', uu 88 = u88', uu 89 = u89', uu 90 = u90', uu 91 = u91', uu 92 = u92', uu 93 = u93'
              clear uu
              rename_i K hK
              refine hK _ _ ?_
              go_wp2_with fail
              go_roundw
              case rel => exact ⟨j + 1, by go_num, by omega, HI⟩
              case measure => simp [intOf]; omega

        · have hend := Lib.hid (HBE.out.trans (HF.out.mono HBE.out.size))
          have hd : decide (j < m) = false := decide_eq_false hlt
          clear HF
          go_wp2_with fail
          rw [← HP.out]
          exact ⟨rfl, hend.out⟩
end Go.Proofs.Ytjbjflmpdmflmaa.H
