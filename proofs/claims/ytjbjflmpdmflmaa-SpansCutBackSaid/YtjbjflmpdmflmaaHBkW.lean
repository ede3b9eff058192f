/- SpansCutBack: what is cut and added again is there again. -/
import Derived.Test.YtjbjflmpdmflmaaHTot
import Derived.Test.YtjbjflmpdmflmaaRelP
namespace Go.Proofs.Ytjbjflmpdmflmaa.H
open Go.RowKit

def BkOk (g m c1 g2 c2 j : Nat) (x1 x2 : Int) : Nat → Value → World → Prop
  | 0, u, _ => u = .slice (some ⟨g, 0, none⟩) m c1
  | 1, u, _ => u = .int .i64 (j : Int)
  | 2, u, _ => u = .pointer (some ⟨g, j * 2, none⟩)
  | 3, u, _ => u = .agg #[.int .i64 x1, .int .i64 x2]
  | 4, u, _ => u = .slice (some ⟨g2, 0, none⟩) m c2
  | 5, u, _ => u = .int .i64 (j : Int)
  | 6, u, _ => u = .pointer (some ⟨g2, j * 2, none⟩)
  | 7, u, _ => u = .agg #[.int .i64 x1, .int .i64 x2]
  | 8, u, _ => u = .bool false
  | _, _, _ => True

set_option maxRecDepth 100000 in
set_option maxHeartbeats 8000000 in
theorem back_walk (a : Option Addr) (n c : Nat) (l : List Sp) (s1 t1 : Int) (W : World) (h : PairsIn .i64 a n c l W) :
    Calls Try.prog 7 #[.slice a n c, .agg #[.int .i64 s1, .int .i64 t1]] W (BPost true W) := by
  obtain ⟨P, hP⟩ : ∃ P, BPost true W = P := ⟨_, rfl⟩
  rw [hP]
  have HP := Lib.hid hP
  obtain ⟨N, hN⟩ : ∃ N, min n 15 = N := ⟨_, rfl⟩
  have hNn : N ≤ n := by omega
  have hN20 : N ≤ 15 := by omega
  have hnc := h.fit
  have htop := h.top
  obtain ⟨L, hL⟩ : ∃ L, l.take N = L := ⟨_, rfl⟩
  have hF := h.front hNn
  rw [hL] at hF
  have HF := Lib.hid hF
  have HLn : Hid (L.length = N) := Lib.hid hF.len.symm
  obtain ⟨xb, hxb⟩ : ∃ xb, xb = W.heap.size := ⟨_, rfl⟩
  obtain ⟨W0, hW0⟩ : ∃ W0, W0 = W.alloc (.cells #[.int .i64 s1, .int .i64 t1] 24) := ⟨_, rfl⟩
  have HXB : Hid (W0.heap[xb]? = some (.cells #[.int .i64 s1, .int .i64 t1] 24 (0, 0))) := Lib.hid (by rw [hW0, hxb]; exact heap_alloc_new _ _)
  have HB0 : Hid (Below W.heap.size W W0) := Lib.hid (by rw [hW0]; exact alloc_below _ _)
  have HA := Lib.hid (awake_any W0)
  have HXb := Lib.hid hxb
  have HW0 := Lib.hid hW0
  clear hP h hL hF hxb hW0
  go_enter Try.func7, Try.ntmps7
  go_wp2_with fail
  rw [← HW0.out, ← HXb.out]
  refine HA.out.mono ?_
  rintro e W1 ⟨rfl, hb1⟩
  obtain ⟨s, hs⟩ : ∃ s, s = W1.heap.size := ⟨_, rfl⟩
  obtain ⟨W2, hW2⟩ : ∃ W2, W2 = (W1.alloc (.cells #[.slice none 0 0] 28)).alloc (.cells #[.slice none 0 0] 28) := ⟨_, rfl⟩
  have h2 : Two s (s + 1) [] [] W1 W2 := by rw [hW2, hs]; exact Two.new W1 _ rfl
  have HX1 : Hid (W1.heap[xb]? = some (.cells #[.int .i64 s1, .int .i64 t1] 24 (0, 0))) := Lib.hid (heap_moved HXB.out hb1)
  have HT := Lib.hid h2
  have HS := Lib.hid hs
  have HW := Lib.hid hW2
  have HB1 : Hid (Below W.heap.size W W1) := Lib.hid (HB0.out.trans (hb1.mono HB0.out.size))
  clear h2 hs hW2 hb1 HA HXB HB0 HW0 HXb
  go_wp2_with fail
  rw [← HW.out, ← HS.out]
  go_loopw [7] (fun i wr => ∃ k : Nat, i = .int .i64 (k : Int) ∧ k ≤ N ∧ Hid (Two s (s + 1) (addsS [] (L.take k)) (addsS [] (L.take k)) W1 wr)) (fun i _ => N - (intOf i).toNat)
  case atStart => exact ⟨0, rfl, by omega, HT⟩
  case round =>
    rename_i K hK
    obtain ⟨k, rfl, hk, HF2⟩ := hrel
    clear HT HW
    by_cases hlt : k < N
    · have hd : decide (k < n) = true := decide_eq_true (by omega)
      have hd2 : decide (k < 15) = true := decide_eq_true (by omega)
      have hkI : (k : Int) < n := by omega
      have hkI2 : (k : Int) < 15 := by omega
      have hkn : k < n := by omega
      have hb2 : Below W.heap.size W wr := HB1.out.trans (HF2.out.bel.mono HB1.out.size)
      obtain ⟨g, off, x, rfl, hg, hx, k0w, k1w⟩ := HF.out.one hlt
      have k0 := (hb2.cell (p := ⟨g, off + k * 2, none⟩) hg).trans k0w
      have k1 := (hb2.cell (p := ⟨g, off + k * 2 + 1, none⟩) hg).trans k1w
      obtain ⟨x1, x2⟩ := x
      simp only at k0 k1 k0w k1w
      have HX2 := Lib.hid (addsS_take L k _ hx)
      have hl1 : (addsS [] (L.take k)).length < 100000 := by have := addsS_len [] (L.take k); simp at this; omega
      obtain ⟨s1', hs1⟩ : ∃ s1', wr.heap.size = s1' := ⟨_, rfl⟩
      have HC1 := Lib.hid (HF2.out.act fun M hM => add_one x1 x2 hM (Nm.nil.adds _) hl1 s1' hs1)
      have HS1 := Lib.hid hs1
      have HG := Lib.hid hg
      have HY := Lib.hid (And.intro k0w k1w)
      have HL2 := Lib.hid hl1
      clear hb2 hx hl1 hs1 hg k0w k1w
      go_wp2_with fail
      rw [HS1.out]
      refine HC1.out.mono ?_
      rintro e w3 ⟨rfl, h3⟩
      have hb3 : Below W.heap.size W w3 := HB1.out.trans (h3.bel.mono HB1.out.size)
      rw [← HX2.out] at h3
      have k0 : w3.cell? ⟨g, off + k * 2, none⟩ = some (.int .i64 x1) := (hb3.cell HG.out).trans HY.out.1
      have k1 : w3.cell? ⟨g, off + k * 2 + 1, none⟩ = some (.int .i64 x2) := (hb3.cell HG.out).trans HY.out.2
      obtain ⟨s3, hs3⟩ : ∃ s3, w3.heap.size = s3 := ⟨_, rfl⟩
      have HC2 := Lib.hid (h3.swap.act fun M hM => add_one x1 x2 hM (Nm.nil.adds _) HL2.out s3 hs3)
      have HS3 := Lib.hid hs3
      clear hb3 h3 hs3 HC1 HS1 HY HL2 HG
      go_wp2_with fail
      rw [HS3.out]
      refine HC2.out.mono ?_
      rintro e w4 ⟨rfl, h4⟩
      rw [← HX2.out] at h4
      have H4 := Lib.hid h4.swap
      clear h4 HC2 HS3 HX2
      go_wp2_with fail
      go_roundw
      case rel => exact ⟨k + 1, by go_num, by omega, H4⟩
      case measure => simp [intOf]; omega
    · obtain rfl : k = N := by omega
      have hor : k = n ∧ (decide (k < n) = false) ∨ k = 15 ∧ k < n ∧ decide (k < n) = true := by
        by_cases hkn : k < n
        · exact .inr ⟨by omega, hkn, decide_eq_true hkn⟩
        · exact .inl ⟨by omega, decide_eq_false hkn⟩
      have e1 : L.take k = L := List.take_of_length_le (by rw [HLn.out]; exact Nat.le_refl _)
      have hT := HF2.out
      rw [e1] at hT
      have hln : (addsS [] L).length ≤ 1000 := by have := addsS_len [] L; rw [HLn.out] at this; simp at this; omega
      have hNm : Nm (addsS [] L) := Nm.nil.adds _
      obtain ⟨O, hO⟩ : ∃ O, addsS [] L = O := ⟨_, rfl⟩
      rw [hO] at hT hNm hln
      have hxr := heap_moved HX1.out hT.bel
      have lx0 : wr.cell? ⟨xb, 0, none⟩ = some (.int .i64 s1) := by rw [cell_block hxr]; rfl
      have lx1 : wr.cell? ⟨xb, 1, none⟩ = some (.int .i64 t1) := by rw [cell_block hxr]; rfl
      have HNm := Lib.hid hNm
      have HV := Lib.hid hT.v
      have HLn2 := Lib.hid hln
      have HC1 := Lib.hid (hT.see fun M hM => stin_any hM hNm (by omega) s1 t1)
      have HXR := Lib.hid hxr
      clear hT hNm hO e1 HF2 hlt HF HLn hN20 hk hN hln hxr hnc htop hNn
      have HK := Lib.hid hK
      clear hK
      suffices hrest : ∀ (u2 u8 u9 u10 u11 u12 u13 u14 u15 u16 u17 u18 u19 u20 u21 u22 u23 u24 u25 u26 u27 u28 u29 u30 u31 u32 u33 u34 u35 u36 u37 u38 u39 u40 u41 u42 u43 u44 u45 u46 u47 u48 u49 u50 u51 u52 u53 u54 u55 u56 u57 u58 u59 u60 u61 u62 u63 u64 u65 u66 u67 u68 : Value), K { tmps := #[.slice a n c, .agg #[.int .i64 s1, .int .i64 t1], u2, .pointer (some ⟨xb, 0, none⟩), .bool false, .pointer (some ⟨s, 0, none⟩), .pointer (some ⟨s + 1, 0, none⟩), .int .i64 (k : Int), u8, u9, u10, u11, u12, u13, u14, u15, u16, u17, u18, u19, u20, u21, u22, u23, u24, u25, u26, u27, u28, u29, u30, u31, u32, u33, u34, u35, u36, u37, u38, u39, u40, u41, u42, u43, u44, u45, u46, u47, u48, u49, u50, u51, u52, u53, u54, u55, u56, u57, u58, u59, u60, u61, u62, u63, u64, u65, u66, u67, u68], defers := [] } wr by
        have HR := Lib.hid hrest
        clear hrest lx0 lx1
        rcases hor with ⟨he, hd⟩ | ⟨he, hkn, hd⟩
        · subst he
          go_wp2_with fail
          exact HR.out _ _ _ _ _ _ _ _ _ _ _ _ _ _ _ _ _ _ _ _ _ _ _ _ _ _ _ _ _ _ _ _ _ _ _ _ _ _ _ _ _ _ _ _ _ _ _ _ _ _ _ _ _ _ _ _ _ _ _ _ _ _
        · subst he
          go_wp2_with fail
          exact HR.out _ _ _ _ _ _ _ _ _ _ _ _ _ _ _ _ _ _ _ _ _ _ _ _ _ _ _ _ _ _ _ _ _ _ _ _ _ _ _ _ _ _ _ _ _ _ _ _ _ _ _ _ _ _ _ _ _ _ _ _ _ _
      clear hor
      intro u2 u8 u9 u10 u11 u12 u13 u14 u15 u16 u17 u18 u19 u20 u21 u22 u23 u24 u25 u26 u27 u28 u29 u30 u31 u32 u33 u34 u35 u36 u37 u38 u39 u40 u41 u42 u43 u44 u45 u46 u47 u48 u49 u50 u51 u52 u53 u54 u55 u56 u57 u58 u59 u60 u61 u62 u63 u64 u65 u66 u67 u68
      refine HK.out _ _ ?_
      clear HK
      go_wp2_with fail
      refine HC1.out.mono ?_
      rintro e w3 ⟨v1, rfl, ho1, hb3⟩
      have hV := HV.out.got ho1 hb3
      obtain ⟨cv, hcv⟩ : ∃ cv, cutS O (s1, t1) = cv := ⟨_, rfl⟩
      obtain ⟨iv, hiv⟩ : ∃ iv, inS O (s1, t1) = iv := ⟨_, rfl⟩
      have hback := cut_back HNm.out (s1, t1)
      have hcin := cut_in HNm.out (s1, t1)
      have hcl := cutS_len O (s1, t1)
      have hil := in_len O (s1, t1)
      have hcN := HNm.out.cut (s1, t1)
      rw [hcv] at hback hcin hcl hcN
      rw [hiv] at hback hV hil
      obtain ⟨s3, hs3⟩ : ∃ s3, w3.heap.size = s3 := ⟨_, rfl⟩
      have hln := HLn2.out
      have hC2 := hV.act fun M hM _ => cut_one s1 t1 hM HNm.out (by omega) s3 hs3
      rw [hcv] at hC2
      have hx3 := heap_moved HXR.out hb3
      have lx0 : w3.cell? ⟨xb, 0, none⟩ = some (.int .i64 s1) := by rw [cell_block hx3]; rfl
      have lx1 : w3.cell? ⟨xb, 1, none⟩ = some (.int .i64 t1) := by rw [cell_block hx3]; rfl
      have HC2 := Lib.hid hC2
      have HX3 := Lib.hid hx3
      have HS3 := Lib.hid hs3
      have HBk := Lib.hid hback
      have HCi := Lib.hid hcin
      have HCl : Hid (cv.length ≤ 2000 ∧ iv.length ≤ 2000) := Lib.hid ⟨by omega, by omega⟩
      have HCN := Lib.hid hcN
      clear ho1 hb3 hV hcv hiv hback hcin hcl hil hcN hs3 hln hC2 hx3 HC1 HV HXR
      go_wp2_with fail
      rw [HS3.out]
      refine HC2.out.mono ?_
      rintro e w4 ⟨rfl, h4⟩
      have hx4 := heap_moved HX1.out h4.two.bel
      have lx0 : w4.cell? ⟨xb, 0, none⟩ = some (.int .i64 s1) := by rw [cell_block hx4]; rfl
      have lx1 : w4.cell? ⟨xb, 1, none⟩ = some (.int .i64 t1) := by rw [cell_block hx4]; rfl
      have hC3 := h4.see fun M hM => stin_any hM HCN.out (by have := HCl.out.1; omega) s1 t1
      rw [HCi.out] at hC3
      have HC3 := Lib.hid hC3
      have H4 := Lib.hid h4
      clear hx4 hC3 h4 HC2 HX3 HS3
      go_wp2_with fail
      refine HC3.out.mono ?_
      rintro e w5 ⟨v5, rfl, ho5, hb5⟩
      obtain ⟨a5, c5, rfl, -, -, -⟩ := ho5.shape
      have h5 := H4.out.below hb5
      have hC4 := h5.act fun M hM hv => add_own (L := iv) hM HCN.out (by have := HCl.out; omega) (hv _ List.mem_cons_self).1 (hv _ List.mem_cons_self).2
      rw [HBk.out] at hC4
      have HC4 := Lib.hid hC4
      clear ho5 hb5 h5 hC4 HC3 H4
      simp only [List.length_nil]
      go_wp2_with fail
      refine HC4.out.mono ?_
      rintro e w6 ⟨rfl, h6⟩
      have hll : O.length ≤ 100000 := by have := HLn2.out; omega
      have hT := h6.two
      obtain ⟨m, hm⟩ : ∃ m, O.length = m := ⟨_, rfl⟩
      have hln := HLn2.out
      rw [hm] at hln
      have HT := Lib.hid hT
      have HLl := Lib.hid hll
      have HM := Lib.hid hm
      have HC1 := Lib.hid (hT.see fun M hM => stspans_any hM hll)
      clear hT hll hm h6 HC4 lx0 lx1
      go_wp2_with fail
      refine HC1.out.mono ?_
      rintro e w3 ⟨v1, rfl, ho1, hb3⟩
      have hT3 := HT.out.below hb3
      have HC2 := Lib.hid (hT3.swap.see fun M hM => stspans_any hM HLl.out)
      have HO1 := Lib.hid ho1
      have HT3 := Lib.hid hT3
      clear ho1 hb3 hT3 HC1 HT
      go_wp2_with fail
      refine HC2.out.mono ?_
      rintro e w4 ⟨v2, rfl, ho2, hb4⟩
      have ho1 := HO1.out.belowAll hb4
      obtain ⟨a1, c1, rfl, hI1, hA1, -⟩ := ho1.shape
      obtain ⟨a2, c2, rfl, hI2, hA2, -⟩ := ho2.shape
      rw [HM.out] at hI1 hI2 ⊢
      have HI1 := Lib.hid hI1
      have HI2 := Lib.hid hI2
      have HA1 : Hid (∀ b off, a1 = some ⟨b, off, none⟩ → off = 0) := Lib.hid fun b off e => (hA1 b off e).2.2
      have HA2 : Hid (∀ b off, a2 = some ⟨b, off, none⟩ → off = 0) := Lib.hid fun b off e => (hA2 b off e).2.2
      have hT4 := HT3.out.below hb4
      have q1 : ((m : Int) != (m : Int)) = false := by simp
      have HBE : Hid (Below W.heap.size W w4) := Lib.hid (HB1.out.trans (hT4.bel.mono HB1.out.size))
      clear ho1 ho2 hb4 hI1 hI2 hA1 hA2 hT4 HC2 HO1 HT3
      go_wp2_with fail
      clear q1
      go_loopw [56] (fun i wr => ∃ j : Nat, i = .int .i64 (j : Int) ∧ j ≤ m ∧ Hid (Below w4.heap.size w4 wr)) (fun i _ => m - (intOf i).toNat)
      case atStart => exact ⟨0, rfl, by omega, Lib.hid (Below.refl _ _)⟩
      case round =>
        obtain ⟨j, rfl, hj, HF⟩ := hrel
        by_cases hlt : j < m
        · have hd : decide (j < m) = true := decide_eq_true hlt
          have hjI : (j : Int) < m := by omega
          obtain ⟨g, off, x, rfl, hg1, hx, k0, k1⟩ := HI1.out.one hlt
          obtain ⟨g2, off2, x', rfl, hg2, hx', k0', k1'⟩ := HI2.out.one hlt
          obtain rfl := HA1.out _ _ rfl
          obtain rfl := HA2.out _ _ rfl
          obtain rfl : x = x' := by rw [hx] at hx'; injection hx'
          obtain ⟨x1, x2⟩ := x
          simp only at k0 k1 k0' k1'
          rw [Nat.zero_add] at k0 k1 k0' k1'
          have L0 := Lib.hid (And.intro k0 k1)
          have M0 := Lib.hid (And.intro k0' k1')
          clear hx hx' k0 k1 k0' k1'
          go_upto_region 20 with fail
          refine Go.Proofs.Ytjbjflmpdmflmaa.R.wp_region_prog [] (by kernel_rfl) (fun _ _ u => Below w4.heap.size w4 u) (fun a b => Below a.heap.size a b) (BkOk g m c1 g2 c2 j x1 x2) (by rfl) (by kernel_rfl) (by kernel_rfl) (by kernel_rfl) ?hcong ?hOk ?hop ?hdone ?h0
          case hcong => intro k f f2 u hs hst; exact hst
          case hOk => intro i u w1 w2 h hr; unfold BkOk at h ⊢; split at h <;> exact h
          case h0 => exact HF.out.trans (((Below.refl _ _).drew).mono HF.out.size)
          case hop =>
            refine ⟨?_, ?_, ?_, ?_, ?_, ?_, ?_, ?_, ?_, trivial⟩
            · intro k z v hst hag hdep
              refine .inl ⟨rfl, fun K hK => ?_⟩
              have d9 : z.tmps.getD 9 undef = .slice (some ⟨g, 0, none⟩) m c1 := hag.2.2 9 (by kernel_rfl)
              have e9 := d9
              rw [Array.getD_eq_getD_getElem?] at e9
              have HSt := Lib.hid hst
              clear hdep hag hst
              go_simp
              exact hK _ _ (Below.refl _ _) rfl HSt.out
            · intro k z v hst hag hdep
              refine .inl ⟨rfl, fun K hK => ?_⟩
              have d11 : z.tmps.getD 11 undef = .int .i64 (j : Int) := hag.2.2 11 (by kernel_rfl)
              have e11 := d11
              rw [Array.getD_eq_getD_getElem?] at e11
              have HSt := Lib.hid hst
              clear hdep hag hst
              go_simp
              exact hK _ _ (Below.refl _ _) rfl HSt.out
            · intro k z v hst hag hdep
              refine .inl ⟨rfl, fun K hK => ?_⟩
              have d59 : z.tmps.getD 59 undef = .slice (some ⟨g, 0, none⟩) m c1 := hdep { on := 0, ground := .data } (by simp) rfl _ _ rfl rfl
              have e59 := d59
              rw [Array.getD_eq_getD_getElem?] at e59
              have d60 : z.tmps.getD 60 undef = .int .i64 (j : Int) := hdep { on := 1, ground := .data } (by simp) rfl _ _ rfl rfl
              have e60 := d60
              rw [Array.getD_eq_getD_getElem?] at e60
              have HSt := Lib.hid hst
              clear hdep hag hst
              go_simp
              exact hK _ _ (Below.refl _ _) rfl HSt.out
            · intro k z v hst hag hdep
              refine .inl ⟨rfl, fun K hK => ?_⟩
              have d61 : z.tmps.getD 61 undef = .pointer (some ⟨g, j * 2, none⟩) := hdep { on := 2, ground := .data } (by simp) rfl _ _ rfl rfl
              have e61 := d61
              rw [Array.getD_eq_getD_getElem?] at e61
              have hst : Below w4.heap.size w4 v := hst
              have l0 := (hst.cell hg1).trans L0.out.1
              have l1 := (hst.cell hg1).trans L0.out.2
              have HSt := Lib.hid hst
              clear hdep hag hst
              go_simp
              exact hK _ _ (Below.refl _ _) rfl HSt.out
            · intro k z v hst hag hdep
              refine .inl ⟨rfl, fun K hK => ?_⟩
              have d10 : z.tmps.getD 10 undef = .slice (some ⟨g2, 0, none⟩) m c2 := hag.2.2 10 (by kernel_rfl)
              have e10 := d10
              rw [Array.getD_eq_getD_getElem?] at e10
              have HSt := Lib.hid hst
              clear hdep hag hst
              go_simp
              exact hK _ _ (Below.refl _ _) rfl HSt.out
            · intro k z v hst hag hdep
              refine .inl ⟨rfl, fun K hK => ?_⟩
              have d11 : z.tmps.getD 11 undef = .int .i64 (j : Int) := hag.2.2 11 (by kernel_rfl)
              have e11 := d11
              rw [Array.getD_eq_getD_getElem?] at e11
              have HSt := Lib.hid hst
              clear hdep hag hst
              go_simp
              exact hK _ _ (Below.refl _ _) rfl HSt.out
            · intro k z v hst hag hdep
              refine .inl ⟨rfl, fun K hK => ?_⟩
              have d63 : z.tmps.getD 63 undef = .slice (some ⟨g2, 0, none⟩) m c2 := hdep { on := 4, ground := .data } (by simp) rfl _ _ rfl rfl
              have e63 := d63
              rw [Array.getD_eq_getD_getElem?] at e63
              have d64 : z.tmps.getD 64 undef = .int .i64 (j : Int) := hdep { on := 5, ground := .data } (by simp) rfl _ _ rfl rfl
              have e64 := d64
              rw [Array.getD_eq_getD_getElem?] at e64
              have HSt := Lib.hid hst
              clear hdep hag hst
              go_simp
              exact hK _ _ (Below.refl _ _) rfl HSt.out
            · intro k z v hst hag hdep
              refine .inl ⟨rfl, fun K hK => ?_⟩
              have d65 : z.tmps.getD 65 undef = .pointer (some ⟨g2, j * 2, none⟩) := hdep { on := 6, ground := .data } (by simp) rfl _ _ rfl rfl
              have e65 := d65
              rw [Array.getD_eq_getD_getElem?] at e65
              have hst : Below w4.heap.size w4 v := hst
              have l0 := (hst.cell hg2).trans M0.out.1
              have l1 := (hst.cell hg2).trans M0.out.2
              have HSt := Lib.hid hst
              clear hdep hag hst
              go_simp
              exact hK _ _ (Below.refl _ _) rfl HSt.out
            · intro k z v hst hag hdep
              refine .inl ⟨rfl, fun K hK => ?_⟩
              have d62 : z.tmps.getD 62 undef = .agg #[.int .i64 x1, .int .i64 x2] := hdep { on := 3, ground := .data } (by simp) rfl _ _ rfl rfl
              have e62 := d62
              rw [Array.getD_eq_getD_getElem?] at e62
              have d66 : z.tmps.getD 66 undef = .agg #[.int .i64 x1, .int .i64 x2] := hdep { on := 7, ground := .data } (by simp) rfl _ _ rfl rfl
              have e66 := d66
              rw [Array.getD_eq_getD_getElem?] at e66
              have HSt := Lib.hid hst
              clear hdep hag hst
              go_simp
              exact hK _ _ (Below.refl _ _) rfl HSt.out
          case hdone =>
            intro z v hst hag hok
            have hst : Below w4.heap.size w4 v := hst
            have d67 : z.tmps.getD 67 undef = .bool false := hok 8 _ 67 rfl rfl
            have HI := Lib.hid hst
            clear hst HF
            obtain ⟨uu, hu, hzz⟩ := Go.Proofs.Ytjbjflmpdmflmaa.R.agree_frame [59, 60, 61, 62, 63, 64, 65, 66, 67] rfl hag
            have e67 := (hu 67).trans d67
            subst hzz
            simp only [List.foldl_cons, List.foldl_nil]
            rw [e67]
            clear e67 d67 hu hag hok
            try dsimp only [Exit.then]
            simp only [List.setIfInBounds_toArray, List.set_cons_succ, List.set_cons_zero]
            generalize uu 59 = u59', uu 60 = u60', uu 61 = u61', uu 62 = u62', uu 63 = u63', uu 64 = u64', uu 65 = u65', uu 66 = u66'
            clear uu
            rename_i K2 hK2
            refine hK2 _ _ ?_
            go_wp2_with fail
            go_roundw
            case rel => exact ⟨j + 1, by go_num, by omega, HI⟩
            case measure => simp [intOf]; omega
        · have hend := Lib.hid (HBE.out.trans (HF.out.mono HBE.out.size))
          have hd : decide (j < m) = false := decide_eq_false hlt
          clear HF
          go_wp2_with fail
          rw [← HP.out]
          exact ⟨rfl, hend.out⟩
end Go.Proofs.Ytjbjflmpdmflmaa.H
