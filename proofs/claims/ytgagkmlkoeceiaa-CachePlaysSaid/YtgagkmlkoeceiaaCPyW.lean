/- CachePlays: behind any calls just the document's lines are at hand, never more than may be: the walk. -/
import Derived.Test.YtgagkmlkoeceiaaMerged11
import Derived.Test.YtgagkmlkoeceiaaCAwk
namespace Go.Proofs.Ytgagkmlkoeceiaa.C
open Go.RowKit Go.Maps Go.Proofs.Ytgagkmlkoeceiaa.H

def DcT (c xb : Nat) (x : Ca) (W : World) (v : Value) (u : World) : Prop := ∃ X', v = .tuple #[X', .bool true] ∧ DoN c xb x W X' u
def PyOk10 (c xb b off n lc jx sn sc : Nat) (m9 kd ai : Int) (a9 sa : Option Addr) (n9 k9 : Nat) : Nat → Value → World → Prop
  | 0, u, _ => u = .pointer (some ⟨c, 0, none⟩)
  | 1, u, _ => u = .agg #[.int .i64 m9, .slice a9 n9 k9]
  | 2, u, _ => u = .slice (some ⟨b, off, none⟩) n lc
  | 3, u, _ => u = .int .i64 (jx : Int)
  | 4, u, _ => u = .pointer (some ⟨b, off + jx * 3, none⟩)
  | 5, u, _ => u = .agg #[.int .i64 kd, .int .i64 ai, .slice sa sn sc]
  | 6, _, _ => True
  | 7, u, w => ∃ X', u = .tuple #[X', .bool true]
  | 8, _, _ => True
  | 9, u, _ => u = .bool true
  | 10, _, _ => True
  | 11, u, _ => u = .bool true
  | _, _, _ => True
set_option maxRecDepth 100000 in
set_option maxHeartbeats 16000000 in
theorem plays_walk (m0 : Int) (a0 : Option Addr) (n lc : Nat) (As : List CAct) (W : World) (h : CActsIn a0 n lc As W) (hAs : ∀ A ∈ As, -9223372036854775808 ≤ A.i ∧ A.i ≤ 9223372036854775807) (hm0 : -9223372036854775808 ≤ m0 ∧ m0 ≤ 9223372036854775807) :
    Calls Try.prog 3 #[.int .i64 m0, .slice a0 n lc] W (AwkPost W) := by
  obtain ⟨P, hP⟩ : ∃ P, AwkPost W = P := ⟨_, rfl⟩
  rw [hP]
  have HP := Lib.hid hP
  have HAct := Lib.hid h
  have HAb := Lib.hid hAs
  have HA := Lib.hid (awake_any W)
  have HM0 := Lib.hid hm0
  obtain ⟨mo, hmo⟩ : ∃ mo, mostN m0 = mo := ⟨_, rfl⟩
  have hmx : max 1 (min m0 65536) = (mo : Int) := by rw [← hmo]; unfold mostN; omega
  have HMo := Lib.hid hmo
  have hnc := h.fit
  have htop := h.top
  obtain ⟨N, hN⟩ : ∃ N, min n 40 = N := ⟨_, rfl⟩
  have HNn : Hid (N ≤ n ∧ N ≤ 40 ∧ (N = n ∨ N = 40)) := Lib.hid ⟨by omega, by omega, by omega⟩
  clear hP h hAs hm0 hmo hN
  go_enter Try.func3, Try.ntmps3
  go_wp2_with fail
  refine HA.out.mono ?_
  rintro r W1 ⟨rfl, hb1⟩
  have HB1 := Lib.hid hb1
  have HNw := Lib.hid (OneC.new m0 HM0.out W1 W1 (Below.refl _ _))
  have hzC := zeroRC
  clear hb1 HA
  go_wp2_with fail
  refine HNw.out.mono ?_
  rintro r W2 ⟨c, rfl, h2⟩
  have HRn := Lib.hid (rnew_any m0 W2)
  rw [HMo.out] at h2
  have H2 := Lib.hid h2
  clear h2 HNw
  go_wp2_with fail
  refine HRn.out.mono ?_
  rintro r W3 ⟨rfl, hb3⟩
  rw [HMo.out]
  have h4 := DoI.start H2.out hb3
  obtain ⟨W4, hW4⟩ : ∃ W4, W3.alloc (.cells #[.int .i64 (mo : Int), .slice none 0 0] 28) = W4 := ⟨_, rfl⟩
  obtain ⟨xb, hxb⟩ : ∃ xb, W3.heap.size = xb := ⟨_, rfl⟩
  rw [hW4, hxb] at h4
  have HT : Hid (∃ x, DoI c xb x W1 W4 ∧ GoodL x ∧ x.L.length ≤ 0 ∧ x.most = mo) := Lib.hid ⟨_, h4, (fun y hy => by cases hy), Nat.le_refl _, rfl⟩
  have HW4 := Lib.hid hW4
  have HXb := Lib.hid hxb
  clear hb3 h4 hW4 hxb HRn H2
  go_upto_region 4 with fail
  rw [HW4.out, HXb.out]
  clear HW4 HXb
  go_wp2_with fail
  obtain ⟨WB, hWB⟩ : ∃ WB, WB = W1 := ⟨_, rfl⟩
  rw [← hWB] at HT
  have HWB := Lib.hid hWB
  clear hWB
  go_loopw [8] (fun i wr => ∃ jx : Nat, i = .int .i64 (jx : Int) ∧ jx ≤ N ∧ Hid (∃ x, DoI c xb x WB wr ∧ GoodL x ∧ x.L.length ≤ jx ∧ x.most = mo)) (fun i _ => N - (intOf i).toNat)
  case atStart => exact ⟨0, rfl, Nat.zero_le _, HT⟩
  case round =>
    obtain ⟨jx, rfl, hj, HF⟩ := hrel
    clear HT
    obtain ⟨x, hI, hG, hL, hMo⟩ := HF.out
    have hWW : Below W.heap.size W wr := HB1.out.trans ((by rw [← HWB.out]; exact hI.bel : Below W1.heap.size W1 wr).mono HB1.out.size)
    by_cases hlt : jx < N
    · have hn1 := HNn.out.1
      have hn2 := HNn.out.2.1
      have hd : decide (jx < n) = true := decide_eq_true (by omega)
      have hd2 : decide (jx < 40) = true := decide_eq_true (by omega)
      have hjI : (jx : Int) < n := by omega
      have hjI2 : (jx : Int) < 40 := by omega
      have hjn : jx < n := by omega
      obtain ⟨b, off, A, rfl, hb, hA, k0, k1, k2⟩ := HAct.out.one hjn
      have k0 := (hWW.cell (p := ⟨b, off + jx * 3, none⟩) hb).trans k0
      have k1 := (hWW.cell (p := ⟨b, off + jx * 3 + 1, none⟩) hb).trans k1
      have k2 := (hWW.cell (p := ⟨b, off + jx * 3 + 2, none⟩) hb).trans k2
      have hsub := HAct.out.sub A (List.mem_of_getElem? hA)
      have hai := HAb.out A (List.mem_of_getElem? hA)
      obtain ⟨kd, ai, sa, sn, sc, g⟩ := A
      simp only at k0 k1 k2 hsub hai
      obtain ⟨m9, a9, n9, k9, hxc, hdo⟩ := hI.call hG (by omega) (kd := kd) (hsub.1.belowAll hWW) hsub.2.1 hsub.2.2 hai
      obtain ⟨y, hy⟩ : ∃ y, stepC x kd ai (g.take 20) = y := ⟨_, rfl⟩
      rw [hy] at hdo
      have HY : Hid (GoodL y ∧ y.L.length ≤ jx + 1 ∧ y.most = mo) := Lib.hid ⟨by rw [← hy]; exact hG.step hsub.2.2, by rw [← hy]; have := step_len x kd ai (g.take 20); omega, by rw [← hy, step_most]; exact hMo⟩
      have HDo := Lib.hid hdo
      have HXb := Lib.hid hxc
      have HK : Hid (wr.cell? ⟨b, off + jx * 3, none⟩ = some (.int .i64 kd) ∧ wr.cell? ⟨b, off + jx * 3 + 1, none⟩ = some (.int .i64 ai) ∧ wr.cell? ⟨b, off + jx * 3 + 2, none⟩ = some (.slice sa sn sc)) := Lib.hid ⟨k0, k1, k2⟩
      clear hI hG hL hMo hWW hb hA k0 k1 k2 hsub hai hxc hdo hy HF
      go_upto_region 10 with fail
      refine Go.Proofs.Ytgagkmlkoeceiaa.R.wp_region_due [6, 7, 8, 10] [0, 0, 0, 0, 0, 0, 1, 2, 3, 4, 4, 4] (by kernel_rfl) (QuaS (EqD wr) (DcT c xb y WB) (DcT c xb y WB) (fun v u => DoN c xb y WB v u) (fun _ u => DoI c xb y WB u) 34 27 35 35) (fun _ _ => True) (PyOk10 c xb b off n lc jx sn sc m9 kd ai a9 sa n9 k9) (by rfl) (by kernel_rfl) (by kernel_rfl) (by kernel_rfl) (by kernel_rfl) ?hcong ?hOk ?hop ?hdone ?h0
      case hcong => exact fun k f f2 u hs hst => QuaS.cong (fun hk => hs 34 (Go.Proofs.Ytgagkmlkoeceiaa.R.mem_slots (by subst hk; kernel_rfl))) (fun hk => hs 27 (Go.Proofs.Ytgagkmlkoeceiaa.R.mem_slots (by subst hk; kernel_rfl))) (fun hk => hs 35 (Go.Proofs.Ytgagkmlkoeceiaa.R.mem_slots (by subst hk; kernel_rfl))) (fun hk => hs 35 (Go.Proofs.Ytgagkmlkoeceiaa.R.mem_slots (by subst hk; kernel_rfl))) hst
      case hOk => intro i u w1 w2 h hr; unfold PyOk10 at h ⊢; split <;> first | exact True.intro | exact h
      case h0 => exact (EqD.refl wr).drew
      case hop =>
        refine ⟨?_, ?_, ?_, ?_, ?_, ?_, ?_, ?_, ?_, ?_, ?_, ?_, trivial⟩
        · intro k z v hk hst hag hdep
          refine .inl ⟨rfl, fun K hK => ?_⟩
          have d5 : z.tmps.getD 5 undef = .pointer (some ⟨c, 0, none⟩) := hag.2.2 5 (by kernel_rfl)
          have e5 := d5
          rw [Array.getD_eq_getD_getElem?] at e5
          have HSt := Lib.hid hst
          clear hdep hag hst
          go_simp
          exact hK _ _ trivial rfl HSt.out
        · intro k z v hk hst hag hdep
          refine .inl ⟨rfl, fun K hK => ?_⟩
          have d6 : z.tmps.getD 6 undef = .pointer (some ⟨xb, 0, none⟩) := hag.2.2 6 (by kernel_rfl)
          have e6 := d6
          rw [Array.getD_eq_getD_getElem?] at e6
          obtain rfl : k = 0 := by have : k ≤ 0 := hk; omega
          have hq : EqD wr v := hst
          have l0 := (hq.cell _).trans HXb.out.2.1
          have l1 := (hq.cell _).trans HXb.out.2.2
          clear hq
          have HSt := Lib.hid hst
          clear hdep hag hst
          go_simp
          exact hK _ _ trivial rfl HSt.out
        · intro k z v hk hst hag hdep
          refine .inl ⟨rfl, fun K hK => ?_⟩
          have d1 : z.tmps.getD 1 undef = .slice (some ⟨b, off, none⟩) n lc := hag.2.2 1 (by kernel_rfl)
          have e1 := d1
          rw [Array.getD_eq_getD_getElem?] at e1
          have HSt := Lib.hid hst
          clear hdep hag hst
          go_simp
          exact hK _ _ trivial rfl HSt.out
        · intro k z v hk hst hag hdep
          refine .inl ⟨rfl, fun K hK => ?_⟩
          have d8 : z.tmps.getD 8 undef = .int .i64 (jx : Int) := hag.2.2 8 (by kernel_rfl)
          have e8 := d8
          rw [Array.getD_eq_getD_getElem?] at e8
          have HSt := Lib.hid hst
          clear hdep hag hst
          go_simp
          exact hK _ _ trivial rfl HSt.out
        · intro k z v hk hst hag hdep
          refine .inl ⟨rfl, fun K hK => ?_⟩
          have d30 : z.tmps.getD 30 undef = .slice (some ⟨b, off, none⟩) n lc := hdep { on := 2, ground := .data } (by simp) rfl _ _ rfl rfl
          have e30 := d30
          rw [Array.getD_eq_getD_getElem?] at e30
          have d31 : z.tmps.getD 31 undef = .int .i64 (jx : Int) := hdep { on := 3, ground := .data } (by simp) rfl _ _ rfl rfl
          have e31 := d31
          rw [Array.getD_eq_getD_getElem?] at e31
          have HSt := Lib.hid hst
          clear hdep hag hst
          go_simp
          exact hK _ _ trivial rfl HSt.out
        · intro k z v hk hst hag hdep
          refine .inl ⟨rfl, fun K hK => ?_⟩
          have d32 : z.tmps.getD 32 undef = .pointer (some ⟨b, off + jx * 3, none⟩) := hdep { on := 4, ground := .data } (by simp) rfl _ _ rfl rfl
          have e32 := d32
          rw [Array.getD_eq_getD_getElem?] at e32
          obtain rfl : k = 0 := by have : k ≤ 0 := hk; omega
          have hq : EqD wr v := hst
          have l0 := (hq.cell _).trans HK.out.1
          have l1 := (hq.cell _).trans HK.out.2.1
          have l2 := (hq.cell _).trans HK.out.2.2
          clear hq
          have HSt := Lib.hid hst
          clear hdep hag hst
          go_simp
          exact hK _ _ trivial rfl HSt.out
        · intro z v hst hag hdep
          refine ⟨rfl, fun K hK => ?_⟩
          have d28 : z.tmps.getD 28 undef = .pointer (some ⟨c, 0, none⟩) := hdep { on := 0, ground := .data } (by simp) rfl _ _ rfl rfl
          have e28 := d28
          rw [Array.getD_eq_getD_getElem?] at e28
          have d29 : z.tmps.getD 29 undef = .agg #[.int .i64 m9, .slice a9 n9 k9] := hdep { on := 1, ground := .data } (by simp) rfl _ _ rfl rfl
          have e29 := d29
          rw [Array.getD_eq_getD_getElem?] at e29
          have d33 : z.tmps.getD 33 undef = .agg #[.int .i64 kd, .int .i64 ai, .slice sa sn sc] := hdep { on := 5, ground := .data } (by simp) rfl _ _ rfl rfl
          have e33 := d33
          rw [Array.getD_eq_getD_getElem?] at e33
          have hsz : 34 < z.tmps.size := by rw [hag.2.1]; show 34 < 53; decide
          have hq : EqD wr v := hst
          have HC := Lib.hid (HDo.out v hq)
          clear hdep hag hst hq
          go_simp
          refine HC.out.mono ?_
          rintro e w' ⟨X', rfl, h9⟩
          exact hK _ _ trivial True.intro (by
    show DcT _ _ _ _ _ _
    rw [Go.Proofs.Ytgagkmlkoeceiaa.R.slot_same hsz]
    exact ⟨X', rfl, h9⟩)
        · intro z v hst hag hdep
          refine ⟨rfl, fun K hK => ?_⟩
          have hsz : 27 < z.tmps.size := by rw [hag.2.1]; show 27 < 53; decide
          obtain ⟨X', f0, hx⟩ : DcT c xb y WB (Go.Proofs.Ytgagkmlkoeceiaa.R.slot z 34) v := hst
          have d34 : z.tmps.getD 34 undef = .tuple #[X', .bool true] := f0
          have e34 := d34
          rw [Array.getD_eq_getD_getElem?] at e34
          have HX := Lib.hid hx
          clear hdep hag hx f0
          go_simp
          exact hK _ _ trivial ⟨X', rfl⟩ (by
    show DcT _ _ _ _ _ _
    rw [Go.Proofs.Ytgagkmlkoeceiaa.R.slot_same hsz]
    exact ⟨X', rfl, HX.out⟩)
        · intro z v hst hag hdep
          refine ⟨rfl, fun K hK => ?_⟩
          have d27' : PyOk10 c xb b off n lc jx sn sc m9 kd ai a9 sa n9 k9 7 (z.tmps.getD 27 undef) v := hdep { on := 7, ground := .data } (by simp) rfl _ _ rfl rfl
          simp only [PyOk10] at d27'
          obtain ⟨X6, d27⟩ := d27'
          have e27 := d27
          rw [Array.getD_eq_getD_getElem?] at e27
          have hsz : 35 < z.tmps.size := by rw [hag.2.1]; show 35 < 53; decide
          obtain ⟨X', f0, hx⟩ : DcT c xb y WB (Go.Proofs.Ytgagkmlkoeceiaa.R.slot z 27) v := hst
          obtain rfl : X6 = X' := by simpa using d27.symm.trans f0
          have HX := Lib.hid hx
          clear hdep hag hx f0 d27
          go_simp
          exact hK _ _ trivial True.intro (by
    show DoN _ _ _ _ _ _
    rw [Go.Proofs.Ytgagkmlkoeceiaa.R.slot_same hsz]
    exact HX.out)
        · intro k z v hk hst hag hdep
          refine .inl ⟨rfl, fun K hK => ?_⟩
          have d27' : PyOk10 c xb b off n lc jx sn sc m9 kd ai a9 sa n9 k9 7 (z.tmps.getD 27 undef) v := hdep { on := 7, ground := .data } (by simp) rfl _ _ rfl rfl
          simp only [PyOk10] at d27'
          obtain ⟨X6, d27⟩ := d27'
          have e27 := d27
          rw [Array.getD_eq_getD_getElem?] at e27
          have HSt := Lib.hid hst
          clear hdep hag hst
          go_simp
          exact hK _ _ trivial rfl HSt.out
        · intro z v hst hag hdep
          refine ⟨rfl, fun K hK => ?_⟩
          have d6 : z.tmps.getD 6 undef = .pointer (some ⟨xb, 0, none⟩) := hag.2.2 6 (by kernel_rfl)
          have e6 := d6
          rw [Array.getD_eq_getD_getElem?] at e6
          have hx : DoN c xb y WB (Go.Proofs.Ytgagkmlkoeceiaa.R.slot z 35) v := hst
          obtain ⟨mm, aa, nn, kk, f0⟩ := hx.agg
          have d35 : z.tmps.getD 35 undef = .agg #[.int .i64 mm, .slice aa nn kk] := f0
          have e35 := d35
          rw [Array.getD_eq_getD_getElem?] at e35
          rw [f0] at hx
          obtain ⟨z0, z1, hz, hn⟩ := hx.store
          have hz1 : (v.setCell ⟨xb, 0, none⟩ (.int .i64 mm)).heap[xb]? = some (.cells #[.int .i64 mm, z1] 28 (0, 0)) := by simp [World.setCell, Array.getElem?_modify, hz]
          have s0 : v.cell? ⟨xb, 0, none⟩ = some z0 := by rw [cell_block hz]; rfl
          have s1 : (v.setCell ⟨xb, 0, none⟩ (.int .i64 mm)).cell? ⟨xb, 1, none⟩ = some z1 := by rw [cell_block hz1]; rfl
          have g0 := frozen_block hz 0
          have g1 := frozen_block hz1 1
          have HN := Lib.hid hn
          clear hdep hag hst hx hn hz hz1 f0
          go_simp
          exact hK undef _ trivial True.intro HN.out
        · intro k z v hk hst hag hdep
          refine .inl ⟨rfl, fun K hK => ?_⟩
          have d36 : z.tmps.getD 36 undef = .bool true := hdep { on := 9, ground := .data } (by simp) rfl _ _ rfl rfl
          have e36 := d36
          rw [Array.getD_eq_getD_getElem?] at e36
          have HSt := Lib.hid hst
          clear hdep hag hst
          go_simp
          exact hK _ _ trivial rfl HSt.out
      case hdone =>
        intro z w3 hst hag hok
        have h3 : DoI c xb y WB w3 := hst
        have d7 : z.tmps.getD 7 undef = .bool true := hok 11 _ 7 rfl rfl
        have H3 := Lib.hid h3
        clear hst h3
        obtain ⟨uu, hu, hzz⟩ := Go.Proofs.Ytgagkmlkoeceiaa.R.agree_frame [28, 29, 30, 31, 32, 33, 34, 27, 35, 36, 7] rfl hag
        have e7 := (hu 7).trans d7
        subst hzz
        simp only [List.foldl_cons, List.foldl_nil]
        rw [e7]
        clear e7 d7 hu hag hok
        try dsimp only [Exit.then]
        simp only [List.setIfInBounds_toArray, List.set_cons_succ, List.set_cons_zero]
        generalize uu 28 = u28', uu 29 = u29', uu 30 = u30', uu 31 = u31', uu 32 = u32', uu 33 = u33', uu 34 = u34', uu 27 = u27', uu 35 = u35', uu 36 = u36'
        clear uu
        obtain ⟨m2, a2, n2, k2, hxc, his⟩ := H3.out.is_ HY.out.1 (by have := HY.out.2.1; omega)
        have x0 := hxc.1
        have x1 := hxc.2
        have HIs := Lib.hid his
        clear hxc his
        go_wp2_with fail
        refine HIs.out.mono ?_
        rintro e w4 ⟨rfl, hb4⟩
        have h4 := H3.out.below hb4
        obtain ⟨K, hK⟩ : ∃ K, y.L.length = K := ⟨_, rfl⟩
        have hle := h4.len
        rw [hK] at hle
        have HLe := Lib.hid hle
        have hfew : decide (mo < K) = false := decide_eq_false (by have := h4.few; rw [hK, HY.out.2.2] at this; omega)
        have H4 := Lib.hid h4
        clear h4 hle hb4 HIs x0 x1 hK
        go_wp2_with fail
        refine HLe.out.mono ?_
        rintro e w5 ⟨rfl, rfl⟩
        have HE : Hid (∃ x, DoI c xb x WB w5 ∧ GoodL x ∧ x.L.length ≤ jx + 1 ∧ x.most = mo) := Lib.hid ⟨y, H4.out, HY.out.1, HY.out.2.1, HY.out.2.2⟩
        clear HLe
        go_wp2_with fail
        go_roundw
        case rel => exact ⟨jx + 1, by go_num, by omega, HE⟩
        case measure => simp [intOf]; omega
    · obtain rfl : jx = N := by omega
      have hend : Hid (P (.returned (.bool true)) wr) := Lib.hid (by rw [← HP.out]; exact ⟨rfl, hWW⟩)
      clear HF hI hG hL hMo hWW
      rcases HNn.out.2.2 with he | he
      · subst he
        have hd : decide (jx < jx) = false := by simp
        go_wp2_with fail
        all_goals exact hend.out
      · subst he
        have hn1 := HNn.out.1
        by_cases hkn : 40 < n
        · have hd : decide (40 < n) = true := decide_eq_true hkn
          have hkI : (40 : Int) < n := by omega
          go_wp2_with fail
          all_goals exact hend.out
        · have hd : decide (40 < n) = false := decide_eq_false hkn
          have hkI : ¬ (40 : Int) < n := by omega
          go_wp2_with fail
          all_goals exact hend.out
end Go.Proofs.Ytgagkmlkoeceiaa.C
