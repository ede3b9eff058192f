/- CacheClones: a clone is alike, and goes its own way: the walk. -/
import Derived.Test.YtgagkmlkoeceiaaCKzS
namespace Go.Proofs.Ytgagkmlkoeceiaa.C
open Go.RowKit Go.Maps Go.Proofs.Ytgagkmlkoeceiaa.H

def KzOk10 (c xb b off n lc jx sn sc : Nat) (m9 kd ai : Int) (a9 sa : Option Addr) (n9 k9 : Nat) : Nat → Value → World → Prop
  | 0, u, _ => u = .pointer (some ⟨c, 0, none⟩)
  | 1, u, _ => u = .agg #[.int .i64 m9, .slice a9 n9 k9]
  | 2, u, _ => u = .slice (some ⟨b, off, none⟩) n lc
  | 3, u, _ => u = .int .i64 (jx : Int)
  | 4, u, _ => u = .pointer (some ⟨b, off + jx * 3, none⟩)
  | 5, u, _ => u = .agg #[.int .i64 kd, .int .i64 ai, .slice sa sn sc]
  | 6, _, _ => True
  | 7, u, w => ∃ X', u = .tuple #[X', .bool true]
  | 8, _, _ => True
  | 9, u, _ => u = .bool true
  | 10, _, _ => True
  | 11, u, _ => u = .bool true
  | _, _, _ => True
def KzOk13 (c m9K n9 k9 : Nat) (m9 : Int) (a9 : Option Addr) : Nat → Value → World → Prop
  | 0, u, _ => u = .pointer (some ⟨c, 0, none⟩)
  | 1, _, _ => True
  | 2, u, _ => u = .agg #[.int .i64 m9, .slice a9 n9 k9]
  | 3, _, _ => True
  | 4, _, _ => True
  | 5, _, _ => True
  | _, _, _ => True
def KzOk19 (d yb b off n2 lc2 jx sn sc : Nat) (m9 kd ai : Int) (a9 sa : Option Addr) (n9 k9 : Nat) : Nat → Value → World → Prop
  | 0, u, _ => u = .pointer (some ⟨d, 0, none⟩)
  | 1, u, _ => u = .agg #[.int .i64 m9, .slice a9 n9 k9]
  | 2, u, _ => u = .slice (some ⟨b, off, none⟩) n2 lc2
  | 3, u, _ => u = .int .i64 (jx : Int)
  | 4, u, _ => u = .pointer (some ⟨b, off + jx * 3, none⟩)
  | 5, u, _ => u = .agg #[.int .i64 kd, .int .i64 ai, .slice sa sn sc]
  | 6, _, _ => True
  | 7, u, w => ∃ X', u = .tuple #[X', .bool true]
  | 8, _, _ => True
  | 9, u, _ => u = .bool true
  | 10, _, _ => True
  | 11, u, _ => u = .bool true
  | _, _, _ => True
theorem DoI.open_ {c xb : Nat} {x : Ca} {W u : World} (h : DoI c xb x W u) : ∃ M G m a n k, Ch c M G x u ∧ (xb < u.heap.size ∧ u.cell? ⟨xb, 0, none⟩ = some (.int .i64 m) ∧ u.cell? ⟨xb, 1, none⟩ = some (.slice a n k)) ∧ RefC (xb :: M) (.agg #[.int .i64 m, .slice a n k]) x u ∧ ∀ p ∈ G, p < u.heap.size := by
  obtain ⟨M, G, m, a, n, k, h1, h2, h3, -⟩ := h
  exact ⟨M, G, m, a, n, k, h1, ⟨(Array.getElem?_eq_some_iff.1 h2).1, by rw [cell_block h2]; rfl, by rw [cell_block h2]; rfl⟩, h3, fun p hp => (h1.lt.2 p hp).2⟩
set_option maxRecDepth 100000 in
set_option maxHeartbeats 32000000 in
theorem clones_walk (a0 : Option Addr) (n lc : Nat) (As : List CAct) (a1 : Option Addr) (n2 lc2 : Nat) (Bs : List CAct) (W : World) (h : CActsIn a0 n lc As W) (hAs : ∀ A ∈ As, -9223372036854775808 ≤ A.i ∧ A.i ≤ 9223372036854775807) (h2 : CActsIn a1 n2 lc2 Bs W) (hBs : ∀ A ∈ Bs, -9223372036854775808 ≤ A.i ∧ A.i ≤ 9223372036854775807) :
    Calls Try.prog 4 #[.slice a0 n lc, .slice a1 n2 lc2] W (AwkPost W) := by
  obtain ⟨P, hP⟩ : ∃ P, AwkPost W = P := ⟨_, rfl⟩
  rw [hP]
  have HP := Lib.hid hP
  have HAct := Lib.hid h
  have HAb := Lib.hid hAs
  have HBct := Lib.hid h2
  have HBb := Lib.hid hBs
  have HA := Lib.hid (awake_any W)
  have hnc := h.fit
  have htop := h.top
  have hnc2 := h2.fit
  have htop2 := h2.top
  obtain ⟨N, hN⟩ : ∃ N, min n 20 = N := ⟨_, rfl⟩
  have HNn : Hid (N ≤ n ∧ N ≤ 20 ∧ (N = n ∨ N = 20)) := Lib.hid ⟨by omega, by omega, by omega⟩
  obtain ⟨N2, hN2⟩ : ∃ N2, min n2 15 = N2 := ⟨_, rfl⟩
  have HNn2 : Hid (N2 ≤ n2 ∧ N2 ≤ 15 ∧ (N2 = n2 ∨ N2 = 15)) := Lib.hid ⟨by omega, by omega, by omega⟩
  clear hP h hAs h2 hBs hN hN2
  go_enter Try.func4, Try.ntmps4
  go_wp2_with fail
  refine HA.out.mono ?_
  rintro r W1 ⟨rfl, hb1⟩
  have HB1 := Lib.hid hb1
  have HNw := Lib.hid (OneC.new 4 (by omega) W1 W1 (Below.refl _ _))
  have hzC := zeroRC
  clear hb1 HA
  go_wp2_with fail
  refine HNw.out.mono ?_
  rintro r W2 ⟨c, rfl, h2⟩
  have HRn := Lib.hid (rnew_any 4 W2)
  rw [show mostN 4 = 4 from rfl] at h2
  have H2 := Lib.hid h2
  clear h2 HNw
  go_wp2_with fail
  refine HRn.out.mono ?_
  rintro r W3 ⟨rfl, hb3⟩
  rw [show ((mostN 4 : Nat) : Int) = ((4 : Nat) : Int) from rfl]
  obtain ⟨mo, hmo⟩ : ∃ mo : Nat, mo = 4 := ⟨_, rfl⟩
  rw [← hmo] at H2 ⊢
  have h4 := DoI.start H2.out hb3
  obtain ⟨W4, hW4⟩ : ∃ W4, W3.alloc (.cells #[.int .i64 (mo : Int), .slice none 0 0] 28) = W4 := ⟨_, rfl⟩
  obtain ⟨xb, hxb⟩ : ∃ xb, W3.heap.size = xb := ⟨_, rfl⟩
  rw [hW4, hxb] at h4
  have HT : Hid (∃ x, DoI c xb x W1 W4 ∧ GoodL x ∧ x.most = mo) := Lib.hid ⟨_, h4, (fun y hy => by cases hy), rfl⟩
  have HW4 := Lib.hid hW4
  have HXb := Lib.hid hxb
  have HMo := Lib.hid hmo
  clear hb3 h4 hW4 hxb HRn H2 hmo
  go_upto_region 4 with fail
  rw [HW4.out, HXb.out]
  clear HW4 HXb
  go_wp2_with fail
  obtain ⟨WB, hWB⟩ : ∃ WB, WB = W1 := ⟨_, rfl⟩
  rw [← hWB] at HT
  have HWB := Lib.hid hWB
  clear hWB
  go_loopw [8] (fun i wr => ∃ jx : Nat, i = .int .i64 (jx : Int) ∧ jx ≤ N ∧ Hid (∃ x, DoI c xb x WB wr ∧ GoodL x ∧ x.most = mo)) (fun i _ => N - (intOf i).toNat)
  case atStart => exact ⟨0, rfl, Nat.zero_le _, HT⟩
  case round =>
    obtain ⟨jx, rfl, hj, HF⟩ := hrel
    clear HT
    obtain ⟨x, hI, hG, hMo⟩ := HF.out
    have hWW : Below W.heap.size W wr := HB1.out.trans ((by rw [← HWB.out]; exact hI.bel : Below W1.heap.size W1 wr).mono HB1.out.size)
    by_cases hlt : jx < N
    · have hn1 := HNn.out.1
      have hn2 := HNn.out.2.1
      have hd : decide (jx < n) = true := decide_eq_true (by omega)
      have hd2 : decide (jx < 20) = true := decide_eq_true (by omega)
      have hjI : (jx : Int) < n := by omega
      have hjI2 : (jx : Int) < 20 := by omega
      have hjn : jx < n := by omega
      obtain ⟨b, off, A, rfl, hb, hA, k0, k1, k2⟩ := HAct.out.one hjn
      have k0 := (hWW.cell (p := ⟨b, off + jx * 3, none⟩) hb).trans k0
      have k1 := (hWW.cell (p := ⟨b, off + jx * 3 + 1, none⟩) hb).trans k1
      have k2 := (hWW.cell (p := ⟨b, off + jx * 3 + 2, none⟩) hb).trans k2
      have hsub := HAct.out.sub A (List.mem_of_getElem? hA)
      have hai := HAb.out A (List.mem_of_getElem? hA)
      obtain ⟨kd, ai, sa, sn, sc, g⟩ := A
      simp only at k0 k1 k2 hsub hai
      have hfw := hI.few
      obtain ⟨m9, a9, n9, k9, hxc, hdo⟩ := hI.call hG (by rw [hMo, HMo.out] at hfw; omega) (kd := kd) (hsub.1.belowAll hWW) hsub.2.1 hsub.2.2 hai
      obtain ⟨y, hy⟩ : ∃ y, stepC x kd ai (g.take 20) = y := ⟨_, rfl⟩
      rw [hy] at hdo
      have HY : Hid (GoodL y ∧ y.most = mo) := Lib.hid ⟨by rw [← hy]; exact hG.step hsub.2.2, by rw [← hy, step_most]; exact hMo⟩
      have HDo := Lib.hid hdo
      have HXb := Lib.hid hxc
      have HK : Hid (wr.cell? ⟨b, off + jx * 3, none⟩ = some (.int .i64 kd) ∧ wr.cell? ⟨b, off + jx * 3 + 1, none⟩ = some (.int .i64 ai) ∧ wr.cell? ⟨b, off + jx * 3 + 2, none⟩ = some (.slice sa sn sc)) := Lib.hid ⟨k0, k1, k2⟩
      clear hI hG hMo hWW hb hA k0 k1 k2 hsub hai hxc hdo hy HF hfw
      go_upto_region 10 with fail
      refine Go.Proofs.Ytgagkmlkoeceiaa.R.wp_region_due [6, 7, 8, 10] [0, 0, 0, 0, 0, 0, 1, 2, 3, 4, 4, 4] (by kernel_rfl) (QuaS (EqD wr) (DcT c xb y WB) (DcT c xb y WB) (fun v u => DoN c xb y WB v u) (fun _ u => DoI c xb y WB u) 35 28 36 36) (fun _ _ => True) (KzOk10 c xb b off n lc jx sn sc m9 kd ai a9 sa n9 k9) (by rfl) (by kernel_rfl) (by kernel_rfl) (by kernel_rfl) (by kernel_rfl) ?hcong ?hOk ?hop ?hdone ?h0
      case hcong => exact fun k f f2 u hs hst => QuaS.cong (fun hk => hs 35 (Go.Proofs.Ytgagkmlkoeceiaa.R.mem_slots (by subst hk; kernel_rfl))) (fun hk => hs 28 (Go.Proofs.Ytgagkmlkoeceiaa.R.mem_slots (by subst hk; kernel_rfl))) (fun hk => hs 36 (Go.Proofs.Ytgagkmlkoeceiaa.R.mem_slots (by subst hk; kernel_rfl))) (fun hk => hs 36 (Go.Proofs.Ytgagkmlkoeceiaa.R.mem_slots (by subst hk; kernel_rfl))) hst
      case hOk => intro i u w1 w2 h hr; unfold KzOk10 at h ⊢; split <;> first | exact True.intro | exact h
      case h0 => exact (EqD.refl wr).drew
      case hop =>
        refine ⟨?_, ?_, ?_, ?_, ?_, ?_, ?_, ?_, ?_, ?_, ?_, ?_, trivial⟩
        · intro k z v hk hst hag hdep
          refine .inl ⟨rfl, fun K hK => ?_⟩
          have d5 : z.tmps.getD 5 undef = .pointer (some ⟨c, 0, none⟩) := hag.2.2 5 (by kernel_rfl)
          have e5 := d5
          rw [Array.getD_eq_getD_getElem?] at e5
          have HSt := Lib.hid hst
          clear hdep hag hst
          go_simp
          exact hK _ _ trivial rfl HSt.out
        · intro k z v hk hst hag hdep
          refine .inl ⟨rfl, fun K hK => ?_⟩
          have d6 : z.tmps.getD 6 undef = .pointer (some ⟨xb, 0, none⟩) := hag.2.2 6 (by kernel_rfl)
          have e6 := d6
          rw [Array.getD_eq_getD_getElem?] at e6
          obtain rfl : k = 0 := by have : k ≤ 0 := hk; omega
          have hq : EqD wr v := hst
          have l0 := (hq.cell _).trans HXb.out.2.1
          have l1 := (hq.cell _).trans HXb.out.2.2
          clear hq
          have HSt := Lib.hid hst
          clear hdep hag hst
          go_simp
          exact hK _ _ trivial rfl HSt.out
        · intro k z v hk hst hag hdep
          refine .inl ⟨rfl, fun K hK => ?_⟩
          have d0 : z.tmps.getD 0 undef = .slice (some ⟨b, off, none⟩) n lc := hag.2.2 0 (by kernel_rfl)
          have e0 := d0
          rw [Array.getD_eq_getD_getElem?] at e0
          have HSt := Lib.hid hst
          clear hdep hag hst
          go_simp
          exact hK _ _ trivial rfl HSt.out
        · intro k z v hk hst hag hdep
          refine .inl ⟨rfl, fun K hK => ?_⟩
          have d8 : z.tmps.getD 8 undef = .int .i64 (jx : Int) := hag.2.2 8 (by kernel_rfl)
          have e8 := d8
          rw [Array.getD_eq_getD_getElem?] at e8
          have HSt := Lib.hid hst
          clear hdep hag hst
          go_simp
          exact hK _ _ trivial rfl HSt.out
        · intro k z v hk hst hag hdep
          refine .inl ⟨rfl, fun K hK => ?_⟩
          have d31 : z.tmps.getD 31 undef = .slice (some ⟨b, off, none⟩) n lc := hdep { on := 2, ground := .data } (by simp) rfl _ _ rfl rfl
          have e31 := d31
          rw [Array.getD_eq_getD_getElem?] at e31
          have d32 : z.tmps.getD 32 undef = .int .i64 (jx : Int) := hdep { on := 3, ground := .data } (by simp) rfl _ _ rfl rfl
          have e32 := d32
          rw [Array.getD_eq_getD_getElem?] at e32
          have HSt := Lib.hid hst
          clear hdep hag hst
          go_simp
          exact hK _ _ trivial rfl HSt.out
        · intro k z v hk hst hag hdep
          refine .inl ⟨rfl, fun K hK => ?_⟩
          have d33 : z.tmps.getD 33 undef = .pointer (some ⟨b, off + jx * 3, none⟩) := hdep { on := 4, ground := .data } (by simp) rfl _ _ rfl rfl
          have e33 := d33
          rw [Array.getD_eq_getD_getElem?] at e33
          obtain rfl : k = 0 := by have : k ≤ 0 := hk; omega
          have hq : EqD wr v := hst
          have l0 := (hq.cell _).trans HK.out.1
          have l1 := (hq.cell _).trans HK.out.2.1
          have l2 := (hq.cell _).trans HK.out.2.2
          clear hq
          have HSt := Lib.hid hst
          clear hdep hag hst
          go_simp
          exact hK _ _ trivial rfl HSt.out
        · intro z v hst hag hdep
          refine ⟨rfl, fun K hK => ?_⟩
          have d29 : z.tmps.getD 29 undef = .pointer (some ⟨c, 0, none⟩) := hdep { on := 0, ground := .data } (by simp) rfl _ _ rfl rfl
          have e29 := d29
          rw [Array.getD_eq_getD_getElem?] at e29
          have d30 : z.tmps.getD 30 undef = .agg #[.int .i64 m9, .slice a9 n9 k9] := hdep { on := 1, ground := .data } (by simp) rfl _ _ rfl rfl
          have e30 := d30
          rw [Array.getD_eq_getD_getElem?] at e30
          have d34 : z.tmps.getD 34 undef = .agg #[.int .i64 kd, .int .i64 ai, .slice sa sn sc] := hdep { on := 5, ground := .data } (by simp) rfl _ _ rfl rfl
          have e34 := d34
          rw [Array.getD_eq_getD_getElem?] at e34
          have hsz : 35 < z.tmps.size := by rw [hag.2.1]; show 35 < 75; decide
          have hq : EqD wr v := hst
          have HC := Lib.hid (HDo.out v hq)
          clear hdep hag hst hq
          go_simp
          refine HC.out.mono ?_
          rintro e w' ⟨X', rfl, h9⟩
          exact hK _ _ trivial True.intro (by
    show DcT _ _ _ _ _ _
    rw [Go.Proofs.Ytgagkmlkoeceiaa.R.slot_same hsz]
    exact ⟨X', rfl, h9⟩)
        · intro z v hst hag hdep
          refine ⟨rfl, fun K hK => ?_⟩
          have hsz : 28 < z.tmps.size := by rw [hag.2.1]; show 28 < 75; decide
          obtain ⟨X', f0, hx⟩ : DcT c xb y WB (Go.Proofs.Ytgagkmlkoeceiaa.R.slot z 35) v := hst
          have d35 : z.tmps.getD 35 undef = .tuple #[X', .bool true] := f0
          have e35 := d35
          rw [Array.getD_eq_getD_getElem?] at e35
          have HX := Lib.hid hx
          clear hdep hag hx f0
          go_simp
          exact hK _ _ trivial ⟨X', rfl⟩ (by
    show DcT _ _ _ _ _ _
    rw [Go.Proofs.Ytgagkmlkoeceiaa.R.slot_same hsz]
    exact ⟨X', rfl, HX.out⟩)
        · intro z v hst hag hdep
          refine ⟨rfl, fun K hK => ?_⟩
          have d28' : KzOk10 c xb b off n lc jx sn sc m9 kd ai a9 sa n9 k9 7 (z.tmps.getD 28 undef) v := hdep { on := 7, ground := .data } (by simp) rfl _ _ rfl rfl
          simp only [KzOk10] at d28'
          obtain ⟨X6, d28⟩ := d28'
          have e28 := d28
          rw [Array.getD_eq_getD_getElem?] at e28
          have hsz : 36 < z.tmps.size := by rw [hag.2.1]; show 36 < 75; decide
          obtain ⟨X', f0, hx⟩ : DcT c xb y WB (Go.Proofs.Ytgagkmlkoeceiaa.R.slot z 28) v := hst
          obtain rfl : X6 = X' := by simpa using d28.symm.trans f0
          have HX := Lib.hid hx
          clear hdep hag hx f0 d28
          go_simp
          exact hK _ _ trivial True.intro (by
    show DoN _ _ _ _ _ _
    rw [Go.Proofs.Ytgagkmlkoeceiaa.R.slot_same hsz]
    exact HX.out)
        · intro k z v hk hst hag hdep
          refine .inl ⟨rfl, fun K hK => ?_⟩
          have d28' : KzOk10 c xb b off n lc jx sn sc m9 kd ai a9 sa n9 k9 7 (z.tmps.getD 28 undef) v := hdep { on := 7, ground := .data } (by simp) rfl _ _ rfl rfl
          simp only [KzOk10] at d28'
          obtain ⟨X6, d28⟩ := d28'
          have e28 := d28
          rw [Array.getD_eq_getD_getElem?] at e28
          have HSt := Lib.hid hst
          clear hdep hag hst
          go_simp
          exact hK _ _ trivial rfl HSt.out
        · intro z v hst hag hdep
          refine ⟨rfl, fun K hK => ?_⟩
          have d6 : z.tmps.getD 6 undef = .pointer (some ⟨xb, 0, none⟩) := hag.2.2 6 (by kernel_rfl)
          have e6 := d6
          rw [Array.getD_eq_getD_getElem?] at e6
          have hx : DoN c xb y WB (Go.Proofs.Ytgagkmlkoeceiaa.R.slot z 36) v := hst
          obtain ⟨mm, aa, nn, kk, f0⟩ := hx.agg
          have d36 : z.tmps.getD 36 undef = .agg #[.int .i64 mm, .slice aa nn kk] := f0
          have e36 := d36
          rw [Array.getD_eq_getD_getElem?] at e36
          rw [f0] at hx
          obtain ⟨z0, z1, hz, hn⟩ := hx.store
          have hz1 : (v.setCell ⟨xb, 0, none⟩ (.int .i64 mm)).heap[xb]? = some (.cells #[.int .i64 mm, z1] 28 (0, 0)) := by simp [World.setCell, Array.getElem?_modify, hz]
          have s0 : v.cell? ⟨xb, 0, none⟩ = some z0 := by rw [cell_block hz]; rfl
          have s1 : (v.setCell ⟨xb, 0, none⟩ (.int .i64 mm)).cell? ⟨xb, 1, none⟩ = some z1 := by rw [cell_block hz1]; rfl
          have g0 := frozen_block hz 0
          have g1 := frozen_block hz1 1
          have HN := Lib.hid hn
          clear hdep hag hst hx hn hz hz1 f0
          go_simp
          exact hK undef _ trivial True.intro HN.out
        · intro k z v hk hst hag hdep
          refine .inl ⟨rfl, fun K hK => ?_⟩
          have d37 : z.tmps.getD 37 undef = .bool true := hdep { on := 9, ground := .data } (by simp) rfl _ _ rfl rfl
          have e37 := d37
          rw [Array.getD_eq_getD_getElem?] at e37
          have HSt := Lib.hid hst
          clear hdep hag hst
          go_simp
          exact hK _ _ trivial rfl HSt.out
      case hdone =>
        intro z w3 hst hag hok
        have h3 : DoI c xb y WB w3 := hst
        have d7 : z.tmps.getD 7 undef = .bool true := hok 11 _ 7 rfl rfl
        have H3 := Lib.hid h3
        clear hst h3
        obtain ⟨uu, hu, hzz⟩ := Go.Proofs.Ytgagkmlkoeceiaa.R.agree_frame [29, 30, 31, 32, 33, 34, 35, 28, 36, 37, 7] rfl hag
        have e7 := (hu 7).trans d7
        subst hzz
        simp only [List.foldl_cons, List.foldl_nil]
        rw [e7]
        clear e7 d7 hu hag hok
        try dsimp only [Exit.then]
        simp only [List.setIfInBounds_toArray, List.set_cons_succ, List.set_cons_zero]
        generalize uu 29 = u29', uu 30 = u30', uu 31 = u31', uu 32 = u32', uu 33 = u33', uu 34 = u34', uu 35 = u35', uu 28 = u28', uu 36 = u36', uu 37 = u37'
        clear uu
        have HE : Hid (∃ x, DoI c xb x WB w3 ∧ GoodL x ∧ x.most = mo) := Lib.hid ⟨y, H3.out, HY.out.1, HY.out.2⟩
        go_wp2_with fail
        go_roundw
        case rel => exact ⟨jx + 1, by go_num, by omega, HE⟩
        case measure => simp [intOf]; omega
    · have e9 : N = jx := by omega
      subst e9
      obtain ⟨wC, hwC⟩ : ∃ wC, wC = wr := ⟨_, rfl⟩
      subst hwC
      obtain ⟨M, G, m9, a9, n9, k9, hCC, hXb, hXC, hGl⟩ := hI.open_
      have HI1 := Lib.hid hI
      have HGx : Hid (GoodL x ∧ x.most = mo ∧ x.L.length ≤ 200) := Lib.hid ⟨hG, hMo, by have := hI.few; rw [hMo, HMo.out] at this; omega⟩
      have HWC := Lib.hid hWW
      have HCC := Lib.hid hCC
      have HXb := Lib.hid hXb
      have HXC := Lib.hid hXC
      have HGl := Lib.hid hGl
      rename_i K hK
      have HK := Lib.hid hK
      have hor : N = n ∨ (N = 20 ∧ 20 < n) := by have := HNn.out; omega
      clear HF hI hG hMo hWW hCC hXb hXC hGl hlt hj hK
      suffices hrest : ∀ (u2 u3 u4 u7 u9 u10 u11 u12 u13 u14 u15 u16 u17 u18 u19 u20 u21 u22 u23 u24 u25 u26 u27 u28 u29 u30 u31 u32 u33 u34 u35 u36 u37 u38 u39 u40 u41 u42 u43 u44 u45 u46 u47 u48 u49 u50 u51 u52 u53 u54 u55 u56 u57 u58 u59 u60 u61 u62 u63 u64 u65 u66 u67 u68 u69 u70 u71 u72 u73 u74 : Value), K { tmps := #[.slice a0 n lc, .slice a1 n2 lc2, u2, u3, u4, .pointer (some ⟨c, 0, none⟩), .pointer (some ⟨xb, 0, none⟩), u7, .int .i64 (N : Int), u9, u10, u11, u12, u13, u14, u15, u16, u17, u18, u19, u20, u21, u22, u23, u24, u25, u26, u27, u28, u29, u30, u31, u32, u33, u34, u35, u36, u37, u38, u39, u40, u41, u42, u43, u44, u45, u46, u47, u48, u49, u50, u51, u52, u53, u54, u55, u56, u57, u58, u59, u60, u61, u62, u63, u64, u65, u66, u67, u68, u69, u70, u71, u72, u73, u74], defers := [] } wC by
        have HR := Lib.hid hrest
        clear hrest
        rcases hor with he | ⟨he, hkn⟩
        · subst he
          have hd : decide (N < N) = false := by simp
          go_wp2_with fail
          exact HR.out _ _ _ _ _ _ _ _ _ _ _ _ _ _ _ _ _ _ _ _ _ _ _ _ _ _ _ _ _ _ _ _ _ _ _ _ _ _ _ _ _ _ _ _ _ _ _ _ _ _ _ _ _ _ _ _ _ _ _ _ _ _ _ _ _ _ _ _ _ _
        · subst he
          have hd : decide (20 < n) = true := decide_eq_true hkn
          have hkI : (20 : Int) < n := by omega
          go_wp2_with fail
          exact HR.out _ _ _ _ _ _ _ _ _ _ _ _ _ _ _ _ _ _ _ _ _ _ _ _ _ _ _ _ _ _ _ _ _ _ _ _ _ _ _ _ _ _ _ _ _ _ _ _ _ _ _ _ _ _ _ _ _ _ _ _ _ _ _ _ _ _ _ _ _ _
      clear hor
      intro u2 u3 u4 u7 u9 u10 u11 u12 u13 u14 u15 u16 u17 u18 u19 u20 u21 u22 u23 u24 u25 u26 u27 u28 u29 u30 u31 u32 u33 u34 u35 u36 u37 u38 u39 u40 u41 u42 u43 u44 u45 u46 u47 u48 u49 u50 u51 u52 u53 u54 u55 u56 u57 u58 u59 u60 u61 u62 u63 u64 u65 u66 u67 u68 u69 u70 u71 u72 u73 u74
      refine HK.out _ _ ?_
      clear HK
      go_upto_region 13 with fail
      refine Go.Proofs.Ytgagkmlkoeceiaa.R.wp_region_seen [1, 4, 5] [0, 1, 2, 1, 2, 3] (by kernel_rfl) (KzS wC G x) (fun _ _ => True) (KzOk13 c 0 n9 k9 m9 a9) (by rfl) (by kernel_rfl) (by kernel_rfl) (by kernel_rfl) (by kernel_rfl) ?hOk ?hop ?hdone ?h0
      case hOk => intro i u w1 w2 h hr; unfold KzOk13 at h ⊢; split <;> first | exact True.intro | exact h
      case h0 => exact KzS.start (Below.refl _ _).drew
      case hop =>
        refine ⟨?_, ?_, ?_, ?_, ?_, ?_, trivial⟩
        · intro k L z v hk hL hst hag hpre hdep
          refine .inl ⟨rfl, fun K hK => ?_⟩
          have d5 : z.tmps.getD 5 undef = .pointer (some ⟨c, 0, none⟩) := hag.2.2 5 (by kernel_rfl)
          have e5 := d5
          rw [Array.getD_eq_getD_getElem?] at e5
          have HSt := Lib.hid hst
          clear hpre hdep hag hst
          go_simp
          exact hK _ _ trivial rfl (KzS.keep rfl (Go.Proofs.Ytgagkmlkoeceiaa.R.slot_put (by decide)) (Go.Proofs.Ytgagkmlkoeceiaa.R.slot_put (by decide)) (Go.Proofs.Ytgagkmlkoeceiaa.R.slot_put (by decide)) HSt.out)
        · intro L z v hL hst hag hpre hdep
          refine ⟨rfl, fun K hK => ?_⟩
          have d40 : z.tmps.getD 40 undef = .pointer (some ⟨c, 0, none⟩) := hdep { on := 0, ground := .data } (by simp) rfl _ _ rfl rfl
          have e40 := d40
          rw [Array.getD_eq_getD_getElem?] at e40
          have hsz : 41 < z.tmps.size := by rw [hag.2.1]; show 41 < 75; decide
          have HC := Lib.hid (kz_clone hst HCC.out)
          clear hpre hdep hag hst
          go_simp
          refine HC.out.mono ?_
          rintro e w' ⟨d, rfl, h9⟩
          exact hK _ _ trivial True.intro (h9 _ (Go.Proofs.Ytgagkmlkoeceiaa.R.slot_same hsz) (Go.Proofs.Ytgagkmlkoeceiaa.R.slot_put (by decide)))
        · intro k L z v hk hL hst hag hpre hdep
          refine .inl ⟨rfl, fun K hK => ?_⟩
          have d6 : z.tmps.getD 6 undef = .pointer (some ⟨xb, 0, none⟩) := hag.2.2 6 (by kernel_rfl)
          have e6 := d6
          rw [Array.getD_eq_getD_getElem?] at e6
          have hb9 : Below wC.heap.size wC v := hst.1
          have l0 := (hb9.cell (p := ⟨xb, 0, none⟩) HXb.out.1).trans HXb.out.2.1
          have l1 := (hb9.cell (p := ⟨xb, 1, none⟩) HXb.out.1).trans HXb.out.2.2
          try simp only at l0 l1
          clear hb9
          have HSt := Lib.hid hst
          clear hpre hdep hag hst
          go_simp
          exact hK _ _ trivial rfl (KzS.keep rfl (Go.Proofs.Ytgagkmlkoeceiaa.R.slot_put (by decide)) (Go.Proofs.Ytgagkmlkoeceiaa.R.slot_put (by decide)) (Go.Proofs.Ytgagkmlkoeceiaa.R.slot_put (by decide)) HSt.out)
        · intro k L z v hk hL hst hag hpre hdep
          refine .inl ⟨rfl, fun K hK => ?_⟩
          have hsz : 10 < z.tmps.size := by rw [hag.2.1]; show 10 < 75; decide
          have HSt := Lib.hid hst
          have hzC := zeroRC
          clear hpre hdep hag hst
          go_simp
          exact hK _ _ trivial True.intro (kz_alloc (Nat.le_trans hk (by decide)) HSt.out (Go.Proofs.Ytgagkmlkoeceiaa.R.slot_same hsz) (Go.Proofs.Ytgagkmlkoeceiaa.R.slot_put (by decide)) (Go.Proofs.Ytgagkmlkoeceiaa.R.slot_put (by decide)))
        · intro L z v hL hst hag hpre hdep
          refine ⟨rfl, fun K hK => ?_⟩
          have hsz : 9 < z.tmps.size := by rw [hag.2.1]; show 9 < 75; decide
          obtain ⟨d, f41, hn⟩ := kz_assign hst
          have d41 : z.tmps.getD 41 undef = .pointer (some ⟨d, 0, none⟩) := f41
          have e41 := d41
          rw [Array.getD_eq_getD_getElem?] at e41
          have HN := Lib.hid hn
          clear hpre hdep hag hst hn f41
          go_simp
          exact hK _ _ trivial True.intro (HN.out _ (Go.Proofs.Ytgagkmlkoeceiaa.R.slot_same hsz) (Go.Proofs.Ytgagkmlkoeceiaa.R.slot_put (by decide)))
        · intro L z v hL hst hag hpre hdep
          refine ⟨rfl, fun K hK => ?_⟩
          have d42 : z.tmps.getD 42 undef = .agg #[.int .i64 m9, .slice a9 n9 k9] := hdep { on := 2, ground := .data } (by simp) rfl _ _ rfl rfl
          have e42 := d42
          rw [Array.getD_eq_getD_getElem?] at e42
          have h3 : L 3 = true := hpre { on := 3, ground := .data } (by simp) rfl
          obtain ⟨b9, f10, hz, hn⟩ := kz_store hst h3 HGl.out HXC.out
          have d10 : z.tmps.getD 10 undef = .pointer (some ⟨b9, 0, none⟩) := f10
          have e10 := d10
          rw [Array.getD_eq_getD_getElem?] at e10
          have hz1 : (v.setCell ⟨b9, 0, none⟩ (.int .i64 m9)).heap[b9]? = some (.cells #[.int .i64 m9, .slice none 0 0] 28 (0, 0)) := by simp [World.setCell, Array.getElem?_modify, hz]
          have s0 : v.cell? ⟨b9, 0, none⟩ = some (.int .i64 0) := by rw [cell_block hz]; rfl
          have s1 : (v.setCell ⟨b9, 0, none⟩ (.int .i64 m9)).cell? ⟨b9, 1, none⟩ = some (.slice none 0 0) := by rw [cell_block hz1]; rfl
          have g0 := frozen_block hz 0
          have g1 := frozen_block hz1 1
          have HN := Lib.hid hn
          clear hpre hdep hag hst hn hz hz1 f10
          go_simp
          exact hK undef _ trivial True.intro (HN.out _ rfl rfl)
      case hdone =>
        intro z wD L hall hst hag hok
        obtain ⟨yb, d, f10, f9, hD⟩ := hst.2.2.2.2 rfl
        have d10 : z.tmps.getD 10 undef = .pointer (some ⟨yb, 0, none⟩) := f10
        have d9 : z.tmps.getD 9 undef = .pointer (some ⟨d, 0, none⟩) := f9
        have HT2 : Hid (∃ x, DoI d yb x wC wD ∧ GoodL x ∧ x.most = mo) := Lib.hid ⟨x, hD, HGx.out.1, HGx.out.2.1⟩
        clear f9 f10 hD hst hall
        obtain ⟨uu, hu, hzz⟩ := Go.Proofs.Ytgagkmlkoeceiaa.R.agree_frame [40, 41, 42, 10, 9] rfl hag
        have e9 := (hu 9).trans d9
        have e10 := (hu 10).trans d10
        subst hzz
        simp only [List.foldl_cons, List.foldl_nil]
        rw [e9, e10]
        clear e9 d9 e10 d10 hu hag hok
        try dsimp only [Exit.then]
        simp only [List.setIfInBounds_toArray, List.set_cons_succ, List.set_cons_zero]
        generalize uu 40 = u40', uu 41 = u41', uu 42 = u42'
        clear uu
        clear HXb HXC HGl HCC
        try dsimp only
        obtain ⟨xv, hxv⟩ : ∃ xv, xv = x := ⟨_, rfl⟩
        subst hxv
        obtain ⟨WA, hWA⟩ : ∃ WA, WA = WB := ⟨_, rfl⟩
        rw [← hWA] at HI1
        clear hWA HWB
        obtain ⟨WB, hWB⟩ : ∃ WB, WB = wC := ⟨_, rfl⟩
        rw [← hWB] at HT2 HI1 HWC
        clear hWB
        go_wp2_with fail
        go_loopw [11] (fun i wr => ∃ jx : Nat, i = .int .i64 (jx : Int) ∧ jx ≤ N2 ∧ Hid (∃ x, DoI d yb x WB wr ∧ GoodL x ∧ x.most = mo)) (fun i _ => N2 - (intOf i).toNat)
        case atStart => exact ⟨0, rfl, Nat.zero_le _, HT2⟩
        case round =>
          obtain ⟨jx, rfl, hj, HF⟩ := hrel
          clear HT2
          obtain ⟨x, hI, hG, hMo⟩ := HF.out
          have hWW : Below W.heap.size W wr := HWC.out.trans (hI.bel.mono HWC.out.size)
          by_cases hlt : jx < N2
          · have hn1 := HNn2.out.1
            have hn2 := HNn2.out.2.1
            have hd : decide (jx < n2) = true := decide_eq_true (by omega)
            have hd2 : decide (jx < 15) = true := decide_eq_true (by omega)
            have hjI : (jx : Int) < n2 := by omega
            have hjI2 : (jx : Int) < 15 := by omega
            have hjn : jx < n2 := by omega
            obtain ⟨b, off, A, rfl, hb, hA, k0, k1, k2⟩ := HBct.out.one hjn
            have k0 := (hWW.cell (p := ⟨b, off + jx * 3, none⟩) hb).trans k0
            have k1 := (hWW.cell (p := ⟨b, off + jx * 3 + 1, none⟩) hb).trans k1
            have k2 := (hWW.cell (p := ⟨b, off + jx * 3 + 2, none⟩) hb).trans k2
            have hsub := HBct.out.sub A (List.mem_of_getElem? hA)
            have hai := HBb.out A (List.mem_of_getElem? hA)
            obtain ⟨kd, ai, sa, sn, sc, g⟩ := A
            simp only at k0 k1 k2 hsub hai
            have hfw := hI.few
            obtain ⟨m9, a9, n9, k9, hxc, hdo⟩ := hI.call hG (by rw [hMo, HMo.out] at hfw; omega) (kd := kd) (hsub.1.belowAll hWW) hsub.2.1 hsub.2.2 hai
            obtain ⟨y, hy⟩ : ∃ y, stepC x kd ai (g.take 20) = y := ⟨_, rfl⟩
            rw [hy] at hdo
            have HY : Hid (GoodL y ∧ y.most = mo) := Lib.hid ⟨by rw [← hy]; exact hG.step hsub.2.2, by rw [← hy, step_most]; exact hMo⟩
            have HDo := Lib.hid hdo
            have HXb := Lib.hid hxc
            have HK : Hid (wr.cell? ⟨b, off + jx * 3, none⟩ = some (.int .i64 kd) ∧ wr.cell? ⟨b, off + jx * 3 + 1, none⟩ = some (.int .i64 ai) ∧ wr.cell? ⟨b, off + jx * 3 + 2, none⟩ = some (.slice sa sn sc)) := Lib.hid ⟨k0, k1, k2⟩
            clear hI hG hMo hWW hb hA k0 k1 k2 hsub hai hxc hdo hy HF hfw
            go_upto_region 19 with fail
            refine Go.Proofs.Ytgagkmlkoeceiaa.R.wp_region_due [6, 7, 8, 10] [0, 0, 0, 0, 0, 0, 1, 2, 3, 4, 4, 4] (by kernel_rfl) (QuaS (EqD wr) (DcT d yb y WB) (DcT d yb y WB) (fun v u => DoN d yb y WB v u) (fun _ u => DoI d yb y WB u) 62 55 63 63) (fun _ _ => True) (KzOk19 d yb b off n2 lc2 jx sn sc m9 kd ai a9 sa n9 k9) (by rfl) (by kernel_rfl) (by kernel_rfl) (by kernel_rfl) (by kernel_rfl) ?hcong ?hOk ?hop ?hdone ?h0
            case hcong => exact fun k f f2 u hs hst => QuaS.cong (fun hk => hs 62 (Go.Proofs.Ytgagkmlkoeceiaa.R.mem_slots (by subst hk; kernel_rfl))) (fun hk => hs 55 (Go.Proofs.Ytgagkmlkoeceiaa.R.mem_slots (by subst hk; kernel_rfl))) (fun hk => hs 63 (Go.Proofs.Ytgagkmlkoeceiaa.R.mem_slots (by subst hk; kernel_rfl))) (fun hk => hs 63 (Go.Proofs.Ytgagkmlkoeceiaa.R.mem_slots (by subst hk; kernel_rfl))) hst
            case hOk => intro i u w1 w2 h hr; unfold KzOk19 at h ⊢; split <;> first | exact True.intro | exact h
            case h0 => exact (EqD.refl wr).drew
            case hop =>
              refine ⟨?_, ?_, ?_, ?_, ?_, ?_, ?_, ?_, ?_, ?_, ?_, ?_, trivial⟩
              · intro k z v hk hst hag hdep
                refine .inl ⟨rfl, fun K hK => ?_⟩
                have d9 : z.tmps.getD 9 undef = .pointer (some ⟨d, 0, none⟩) := hag.2.2 9 (by kernel_rfl)
                have e9 := d9
                rw [Array.getD_eq_getD_getElem?] at e9
                have HSt := Lib.hid hst
                clear hdep hag hst
                go_simp
                exact hK _ _ trivial rfl HSt.out
              · intro k z v hk hst hag hdep
                refine .inl ⟨rfl, fun K hK => ?_⟩
                have d10 : z.tmps.getD 10 undef = .pointer (some ⟨yb, 0, none⟩) := hag.2.2 10 (by kernel_rfl)
                have e10 := d10
                rw [Array.getD_eq_getD_getElem?] at e10
                obtain rfl : k = 0 := by have : k ≤ 0 := hk; omega
                have hq : EqD wr v := hst
                have l0 := (hq.cell _).trans HXb.out.2.1
                have l1 := (hq.cell _).trans HXb.out.2.2
                clear hq
                have HSt := Lib.hid hst
                clear hdep hag hst
                go_simp
                exact hK _ _ trivial rfl HSt.out
              · intro k z v hk hst hag hdep
                refine .inl ⟨rfl, fun K hK => ?_⟩
                have d1 : z.tmps.getD 1 undef = .slice (some ⟨b, off, none⟩) n2 lc2 := hag.2.2 1 (by kernel_rfl)
                have e1 := d1
                rw [Array.getD_eq_getD_getElem?] at e1
                have HSt := Lib.hid hst
                clear hdep hag hst
                go_simp
                exact hK _ _ trivial rfl HSt.out
              · intro k z v hk hst hag hdep
                refine .inl ⟨rfl, fun K hK => ?_⟩
                have d11 : z.tmps.getD 11 undef = .int .i64 (jx : Int) := hag.2.2 11 (by kernel_rfl)
                have e11 := d11
                rw [Array.getD_eq_getD_getElem?] at e11
                have HSt := Lib.hid hst
                clear hdep hag hst
                go_simp
                exact hK _ _ trivial rfl HSt.out
              · intro k z v hk hst hag hdep
                refine .inl ⟨rfl, fun K hK => ?_⟩
                have d58 : z.tmps.getD 58 undef = .slice (some ⟨b, off, none⟩) n2 lc2 := hdep { on := 2, ground := .data } (by simp) rfl _ _ rfl rfl
                have e58 := d58
                rw [Array.getD_eq_getD_getElem?] at e58
                have d59 : z.tmps.getD 59 undef = .int .i64 (jx : Int) := hdep { on := 3, ground := .data } (by simp) rfl _ _ rfl rfl
                have e59 := d59
                rw [Array.getD_eq_getD_getElem?] at e59
                have HSt := Lib.hid hst
                clear hdep hag hst
                go_simp
                exact hK _ _ trivial rfl HSt.out
              · intro k z v hk hst hag hdep
                refine .inl ⟨rfl, fun K hK => ?_⟩
                have d60 : z.tmps.getD 60 undef = .pointer (some ⟨b, off + jx * 3, none⟩) := hdep { on := 4, ground := .data } (by simp) rfl _ _ rfl rfl
                have e60 := d60
                rw [Array.getD_eq_getD_getElem?] at e60
                obtain rfl : k = 0 := by have : k ≤ 0 := hk; omega
                have hq : EqD wr v := hst
                have l0 := (hq.cell _).trans HK.out.1
                have l1 := (hq.cell _).trans HK.out.2.1
                have l2 := (hq.cell _).trans HK.out.2.2
                clear hq
                have HSt := Lib.hid hst
                clear hdep hag hst
                go_simp
                exact hK _ _ trivial rfl HSt.out
              · intro z v hst hag hdep
                refine ⟨rfl, fun K hK => ?_⟩
                have d56 : z.tmps.getD 56 undef = .pointer (some ⟨d, 0, none⟩) := hdep { on := 0, ground := .data } (by simp) rfl _ _ rfl rfl
                have e56 := d56
                rw [Array.getD_eq_getD_getElem?] at e56
                have d57 : z.tmps.getD 57 undef = .agg #[.int .i64 m9, .slice a9 n9 k9] := hdep { on := 1, ground := .data } (by simp) rfl _ _ rfl rfl
                have e57 := d57
                rw [Array.getD_eq_getD_getElem?] at e57
                have d61 : z.tmps.getD 61 undef = .agg #[.int .i64 kd, .int .i64 ai, .slice sa sn sc] := hdep { on := 5, ground := .data } (by simp) rfl _ _ rfl rfl
                have e61 := d61
                rw [Array.getD_eq_getD_getElem?] at e61
                have hsz : 62 < z.tmps.size := by rw [hag.2.1]; show 62 < 75; decide
                have hq : EqD wr v := hst
                have HC := Lib.hid (HDo.out v hq)
                clear hdep hag hst hq
                go_simp
                refine HC.out.mono ?_
                rintro e w' ⟨X', rfl, h9⟩
                exact hK _ _ trivial True.intro (by
    show DcT _ _ _ _ _ _
    rw [Go.Proofs.Ytgagkmlkoeceiaa.R.slot_same hsz]
    exact ⟨X', rfl, h9⟩)
              · intro z v hst hag hdep
                refine ⟨rfl, fun K hK => ?_⟩
                have hsz : 55 < z.tmps.size := by rw [hag.2.1]; show 55 < 75; decide
                obtain ⟨X', f0, hx⟩ : DcT d yb y WB (Go.Proofs.Ytgagkmlkoeceiaa.R.slot z 62) v := hst
                have d62 : z.tmps.getD 62 undef = .tuple #[X', .bool true] := f0
                have e62 := d62
                rw [Array.getD_eq_getD_getElem?] at e62
                have HX := Lib.hid hx
                clear hdep hag hx f0
                go_simp
                exact hK _ _ trivial ⟨X', rfl⟩ (by
    show DcT _ _ _ _ _ _
    rw [Go.Proofs.Ytgagkmlkoeceiaa.R.slot_same hsz]
    exact ⟨X', rfl, HX.out⟩)
              · intro z v hst hag hdep
                refine ⟨rfl, fun K hK => ?_⟩
                have d55' : KzOk19 d yb b off n2 lc2 jx sn sc m9 kd ai a9 sa n9 k9 7 (z.tmps.getD 55 undef) v := hdep { on := 7, ground := .data } (by simp) rfl _ _ rfl rfl
                simp only [KzOk19] at d55'
                obtain ⟨X6, d55⟩ := d55'
                have e55 := d55
                rw [Array.getD_eq_getD_getElem?] at e55
                have hsz : 63 < z.tmps.size := by rw [hag.2.1]; show 63 < 75; decide
                obtain ⟨X', f0, hx⟩ : DcT d yb y WB (Go.Proofs.Ytgagkmlkoeceiaa.R.slot z 55) v := hst
                obtain rfl : X6 = X' := by simpa using d55.symm.trans f0
                have HX := Lib.hid hx
                clear hdep hag hx f0 d55
                go_simp
                exact hK _ _ trivial True.intro (by
    show DoN _ _ _ _ _ _
    rw [Go.Proofs.Ytgagkmlkoeceiaa.R.slot_same hsz]
    exact HX.out)
              · intro k z v hk hst hag hdep
                refine .inl ⟨rfl, fun K hK => ?_⟩
                have d55' : KzOk19 d yb b off n2 lc2 jx sn sc m9 kd ai a9 sa n9 k9 7 (z.tmps.getD 55 undef) v := hdep { on := 7, ground := .data } (by simp) rfl _ _ rfl rfl
                simp only [KzOk19] at d55'
                obtain ⟨X6, d55⟩ := d55'
                have e55 := d55
                rw [Array.getD_eq_getD_getElem?] at e55
                have HSt := Lib.hid hst
                clear hdep hag hst
                go_simp
                exact hK _ _ trivial rfl HSt.out
              · intro z v hst hag hdep
                refine ⟨rfl, fun K hK => ?_⟩
                have d10 : z.tmps.getD 10 undef = .pointer (some ⟨yb, 0, none⟩) := hag.2.2 10 (by kernel_rfl)
                have e10 := d10
                rw [Array.getD_eq_getD_getElem?] at e10
                have hx : DoN d yb y WB (Go.Proofs.Ytgagkmlkoeceiaa.R.slot z 63) v := hst
                obtain ⟨mm, aa, nn, kk, f0⟩ := hx.agg
                have d63 : z.tmps.getD 63 undef = .agg #[.int .i64 mm, .slice aa nn kk] := f0
                have e63 := d63
                rw [Array.getD_eq_getD_getElem?] at e63
                rw [f0] at hx
                obtain ⟨z0, z1, hz, hn⟩ := hx.store
                have hz1 : (v.setCell ⟨yb, 0, none⟩ (.int .i64 mm)).heap[yb]? = some (.cells #[.int .i64 mm, z1] 28 (0, 0)) := by simp [World.setCell, Array.getElem?_modify, hz]
                have s0 : v.cell? ⟨yb, 0, none⟩ = some z0 := by rw [cell_block hz]; rfl
                have s1 : (v.setCell ⟨yb, 0, none⟩ (.int .i64 mm)).cell? ⟨yb, 1, none⟩ = some z1 := by rw [cell_block hz1]; rfl
                have g0 := frozen_block hz 0
                have g1 := frozen_block hz1 1
                have HN := Lib.hid hn
                clear hdep hag hst hx hn hz hz1 f0
                go_simp
                exact hK undef _ trivial True.intro HN.out
              · intro k z v hk hst hag hdep
                refine .inl ⟨rfl, fun K hK => ?_⟩
                have d64 : z.tmps.getD 64 undef = .bool true := hdep { on := 9, ground := .data } (by simp) rfl _ _ rfl rfl
                have e64 := d64
                rw [Array.getD_eq_getD_getElem?] at e64
                have HSt := Lib.hid hst
                clear hdep hag hst
                go_simp
                exact hK _ _ trivial rfl HSt.out
            case hdone =>
              intro z w3 hst hag hok
              have h3 : DoI d yb y WB w3 := hst
              have d7 : z.tmps.getD 7 undef = .bool true := hok 11 _ 7 rfl rfl
              have H3 := Lib.hid h3
              clear hst h3
              obtain ⟨uu, hu, hzz⟩ := Go.Proofs.Ytgagkmlkoeceiaa.R.agree_frame [56, 57, 58, 59, 60, 61, 62, 55, 63, 64, 7] rfl hag
              have e7 := (hu 7).trans d7
              subst hzz
              simp only [List.foldl_cons, List.foldl_nil]
              rw [e7]
              clear e7 d7 hu hag hok
              try dsimp only [Exit.then]
              simp only [List.setIfInBounds_toArray, List.set_cons_succ, List.set_cons_zero]
              generalize uu 56 = u56', uu 57 = u57', uu 58 = u58', uu 59 = u59', uu 60 = u60', uu 61 = u61', uu 62 = u62', uu 55 = u55', uu 63 = u63', uu 64 = u64'
              clear uu
              have HE : Hid (∃ x, DoI d yb x WB w3 ∧ GoodL x ∧ x.most = mo) := Lib.hid ⟨y, H3.out, HY.out.1, HY.out.2⟩
              go_wp2_with fail
              go_roundw
              case rel => exact ⟨jx + 1, by go_num, by omega, HE⟩
              case measure => simp [intOf]; omega
          · have e9 : N2 = jx := by omega
            subst e9
            have HI1r := Lib.hid (HI1.out.below hI.bel)
            have HID := Lib.hid hI
            have HGd : Hid (GoodL x ∧ x.L.length ≤ 200) := Lib.hid ⟨hG, by have := hI.few; rw [hMo, HMo.out] at this; omega⟩
            have HWr := Lib.hid hWW
            clear HF hI hG hMo hWW hlt hj
            obtain ⟨m2, a2, n2', k2, hxc, his⟩ := HI1r.out.is_ HGx.out.1 HGx.out.2.2
            have x0 := hxc.1
            have x1 := hxc.2
            have HIs := Lib.hid his
            clear hxc his
            rcases HNn2.out.2.2 with he | he
            · subst he
              have hd : decide (N2 < N2) = false := by simp
              go_wp2_with fail
              refine HIs.out.mono ?_
              rintro e w4 ⟨rfl, hb4⟩
              obtain ⟨m3, a3, n3, k3, hxc, his⟩ := (HID.out.below hb4).is_ HGd.out.1 HGd.out.2
              have y0 := hxc.1
              have y1 := hxc.2
              have HIs2 := Lib.hid his
              have HB4 := Lib.hid hb4
              clear hxc his hb4 HIs x0 x1
              go_wp2_with fail
              refine HIs2.out.mono ?_
              rintro e w5 ⟨rfl, hb5⟩
              have hend : Hid (P (.returned (.bool true)) w5) := Lib.hid (by rw [← HP.out]; exact ⟨rfl, HWr.out.trans ((HB4.out.trans (hb5.mono HB4.out.size)).mono HWr.out.size)⟩)
              clear hb5 HIs2 y0 y1
              go_wp2_with fail
              all_goals exact hend.out
            · subst he
              have hn1 := HNn2.out.1
              by_cases hkn : 15 < n2
              · have hd : decide (15 < n2) = true := decide_eq_true hkn
                have hkI : (15 : Int) < n2 := by omega
                go_wp2_with fail
                refine HIs.out.mono ?_
                rintro e w4 ⟨rfl, hb4⟩
                obtain ⟨m3, a3, n3, k3, hxc, his⟩ := (HID.out.below hb4).is_ HGd.out.1 HGd.out.2
                have y0 := hxc.1
                have y1 := hxc.2
                have HIs2 := Lib.hid his
                have HB4 := Lib.hid hb4
                clear hxc his hb4 HIs x0 x1
                go_wp2_with fail
                refine HIs2.out.mono ?_
                rintro e w5 ⟨rfl, hb5⟩
                have hend : Hid (P (.returned (.bool true)) w5) := Lib.hid (by rw [← HP.out]; exact ⟨rfl, HWr.out.trans ((HB4.out.trans (hb5.mono HB4.out.size)).mono HWr.out.size)⟩)
                clear hb5 HIs2 y0 y1
                go_wp2_with fail
                all_goals exact hend.out
              · have hd : decide (15 < n2) = false := decide_eq_false hkn
                have hkI : ¬ (15 : Int) < n2 := by omega
                go_wp2_with fail
                refine HIs.out.mono ?_
                rintro e w4 ⟨rfl, hb4⟩
                obtain ⟨m3, a3, n3, k3, hxc, his⟩ := (HID.out.below hb4).is_ HGd.out.1 HGd.out.2
                have y0 := hxc.1
                have y1 := hxc.2
                have HIs2 := Lib.hid his
                have HB4 := Lib.hid hb4
                clear hxc his hb4 HIs x0 x1
                go_wp2_with fail
                refine HIs2.out.mono ?_
                rintro e w5 ⟨rfl, hb5⟩
                have hend : Hid (P (.returned (.bool true)) w5) := Lib.hid (by rw [← HP.out]; exact ⟨rfl, HWr.out.trans ((HB4.out.trans (hb5.mono HB4.out.size)).mono HWr.out.size)⟩)
                clear hb5 HIs2 y0 y1
                go_wp2_with fail
                all_goals exact hend.out
end Go.Proofs.Ytgagkmlkoeceiaa.C
