/- The law's do of a grid: up. -/
import Derived.Test.YtkggmcnocpgnbaaDoorJLdA
namespace Go.Proofs.YtkggmcnocpgnbaaDoor.K
open Go.RowKit

def UpOk (g rb top_ : Nat) (y : Gd) (a5 a4 : Option Addr) (n5 c5 n4 c4 : Nat) (top bot n0 st : Int) : Nat → Value → World → Prop
  | 0, u, _ => u = .agg #[.int .i64 (y.W : Int), .slice a5 n5 c5]
  | 1, u, _ => u = .pointer (some ⟨g, 0, none⟩)
  | 2, u, _ => u = .pointer (some ⟨rb + 1, 2, none⟩)
  | 3, u, _ => u = .int .i64 top
  | 4, u, _ => u = .pointer (some ⟨rb + 1, 3, none⟩)
  | 5, u, _ => u = .int .i64 bot
  | 6, u, _ => u = .pointer (some ⟨rb + 1, 4, none⟩)
  | 7, u, _ => u = .int .i64 n0
  | 8, u, _ => u = .pointer (some ⟨rb + 1, 5, none⟩)
  | 9, u, _ => u = .int .i64 st
  | 10, _, _ => True
  | 11, u, _ => u = .slice a4 n4 c4
  | 12, u, _ => u = .bool true
  | 13, _, _ => True
  | 14, u, _ => u = .bool true
  | _, _, _ => True
set_option maxRecDepth 100000 in
set_option maxHeartbeats 16000000 in
theorem doUp_any {g q : Nat} {L : List Nat} {x : Gd} {v : Value} {A : ActG} (w : World) (hk : A.kind = 1) (h : Gr g q x w) (hv : RefG L v x w) (hg : g ∈ L) (hq : q ∈ L) (hL : ∀ p ∈ L, p < w.heap.size) :
    Calls Tryd.prog 37 #[.pointer (some ⟨g, 0, none⟩), v, .agg (actC A)] w (DoG g q L (upG x A.top A.bottom A.n A.style).1 w) := by
  obtain ⟨kd, y0, top, bot, n0, st, ww, hh, row⟩ := A
  simp only at hk
  subst hk
  simp only
  have hx := h.ok
  obtain ⟨A, hA⟩ : ∃ A : ActG, A = ⟨1, y0, top, bot, n0, st, ww, hh, row⟩ := ⟨_, rfl⟩
  obtain ⟨gone, hgone⟩ : ∃ gone, (upG x top bot n0 st).2 = gone := ⟨_, rfl⟩
  have hgm : ∀ r ∈ gone, r ∈ x.rs := fun r hr => mem_upGone (by rw [hgone]; exact hr)
  have hgn : gone.length ≤ 1000 := by rw [← hgone]; exact Nat.le_trans (len_upGone _ _ _ _ _) hx.h2
  have HGr : Hid (∀ r ∈ gone, AllC Rng r.l) := Lib.hid (fun r hr => hx.rng r (hgm r hr))
  have HGl : Hid (∀ r ∈ gone, r.l.length ≤ 1000) := Lib.hid (fun r hr => by rw [hx.len r (hgm r hr)]; exact hx.w2)
  have HGn := Lib.hid hgn
  have HGone := Lib.hid hgone
  have HXo := Lib.hid hx
  obtain ⟨rb, hrb⟩ : ∃ rb, w.heap.size = rb := ⟨_, rfl⟩
  obtain ⟨a, n, c, rfl, hrl⟩ := hv
  unfold refV
  obtain ⟨w1, hw1⟩ : ∃ w1, w.alloc (.cells #[.int .i64 (x.W : Int), .slice a n c] 82) = w1 := ⟨_, rfl⟩
  have hs1 : w1.heap.size = rb + 1 := by rw [← hw1, World.size_alloc, hrb]
  obtain ⟨w2, hw2⟩ : ∃ w2, w1.alloc (.cells (actC A) 77) = w2 := ⟨_, rfl⟩
  have hs2 : w2.heap.size = rb + 2 := by rw [← hw2, World.size_alloc, hs1]
  obtain ⟨w3, hw3⟩ : ∃ w3, w2.alloc (.cells #[.int .i64 0, .slice none 0 0] 82) = w3 := ⟨_, rfl⟩
  have hs3 : w3.heap.size = rb + 3 := by rw [← hw3, World.size_alloc, hs2]
  have b01 : Below w.heap.size w w1 := by rw [← hw1]; exact (Below.refl _ _).alloc (Nat.le_refl _) _
  have b12 : Below w1.heap.size w1 w2 := by rw [← hw2]; exact (Below.refl _ _).alloc (Nat.le_refl _) _
  have b23 : Below w2.heap.size w2 w3 := by rw [← hw3]; exact (Below.refl _ _).alloc (Nat.le_refl _) _
  have b03 : Below w.heap.size w w3 := (b01.trans (b12.mono (by omega))).trans (b23.mono (by omega))
  have hx1 : GrB rb x.W (.slice a n c) w1 := by rw [← hw1, ← hrb]; exact GrB.new w x.W _
  have ha2 : ActB (rb + 1) A w2 := by rw [← hw2, ← hs1]; exact World.alloc_heap_new w1 _
  have hr3 : w3.heap[rb + 2]? = some (.cells #[.int .i64 0, .slice none 0 0] 82 (0, 0)) := by rw [← hw3, ← hs2]; exact World.alloc_heap_new w2 _
  have hdo : DoB g q rb x.W (.slice a n c) A w w3 := ⟨KeepB.of_below b03, (hx1.belowAll b12).belowAll b23, ha2.kept (b23.block _ ha2.lt), ⟨_, _, hr3⟩, hrb.symm⟩
  have hlt := h.lt
  rw [hrb] at hlt
  have hx3 := hdo.xb
  have hc0 := hx3.c0
  have hc1 := hx3.c1
  have hab := hdo.ab
  have a0 := hab.c0
  have a2 := hab.c2
  have a3 := hab.c3
  have a4' := hab.c4
  have a5' := hab.c5
  have hA0 : A.kind = 1 := by rw [hA]
  have hA2 : A.top = top := by rw [hA]
  have hA3 : A.bottom = bot := by rw [hA]
  have hA4 : A.n = n0 := by rw [hA]
  have hA5 : A.style = st := by rw [hA]
  rw [hA0] at a0
  rw [hA2] at a2
  rw [hA3] at a3
  rw [hA4] at a4'
  rw [hA5] at a5'
  have hrl3 : RowsL .i64 ((rb + 2) :: L) a n c x.rs w3 := (hrl.cons (by omega)).below b03
  have hL3 : ∀ p ∈ (rb + 2) :: L, p < w3.heap.size := fun p hp => by
    rcases List.mem_cons.1 hp with rfl | hp
    · omega
    · have := hL p hp; omega
  have hmv := refMove_true (v := refV x.W a n c) top bot n0 st w3 ⟨a, n, c, rfl, hrl3⟩ hx hL3
  unfold refV at hmv
  obtain ⟨y, hy⟩ : ∃ y, (upG x top bot n0 st).1 = y := ⟨_, rfl⟩
  obtain ⟨P, hP⟩ : ∃ P, DoG g q L (upG x top bot n0 st).1 w = P := ⟨_, rfl⟩
  rw [hP]
  rw [hy] at hP
  have HP := Lib.hid hP
  have HMv := Lib.hid hmv
  have HY := Lib.hid hy
  have HDo := Lib.hid hdo
  have HW1 := Lib.hid hw1
  have HW2 := Lib.hid hw2
  have HW3 := Lib.hid hw3
  have HRb := Lib.hid hrb
  have HS3 := Lib.hid hs3
  have HLt := Lib.hid hlt
  have HL := Lib.hid hL
  have HGr0 := Lib.hid (h.below b03)
  have HSub : Hid (g ∈ L ∧ q ∈ L) := Lib.hid ⟨hg, hq⟩
  have HA := Lib.hid hA
  clear hP hmv hy hdo hw1 hw2 hw3 hrb hs1 hs2 hs3 b01 b12 b23 b03 hx1 ha2 hr3 hlt hx3 hab hrl3 hL3 hrl hL h hg hq hx hgm hgn hgone hA0 hA2 hA3 hA4 hA5 hA
  go_enter Tryd.func37, Tryd.ntmps37
  go_upto_region 1 with fail
  rw [← HA.out]
  try rw [HW1.out, HRb.out, HW2.out, HW3.out]
  go_wp2_with fail
  refine HMv.out.mono ?_
  rintro e w4 ⟨v4, a4, n4, c4, rfl, hRG, hRL, hb4⟩
  rw [HY.out] at hRG
  rw [HGone.out] at hRL
  obtain ⟨a5, n5, c5, rfl, hrl5⟩ := hRG
  unfold refV
  obtain ⟨p14, hp14⟩ : ∃ p, w4.heap.size = p := ⟨_, rfl⟩
  obtain ⟨w5, hw5⟩ : ∃ w5, w4.alloc (.cells #[.int .i64 (y.W : Int), .slice a5 n5 c5] 82) = w5 := ⟨_, rfl⟩
  have b45 : Below w4.heap.size w4 w5 := by rw [← hw5]; exact (Below.refl _ _).alloc (Nat.le_refl _) _
  have hlt := HLt.out
  have hdo5 := (HDo.out.below hb4 hlt).below b45 hlt
  have hg5 : GrB p14 y.W (.slice a5 n5 c5) w5 := by rw [← hw5, ← hp14]; exact GrB.new w4 y.W _
  have hs0 : UpS g q rb p14 L x y gone a5 n5 c5 a4 n4 c4 x.W (.slice a n c) A w 105 0 (fun _ => undef) w5 := ⟨⟨hdo5, hg5⟩, ((HGr0.out.below hb4).below b45), ⟨a5, n5, c5, rfl, hrl5.below b45⟩, hRL.below b45, trivial⟩
  have a0 := hdo5.ab.c0
  have hA0 : A.kind = 1 := by rw [HA.out]
  rw [hA0] at a0
  have hA2 : A.top = top := by rw [HA.out]
  have hA3 : A.bottom = bot := by rw [HA.out]
  have hA4 : A.n = n0 := by rw [HA.out]
  have hA5 : A.style = st := by rw [HA.out]
  have HA2 := Lib.hid hA2
  have HA3 := Lib.hid hA3
  have HA4 := Lib.hid hA4
  have HA5 := Lib.hid hA5
  have HS0 := Lib.hid hs0
  have HPg : Hid (p14 ≠ g ∧ p14 ≠ q) := Lib.hid (by have := hb4.size; have := HS3.out; omega)
  have HPr : Hid (p14 ≠ rb + 2) := Lib.hid (by have := hb4.size; have := HS3.out; omega)
  have HW5 := Lib.hid hw5
  have HP14 := Lib.hid hp14
  clear hRL hb4 hrl5 hp14 hw5 b45 hdo5 hg5 hs0 hlt hA0 hA2 hA3 hA4 hA5 HMv
  go_upto_region 14 with fail
  rw [HW5.out, HP14.out]
  go_upto_region 15 with fail
  refine Go.Proofs.YtkggmcnocpgnbaaDoor.R.wp_region_prog [10, 12, 13] (by kernel_rfl) (UpS g q rb p14 L x y gone a5 n5 c5 a4 n4 c4 x.W (.slice a n c) A w 105) (fun _ _ => True) (UpOk g rb 0 y a5 a4 n5 c5 n4 c4 top bot n0 st) (by rfl) (by kernel_rfl) (by kernel_rfl) (by kernel_rfl) ?hcong ?hOk ?hop ?hdone ?h0
  case hcong => exact fun k f f2 u hs hst => UpS.cong (fun hk => hs 105 (by subst hk; rw [show Go.Proofs.YtkggmcnocpgnbaaDoor.R.slotsP _ _ 1 = [105, 96, 98, 100, 102, 104] from by kernel_rfl]; simp)) hst
  case hOk => intro i u w1 w2 h hr; unfold UpOk at h ⊢; split <;> first | exact True.intro | exact h
  case h0 => exact HS0.out.drew
  case hop =>
    refine ⟨?_, ?_, ?_, ?_, ?_, ?_, ?_, ?_, ?_, ?_, ?_, ?_, ?_, ?_, ?_, trivial⟩
    · intro k z v hst hag hdep
      refine .inl ⟨rfl, fun K hK => ?_⟩
      have d14 : z.tmps.getD 14 undef = .pointer (some ⟨p14, 0, none⟩) := hag.2.2 14 (by kernel_rfl)
      have e14 := d14
      rw [Array.getD_eq_getD_getElem?] at e14
      have l0 := hst.1.2.c0
      have l1 := hst.1.2.c1
      have HSt := Lib.hid hst
      clear hdep hag hst
      go_simp
      exact hK _ _ trivial rfl HSt.out
    · intro k z v hst hag hdep
      refine .inl ⟨rfl, fun K hK => ?_⟩
      have d0 : z.tmps.getD 0 undef = .pointer (some ⟨g, 0, none⟩) := hag.2.2 0 (by kernel_rfl)
      have e0 := d0
      rw [Array.getD_eq_getD_getElem?] at e0
      have HSt := Lib.hid hst
      clear hdep hag hst
      go_simp
      exact hK _ _ trivial rfl HSt.out
    · intro k z v hst hag hdep
      refine .inl ⟨rfl, fun K hK => ?_⟩
      have d5 : z.tmps.getD 5 undef = .pointer (some ⟨rb + 1, 0, none⟩) := hag.2.2 5 (by kernel_rfl)
      have e5 := d5
      rw [Array.getD_eq_getD_getElem?] at e5
      have HSt := Lib.hid hst
      clear hdep hag hst
      go_simp
      exact hK _ _ trivial rfl HSt.out
    · intro k z v hst hag hdep
      refine .inl ⟨rfl, fun K hK => ?_⟩
      have d97 : z.tmps.getD 97 undef = .pointer (some ⟨rb + 1, 2, none⟩) := hdep { on := 2, ground := .data } (by simp) rfl _ _ rfl rfl
      have e97 := d97
      rw [Array.getD_eq_getD_getElem?] at e97
      have l0 := hst.1.1.ab.c2
      rw [HA2.out] at l0
      have HSt := Lib.hid hst
      clear hdep hag hst
      go_simp
      exact hK _ _ trivial rfl HSt.out
    · intro k z v hst hag hdep
      refine .inl ⟨rfl, fun K hK => ?_⟩
      have d5 : z.tmps.getD 5 undef = .pointer (some ⟨rb + 1, 0, none⟩) := hag.2.2 5 (by kernel_rfl)
      have e5 := d5
      rw [Array.getD_eq_getD_getElem?] at e5
      have HSt := Lib.hid hst
      clear hdep hag hst
      go_simp
      exact hK _ _ trivial rfl HSt.out
    · intro k z v hst hag hdep
      refine .inl ⟨rfl, fun K hK => ?_⟩
      have d99 : z.tmps.getD 99 undef = .pointer (some ⟨rb + 1, 3, none⟩) := hdep { on := 4, ground := .data } (by simp) rfl _ _ rfl rfl
      have e99 := d99
      rw [Array.getD_eq_getD_getElem?] at e99
      have l0 := hst.1.1.ab.c3
      rw [HA3.out] at l0
      have HSt := Lib.hid hst
      clear hdep hag hst
      go_simp
      exact hK _ _ trivial rfl HSt.out
    · intro k z v hst hag hdep
      refine .inl ⟨rfl, fun K hK => ?_⟩
      have d5 : z.tmps.getD 5 undef = .pointer (some ⟨rb + 1, 0, none⟩) := hag.2.2 5 (by kernel_rfl)
      have e5 := d5
      rw [Array.getD_eq_getD_getElem?] at e5
      have HSt := Lib.hid hst
      clear hdep hag hst
      go_simp
      exact hK _ _ trivial rfl HSt.out
    · intro k z v hst hag hdep
      refine .inl ⟨rfl, fun K hK => ?_⟩
      have d101 : z.tmps.getD 101 undef = .pointer (some ⟨rb + 1, 4, none⟩) := hdep { on := 6, ground := .data } (by simp) rfl _ _ rfl rfl
      have e101 := d101
      rw [Array.getD_eq_getD_getElem?] at e101
      have l0 := hst.1.1.ab.c4
      rw [HA4.out] at l0
      have HSt := Lib.hid hst
      clear hdep hag hst
      go_simp
      exact hK _ _ trivial rfl HSt.out
    · intro k z v hst hag hdep
      refine .inl ⟨rfl, fun K hK => ?_⟩
      have d5 : z.tmps.getD 5 undef = .pointer (some ⟨rb + 1, 0, none⟩) := hag.2.2 5 (by kernel_rfl)
      have e5 := d5
      rw [Array.getD_eq_getD_getElem?] at e5
      have HSt := Lib.hid hst
      clear hdep hag hst
      go_simp
      exact hK _ _ trivial rfl HSt.out
    · intro k z v hst hag hdep
      refine .inl ⟨rfl, fun K hK => ?_⟩
      have d103 : z.tmps.getD 103 undef = .pointer (some ⟨rb + 1, 5, none⟩) := hdep { on := 8, ground := .data } (by simp) rfl _ _ rfl rfl
      have e103 := d103
      rw [Array.getD_eq_getD_getElem?] at e103
      have l0 := hst.1.1.ab.c5
      rw [HA5.out] at l0
      have HSt := Lib.hid hst
      clear hdep hag hst
      go_simp
      exact hK _ _ trivial rfl HSt.out
    · intro z v hst hag hdep
      refine ⟨rfl, fun K hK => ?_⟩
      have d96 : z.tmps.getD 96 undef = .pointer (some ⟨g, 0, none⟩) := hdep { on := 1, ground := .data } (by simp) rfl _ _ rfl rfl
      have e96 := d96
      rw [Array.getD_eq_getD_getElem?] at e96
      have d98 : z.tmps.getD 98 undef = .int .i64 top := hdep { on := 3, ground := .data } (by simp) rfl _ _ rfl rfl
      have e98 := d98
      rw [Array.getD_eq_getD_getElem?] at e98
      have d100 : z.tmps.getD 100 undef = .int .i64 bot := hdep { on := 5, ground := .data } (by simp) rfl _ _ rfl rfl
      have e100 := d100
      rw [Array.getD_eq_getD_getElem?] at e100
      have d102 : z.tmps.getD 102 undef = .int .i64 n0 := hdep { on := 7, ground := .data } (by simp) rfl _ _ rfl rfl
      have e102 := d102
      rw [Array.getD_eq_getD_getElem?] at e102
      have d104 : z.tmps.getD 104 undef = .int .i64 st := hdep { on := 9, ground := .data } (by simp) rfl _ _ rfl rfl
      have e104 := d104
      rw [Array.getD_eq_getD_getElem?] at e104
      have HU := Lib.hid (gup_any (L := (rb + 2) :: L) top bot n0 st v hst.2.1 (hst.1.1.big HL.out HRb.out))
      have HSt := Lib.hid hst
      have hsz := hag.2.1
      clear hdep hag hst
      go_simp
      refine HU.out.mono ?_
      rintro e w' ⟨a6, m6, c6, rfl, k1, k2, k3⟩
      rw [HGone.out] at k1
      rw [HY.out] at k2
      exact hK _ _ trivial trivial (HSt.out.one HLt.out HSub.out (by rw [hsz]; show 105 < 147; decide) HPg.out k1 k2 k3)
    · intro k z v hst hag hdep
      refine .inl ⟨rfl, fun K hK => ?_⟩
      have d15 : z.tmps.getD 15 undef = .slice a4 n4 c4 := hag.2.2 15 (by kernel_rfl)
      have e15 := d15
      rw [Array.getD_eq_getD_getElem?] at e15
      have HSt := Lib.hid hst
      clear hdep hag hst
      go_simp
      exact hK _ _ trivial rfl HSt.out
    · intro z v hst hag hdep
      refine ⟨rfl, fun K hK => ?_⟩
      have d106 : z.tmps.getD 106 undef = .slice a4 n4 c4 := hdep { on := 11, ground := .data } (by simp) rfl _ _ rfl rfl
      have e106 := d106
      rw [Array.getD_eq_getD_getElem?] at e106
      obtain ⟨a6, m6, c6, hsl, k1⟩ := hst.2.2.2.2
      have d105 : z.tmps.getD 105 undef = .slice a6 m6 c6 := hsl
      have e105 := d105
      rw [Array.getD_eq_getD_getElem?] at e105
      have HR := Lib.hid (lawRows_any v k1 hst.2.2.2.1 HGr.out HGl.out HGl.out (by rw [k1.len]; exact HGn.out) (by rw [hst.2.2.2.1.len]; exact HGn.out))
      have HSt := Lib.hid hst
      clear hdep hag hst hsl k1
      go_simp
      refine HR.out.mono ?_
      rintro e w' ⟨rfl, hb⟩
      have hdd : decide (gone = gone) = true := by simp
      rw [hdd]
      exact hK _ _ trivial rfl (HSt.out.two HLt.out hb)
    · intro z v hst hag hdep
      refine ⟨rfl, fun K hK => ?_⟩
      have d6 : z.tmps.getD 6 undef = .pointer (some ⟨rb + 2, 0, none⟩) := hag.2.2 6 (by kernel_rfl)
      have e6 := d6
      rw [Array.getD_eq_getD_getElem?] at e6
      have d95 : z.tmps.getD 95 undef = .agg #[.int .i64 (y.W : Int), .slice a5 n5 c5] := hdep { on := 0, ground := .data } (by simp) rfl _ _ rfl rfl
      have e95 := d95
      rw [Array.getD_eq_getD_getElem?] at e95
      obtain ⟨rv0, rv1, hrs⟩ := hst.1.1.rs
      obtain ⟨k0, k1, k2, k3⟩ := two_cells hrs
      have HSt := Lib.hid hst
      clear hdep hag hst hrs
      go_simp
      exact hK undef _ trivial trivial (HSt.out.three HLt.out HPr.out)
    · intro k z v hst hag hdep
      refine .inl ⟨rfl, fun K hK => ?_⟩
      have d107 : z.tmps.getD 107 undef = .bool true := hdep { on := 12, ground := .data } (by simp) rfl _ _ rfl rfl
      have e107 := d107
      rw [Array.getD_eq_getD_getElem?] at e107
      have HSt := Lib.hid hst
      clear hdep hag hst
      go_simp
      exact hK _ _ trivial rfl HSt.out
  case hdone =>
    intro z v hst hag hok
    have d7 : z.tmps.getD 7 undef = .bool true := hok 14 _ 7 rfl rfl
    have hd := hst.1.1
    obtain ⟨h3, h4, h5⟩ := hst.2
    have HD := Lib.hid hd
    have H3 := Lib.hid h3
    have H4 := Lib.hid h4
    have H5 := Lib.hid h5
    have hc := two_cells h5
    obtain ⟨k0, k1, k2, k3⟩ := hc
    clear hst hd h3 h4 h5
    obtain ⟨uu, hu, hzz⟩ := Go.Proofs.YtkggmcnocpgnbaaDoor.R.agree_frame [95, 96, 97, 98, 99, 100, 101, 102, 103, 104, 105, 106, 107, 7] rfl hag
    have e7 := (hu 7).trans d7
    subst hzz
    simp only [List.foldl_cons, List.foldl_nil]
    rw [e7]
    clear e7 d7 hu hag hok
    try dsimp only [Exit.then]
    simp only [List.setIfInBounds_toArray, List.set_cons_succ, List.set_cons_zero]
    generalize uu 95 = u95', uu 96 = u96', uu 97 = u97', uu 98 = u98', uu 99 = u99', uu 100 = u100', uu 101 = u101', uu 102 = u102', uu 103 = u103', uu 104 = u104', uu 105 = u105', uu 106 = u106', uu 107 = u107'
    clear uu
    rename_i K hK
    refine hK _ _ ?_
    go_wp2
    refine bodyPost_ret (v := .tuple #[.agg #[.int .i64 (y.W : Int), .slice a5 n5 c5], .bool true]) (by rw [results_cell_tmp (fn := Tryd.f37) rfl]; go_simp <;> rfl) rfl ?_
    rw [← HP.out]
    exact ⟨_, q, rfl, H3.out, (H4.out.sub (fun p hp => List.mem_cons_of_mem _ hp)).consMem HSub.out.2, .inl rfl, HD.out.kb⟩
def DnOk (g rb top_ : Nat) (y : Gd) (a5 a4 : Option Addr) (n5 c5 n4 c4 : Nat) (top bot n0 st : Int) : Nat → Value → World → Prop
  | 0, u, _ => u = .agg #[.int .i64 (y.W : Int), .slice a5 n5 c5]
  | 1, u, _ => u = .pointer (some ⟨g, 0, none⟩)
  | 2, u, _ => u = .pointer (some ⟨rb + 1, 2, none⟩)
  | 3, u, _ => u = .int .i64 top
  | 4, u, _ => u = .pointer (some ⟨rb + 1, 3, none⟩)
  | 5, u, _ => u = .int .i64 bot
  | 6, u, _ => u = .pointer (some ⟨rb + 1, 4, none⟩)
  | 7, u, _ => u = .int .i64 n0
  | 8, u, _ => u = .pointer (some ⟨rb + 1, 5, none⟩)
  | 9, u, _ => u = .int .i64 st
  | 10, _, _ => True
  | 11, u, _ => u = .slice a4 n4 c4
  | 12, u, _ => u = .bool true
  | 13, _, _ => True
  | 14, u, _ => u = .bool true
  | _, _, _ => True
set_option maxRecDepth 100000 in
set_option maxHeartbeats 16000000 in
theorem doDown_any {g q : Nat} {L : List Nat} {x : Gd} {v : Value} {A : ActG} (w : World) (hk : A.kind = 2) (h : Gr g q x w) (hv : RefG L v x w) (hg : g ∈ L) (hq : q ∈ L) (hL : ∀ p ∈ L, p < w.heap.size) :
    Calls Tryd.prog 37 #[.pointer (some ⟨g, 0, none⟩), v, .agg (actC A)] w (DoG g q L (downG x A.top A.bottom A.n A.style).1 w) := by
  obtain ⟨kd, y0, top, bot, n0, st, ww, hh, row⟩ := A
  simp only at hk
  subst hk
  simp only
  have hx := h.ok
  obtain ⟨A, hA⟩ : ∃ A : ActG, A = ⟨2, y0, top, bot, n0, st, ww, hh, row⟩ := ⟨_, rfl⟩
  obtain ⟨gone, hgone⟩ : ∃ gone, (downG x top bot n0 st).2 = gone := ⟨_, rfl⟩
  have hgm : ∀ r ∈ gone, r ∈ x.rs := fun r hr => mem_downGone (by rw [hgone]; exact hr)
  have hgn : gone.length ≤ 1000 := by rw [← hgone]; exact Nat.le_trans (len_downGone _ _ _ _ _) hx.h2
  have HGr : Hid (∀ r ∈ gone, AllC Rng r.l) := Lib.hid (fun r hr => hx.rng r (hgm r hr))
  have HGl : Hid (∀ r ∈ gone, r.l.length ≤ 1000) := Lib.hid (fun r hr => by rw [hx.len r (hgm r hr)]; exact hx.w2)
  have HGn := Lib.hid hgn
  have HGone := Lib.hid hgone
  have HXo := Lib.hid hx
  obtain ⟨rb, hrb⟩ : ∃ rb, w.heap.size = rb := ⟨_, rfl⟩
  obtain ⟨a, n, c, rfl, hrl⟩ := hv
  unfold refV
  obtain ⟨w1, hw1⟩ : ∃ w1, w.alloc (.cells #[.int .i64 (x.W : Int), .slice a n c] 82) = w1 := ⟨_, rfl⟩
  have hs1 : w1.heap.size = rb + 1 := by rw [← hw1, World.size_alloc, hrb]
  obtain ⟨w2, hw2⟩ : ∃ w2, w1.alloc (.cells (actC A) 77) = w2 := ⟨_, rfl⟩
  have hs2 : w2.heap.size = rb + 2 := by rw [← hw2, World.size_alloc, hs1]
  obtain ⟨w3, hw3⟩ : ∃ w3, w2.alloc (.cells #[.int .i64 0, .slice none 0 0] 82) = w3 := ⟨_, rfl⟩
  have hs3 : w3.heap.size = rb + 3 := by rw [← hw3, World.size_alloc, hs2]
  have b01 : Below w.heap.size w w1 := by rw [← hw1]; exact (Below.refl _ _).alloc (Nat.le_refl _) _
  have b12 : Below w1.heap.size w1 w2 := by rw [← hw2]; exact (Below.refl _ _).alloc (Nat.le_refl _) _
  have b23 : Below w2.heap.size w2 w3 := by rw [← hw3]; exact (Below.refl _ _).alloc (Nat.le_refl _) _
  have b03 : Below w.heap.size w w3 := (b01.trans (b12.mono (by omega))).trans (b23.mono (by omega))
  have hx1 : GrB rb x.W (.slice a n c) w1 := by rw [← hw1, ← hrb]; exact GrB.new w x.W _
  have ha2 : ActB (rb + 1) A w2 := by rw [← hw2, ← hs1]; exact World.alloc_heap_new w1 _
  have hr3 : w3.heap[rb + 2]? = some (.cells #[.int .i64 0, .slice none 0 0] 82 (0, 0)) := by rw [← hw3, ← hs2]; exact World.alloc_heap_new w2 _
  have hdo : DoB g q rb x.W (.slice a n c) A w w3 := ⟨KeepB.of_below b03, (hx1.belowAll b12).belowAll b23, ha2.kept (b23.block _ ha2.lt), ⟨_, _, hr3⟩, hrb.symm⟩
  have hlt := h.lt
  rw [hrb] at hlt
  have hx3 := hdo.xb
  have hc0 := hx3.c0
  have hc1 := hx3.c1
  have hab := hdo.ab
  have a0 := hab.c0
  have a2 := hab.c2
  have a3 := hab.c3
  have a4' := hab.c4
  have a5' := hab.c5
  have hA0 : A.kind = 2 := by rw [hA]
  have hA2 : A.top = top := by rw [hA]
  have hA3 : A.bottom = bot := by rw [hA]
  have hA4 : A.n = n0 := by rw [hA]
  have hA5 : A.style = st := by rw [hA]
  rw [hA0] at a0
  rw [hA2] at a2
  rw [hA3] at a3
  rw [hA4] at a4'
  rw [hA5] at a5'
  have hrl3 : RowsL .i64 ((rb + 2) :: L) a n c x.rs w3 := (hrl.cons (by omega)).below b03
  have hL3 : ∀ p ∈ (rb + 2) :: L, p < w3.heap.size := fun p hp => by
    rcases List.mem_cons.1 hp with rfl | hp
    · omega
    · have := hL p hp; omega
  have hmv := refMove_false (v := refV x.W a n c) top bot n0 st w3 ⟨a, n, c, rfl, hrl3⟩ hx hL3
  unfold refV at hmv
  obtain ⟨y, hy⟩ : ∃ y, (downG x top bot n0 st).1 = y := ⟨_, rfl⟩
  obtain ⟨P, hP⟩ : ∃ P, DoG g q L (downG x top bot n0 st).1 w = P := ⟨_, rfl⟩
  rw [hP]
  rw [hy] at hP
  have HP := Lib.hid hP
  have HMv := Lib.hid hmv
  have HY := Lib.hid hy
  have HDo := Lib.hid hdo
  have HW1 := Lib.hid hw1
  have HW2 := Lib.hid hw2
  have HW3 := Lib.hid hw3
  have HRb := Lib.hid hrb
  have HS3 := Lib.hid hs3
  have HLt := Lib.hid hlt
  have HL := Lib.hid hL
  have HGr0 := Lib.hid (h.below b03)
  have HSub : Hid (g ∈ L ∧ q ∈ L) := Lib.hid ⟨hg, hq⟩
  have HA := Lib.hid hA
  clear hP hmv hy hdo hw1 hw2 hw3 hrb hs1 hs2 hs3 b01 b12 b23 b03 hx1 ha2 hr3 hlt hx3 hab hrl3 hL3 hrl hL h hg hq hx hgm hgn hgone hA0 hA2 hA3 hA4 hA5 hA
  go_enter Tryd.func37, Tryd.ntmps37
  go_upto_region 1 with fail
  rw [← HA.out]
  try rw [HW1.out, HRb.out, HW2.out, HW3.out]
  go_wp2_with fail
  refine HMv.out.mono ?_
  rintro e w4 ⟨v4, a4, n4, c4, rfl, hRG, hRL, hb4⟩
  rw [HY.out] at hRG
  rw [HGone.out] at hRL
  obtain ⟨a5, n5, c5, rfl, hrl5⟩ := hRG
  unfold refV
  obtain ⟨p14, hp14⟩ : ∃ p, w4.heap.size = p := ⟨_, rfl⟩
  obtain ⟨w5, hw5⟩ : ∃ w5, w4.alloc (.cells #[.int .i64 (y.W : Int), .slice a5 n5 c5] 82) = w5 := ⟨_, rfl⟩
  have b45 : Below w4.heap.size w4 w5 := by rw [← hw5]; exact (Below.refl _ _).alloc (Nat.le_refl _) _
  have hlt := HLt.out
  have hdo5 := (HDo.out.below hb4 hlt).below b45 hlt
  have hg5 : GrB p14 y.W (.slice a5 n5 c5) w5 := by rw [← hw5, ← hp14]; exact GrB.new w4 y.W _
  have hs0 : UpS g q rb p14 L x y gone a5 n5 c5 a4 n4 c4 x.W (.slice a n c) A w 118 0 (fun _ => undef) w5 := ⟨⟨hdo5, hg5⟩, ((HGr0.out.below hb4).below b45), ⟨a5, n5, c5, rfl, hrl5.below b45⟩, hRL.below b45, trivial⟩
  have a0 := hdo5.ab.c0
  have hA0 : A.kind = 2 := by rw [HA.out]
  rw [hA0] at a0
  have hA2 : A.top = top := by rw [HA.out]
  have hA3 : A.bottom = bot := by rw [HA.out]
  have hA4 : A.n = n0 := by rw [HA.out]
  have hA5 : A.style = st := by rw [HA.out]
  have HA2 := Lib.hid hA2
  have HA3 := Lib.hid hA3
  have HA4 := Lib.hid hA4
  have HA5 := Lib.hid hA5
  have HS0 := Lib.hid hs0
  have HPg : Hid (p14 ≠ g ∧ p14 ≠ q) := Lib.hid (by have := hb4.size; have := HS3.out; omega)
  have HPr : Hid (p14 ≠ rb + 2) := Lib.hid (by have := hb4.size; have := HS3.out; omega)
  have HW5 := Lib.hid hw5
  have HP14 := Lib.hid hp14
  clear hRL hb4 hrl5 hp14 hw5 b45 hdo5 hg5 hs0 hlt hA0 hA2 hA3 hA4 hA5 HMv
  go_upto_region 14 with fail
  rw [HW5.out, HP14.out]
  go_upto_region 16 with fail
  refine Go.Proofs.YtkggmcnocpgnbaaDoor.R.wp_region_prog [10, 12, 13] (by kernel_rfl) (UpS g q rb p14 L x y gone a5 n5 c5 a4 n4 c4 x.W (.slice a n c) A w 118) (fun _ _ => True) (DnOk g rb 0 y a5 a4 n5 c5 n4 c4 top bot n0 st) (by rfl) (by kernel_rfl) (by kernel_rfl) (by kernel_rfl) ?hcong ?hOk ?hop ?hdone ?h0
  case hcong => exact fun k f f2 u hs hst => UpS.cong (fun hk => hs 118 (by subst hk; rw [show Go.Proofs.YtkggmcnocpgnbaaDoor.R.slotsP _ _ 1 = [118, 109, 111, 113, 115, 117] from by kernel_rfl]; simp)) hst
  case hOk => intro i u w1 w2 h hr; unfold DnOk at h ⊢; split <;> first | exact True.intro | exact h
  case h0 => exact HS0.out.drew
  case hop =>
    refine ⟨?_, ?_, ?_, ?_, ?_, ?_, ?_, ?_, ?_, ?_, ?_, ?_, ?_, ?_, ?_, trivial⟩
    · intro k z v hst hag hdep
      refine .inl ⟨rfl, fun K hK => ?_⟩
      have d14 : z.tmps.getD 14 undef = .pointer (some ⟨p14, 0, none⟩) := hag.2.2 14 (by kernel_rfl)
      have e14 := d14
      rw [Array.getD_eq_getD_getElem?] at e14
      have l0 := hst.1.2.c0
      have l1 := hst.1.2.c1
      have HSt := Lib.hid hst
      clear hdep hag hst
      go_simp
      exact hK _ _ trivial rfl HSt.out
    · intro k z v hst hag hdep
      refine .inl ⟨rfl, fun K hK => ?_⟩
      have d0 : z.tmps.getD 0 undef = .pointer (some ⟨g, 0, none⟩) := hag.2.2 0 (by kernel_rfl)
      have e0 := d0
      rw [Array.getD_eq_getD_getElem?] at e0
      have HSt := Lib.hid hst
      clear hdep hag hst
      go_simp
      exact hK _ _ trivial rfl HSt.out
    · intro k z v hst hag hdep
      refine .inl ⟨rfl, fun K hK => ?_⟩
      have d5 : z.tmps.getD 5 undef = .pointer (some ⟨rb + 1, 0, none⟩) := hag.2.2 5 (by kernel_rfl)
      have e5 := d5
      rw [Array.getD_eq_getD_getElem?] at e5
      have HSt := Lib.hid hst
      clear hdep hag hst
      go_simp
      exact hK _ _ trivial rfl HSt.out
    · intro k z v hst hag hdep
      refine .inl ⟨rfl, fun K hK => ?_⟩
      have d110 : z.tmps.getD 110 undef = .pointer (some ⟨rb + 1, 2, none⟩) := hdep { on := 2, ground := .data } (by simp) rfl _ _ rfl rfl
      have e110 := d110
      rw [Array.getD_eq_getD_getElem?] at e110
      have l0 := hst.1.1.ab.c2
      rw [HA2.out] at l0
      have HSt := Lib.hid hst
      clear hdep hag hst
      go_simp
      exact hK _ _ trivial rfl HSt.out
    · intro k z v hst hag hdep
      refine .inl ⟨rfl, fun K hK => ?_⟩
      have d5 : z.tmps.getD 5 undef = .pointer (some ⟨rb + 1, 0, none⟩) := hag.2.2 5 (by kernel_rfl)
      have e5 := d5
      rw [Array.getD_eq_getD_getElem?] at e5
      have HSt := Lib.hid hst
      clear hdep hag hst
      go_simp
      exact hK _ _ trivial rfl HSt.out
    · intro k z v hst hag hdep
      refine .inl ⟨rfl, fun K hK => ?_⟩
      have d112 : z.tmps.getD 112 undef = .pointer (some ⟨rb + 1, 3, none⟩) := hdep { on := 4, ground := .data } (by simp) rfl _ _ rfl rfl
      have e112 := d112
      rw [Array.getD_eq_getD_getElem?] at e112
      have l0 := hst.1.1.ab.c3
      rw [HA3.out] at l0
      have HSt := Lib.hid hst
      clear hdep hag hst
      go_simp
      exact hK _ _ trivial rfl HSt.out
    · intro k z v hst hag hdep
      refine .inl ⟨rfl, fun K hK => ?_⟩
      have d5 : z.tmps.getD 5 undef = .pointer (some ⟨rb + 1, 0, none⟩) := hag.2.2 5 (by kernel_rfl)
      have e5 := d5
      rw [Array.getD_eq_getD_getElem?] at e5
      have HSt := Lib.hid hst
      clear hdep hag hst
      go_simp
      exact hK _ _ trivial rfl HSt.out
    · intro k z v hst hag hdep
      refine .inl ⟨rfl, fun K hK => ?_⟩
      have d114 : z.tmps.getD 114 undef = .pointer (some ⟨rb + 1, 4, none⟩) := hdep { on := 6, ground := .data } (by simp) rfl _ _ rfl rfl
      have e114 := d114
      rw [Array.getD_eq_getD_getElem?] at e114
      have l0 := hst.1.1.ab.c4
      rw [HA4.out] at l0
      have HSt := Lib.hid hst
      clear hdep hag hst
      go_simp
      exact hK _ _ trivial rfl HSt.out
    · intro k z v hst hag hdep
      refine .inl ⟨rfl, fun K hK => ?_⟩
      have d5 : z.tmps.getD 5 undef = .pointer (some ⟨rb + 1, 0, none⟩) := hag.2.2 5 (by kernel_rfl)
      have e5 := d5
      rw [Array.getD_eq_getD_getElem?] at e5
      have HSt := Lib.hid hst
      clear hdep hag hst
      go_simp
      exact hK _ _ trivial rfl HSt.out
    · intro k z v hst hag hdep
      refine .inl ⟨rfl, fun K hK => ?_⟩
      have d116 : z.tmps.getD 116 undef = .pointer (some ⟨rb + 1, 5, none⟩) := hdep { on := 8, ground := .data } (by simp) rfl _ _ rfl rfl
      have e116 := d116
      rw [Array.getD_eq_getD_getElem?] at e116
      have l0 := hst.1.1.ab.c5
      rw [HA5.out] at l0
      have HSt := Lib.hid hst
      clear hdep hag hst
      go_simp
      exact hK _ _ trivial rfl HSt.out
    · intro z v hst hag hdep
      refine ⟨rfl, fun K hK => ?_⟩
      have d109 : z.tmps.getD 109 undef = .pointer (some ⟨g, 0, none⟩) := hdep { on := 1, ground := .data } (by simp) rfl _ _ rfl rfl
      have e109 := d109
      rw [Array.getD_eq_getD_getElem?] at e109
      have d111 : z.tmps.getD 111 undef = .int .i64 top := hdep { on := 3, ground := .data } (by simp) rfl _ _ rfl rfl
      have e111 := d111
      rw [Array.getD_eq_getD_getElem?] at e111
      have d113 : z.tmps.getD 113 undef = .int .i64 bot := hdep { on := 5, ground := .data } (by simp) rfl _ _ rfl rfl
      have e113 := d113
      rw [Array.getD_eq_getD_getElem?] at e113
      have d115 : z.tmps.getD 115 undef = .int .i64 n0 := hdep { on := 7, ground := .data } (by simp) rfl _ _ rfl rfl
      have e115 := d115
      rw [Array.getD_eq_getD_getElem?] at e115
      have d117 : z.tmps.getD 117 undef = .int .i64 st := hdep { on := 9, ground := .data } (by simp) rfl _ _ rfl rfl
      have e117 := d117
      rw [Array.getD_eq_getD_getElem?] at e117
      have HU := Lib.hid (gdown_any (L := (rb + 2) :: L) top bot n0 st v hst.2.1 (hst.1.1.big HL.out HRb.out))
      have HSt := Lib.hid hst
      have hsz := hag.2.1
      clear hdep hag hst
      go_simp
      refine HU.out.mono ?_
      rintro e w' ⟨a6, m6, c6, rfl, k1, k2, k3⟩
      rw [HGone.out] at k1
      rw [HY.out] at k2
      exact hK _ _ trivial trivial (HSt.out.one HLt.out HSub.out (by rw [hsz]; show 118 < 147; decide) HPg.out k1 k2 k3)
    · intro k z v hst hag hdep
      refine .inl ⟨rfl, fun K hK => ?_⟩
      have d15 : z.tmps.getD 15 undef = .slice a4 n4 c4 := hag.2.2 15 (by kernel_rfl)
      have e15 := d15
      rw [Array.getD_eq_getD_getElem?] at e15
      have HSt := Lib.hid hst
      clear hdep hag hst
      go_simp
      exact hK _ _ trivial rfl HSt.out
    · intro z v hst hag hdep
      refine ⟨rfl, fun K hK => ?_⟩
      have d119 : z.tmps.getD 119 undef = .slice a4 n4 c4 := hdep { on := 11, ground := .data } (by simp) rfl _ _ rfl rfl
      have e119 := d119
      rw [Array.getD_eq_getD_getElem?] at e119
      obtain ⟨a6, m6, c6, hsl, k1⟩ := hst.2.2.2.2
      have d118 : z.tmps.getD 118 undef = .slice a6 m6 c6 := hsl
      have e118 := d118
      rw [Array.getD_eq_getD_getElem?] at e118
      have HR := Lib.hid (lawRows_any v k1 hst.2.2.2.1 HGr.out HGl.out HGl.out (by rw [k1.len]; exact HGn.out) (by rw [hst.2.2.2.1.len]; exact HGn.out))
      have HSt := Lib.hid hst
      clear hdep hag hst hsl k1
      go_simp
      refine HR.out.mono ?_
      rintro e w' ⟨rfl, hb⟩
      have hdd : decide (gone = gone) = true := by simp
      rw [hdd]
      exact hK _ _ trivial rfl (HSt.out.two HLt.out hb)
    · intro z v hst hag hdep
      refine ⟨rfl, fun K hK => ?_⟩
      have d6 : z.tmps.getD 6 undef = .pointer (some ⟨rb + 2, 0, none⟩) := hag.2.2 6 (by kernel_rfl)
      have e6 := d6
      rw [Array.getD_eq_getD_getElem?] at e6
      have d108 : z.tmps.getD 108 undef = .agg #[.int .i64 (y.W : Int), .slice a5 n5 c5] := hdep { on := 0, ground := .data } (by simp) rfl _ _ rfl rfl
      have e108 := d108
      rw [Array.getD_eq_getD_getElem?] at e108
      obtain ⟨rv0, rv1, hrs⟩ := hst.1.1.rs
      obtain ⟨k0, k1, k2, k3⟩ := two_cells hrs
      have HSt := Lib.hid hst
      clear hdep hag hst hrs
      go_simp
      exact hK undef _ trivial trivial (HSt.out.three HLt.out HPr.out)
    · intro k z v hst hag hdep
      refine .inl ⟨rfl, fun K hK => ?_⟩
      have d120 : z.tmps.getD 120 undef = .bool true := hdep { on := 12, ground := .data } (by simp) rfl _ _ rfl rfl
      have e120 := d120
      rw [Array.getD_eq_getD_getElem?] at e120
      have HSt := Lib.hid hst
      clear hdep hag hst
      go_simp
      exact hK _ _ trivial rfl HSt.out
  case hdone =>
    intro z v hst hag hok
    have d7 : z.tmps.getD 7 undef = .bool true := hok 14 _ 7 rfl rfl
    have hd := hst.1.1
    obtain ⟨h3, h4, h5⟩ := hst.2
    have HD := Lib.hid hd
    have H3 := Lib.hid h3
    have H4 := Lib.hid h4
    have H5 := Lib.hid h5
    have hc := two_cells h5
    obtain ⟨k0, k1, k2, k3⟩ := hc
    clear hst hd h3 h4 h5
    obtain ⟨uu, hu, hzz⟩ := Go.Proofs.YtkggmcnocpgnbaaDoor.R.agree_frame [108, 109, 110, 111, 112, 113, 114, 115, 116, 117, 118, 119, 120, 7] rfl hag
    have e7 := (hu 7).trans d7
    subst hzz
    simp only [List.foldl_cons, List.foldl_nil]
    rw [e7]
    clear e7 d7 hu hag hok
    try dsimp only [Exit.then]
    simp only [List.setIfInBounds_toArray, List.set_cons_succ, List.set_cons_zero]
    generalize uu 108 = u108', uu 109 = u109', uu 110 = u110', uu 111 = u111', uu 112 = u112', uu 113 = u113', uu 114 = u114', uu 115 = u115', uu 116 = u116', uu 117 = u117', uu 118 = u118', uu 119 = u119', uu 120 = u120'
    clear uu
    rename_i K hK
    refine hK _ _ ?_
    go_wp2
    refine bodyPost_ret (v := .tuple #[.agg #[.int .i64 (y.W : Int), .slice a5 n5 c5], .bool true]) (by rw [results_cell_tmp (fn := Tryd.f37) rfl]; go_simp <;> rfl) rfl ?_
    rw [← HP.out]
    exact ⟨_, q, rfl, H3.out, (H4.out.sub (fun p hp => List.mem_cons_of_mem _ hp)).consMem HSub.out.2, .inl rfl, HD.out.kb⟩
end Go.Proofs.YtkggmcnocpgnbaaDoor.K
