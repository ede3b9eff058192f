/- The law's do of a grid: another size. -/
import Derived.Test.YtkggmcnocpgnbaaDoorJLdB
namespace Go.Proofs.YtkggmcnocpgnbaaDoor.K
open Go.RowKit

def SzOk (rb : Nat) (x : Gd) (L : List Nat) (y : Gd) (gone : List Ro) (a : Option Addr) (n c : Nat) (n0 ww hh : Int) : Nat → Value → World → Prop
  | 0, u, _ => u = .agg #[.int .i64 (x.W : Int), .slice a n c]
  | 1, u, _ => u = .pointer (some ⟨rb + 1, 6, none⟩)
  | 2, u, _ => u = .int .i64 ww
  | 3, u, _ => u = .int .i64 (smallN ww)
  | 4, u, _ => u = .pointer (some ⟨rb + 1, 7, none⟩)
  | 5, u, _ => u = .int .i64 hh
  | 6, u, _ => u = .int .i64 (smallN hh)
  | 7, u, _ => u = .pointer (some ⟨rb + 1, 4, none⟩)
  | 8, u, _ => u = .int .i64 n0
  | 9, u, w => ∃ v2 a4 n4 c4, u = .tuple #[v2, .slice a4 n4 c4] ∧ RefG ((rb + 2) :: L) v2 y w ∧ RowsL .i64 ((rb + 2) :: L) a4 n4 c4 gone w
  | 10, u, w => ∃ v2 a4 n4 c4, u = .tuple #[v2, .slice a4 n4 c4] ∧ RefG ((rb + 2) :: L) v2 y w ∧ RowsL .i64 ((rb + 2) :: L) a4 n4 c4 gone w
  | 11, u, w => RefG ((rb + 2) :: L) u y w
  | 12, u, w => ∃ a4 n4 c4, u = .slice a4 n4 c4 ∧ RowsL .i64 ((rb + 2) :: L) a4 n4 c4 gone w
  | 13, u, w => ∃ p, u = .pointer (some ⟨p, 0, none⟩) ∧ rb + 3 ≤ p ∧ NumB p w
  | 14, _, _ => True
  | 15, u, w => ∃ a4 n4 c4, u = .slice a4 n4 c4 ∧ RowsL .i64 ((rb + 2) :: L) a4 n4 c4 gone w
  | _, _, _ => True
def SyOk (g rb top_ : Nat) (y : Gd) (a5 a4 : Option Addr) (n5 c5 n4 c4 : Nat) (n0 ww hh : Int) : Nat → Value → World → Prop
  | 0, u, _ => u = .agg #[.int .i64 (y.W : Int), .slice a5 n5 c5]
  | 1, u, _ => u = .pointer (some ⟨g, 0, none⟩)
  | 2, u, _ => u = .pointer (some ⟨rb + 1, 6, none⟩)
  | 3, u, _ => u = .int .i64 ww
  | 4, u, _ => u = .int .i64 (smallN ww)
  | 5, u, _ => u = .pointer (some ⟨rb + 1, 7, none⟩)
  | 6, u, _ => u = .int .i64 hh
  | 7, u, _ => u = .int .i64 (smallN hh)
  | 8, u, _ => u = .pointer (some ⟨rb + 1, 4, none⟩)
  | 9, u, _ => u = .int .i64 n0
  | 10, _, _ => True
  | 11, u, _ => u = .slice a4 n4 c4
  | 12, u, _ => u = .bool true
  | 13, _, _ => True
  | 14, u, _ => u = .bool true
  | _, _, _ => True
theorem SzS.nil1 {g q rb : Nat} {L : List Nat} {x y : Gd} {W : Nat} {sv : Value} {A : ActG} {w : World} {f f2 : Nat → Value} {u : World} (h : SzS g q rb L x y W sv A w 0 f u) : SzS g q rb L x y W sv A w 1 f2 u := ⟨h.1, trivial⟩
set_option maxRecDepth 100000 in
set_option maxHeartbeats 16000000 in
theorem doSize_any {g q : Nat} {L : List Nat} {x : Gd} {v : Value} {A : ActG} (w : World) (hk0 : A.kind ≠ 0) (hk1 : A.kind ≠ 1) (hk2 : A.kind ≠ 2) (h : Gr g q x w) (hv : RefG L v x w) (hg : g ∈ L) (hq : q ∈ L) (hL : ∀ p ∈ L, p < w.heap.size) :
    Calls Tryd.prog 37 #[.pointer (some ⟨g, 0, none⟩), v, .agg (actC A)] w (DoG g q L (sizeG x (smallN A.w) (smallN A.h) A.n).1 w) := by
  have b0 : (A.kind == 0) = false := by simpa using hk0
  have b1 : (A.kind == 1) = false := by simpa using hk1
  have b2 : (A.kind == 2) = false := by simpa using hk2
  have hx := h.ok
  obtain ⟨n0, hA4⟩ : ∃ k, A.n = k := ⟨_, rfl⟩
  obtain ⟨ww, hA6⟩ : ∃ k, A.w = k := ⟨_, rfl⟩
  obtain ⟨hh, hA7⟩ : ∃ k, A.h = k := ⟨_, rfl⟩
  rw [hA4, hA6, hA7]
  obtain ⟨gone, hgone⟩ : ∃ gone, (sizeG x (smallN ww) (smallN hh) n0).2 = gone := ⟨_, rfl⟩
  have hgm : ∀ r ∈ gone, r ∈ x.rs := fun r hr => mem_sizeGone (by rw [hgone]; exact hr)
  have hgn : gone.length ≤ 1000 := by rw [← hgone]; exact Nat.le_trans (len_sizeGone _ _ _ _) hx.h2
  have HGr : Hid (∀ r ∈ gone, AllC Rng r.l) := Lib.hid (fun r hr => hx.rng r (hgm r hr))
  have HGl : Hid (∀ r ∈ gone, r.l.length ≤ 1000) := Lib.hid (fun r hr => by rw [hx.len r (hgm r hr)]; exact hx.w2)
  have HGn := Lib.hid hgn
  have HGone := Lib.hid hgone
  have HXo := Lib.hid hx
  obtain ⟨rb, hrb⟩ : ∃ rb, w.heap.size = rb := ⟨_, rfl⟩
  obtain ⟨a, n, c, rfl, hrl⟩ := hv
  unfold refV
  obtain ⟨w1, hw1⟩ : ∃ w1, w.alloc (.cells #[.int .i64 (x.W : Int), .slice a n c] 82) = w1 := ⟨_, rfl⟩
  have hs1 : w1.heap.size = rb + 1 := by rw [← hw1, World.size_alloc, hrb]
  obtain ⟨w2, hw2⟩ : ∃ w2, w1.alloc (.cells (actC A) 77) = w2 := ⟨_, rfl⟩
  have hs2 : w2.heap.size = rb + 2 := by rw [← hw2, World.size_alloc, hs1]
  obtain ⟨w3, hw3⟩ : ∃ w3, w2.alloc (.cells #[.int .i64 0, .slice none 0 0] 82) = w3 := ⟨_, rfl⟩
  have hs3 : w3.heap.size = rb + 3 := by rw [← hw3, World.size_alloc, hs2]
  have b01 : Below w.heap.size w w1 := by rw [← hw1]; exact (Below.refl _ _).alloc (Nat.le_refl _) _
  have b12 : Below w1.heap.size w1 w2 := by rw [← hw2]; exact (Below.refl _ _).alloc (Nat.le_refl _) _
  have b23 : Below w2.heap.size w2 w3 := by rw [← hw3]; exact (Below.refl _ _).alloc (Nat.le_refl _) _
  have b03 : Below w.heap.size w w3 := (b01.trans (b12.mono (by omega))).trans (b23.mono (by omega))
  have hx1 : GrB rb x.W (.slice a n c) w1 := by rw [← hw1, ← hrb]; exact GrB.new w x.W _
  have ha2 : ActB (rb + 1) A w2 := by rw [← hw2, ← hs1]; exact World.alloc_heap_new w1 _
  have hr3 : w3.heap[rb + 2]? = some (.cells #[.int .i64 0, .slice none 0 0] 82 (0, 0)) := by rw [← hw3, ← hs2]; exact World.alloc_heap_new w2 _
  have hdo : DoB g q rb x.W (.slice a n c) A w w3 := ⟨KeepB.of_below b03, (hx1.belowAll b12).belowAll b23, ha2.kept (b23.block _ ha2.lt), ⟨_, _, hr3⟩, hrb.symm⟩
  have hlt := h.lt
  rw [hrb] at hlt
  have hx3 := hdo.xb
  have hc0 := hx3.c0
  have hc1 := hx3.c1
  have hab := hdo.ab
  have a0 := hab.c0
  obtain ⟨kd, hkd⟩ : ∃ k, A.kind = k := ⟨_, rfl⟩
  rw [hkd] at a0 b0 b1 b2
  have hrl3 : RowsL .i64 ((rb + 2) :: L) a n c x.rs w3 := (hrl.cons (by omega)).below b03
  obtain ⟨y, hy⟩ : ∃ y, (sizeG x (smallN ww) (smallN hh) n0).1 = y := ⟨_, rfl⟩
  obtain ⟨P, hP⟩ : ∃ P, DoG g q L (sizeG x (smallN ww) (smallN hh) n0).1 w = P := ⟨_, rfl⟩
  rw [hP]
  rw [hy] at hP
  have hs0 : SzS g q rb L x y x.W (.slice a n c) A w 0 (fun _ => undef) w3 := ⟨⟨hdo, h.below b03, a, n, c, rfl, hrl3⟩, trivial⟩
  have HS0 := Lib.hid hs0
  have HP := Lib.hid hP
  have HY := Lib.hid hy
  have HW1 := Lib.hid hw1
  have HW2 := Lib.hid hw2
  have HW3 := Lib.hid hw3
  have HRb := Lib.hid hrb
  have HS3 := Lib.hid hs3
  have HLt := Lib.hid hlt
  have HL := Lib.hid hL
  have HSub : Hid (g ∈ L ∧ q ∈ L) := Lib.hid ⟨hg, hq⟩
  have HA4 := Lib.hid hA4
  have HA6 := Lib.hid hA6
  have HA7 := Lib.hid hA7
  clear hP hy hdo hw1 hw2 hw3 hrb hs1 hs2 hs3 b01 b12 b23 b03 hx1 ha2 hr3 hlt hx3 hab hrl3 hrl hL h hg hq hx hgm hgn hgone hA4 hA6 hA7 hs0 hkd hk0 hk1 hk2
  go_enter Tryd.func37, Tryd.ntmps37
  go_upto_region 1 with fail
  try rw [HW1.out, HRb.out, HW2.out, HW3.out]
  go_upto_region 17 with fail
  refine Go.Proofs.YtkggmcnocpgnbaaDoor.R.wp_region_prog [9, 14] (by kernel_rfl) (SzS g q rb L x y x.W (.slice a n c) A w) (RowR ((rb + 2) :: L)) (SzOk rb x L y gone a n c n0 ww hh) (by rfl) (by kernel_rfl) (by kernel_rfl) (by kernel_rfl) ?hcong ?hOk ?hop ?hdone ?h0
  case hcong => exact fun k f f2 u hs hst => SzS.cong (fun hk => hs 16 (by rw [Go.Proofs.YtkggmcnocpgnbaaDoor.R.slotsP_all hk]; exact Go.Proofs.YtkggmcnocpgnbaaDoor.R.mem_slots (by kernel_rfl))) hst
  case hOk => intro i u w1 w2 h hr; unfold SzOk at h ⊢; split <;> first | exact True.intro | exact h | exact hr.g _ _ h | (obtain ⟨v2, a4, n4, c4, e, h1, h2⟩ := h; exact ⟨v2, a4, n4, c4, e, hr.g _ _ h1, hr.r _ _ _ _ h2⟩) | (obtain ⟨a4, n4, c4, e, h2⟩ := h; exact ⟨a4, n4, c4, e, hr.r _ _ _ _ h2⟩) | (obtain ⟨p, e, h1, h2⟩ := h; exact ⟨p, e, h1, hr.n _ h2⟩)
  case h0 => exact HS0.out.drew HLt.out
  case hop =>
    refine ⟨?_, ?_, ?_, ?_, ?_, ?_, ?_, ?_, ?_, ?_, ?_, ?_, ?_, ?_, ?_, ?_, trivial⟩
    · intro k z v hst hag hdep
      refine .inl ⟨rfl, fun K hK => ?_⟩
      have d4 : z.tmps.getD 4 undef = .pointer (some ⟨rb, 0, none⟩) := hag.2.2 4 (by kernel_rfl)
      have e4 := d4
      rw [Array.getD_eq_getD_getElem?] at e4
      have l0 := hst.1.1.xb.c0
      have l1 := hst.1.1.xb.c1
      have HSt := Lib.hid hst
      clear hdep hag hst
      go_simp
      exact hK _ _ (RowR.refl _ _) rfl HSt.out
    · intro k z v hst hag hdep
      refine .inl ⟨rfl, fun K hK => ?_⟩
      have d5 : z.tmps.getD 5 undef = .pointer (some ⟨rb + 1, 0, none⟩) := hag.2.2 5 (by kernel_rfl)
      have e5 := d5
      rw [Array.getD_eq_getD_getElem?] at e5
      have HSt := Lib.hid hst
      clear hdep hag hst
      go_simp
      exact hK _ _ (RowR.refl _ _) rfl HSt.out
    · intro k z v hst hag hdep
      refine .inl ⟨rfl, fun K hK => ?_⟩
      have d123 : z.tmps.getD 123 undef = .pointer (some ⟨rb + 1, 6, none⟩) := hdep { on := 1, ground := .data } (by simp) rfl _ _ rfl rfl
      have e123 := d123
      rw [Array.getD_eq_getD_getElem?] at e123
      have l0 := hst.1.1.ab.c6
      rw [HA6.out] at l0
      have HSt := Lib.hid hst
      clear hdep hag hst
      go_simp
      exact hK _ _ (RowR.refl _ _) rfl HSt.out
    · intro k z v hst hag hdep
      refine .inl ⟨rfl, fun K hK => ?_⟩
      have d124 : z.tmps.getD 124 undef = .int .i64 ww := hdep { on := 2, ground := .data } (by simp) rfl _ _ rfl rfl
      have e124 := d124
      rw [Array.getD_eq_getD_getElem?] at e124
      have HSt := Lib.hid hst
      clear hdep hag hst
      go_simp
      refine (small_any ww v).mono ?_
      rintro e w' ⟨rfl, rfl⟩
      exact hK _ _ (RowR.refl _ _) rfl HSt.out
    · intro k z v hst hag hdep
      refine .inl ⟨rfl, fun K hK => ?_⟩
      have d5 : z.tmps.getD 5 undef = .pointer (some ⟨rb + 1, 0, none⟩) := hag.2.2 5 (by kernel_rfl)
      have e5 := d5
      rw [Array.getD_eq_getD_getElem?] at e5
      have HSt := Lib.hid hst
      clear hdep hag hst
      go_simp
      exact hK _ _ (RowR.refl _ _) rfl HSt.out
    · intro k z v hst hag hdep
      refine .inl ⟨rfl, fun K hK => ?_⟩
      have d126 : z.tmps.getD 126 undef = .pointer (some ⟨rb + 1, 7, none⟩) := hdep { on := 4, ground := .data } (by simp) rfl _ _ rfl rfl
      have e126 := d126
      rw [Array.getD_eq_getD_getElem?] at e126
      have l0 := hst.1.1.ab.c7
      rw [HA7.out] at l0
      have HSt := Lib.hid hst
      clear hdep hag hst
      go_simp
      exact hK _ _ (RowR.refl _ _) rfl HSt.out
    · intro k z v hst hag hdep
      refine .inl ⟨rfl, fun K hK => ?_⟩
      have d127 : z.tmps.getD 127 undef = .int .i64 hh := hdep { on := 5, ground := .data } (by simp) rfl _ _ rfl rfl
      have e127 := d127
      rw [Array.getD_eq_getD_getElem?] at e127
      have HSt := Lib.hid hst
      clear hdep hag hst
      go_simp
      refine (small_any hh v).mono ?_
      rintro e w' ⟨rfl, rfl⟩
      exact hK _ _ (RowR.refl _ _) rfl HSt.out
    · intro k z v hst hag hdep
      refine .inl ⟨rfl, fun K hK => ?_⟩
      have d5 : z.tmps.getD 5 undef = .pointer (some ⟨rb + 1, 0, none⟩) := hag.2.2 5 (by kernel_rfl)
      have e5 := d5
      rw [Array.getD_eq_getD_getElem?] at e5
      have HSt := Lib.hid hst
      clear hdep hag hst
      go_simp
      exact hK _ _ (RowR.refl _ _) rfl HSt.out
    · intro k z v hst hag hdep
      refine .inl ⟨rfl, fun K hK => ?_⟩
      have d129 : z.tmps.getD 129 undef = .pointer (some ⟨rb + 1, 4, none⟩) := hdep { on := 7, ground := .data } (by simp) rfl _ _ rfl rfl
      have e129 := d129
      rw [Array.getD_eq_getD_getElem?] at e129
      have l0 := hst.1.1.ab.c4
      rw [HA4.out] at l0
      have HSt := Lib.hid hst
      clear hdep hag hst
      go_simp
      exact hK _ _ (RowR.refl _ _) rfl HSt.out
    · intro z v hst hag hdep
      refine ⟨rfl, fun K hK => ?_⟩
      have d122 : z.tmps.getD 122 undef = .agg #[.int .i64 (x.W : Int), .slice a n c] := hdep { on := 0, ground := .data } (by simp) rfl _ _ rfl rfl
      have e122 := d122
      rw [Array.getD_eq_getD_getElem?] at e122
      have d125 : z.tmps.getD 125 undef = .int .i64 (smallN ww) := hdep { on := 3, ground := .data } (by simp) rfl _ _ rfl rfl
      have e125 := d125
      rw [Array.getD_eq_getD_getElem?] at e125
      have d128 : z.tmps.getD 128 undef = .int .i64 (smallN hh) := hdep { on := 6, ground := .data } (by simp) rfl _ _ rfl rfl
      have e128 := d128
      rw [Array.getD_eq_getD_getElem?] at e128
      have d130 : z.tmps.getD 130 undef = .int .i64 n0 := hdep { on := 8, ground := .data } (by simp) rfl _ _ rfl rfl
      have e130 := d130
      rw [Array.getD_eq_getD_getElem?] at e130
      have HM := Lib.hid (refGResize_any (v := .agg #[.int .i64 (x.W : Int), .slice a n c]) (smallN ww) (smallN hh) n0 v hst.1.2.2 HXo.out (hst.1.1.big HL.out HRb.out))
      have HSt := Lib.hid hst
      clear hdep hag hst
      go_simp
      refine HM.out.mono ?_
      rintro e w' ⟨v2, a4, n4, c4, rfl, h1, h2, hb⟩
      rw [HY.out] at h1
      rw [HGone.out] at h2
      exact hK _ _ (RowR.below hb) ⟨v2, a4, n4, c4, rfl, h1, h2⟩ ((HSt.out.more HLt.out hb).nil1)
    · intro k z v hst hag hdep
      refine .inl ⟨rfl, fun K hK => ?_⟩
      have d131' : SzOk rb x L y gone a n c n0 ww hh 9 (z.tmps.getD 131 undef) v := hdep { on := 9, ground := .data } (by simp) rfl _ _ rfl rfl
      simp only [SzOk] at d131'
      obtain ⟨v2, a4, n4, c4, d131, hR, hG⟩ := d131'
      have e131 := d131
      rw [Array.getD_eq_getD_getElem?] at e131
      have HSt := Lib.hid hst
      have HRr := Lib.hid hR
      have HGg := Lib.hid hG
      clear hdep hag hst hR hG
      go_simp
      exact hK _ _ (RowR.refl _ _) ⟨v2, a4, n4, c4, rfl, HRr.out, HGg.out⟩ HSt.out
    · intro k z v hst hag hdep
      refine .inl ⟨rfl, fun K hK => ?_⟩
      have d121' : SzOk rb x L y gone a n c n0 ww hh 10 (z.tmps.getD 121 undef) v := hdep { on := 10, ground := .data } (by simp) rfl _ _ rfl rfl
      simp only [SzOk] at d121'
      obtain ⟨v2, a4, n4, c4, d121, hR, hG⟩ := d121'
      have e121 := d121
      rw [Array.getD_eq_getD_getElem?] at e121
      have HSt := Lib.hid hst
      have HRr := Lib.hid hR
      clear hdep hag hst hR hG
      go_simp
      exact hK _ _ (RowR.refl _ _) HRr.out HSt.out
    · intro k z v hst hag hdep
      refine .inl ⟨rfl, fun K hK => ?_⟩
      have d121' : SzOk rb x L y gone a n c n0 ww hh 10 (z.tmps.getD 121 undef) v := hdep { on := 10, ground := .data } (by simp) rfl _ _ rfl rfl
      simp only [SzOk] at d121'
      obtain ⟨v2, a4, n4, c4, d121, hR, hG⟩ := d121'
      have e121 := d121
      rw [Array.getD_eq_getD_getElem?] at e121
      have HSt := Lib.hid hst
      have HGg := Lib.hid hG
      clear hdep hag hst hR hG
      go_simp
      exact hK _ _ (RowR.refl _ _) ⟨a4, n4, c4, rfl, HGg.out⟩ HSt.out
    · intro k z v hst hag hdep
      refine .inl ⟨rfl, fun K hK => ?_⟩
      have HSt := Lib.hid hst
      have hlt3 := hst.1.1.lt
      clear hdep hag hst
      go_simp
      have hb : Below v.heap.size v (v.alloc (.cells #[.int .i64 0, .slice none 0 0] 82)) := (Below.refl _ _).alloc (Nat.le_refl _) _
      exact hK _ _ (RowR.below hb) ⟨v.heap.size, rfl, hlt3, 0, none, 0, 0, World.alloc_heap_new _ _⟩ (HSt.out.more HLt.out hb)
    · intro z v hst hag hdep
      refine ⟨rfl, fun K hK => ?_⟩
      have d16' : SzOk rb x L y gone a n c n0 ww hh 13 (z.tmps.getD 16 undef) v := hdep { on := 13, ground := .data } (by simp) rfl _ _ rfl rfl
      simp only [SzOk] at d16'
      obtain ⟨p, d16, hp, hN⟩ := d16'
      have e16 := d16
      rw [Array.getD_eq_getD_getElem?] at e16
      have d132' : SzOk rb x L y gone a n c n0 ww hh 11 (z.tmps.getD 132 undef) v := hdep { on := 11, ground := .data } (by simp) rfl _ _ rfl rfl
      simp only [SzOk] at d132'
      obtain ⟨a5, n5, c5, d132, hR⟩ := d132'
      have e132 := d132
      rw [Array.getD_eq_getD_getElem?] at e132
      unfold refV at d132
      have e132b := e132
      obtain ⟨kk, sa, sn, sc, hcc⟩ := hN
      obtain ⟨k0, k1, k2, k3⟩ := two_cells hcc
      have hst3 := fun f2 hf2 => (hst.stored (f2 := f2) HLt.out hp ⟨kk, sa, sn, sc, hcc⟩ ⟨a5, n5, c5, rfl, hR⟩ hf2)
      have HSt := Lib.hid hst3
      have HZz : Hid (z.tmps.getD 16 undef = .pointer (some ⟨p, 0, none⟩)) := Lib.hid d16
      unfold refV at e132
      clear hdep hag hst hcc hst3 hR d132 e132b
      go_simp
      exact hK undef _ (HSt.out (R.slot z) HZz.out).1 trivial (HSt.out (R.slot z) HZz.out).2
    · intro k z v hst hag hdep
      refine .inl ⟨rfl, fun K hK => ?_⟩
      have d133' : SzOk rb x L y gone a n c n0 ww hh 12 (z.tmps.getD 133 undef) v := hdep { on := 12, ground := .data } (by simp) rfl _ _ rfl rfl
      simp only [SzOk] at d133'
      obtain ⟨a4, n4, c4, d133, hG⟩ := d133'
      have e133 := d133
      rw [Array.getD_eq_getD_getElem?] at e133
      have HSt := Lib.hid hst
      have HGg := Lib.hid hG
      clear hdep hag hst hG
      go_simp
      exact hK _ _ (RowR.refl _ _) ⟨a4, n4, c4, rfl, HGg.out⟩ HSt.out
  case hdone =>
    intro z v hst hag hok
    obtain ⟨a4, n4, c4, d17, hRL⟩ : ∃ a4 n4 c4, z.tmps.getD 17 undef = .slice a4 n4 c4 ∧ RowsL .i64 ((rb + 2) :: L) a4 n4 c4 gone v := hok 15 _ 17 rfl rfl
    obtain ⟨⟨hd, hgr, -⟩, p16, a5, n5, c5, d16', hp16, hgb, hrf⟩ := hst
    have d16 : z.tmps.getD 16 undef = .pointer (some ⟨p16, 0, none⟩) := d16'
    have hlo := hd.lt
    have hs1 : SyS g q rb p16 v.heap.size L x y gone a5 n5 c5 a4 n4 c4 x.W (.slice a n c) A w 0 (fun _ => undef) v := ⟨⟨hd, hgb, Nat.le_refl _⟩, hgr, hrf, hRL⟩
    have HSy := Lib.hid hs1
    have HLo : Hid (rb + 3 ≤ v.heap.size) := Lib.hid (by omega)
    have hlt := HLt.out
    have HPg : Hid (p16 ≠ g) := Lib.hid (by omega)
    have HPr : Hid (p16 ≠ rb + 2) := Lib.hid (by omega)
    clear hRL hd hgr d16' hgb hrf hs1 hlo hp16 hlt
    obtain ⟨uu, hu, hzz⟩ := Go.Proofs.YtkggmcnocpgnbaaDoor.R.agree_frame [122, 123, 124, 125, 126, 127, 128, 129, 130, 131, 121, 132, 133, 16, 17] rfl hag
    have e16 := (hu 16).trans d16
    have e17 := (hu 17).trans d17
    subst hzz
    simp only [List.foldl_cons, List.foldl_nil]
    rw [e16, e17]
    clear e16 d16 e17 d17 hu hag hok
    try dsimp only [Exit.then]
    simp only [List.setIfInBounds_toArray, List.set_cons_succ, List.set_cons_zero]
    generalize uu 122 = u122', uu 123 = u123', uu 124 = u124', uu 125 = u125', uu 126 = u126', uu 127 = u127', uu 128 = u128', uu 129 = u129', uu 130 = u130', uu 131 = u131', uu 121 = u121', uu 132 = u132', uu 133 = u133'
    clear uu
    rename_i K hK
    refine hK _ _ ?_
    obtain ⟨lo, hlo⟩ : ∃ lo, v.heap.size = lo := ⟨_, rfl⟩
    rw [hlo] at HSy HLo
    clear hlo
    go_upto_region 18 with fail
    refine Go.Proofs.YtkggmcnocpgnbaaDoor.R.wp_region_prog [10, 12, 13] (by kernel_rfl) (SyS g q rb p16 lo L x y gone a5 n5 c5 a4 n4 c4 x.W (.slice a n c) A w) (fun _ _ => True) (SyOk g rb 0 y a5 a4 n5 c5 n4 c4 n0 ww hh) (by rfl) (by kernel_rfl) (by kernel_rfl) (by kernel_rfl) ?hcong ?hOk ?hop ?hdone ?h0
    case hcong => exact fun k f f2 u hs hst => SyS.cong (fun hk => hs 144 (by subst hk; exact Go.Proofs.YtkggmcnocpgnbaaDoor.R.mem_slots (by kernel_rfl))) hst
    case hOk => intro i u w1 w2 h hr; unfold SyOk at h ⊢; split <;> first | exact True.intro | exact h
    case h0 => exact HSy.out.drew
    case hop =>
      refine ⟨?_, ?_, ?_, ?_, ?_, ?_, ?_, ?_, ?_, ?_, ?_, ?_, ?_, ?_, ?_, trivial⟩
      · intro k z v hst hag hdep
        refine .inl ⟨rfl, fun K hK => ?_⟩
        have d16 : z.tmps.getD 16 undef = .pointer (some ⟨p16, 0, none⟩) := hag.2.2 16 (by kernel_rfl)
        have e16 := d16
        rw [Array.getD_eq_getD_getElem?] at e16
        have l0 := hst.1.2.1.c0
        have l1 := hst.1.2.1.c1
        have HSt := Lib.hid hst
        clear hdep hag hst
        go_simp
        exact hK _ _ trivial rfl HSt.out
      · intro k z v hst hag hdep
        refine .inl ⟨rfl, fun K hK => ?_⟩
        have d0 : z.tmps.getD 0 undef = .pointer (some ⟨g, 0, none⟩) := hag.2.2 0 (by kernel_rfl)
        have e0 := d0
        rw [Array.getD_eq_getD_getElem?] at e0
        have HSt := Lib.hid hst
        clear hdep hag hst
        go_simp
        exact hK _ _ trivial rfl HSt.out
      · intro k z v hst hag hdep
        refine .inl ⟨rfl, fun K hK => ?_⟩
        have d5 : z.tmps.getD 5 undef = .pointer (some ⟨rb + 1, 0, none⟩) := hag.2.2 5 (by kernel_rfl)
        have e5 := d5
        rw [Array.getD_eq_getD_getElem?] at e5
        have HSt := Lib.hid hst
        clear hdep hag hst
        go_simp
        exact hK _ _ trivial rfl HSt.out
      · intro k z v hst hag hdep
        refine .inl ⟨rfl, fun K hK => ?_⟩
        have d136 : z.tmps.getD 136 undef = .pointer (some ⟨rb + 1, 6, none⟩) := hdep { on := 2, ground := .data } (by simp) rfl _ _ rfl rfl
        have e136 := d136
        rw [Array.getD_eq_getD_getElem?] at e136
        have l0 := hst.1.1.ab.c6
        rw [HA6.out] at l0
        have HSt := Lib.hid hst
        clear hdep hag hst
        go_simp
        exact hK _ _ trivial rfl HSt.out
      · intro k z v hst hag hdep
        refine .inl ⟨rfl, fun K hK => ?_⟩
        have d137 : z.tmps.getD 137 undef = .int .i64 ww := hdep { on := 3, ground := .data } (by simp) rfl _ _ rfl rfl
        have e137 := d137
        rw [Array.getD_eq_getD_getElem?] at e137
        have HSt := Lib.hid hst
        clear hdep hag hst
        go_simp
        refine (small_any ww v).mono ?_
        rintro e w' ⟨rfl, rfl⟩
        exact hK _ _ trivial rfl HSt.out
      · intro k z v hst hag hdep
        refine .inl ⟨rfl, fun K hK => ?_⟩
        have d5 : z.tmps.getD 5 undef = .pointer (some ⟨rb + 1, 0, none⟩) := hag.2.2 5 (by kernel_rfl)
        have e5 := d5
        rw [Array.getD_eq_getD_getElem?] at e5
        have HSt := Lib.hid hst
        clear hdep hag hst
        go_simp
        exact hK _ _ trivial rfl HSt.out
      · intro k z v hst hag hdep
        refine .inl ⟨rfl, fun K hK => ?_⟩
        have d139 : z.tmps.getD 139 undef = .pointer (some ⟨rb + 1, 7, none⟩) := hdep { on := 5, ground := .data } (by simp) rfl _ _ rfl rfl
        have e139 := d139
        rw [Array.getD_eq_getD_getElem?] at e139
        have l0 := hst.1.1.ab.c7
        rw [HA7.out] at l0
        have HSt := Lib.hid hst
        clear hdep hag hst
        go_simp
        exact hK _ _ trivial rfl HSt.out
      · intro k z v hst hag hdep
        refine .inl ⟨rfl, fun K hK => ?_⟩
        have d140 : z.tmps.getD 140 undef = .int .i64 hh := hdep { on := 6, ground := .data } (by simp) rfl _ _ rfl rfl
        have e140 := d140
        rw [Array.getD_eq_getD_getElem?] at e140
        have HSt := Lib.hid hst
        clear hdep hag hst
        go_simp
        refine (small_any hh v).mono ?_
        rintro e w' ⟨rfl, rfl⟩
        exact hK _ _ trivial rfl HSt.out
      · intro k z v hst hag hdep
        refine .inl ⟨rfl, fun K hK => ?_⟩
        have d5 : z.tmps.getD 5 undef = .pointer (some ⟨rb + 1, 0, none⟩) := hag.2.2 5 (by kernel_rfl)
        have e5 := d5
        rw [Array.getD_eq_getD_getElem?] at e5
        have HSt := Lib.hid hst
        clear hdep hag hst
        go_simp
        exact hK _ _ trivial rfl HSt.out
      · intro k z v hst hag hdep
        refine .inl ⟨rfl, fun K hK => ?_⟩
        have d142 : z.tmps.getD 142 undef = .pointer (some ⟨rb + 1, 4, none⟩) := hdep { on := 8, ground := .data } (by simp) rfl _ _ rfl rfl
        have e142 := d142
        rw [Array.getD_eq_getD_getElem?] at e142
        have l0 := hst.1.1.ab.c4
        rw [HA4.out] at l0
        have HSt := Lib.hid hst
        clear hdep hag hst
        go_simp
        exact hK _ _ trivial rfl HSt.out
      · intro z v hst hag hdep
        refine ⟨rfl, fun K hK => ?_⟩
        have d135 : z.tmps.getD 135 undef = .pointer (some ⟨g, 0, none⟩) := hdep { on := 1, ground := .data } (by simp) rfl _ _ rfl rfl
        have e135 := d135
        rw [Array.getD_eq_getD_getElem?] at e135
        have d138 : z.tmps.getD 138 undef = .int .i64 (smallN ww) := hdep { on := 4, ground := .data } (by simp) rfl _ _ rfl rfl
        have e138 := d138
        rw [Array.getD_eq_getD_getElem?] at e138
        have d141 : z.tmps.getD 141 undef = .int .i64 (smallN hh) := hdep { on := 7, ground := .data } (by simp) rfl _ _ rfl rfl
        have e141 := d141
        rw [Array.getD_eq_getD_getElem?] at e141
        have d143 : z.tmps.getD 143 undef = .int .i64 n0 := hdep { on := 9, ground := .data } (by simp) rfl _ _ rfl rfl
        have e143 := d143
        rw [Array.getD_eq_getD_getElem?] at e143
        have HU := Lib.hid (gresize_any (L := (rb + 2) :: L) (smallN ww) (smallN hh) n0 v hst.2.1 (hst.1.1.big HL.out HRb.out))
        have HSt := Lib.hid hst
        have hsz := hag.2.1
        clear hdep hag hst
        go_simp
        refine HU.out.mono ?_
        rintro e w' ⟨a6, m6, c6, q6, rfl, k1, k2, k4, k3⟩
        rw [HGone.out] at k1
        rw [HY.out] at k2
        exact hK _ _ trivial trivial (HSt.out.one HLt.out HSub.out (by rw [hsz]; show 144 < 147; decide) HPg.out k1 k2 k4 k3)
      · intro k z v hst hag hdep
        refine .inl ⟨rfl, fun K hK => ?_⟩
        have d17 : z.tmps.getD 17 undef = .slice a4 n4 c4 := hag.2.2 17 (by kernel_rfl)
        have e17 := d17
        rw [Array.getD_eq_getD_getElem?] at e17
        have HSt := Lib.hid hst
        clear hdep hag hst
        go_simp
        exact hK _ _ trivial rfl HSt.out
      · intro z v hst hag hdep
        refine ⟨rfl, fun K hK => ?_⟩
        have d145 : z.tmps.getD 145 undef = .slice a4 n4 c4 := hdep { on := 11, ground := .data } (by simp) rfl _ _ rfl rfl
        have e145 := d145
        rw [Array.getD_eq_getD_getElem?] at e145
        obtain ⟨q6, hq6, hg6, hr6, hrw6, a6, m6, c6, hsl, k1⟩ := hst.2
        have d144 : z.tmps.getD 144 undef = .slice a6 m6 c6 := hsl
        have e144 := d144
        rw [Array.getD_eq_getD_getElem?] at e144
        have HR := Lib.hid (lawRows_any v k1 hrw6 HGr.out HGl.out HGl.out (by rw [k1.len]; exact HGn.out) (by rw [hrw6.len]; exact HGn.out))
        have HSt := Lib.hid hst
        clear hdep hag hst hsl k1 hg6 hr6 hrw6 hq6
        go_simp
        refine HR.out.mono ?_
        rintro e w' ⟨rfl, hb⟩
        have hdd : decide (gone = gone) = true := by simp
        rw [hdd]
        exact hK _ _ trivial rfl (HSt.out.two HLt.out hb)
      · intro z v hst hag hdep
        refine ⟨rfl, fun K hK => ?_⟩
        have d6 : z.tmps.getD 6 undef = .pointer (some ⟨rb + 2, 0, none⟩) := hag.2.2 6 (by kernel_rfl)
        have e6 := d6
        rw [Array.getD_eq_getD_getElem?] at e6
        have d134 : z.tmps.getD 134 undef = .agg #[.int .i64 (y.W : Int), .slice a5 n5 c5] := hdep { on := 0, ground := .data } (by simp) rfl _ _ rfl rfl
        have e134 := d134
        rw [Array.getD_eq_getD_getElem?] at e134
        obtain ⟨rv0, rv1, hrs⟩ := hst.1.1.rs
        obtain ⟨k0, k1, k2, k3⟩ := two_cells hrs
        have HSt := Lib.hid hst
        clear hdep hag hst hrs
        go_simp
        exact hK undef _ trivial trivial (HSt.out.three HLt.out HPr.out HLo.out)
      · intro k z v hst hag hdep
        refine .inl ⟨rfl, fun K hK => ?_⟩
        have d146 : z.tmps.getD 146 undef = .bool true := hdep { on := 12, ground := .data } (by simp) rfl _ _ rfl rfl
        have e146 := d146
        rw [Array.getD_eq_getD_getElem?] at e146
        have HSt := Lib.hid hst
        clear hdep hag hst
        go_simp
        exact hK _ _ trivial rfl HSt.out
    case hdone =>
      intro z v hst hag hok
      have d7 : z.tmps.getD 7 undef = .bool true := hok 14 _ 7 rfl rfl
      have hd := hst.1.1
      obtain ⟨q6, hq6, h3, h4, h5⟩ := hst.2
      have HD := Lib.hid hd
      have H3 := Lib.hid h3
      have H4 := Lib.hid h4
      have HQ6 := Lib.hid hq6
      obtain ⟨k0, k1, k2, k3⟩ := two_cells h5
      clear hst hd h3 h4 h5 hq6
      obtain ⟨uu, hu, hzz⟩ := Go.Proofs.YtkggmcnocpgnbaaDoor.R.agree_frame [134, 135, 136, 137, 138, 139, 140, 141, 142, 143, 144, 145, 146, 7] rfl hag
      have e7 := (hu 7).trans d7
      subst hzz
      simp only [List.foldl_cons, List.foldl_nil]
      rw [e7]
      clear e7 d7 hu hag hok
      try dsimp only [Exit.then]
      simp only [List.setIfInBounds_toArray, List.set_cons_succ, List.set_cons_zero]
      generalize uu 134 = u134', uu 135 = u135', uu 136 = u136', uu 137 = u137', uu 138 = u138', uu 139 = u139', uu 140 = u140', uu 141 = u141', uu 142 = u142', uu 143 = u143', uu 144 = u144', uu 145 = u145', uu 146 = u146'
      clear uu
      rename_i K2 hK2
      refine hK2 _ _ ?_
      go_wp2
      refine bodyPost_ret (v := .tuple #[.agg #[.int .i64 (y.W : Int), .slice a5 n5 c5], .bool true]) (by rw [results_cell_tmp (fn := Tryd.f37) rfl]; go_simp <;> rfl) rfl ?_
      rw [← HP.out]
      have hrb := HRb.out
      have hlo := HLo.out
      have hq6 := HQ6.out
      refine ⟨_, q6, rfl, H3.out, H4.out.sub (fun p hp => ?_), .inr (by omega), HD.out.kb⟩
      rcases List.mem_cons.1 hp with rfl | hp
      · simp
      · simp [hp]
end Go.Proofs.YtkggmcnocpgnbaaDoor.K
