/- The law's do of a grid: a row that is put. -/
import Derived.Test.YtkggmcnocpgnbaaDoorMerged20
namespace Go.Proofs.YtkggmcnocpgnbaaDoor.K
open Go.RowKit

def PutOk10Q (g rb : Nat) (y : Gd) (a5 : Option Addr) (n5 c5 : Nat) (y0 : Int) (z1a : Option Addr) (z1n z1c : Nat) (z1b d : Bool) : Nat → Value → World → Prop
  | 0, u, _ => u = .agg #[.int .i64 (y.W : Int), .slice a5 n5 c5]
  | 1, u, _ => u = .pointer (some ⟨g, 0, none⟩)
  | 2, u, _ => u = .pointer (some ⟨rb + 1, 1, none⟩)
  | 3, u, _ => u = .int .i64 y0
  | 4, u, _ => u = .agg #[.slice z1a z1n z1c, .bool z1b]
  | 5, u, _ => u = .bool d
  | 6, u, _ => u = .bool d
  | 7, u, _ => u = .bool true
  | 8, _, _ => True
  | 9, u, _ => u = .bool true
  | _, _, _ => True
set_option maxRecDepth 100000 in
set_option maxHeartbeats 16000000 in
theorem doPutOut_any {g q : Nat} {L : List Nat} {x : Gd} {v : Value} {A : ActG} (w : World) (hT : W.Tab w) (hk0 : A.kind = 0) (hy : ¬ (0 ≤ A.y ∧ A.y < (x.rs.length : Int))) (hra : RngA A.row) (h : Gr g q x w) (hv : RefG L v x w) (hg : g ∈ L) (hq : q ∈ L) (hL : ∀ p ∈ L, p < w.heap.size) :
    Calls Tryd.prog 37 #[.pointer (some ⟨g, 0, none⟩), v, .agg (actC A)] w (DoG g q L (setG x A.y (doS W.ofS (rowAt x.rs A.y) A.row)) w) := by
  have hx := h.ok
  obtain ⟨y0, hA1⟩ : ∃ y0, A.y = y0 := ⟨_, rfl⟩
  rw [hA1] at hy
  have hrow : rowAt x.rs y0 = ⟨[], false⟩ := by unfold rowAt; rw [if_neg hy]
  rw [hA1]
  obtain ⟨r0, hr0⟩ : ∃ r0, rowAt x.rs y0 = r0 := ⟨_, rfl⟩
  obtain ⟨r2, hr2⟩ : ∃ r2, doS W.ofS r0 A.row = r2 := ⟨_, rfl⟩
  obtain ⟨y, hy9⟩ : ∃ y, setG x y0 r2 = y := ⟨_, rfl⟩
  obtain ⟨d, hd9⟩ : ∃ d, decide (0 ≤ y0 ∧ y0 < (x.rs.length : Int)) = d := ⟨_, rfl⟩
  have hrr : r0.l.length ≤ 1000 ∧ AllC Rng r0.l := by
    rw [← hr0, hrow]
    exact ⟨by simp, fun c hc => by cases hc⟩
  have HXo := Lib.hid hx
  obtain ⟨rb, hrb⟩ : ∃ rb, w.heap.size = rb := ⟨_, rfl⟩
  obtain ⟨a, n, c, rfl, hrl⟩ := hv
  unfold refV
  obtain ⟨w1, hw1⟩ : ∃ w1, w.alloc (.cells #[.int .i64 (x.W : Int), .slice a n c] 82) = w1 := ⟨_, rfl⟩
  have hs1 : w1.heap.size = rb + 1 := by rw [← hw1, World.size_alloc, hrb]
  obtain ⟨w2, hw2⟩ : ∃ w2, w1.alloc (.cells (actC A) 77) = w2 := ⟨_, rfl⟩
  have hs2 : w2.heap.size = rb + 2 := by rw [← hw2, World.size_alloc, hs1]
  obtain ⟨w3, hw3⟩ : ∃ w3, w2.alloc (.cells #[.int .i64 0, .slice none 0 0] 82) = w3 := ⟨_, rfl⟩
  have hs3 : w3.heap.size = rb + 3 := by rw [← hw3, World.size_alloc, hs2]
  have b01 : Below w.heap.size w w1 := by rw [← hw1]; exact (Below.refl _ _).alloc (Nat.le_refl _) _
  have b12 : Below w1.heap.size w1 w2 := by rw [← hw2]; exact (Below.refl _ _).alloc (Nat.le_refl _) _
  have b23 : Below w2.heap.size w2 w3 := by rw [← hw3]; exact (Below.refl _ _).alloc (Nat.le_refl _) _
  have b03 : Below w.heap.size w w3 := (b01.trans (b12.mono (by omega))).trans (b23.mono (by omega))
  have hx1 : GrB rb x.W (.slice a n c) w1 := by rw [← hw1, ← hrb]; exact GrB.new w x.W _
  have ha2 : ActB (rb + 1) A w2 := by rw [← hw2, ← hs1]; exact World.alloc_heap_new w1 _
  have hr3 : w3.heap[rb + 2]? = some (.cells #[.int .i64 0, .slice none 0 0] 82 (0, 0)) := by rw [← hw3, ← hs2]; exact World.alloc_heap_new w2 _
  have hdo : DoB g q rb x.W (.slice a n c) A w w3 := ⟨KeepB.of_below b03, (hx1.belowAll b12).belowAll b23, ha2.kept (b23.block _ ha2.lt), ⟨_, _, hr3⟩, hrb.symm⟩
  have hlt := h.lt
  rw [hrb] at hlt
  have hx3 := hdo.xb
  have hc0 := hx3.c0
  have hc1 := hx3.c1
  have hab := hdo.ab
  have a0 := hab.c0
  rw [hk0] at a0
  have a1 := hab.c1
  rw [hA1] at a1
  have hrl3 : RowsL .i64 ((rb + 2) :: L) a n c x.rs w3 := (hrl.cons (by omega)).below b03
  have hg3 := h.below b03
  have hrowc : Calls Tryd.prog 60 #[.pointer (some ⟨g, 0, none⟩), .int .i64 y0] w3 (RowA r0 w3) := by
    obtain ⟨us, cap, hgg⟩ := hg3
    rw [← hr0]
    exact row_any y0 w3 hgg
  obtain ⟨P, hP⟩ : ∃ P, DoG g q L (setG x y0 (doS W.ofS (rowAt x.rs y0) A.row)) w = P := ⟨_, rfl⟩
  rw [hr0, hr2, hy9] at hP
  rw [hr0, hr2, hy9, hP]
  have HRw := Lib.hid hrowc
  have HP := Lib.hid hP
  have HY := Lib.hid hy9
  have HDd := Lib.hid hd9
  have HDo := Lib.hid hdo
  have HW1 := Lib.hid hw1
  have HW2 := Lib.hid hw2
  have HW3 := Lib.hid hw3
  have HRb := Lib.hid hrb
  have HS3 := Lib.hid hs3
  have HLt := Lib.hid hlt
  have HL := Lib.hid hL
  have HSub : Hid (g ∈ L ∧ q ∈ L) := Lib.hid ⟨hg, hq⟩
  have HGr0 := Lib.hid hg3
  have HRl3 := Lib.hid hrl3
  have HRl0 := Lib.hid hrl
  have HB03 := Lib.hid b03
  have HRl : Hid (r0.l.length ≤ 1000) := Lib.hid hrr.1
  have HRg : Hid (AllC Rng r0.l) := Lib.hid hrr.2
  have HRa := Lib.hid hra
  have HRd := Lib.hid hr2
  have HR0 := Lib.hid hr0
  have HRow := Lib.hid hrow
  have HT := Lib.hid hT
  have HZl : Hid (r2.l.length ≤ 1000) := Lib.hid (by rw [← hr2]; exact do_len hrr.1)
  have HZg : Hid (AllC Rng r2.l) := Lib.hid (by rw [← hr2]; exact do_rng hrr.2 hra)
  have HA1 := Lib.hid hA1
  have HYo := Lib.hid hy
  
  clear hP hy9 hd9 hdo hw1 hw2 hw3 hrb hs1 hs2 hs3 b01 b12 b23 b03 hx1 ha2 hr3 hlt hx3 hab hrl3 hrl hL h hg hq hx hrowc hg3 hrr hra hr2 hr0 hrow hT hA1 hk0 hy
  have HU9 : Hid (RowV .i64 (Rv.val ⟨none, 0, 0, false⟩) r0 w3) := Lib.hid (by rw [← HR0.out, HRow.out]; exact rowV_nil _ _)
  have HOf9 : Hid (Off L ⟨none, 0, 0, false⟩) := Lib.hid (fun hn => absurd rfl hn)
  have HUl9 : Hid ((0 : Nat) ≠ 0 → ∀ b off, (none : Option Addr) = some ⟨b, off, none⟩ → b < w.heap.size) := Lib.hid (fun hn => absurd rfl hn)
  have hcs : decide (0 ≤ y0) = false ∨ (decide (0 ≤ y0) = true ∧ decide (y0 < (n : Int)) = false) := by
    have hn := HRl0.out.len
    have hy := HYo.out
    by_cases h : 0 ≤ y0
    · exact .inr ⟨decide_eq_true h, decide_eq_false (by omega)⟩
    · exact .inl (decide_eq_false h)
  rcases hcs with e1 | ⟨e1, e2⟩
  all_goals
    go_enter Tryd.func37, Tryd.ntmps37
    go_upto_region 1 with fail
    try rw [HW1.out, HRb.out, HW2.out, HW3.out]
    go_wp2_with fail
    refine HRw.out.mono ?_
    rintro e w4 ⟨⟨p1a, p1n, p1c, p1b⟩, rfl, hp1, hb34⟩
    unfold Rv.val
    simp only
    have hlt := HLt.out
    have hdo4 := HDo.out.below hb34 hlt
    obtain ⟨p8, hp8⟩ : ∃ p, w4.heap.size = p := ⟨_, rfl⟩
    obtain ⟨w5, hw5⟩ : ∃ w5, w4.alloc (.cells #[.slice p1a p1n p1c, .bool p1b] 27) = w5 := ⟨_, rfl⟩
    have hs5 : w5.heap.size = p8 + 1 := by rw [← hw5, World.size_alloc, hp8]
    obtain ⟨w6, hw6⟩ : ∃ w6, w5.alloc (.cells #[.slice none 0 0, .bool false] 38) = w6 := ⟨_, rfl⟩
    have hs6 : w6.heap.size = p8 + 2 := by rw [← hw6, World.size_alloc, hs5]
    have b45 : Below w4.heap.size w4 w5 := by rw [← hw5]; exact (Below.refl _ _).alloc (Nat.le_refl _) _
    have b56 : Below w5.heap.size w5 w6 := by rw [← hw6]; exact (Below.refl _ _).alloc (Nat.le_refl _) _
    have b46 : Below w4.heap.size w4 w6 := b45.trans (b56.mono b45.size)
    have h85 : RoB 27 p8 (.slice p1a p1n p1c) p1b w5 := by rw [← hw5, ← hp8]; exact RoB.new _ _ _ _
    have h86 := h85.belowAll b56
    have h96 : RoB 38 (p8 + 1) (.slice none 0 0) false w6 := by rw [← hw6, ← hs5]; exact RoB.new _ _ _ _
    have hdo6 := hdo4.below b46 hlt
    have a1 := hdo6.ab.c1
    rw [HA1.out] at a1
    have gc1 := hdo6.xb.c1
    have HB46 := Lib.hid b46
    have HB34 := Lib.hid hb34
    have HP1 := Lib.hid hp1
    have HDo4 := Lib.hid hdo4
    have HP8 := Lib.hid hp8
    have HW5 := Lib.hid hw5
    have HW6 := Lib.hid hw6
    have HS6 := Lib.hid hs6
    have H86 := Lib.hid h86
    have H96 := Lib.hid h96
    clear hp1 hb34 hdo4 hdo6 hp8 hw5 hw6 hs5 hs6 b45 b56 b46 h85 h86 h96 hlt HRw a0
    go_upto_region 4 with fail
    rw [HW5.out, HP8.out, HW6.out]
    go_upto_region 6 with fail
    obtain ⟨w7, hw7⟩ : ∃ w7, w6 = w7 := ⟨_, rfl⟩
    have h97 := H96.out
    have h87 := H86.out
    have b47 := HB46.out
    rw [hw7] at h97 h87 b47
    rw [hw7]
    clear hw7 gc1 a1
    have hp17 := (HP1.out.belowAll b47)
    have hp27 := ((HU9.out.belowAll HB34.out).belowAll b47)
    unfold Rv.val at hp17 hp27
    simp only at hp17 hp27
    have HIs := Lib.hid (isRow_any hp17 hp27 HRg.out HRl.out HRl.out)
    have hdd : decide (r0 = r0) = true := by simp
    rw [hdd] at HIs
    have k0 := h87.c0
    have k1 := h87.c1
    have j0 := h97.c0
    have j1 := h97.c1
    have H87 := Lib.hid h87
    have H97 := Lib.hid h97
    have HB47 := Lib.hid b47
    have HP17 := Lib.hid hp17
    have HP27 := Lib.hid hp27
    clear h87 h97 b47 hp17 hp27 hdd
    go_wp2_with fail
    refine HIs.out.mono ?_
    rintro e w8 ⟨rfl, hb78⟩
    have hlt := HLt.out
    have hdo8 := (HDo4.out.below HB47.out hlt).below hb78 hlt
    have k0 := (H87.out.belowAll hb78).c0
    have k1 := (H87.out.belowAll hb78).c1
    have j0 := (H97.out.belowAll hb78).c0
    have j1 := (H97.out.belowAll hb78).c1
    have m8 := hdo8.ab.c8
    have m9' := hdo8.ab.c9
    have m10 := hdo8.ab.c10
    have m11 := hdo8.ab.c11
    have m12 := hdo8.ab.c12
    have b38 : Below w3.heap.size w3 w8 := HB34.out.trans ((HB47.out.trans (hb78.mono HB47.out.size)).mono HB34.out.size)
    have b08 : Below w.heap.size w w8 := HB03.out.trans (b38.mono HB03.out.size)
    have hT8 := HT.out.belowAll b08
    have HDd0 := Lib.hid (J.do_any ⟨p1a, p1n, p1c, p1b⟩ ⟨none, 0, 0, false⟩ r0 r0 A.row w8 hT8 (HP17.out.belowAll hb78) (HP27.out.belowAll hb78) HRl.out HRl.out HRa.out)
    unfold actV Rv.val at HDd0
    simp only at HDd0
    have HDo8 := Lib.hid hdo8
    have HB08 := Lib.hid b08
    have HB38 := Lib.hid b38
    clear hb78 hdo8 b38 b08 hT8 hlt HIs
    go_wp2_with fail
    refine HDd0.out.mono ?_
    rintro e w9 ⟨v1, v2, rfl, ⟨⟨z1a, z1n, z1c, z1b⟩, rfl, hz1, -⟩, ⟨⟨z2a, z2n, z2c, z2b⟩, rfl, hz2, hf2⟩, hb89⟩
    rw [HRd.out] at hz1 hz2
    unfold Rv.val
    simp only at hf2 ⊢
    obtain ⟨p10, hp10⟩ : ∃ p, w9.heap.size = p := ⟨_, rfl⟩
    obtain ⟨w10, hw10⟩ : ∃ w10, w9.alloc (.cells #[.slice z1a z1n z1c, .bool z1b] 27) = w10 := ⟨_, rfl⟩
    have hs10 : w10.heap.size = p10 + 1 := by rw [← hw10, World.size_alloc, hp10]
    obtain ⟨w11, hw11⟩ : ∃ w11, w10.alloc (.cells #[.slice z2a z2n z2c, .bool z2b] 38) = w11 := ⟨_, rfl⟩
    have hs11 : w11.heap.size = p10 + 2 := by rw [← hw11, World.size_alloc, hs10]
    have b9a : Below w9.heap.size w9 w10 := by rw [← hw10]; exact (Below.refl _ _).alloc (Nat.le_refl _) _
    have bab : Below w10.heap.size w10 w11 := by rw [← hw11]; exact (Below.refl _ _).alloc (Nat.le_refl _) _
    have b9b : Below w9.heap.size w9 w11 := b9a.trans (bab.mono b9a.size)
    have b8b : Below w8.heap.size w8 w11 := hb89.trans (b9b.mono hb89.size)
    have hta : RoB 27 p10 (.slice z1a z1n z1c) z1b w11 := by
      have h : RoB 27 p10 (.slice z1a z1n z1c) z1b w10 := by rw [← hw10, ← hp10]; exact RoB.new _ _ _ _
      exact h.belowAll bab
    have htb : RoB 38 (p10 + 1) (.slice z2a z2n z2c) z2b w11 := by rw [← hw11, ← hs10]; exact RoB.new _ _ _ _
    have hlt := HLt.out
    have hdob := HDo8.out.below b8b hlt
    have hbig := hdob.big HL.out HRb.out
    have hxv : RefG ((rb + 2) :: L) (.agg #[.int .i64 (x.W : Int), .slice a n c]) x w11 := ⟨_, n, c, rfl, (HRl3.out.below HB38.out).below b8b⟩
    have hoff2 : Off ((rb + 2) :: L) ⟨z2a, z2n, z2c, z2b⟩ := fun hn b off e hb => by
      have hl8 := HDo8.out.lt
      have hrb := HRb.out
      rcases hf2 with ⟨h4, h5⟩ | h4
      · have hn' : z2n ≠ 0 := hn
        rw [h5] at hn'
        have h6 := HUl9.out hn' b off (by rw [← h4]; exact e)
        have h7 := HOf9.out hn' b off (by show (none : Option Addr) = _; rw [← h4]; exact e)
        rcases List.mem_cons.1 hb with rfl | hb
        · omega
        · exact h7 hb
      · have h6 := h4 b off e
        rcases List.mem_cons.1 hb with rfl | hb
        · omega
        · have := HL.out b hb; omega
    have hset := refSet_any y0 (p := ⟨z2a, z2n, z2c, z2b⟩) w11 hxv HXo.out (hz2.belowAll b9b) hoff2 HZl.out hbig
    unfold Rv.val at hset
    simp only at hset
    have gc0 := hdob.xb.c0
    have gc1 := hdob.xb.c1
    have a1 := hdob.ab.c1
    rw [HA1.out] at a1
    have k0 := htb.c0
    have k1 := htb.c1
    have HSet := Lib.hid hset
    have HZ1 := Lib.hid (hz1.belowAll b9b)
    have HDob := Lib.hid hdob
    have HTa := Lib.hid hta
    have HP10 := Lib.hid hp10
    have HW10 := Lib.hid hw10
    have HW11 := Lib.hid hw11
    have HS11 := Lib.hid hs11
    have HGrb := Lib.hid (((HGr0.out.below HB38.out).below b8b))
    have HP10r : Hid (rb + 3 ≤ p10) := Lib.hid (by have := HDo8.out.lt; have := hb89.size; omega)
    clear hz1 hz2 hf2 hb89 hp10 hw10 hw11 hs10 hs11 b9a bab b9b b8b hta htb hlt hdob hbig hxv hoff2 hset HDd0
    go_upto_region 9 with fail
    rw [HW10.out, HP10.out, HW11.out]
    go_wp2_with fail
    refine HSet.out.mono ?_
    rintro e w12 ⟨v5, rfl, hRG, hbc⟩
    rw [HY.out] at hRG
    rw [HDd.out]
    obtain ⟨a5, n5, c5, rfl, hrl5⟩ := hRG
    unfold refV
    obtain ⟨p12, hp12⟩ : ∃ p, w12.heap.size = p := ⟨_, rfl⟩
    obtain ⟨w13, hw13⟩ : ∃ w13, w12.alloc (.cells #[.int .i64 (y.W : Int), .slice a5 n5 c5] 82) = w13 := ⟨_, rfl⟩
    have bcd : Below w12.heap.size w12 w13 := by rw [← hw13]; exact (Below.refl _ _).alloc (Nat.le_refl _) _
    have hg13 : GrB p12 y.W (.slice a5 n5 c5) w13 := by rw [← hw13, ← hp12]; exact GrB.new w12 y.W _
    have hlt := HLt.out
    have hs0 : PuS g q rb p12 p10 L x y r2 ⟨z1a, z1n, z1c, z1b⟩ a5 n5 c5 x.W (.slice a n c) A w 0 (fun _ => undef) w13 := ⟨⟨(HDob.out.below hbc hlt).below bcd hlt, hg13, (HTa.out.belowAll hbc).belowAll bcd⟩, (HGrb.out.below hbc).below bcd, ⟨a5, n5, c5, rfl, hrl5.below bcd⟩, (HZ1.out.belowAll hbc).belowAll bcd⟩
    have HS0 := Lib.hid hs0
    have HPg : Hid (rb ≤ p12) := Lib.hid (by have := hbc.size; have := HS11.out; have := HP10r.out; omega)
    have HPg2 : Hid (rb ≤ p10) := Lib.hid (by have := HP10r.out; omega)
    have HPr : Hid (p12 ≠ rb + 2 ∧ p10 ≠ rb + 2) := Lib.hid (by have := hbc.size; have := HS11.out; have := HP10r.out; omega)
    have HW13 := Lib.hid hw13
    have HP12 := Lib.hid hp12
    clear hbc hrl5 hp12 hw13 bcd hg13 hlt hs0 HSet
    go_upto_region 10 with fail
    rw [HW13.out, HP12.out]
    refine Go.Proofs.YtkggmcnocpgnbaaDoor.R.wp_region_prog [5, 8] (by kernel_rfl) (PuS g q rb p12 p10 L x y r2 ⟨z1a, z1n, z1c, z1b⟩ a5 n5 c5 x.W (.slice a n c) A w) (fun _ _ => True) (PutOk10Q g rb y a5 n5 c5 y0 z1a z1n z1c z1b d) (by rfl) (by kernel_rfl) (by kernel_rfl) (by kernel_rfl) ?hcong ?hOk ?hop ?hdone ?h0
    case hcong => exact fun k f f2 u hs hst => PuS.cong hst
    case hOk => intro i u w1 w2 h hr; unfold PutOk10Q at h ⊢; split <;> first | exact True.intro | exact h
    case h0 => exact HS0.out.drew
    case hop =>
      refine ⟨?_, ?_, ?_, ?_, ?_, ?_, ?_, ?_, ?_, ?_, trivial⟩
      · intro k z v hst hag hdep
        refine .inl ⟨rfl, fun K hK => ?_⟩
        have d12 : z.tmps.getD 12 undef = .pointer (some ⟨p12, 0, none⟩) := hag.2.2 12 (by kernel_rfl)
        have e12 := d12
        rw [Array.getD_eq_getD_getElem?] at e12
        have l0 := hst.1.2.1.c0
        have l1 := hst.1.2.1.c1
        have HSt := Lib.hid hst
        clear hdep hag hst
        go_simp
        exact hK _ _ trivial rfl HSt.out
      · intro k z v hst hag hdep
        refine .inl ⟨rfl, fun K hK => ?_⟩
        have d0 : z.tmps.getD 0 undef = .pointer (some ⟨g, 0, none⟩) := hag.2.2 0 (by kernel_rfl)
        have e0 := d0
        rw [Array.getD_eq_getD_getElem?] at e0
        have HSt := Lib.hid hst
        clear hdep hag hst
        go_simp
        exact hK _ _ trivial rfl HSt.out
      · intro k z v hst hag hdep
        refine .inl ⟨rfl, fun K hK => ?_⟩
        have d5 : z.tmps.getD 5 undef = .pointer (some ⟨rb + 1, 0, none⟩) := hag.2.2 5 (by kernel_rfl)
        have e5 := d5
        rw [Array.getD_eq_getD_getElem?] at e5
        have HSt := Lib.hid hst
        clear hdep hag hst
        go_simp
        exact hK _ _ trivial rfl HSt.out
      · intro k z v hst hag hdep
        refine .inl ⟨rfl, fun K hK => ?_⟩
        have d67 : z.tmps.getD 67 undef = .pointer (some ⟨rb + 1, 1, none⟩) := hdep { on := 2, ground := .data } (by simp) rfl _ _ rfl rfl
        have e67 := d67
        rw [Array.getD_eq_getD_getElem?] at e67
        have l0 := hst.1.1.ab.c1
        rw [HA1.out] at l0
        have HSt := Lib.hid hst
        clear hdep hag hst
        go_simp
        exact hK _ _ trivial rfl HSt.out
      · intro k z v hst hag hdep
        refine .inl ⟨rfl, fun K hK => ?_⟩
        have d10 : z.tmps.getD 10 undef = .pointer (some ⟨p10, 0, none⟩) := hag.2.2 10 (by kernel_rfl)
        have e10 := d10
        rw [Array.getD_eq_getD_getElem?] at e10
        have l0 := hst.1.2.2.c0
        have l1 := hst.1.2.2.c1
        have HSt := Lib.hid hst
        clear hdep hag hst
        go_simp
        exact hK _ _ trivial rfl HSt.out
      · intro z v hst hag hdep
        refine ⟨rfl, fun K hK => ?_⟩
        have d66 : z.tmps.getD 66 undef = .pointer (some ⟨g, 0, none⟩) := hdep { on := 1, ground := .data } (by simp) rfl _ _ rfl rfl
        have e66 := d66
        rw [Array.getD_eq_getD_getElem?] at e66
        have d68 : z.tmps.getD 68 undef = .int .i64 y0 := hdep { on := 3, ground := .data } (by simp) rfl _ _ rfl rfl
        have e68 := d68
        rw [Array.getD_eq_getD_getElem?] at e68
        have d69 : z.tmps.getD 69 undef = .agg #[.slice z1a z1n z1c, .bool z1b] := hdep { on := 4, ground := .data } (by simp) rfl _ _ rfl rfl
        have e69 := d69
        rw [Array.getD_eq_getD_getElem?] at e69
        have HU := Lib.hid (gset_any y0 v hst.2.1 hst.2.2.2 HZg.out HZl.out)
        have HSt := Lib.hid hst
        clear hdep hag hst
        unfold Rv.val at HU
        simp only at HU
        rw [HDd.out, HY.out] at HU
        go_simp
        refine HU.out.mono ?_
        rintro e w' ⟨rfl, k1, k2⟩
        exact hK _ _ trivial rfl (HSt.out.one HLt.out HSub.out HPg.out HPg2.out k1 k2)
      · intro k z v hst hag hdep
        refine .inl ⟨rfl, fun K hK => ?_⟩
        have d13 : z.tmps.getD 13 undef = .bool d := hag.2.2 13 (by kernel_rfl)
        have e13 := d13
        rw [Array.getD_eq_getD_getElem?] at e13
        have HSt := Lib.hid hst
        clear hdep hag hst
        go_simp
        exact hK _ _ trivial rfl HSt.out
      · intro k z v hst hag hdep
        refine .inl ⟨rfl, fun K hK => ?_⟩
        have d70 : z.tmps.getD 70 undef = .bool d := hdep { on := 5, ground := .data } (by simp) rfl _ _ rfl rfl
        have e70 := d70
        rw [Array.getD_eq_getD_getElem?] at e70
        have d71 : z.tmps.getD 71 undef = .bool d := hdep { on := 6, ground := .data } (by simp) rfl _ _ rfl rfl
        have e71 := d71
        rw [Array.getD_eq_getD_getElem?] at e71
        have HSt := Lib.hid hst
        clear hdep hag hst
        go_simp
        exact hK _ _ trivial (by simp [PutOk10Q]) HSt.out
      · intro z v hst hag hdep
        refine ⟨rfl, fun K hK => ?_⟩
        have d6 : z.tmps.getD 6 undef = .pointer (some ⟨rb + 2, 0, none⟩) := hag.2.2 6 (by kernel_rfl)
        have e6 := d6
        rw [Array.getD_eq_getD_getElem?] at e6
        have d65 : z.tmps.getD 65 undef = .agg #[.int .i64 (y.W : Int), .slice a5 n5 c5] := hdep { on := 0, ground := .data } (by simp) rfl _ _ rfl rfl
        have e65 := d65
        rw [Array.getD_eq_getD_getElem?] at e65
        obtain ⟨rv0, rv1, hrs⟩ := hst.1.1.rs
        obtain ⟨k0, k1, k2, k3⟩ := two_cells hrs
        have HSt := Lib.hid hst
        clear hdep hag hst hrs
        go_simp
        exact hK undef _ trivial trivial (HSt.out.two HLt.out HPr.out)
      · intro k z v hst hag hdep
        refine .inl ⟨rfl, fun K hK => ?_⟩
        have d72 : z.tmps.getD 72 undef = .bool true := hdep { on := 7, ground := .data } (by simp) rfl _ _ rfl rfl
        have e72 := d72
        rw [Array.getD_eq_getD_getElem?] at e72
        have HSt := Lib.hid hst
        clear hdep hag hst
        go_simp
        exact hK _ _ trivial rfl HSt.out
    case hdone =>
      intro z v hst hag hok
      have d7 : z.tmps.getD 7 undef = .bool true := hok 9 _ 7 rfl rfl
      have hd := hst.1.1
      obtain ⟨h3, h4, h5⟩ := hst.2
      have HD := Lib.hid hd
      have H3 := Lib.hid h3
      have H4 := Lib.hid h4
      obtain ⟨k0, k1, k2, k3⟩ := two_cells h5
      clear hst hd h3 h4 h5
      obtain ⟨uu, hu, hzz⟩ := Go.Proofs.YtkggmcnocpgnbaaDoor.R.agree_frame [65, 66, 67, 68, 69, 70, 71, 72, 7] rfl hag
      have e7 := (hu 7).trans d7
      subst hzz
      simp only [List.foldl_cons, List.foldl_nil]
      rw [e7]
      clear e7 d7 hu hag hok
      try dsimp only [Exit.then]
      simp only [List.setIfInBounds_toArray, List.set_cons_succ, List.set_cons_zero]
      generalize uu 65 = u65', uu 66 = u66', uu 67 = u67', uu 68 = u68', uu 69 = u69', uu 70 = u70', uu 71 = u71', uu 72 = u72'
      clear uu
      rename_i K hK
      refine hK _ _ ?_
      go_wp2
      refine bodyPost_ret (v := .tuple #[.agg #[.int .i64 (y.W : Int), .slice a5 n5 c5], .bool true]) (by rw [results_cell_tmp (fn := Tryd.f37) rfl]; go_simp <;> rfl) rfl ?_
      rw [← HP.out]
      exact ⟨_, q, rfl, H3.out, (H4.out.sub (fun p hp => List.mem_cons_of_mem _ hp)).consMem HSub.out.2, .inl rfl, HD.out.kb⟩
end Go.Proofs.YtkggmcnocpgnbaaDoor.K
