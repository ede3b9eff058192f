/- The contract of glyph.begin: of any byte, upon runes of our own. -/
import Derived.Test.YtfapmgecebcfaaaDoorMerged1
namespace Go.Proofs.YtfapmgecebcfaaaDoor.Y
open Go.RowKit
open Go.Proofs.YtfapmgecebcfaaaDoor.W (OwnR RunesIn wpList_append_runes runes_one grownBy_of_below)

set_option maxRecDepth 100000 in
set_option maxHeartbeats 4000000 in
theorem begin_any (b : Nat) (hb : b < 256) (base : Nat) (v : Value) (zs : List Int) (hz : (zs.length : Int) ≤ 999999) (w : World) (hT : Tab w) (hO : OwnR base v zs w) (hbase : base ≤ w.heap.size) :
    Calls Tryd.prog 43 #[.int .u8 (b : Int), v] w (BeginPost base b zs w) := by
  obtain ⟨rb, hrb⟩ : ∃ rb, w.heap.size = rb := ⟨_, rfl⟩
  obtain ⟨w1, hw1⟩ : ∃ w1, w.alloc (.cells #[.int .u8 0, .int .i32 0, .int .i64 0] 26) = w1 := ⟨_, rfl⟩
  have hb1 : Below rb w w1 := by rw [← hw1, ← hrb]; exact (Below.refl _ _).alloc (Nat.le_refl _) _
  have hd1 : DBlk rb (.int .u8 0) (.int .i32 0) (.int .i64 0) w1 := by rw [← hw1, ← hrb]; exact DBlk.new _ _ _ _
  have hT1 := hT.belowAll (by rw [hrb]; exact hb1)
  have hO1 := hO.belowAll (by rw [hrb]; exact hb1)
  have HL := Lib.hid (leadOf_any b (by omega) w1 hT1)
  have HB1 := Lib.hid hb1
  have HD1 := Lib.hid hd1
  have HO1 := Lib.hid hO1
  have HW1 := Lib.hid hw1
  have HRb := Lib.hid hrb
  rw [hrb] at hbase
  clear hb1 hd1 hT1 hO1 hw1 hrb hT hO
  obtain ⟨B, hB⟩ : ∃ B, BeginPost base b zs w = B := ⟨_, rfl⟩
  rw [hB]
  have HPost := Lib.hid hB
  clear hB
  go_enter Tryd.func43, Tryd.ntmps43
  go_wp2_with fail
  rw [HW1.out, HRb.out]
  refine HL.out.mono ?_
  rintro e w2 ⟨rfl, hb2⟩
  have HD2 := Lib.hid (HD1.out.below hb2 HD1.out.lt)
  have hs1 : rb < w1.heap.size := HD1.out.lt
  have hb02 : Below rb w w2 := HB1.out.trans (hb2.mono (by omega))
  have HO2 := Lib.hid (HO1.out.belowAll hb2)
  have HK2 : Hid (KeepD w w2) := Lib.hid (KeepD.of_below (by rw [HRb.out]; exact hb02))
  have hrq : w.heap.size ≤ rb := by rw [HRb.out]; omega
  have HRq := Lib.hid hrq
  clear hrq
  have HB02 : Hid (Below base w w2) := Lib.hid (hb02.mono hbase)
  have hs2 : rb < w2.heap.size := Nat.lt_of_lt_of_le hs1 hb2.size
  clear hb2 hb02 HL
  cases hl : leadS b with
  | none =>
    have hbg : beginS b = (.zero, [bad]) := by unfold beginS; rw [hl]
    have HBg := Lib.hid hbg
    simp only [Option.getD_none, Option.isSome_none, zeroRow, rowV]
    clear hl hbg
    obtain ⟨w3, hw3⟩ : ∃ w3, w2.alloc (.cells #[.int .u8 0, .int .u8 0, .int .u8 0, .int .i64 0, .int .u8 0, .int .u8 0] 76) = w3 := ⟨_, rfl⟩
    obtain ⟨w4, hw4⟩ : ∃ w4, w3.alloc (.cells #[.int .i32 65533] 21) = w4 := ⟨_, rfl⟩
    have hb23 : Below w2.heap.size w2 w3 := by rw [← hw3]; exact (Below.refl _ _).alloc (Nat.le_refl _) _
    have hb34 : Below w3.heap.size w3 w4 := by rw [← hw4]; exact (Below.refl _ _).alloc (Nat.le_refl _) _
    have hs3 : rb < w3.heap.size := Nat.lt_of_lt_of_le hs2 hb23.size
    have hs4 : rb < w4.heap.size := Nat.lt_of_lt_of_le hs3 hb34.size
    have HD4 := Lib.hid ((HD2.out.below hb23 hs2).below hb34 hs3)
    have HO4 := Lib.hid ((HO2.out.belowAll hb23).belowAll hb34)
    have HK4 : Hid (KeepD w w4) := Lib.hid ((HK2.out.trans (KeepD.of_below hb23)).trans (KeepD.of_below hb34))
    have HB4 : Hid (Below base w w4) := Lib.hid ((HB02.out.trans (hb23.mono (by omega))).trans (hb34.mono (by omega)))
    have hone := runes_one w3 65533 21
    have hs23 : w3.heap.size = w2.heap.size + 1 := by rw [← hw3]; simp
    rw [hw4, hs23] at hone
    have HOne := Lib.hid hone
    have HW3 := Lib.hid hw3
    have HW4 := Lib.hid hw4
    clear hb23 hb34 hw3 hw4 hone hs23
    go_wp2_with (at_builtin; rw [HW3.out, HW4.out]; refine wpList_append_runes rfl _ _ rfl rfl base v zs (some ⟨w2.heap.size + 1, 0, none⟩) 1 1 [65533] rfl rfl HO4.out HOne.out (fun e => by cases e) (by omega) (by simp) (by omega) ?_)
    intro v' w5 hown hgr
    have hd5 := HD4.out.grown hgr (own_ne HO4.out HD4.out).symm
    have HK5 : Hid (KeepD w w5) := Lib.hid (HK4.out.trans (KeepD.grown HO4.out hgr))
    have HB5 : Hid (Below base w w5) := Lib.hid (HB4.out.grown hgr (by omega) (fun q hq => HO4.out.ownBlock q hq))
    have c0 := hd5.c0
    have c1 := hd5.c1
    have c2 := hd5.c2
    have f0 := hd5.fr 0
    have f1 := hd5.fr 1
    have f2 := hd5.fr 2
    have HD5 := Lib.hid hd5
    have HO5 := Lib.hid hown
    clear hgr hd5 hown
    go_wp2
    refine bodyPost_ret (v := .tuple #[decV .zero, v']) (by rw [results_cell_tmp rfl]; go_simp; rfl) rfl ?_
    rw [← HPost.out]
    refine ⟨v', by rw [HBg.out], ⟨?_, below_set3 HB5.out hbase, HK5.out.set3 HRq.out _ _ _⟩⟩
    rw [HBg.out]
    exact own_set3 HO5.out HD5.out
  | some x =>
    obtain ⟨hmk, hx3, _, _⟩ := lead_masks hl
    obtain ⟨x0, x1, x2, x3, x4, x5⟩ := x
    simp only at hmk hx3
    have hbits := mask_u8 b x2 hb hmk
    have hr : b % (x2 + 1) < 256 := Nat.lt_of_le_of_lt (Nat.mod_le _ _) hb
    obtain ⟨r, hrr⟩ : ∃ r, b % (x2 + 1) = r := ⟨_, rfl⟩
    rw [hrr] at hbits hr
    have hr' : (r : Int) < 256 := by omega
    have hb' : (b : Int) < 256 := by omega
    simp only [Option.getD_some, Option.isSome_some, rowV]
    obtain ⟨w3, hw3⟩ : ∃ w3, w2.alloc (.cells #[.int .u8 (x0 : Int), .int .u8 (x1 : Int), .int .u8 (x2 : Int), .int .i64 (x3 : Int), .int .u8 (x4 : Int), .int .u8 (x5 : Int)] 76) = w3 := ⟨_, rfl⟩
    have hb23 : Below w2.heap.size w2 w3 := by rw [← hw3]; exact (Below.refl _ _).alloc (Nat.le_refl _) _
    have hs3 : rb < w3.heap.size := Nat.lt_of_lt_of_le hs2 hb23.size
    have hs23 : w3.heap.size = w2.heap.size + 1 := by rw [← hw3]; simp
    have HW3 := Lib.hid hw3
    have hd3 := HD2.out.below hb23 hs2
    have ho3 := HO2.out.belowAll hb23
    have hb3 : Below base w w3 := HB02.out.trans (hb23.mono (by omega))
    by_cases h0 : x3 = 0
    · have d0 : ((x3 : Int) == 0) = true := by rw [beq_iff_eq]; omega
      have hbg : beginS b = (.zero, [r]) := by
        unfold beginS
        rw [hl]
        simp only
        rw [if_pos h0, hrr]
      have HBg := Lib.hid hbg
      obtain ⟨w4, hw4⟩ : ∃ w4, w3.alloc (.cells #[.int .i32 (r : Int)] 21) = w4 := ⟨_, rfl⟩
      have hb34 : Below w3.heap.size w3 w4 := by rw [← hw4]; exact (Below.refl _ _).alloc (Nat.le_refl _) _
      have hs4 : rb < w4.heap.size := Nat.lt_of_lt_of_le hs3 hb34.size
      have HD4 := Lib.hid (hd3.below hb34 hs3)
      have HO4 := Lib.hid (ho3.belowAll hb34)
      have HK4 : Hid (KeepD w w4) := Lib.hid ((HK2.out.trans (KeepD.of_below hb23)).trans (KeepD.of_below hb34))
      have HB4 : Hid (Below base w w4) := Lib.hid (hb3.trans (hb34.mono (by omega)))
      have hone := runes_one w3 (r : Int) 21
      rw [hw4, hs23] at hone
      have HOne := Lib.hid hone
      have HW4 := Lib.hid hw4
      clear hb23 hb34 hw3 hw4 hone hs23 hl hbg hrr hmk hd3 ho3 hb3 h0
      go_wp2_with (at_builtin; rw [HW3.out, HW4.out]; refine wpList_append_runes rfl _ _ rfl rfl base v zs (some ⟨w2.heap.size + 1, 0, none⟩) 1 1 [(r : Int)] rfl rfl HO4.out HOne.out (fun e => by cases e) (by omega) (by simp) (by omega) ?_)
      intro v' w5 hown hgr
      have hd5 := HD4.out.grown hgr (own_ne HO4.out HD4.out).symm
      have HK5 : Hid (KeepD w w5) := Lib.hid (HK4.out.trans (KeepD.grown HO4.out hgr))
      have HB5 : Hid (Below base w w5) := Lib.hid (HB4.out.grown hgr (by omega) (fun q hq => HO4.out.ownBlock q hq))
      have c0 := hd5.c0
      have c1 := hd5.c1
      have c2 := hd5.c2
      have f0 := hd5.fr 0
      have f1 := hd5.fr 1
      have f2 := hd5.fr 2
      have HD5 := Lib.hid hd5
      have HO5 := Lib.hid hown
      clear hgr hd5 hown
      go_wp2
      refine bodyPost_ret (v := .tuple #[decV .zero, v']) (by rw [results_cell_tmp rfl]; go_simp; rfl) rfl ?_
      rw [← HPost.out]
      refine ⟨v', by rw [HBg.out], ⟨?_, below_set3 HB5.out hbase, HK5.out.set3 HRq.out _ _ _⟩⟩
      rw [HBg.out]
      exact own_set3 HO5.out HD5.out
    · have hbg : beginS b = (⟨b, r, x3⟩, []) := by
        unfold beginS
        rw [hl]
        simp only
        rw [if_neg h0, hrr]
      have HBg := Lib.hid hbg
      have d0 : ((x3 : Int) == 0) = false := by rw [beq_eq_false_iff_ne]; omega
      have c0 := HD2.out.c0
      have c1 := HD2.out.c1
      have c2 := HD2.out.c2
      have f0 := HD2.out.fr 0
      have f1 := HD2.out.fr 1
      have f2 := HD2.out.fr 2
      have HD3 := Lib.hid hd3
      have HO3 := Lib.hid ho3
      have HB3 := Lib.hid hb3
      clear hb23 hw3 hs23 hl hbg hrr hmk hd3 ho3 hb3 h0
      go_wp2
      refine bodyPost_ret (v := .tuple #[decV ⟨b, r, x3⟩, v]) (by rw [results_cell_tmp rfl]; go_simp; rfl) rfl ?_
      rw [← HPost.out]
      refine ⟨v, by rw [HBg.out], ⟨?_, (below_set3 HB02.out hbase).alloc (by simp [set3]; omega) _, (HK2.out.set3 HRq.out _ _ _).alloc _⟩⟩
      rw [HBg.out]
      have h : OwnR base v zs (set3 w2 rb (.int .u8 (b : Int)) (.int .i32 (r : Int)) (.int .i64 (x3 : Int))) := own_set3 HO2.out HD2.out
      show OwnR base v (zs ++ []) _
      rw [List.append_nil]
      exact h.alloc _
end Go.Proofs.YtfapmgecebcfaaaDoor.Y
