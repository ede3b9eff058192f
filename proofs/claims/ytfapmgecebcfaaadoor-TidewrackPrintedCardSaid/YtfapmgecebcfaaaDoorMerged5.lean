/- The contract of awake. -/
import Derived.Test.YtfapmgecebcfaaaDoorMerged4
namespace Go.Proofs.YtfapmgecebcfaaaDoor.Q
open Go.RowKit
open Go.Proofs.YtfapmgecebcfaaaDoor.W (OwnI OwnR IntsIn RunesIn)
open Go.Proofs.YtfapmgecebcfaaaDoor.Y (Tab)

theorem ints_two (w : World) (y z : Int) (t : TypeId) : IntsIn (some ⟨w.heap.size, 0, none⟩) 2 [y, z] (w.alloc (.cells #[.int .i64 y, .int .i64 z] t)) :=
  ⟨rfl, .inr ⟨w.heap.size, 0, rfl, by simp, fun i hi => by
    have hi' : i < 2 := by simpa using hi
    rcases (show i = 0 ∨ i = 1 by omega) with rfl | rfl
    · rw [World.cell?_alloc_new]; rfl
    · rw [World.cell?_alloc_new]; rfl⟩⟩
def zeroP : Array Value := #[.int .i64 0, .int .u8 0, .int .i32 0, .int .i64 0, .int .i64 0, .int .i64 0, .int .i64 0, .int .i64 0, .int .i64 0, .int .i64 0, .int .i64 0, .int .i64 0, .int .i64 0, .int .i64 0, .int .i64 0, .int .i64 0, .int .i64 0, .int .i64 0, .int .i64 0, .int .i64 0, .int .i64 0, .int .i64 0, .bool false, .bool false, .bool false, .bool false, .string ⟨#[]⟩]
theorem PBlk.zero (w : World) : PBlk w.heap.size (fresh 0) (w.alloc (.cells zeroP 31)) := World.alloc_heap_new w _
theorem awake_feed : (feedS (fresh 0) [97, 27, 91, 51, 49, 59, 109]).2 = [prt 97, cmd 109 false [31, 0]] := by decide +kernel

set_option maxRecDepth 100000 in
set_option maxHeartbeats 8000000 in
theorem awake_any (w : World) (hT : Tab w) : Calls Tryd.prog 10 #[] w fun e w' => e = .returned (.bool true) ∧ Below w.heap.size w w' := by
  obtain ⟨rb, hrb⟩ : ∃ rb, w.heap.size = rb := ⟨_, rfl⟩
  obtain ⟨w1, hw1⟩ : ∃ w1, w.alloc (.cells zeroP 31) = w1 := ⟨_, rfl⟩
  have hb1 : Below rb w w1 := by rw [← hw1, ← hrb]; exact (Below.refl _ _).alloc (Nat.le_refl _) _
  have hB1 : PBlk rb (fresh 0) w1 := by rw [← hw1, ← hrb]; exact PBlk.zero w
  have hT1 : Tab w1 := hT.belowAll (by rw [hrb]; exact hb1)
  have h0 : 0 < rb := by rw [← hrb]; exact hT.pos
  have hF := feed_any rb (fresh 0) ⟨#[97, 27, 91, 51, 49, 59, 109]⟩ (by decide) w1 hB1 (fresh_ok 0 (by decide)) hT1 (by omega)
  unfold MPost at hF
  rw [show (feedS (fresh 0) (⟨#[97, 27, 91, 51, 49, 59, 109]⟩ : ByteArray).data.toList).2 = [prt 97, cmd 109 false [31, 0]] from awake_feed] at hF
  have HF := Lib.hid hF
  have HB1 := Lib.hid hb1
  have HLt := Lib.hid hB1.lt
  unfold zeroP at hw1
  have HW1 := Lib.hid hw1
  have HRb := Lib.hid hrb
  clear hb1 hB1 hT1 h0 hF hw1 hrb hT
  go_enter Tryd.func10, Tryd.ntmps10
  go_upto_region 2 with fail
  rw [HW1.out, HRb.out]
  go_wp2_with fail
  refine HF.out.mono ?_
  rintro e w2 ⟨v', rfl, hO, hP, hK⟩
  have hK2 : Below rb w w2 := ⟨hK.os.trans HB1.out.os, hK.tape.trans HB1.out.tape, hK.output.trans HB1.out.output, Nat.le_trans HB1.out.size hK.size, fun i hi => (hK.block i (by have := HLt.out; omega) (by omega)).trans (HB1.out.block i hi)⟩
  obtain ⟨h, _⟩ | ⟨g, cap, rfl, _, hg1, hg2, hc, hcm, hact⟩ := hO.shape
  · cases h
  obtain ⟨nv0, a0, _⟩ := hact 0 _ rfl
  obtain ⟨nv1, a1, hn1⟩ := hact 1 _ rfl
  obtain ⟨a, c, rfl, hin, _, _, hc1, hc2⟩ := hn1.shape
  have x0 := a0.c0
  have x1 := a0.c1
  have y0 := a1.c0
  have y2 := a1.c2
  have y4 := a1.c4
  simp only [prt, cmd, Nat.zero_mul, Nat.zero_add, Nat.one_mul, List.length_cons, List.length_nil] at x0 x1 y0 y2 y4 hc hc1
  have hIn : IntsIn a 2 [31, 0] w2 := hin
  have HIn := Lib.hid hIn
  have HK2 := Lib.hid hK2
  have hlt2 : rb < w2.heap.size := Nat.lt_of_lt_of_le HLt.out hK.size
  clear hO hP hK hK2 hact a0 a1 hn1 hin hIn HF
  simp only [List.length_cons, List.length_nil, Nat.zero_add, Nat.reduceAdd]
  go_wp2_with fail
  have HS := Lib.hid (same_any a (some ⟨w2.heap.size, 0, none⟩) 2 2 c 2 [31, 0] [31, 0] _ (HIn.out.belowAll ((Below.refl _ _).alloc (Nat.le_refl _) _)) (ints_two w2 31 0 3) (by decide))
  refine HS.out.mono ?_
  rintro e w3 ⟨rfl, hb3⟩
  have HB3 : Hid (Below rb w w3) := Lib.hid ((HK2.out.alloc (Nat.le_of_lt hlt2) _).trans (hb3.mono (by simp; omega)))
  clear hb3 HS
  go_wp2
  go_ret
  exact ⟨rfl, by rw [HRb.out]; exact HB3.out⟩
end Go.Proofs.YtfapmgecebcfaaaDoor.Q

/- SeqGround: whatever came: behind a cancel a letter is printed: the walk. -/
namespace Go.Proofs.YtfapmgecebcfaaaDoor.Q
open Go.RowKit
open Go.Proofs.YtfapmgecebcfaaaDoor.W (OwnI OwnR IntsIn RunesIn)
open Go.Proofs.YtfapmgecebcfaaaDoor.Y (Tab)

theorem kept_below {rb : Nat} {w w1 w2 : World} (hb : Below rb w w1) (hlt : rb < w1.heap.size) (hK : Kept w1.heap.size rb w1 w2) : Below rb w w2 :=
  ⟨hK.os.trans hb.os, hK.tape.trans hb.tape, hK.output.trans hb.output, Nat.le_trans hb.size hK.size, fun i hi => (hK.block i (by omega) (by omega)).trans (hb.block i hi)⟩
theorem cancel (p : PS) (h : Ok p) : takeS p 24 = (fresh 0, []) ∨ takeS p 24 = (fresh 0, [prt 65533]) := by
  have hany : ∀ q : PS, anyS q (24 : UInt8).toNat = (fresh 0, []) ∨ anyS q (24 : UInt8).toNat = (fresh 0, [prt 65533]) := by
    intro q
    have e : anyS q (24 : UInt8).toNat = (fresh 0, prints (Y.endS q.dec)) := by unfold anyS; rw [if_pos (.inl rfl)]
    rw [e]
    unfold Y.endS
    by_cases hn : q.dec.need = 0
    · rw [if_pos hn]; exact .inl rfl
    · rw [if_neg hn]; exact .inr rfl
  have hcore : ∀ q : PS, coreS q 24 = (fresh 0, []) ∨ coreS q 24 = (fresh 0, [prt 65533]) := by
    intro q
    unfold coreS
    by_cases h4 : q.state = 4
    · rw [if_pos h4]
      left
      unfold titleS
      rw [if_neg (by decide), if_pos (by decide)]
    · rw [if_neg h4, if_pos (by decide)]
      exact hany q
  unfold takeS
  by_cases h5 : p.state = 5
  · rw [if_pos h5, if_neg (by decide)]
    exact hcore _
  · rw [if_neg h5]
    exact hcore _
theorem ground_z : takeS (fresh 0) 122 = (fresh 0, [prt 122]) := rfl
theorem cancel_z (p : PS) (h : Ok p) : (feedS p [24, 122]).2 = [prt 122] ∨ (feedS p [24, 122]).2 = [prt 65533, prt 122] := by
  rcases cancel p h with e | e
  · left; simp only [feedS, e, ground_z]; rfl
  · right; simp only [feedS, e, ground_z]; rfl

set_option maxRecDepth 100000 in
set_option maxHeartbeats 8000000 in
theorem ground_walk (s : ByteArray) (hs : (s.size : Int) ≤ 9223372036854775807) (w : World) (hT : Tab w) :
    Calls Tryd.prog 6 #[.string s] w fun e w' => e = .returned (.bool true) ∧ Below w.heap.size w w' := by
  have HT := Lib.hid hT
  obtain ⟨b0, hb0⟩ : ∃ b0, w.heap.size = b0 := ⟨_, rfl⟩
  have HB0 := Lib.hid hb0
  have H1 := Lib.hid (awake_any w hT)
  clear hT hb0
  go_enter Tryd.func6, Tryd.ntmps6
  go_wp2_with fail
  refine H1.out.mono ?_
  rintro e w1 ⟨rfl, hb1⟩
  obtain ⟨rb, hrb⟩ : ∃ rb, w1.heap.size = rb := ⟨_, rfl⟩
  obtain ⟨w2, hw2⟩ : ∃ w2, w1.alloc (.cells zeroP 31) = w2 := ⟨_, rfl⟩
  have hb2 : Below rb w1 w2 := by rw [← hw2, ← hrb]; exact (Below.refl _ _).alloc (Nat.le_refl _) _
  have hB2 : PBlk rb (fresh 0) w2 := by rw [← hw2, ← hrb]; exact PBlk.zero w1
  have hT1 : Tab w1 := HT.out.belowAll hb1
  have h0 : 0 < rb := by rw [← hrb]; exact hT1.pos
  have hne : 0 ≠ rb := by omega
  have hT2 : Tab w2 := hT1.belowAll (by rw [hrb]; exact hb2)
  have hrb0 : b0 ≤ rb := by rw [← hrb, ← HB0.out]; exact hb1.size
  have HB1 : Hid (Below b0 w w1) := Lib.hid (by rw [← HB0.out]; exact hb1)
  have HB2 := Lib.hid hb2
  have HP2 := Lib.hid hB2
  have HT2 := Lib.hid hT2
  unfold zeroP at hw2
  have HW2 := Lib.hid hw2
  have HRb := Lib.hid hrb
  have HH0 := Lib.hid h0
  clear hb1 hb2 hB2 hT1 h0 hT2 hw2 hrb H1
  go_upto_region 4 with fail
  rw [HW2.out, HRb.out]
  go_wp2_with fail
  refine (Y.cut_any s 200 hs (by decide) _).mono ?_
  rintro e w' ⟨⟨t, rfl, hts, htl⟩, rfl⟩
  clear htl
  have HF := Lib.hid (feed_any rb (fresh 0) t (by omega) w2 HP2.out (fresh_ok 0 (by decide)) HT2.out hne)
  go_wp2_with fail
  refine HF.out.mono ?_
  rintro e w3 ⟨v3, rfl, _, hP3, hK3⟩
  obtain ⟨p3, hp3⟩ : ∃ p3, (feedS (fresh 0) t.data.toList).1 = p3 := ⟨_, rfl⟩
  have hok3 : Ok p3 := by rw [← hp3]; exact feed_ok _ _ (fresh_ok 0 (by decide))
  rw [hp3] at hP3
  have hT3 : Tab w3 := tab_kept HT2.out hK3 (Nat.lt_trans HH0.out HP2.out.lt) hne
  have HB3 : Hid (Below rb w1 w3) := Lib.hid (kept_below HB2.out HP2.out.lt hK3)
  have hF2 := feed_any rb p3 ⟨#[24, 122]⟩ (by decide) w3 hP3 hok3 hT3 hne
  have hL := cancel_z p3 hok3
  unfold MPost at hF2
  obtain ⟨L, hLe⟩ : ∃ L, (feedS p3 (⟨#[24, 122]⟩ : ByteArray).data.toList).2 = L := ⟨_, rfl⟩
  rw [hLe] at hF2
  have hL' : L = [prt 122] ∨ L = [prt 65533, prt 122] := by rw [← hLe]; exact hL
  have HF2 := Lib.hid hF2
  have HL3 := Lib.hid hP3.lt
  clear hp3 hok3 hP3 hT3 hK3 hF2 hLe hL HF
  go_wp2_with fail
  refine HF2.out.mono ?_
  rintro e w4 ⟨v', rfl, hO, _, hK⟩
  have HB4 : Hid (Below b0 w w4) := Lib.hid (HB1.out.trans ((kept_below HB3.out HL3.out hK).mono hrb0))
  obtain ⟨h, _⟩ | ⟨g, cap, rfl, _, hg1, hg2, hc, hcm, hact⟩ := hO.shape
  · rcases hL' with e | e <;> rw [e] at h <;> cases h
  clear hO hK HF2
  rcases hL' with rfl | rfl
  · obtain ⟨nv0, a0, _⟩ := hact 0 _ rfl
    have x0 := a0.c0
    have x1 := a0.c1
    simp only [prt, Nat.zero_mul, Nat.zero_add, List.length_cons, List.length_nil] at x0 x1 hc
    clear hact a0
    simp only [List.length_cons, List.length_nil, Nat.zero_add]
    go_wp2
    go_ret
    exact ⟨rfl, by rw [HB0.out]; exact HB4.out⟩
  · obtain ⟨nv0, a0, _⟩ := hact 0 _ rfl
    obtain ⟨nv1, a1, _⟩ := hact 1 _ rfl
    have x0 := a0.c0
    have x1 := a0.c1
    have y0 := a1.c0
    have y1 := a1.c1
    simp only [prt, Nat.zero_mul, Nat.zero_add, Nat.one_mul, List.length_cons, List.length_nil] at x0 x1 y0 y1 hc
    clear hact a0 a1
    simp only [List.length_cons, List.length_nil, Nat.zero_add, Nat.reduceAdd]
    go_wp2
    go_ret
    exact ⟨rfl, by rw [HB0.out]; exact HB4.out⟩
end Go.Proofs.YtfapmgecebcfaaaDoor.Q
