/- SeqGround: whatever came: behind a cancel a letter is printed: the walk. -/
import Derived.Test.YtfapmgecebcfaaaDoorMerged6
import Derived.Test.YtfapmgecebcfaaaDoorQRead
namespace Go.Proofs.YtfapmgecebcfaaaDoor.Q
open Go.RowKit
open Go.Proofs.YtfapmgecebcfaaaDoor.W (OwnI OwnR IntsIn RunesIn)
open Go.Proofs.YtfapmgecebcfaaaDoor.Y (Tab)

theorem kept_below {rb : Nat} {w w1 w2 : World} (hb : Below rb w w1) (hlt : rb < w1.heap.size) (hK : Kept w1.heap.size rb w1 w2) : Below rb w w2 :=
  ⟨hK.os.trans hb.os, hK.tape.trans hb.tape, hK.output.trans hb.output, Nat.le_trans hb.size hK.size, fun i hi => (hK.block i (by omega) (by omega)).trans (hb.block i hi)⟩
theorem cancel (p : PS) (h : Ok p) : takeS p 24 = (fresh 0, []) ∨ takeS p 24 = (fresh 0, [prt 65533]) := by
  have hany : ∀ q : PS, anyS q (24 : UInt8).toNat = (fresh 0, []) ∨ anyS q (24 : UInt8).toNat = (fresh 0, [prt 65533]) := by
    intro q
    have e : anyS q (24 : UInt8).toNat = (fresh 0, prints (Y.endS q.dec)) := by unfold anyS; rw [if_pos (.inl rfl)]
    rw [e]
    unfold Y.endS
    by_cases hn : q.dec.need = 0
    · rw [if_pos hn]; exact .inl rfl
    · rw [if_neg hn]; exact .inr rfl
  have hcore : ∀ q : PS, coreS q 24 = (fresh 0, []) ∨ coreS q 24 = (fresh 0, [prt 65533]) := by
    intro q
    unfold coreS
    by_cases h4 : q.state = 4
    · rw [if_pos h4]
      left
      unfold titleS
      rw [if_neg (by decide), if_pos (by decide)]
    · rw [if_neg h4, if_pos (by decide)]
      exact hany q
  unfold takeS
  by_cases h5 : p.state = 5
  · rw [if_pos h5, if_neg (by decide)]
    exact hcore _
  · rw [if_neg h5]
    exact hcore _
theorem ground_z : takeS (fresh 0) 122 = (fresh 0, [prt 122]) := rfl
theorem cancel_z (p : PS) (h : Ok p) : (feedS p [24, 122]).2 = [prt 122] ∨ (feedS p [24, 122]).2 = [prt 65533, prt 122] := by
  rcases cancel p h with e | e
  · left; simp only [feedS, e, ground_z]; rfl
  · right; simp only [feedS, e, ground_z]; rfl

set_option maxRecDepth 100000 in
set_option maxHeartbeats 8000000 in
theorem ground_walk (s : ByteArray) (hs : (s.size : Int) ≤ 9223372036854775807) (w : World) (hT : Tab w) :
    Calls Tryd.prog 6 #[.string s] w fun e w' => e = .returned (.bool true) ∧ Below w.heap.size w w' := by
  have HT := Lib.hid hT
  obtain ⟨b0, hb0⟩ : ∃ b0, w.heap.size = b0 := ⟨_, rfl⟩
  have HB0 := Lib.hid hb0
  have H1 := Lib.hid (awake_any w hT)
  clear hT hb0
  go_enter Tryd.func6, Tryd.ntmps6
  go_wp2_with fail
  refine H1.out.mono ?_
  rintro e w1 ⟨rfl, hb1⟩
  obtain ⟨rb, hrb⟩ : ∃ rb, w1.heap.size = rb := ⟨_, rfl⟩
  obtain ⟨w2, hw2⟩ : ∃ w2, w1.alloc (.cells zeroP 31) = w2 := ⟨_, rfl⟩
  have hb2 : Below rb w1 w2 := by rw [← hw2, ← hrb]; exact (Below.refl _ _).alloc (Nat.le_refl _) _
  have hB2 : PBlk rb (fresh 0) w2 := by rw [← hw2, ← hrb]; exact PBlk.zero w1
  have hT1 : Tab w1 := HT.out.belowAll hb1
  have h0 : 0 < rb := by rw [← hrb]; exact hT1.pos
  have hne : 0 ≠ rb := by omega
  have hT2 : Tab w2 := hT1.belowAll (by rw [hrb]; exact hb2)
  have hrb0 : b0 ≤ rb := by rw [← hrb, ← HB0.out]; exact hb1.size
  have HB1 : Hid (Below b0 w w1) := Lib.hid (by rw [← HB0.out]; exact hb1)
  have HB2 := Lib.hid hb2
  have HP2 := Lib.hid hB2
  have HT2 := Lib.hid hT2
  unfold zeroP at hw2
  have HW2 := Lib.hid hw2
  have HRb := Lib.hid hrb
  have HH0 := Lib.hid h0
  clear hb1 hb2 hB2 hT1 h0 hT2 hw2 hrb H1
  go_upto_region 4 with fail
  rw [HW2.out, HRb.out]
  go_wp2_with fail
  refine (Y.cut_any s 200 hs (by decide) _).mono ?_
  rintro e w' ⟨⟨t, rfl, hts, htl⟩, rfl⟩
  clear htl
  have HF := Lib.hid (feed_any rb (fresh 0) t (by omega) w2 HP2.out (fresh_ok 0 (by decide)) HT2.out hne)
  go_wp2_with fail
  refine HF.out.mono ?_
  rintro e w3 ⟨v3, rfl, _, hP3, hK3⟩
  obtain ⟨p3, hp3⟩ : ∃ p3, (feedS (fresh 0) t.data.toList).1 = p3 := ⟨_, rfl⟩
  have hok3 : Ok p3 := by rw [← hp3]; exact feed_ok _ _ (fresh_ok 0 (by decide))
  rw [hp3] at hP3
  have hT3 : Tab w3 := tab_kept HT2.out hK3 (Nat.lt_trans HH0.out HP2.out.lt) hne
  have HB3 : Hid (Below rb w1 w3) := Lib.hid (kept_below HB2.out HP2.out.lt hK3)
  have hF2 := feed_any rb p3 ⟨#[24, 122]⟩ (by decide) w3 hP3 hok3 hT3 hne
  have hL := cancel_z p3 hok3
  unfold MPost at hF2
  obtain ⟨L, hLe⟩ : ∃ L, (feedS p3 (⟨#[24, 122]⟩ : ByteArray).data.toList).2 = L := ⟨_, rfl⟩
  rw [hLe] at hF2
  have hL' : L = [prt 122] ∨ L = [prt 65533, prt 122] := by rw [← hLe]; exact hL
  have HF2 := Lib.hid hF2
  have HL3 := Lib.hid hP3.lt
  clear hp3 hok3 hP3 hT3 hK3 hF2 hLe hL HF
  go_wp2_with fail
  refine HF2.out.mono ?_
  rintro e w4 ⟨v', rfl, hO, _, hK⟩
  have HB4 : Hid (Below b0 w w4) := Lib.hid (HB1.out.trans ((kept_below HB3.out HL3.out hK).mono hrb0))
  obtain ⟨h, _⟩ | ⟨g, cap, rfl, _, hg1, hg2, hc, hcm, hact⟩ := hO.shape
  · rcases hL' with e | e <;> rw [e] at h <;> cases h
  clear hO hK HF2
  rcases hL' with rfl | rfl
  · obtain ⟨nv0, a0, _⟩ := hact 0 _ rfl
    have x0 := a0.c0
    have x1 := a0.c1
    simp only [prt, Nat.zero_mul, Nat.zero_add, List.length_cons, List.length_nil] at x0 x1 hc
    clear hact a0
    simp only [List.length_cons, List.length_nil, Nat.zero_add]
    go_wp2
    go_ret
    exact ⟨rfl, by rw [HB0.out]; exact HB4.out⟩
  · obtain ⟨nv0, a0, _⟩ := hact 0 _ rfl
    obtain ⟨nv1, a1, _⟩ := hact 1 _ rfl
    have x0 := a0.c0
    have x1 := a0.c1
    have y0 := a1.c0
    have y1 := a1.c1
    simp only [prt, Nat.zero_mul, Nat.zero_add, Nat.one_mul, List.length_cons, List.length_nil] at x0 x1 y0 y1 hc
    clear hact a0 a1
    simp only [List.length_cons, List.length_nil, Nat.zero_add, Nat.reduceAdd]
    go_wp2
    go_ret
    exact ⟨rfl, by rw [HB0.out]; exact HB4.out⟩
end Go.Proofs.YtfapmgecebcfaaaDoor.Q

/- SeqReads: of any bytes there is just what the document says: the walk. -/
namespace Go.Proofs.YtfapmgecebcfaaaDoor.Q
open Go.RowKit
open Go.Proofs.YtfapmgecebcfaaaDoor.W (OwnI OwnR IntsIn RunesIn)
open Go.Proofs.YtfapmgecebcfaaaDoor.Y (Tab)

set_option maxRecDepth 100000 in
set_option maxHeartbeats 16000000 in
theorem reads_walk (s : ByteArray) (hs : (s.size : Int) ≤ 9223372036854775807) (w : World) (hT : Tab w) :
    Calls Tryd.prog 3 #[.string s] w fun e w' => e = .returned (.bool true) ∧ Below w.heap.size w w' := by
  have HT := Lib.hid hT
  obtain ⟨b0, hb0⟩ : ∃ b0, w.heap.size = b0 := ⟨_, rfl⟩
  have HB0 := Lib.hid hb0
  have H1 := Lib.hid (awake_any w hT)
  clear hT hb0
  go_enter Tryd.func3, Tryd.ntmps3
  go_wp2_with fail
  refine H1.out.mono ?_
  rintro e w1 ⟨rfl, hb1⟩
  obtain ⟨rb, hrb⟩ : ∃ rb, w1.heap.size = rb := ⟨_, rfl⟩
  obtain ⟨w2, hw2⟩ : ∃ w2, w1.alloc (.cells zeroP 31) = w2 := ⟨_, rfl⟩
  have hb2 : Below rb w1 w2 := by rw [← hw2, ← hrb]; exact (Below.refl _ _).alloc (Nat.le_refl _) _
  have hB2 : PBlk rb (fresh 0) w2 := by rw [← hw2, ← hrb]; exact PBlk.zero w1
  have hT1 : Tab w1 := HT.out.belowAll hb1
  have h0 : 0 < rb := by rw [← hrb]; exact hT1.pos
  have hne : 0 ≠ rb := by omega
  have hT2 : Tab w2 := hT1.belowAll (by rw [hrb]; exact hb2)
  have hrb0 : b0 ≤ rb := by rw [← hrb, ← HB0.out]; exact hb1.size
  have HB1 : Hid (Below b0 w w1) := Lib.hid (by rw [← HB0.out]; exact hb1)
  have HB2 := Lib.hid hb2
  have HP2 := Lib.hid hB2
  have HT2 := Lib.hid hT2
  unfold zeroP at hw2
  have HW2 := Lib.hid hw2
  have HRb := Lib.hid hrb
  have HH0 := Lib.hid h0
  clear hb1 hb2 hB2 hT1 h0 hT2 hw2 hrb H1
  go_wp2_with fail
  refine (Y.cut_any s 300 hs (by decide) _).mono ?_
  rintro e w' ⟨⟨t, rfl, hts, htl⟩, rfl⟩
  clear htl
  go_upto_region 5 with fail
  rw [HW2.out, HRb.out]
  have HF := Lib.hid (feed_any rb (fresh 0) t (by omega) w2 HP2.out (fresh_ok 0 (by decide)) HT2.out hne)
  go_wp2_with fail
  refine HF.out.mono ?_
  rintro e w3 ⟨v3, rfl, hO, hP3, hK3⟩
  have hfit := fit_feed t.data.toList (fresh 0) (fresh_ok 0 (by decide))
  have hcnt := feed_count t.data.toList (fresh 0)
  have hrd := read_any t (by omega) w3
  obtain ⟨L, hL⟩ : ∃ L, (feedS (fresh 0) t.data.toList).2 = L := ⟨_, rfl⟩
  rw [hL] at hO hfit hcnt hrd
  have hB3 := kept_below HB2.out HP2.out.lt hK3
  have HB3 : Hid (Below b0 w w3) := Lib.hid (HB1.out.trans (hB3.mono hrb0))
  have hlt3 : b0 ≤ w3.heap.size := by have := hB3.size; have := HRb.out; omega
  have hl8 : (L.length : Int) ≤ 100000 := by have : t.data.toList.length = t.size := rfl; omega
  have HO := Lib.hid hO
  have HRd := Lib.hid hrd
  have HFit := Lib.hid hfit
  have HL8 := Lib.hid hl8
  clear hO hP3 hK3 hfit hcnt hrd hL hB3 hl8 HF
  go_wp2_with fail
  refine HRd.out.mono ?_
  rintro e w4 ⟨v4, rfl, hX, hb4⟩
  have HB4 : Hid (Below b0 w w4) := Lib.hid (HB3.out.trans (hb4.mono hlt3))
  have HIs := Lib.hid (is_any _ _ v3 v4 L w4 (HO.out.belowAll hb4) hX HL8.out HFit.out)
  have hlt4 : b0 ≤ w4.heap.size := Nat.le_trans hlt3 hb4.size
  clear hX hb4 HRd
  go_wp2_with fail
  refine HIs.out.mono ?_
  rintro e w5 ⟨rfl, hb5⟩
  have HB5 : Hid (Below b0 w w5) := Lib.hid (HB4.out.trans (hb5.mono hlt4))
  clear hb5 HIs
  go_wp2
  go_ret
  exact ⟨rfl, by rw [HB0.out]; exact HB5.out⟩
end Go.Proofs.YtfapmgecebcfaaaDoor.Q
