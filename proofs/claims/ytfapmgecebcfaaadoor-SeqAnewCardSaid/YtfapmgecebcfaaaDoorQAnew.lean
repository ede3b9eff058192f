/- SeqAnew: behind a cancel bytes say what they say from the ground on: the walk. -/
import Derived.Test.YtfapmgecebcfaaaDoorQReads
import Derived.Test.YtfapmgecebcfaaaDoorQIsO
namespace Go.Proofs.YtfapmgecebcfaaaDoor.Q
open Go.RowKit
open Go.Proofs.YtfapmgecebcfaaaDoor.W (OwnI OwnR IntsIn RunesIn)
open Go.Proofs.YtfapmgecebcfaaaDoor.Y (Tab)

theorem anew_math (p : PS) (h : Ok p) (T : List UInt8) : (feedS p (24 :: T)).2 = (feedS (fresh 0) T).2 ∨ (feedS p (24 :: T)).2 = prt 65533 :: (feedS (fresh 0) T).2 := by
  rcases cancel p h with e | e
  · left; simp only [feedS, e]; rfl
  · right; simp only [feedS, e]; rfl
/-- what is left behind the first one -/
theorem OwnA.tail {base : Nat} {v : Value} {s : Say} {L : List Say} {w : World} (h : OwnA base v (s :: L) w) :
    ∃ g cap, v = .slice (some ⟨g, 0, none⟩) (L.length + 1) cap ∧ g < w.heap.size ∧ L.length + 1 ≤ cap ∧ (cap : Int) ≤ 9223372036854775807 ∧ (∃ nv, ActAt w g 0 s nv) ∧ ∀ a : Option Addr, (L ≠ [] → a = some ⟨g, 6, none⟩) → ActsIn (.slice a L.length (cap - 1)) L w := by
  obtain ⟨h0, _⟩ | ⟨g, cap, rfl, _, _, hg, hc, hcm, hact⟩ := h.shape
  · cases h0
  · refine ⟨g, cap, rfl, hg, hc, hcm, ?_, fun a ha => ?_⟩
    · obtain ⟨nv, h1, _⟩ := hact 0 s rfl
      rw [Nat.zero_mul] at h1
      exact ⟨nv, h1⟩
    · by_cases hL : L = []
      · subst hL
        exact .inl ⟨rfl, a, _, rfl⟩
      · rw [ha hL]
        refine .inr ⟨g, 6, cap - 1, rfl, hL, hg, by simp at hc; omega, by omega, fun i s' hi => ?_⟩
        obtain ⟨nv, h1, h2⟩ := hact (i + 1) s' (by simpa using hi)
        refine ⟨nv, base, ?_, h2⟩
        rw [show 6 + i * 6 = (i + 1) * 6 by omega]
        exact h1

set_option maxRecDepth 100000 in
set_option maxHeartbeats 16000000 in
theorem anew_walk (s t : ByteArray) (hs : (s.size : Int) ≤ 9223372036854775807) (ht : (t.size : Int) ≤ 9223372036854775807) (w : World) (hT : Tab w) :
    Calls Tryd.prog 7 #[.string s, .string t] w fun e w' => e = .returned (.bool true) ∧ Below w.heap.size w w' := by
  have HT := Lib.hid hT
  obtain ⟨b0, hb0⟩ : ∃ b0, w.heap.size = b0 := ⟨_, rfl⟩
  have HB0 := Lib.hid hb0
  have H1 := Lib.hid (awake_any w hT)
  clear hT hb0
  go_enter Tryd.func7, Tryd.ntmps7
  go_wp2_with fail
  refine H1.out.mono ?_
  rintro e w1 ⟨rfl, hb1⟩
  obtain ⟨rb, hrb⟩ : ∃ rb, w1.heap.size = rb := ⟨_, rfl⟩
  obtain ⟨w2, hw2⟩ : ∃ w2, w1.alloc (.cells zeroP 31) = w2 := ⟨_, rfl⟩
  have hb2 : Below rb w1 w2 := by rw [← hw2, ← hrb]; exact (Below.refl _ _).alloc (Nat.le_refl _) _
  have hB2 : PBlk rb (fresh 0) w2 := by rw [← hw2, ← hrb]; exact PBlk.zero w1
  have hT1 : Tab w1 := HT.out.belowAll hb1
  have h0 : 0 < rb := by rw [← hrb]; exact hT1.pos
  have hne : 0 ≠ rb := by omega
  have hT2 : Tab w2 := hT1.belowAll (by rw [hrb]; exact hb2)
  have hrb0 : b0 ≤ rb := by rw [← hrb, ← HB0.out]; exact hb1.size
  have HB1 : Hid (Below b0 w w1) := Lib.hid (by rw [← HB0.out]; exact hb1)
  have HB2 := Lib.hid hb2
  have HP2 := Lib.hid hB2
  have HT2 := Lib.hid hT2
  unfold zeroP at hw2
  have HW2 := Lib.hid hw2
  have HRb := Lib.hid hrb
  have HH0 := Lib.hid h0
  clear hb1 hb2 hB2 hT1 h0 hT2 hw2 hrb H1
  go_upto_region 4 with fail
  rw [HW2.out, HRb.out]
  go_wp2_with fail
  refine (Y.cut_any s 150 hs (by decide) _).mono ?_
  rintro e w' ⟨⟨s', rfl, hss, hsl⟩, rfl⟩
  clear hsl
  have HF := Lib.hid (feed_any rb (fresh 0) s' (by omega) w2 HP2.out (fresh_ok 0 (by decide)) HT2.out hne)
  go_wp2_with fail
  refine HF.out.mono ?_
  rintro e w3 ⟨v3, rfl, _, hP3, hK3⟩
  obtain ⟨p3, hp3⟩ : ∃ p3, (feedS (fresh 0) s'.data.toList).1 = p3 := ⟨_, rfl⟩
  have hok3 : Ok p3 := by rw [← hp3]; exact feed_ok _ _ (fresh_ok 0 (by decide))
  rw [hp3] at hP3
  have hT3 : Tab w3 := tab_kept HT2.out hK3 (Nat.lt_trans HH0.out HP2.out.lt) hne
  have hB3 : Below rb w1 w3 := kept_below HB2.out HP2.out.lt hK3
  have HB3 := Lib.hid hB3
  have HP3 := Lib.hid hP3
  have HT3 := Lib.hid hT3
  have HOk3 := Lib.hid hok3
  clear hp3 hok3 hP3 hT3 hB3 hK3 HF
  go_wp2_with fail
  refine (Y.cut_any t 150 ht (by decide) _).mono ?_
  rintro e w' ⟨⟨u, rfl, hus, hul⟩, rfl⟩
  clear hul
  have hno : ¬ 9223372036854775807 < 1 + u.size := by omega
  go_upto_region 6 with fail
  go_wp2_with fail
  have hF2 := feed_any rb p3 ((⟨#[24]⟩ : ByteArray) ++ u) (by rw [ByteArray.size_append]; show ((1 + u.size : Nat) : Int) ≤ 1000; omega) w3 HP3.out HOk3.out HT3.out hne
  have hcat : ((⟨#[24]⟩ : ByteArray) ++ u).data.toList = 24 :: u.data.toList := by simp
  unfold MPost at hF2
  rw [hcat] at hF2
  have hm := anew_math p3 HOk3.out u.data.toList
  have hfit := fit_feed u.data.toList (fresh 0) (fresh_ok 0 (by decide))
  have hcnt := feed_count u.data.toList (fresh 0)
  have HRdAll := Lib.hid (fun w => read_any u (by omega) w)
  obtain ⟨L, hL⟩ : ∃ L, (feedS (fresh 0) u.data.toList).2 = L := ⟨_, rfl⟩
  rw [hL] at hfit hcnt hm HRdAll
  obtain ⟨R, hR⟩ : ∃ R, (feedS p3 (24 :: u.data.toList)).2 = R := ⟨_, rfl⟩
  rw [hR] at hm hF2
  have HF2 := Lib.hid hF2
  have hl8 : (L.length : Int) ≤ 100000 := by have : u.data.toList.length = u.size := rfl; omega
  have HFit := Lib.hid hfit
  have HM := Lib.hid hm
  have HL8 := Lib.hid hl8
  have HL3 := Lib.hid HP3.out.lt
  clear hF2 hcat hm hfit hcnt hL hR hl8 hno
  refine HF2.out.mono ?_
  rintro e w4 ⟨v', rfl, hO, _, hK⟩
  have hB4 : Below rb w1 w4 := kept_below HB3.out HL3.out hK
  have HB4 : Hid (Below b0 w w4) := Lib.hid (HB1.out.trans (hB4.mono hrb0))
  have hlt4 : b0 ≤ w4.heap.size := by have := hB4.size; have := HRb.out; omega
  have HO4 := Lib.hid hO
  clear hO hK hB4 HF2
  have HRd := Lib.hid (HRdAll.out w4)
  go_wp2_with fail
  refine HRd.out.mono ?_
  rintro e w5 ⟨v5, rfl, hX, hb5⟩
  have HB5 : Hid (Below b0 w w5) := Lib.hid (HB4.out.trans (hb5.mono hlt4))
  have hO5 := HO4.out.belowAll hb5
  have hlt5 : b0 ≤ w5.heap.size := Nat.le_trans hlt4 hb5.size
  have HX5 := Lib.hid hX
  clear hX hb5 HRd HRdAll HO4
  have hv5 : ∃ a5 c5, v5 = .slice a5 L.length c5 := by
    obtain ⟨h, a, c, e, _⟩ | ⟨g2, c2, e, _⟩ := HX5.out.shape
    · exact ⟨a, c, by rw [e, h]; rfl⟩
    · exact ⟨_, c2, e⟩
  obtain ⟨a5, c5, rfl⟩ := hv5
  obtain ⟨N, hN⟩ : ∃ N, L.length = N := ⟨_, rfl⟩
  rcases HM.out with rfl | rfl
  · have hv' : ∃ a4 c4, v' = .slice a4 N c4 := by
      obtain ⟨h, a, c, e, _⟩ | ⟨g2, c2, e, _⟩ := hO5.shape
      · exact ⟨a, c, by rw [e, ← hN, h]; rfl⟩
      · exact ⟨_, c2, by rw [e, hN]⟩
    obtain ⟨a4, c4, rfl⟩ := hv'
    have HIs := Lib.hid (is_any _ _ _ _ R w5 hO5 HX5.out HL8.out HFit.out)
    rw [hN] at HIs ⊢
    have hne1 : ((N : Int) == (N : Int) + 1) = false := by rw [beq_eq_false_iff_ne]; omega
    have hN8 : (N : Int) ≤ 100000 := by rw [← hN]; exact HL8.out
    clear hN hO5
    go_wp2_with fail
    refine HIs.out.mono ?_
    rintro e w6 ⟨rfl, hb6⟩
    have HB6 : Hid (Below b0 w w6) := Lib.hid (HB5.out.trans (hb6.mono hlt5))
    clear hb6 HIs
    go_wp2
    go_ret
    exact ⟨rfl, by rw [HB0.out]; exact HB6.out⟩
  · obtain ⟨g, cap, rfl, hg, hcap, hcm, ⟨nv, hat⟩, htl⟩ := hO5.tail
    have x0 := hat.c0
    have x1 := hat.c1
    simp only [prt, Nat.zero_add] at x0 x1
    have HTl := Lib.hid htl
    have hN8 : (N : Int) ≤ 100000 := by rw [← hN]; exact HL8.out
    have HIs := fun a ha => is_in _ (.slice a L.length (cap - 1)) _ L w5 (HTl.out a ha) HX5.out HL8.out HFit.out
    have HIs := Lib.hid HIs
    rw [hN] at HIs hcap ⊢
    have HN := Lib.hid hN
    clear hN hO5 hat htl
    by_cases hc1 : cap = 1
    · subst hc1
      obtain rfl : N = 0 := by omega
      have HI2 := Lib.hid (HIs.out (some ⟨g, 0, none⟩) (fun h => absurd (List.length_eq_zero_iff.1 HN.out) h))
      simp only [Nat.sub_self] at HI2
      go_upto_region 10 with fail
      go_wp2_with fail
      refine HI2.out.mono ?_
      rintro e w6 ⟨rfl, hb6⟩
      have HB6 : Hid (Below b0 w w6) := Lib.hid (HB5.out.trans (hb6.mono hlt5))
      clear hb6 HI2
      go_wp2
      go_ret
      exact ⟨rfl, by rw [HB0.out]; exact HB6.out⟩
    · have HI2 := Lib.hid (HIs.out (some ⟨g, 6, none⟩) (fun _ => rfl))
      go_upto_region 10 with fail
      go_wp2_with fail
      refine HI2.out.mono ?_
      rintro e w6 ⟨rfl, hb6⟩
      have HB6 : Hid (Below b0 w w6) := Lib.hid (HB5.out.trans (hb6.mono hlt5))
      clear hb6 HI2
      go_wp2
      go_ret
      exact ⟨rfl, by rw [HB0.out]; exact HB6.out⟩
end Go.Proofs.YtfapmgecebcfaaaDoor.Q
