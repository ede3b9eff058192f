/- Runes, bytes and numbers of what is said fit. -/
import Derived.Test.YtfapmgecebcfaaaDoorQIs
import Derived.Test.YtfapmgecebcfaaaDoorQBig
import Derived.Test.YtfapmgecebcfaaaDoorQRead
import Derived.Test.YtfapmgecebcfaaaDoorMerged5
namespace Go.Proofs.YtfapmgecebcfaaaDoor.Q
open Go.Proofs.YtfapmgecebcfaaaDoor.Y (St stepS endS runS bad Sound validN)

def FitS (s : Say) : Prop := s.rune < 2147483648 ∧ s.byte < 256 ∧ s.nums.length ≤ 1000000 ∧ s.kind < 256
theorem fit_prt {r : Nat} (h : r < 2147483648) : FitS (prt r) := ⟨h, by simp [prt], by simp [prt], by simp [prt]⟩
theorem fit_end (d : St) : ∀ a ∈ prints (endS d), FitS a := by
  unfold prints endS
  split
  · intro a ha; cases ha
  · intro a ha
    obtain rfl : a = prt bad := by simpa using ha
    exact fit_prt (by decide)
theorem fit_over (t : List UInt8) : ∀ a ∈ overS t, FitS a := by
  unfold overS
  split
  · split
    · intro a ha
      obtain rfl := List.mem_singleton.1 ha
      exact ⟨by simp [ttl], by simp [ttl], by simp [ttl], by simp [ttl]⟩
    · intro a ha; cases ha
  · intro a ha; cases ha
theorem fit_any (p : PS) {b : Nat} (hb : b < 256) : ∀ a ∈ (anyS p b).2, FitS a := by
  unfold anyS
  split
  · exact fit_end _
  · split
    · exact fit_end _
    · split
      · exact fit_end _
      · intro a ha
        rcases List.mem_append.1 ha with ha | ha
        · exact fit_end _ a ha
        · obtain rfl := List.mem_singleton.1 ha
          exact ⟨by simp [ctl], by simpa [ctl] using hb, by simp [ctl], by simp [ctl]⟩
theorem fit_esc {b : Nat} (hb : b < 256) : ∀ a ∈ (escS b).2, FitS a := by
  unfold escS
  split
  · intro a ha; cases ha
  · split
    · intro a ha; cases ha
    · split
      · intro a ha; cases ha
      · split
        · intro a ha
          obtain rfl := List.mem_singleton.1 ha
          exact ⟨by simp [esc], by simpa [esc] using hb, by simp [esc], by simp [esc]⟩
        · intro a ha; cases ha
theorem fit_cmd {p : PS} (h : Ok p) {b : Nat} (hb : b < 256) : ∀ a ∈ (cmdS p b).2, FitS a := by
  have hg := good_cmd h b
  have : ∀ a ∈ (cmdS p b).2, a.rune = 0 ∧ a.byte = b ∧ a.kind = 4 := by
    unfold cmdS
    split
    · intro a ha; cases ha
    · split
      · intro a ha; cases ha
      · split
        · intro a ha; cases ha
        · split
          · intro a ha; cases ha
          · unfold finS
            simp only
            split
            · intro a ha; cases ha
            · intro a ha
              obtain rfl := List.mem_singleton.1 ha
              exact ⟨rfl, rfl, rfl⟩
  intro a ha
  obtain ⟨h1, h2, h3⟩ := this a ha
  have h4 := (hg a ha).nums
  exact ⟨by omega, by omega, by omega, by omega⟩
theorem fit_title (p : PS) (b : UInt8) : ∀ a ∈ (titleS p b).2, FitS a := by
  unfold titleS
  split
  · exact fit_over _
  · split
    · intro a ha; cases ha
    · split <;> (intro a ha; cases ha)
theorem fit_core {p : PS} (h : Ok p) (b : UInt8) : ∀ a ∈ (coreS p b).2, FitS a := by
  have hb : b.toNat < 256 := b.toNat_lt
  unfold coreS
  split
  · exact fit_title p b
  · split
    · exact fit_any p hb
    · split
      · exact fit_esc hb
      · split
        · intro a ha; cases ha
        · split
          · exact fit_cmd h hb
          · intro a ha
            have hs := Y.step_sound h.dec hb
            unfold groundS prints at ha
            obtain ⟨r, hr, rfl⟩ := List.mem_map.1 ha
            have := hs.2 r hr
            unfold validN at this
            exact fit_prt (by omega)
theorem fit_take {p : PS} (h : Ok p) (b : UInt8) : ∀ a ∈ (takeS p b).2, FitS a := by
  unfold takeS
  split
  · split
    · exact fit_over _
    · exact fit_core (fresh_ok 1 (by decide)) b
  · exact fit_core h b
theorem fit_feed : ∀ (l : List UInt8) (p : PS), Ok p → Fit (feedS p l).2
  | [], _, _, a, ha => by cases ha
  | b :: l, p, h, a, ha => by
    rcases List.mem_append.1 ha with ha | ha
    · exact fit_take h b a ha
    · exact fit_feed l _ (take_ok h b) a ha
end Go.Proofs.YtfapmgecebcfaaaDoor.Q

/- SeqReads: of any bytes there is just what the document says: the walk. -/
namespace Go.Proofs.YtfapmgecebcfaaaDoor.Q
open Go.RowKit
open Go.Proofs.YtfapmgecebcfaaaDoor.W (OwnI OwnR IntsIn RunesIn)
open Go.Proofs.YtfapmgecebcfaaaDoor.Y (Tab)

set_option maxRecDepth 100000 in
set_option maxHeartbeats 16000000 in
theorem reads_walk (s : ByteArray) (hs : (s.size : Int) ≤ 9223372036854775807) (w : World) (hT : Tab w) :
    Calls Tryd.prog 3 #[.string s] w fun e w' => e = .returned (.bool true) ∧ Below w.heap.size w w' := by
  have HT := Lib.hid hT
  obtain ⟨b0, hb0⟩ : ∃ b0, w.heap.size = b0 := ⟨_, rfl⟩
  have HB0 := Lib.hid hb0
  have H1 := Lib.hid (awake_any w hT)
  clear hT hb0
  go_enter Tryd.func3, Tryd.ntmps3
  go_wp2_with fail
  refine H1.out.mono ?_
  rintro e w1 ⟨rfl, hb1⟩
  obtain ⟨rb, hrb⟩ : ∃ rb, w1.heap.size = rb := ⟨_, rfl⟩
  obtain ⟨w2, hw2⟩ : ∃ w2, w1.alloc (.cells zeroP 31) = w2 := ⟨_, rfl⟩
  have hb2 : Below rb w1 w2 := by rw [← hw2, ← hrb]; exact (Below.refl _ _).alloc (Nat.le_refl _) _
  have hB2 : PBlk rb (fresh 0) w2 := by rw [← hw2, ← hrb]; exact PBlk.zero w1
  have hT1 : Tab w1 := HT.out.belowAll hb1
  have h0 : 0 < rb := by rw [← hrb]; exact hT1.pos
  have hne : 0 ≠ rb := by omega
  have hT2 : Tab w2 := hT1.belowAll (by rw [hrb]; exact hb2)
  have hrb0 : b0 ≤ rb := by rw [← hrb, ← HB0.out]; exact hb1.size
  have HB1 : Hid (Below b0 w w1) := Lib.hid (by rw [← HB0.out]; exact hb1)
  have HB2 := Lib.hid hb2
  have HP2 := Lib.hid hB2
  have HT2 := Lib.hid hT2
  unfold zeroP at hw2
  have HW2 := Lib.hid hw2
  have HRb := Lib.hid hrb
  have HH0 := Lib.hid h0
  clear hb1 hb2 hB2 hT1 h0 hT2 hw2 hrb H1
  go_wp2_with fail
  refine (Y.cut_any s 300 hs (by decide) _).mono ?_
  rintro e w' ⟨⟨t, rfl, hts, htl⟩, rfl⟩
  clear htl
  go_upto_region 5 with fail
  rw [HW2.out, HRb.out]
  have HF := Lib.hid (feed_any rb (fresh 0) t (by omega) w2 HP2.out (fresh_ok 0 (by decide)) HT2.out hne)
  go_wp2_with fail
  refine HF.out.mono ?_
  rintro e w3 ⟨v3, rfl, hO, hP3, hK3⟩
  have hfit := fit_feed t.data.toList (fresh 0) (fresh_ok 0 (by decide))
  have hcnt := feed_count t.data.toList (fresh 0)
  have hrd := read_any t (by omega) w3
  obtain ⟨L, hL⟩ : ∃ L, (feedS (fresh 0) t.data.toList).2 = L := ⟨_, rfl⟩
  rw [hL] at hO hfit hcnt hrd
  have hB3 := kept_below HB2.out HP2.out.lt hK3
  have HB3 : Hid (Below b0 w w3) := Lib.hid (HB1.out.trans (hB3.mono hrb0))
  have hlt3 : b0 ≤ w3.heap.size := by have := hB3.size; have := HRb.out; omega
  have hl8 : (L.length : Int) ≤ 100000 := by have : t.data.toList.length = t.size := rfl; omega
  have HO := Lib.hid hO
  have HRd := Lib.hid hrd
  have HFit := Lib.hid hfit
  have HL8 := Lib.hid hl8
  clear hO hP3 hK3 hfit hcnt hrd hL hB3 hl8 HF
  go_wp2_with fail
  refine HRd.out.mono ?_
  rintro e w4 ⟨v4, rfl, hX, hb4⟩
  have HB4 : Hid (Below b0 w w4) := Lib.hid (HB3.out.trans (hb4.mono hlt3))
  have HIs := Lib.hid (is_any _ _ v3 v4 L w4 (HO.out.belowAll hb4) hX HL8.out HFit.out)
  have hlt4 : b0 ≤ w4.heap.size := Nat.le_trans hlt3 hb4.size
  clear hX hb4 HRd
  go_wp2_with fail
  refine HIs.out.mono ?_
  rintro e w5 ⟨rfl, hb5⟩
  have HB5 : Hid (Below b0 w w5) := Lib.hid (HB4.out.trans (hb5.mono hlt4))
  clear hb5 HIs
  go_wp2
  go_ret
  exact ⟨rfl, by rw [HB0.out]; exact HB5.out⟩
end Go.Proofs.YtfapmgecebcfaaaDoor.Q
