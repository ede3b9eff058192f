/- Runes, bytes and numbers of what is said fit. -/
import Derived.Test.YtfapmgecebcfaaaDoorQIs
import Derived.Test.YtfapmgecebcfaaaDoorQBig
import Derived.Test.YtfapmgecebcfaaaDoorMerged3
namespace Go.Proofs.YtfapmgecebcfaaaDoor.Q
open Go.Proofs.YtfapmgecebcfaaaDoor.Y (St stepS endS runS bad Sound validN)

def FitS (s : Say) : Prop := s.rune < 2147483648 ∧ s.byte < 256 ∧ s.nums.length ≤ 1000000 ∧ s.kind < 256
theorem fit_prt {r : Nat} (h : r < 2147483648) : FitS (prt r) := ⟨h, by simp [prt], by simp [prt], by simp [prt]⟩
theorem fit_end (d : St) : ∀ a ∈ prints (endS d), FitS a := by
  unfold prints endS
  split
  · intro a ha; cases ha
  · intro a ha
    obtain rfl : a = prt bad := by simpa using ha
    exact fit_prt (by decide)
theorem fit_over (t : List UInt8) : ∀ a ∈ overS t, FitS a := by
  unfold overS
  split
  · split
    · intro a ha
      obtain rfl := List.mem_singleton.1 ha
      exact ⟨by simp [ttl], by simp [ttl], by simp [ttl], by simp [ttl]⟩
    · intro a ha; cases ha
  · intro a ha; cases ha
theorem fit_any (p : PS) {b : Nat} (hb : b < 256) : ∀ a ∈ (anyS p b).2, FitS a := by
  unfold anyS
  split
  · exact fit_end _
  · split
    · exact fit_end _
    · split
      · exact fit_end _
      · intro a ha
        rcases List.mem_append.1 ha with ha | ha
        · exact fit_end _ a ha
        · obtain rfl := List.mem_singleton.1 ha
          exact ⟨by simp [ctl], by simpa [ctl] using hb, by simp [ctl], by simp [ctl]⟩
theorem fit_esc {b : Nat} (hb : b < 256) : ∀ a ∈ (escS b).2, FitS a := by
  unfold escS
  split
  · intro a ha; cases ha
  · split
    · intro a ha; cases ha
    · split
      · intro a ha; cases ha
      · split
        · intro a ha
          obtain rfl := List.mem_singleton.1 ha
          exact ⟨by simp [esc], by simpa [esc] using hb, by simp [esc], by simp [esc]⟩
        · intro a ha; cases ha
theorem fit_cmd {p : PS} (h : Ok p) {b : Nat} (hb : b < 256) : ∀ a ∈ (cmdS p b).2, FitS a := by
  have hg := good_cmd h b
  have : ∀ a ∈ (cmdS p b).2, a.rune = 0 ∧ a.byte = b ∧ a.kind = 4 := by
    unfold cmdS
    split
    · intro a ha; cases ha
    · split
      · intro a ha; cases ha
      · split
        · intro a ha; cases ha
        · split
          · intro a ha; cases ha
          · unfold finS
            simp only
            split
            · intro a ha; cases ha
            · intro a ha
              obtain rfl := List.mem_singleton.1 ha
              exact ⟨rfl, rfl, rfl⟩
  intro a ha
  obtain ⟨h1, h2, h3⟩ := this a ha
  have h4 := (hg a ha).nums
  exact ⟨by omega, by omega, by omega, by omega⟩
theorem fit_title (p : PS) (b : UInt8) : ∀ a ∈ (titleS p b).2, FitS a := by
  unfold titleS
  split
  · exact fit_over _
  · split
    · intro a ha; cases ha
    · split <;> (intro a ha; cases ha)
theorem fit_core {p : PS} (h : Ok p) (b : UInt8) : ∀ a ∈ (coreS p b).2, FitS a := by
  have hb : b.toNat < 256 := b.toNat_lt
  unfold coreS
  split
  · exact fit_title p b
  · split
    · exact fit_any p hb
    · split
      · exact fit_esc hb
      · split
        · intro a ha; cases ha
        · split
          · exact fit_cmd h hb
          · intro a ha
            have hs := Y.step_sound h.dec hb
            unfold groundS prints at ha
            obtain ⟨r, hr, rfl⟩ := List.mem_map.1 ha
            have := hs.2 r hr
            unfold validN at this
            exact fit_prt (by omega)
theorem fit_take {p : PS} (h : Ok p) (b : UInt8) : ∀ a ∈ (takeS p b).2, FitS a := by
  unfold takeS
  split
  · split
    · exact fit_over _
    · exact fit_core (fresh_ok 1 (by decide)) b
  · exact fit_core h b
theorem fit_feed : ∀ (l : List UInt8) (p : PS), Ok p → Fit (feedS p l).2
  | [], _, _, a, ha => by cases ha
  | b :: l, p, h, a, ha => by
    rcases List.mem_append.1 ha with ha | ha
    · exact fit_take h b a ha
    · exact fit_feed l _ (take_ok h b) a ha
end Go.Proofs.YtfapmgecebcfaaaDoor.Q

/- The contract of awake. -/
namespace Go.Proofs.YtfapmgecebcfaaaDoor.Q
open Go.RowKit
open Go.Proofs.YtfapmgecebcfaaaDoor.W (OwnI OwnR IntsIn RunesIn)
open Go.Proofs.YtfapmgecebcfaaaDoor.Y (Tab)

theorem ints_two (w : World) (y z : Int) (t : TypeId) : IntsIn (some ⟨w.heap.size, 0, none⟩) 2 [y, z] (w.alloc (.cells #[.int .i64 y, .int .i64 z] t)) :=
  ⟨rfl, .inr ⟨w.heap.size, 0, rfl, by simp, fun i hi => by
    have hi' : i < 2 := by simpa using hi
    rcases (show i = 0 ∨ i = 1 by omega) with rfl | rfl
    · rw [World.cell?_alloc_new]; rfl
    · rw [World.cell?_alloc_new]; rfl⟩⟩
def zeroP : Array Value := #[.int .i64 0, .int .u8 0, .int .i32 0, .int .i64 0, .int .i64 0, .int .i64 0, .int .i64 0, .int .i64 0, .int .i64 0, .int .i64 0, .int .i64 0, .int .i64 0, .int .i64 0, .int .i64 0, .int .i64 0, .int .i64 0, .int .i64 0, .int .i64 0, .int .i64 0, .int .i64 0, .int .i64 0, .int .i64 0, .bool false, .bool false, .bool false, .bool false, .string ⟨#[]⟩]
theorem PBlk.zero (w : World) : PBlk w.heap.size (fresh 0) (w.alloc (.cells zeroP 31)) := World.alloc_heap_new w _
theorem awake_feed : (feedS (fresh 0) [97, 27, 91, 51, 49, 59, 109]).2 = [prt 97, cmd 109 false [31, 0]] := by decide +kernel

set_option maxRecDepth 100000 in
set_option maxHeartbeats 8000000 in
theorem awake_any (w : World) (hT : Tab w) : Calls Tryd.prog 10 #[] w fun e w' => e = .returned (.bool true) ∧ Below w.heap.size w w' := by
  obtain ⟨rb, hrb⟩ : ∃ rb, w.heap.size = rb := ⟨_, rfl⟩
  obtain ⟨w1, hw1⟩ : ∃ w1, w.alloc (.cells zeroP 31) = w1 := ⟨_, rfl⟩
  have hb1 : Below rb w w1 := by rw [← hw1, ← hrb]; exact (Below.refl _ _).alloc (Nat.le_refl _) _
  have hB1 : PBlk rb (fresh 0) w1 := by rw [← hw1, ← hrb]; exact PBlk.zero w
  have hT1 : Tab w1 := hT.belowAll (by rw [hrb]; exact hb1)
  have h0 : 0 < rb := by rw [← hrb]; exact hT.pos
  have hF := feed_any rb (fresh 0) ⟨#[97, 27, 91, 51, 49, 59, 109]⟩ (by decide) w1 hB1 (fresh_ok 0 (by decide)) hT1 (by omega)
  unfold MPost at hF
  rw [show (feedS (fresh 0) (⟨#[97, 27, 91, 51, 49, 59, 109]⟩ : ByteArray).data.toList).2 = [prt 97, cmd 109 false [31, 0]] from awake_feed] at hF
  have HF := Lib.hid hF
  have HB1 := Lib.hid hb1
  have HLt := Lib.hid hB1.lt
  unfold zeroP at hw1
  have HW1 := Lib.hid hw1
  have HRb := Lib.hid hrb
  clear hb1 hB1 hT1 h0 hF hw1 hrb hT
  go_enter Tryd.func10, Tryd.ntmps10
  go_upto_region 2 with fail
  rw [HW1.out, HRb.out]
  go_wp2_with fail
  refine HF.out.mono ?_
  rintro e w2 ⟨v', rfl, hO, hP, hK⟩
  have hK2 : Below rb w w2 := ⟨hK.os.trans HB1.out.os, hK.tape.trans HB1.out.tape, hK.output.trans HB1.out.output, Nat.le_trans HB1.out.size hK.size, fun i hi => (hK.block i (by have := HLt.out; omega) (by omega)).trans (HB1.out.block i hi)⟩
  obtain ⟨h, _⟩ | ⟨g, cap, rfl, _, hg1, hg2, hc, hcm, hact⟩ := hO.shape
  · cases h
  obtain ⟨nv0, a0, _⟩ := hact 0 _ rfl
  obtain ⟨nv1, a1, hn1⟩ := hact 1 _ rfl
  obtain ⟨a, c, rfl, hin, _, _, hc1, hc2⟩ := hn1.shape
  have x0 := a0.c0
  have x1 := a0.c1
  have y0 := a1.c0
  have y2 := a1.c2
  have y4 := a1.c4
  simp only [prt, cmd, Nat.zero_mul, Nat.zero_add, Nat.one_mul, List.length_cons, List.length_nil] at x0 x1 y0 y2 y4 hc hc1
  have hIn : IntsIn a 2 [31, 0] w2 := hin
  have HIn := Lib.hid hIn
  have HK2 := Lib.hid hK2
  have hlt2 : rb < w2.heap.size := Nat.lt_of_lt_of_le HLt.out hK.size
  clear hO hP hK hK2 hact a0 a1 hn1 hin hIn HF
  simp only [List.length_cons, List.length_nil, Nat.zero_add, Nat.reduceAdd]
  go_wp2_with fail
  have HS := Lib.hid (same_any a (some ⟨w2.heap.size, 0, none⟩) 2 2 c 2 [31, 0] [31, 0] _ (HIn.out.belowAll ((Below.refl _ _).alloc (Nat.le_refl _) _)) (ints_two w2 31 0 3) (by decide))
  refine HS.out.mono ?_
  rintro e w3 ⟨rfl, hb3⟩
  have HB3 : Hid (Below rb w w3) := Lib.hid ((HK2.out.alloc (Nat.le_of_lt hlt2) _).trans (hb3.mono (by simp; omega)))
  clear hb3 HS
  go_wp2
  go_ret
  exact ⟨rfl, by rw [HRb.out]; exact HB3.out⟩
end Go.Proofs.YtfapmgecebcfaaaDoor.Q
