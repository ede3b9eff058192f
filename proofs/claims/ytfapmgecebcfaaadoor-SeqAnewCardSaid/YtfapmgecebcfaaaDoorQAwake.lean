/- The contract of awake. -/
import Derived.Test.YtfapmgecebcfaaaDoorQAct
namespace Go.Proofs.YtfapmgecebcfaaaDoor.Q
open Go.RowKit
open Go.Proofs.YtfapmgecebcfaaaDoor.W (OwnI OwnR IntsIn RunesIn)
open Go.Proofs.YtfapmgecebcfaaaDoor.Y (Tab)

theorem ints_two (w : World) (y z : Int) (t : TypeId) : IntsIn (some ⟨w.heap.size, 0, none⟩) 2 [y, z] (w.alloc (.cells #[.int .i64 y, .int .i64 z] t)) :=
  ⟨rfl, .inr ⟨w.heap.size, 0, rfl, by simp, fun i hi => by
    have hi' : i < 2 := by simpa using hi
    rcases (show i = 0 ∨ i = 1 by omega) with rfl | rfl
    · rw [World.cell?_alloc_new]; rfl
    · rw [World.cell?_alloc_new]; rfl⟩⟩
def zeroP : Array Value := #[.int .i64 0, .int .u8 0, .int .i32 0, .int .i64 0, .int .i64 0, .int .i64 0, .int .i64 0, .int .i64 0, .int .i64 0, .int .i64 0, .int .i64 0, .int .i64 0, .int .i64 0, .int .i64 0, .int .i64 0, .int .i64 0, .int .i64 0, .int .i64 0, .int .i64 0, .int .i64 0, .int .i64 0, .int .i64 0, .bool false, .bool false, .bool false, .bool false, .string ⟨#[]⟩]
theorem PBlk.zero (w : World) : PBlk w.heap.size (fresh 0) (w.alloc (.cells zeroP 31)) := World.alloc_heap_new w _
theorem awake_feed : (feedS (fresh 0) [97, 27, 91, 51, 49, 59, 109]).2 = [prt 97, cmd 109 false [31, 0]] := by decide +kernel

set_option maxRecDepth 100000 in
set_option maxHeartbeats 8000000 in
theorem awake_any (w : World) (hT : Tab w) : Calls Tryd.prog 10 #[] w fun e w' => e = .returned (.bool true) ∧ Below w.heap.size w w' := by
  obtain ⟨rb, hrb⟩ : ∃ rb, w.heap.size = rb := ⟨_, rfl⟩
  obtain ⟨w1, hw1⟩ : ∃ w1, w.alloc (.cells zeroP 31) = w1 := ⟨_, rfl⟩
  have hb1 : Below rb w w1 := by rw [← hw1, ← hrb]; exact (Below.refl _ _).alloc (Nat.le_refl _) _
  have hB1 : PBlk rb (fresh 0) w1 := by rw [← hw1, ← hrb]; exact PBlk.zero w
  have hT1 : Tab w1 := hT.belowAll (by rw [hrb]; exact hb1)
  have h0 : 0 < rb := by rw [← hrb]; exact hT.pos
  have hF := feed_any rb (fresh 0) ⟨#[97, 27, 91, 51, 49, 59, 109]⟩ (by decide) w1 hB1 (fresh_ok 0 (by decide)) hT1 (by omega)
  unfold MPost at hF
  rw [show (feedS (fresh 0) (⟨#[97, 27, 91, 51, 49, 59, 109]⟩ : ByteArray).data.toList).2 = [prt 97, cmd 109 false [31, 0]] from awake_feed] at hF
  have HF := Lib.hid hF
  have HB1 := Lib.hid hb1
  have HLt := Lib.hid hB1.lt
  unfold zeroP at hw1
  have HW1 := Lib.hid hw1
  have HRb := Lib.hid hrb
  clear hb1 hB1 hT1 h0 hF hw1 hrb hT
  go_enter Tryd.func10, Tryd.ntmps10
  go_upto_region 2 with fail
  rw [HW1.out, HRb.out]
  go_wp2_with fail
  refine HF.out.mono ?_
  rintro e w2 ⟨v', rfl, hO, hP, hK⟩
  have hK2 : Below rb w w2 := ⟨hK.os.trans HB1.out.os, hK.tape.trans HB1.out.tape, hK.output.trans HB1.out.output, Nat.le_trans HB1.out.size hK.size, fun i hi => (hK.block i (by have := HLt.out; omega) (by omega)).trans (HB1.out.block i hi)⟩
  obtain ⟨h, _⟩ | ⟨g, cap, rfl, _, hg1, hg2, hc, hcm, hact⟩ := hO.shape
  · cases h
  obtain ⟨nv0, a0, _⟩ := hact 0 _ rfl
  obtain ⟨nv1, a1, hn1⟩ := hact 1 _ rfl
  obtain ⟨a, c, rfl, hin, _, _, hc1, hc2⟩ := hn1.shape
  have x0 := a0.c0
  have x1 := a0.c1
  have y0 := a1.c0
  have y2 := a1.c2
  have y4 := a1.c4
  simp only [prt, cmd, Nat.zero_mul, Nat.zero_add, Nat.one_mul, List.length_cons, List.length_nil] at x0 x1 y0 y2 y4 hc hc1
  have hIn : IntsIn a 2 [31, 0] w2 := hin
  have HIn := Lib.hid hIn
  have HK2 := Lib.hid hK2
  have hlt2 : rb < w2.heap.size := Nat.lt_of_lt_of_le HLt.out hK.size
  clear hO hP hK hK2 hact a0 a1 hn1 hin hIn HF
  simp only [List.length_cons, List.length_nil, Nat.zero_add, Nat.reduceAdd]
  go_wp2_with fail
  have HS := Lib.hid (same_any a (some ⟨w2.heap.size, 0, none⟩) 2 2 c 2 [31, 0] [31, 0] _ (HIn.out.belowAll ((Below.refl _ _).alloc (Nat.le_refl _) _)) (ints_two w2 31 0 3) (by decide))
  refine HS.out.mono ?_
  rintro e w3 ⟨rfl, hb3⟩
  have HB3 : Hid (Below rb w w3) := Lib.hid ((HK2.out.alloc (Nat.le_of_lt hlt2) _).trans (hb3.mono (by simp; omega)))
  clear hb3 HS
  go_wp2
  go_ret
  exact ⟨rfl, by rw [HRb.out]; exact HB3.out⟩
end Go.Proofs.YtfapmgecebcfaaaDoor.Q
