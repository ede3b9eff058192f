/- The contracts of glyph.Decoder's open and may, and of begin. -/
import Derived.Test.YtfapmgecebcfaaaDoorYLead
import Derived.Test.YtfapmgecebcfaaaDoorWBase
import Derived.Laws.BitsAllLaws
namespace Go.Proofs.YtfapmgecebcfaaaDoor.Y
open Go.RowKit
open Go.Proofs.YtfapmgecebcfaaaDoor.W (OwnR RunesIn wpList_append_runes runes_one grownBy_of_below)

def decV (d : St) : Value := .agg #[.int .u8 (d.lead : Int), .int .i32 (d.rune : Int), .int .i64 (d.need : Int)]
def opB (d : St) : Bool := decide (0 < d.need)
def toI (l : List Nat) : List Int := l.map fun n : Nat => (n : Int)
theorem toI_append (a b : List Nat) : toI (a ++ b) = toI a ++ toI b := List.map_append ..
theorem toI_len (a : List Nat) : (toI a).length = a.length := List.length_map ..

set_option maxRecDepth 100000 in
theorem open_any (d : St) (w : World) : Calls Tryd.prog 36 #[decV d] w fun e w' => e = .returned (.bool (opB d)) ∧ Below w.heap.size w w' := by
  obtain ⟨ld, r, n⟩ := d
  unfold decV opB
  simp only
  have hb : Below w.heap.size w (w.alloc (.cells #[.int .u8 (ld : Int), .int .i32 (r : Int), .int .i64 (n : Int)] 26)) := (Below.refl _ _).alloc (Nat.le_refl _) _
  have HB := Lib.hid hb
  clear hb
  by_cases h : 0 < n
  · have hd : decide (0 < n) = true := by simpa using h
    have hd2 : decide ((0 : Int) < (n : Int)) = true := by simpa using h
    rw [hd]
    go_enter Tryd.func36, Tryd.ntmps36
    go_wp2
    go_ret
    exact ⟨rfl, HB.out⟩
  · obtain rfl : n = 0 := by omega
    rw [show decide (0 < 0) = false from rfl]
    go_enter Tryd.func36, Tryd.ntmps36
    go_wp2
    go_ret
    exact ⟨rfl, HB.out⟩

set_option maxRecDepth 100000 in
set_option maxHeartbeats 2000000 in
theorem may_any (d : St) (hd : d.lead < 256) (c : Nat) (hc : (c : Int) < 256) (w : World) (hT : Tab w) : Calls Tryd.prog 44 #[decV d, .int .u8 (c : Int)] w fun e w' => e = .returned (.bool (mayS d c)) ∧ Below w.heap.size w w' := by
  obtain ⟨ld, r, n⟩ := d
  obtain ⟨R, hR⟩ : ∃ R, mayS ⟨ld, r, n⟩ c = R := ⟨_, rfl⟩
  rw [hR]
  unfold decV
  simp only at hd ⊢
  obtain ⟨w1, hw1⟩ : ∃ w1, w.alloc (.cells #[.int .u8 (ld : Int), .int .i32 (r : Int), .int .i64 (n : Int)] 26) = w1 := ⟨_, rfl⟩
  have hb1 : Below w.heap.size w w1 := by rw [← hw1]; exact (Below.refl _ _).alloc (Nat.le_refl _) _
  have HL := Lib.hid (leadOf_any ld (by omega) w1 (hT.belowAll hb1))
  have HB1 := Lib.hid hb1
  unfold mayS at hR
  simp only at hR
  have HR := Lib.hid hR
  have HW1 := Lib.hid hw1
  clear hR hb1 hw1 hT
  go_enter Tryd.func44, Tryd.ntmps44
  go_wp2_with fail
  rw [HW1.out]
  refine HL.out.mono ?_
  rintro e w2 ⟨rfl, hb2⟩
  have HB2 := Lib.hid (HB1.out.trans (hb2.mono HB1.out.size))
  have hsz : w.heap.size < w1.heap.size := by rw [← HW1.out]; simp
  have hn2 : w2.cell? ⟨w.heap.size, 2, none⟩ = some (.int .i64 (n : Int)) := (hb2.cell (p := ⟨w.heap.size, 2, none⟩) hsz).trans (by rw [← HW1.out, World.cell?_alloc_new]; rfl)
  have hsz2 : w.heap.size < w2.heap.size := Nat.lt_of_lt_of_le hsz hb2.size
  have hle2 : w.heap.size ≤ w2.heap.size := by omega
  clear hb2 HL
  have hRR := HR.out
  cases hl : leadS ld with
  | none =>
    rw [hl] at hRR
    simp only at hRR
    simp only [Option.getD_none, Option.isSome_none, zeroRow, rowV]
    by_cases h1 : 128 ≤ c
    · by_cases h2 : c ≤ 191
      · have d1 : decide ((128 : Int) ≤ (c : Int)) = true := by rw [decide_eq_true_eq]; omega
        have d2 : decide ((c : Int) ≤ 191) = true := by rw [decide_eq_true_eq]; omega
        have HV : Hid (R = true) := Lib.hid (by rw [← hRR]; simp [h1, h2])
        clear hRR hl h1 h2
        go_wp2
        go_ret
        exact ⟨by rw [HV.out]; rfl, HB2.out.alloc hle2 _⟩
      · have d1 : decide ((128 : Int) ≤ (c : Int)) = true := by rw [decide_eq_true_eq]; omega
        have d2 : decide ((c : Int) ≤ 191) = false := by rw [decide_eq_false_iff_not]; omega
        have HV : Hid (R = false) := Lib.hid (by rw [← hRR]; simp [h2])
        clear hRR hl h1 h2
        go_wp2
        go_ret
        exact ⟨by rw [HV.out]; rfl, HB2.out.alloc hle2 _⟩
    · have d1 : decide ((128 : Int) ≤ (c : Int)) = false := by rw [decide_eq_false_iff_not]; omega
      have HV : Hid (R = false) := Lib.hid (by rw [← hRR]; simp [h1])
      clear hRR hl h1
      go_wp2
      go_ret
      exact ⟨by rw [HV.out]; rfl, HB2.out.alloc hle2 _⟩
  | some x =>
    obtain ⟨x0, x1, x2, x3, x4, x5⟩ := x
    rw [hl] at hRR
    simp only at hRR
    simp only [Option.getD_some, Option.isSome_some, rowV]
    by_cases h0 : n = x3
    · rw [if_pos h0] at hRR
      subst h0
      by_cases h1 : x4 ≤ c
      · by_cases h2 : c ≤ x5
        · have d1 : decide (x4 ≤ c) = true := by simpa using h1
          have d2 : decide (c ≤ x5) = true := by simpa using h2
          have HV : Hid (R = true) := Lib.hid (by rw [← hRR]; simp [h1, h2])
          clear hRR hl h1 h2
          go_wp2
          go_ret
          exact ⟨by rw [HV.out]; rfl, HB2.out.alloc hle2 _⟩
        · have d1 : decide (x4 ≤ c) = true := by simpa using h1
          have d2 : decide (c ≤ x5) = false := by simpa using h2
          have HV : Hid (R = false) := Lib.hid (by rw [← hRR]; simp [h2])
          clear hRR hl h1 h2
          go_wp2
          go_ret
          exact ⟨by rw [HV.out]; rfl, HB2.out.alloc hle2 _⟩
      · have d1 : decide (x4 ≤ c) = false := by simpa using h1
        have HV : Hid (R = false) := Lib.hid (by rw [← hRR]; simp [h1])
        clear hRR hl h1
        go_wp2
        go_ret
        exact ⟨by rw [HV.out]; rfl, HB2.out.alloc hle2 _⟩
    · rw [if_neg h0] at hRR
      have d0 : ((n : Int) == (x3 : Int)) = false := by rw [beq_eq_false_iff_ne]; omega
      by_cases h1 : 128 ≤ c
      · by_cases h2 : c ≤ 191
        · have d1 : decide ((128 : Int) ≤ (c : Int)) = true := by rw [decide_eq_true_eq]; omega
          have d2 : decide ((c : Int) ≤ 191) = true := by rw [decide_eq_true_eq]; omega
          have HV : Hid (R = true) := Lib.hid (by rw [← hRR]; simp [h1, h2])
          clear hRR hl h0 h1 h2
          go_wp2
          go_ret
          exact ⟨by rw [HV.out]; rfl, HB2.out.alloc hle2 _⟩
        · have d1 : decide ((128 : Int) ≤ (c : Int)) = true := by rw [decide_eq_true_eq]; omega
          have d2 : decide ((c : Int) ≤ 191) = false := by rw [decide_eq_false_iff_not]; omega
          have HV : Hid (R = false) := Lib.hid (by rw [← hRR]; simp [h2])
          clear hRR hl h0 h1 h2
          go_wp2
          go_ret
          exact ⟨by rw [HV.out]; rfl, HB2.out.alloc hle2 _⟩
      · have d1 : decide ((128 : Int) ≤ (c : Int)) = false := by rw [decide_eq_false_iff_not]; omega
        have HV : Hid (R = false) := Lib.hid (by rw [← hRR]; simp [h1])
        clear hRR hl h0 h1
        go_wp2
        go_ret
        exact ⟨by rw [HV.out]; rfl, HB2.out.alloc hle2 _⟩

theorem mask_u8 (b m : Nat) (hb : b < 256) (hm : m = 127 ∨ m = 31 ∨ m = 15 ∨ m = 7) : bits .and .u8 (b : Int) (m : Int) = ((b % (m + 1) : Nat) : Int) := by
  rcases hm with rfl | rfl | rfl | rfl
  · have := bits_mask .u8 8 (by decide) wraps_u8 7 (by decide) (b : Int) (by omega) (by omega)
    simpa using this
  · have := bits_mask .u8 8 (by decide) wraps_u8 5 (by decide) (b : Int) (by omega) (by omega)
    simpa using this
  · have := bits_mask .u8 8 (by decide) wraps_u8 4 (by decide) (b : Int) (by omega) (by omega)
    simpa using this
  · have := bits_mask .u8 8 (by decide) wraps_u8 3 (by decide) (b : Int) (by omega) (by omega)
    simpa using this

end Go.Proofs.YtfapmgecebcfaaaDoor.Y
