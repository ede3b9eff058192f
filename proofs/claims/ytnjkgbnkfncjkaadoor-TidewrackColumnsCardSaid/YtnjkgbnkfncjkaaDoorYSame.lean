/- What the laws of layer 5 share: Same, Cut, and the fixed fact. -/
import Derived.Test.YtnjkgbnkfncjkaaDoorYDecode
import Derived.RegionTactic
namespace Go.Proofs.YtnjkgbnkfncjkaaDoor.Y
open Go.RowKit
open Go.Proofs.YtnjkgbnkfncjkaaDoor.W (OwnR OwnI RunesIn IntsIn isRune runes_one grownBy_of_below)

theorem take_upto {zs us : List Int} {j : Nat} (h : zs.take j = us.take j) (h1 : j < zs.length) (h2 : j < us.length) (e : zs.getD j 0 = us.getD j 0) : zs.take (j + 1) = us.take (j + 1) := by
  rw [W.take_snoc zs j h1, W.take_snoc us j h2, h, e]

set_option maxRecDepth 100000 in
set_option maxHeartbeats 2000000 in
theorem same_any (a b : Option Addr) (n ca m cb : Nat) (zs us : List Int) (hz : (zs.length : Int) ≤ 1000000) (hr : ∀ i, i < zs.length → isRune (zs.getD i 0)) (w : World) (h1 : RunesIn a n zs w) (h2 : IntsIn b m us w) :
    Calls Tryd.prog 16 #[.slice a n ca, .slice b m cb] w fun e w' => e = .returned (.bool (decide (zs = us))) ∧ Below w.heap.size w w' := by
  obtain ⟨R, hR⟩ : ∃ R, decide (zs = us) = R := ⟨_, rfl⟩
  rw [hR]
  have HR := Lib.hid hR
  have hn := h1.1
  have hm := h2.1
  have H1 := Lib.hid h1
  have H2 := Lib.hid h2
  have HRu := Lib.hid hr
  obtain ⟨base, hbase⟩ : ∃ base, w.heap.size = base := ⟨_, rfl⟩
  rw [hbase]
  have hsz : base ≤ w.heap.size := by omega
  have HBs := Lib.hid hbase
  have h0 : Below base w w := Below.refl _ _
  have HB0 := Lib.hid h0
  clear hR h1 h2 hr hbase h0
  by_cases hnm : n = m
  · subst hnm
    have HN := Lib.hid hn
    have HM := Lib.hid hm
    have hn6 : (n : Int) ≤ 1000000 := by omega
    clear hn hm hz
    go_enter Tryd.func16, Tryd.ntmps16
    go_wp2
    go_loopw [13] (fun i wr => ∃ j : Nat, i = .int .i64 (j : Int) ∧ j ≤ n ∧ base ≤ wr.heap.size ∧ Hid (Below base w wr ∧ zs.take j = us.take j)) (fun i _ => n - (intOf i).toNat)
    case atStart => exact ⟨0, rfl, by omega, hsz, Lib.hid ⟨HB0.out, rfl⟩⟩
    case round =>
      rename_i wr
      obtain ⟨j, rfl, hj, hbw, HF⟩ := hrel
      by_cases hlt : j < n
      · have hjz : j < zs.length := by rw [← HN.out]; exact hlt
        have hju : j < us.length := by rw [← HM.out]; exact hlt
        obtain ⟨b1, o1, rfl, hl1, hI1⟩ := H1.out.2.resolve_left (by intro e; rw [e] at hjz; simp at hjz)
        obtain ⟨b2, o2, rfl, hl2, hI2⟩ := H2.out.2.resolve_left (by intro e; rw [e] at hju; simp at hju)
        have c1 := (HF.out.1.cell (p := ⟨b1, o1 + j, none⟩) (by rw [← HBs.out]; exact hl1)).trans (hI1 j hjz)
        have c2 := (HF.out.1.cell (p := ⟨b2, o2 + j, none⟩) (by rw [← HBs.out]; exact hl2)).trans (hI2 j hju)
        obtain ⟨hz1, hz2⟩ := HRu.out j hjz
        have HUp := Lib.hid (fun e => take_upto HF.out.2 hjz hju e)
        obtain ⟨z, hz⟩ : ∃ z, zs.getD j 0 = z := ⟨_, rfl⟩
        obtain ⟨u, hu⟩ : ∃ u, us.getD j 0 = u := ⟨_, rfl⟩
        have HZ := Lib.hid hz
        have HU := Lib.hid hu
        rw [hz] at c1 hz1 hz2
        rw [hu] at c2
        rw [hz, hu] at HUp
        clear hz hu hI1 hI2 hl1 hl2 hjz hju
        by_cases hzu : z = u
        · subst hzu
          have HT := Lib.hid (HUp.out rfl)
          go_wp2
          go_region
          all_goals
            go_wp2
            go_roundw
            case rel => exact ⟨j + 1, by go_num, by omega, hbw, Lib.hid ⟨HF.out.1.drew, HT.out⟩⟩
            case measure => simp [intOf]; omega
        · have hne : (z != u) = true := by simpa using hzu
          have HV : Hid (R = false) := Lib.hid (by
            rw [← HR.out, decide_eq_false_iff_not]
            intro e
            exact hzu (by rw [← HZ.out, ← HU.out, e]))
          clear hzu
          go_wp2
          go_region
          all_goals
            go_wp2
            go_ret
            exact ⟨by rw [HV.out]; rfl, HF.out.1.drew⟩
      · obtain rfl : j = n := by omega
        have HV : Hid (R = true) := Lib.hid (by
          rw [← HR.out, decide_eq_true_eq]
          have h := HF.out.2
          rwa [List.take_of_length_le (by rw [HN.out]; exact Nat.le_refl _), List.take_of_length_le (by rw [HM.out]; exact Nat.le_refl _)] at h)
        go_wp2
        go_ret
        exact ⟨by rw [HV.out]; rfl, HF.out.1⟩
  · have hne : ((n : Int) != (m : Int)) = true := by simp; omega
    have HV : Hid (R = false) := Lib.hid (by
      rw [← HR.out, decide_eq_false_iff_not]
      intro e
      exact hnm (by rw [hn, hm, e]))
    clear hn hm hz hnm
    go_enter Tryd.func16, Tryd.ntmps16
    go_wp2
    go_ret
    exact ⟨by rw [HV.out]; rfl, HB0.out⟩
theorem cut_any (s : ByteArray) (n : Nat) (_ : (s.size : Int) ≤ 9223372036854775807) (hn : (n : Int) ≤ 1000) (w : World) :
    Calls Tryd.prog 13 #[.string s, .int .i64 n] w fun e w' => (∃ t : ByteArray, e = .returned (.string t) ∧ (t.size : Int) ≤ n ∧ t.data.toList = s.data.toList.take n) ∧ w = w' := by
  go_enter Tryd.func13, Tryd.ntmps13
  go_wp2
  · have h : n < s.size := by assumption
    go_ret
    refine ⟨⟨_, rfl, ?_, ?_⟩, rfl⟩
    · simp; omega
    · simp
  · have h : ¬ n < s.size := by assumption
    go_ret
    refine ⟨⟨_, rfl, ?_, ?_⟩, rfl⟩
    · omega
    · rw [List.take_of_length_le (by show s.size ≤ n; omega)]
end Go.Proofs.YtnjkgbnkfncjkaaDoor.Y
