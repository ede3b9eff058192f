/- GlyphValid: each rune that is told is one, and there are no more than bytes: the walk. -/
import Derived.Test.YtnjkgbnkfncjkaaDoorYAwake
namespace Go.Proofs.YtnjkgbnkfncjkaaDoor.Y
open Go.RowKit
open Go.Proofs.YtnjkgbnkfncjkaaDoor.W (OwnR OwnI RunesIn IntsIn isRune runes_one grownBy_of_below)

set_option maxRecDepth 100000 in
set_option maxHeartbeats 4000000 in
theorem valid_walk (s : ByteArray) (hs : (s.size : Int) ≤ 9223372036854775807) (w : World) (hT : Tab w) :
    Calls Tryd.prog 7 #[.string s] w fun e w' => e = .returned (.bool true) ∧ Below w.heap.size w w' := by
  have HT := Lib.hid hT
  have H1 := Lib.hid (awake_any w hT)
  have HS := Lib.hid hs
  obtain ⟨base, hbase⟩ : ∃ base, w.heap.size = base := ⟨_, rfl⟩
  have HBs := Lib.hid hbase
  rw [hbase]
  clear hT hs hbase
  go_enter Tryd.func7, Tryd.ntmps7
  go_wp2_with fail
  refine H1.out.mono ?_
  rintro e w1 ⟨rfl, hb1⟩
  rw [HBs.out] at hb1
  have hl1 := hb1.size
  rw [HBs.out] at hl1
  have HB1 := Lib.hid hb1
  clear hb1 H1
  go_wp2_with fail
  refine (cut_any s 80 HS.out (by decide) _).mono ?_
  rintro e w' ⟨⟨t, rfl, hts, htl⟩, rfl⟩
  have hdec := decode_any t (by omega) w1 (HT.out.belowAll (by rw [HBs.out]; exact HB1.out))
  have hval := dec_valid t.data.toList
  have hcnt := dec_count t.data.toList
  have hsome := dec_some t.data.toList
  obtain ⟨l, hl⟩ : ∃ l, decS t.data.toList = l := ⟨_, rfl⟩
  rw [hl] at hdec hval hcnt hsome
  rw [show t.data.toList.length = t.size from rfl] at hcnt
  have HDec := Lib.hid hdec
  have HVal := Lib.hid hval
  have HSome := Lib.hid hsome
  obtain ⟨n, hn⟩ : ∃ n, l.length = n := ⟨_, rfl⟩
  rw [hn] at hcnt
  have HN := Lib.hid hn
  clear hdec hval hsome htl hl hn
  go_wp2_with fail
  refine HDec.out.mono ?_
  rintro e w2 ⟨a, c, rfl, hown, hb2⟩
  obtain ⟨a', c', hv, hin, hnil⟩ := toI_shape hown
  injection hv with hv1 _ hv2
  subst hv1 hv2
  have HB2 : Hid (Below base w w2) := Lib.hid (HB1.out.trans (hb2.mono hl1))
  rw [HN.out] at hin ⊢
  have HIn := Lib.hid hin
  clear hb2 hin hnil hown HDec
  go_wp2_with fail
  go_loop [14] (fun i => ∃ j : Nat, j ≤ n ∧ i = .int .i64 (j : Int)) (fun i => n - (intOf i).toNat)
  case atStart => exact ⟨0, by omega, rfl⟩
  case round =>
    obtain ⟨j, hj, rfl⟩ := hrel
    by_cases hlt : j < n
    · have hjl : j < (toI l).length := by rw [toI_len, HN.out]; exact hlt
      obtain ⟨b, off, rfl, _, hI⟩ := HIn.out.2.resolve_left (by intro e; rw [e] at hjl; simp at hjl)
      have hc := hI j hjl
      have hjl2 : j < l.length := by rw [HN.out]; exact hlt
      have e : (toI l).getD j 0 = (l[j] : Int) := by simp [toI, List.getD_eq_getElem?_getD, hjl2]
      have hv := HVal.out l[j] (List.getElem_mem hjl2)
      rw [e] at hc
      obtain ⟨r, hr⟩ : ∃ r, l[j] = r := ⟨_, rfl⟩
      rw [hr] at hc hv
      unfold validN at hv
      have d1 : decide ((1114111 : Int) < (r : Int)) = false := by rw [decide_eq_false_iff_not]; omega
      clear hjl hjl2 e hI hr
      by_cases h1 : r < 55296
      · have d2 : decide ((55296 : Int) ≤ (r : Int)) = false := by rw [decide_eq_false_iff_not]; omega
        clear hv h1
        go_wp2
        go_round
        case rel => exact ⟨j + 1, by omega, by go_num⟩
        case measure => simp [intOf]; omega
      · have d2 : decide ((55296 : Int) ≤ (r : Int)) = true := by rw [decide_eq_true_eq]; omega
        have d3 : decide ((r : Int) ≤ 57343) = false := by rw [decide_eq_false_iff_not]; omega
        clear hv h1
        go_wp2
        go_round
        case rel => exact ⟨j + 1, by omega, by go_num⟩
        case measure => simp [intOf]; omega
    · obtain rfl : j = n := by omega
      have d1 : decide (j ≤ t.size) = true := by simpa using hcnt
      by_cases h0 : t.size = 0
      · have he : t.toList.isEmpty = true := by
          rw [ByteArray.toList_eq]
          have : t.data.toList = [] := List.length_eq_zero_iff.1 h0
          rw [this]; rfl
        clear h0
        go_wp2
        go_ret
        exact ⟨rfl, HB2.out⟩
      · have he : t.toList.isEmpty = false := by
          rw [ByteArray.toList_eq]
          cases hx : t.data.toList with
          | nil => exact absurd (by rw [← ByteArray.size_data, ← Array.length_toList, hx]; rfl) h0
          | cons a b => rfl
        have hj1 : 1 ≤ j := by rw [← HN.out]; exact HSome.out (by intro e; exact h0 (by rw [← ByteArray.size_data, ← Array.length_toList, e]; rfl))
        have d2 : decide (0 < j) = true := by rw [decide_eq_true_eq]; omega
        clear h0
        go_wp2
        go_ret
        exact ⟨rfl, HB2.out⟩
end Go.Proofs.YtnjkgbnkfncjkaaDoor.Y
