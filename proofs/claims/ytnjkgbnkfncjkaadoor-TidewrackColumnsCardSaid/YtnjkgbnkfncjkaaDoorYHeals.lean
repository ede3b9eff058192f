/- GlyphHeals: whatever bytes came: a rune behind them is told: the walk. -/
import Derived.Test.YtnjkgbnkfncjkaaDoorYAwake
namespace Go.Proofs.YtnjkgbnkfncjkaaDoor.Y
open Go.RowKit
open Go.Proofs.YtnjkgbnkfncjkaaDoor.W (OwnR OwnI RunesIn IntsIn isRune runes_one grownBy_of_below)

theorem encN_len {c : Nat} : 1 ≤ (encN c).length ∧ (encN c).length ≤ 4 := by
  unfold encN
  split
  · simp
  · split
    · simp
    · split <;> simp

set_option maxRecDepth 100000 in
set_option maxHeartbeats 4000000 in
theorem heals_walk (s : ByteArray) (x : Int) (hx1 : -2147483648 ≤ x) (hx2 : x ≤ 2147483647) (hs : (s.size : Int) ≤ 9223372036854775807) (w : World) (hT : Tab w) :
    Calls Tryd.prog 6 #[.string s, .int .i32 x] w fun e w' => e = .returned (.bool true) ∧ Below w.heap.size w w' := by
  have HT := Lib.hid hT
  have H1 := Lib.hid (awake_any w hT)
  have HS := Lib.hid hs
  obtain ⟨base, hbase⟩ : ∃ base, w.heap.size = base := ⟨_, rfl⟩
  have HBs := Lib.hid hbase
  rw [hbase]
  clear hT hs hbase
  go_enter Tryd.func6, Tryd.ntmps6
  go_wp2_with fail
  refine H1.out.mono ?_
  rintro e w1 ⟨rfl, hb1⟩
  rw [HBs.out] at hb1
  have hl1 := hb1.size
  rw [HBs.out] at hl1
  have HB1 := Lib.hid hb1
  clear hb1 H1
  go_wp2_with fail
  refine (cut_any s 60 HS.out (by decide) _).mono ?_
  rintro e w' ⟨⟨t, rfl, hts, htl⟩, rfl⟩
  have HEnc := Lib.hid (encode_any (some ⟨w1.heap.size, 0, none⟩) 1 1 [x] _ (runes_one w1 x 21))
  clear htl
  go_wp2_with fail
  refine HEnc.out.mono ?_
  rintro e w' ⟨⟨u, rfl, hu⟩, rfl⟩
  have hu1 : u.data.toList = encS x := by rw [hu, List.flatMap_cons]; simp
  have hu4 : u.size ≤ 4 := by
    rw [← ByteArray.size_data, ← Array.length_toList, hu1]
    unfold encS
    rw [List.length_map]
    exact encN_len.2
  have hsz : ((t ++ u).size : Int) ≤ 400000 := by rw [ByteArray.size_append]; omega
  have HB2 : Hid (Below base w (w1.alloc (.cells #[.int .i32 x] 21))) := Lib.hid (HB1.out.alloc hl1 _)
  have hdec := decode_any (t ++ u) hsz (w1.alloc (.cells #[.int .i32 x] 21)) (HT.out.belowAll (by rw [HBs.out]; exact HB2.out))
  obtain ⟨p, hp⟩ := heals_dec t.data.toList x
  have htu : (t ++ u).data.toList = t.data.toList ++ encS x := by simp [hu1]
  rw [htu, hp] at hdec
  have HDec := Lib.hid hdec
  have hpl : p.length ≤ 64 := by
    have h := dec_count (t.data.toList ++ encS x)
    rw [hp, List.length_append, List.length_append, List.length_singleton, ← hu1, show t.data.toList.length = t.size from rfl, show u.data.toList.length = u.size from rfl] at h
    omega
  clear hdec hp htu hu hu1 HEnc
  go_wp2_with fail
  refine HDec.out.mono ?_
  rintro e w3 ⟨a, c, rfl, hown, hb3⟩
  obtain ⟨a', c', hv, hin, hnil⟩ := toI_shape hown
  injection hv with hv1 _ hv2
  subst hv1 hv2
  have HB3 : Hid (Below base w w3) := Lib.hid (HB2.out.trans (hb3.mono (by simp; omega)))
  obtain ⟨n, hn⟩ : ∃ n, p.length = n := ⟨_, rfl⟩
  have hlen : (p ++ [fixI x]).length = n + 1 := by rw [List.length_append, hn]; rfl
  rw [hlen] at hin ⊢
  have hjl : n < (toI (p ++ [fixI x])).length := by rw [toI_len, hlen]; omega
  obtain ⟨b, off, rfl, _, hI⟩ := hin.2.resolve_left (by intro e; rw [e] at hjl; simp at hjl)
  have hc := hI n hjl
  have e : (toI (p ++ [fixI x])).getD n 0 = (fixI x : Int) := by
    subst hn
    simp [toI, List.getD_eq_getElem?_getD]
  rw [e] at hc
  have hfix : fixI x < 1114112 := by have := fixI_valid x; unfold validN at this; omega
  rw [hn] at hpl
  obtain ⟨F, hF⟩ : ∃ F, fixI x = F := ⟨_, rfl⟩
  rw [hF] at hc hfix
  have HF := Lib.hid hF
  clear hown hb3 hin hnil hlen hjl hI e hn hF HDec
  have hF2 : (F : Int) ≤ 2147483647 := by omega
  have d0 : decide ((0 : Int) < (n : Int) + 1) = true := by rw [decide_eq_true_eq]; omega
  have f1 := HF.out
  unfold fixI at f1
  by_cases h1 : x < 0
  · have f2 : (F : Int) = 65533 := by rw [if_pos (.inl h1)] at f1; rw [← f1]; rfl
    rw [f2] at hc
    clear f1 f2 hF2 hfix
    go_wp2
    go_ret
    exact ⟨rfl, HB3.out⟩
  by_cases h2 : 1114111 < x
  · have f2 : (F : Int) = 65533 := by rw [if_pos (.inr (.inl h2))] at f1; rw [← f1]; rfl
    rw [f2] at hc
    clear f1 f2 hF2 hfix
    go_wp2
    go_ret
    exact ⟨rfl, HB3.out⟩
  by_cases h3 : 55296 ≤ x
  · by_cases h4 : x ≤ 57343
    · have f2 : (F : Int) = 65533 := by rw [if_pos (.inr (.inr ⟨h3, h4⟩))] at f1; rw [← f1]; rfl
      rw [f2] at hc
      clear f1 f2 hF2 hfix
      go_wp2
      go_ret
      exact ⟨rfl, HB3.out⟩
    · have f2 : (F : Int) = x := by rw [if_neg (by omega)] at f1; rw [← f1]; omega
      rw [f2] at hc
      clear f1 f2 hF2 hfix
      go_wp2
      go_ret
      exact ⟨rfl, HB3.out⟩
  · have f2 : (F : Int) = x := by rw [if_neg (by omega)] at f1; rw [← f1]; omega
    rw [f2] at hc
    clear f1 f2 hF2 hfix
    go_wp2
    go_ret
    exact ⟨rfl, HB3.out⟩
end Go.Proofs.YtnjkgbnkfncjkaaDoor.Y
