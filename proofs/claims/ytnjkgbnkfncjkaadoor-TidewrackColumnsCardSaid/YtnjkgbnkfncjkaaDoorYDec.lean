/- GlyphDecodes: of any bytes there are just the document's runes: the walk. -/
import Derived.Test.YtnjkgbnkfncjkaaDoorYRunes
import Derived.Test.YtnjkgbnkfncjkaaDoorYAwake
namespace Go.Proofs.YtnjkgbnkfncjkaaDoor.Y
open Go.RowKit
open Go.Proofs.YtnjkgbnkfncjkaaDoor.W (OwnR OwnI RunesIn IntsIn isRune runes_one ints_one wpList_append_ints grownBy_of_below)

/-- Runes of our own, as they are read. -/
theorem toI_in {base : Nat} {a : Option Addr} {c : Nat} {l : List Nat} {w : World} (h : OwnI base (.slice a l.length c) (toI l) w) : IntsIn a l.length (toI l) w ∧ (a = none → c = 0) := by
  obtain ⟨a', c', hv, h1, _, h2, _⟩ := h.shape
  rw [toI_len] at hv h1
  injection hv with hv1 _ hv2
  subst hv1 hv2
  exact ⟨h1, h2⟩

set_option maxRecDepth 100000 in
set_option maxHeartbeats 8000000 in
theorem decodes_walk (s : ByteArray) (hs : (s.size : Int) ≤ 9223372036854775807) (w : World) (hT : Tab w) :
    Calls Tryd.prog 3 #[.string s] w fun e w' => e = .returned (.bool true) ∧ Below w.heap.size w w' := by
  have H1 := Lib.hid (awake_any w hT)
  have HS := Lib.hid hs
  obtain ⟨base, hbase⟩ : ∃ base, w.heap.size = base := ⟨_, rfl⟩
  have HTB : Hid (∀ w', Below base w w' → Tab w') := Lib.hid (fun w' h => hT.belowAll (by rw [hbase]; exact h))
  have HBs := Lib.hid hbase
  rw [hbase]
  clear hT hs hbase
  go_enter Tryd.func3, Tryd.ntmps3
  go_wp2_with fail
  refine H1.out.mono ?_
  rintro e w1 ⟨rfl, hb1⟩
  rw [HBs.out] at hb1
  have hl1 := hb1.size
  rw [HBs.out] at hl1
  have HB1 := Lib.hid hb1
  clear hb1 H1
  go_wp2_with fail
  refine (cut_any s 80 HS.out (by decide) _).mono ?_
  rintro e w' ⟨⟨t, rfl, hts, htl⟩, rfl⟩
  obtain ⟨L, hL⟩ : ∃ L, t.data.toList = L := ⟨_, rfl⟩
  have hLt : L.length = t.size := by rw [← hL]; rfl
  have hrun := run_any .zero zero_sound t (by omega) w1 (HTB.out w1 HB1.out)
  unfold RunPost at hrun
  have hsnd := run_sound L .zero zero_sound
  have hcnt := run_count L .zero
  rw [show opn .zero = 0 from rfl] at hcnt
  rw [hL] at hrun
  obtain ⟨⟨⟨ld, r, n⟩, q⟩, hx⟩ : ∃ x, runS .zero L = x := ⟨_, rfl⟩
  rw [hx] at hrun hsnd hcnt
  simp only at hsnd hcnt
  simp only [decV, St.zero] at hrun
  have HX := Lib.hid hx
  have HL := Lib.hid hL
  have HRun := Lib.hid hrun
  have HSnd := Lib.hid hsnd.1
  have HVal := Lib.hid hsnd.2
  have hq : q.length ≤ 80 := by omega
  clear hrun hsnd hcnt htl hx hL hLt
  go_wp2_with fail
  refine HRun.out.mono ?_
  rintro e w2 ⟨v', rfl, hown, hb2⟩
  obtain ⟨a, c, rfl, hin, hnil⟩ := toI_shape hown
  obtain ⟨w3, hw3⟩ : ∃ w3, w2.alloc (.cells #[.int .u8 (ld : Int), .int .i32 (r : Int), .int .i64 (n : Int)] 25) = w3 := ⟨_, rfl⟩
  have hb3 : Below w2.heap.size w2 w3 := by rw [← hw3]; exact (Below.refl _ _).alloc (Nat.le_refl _) _
  have hd3 : DBlk w2.heap.size (.int .u8 (ld : Int)) (.int .i32 (r : Int)) (.int .i64 (n : Int)) w3 := by rw [← hw3]; exact DBlk.new _ _ _ _
  have hb03 : Below base w w3 := (HB1.out.trans (hb2.mono hl1)).trans (hb3.mono (Nat.le_trans hl1 hb2.size))
  have hle3 : base ≤ w3.heap.size := Nat.le_trans hl1 (Nat.le_trans hb2.size hb3.size)
  have HB3 := Lib.hid hb03
  have HD3 := Lib.hid hd3
  have HIn3 := Lib.hid (hin.belowAll hb3)
  have HW3 := Lib.hid hw3
  have hall := runes_any t (by omega) w3
  rw [HL.out] at hall
  unfold AllPost at hall
  rw [HX.out] at hall
  simp only at hall
  have HAll := Lib.hid hall
  obtain ⟨db, hdb⟩ : ∃ db, w2.heap.size = db := ⟨_, rfl⟩
  have HDb := Lib.hid hdb
  rw [hdb] at HD3
  clear hown hin hnil hb2 hb3 hd3 hb03 hw3 hall HRun hdb
  go_upto_region 5 with fail
  rw [HW3.out, HDb.out]
  go_wp2_with fail
  refine HAll.out.mono ?_
  rintro e w4 ⟨a4, c4, K, rfl, hown4, hb4, hK⟩
  obtain ⟨hin4, hnil4⟩ := toI_in hown4
  have HB4 : Hid (Below base w w4) := Lib.hid (HB3.out.trans (hb4.mono hle3))
  have hle4 : base ≤ w4.heap.size := Nat.le_trans hle3 hb4.size
  have HD4 := Lib.hid (HD3.out.below hb4 HD3.out.lt)
  have HIn4 := Lib.hid (HIn3.out.belowAll hb4)
  have HI4 := Lib.hid hin4
  have HNil4 := Lib.hid hnil4
  have HK := Lib.hid hK
  obtain ⟨w5, hw5⟩ : ∃ w5, w4.alloc (.cells #[] 3) = w5 := ⟨_, rfl⟩
  have hb5 : Below w4.heap.size w4 w5 := by rw [← hw5]; exact (Below.refl _ _).alloc (Nat.le_refl _) _
  have ho5 : OwnI w4.heap.size (.slice (some ⟨w4.heap.size, 0, none⟩) 0 0) (toI []) w5 := by rw [← hw5]; exact World.ownsRow_lit w4 #[] 0 (Nat.le_refl _) (by decide) rfl
  have hle5 : w4.heap.size ≤ w5.heap.size := hb5.size
  have HB5 : Hid (Below base w w5) := Lib.hid (HB4.out.trans (hb5.mono hle4))
  have HO5 := Lib.hid ho5
  have HD5 := Lib.hid (HD4.out.below hb5 HD4.out.lt)
  have HIn5 := Lib.hid (HIn4.out.belowAll hb5)
  have HI5 := Lib.hid (HI4.out.belowAll hb5)
  have HW5 := Lib.hid hw5
  clear hown4 hb4 hK hin4 hnil4 hw5 hb5 ho5 HAll
  go_wp2_with (at_builtin; rw [HW5.out]; refine wpList_append_ints rfl _ _ rfl rfl w4.heap.size _ (toI []) a4 q.length c4 (toI q) rfl rfl HO5.out HI5.out HNil4.out (by simp [toI]) (by rw [toI_len]; omega) hle5 ?_)
  intro v6 w6 hown6 hgr6
  have ho6 : OwnI w4.heap.size v6 (toI q) w6 := by simpa [toI] using hown6
  have hb46 : Below w4.heap.size w4 w6 := (show Below w4.heap.size w4 w5 by rw [← HW5.out]; exact (Below.refl _ _).alloc (Nat.le_refl _) _).grown hgr6 hle5 (fun k hk => HO5.out.ownBlock k hk)
  have hle46 : w4.heap.size ≤ w6.heap.size := hb46.size
  have hle6 : base ≤ w6.heap.size := Nat.le_trans hle4 hle46
  have HB6 : Hid (Below base w w6) := Lib.hid (HB4.out.trans (hb46.mono hle4))
  have HD6 := Lib.hid (HD4.out.below hb46 HD4.out.lt)
  have HIn6 := Lib.hid (HIn4.out.belowAll hb46)
  have HI6 := Lib.hid (HI4.out.belowAll hb46)
  have HO6 := Lib.hid ho6
  have HDec : Hid (decS L = q ++ endS ⟨ld, r, n⟩) := Lib.hid (by unfold decS; rw [HX.out])
  have HQV : Hid (∀ i, i < (toI q).length → isRune ((toI q).getD i 0)) := Lib.hid (nat_rune HVal.out)
  have HB46 := Lib.hid hb46
  clear hown6 hgr6 ho6 hb46
  by_cases hK0 : K = 0
  · have hn0 : n = 0 := HK.out.1 hK0
    have hz : (⟨ld, r, n⟩ : St) = .zero := by
      rcases HSnd.out with h | h
      · exact h
      · exact absurd hn0 (by have := h.2.2.1; simp only at this; omega)
    have HZ := Lib.hid hz
    injection hz with hz1 hz2 hz3
    obtain ⟨a6, c6, rfl⟩ := own_shape HO6.out
    obtain ⟨hin6, _⟩ := toI_in HO6.out
    have HA6 := Lib.hid hin6
    have hd6 : DBlk db (.int .u8 0) (.int .i32 0) (.int .i64 0) w6 := by have h := HD6.out; rw [hz1, hz2, hz3] at h; exact h
    have HSame1 := Lib.hid (same_any a a4 q.length c q.length c4 (toI q) (toI q) (by rw [toI_len]; omega) HQV.out w6 HIn6.out HI6.out)
    rw [decide_eq_true (show toI q = toI q from rfl)] at HSame1
    have dK : decide (0 < K) = false := by rw [decide_eq_false_iff_not]; omega
    have HD6' := Lib.hid hd6
    have hdec := HDec.out
    rw [HZ.out, show endS St.zero = [] from rfl, List.append_nil] at hdec
    have HDec' := Lib.hid hdec
    clear hin6 hd6 hz1 hz2 hz3 hK0 hn0 hdec
    go_wp2_with fail
    refine HSame1.out.mono ?_
    rintro e w7 ⟨rfl, hb7⟩
    have hd7 := HD6'.out.below hb7 HD6'.out.lt
    have hle7 : base ≤ w7.heap.size := Nat.le_trans hle6 hb7.size
    have HB7 : Hid (Below base w w7) := Lib.hid (HB6.out.trans (hb7.mono hle6))
    have HA7 := Lib.hid (HA6.out.belowAll hb7)
    have hdc := decode_any t (by omega) w7 (HTB.out w7 HB7.out)
    rw [HL.out, HDec'.out] at hdc
    have HDc := Lib.hid hdc
    have HD7 := Lib.hid hd7
    have c0 := hd7.c0
    have c1 := hd7.c1
    have c2 := hd7.c2
    clear hb7 hd7 hdc HSame1
    go_wp2_with fail
    refine HDc.out.mono ?_
    rintro e w8 ⟨a8, c8, rfl, hown8, hb8⟩
    obtain ⟨a', c', hv, hin8, _⟩ := toI_shape hown8
    injection hv with hv1 _ hv2
    subst hv1 hv2
    have hle8 : base ≤ w8.heap.size := Nat.le_trans hle7 hb8.size
    have HB8 : Hid (Below base w w8) := Lib.hid (HB7.out.trans (hb8.mono hle7))
    have HSame2 := Lib.hid (same_any a8 a6 q.length c8 q.length c6 (toI q) (toI q) (by rw [toI_len]; omega) HQV.out w8 hin8 (HA7.out.belowAll hb8))
    rw [decide_eq_true (show toI q = toI q from rfl)] at HSame2
    have HD8 := Lib.hid (HD7.out.below hb8 HD7.out.lt)
    clear hown8 hb8 hin8 HDc c0 c1 c2
    go_wp2_with fail
    refine HSame2.out.mono ?_
    rintro e w9 ⟨rfl, hb9⟩
    have hd9 := HD8.out.below hb9 HD8.out.lt
    have hle9 : base ≤ w9.heap.size := Nat.le_trans hle8 hb9.size
    have HB9 : Hid (Below base w w9) := Lib.hid (HB8.out.trans (hb9.mono hle8))
    have hend := end_any .zero w9
    rw [show endS St.zero = [] from rfl] at hend
    unfold NewRunes at hend
    simp only [decV, St.zero, List.length_nil] at hend
    have HEnd := Lib.hid hend
    have c0 := hd9.c0
    have c1 := hd9.c1
    have c2 := hd9.c2
    clear hb9 hd9 hend HSame2
    go_wp2_with fail
    refine HEnd.out.mono ?_
    rintro e w10 ⟨a10, c10, rfl, _, hb10⟩
    have HB10 : Hid (Below base w w10) := Lib.hid (HB9.out.trans (hb10.mono hle9))
    clear hb10 c0 c1 c2 HEnd
    go_wp2
    go_ret
    exact ⟨rfl, HB10.out⟩
  · have hn0 : n ≠ 0 := fun h => hK0 (HK.out.2 h)
    have dK : decide (0 < K) = true := by rw [decide_eq_true_eq]; omega
    have dN : decide (0 < n) = true := by rw [decide_eq_true_eq]; omega
    have HDec' : Hid (decS L = q ++ [bad]) := Lib.hid (by rw [HDec.out]; unfold endS; rw [if_neg (by exact hn0)])
    have HEn : Hid (endS ⟨ld, r, n⟩ = [bad]) := Lib.hid (by unfold endS; rw [if_neg (by exact hn0)])
    clear hK0 hn0
    go_wp2_with (at_builtin; refine wpList_append_ints rfl _ _ rfl rfl w4.heap.size _ (toI q) (some ⟨w6.heap.size, 0, none⟩) 1 1 [65533] rfl rfl (HO6.out.alloc _) (ints_one w6 65533 _) (fun e => by cases e) (by rw [toI_len]; omega) (by simp) (by simp; omega) ?_)
    intro v7 w7 hown7 hgr7
    have hb67 : Below w4.heap.size w6 w7 := ((Below.refl w4.heap.size w6).alloc hle46 _).grown hgr7 (by simp; omega) (fun k hk => HO6.out.ownBlock k hk)
    have hb47 : Below w4.heap.size w4 w7 := HB46.out.trans hb67
    have ho7 : OwnI w4.heap.size v7 (toI (q ++ [bad])) w7 := by rw [toI_append]; exact hown7
    obtain ⟨a7, c7, rfl⟩ := own_shape ho7
    have hl7 : (q ++ [bad]).length = q.length + 1 := by rw [List.length_append]; rfl
    obtain ⟨hin7, _⟩ := toI_in ho7
    have hle47 : w4.heap.size ≤ w7.heap.size := hb47.size
    have hle7 : base ≤ w7.heap.size := Nat.le_trans hle4 hle47
    have HB7 : Hid (Below base w w7) := Lib.hid (HB4.out.trans (hb47.mono hle4))
    have HD7 := Lib.hid (HD4.out.below hb47 HD4.out.lt)
    have HIn7 := Lib.hid (HIn4.out.belowAll hb47)
    have HI7 := Lib.hid (HI4.out.belowAll hb47)
    have HA7 := Lib.hid hin7
    have HSame1 := Lib.hid (same_any a a4 q.length c q.length c4 (toI q) (toI q) (by rw [toI_len]; omega) HQV.out w7 HIn7.out HI7.out)
    rw [decide_eq_true (show toI q = toI q from rfl)] at HSame1
    have hqb : ∀ r ∈ q ++ [bad], validN r := by
      intro r hr
      rcases List.mem_append.1 hr with h | h
      · exact HVal.out r h
      · rw [List.mem_singleton.1 h]; exact bad_valid
    have HQB := Lib.hid (nat_rune hqb)
    rw [hl7]
    clear hown7 hgr7 hb67 hb47 ho7 hin7 hqb
    go_wp2_with fail
    refine HSame1.out.mono ?_
    rintro e w8 ⟨rfl, hb8⟩
    have hd8 := HD7.out.below hb8 HD7.out.lt
    have hle8 : base ≤ w8.heap.size := Nat.le_trans hle7 hb8.size
    have HB8 : Hid (Below base w w8) := Lib.hid (HB7.out.trans (hb8.mono hle7))
    have HA8 := Lib.hid (HA7.out.belowAll hb8)
    have hdc := decode_any t (by omega) w8 (HTB.out w8 HB8.out)
    rw [HL.out, HDec'.out] at hdc
    unfold NewRunes at hdc
    rw [hl7] at hdc
    have HDc := Lib.hid hdc
    have HL7 := Lib.hid hl7
    have HD8 := Lib.hid hd8
    have c0 := hd8.c0
    have c1 := hd8.c1
    have c2 := hd8.c2
    clear hb8 hd8 hdc HSame1 hl7
    go_wp2_with fail
    refine HDc.out.mono ?_
    rintro e w9 ⟨a9, c9, rfl, hown9, hb9⟩
    rw [← HL7.out] at hown9
    obtain ⟨a', c', hv, hin9, _⟩ := toI_shape hown9
    rw [HL7.out] at hv hin9
    injection hv with hv1 _ hv2
    subst hv1 hv2
    have hle9 : base ≤ w9.heap.size := Nat.le_trans hle8 hb9.size
    have HB9 : Hid (Below base w w9) := Lib.hid (HB8.out.trans (hb9.mono hle8))
    have ha9 := HA8.out.belowAll hb9
    rw [HL7.out] at ha9
    have HSame2 := Lib.hid (same_any a9 a7 (q.length + 1) c9 (q.length + 1) c7 (toI (q ++ [bad])) (toI (q ++ [bad])) (by rw [toI_len, HL7.out]; omega) HQB.out w9 hin9 ha9)
    rw [decide_eq_true (show toI (q ++ [bad]) = toI (q ++ [bad]) from rfl)] at HSame2
    have HD9 := Lib.hid (HD8.out.below hb9 HD8.out.lt)
    clear hown9 hb9 hin9 ha9 HDc c0 c1 c2
    go_wp2_with fail
    refine HSame2.out.mono ?_
    rintro e w10 ⟨rfl, hb10⟩
    have hd10 := HD9.out.below hb10 HD9.out.lt
    have hle10 : base ≤ w10.heap.size := Nat.le_trans hle9 hb10.size
    have HB10 : Hid (Below base w w10) := Lib.hid (HB9.out.trans (hb10.mono hle9))
    have hend := end_any ⟨ld, r, n⟩ w10
    rw [HEn.out] at hend
    unfold NewRunes at hend
    simp only [decV, List.length_cons, List.length_nil, Nat.reduceAdd] at hend
    have HEnd := Lib.hid hend
    have c0 := hd10.c0
    have c1 := hd10.c1
    have c2 := hd10.c2
    have hsub : (q.length : Int) + 1 - (q.length : Int) = 1 := by omega
    clear hb10 hd10 hend HSame2
    go_wp2_with fail
    refine HEnd.out.mono ?_
    rintro e w11 ⟨a11, c11, rfl, _, hb11⟩
    have HB11 : Hid (Below base w w11) := Lib.hid (HB10.out.trans (hb11.mono hle10))
    clear hb11 c0 c1 c2 HEnd
    go_wp2
    go_ret
    exact ⟨rfl, HB11.out⟩
end Go.Proofs.YtnjkgbnkfncjkaaDoor.Y
