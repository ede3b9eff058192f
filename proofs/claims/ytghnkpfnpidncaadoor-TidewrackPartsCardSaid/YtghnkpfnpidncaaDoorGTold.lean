/- GramTold: a datagram, of which a burst of at most 32 bits is turned, is none. No condition. -/
import Derived.Test.YtghnkpfnpidncaaDoorGBackM
import Derived.Test.YtghnkpfnpidncaaDoorGParse2
import Derived.Test.YtghnkpfnpidncaaDoorSTurn
import Derived.Test.YtghnkpfnpidncaaDoorSBurstMath
namespace Go.Proofs.YtghnkpfnpidncaaDoor.G
open Go.RowKit Go.Proofs.YtghnkpfnpidncaaDoor.I

/-- A text, cut. -/
def cutT (d : ByteArray) : ByteArray := ⟨(d.data.toList.take 200).toArray⟩
theorem cutT_list (d : ByteArray) : (cutT d).data.toList = d.data.toList.take 200 := by simp [cutT]
theorem cutT_size (d : ByteArray) : ((cutT d).size : Int) ≤ 200 := by
  have : (cutT d).size = (d.data.toList.take 200).length := by rw [← cutT_list]; rfl
  rw [this, List.length_take]
  omega
theorem isEmpty_of {s : ByteArray} (h : s.data.toList = []) : s.toList.isEmpty = true := by rw [ByteArray.toList_eq, h]; rfl
theorem isEmpty_no {s : ByteArray} (h : s.data.toList ≠ []) : s.toList.isEmpty = false := by
  rw [ByteArray.toList_eq]
  cases hl : s.data.toList with
  | nil => exact absurd hl h
  | cons _ _ => rfl

theorem turn_any' (s : ByteArray) (at_ : Int) (mask A K : Nat) (hs : (s.size : Int) ≤ 110000) (hm : mask < 4294967296) (hA : (A : Int) = min (max at_ 0) (8 * s.size)) (hK : (K : Int) = min 32 (8 * s.size - A)) (w : World) :
    Calls Tryd.prog 21 #[.string s, .int .i64 at_, .int .u32 mask] w fun e w' => (∃ u : ByteArray, e = .returned (.string u) ∧ u.data.toList = S.turnL s.data.toList A mask K) ∧ Below w.heap.size w w' := S.turn_any s at_ mask A K hs hm hA hK w
set_option maxRecDepth 100000 in
set_option maxHeartbeats 4000000 in
theorem told_walk (e k : Int) (a : Option Addr) (len cap : Nat) (d : ByteArray) (zs : List Int) (at_ : Int) (mask : Nat) (w : World) (hT : S.Tab w) (h : NumsIn a len zs w) (hlc : len ≤ cap) (hcap : (cap : Int) ≤ 9223372036854775807) (hd : (d.size : Int) ≤ 9223372036854775807) (hm : mask < 4294967296) :
    Calls Tryd.prog 5 #[gramV e k a len cap d, .int .i64 at_, .int .u32 mask] w fun en w' => en = .returned (.bool true) ∧ Below w.heap.size w w' := by
  obtain ⟨w1, hw1⟩ : ∃ w1, w.alloc (.cells #[.int .i64 e, .int .i64 k, .slice a len cap, .string d] 24) = w1 := ⟨_, rfl⟩
  have hb1 : Below w.heap.size w w1 := by rw [← hw1]; exact (Below.refl _ _).alloc (Nat.le_refl _) _
  have hbox : QBlk 24 w.heap.size (.int .i64 e) (.int .i64 k) (.slice a len cap) (.string d) w1 := by rw [← hw1]; exact World.alloc_heap_new _ _
  obtain ⟨B, hB⟩ : ∃ B, w.heap.size = B := ⟨_, rfl⟩
  have hT1 := S.tab_of hT hb1
  have HN : Hid (∀ u, Below w1.heap.size w1 u → NumsIn a len zs u) := Lib.hid fun u hu => (h.below hb1).below hu
  have HT1 := Lib.hid hT1
  have HB1 := Lib.hid hb1
  rw [hB] at hbox
  have HBox := Lib.hid hbox
  obtain ⟨M, hM⟩ : ∃ M, M = min len 66 := ⟨_, rfl⟩
  obtain ⟨ys, hys⟩ : ∃ ys, ys = zs.take 66 := ⟨_, rfl⟩
  obtain ⟨t, ht⟩ : ∃ t, cutT d = t := ⟨_, rfl⟩
  have hts : (t.size : Int) ≤ 200 := by rw [← ht]; exact cutT_size d
  have htl : t.data.toList = d.data.toList.take 200 := by rw [← ht]; exact cutT_list d
  have HOwn : Hid (∀ u, Below w1.heap.size w1 u → Calls Tryd.prog 10 #[gramV e k a len cap d] u fun en w' => ∃ a1 c1 a2 c2, en = .returned (.tuple #[gramV e k a1 M c1 t, gramV e k a2 M c2 t]) ∧ NumsAt a1 M ys w' ∧ NumsAt a2 M ys w' ∧ Below u.heap.size u w') := Lib.hid fun u hu => own_any e k a len cap M d t zs ys u (HN.out u hu) hlc hd hcap htl hM hys
  have HM : Hid (M ≤ 66) := Lib.hid (by omega)
  have HTs := Lib.hid hts
  have HMk := Lib.hid hm
  unfold gramV at *
  clear hT hb1 hbox hT1 h hlc hcap hd hts htl hM hys ht hm
  go_enter Tryd.func5, Tryd.ntmps5
  go_wp2_with fail
  refine (awake_any w1 HT1.out).mono ?_
  rintro en w2 ⟨rfl, hb2⟩
  have HOw := Lib.hid (HOwn.out w2 hb2)
  have hx2 := HBox.out.below hb2
  have c0 := hx2.c0
  have c1 := hx2.c1
  have c2 := hx2.c2
  have c3 := hx2.c3
  have HB2 := Lib.hid (below_step HB1.out hb2)
  have HT2 := Lib.hid (S.tab_of HT1.out hb2)
  clear hb2 hx2 hw1
  go_wp2_with fail
  refine HOw.out.mono ?_
  rintro en w3 ⟨a1, c1', a2, c2', rfl, hn1, hn2, hb3⟩
  obtain ⟨G, hG⟩ : ∃ G, w3.heap.size = G := ⟨_, rfl⟩
  obtain ⟨w3', hw3⟩ : ∃ w3', w3.alloc (.cells #[.int .i64 e, .int .i64 k, .slice a1 M c1', .string t] 26) = w3' := ⟨_, rfl⟩
  obtain ⟨w4, hw4⟩ : ∃ w4, w3'.alloc (.cells #[.int .i64 e, .int .i64 k, .slice a2 M c2', .string t] 24) = w4 := ⟨_, rfl⟩
  have hsz' : w3'.heap.size = G + 1 := by rw [← hw3, ← hG]; simp
  have hb3' : Below w3.heap.size w3 w3' := by rw [← hw3]; exact (Below.refl _ _).alloc (Nat.le_refl _) _
  have hb4 : Below w3.heap.size w3 w4 := by rw [← hw4]; exact hb3'.alloc hb3'.size _
  have g3 : QBlk 26 G (.int .i64 e) (.int .i64 k) (.slice a1 M c1') (.string t) w3' := by rw [← hw3, ← hG]; exact World.alloc_heap_new _ _
  have g4 : QBlk 26 G (.int .i64 e) (.int .i64 k) (.slice a1 M c1') (.string t) w4 := by rw [← hw4]; exact (Below.heap_alloc _ _ _ g3.lt).trans g3
  have y4 : QBlk 24 (G + 1) (.int .i64 e) (.int .i64 k) (.slice a2 M c2') (.string t) w4 := by rw [← hw4, ← hsz']; exact World.alloc_heap_new _ _
  have hB3 := below_step HB2.out hb3
  have hB4 : Below w.heap.size w w4 := hB3.trans (hb4.mono hB3.size)
  have hT4 := S.tab_of (S.tab_of HT2.out hb3) hb4
  have HPk := Lib.hid (pack_any e k a1 M c1' t ys w4 (hn1.below hb4) (by have := HTs.out; omega) hT4)
  have HN2 := Lib.hid (hn2.below hb4)
  have HY4 := Lib.hid y4
  have HB4 := Lib.hid hB4
  have HT4 := Lib.hid hT4
  have HMl : Hid ((M : Int) ≤ 1000000) := Lib.hid (by have := HM.out; omega)
  have c0 := g4.c0
  have c1 := g4.c1
  have c2 := g4.c2
  have c3 := g4.c3
  unfold gramV at *
  clear hn1 hn2 hb3 hb3' hb4 g3 g4 y4 hB3 hB4 hT4 hsz' HN HOwn HOw
  subst hw3
  go_wp2_with fail
  refine HPk.out.mono ?_
  rintro en w5 ⟨s, rfl, hsl, hb5⟩
  have y5 := HY4.out.below hb5
  have HN5 := Lib.hid (HN2.out.below hb5)
  have HC5 := Lib.hid (refcheck_any e k a2 M c2' t ys w5 HN5.out.numsIn HMl.out (by have := HTs.out; omega))
  have HB5 := Lib.hid (below_step HB4.out hb5)
  have HT5 := Lib.hid (S.tab_of HT4.out hb5)
  have HY5 := Lib.hid y5
  have HSl := Lib.hid hsl
  have c0 := y5.c0
  have c1 := y5.c1
  have c2 := y5.c2
  have c3 := y5.c3
  obtain ⟨R, hR⟩ : ∃ R, checkS e k ys t.size = R := ⟨_, rfl⟩
  rw [hR] at HC5
  have HR := Lib.hid hR
  unfold gramV at *
  clear hb5 y5 hsl hR hw4 HPk
  go_wp2_with fail
  refine HC5.out.mono ?_
  rintro en w6 ⟨rfl, hb6⟩
  have HB6 := Lib.hid (below_step HB5.out hb6)
  by_cases hR0 : R = 0
  · subst hR0
    have hpk := pack_ok HR.out
    have hck := check_ok HR.out
    have hs8 : (s.size : Int) ≤ 8192 := by
      have h1 : s.size = s.data.toList.length := rfl
      rw [h1, HSl.out, hpk, body_size]
      have := hck.2.2
      omega
    have hsealed : S.isSealed s.data.toList = true := by rw [HSl.out, hpk]; exact (sealed_of _).1
    obtain ⟨A, hA⟩ : ∃ A : Nat, (A : Int) = min (max at_ 0) (8 * s.size) := ⟨(min (max at_ 0) (8 * s.size)).toNat, by omega⟩
    obtain ⟨K, hK⟩ : ∃ K : Nat, (K : Int) = min 32 (8 * s.size - A) := ⟨(min 32 (8 * s.size - A) : Int).toNat, by omega⟩
    have hTn := turn_any' s at_ mask A K (by omega) HMk.out hA hK w6
    have hl8 : s.data.toList.length = s.size := rfl
    have htold := S.burst_told s.data.toList A mask K hsealed (by omega) (by omega)
    have HTn := Lib.hid hTn
    have HTold := Lib.hid htold
    have HS8 := Lib.hid hs8
    have HCk := Lib.hid hck
    have HT6 := Lib.hid (S.tab_of HT5.out hb6)
    have HY6 := Lib.hid (HY5.out.below hb6)
    have HN6 := Lib.hid (HN5.out.below hb6)
    clear hpk hck hs8 hsealed hA hK hTn hl8 htold hb6 c0 c1 c2 c3
    go_wp2_with fail
    refine HTn.out.mono ?_
    rintro en w7 ⟨⟨u, rfl, hul⟩, hb7⟩
    have HB7 := Lib.hid (below_step HB6.out hb7)
    have HT7 := Lib.hid (S.tab_of HT6.out hb7)
    have HY7 := Lib.hid (HY6.out.below hb7)
    have HN7 := Lib.hid (HN6.out.below hb7)
    have hus : (u.size : Int) ≤ 8192 := by
      have h1 : u.size = u.data.toList.length := rfl
      have h2 : s.data.toList.length = s.size := rfl
      rw [h1, hul, S.turnL_length]
      have := HS8.out
      omega
    by_cases heq : u.data.toList = s.data.toList
    · have hus : u = s := ByteArray.ext (Array.toList_inj.1 heq)
      subst hus
      have HPa := Lib.hid (parse_back e k ys t u w7 HT7.out HSl.out HR.out (by have := HTs.out; omega))
      clear hul hb7 heq HTn
      go_wp2_with fail
      refine HPa.out.mono ?_
      rintro en w8 ⟨a3, c3, d3, rfl, hd3, hn3, hb8⟩
      obtain ⟨L, hL⟩ : ∃ L, (List.map clipN ys).length = L := ⟨_, rfl⟩
      rw [hL] at hn3
      rw [hL]
      obtain ⟨v1, hv1⟩ : ∃ v1 : Nat, clipN e = v1 := ⟨_, rfl⟩
      obtain ⟨v2, hv2⟩ : ∃ v2 : Nat, clipN k = v2 := ⟨_, rfl⟩
      rw [hv1, hv2]
      obtain ⟨w9, hw9⟩ : ∃ w9, w8.alloc (.cells #[.int .i64 v1, .int .i64 v2, .slice a3 L c3, .string d3] 26) = w9 := ⟨_, rfl⟩
      have hb9 : Below w8.heap.size w8 w9 := by rw [← hw9]; exact (Below.refl _ _).alloc (Nat.le_refl _) _
      have hz9 : QBlk 26 w8.heap.size (.int .i64 v1) (.int .i64 v2) (.slice a3 L c3) (.string d3) w9 := by rw [← hw9]; exact World.alloc_heap_new _ _
      obtain ⟨H, hH⟩ : ∃ H, w8.heap.size = H := ⟨_, rfl⟩
      rw [hH] at hz9
      have hY9 := (HY7.out.below hb8).below hb9
      have HIs := Lib.hid (is_any v1 v2 e k a3 a2 L M c3 c2' ((ys.map clipN).map Int.ofNat) ys d3 t w9 (hn3.below hb9).numsIn ((HN7.out.below hb8).below hb9).numsIn (by rw [← hL, List.length_map]; have := (HCk.out).1.2.2.2.2; omega))
      have HB9 := Lib.hid (below_step (below_step HB7.out hb8) hb9)
      have hisb : isB v1 v2 ((ys.map clipN).map Int.ofNat) d3 e k ys t = true := by
        have hh := HCk.out.1
        unfold isB
        rw [clips_ok HCk.out.2.1, decide_eq_true (show (v1 : Int) = e by rw [← hv1]; have := hh.1; have := hh.2.1; unfold clipN top; omega), decide_eq_true (show (v2 : Int) = k by rw [← hv2]; have := hh.2.2.1; have := hh.2.2.2.1; unfold clipN top; omega), decide_eq_true rfl, decide_eq_true hd3]
        rfl
      rw [hisb] at HIs
      have c0 := hz9.c0
      have c1 := hz9.c1
      have c2 := hz9.c2
      have c3 := hz9.c3
      have k0 := hY9.c0
      have k1 := hY9.c1
      have k2 := hY9.c2
      have k3 := hY9.c3
      unfold gramV at *
      clear hd3 hn3 hb8 hb9 hz9 hY9 hL hv1 hv2 hisb hG hB HPa
      go_wp2_with fail
      refine HIs.out.mono ?_
      rintro en w10 ⟨rfl, hb10⟩
      have HB10 := Lib.hid (below_step HB9.out hb10)
      clear hb10 c0 c1 c2 c3 k0 k1 k2 k3 hw9 hH
      go_wp2
      go_ret
      exact ⟨rfl, HB10.out⟩
    · have hns : S.isSealed u.data.toList = false := by
        rw [hul, HTold.out]
        exact decide_eq_false (by rw [← hul]; exact heq)
      have HPa := Lib.hid (parse_sum u hus w7 HT7.out hns)
      have hne : (u.toList == s.toList) = false := by
        rw [beq_eq_false_iff_ne, ByteArray.toList_eq, ByteArray.toList_eq]
        exact heq
      have HNe := Lib.hid hne
      clear hul hb7 heq HTn hns hne hus
      go_wp2_with fail
      refine HPa.out.mono ?_
      rintro en w8 ⟨rfl, hb8⟩
      obtain ⟨w9, hw9⟩ : ∃ w9, w8.alloc (.cells #[.int .i64 0, .int .i64 0, .slice none 0 0, .string ⟨#[]⟩] 26) = w9 := ⟨_, rfl⟩
      have hb9 : Below w8.heap.size w8 w9 := by rw [← hw9]; exact (Below.refl _ _).alloc (Nat.le_refl _) _
      have hz9 : QBlk 26 w8.heap.size (.int .i64 0) (.int .i64 0) (.slice none 0 0) (.string ⟨#[]⟩) w9 := by rw [← hw9]; exact World.alloc_heap_new _ _
      obtain ⟨H, hH⟩ : ∃ H, w8.heap.size = H := ⟨_, rfl⟩
      rw [hH] at hz9
      have HIs := Lib.hid (is_any 0 0 0 0 none none 0 0 0 0 [] [] ⟨#[]⟩ ⟨#[]⟩ w9 ⟨rfl, .inl rfl⟩ ⟨rfl, .inl rfl⟩ (by decide))
      have HB9 := Lib.hid (below_step (below_step HB7.out hb8) hb9)
      have hisb : isB 0 0 [] ⟨#[]⟩ 0 0 [] ⟨#[]⟩ = true := by decide
      rw [hisb] at HIs
      have hne := HNe.out
      unfold gramV at *
      subst hw9
      clear hb8 hb9 hz9 hisb hG hB HPa
      go_wp2_with fail
      refine HIs.out.mono ?_
      rintro en w10 ⟨rfl, hb10⟩
      have HB10 := Lib.hid (below_step HB9.out hb10)
      clear hb10 hH hne
      go_wp2
      go_ret
      exact ⟨rfl, HB10.out⟩
  · have hne : ((R : Int) != 0) = true := by rw [bne_iff_ne]; omega
    have he : s.toList.isEmpty = true := isEmpty_of (HSl.out.trans (pack_no (by rw [HR.out]; exact hR0)))
    clear hR0 hb6 c0 c1 c2 c3 hG hB
    go_wp2
    go_ret
    exact ⟨rfl, HB6.out⟩
end Go.Proofs.YtghnkpfnpidncaaDoor.G
