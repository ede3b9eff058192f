/- The contract of Decoder's step: of any byte, upon runes of our own. -/
import Derived.Test.YtfapmgecebcfaaaDoorYBegin
import Derived.Deep.DeepCutAuto
namespace Go.Proofs.YtfapmgecebcfaaaDoor.Y
open Go.RowKit
open Go.Proofs.YtfapmgecebcfaaaDoor.W (OwnR RunesIn wpList_append_runes runes_one grownBy_of_below)

theorem opB_zero {d : St} (h : d.need = 0) : opB d = false := by unfold opB; rw [h]; rfl
theorem opB_one {d : St} (h : d.need ≠ 0) : opB d = true := by unfold opB; rw [decide_eq_true_eq]; omega

set_option maxRecDepth 100000 in
set_option maxHeartbeats 4000000 in
theorem step_any (d : St) (hd : Sound d) (b : Nat) (hb : b < 256) (base : Nat) (v : Value) (zs : List Int) (hz : (zs.length : Int) ≤ 999998) (w : World) (hT : Tab w) (hO : OwnR base v zs w) (hbase : base ≤ w.heap.size) (hb0 : 0 < base) :
    Calls Tryd.prog 35 #[decV d, .int .u8 (b : Int), v] w (StepPost base d b zs w) := by
  obtain ⟨db, hdb⟩ : ∃ db, w.heap.size = db := ⟨_, rfl⟩
  have hlr : d.lead < 256 ∧ d.rune < 32768 := by
    rcases hd with rfl | h
    · exact ⟨by decide, by decide⟩
    · exact ⟨(open_bounds h).2.2.2.1, (open_bounds h).1⟩
  have HSd := Lib.hid hd
  obtain ⟨ld, r, n⟩ := d
  obtain ⟨P, hP⟩ : ∃ P, StepPost base ⟨ld, r, n⟩ b zs w = P := ⟨_, rfl⟩
  rw [hP]
  have HPost := Lib.hid hP
  obtain ⟨w1, hw1⟩ : ∃ w1, (w.alloc (.cells #[.int .u8 (ld : Int), .int .i32 (r : Int), .int .i64 (n : Int)] 26)).alloc (.cells #[.int .u8 0, .int .i32 0, .int .i64 0] 26) = w1 := ⟨_, rfl⟩
  have hb1 : Below db w w1 := by rw [← hw1, ← hdb]; exact ((Below.refl _ _).alloc (Nat.le_refl _) _).alloc (by simp) _
  have hd1 : DBlk db (.int .u8 (ld : Int)) (.int .i32 (r : Int)) (.int .i64 (n : Int)) w1 := by rw [← hw1, ← hdb]; exact (DBlk.new _ _ _ _).alloc _
  have hr1 : DBlk (db + 1) (.int .u8 0) (.int .i32 0) (.int .i64 0) w1 := by
    have h := DBlk.new (w.alloc (.cells #[.int .u8 (ld : Int), .int .i32 (r : Int), .int .i64 (n : Int)] 26)) (.int .u8 0) (.int .i32 0) (.int .i64 0)
    rw [World.size_alloc, hdb, hw1] at h
    exact h
  have hO1 := hO.belowAll (by rw [hdb]; exact hb1)
  have HK1 : Hid (KeepD w w1) := Lib.hid (KeepD.of_below (by rw [hdb]; exact hb1))
  have HTB : Hid (∀ w', Below db w w' → Tab w') := Lib.hid (fun w' h => hT.belowAll (by rw [hdb]; exact h))
  have HTBase : Hid (∀ w', Below base w w' → Tab w') := Lib.hid (fun w' h => hT.below h hb0)
  have HB1 := Lib.hid hb1
  have HD1 := Lib.hid hd1
  have HR1 := Lib.hid hr1
  have HO1 := Lib.hid hO1
  have HW1 := Lib.hid hw1
  have HDb := Lib.hid hdb
  have c0 := hd1.c0
  have c1 := hd1.c1
  have c2 := hd1.c2
  rw [hdb] at hbase
  clear hb1 hd1 hr1 hO1 hw1 hdb hT hO hP hd
  have HOp := Lib.hid (open_any ⟨ld, r, n⟩ w1)
  unfold decV at HOp
  simp only at HOp hlr
  unfold decV
  simp only
  go_enter Tryd.func35, Tryd.ntmps35
  go_upto_region 1 with fail
  rw [HW1.out, HDb.out]
  go_wp2_with fail
  refine HOp.out.mono ?_
  rintro e w2 ⟨rfl, hb2⟩
  have hs1 : db + 1 < w1.heap.size := HR1.out.lt
  have HB2 : Hid (Below db w w2) := Lib.hid (HB1.out.trans (hb2.mono (by omega)))
  have hs2 : db + 1 < w2.heap.size := Nat.lt_of_lt_of_le hs1 hb2.size
  have HD2 := Lib.hid (HD1.out.below hb2 HD1.out.lt)
  have HR2 := Lib.hid (HR1.out.below hb2 HR1.out.lt)
  have HO2 := Lib.hid (HO1.out.belowAll hb2)
  have HK2 : Hid (KeepD w w2) := Lib.hid (HK1.out.trans (KeepD.of_below hb2))
  have HT2 := Lib.hid (HTB.out w2 HB2.out)
  have hwd : w.heap.size ≤ db + 1 := by have := HDb.out; omega
  have HWd := Lib.hid hwd
  clear hb2 HOp hwd c0 c1 c2
  by_cases hn : n = 0
  · have ho : opB ⟨ld, r, n⟩ = false := opB_zero hn
    rw [ho]
    have HSt : Hid (stepS ⟨ld, r, n⟩ b = beginS b) := Lib.hid (by unfold stepS; rw [if_pos hn])
    have HBg := Lib.hid (begin_any b hb base v zs (by omega) w2 HT2.out HO2.out (by omega))
    clear ho
    go_wp2_with fail
    refine HBg.out.mono ?_
    rintro e w3 ⟨v', rfl, hleft⟩
    have hr3 := hleft.keep _ _ _ _ HR2.out
    have HL3 := Lib.hid hleft
    obtain ⟨⟨⟨l3, r3, n3⟩, q3⟩, hbg⟩ : ∃ x, beginS b = x := ⟨_, rfl⟩
    rw [hbg] at HL3 HSt ⊢
    simp only [decV]
    have c0 := hr3.c0
    have c1 := hr3.c1
    have c2 := hr3.c2
    have f0 := hr3.fr 0
    have f1 := hr3.fr 1
    have f2 := hr3.fr 2
    have HR3 := Lib.hid hr3
    clear hleft hr3 hbg
    go_wp2
    refine bodyPost_ret (v := .tuple #[decV ⟨l3, r3, n3⟩, v']) (by rw [results_cell_tmp rfl]; go_simp; rfl) rfl ?_
    rw [← HPost.out]
    unfold StepPost
    rw [HSt.out]
    exact ⟨v', rfl, ⟨own_set3 HL3.out.own HR3.out, below_set3 ((HB2.out.mono hbase).trans HL3.out.below) (by omega), (HK2.out.trans HL3.out.keep).set3 HWd.out _ _ _⟩⟩
  · have ho : opB ⟨ld, r, n⟩ = true := opB_one hn
    rw [ho]
    have hopen : Open ⟨ld, r, n⟩ := HSd.out.resolve_left (by intro e; injection e with _ _ e; exact hn e)
    have hmy := may_any ⟨ld, r, n⟩ hlr.1 b (by omega) w2 HT2.out
    obtain ⟨m, hm⟩ : ∃ m, mayS ⟨ld, r, n⟩ b = m := ⟨_, rfl⟩
    rw [hm] at hmy
    unfold decV at hmy
    simp only at hmy
    have HMy := Lib.hid hmy
    have HM := Lib.hid hm
    have HOpen := Lib.hid hopen
    have c0 := HD2.out.c0
    have c1 := HD2.out.c1
    have c2 := HD2.out.c2
    have HN := Lib.hid hn
    clear ho hmy hm hopen hn
    go_wp2_with fail
    refine HMy.out.mono ?_
    rintro e w3 ⟨rfl, hb3⟩
    have HB3 : Hid (Below db w w3) := Lib.hid (HB2.out.trans (hb3.mono (by omega)))
    have hs3 : db + 1 < w3.heap.size := Nat.lt_of_lt_of_le hs2 hb3.size
    have HD3 := Lib.hid (HD2.out.below hb3 HD2.out.lt)
    have HR3 := Lib.hid (HR2.out.below hb3 HR2.out.lt)
    have HO3 := Lib.hid (HO2.out.belowAll hb3)
    have HK3 : Hid (KeepD w w3) := Lib.hid (HK2.out.trans (KeepD.of_below hb3))
    clear hb3 HMy c0 c1 c2
    cases hmm : m with
    | false =>
      have HSt : Hid (stepS ⟨ld, r, n⟩ b = ((beginS b).1, bad :: (beginS b).2)) := Lib.hid (by unfold stepS; rw [if_neg HN.out, HM.out, hmm]; rfl)
      clear hmm
      obtain ⟨w4, hw4⟩ : ∃ w4, w3.alloc (.cells #[.int .i32 65533] 21) = w4 := ⟨_, rfl⟩
      have hb34 : Below w3.heap.size w3 w4 := by rw [← hw4]; exact (Below.refl _ _).alloc (Nat.le_refl _) _
      have hs4 : db + 1 < w4.heap.size := Nat.lt_of_lt_of_le hs3 hb34.size
      have HR4 := Lib.hid (HR3.out.below hb34 HR3.out.lt)
      have HO4 := Lib.hid (HO3.out.belowAll hb34)
      have HB4 : Hid (Below db w w4) := Lib.hid (HB3.out.trans (hb34.mono (by omega)))
      have HK4 : Hid (KeepD w w4) := Lib.hid (HK3.out.trans (KeepD.of_below hb34))
      have hone := runes_one w3 65533 21
      rw [hw4] at hone
      have HOne := Lib.hid hone
      have HW4 := Lib.hid hw4
      clear hb34 hw4 hone
      go_wp2_with (at_builtin; rw [HW4.out]; refine wpList_append_runes rfl _ _ rfl rfl base v zs (some ⟨w3.heap.size, 0, none⟩) 1 1 [65533] rfl rfl HO4.out HOne.out (fun e => by cases e) (by omega) (by simp) (by omega) ?_)
      intro v' w5 hown hgr
      have HR5 := Lib.hid (HR4.out.grown hgr (own_ne HO4.out HR4.out).symm)
      have HB5 : Hid (Below base w w5) := Lib.hid ((HB4.out.mono hbase).grown hgr (by omega) (fun q hq => HO4.out.ownBlock q hq))
      have HK5 : Hid (KeepD w w5) := Lib.hid (HK4.out.trans (KeepD.grown HO4.out hgr))
      have hT5 : Tab w5 := HTBase.out w5 HB5.out
      have hs5 : w4.heap.size ≤ w5.heap.size := hgr.size
      have HBg := Lib.hid (begin_any b hb base v' (zs ++ [65533]) (by simp; omega) w5 hT5 hown (by omega))
      clear hown hgr hT5
      go_wp2_with fail
      refine HBg.out.mono ?_
      rintro e w6 ⟨v'', rfl, hleft⟩
      have hr3 := hleft.keep _ _ _ _ HR5.out
      have HL3 := Lib.hid hleft
      obtain ⟨⟨⟨l3, r3, n3⟩, q3⟩, hbg⟩ : ∃ x, beginS b = x := ⟨_, rfl⟩
      rw [hbg] at HL3 HSt ⊢
      simp only [decV]
      have c0 := hr3.c0
      have c1 := hr3.c1
      have c2 := hr3.c2
      have f0 := hr3.fr 0
      have f1 := hr3.fr 1
      have f2 := hr3.fr 2
      have HR6 := Lib.hid hr3
      clear hleft hr3 hbg
      go_wp2
      refine bodyPost_ret (v := .tuple #[decV ⟨l3, r3, n3⟩, v'']) (by rw [results_cell_tmp rfl]; go_simp; rfl) rfl ?_
      rw [← HPost.out]
      unfold StepPost
      rw [HSt.out]
      refine ⟨v'', rfl, ⟨?_, below_set3 (HB5.out.trans HL3.out.below) (by omega), (HK5.out.trans HL3.out.keep).set3 HWd.out _ _ _⟩⟩
      have h := HL3.out.own
      rw [List.append_assoc] at h
      exact own_set3 h HR6.out
    | true =>
      obtain ⟨r', hr'⟩ : ∃ r' : Nat, (r : Int) * 64 + (b : Int) % 64 = (r' : Int) := ⟨r * 64 + b % 64, by omega⟩
      have hn1 : 1 ≤ (n : Int) := by have := (open_bounds HOpen.out).2.1; simp only at this; omega
      have hn3 : (n : Int) ≤ 3 := by have := (open_bounds HOpen.out).2.2.1; simp only at this; omega
      obtain ⟨n', hn'⟩ : ∃ n' : Nat, (n : Int) - 1 = (n' : Int) := ⟨n - 1, by omega⟩
      have HSt : Hid (stepS ⟨ld, r, n⟩ b = if n' = 0 then (.zero, [r']) else (⟨ld, r', n'⟩, [])) := Lib.hid (by
        rw [stepS_go HN.out (by rw [HM.out, hmm])]
        unfold goS
        have e1 : r * 64 + b % 64 = r' := by omega
        have e2 : n - 1 = n' := by omega
        simp only [e1, e2]
        by_cases h0 : n' = 0
        · rw [if_pos h0, if_pos (by omega)]
        · rw [if_neg h0, if_neg (by omega)])
      have hr'2 : (r' : Int) < 2147483648 := by omega
      obtain ⟨w4, hw4⟩ : ∃ w4, (w3.setCell ⟨db, 1, none⟩ (.int .i32 (r' : Int))).setCell ⟨db, 2, none⟩ (.int .i64 (n' : Int)) = w4 := ⟨_, rfl⟩
      have hd4 : DBlk db (.int .u8 (ld : Int)) (.int .i32 (r' : Int)) (.int .i64 (n' : Int)) w4 := by rw [← hw4]; exact (HD3.out.set1 _).set2 _
      have HR4 : Hid (DBlk (db + 1) (.int .u8 0) (.int .i32 0) (.int .i64 0) w4) := Lib.hid (by rw [← hw4]; exact (HR3.out.other (by omega) _).other (by omega) _)
      have HO4 : Hid (OwnR base v zs w4) := Lib.hid (by rw [← hw4]; exact own_set (own_set HO3.out (own_ne HO3.out HD3.out)) (own_ne HO3.out HD3.out))
      have HB4 : Hid (Below db w w4) := Lib.hid (by rw [← hw4]; exact (HB3.out.setCell (p := ⟨db, 1, none⟩) (Nat.le_refl _) _).setCell (p := ⟨db, 2, none⟩) (Nat.le_refl _) _)
      have HK4 : Hid (KeepD w w4) := Lib.hid (fun p x y z hp => by
        have hne : p ≠ db := by have := hp.lt; have := HDb.out; omega
        rw [← hw4]
        exact ((HK3.out p x y z hp).other hne _).other hne _)
      have hs4 : db + 1 < w4.heap.size := HR4.out.lt
      have hop := open_any ⟨ld, r', n'⟩ w4
      unfold decV at hop
      simp only at hop
      have HOp := Lib.hid hop
      have HD4 := Lib.hid hd4
      have HW4 := Lib.hid hw4
      have c0 := HD3.out.c0
      have c1 := HD3.out.c1
      have c2 := HD3.out.c2
      have f0 := HD3.out.fr 0
      have f1 := HD3.out.fr 1
      have f2 := HD3.out.fr 2
      clear hmm hop hd4 hw4
      go_wp2_with fail
      rw [HW4.out]
      refine HOp.out.mono ?_
      rintro e w5 ⟨rfl, hb5⟩
      have HB5 : Hid (Below db w w5) := Lib.hid (HB4.out.trans (hb5.mono (by omega)))
      have hs5 : db + 1 < w5.heap.size := Nat.lt_of_lt_of_le hs4 hb5.size
      have hd5 := HD4.out.below hb5 HD4.out.lt
      have hr5 := HR4.out.below hb5 HR4.out.lt
      have HO5 := Lib.hid (HO4.out.belowAll hb5)
      have HK5 : Hid (KeepD w w5) := Lib.hid (HK4.out.trans (KeepD.of_below hb5))
      clear hb5 HOp c0 c1 c2 f0 f1 f2
      by_cases h0 : n' = 0
      · rw [opB_zero h0]
        have HSt2 : Hid (stepS ⟨ld, r, n⟩ b = (.zero, [r'])) := Lib.hid (by rw [HSt.out, if_pos h0])
        obtain ⟨w6, hw6⟩ : ∃ w6, w5.alloc (.cells #[.int .i32 (r' : Int)] 21) = w6 := ⟨_, rfl⟩
        have hb56 : Below w5.heap.size w5 w6 := by rw [← hw6]; exact (Below.refl _ _).alloc (Nat.le_refl _) _
        have HR6 := Lib.hid (hr5.below hb56 hr5.lt)
        have HO6 := Lib.hid (HO5.out.belowAll hb56)
        have HB6 : Hid (Below db w w6) := Lib.hid (HB5.out.trans (hb56.mono (by omega)))
        have HK6 : Hid (KeepD w w6) := Lib.hid (HK5.out.trans (KeepD.of_below hb56))
        have hs6 : db + 1 < w6.heap.size := Nat.lt_of_lt_of_le hs5 hb56.size
        have hone := runes_one w5 (r' : Int) 21
        rw [hw6] at hone
        have HOne := Lib.hid hone
        have HW6 := Lib.hid hw6
        have c1 := hd5.c1
        clear hb56 hw6 hone hd5 hr5 h0
        go_wp2_with (at_builtin; rw [HW6.out]; refine wpList_append_runes rfl _ _ rfl rfl base v zs (some ⟨w5.heap.size, 0, none⟩) 1 1 [(r' : Int)] rfl rfl HO6.out HOne.out (fun e => by cases e) (by omega) (by simp) (by omega) ?_)
        intro v' w7 hown hgr
        have hr7 := HR6.out.grown hgr (own_ne HO6.out HR6.out).symm
        have HB7 : Hid (Below base w w7) := Lib.hid ((HB6.out.mono hbase).grown hgr (by omega) (fun q hq => HO6.out.ownBlock q hq))
        have HK7 : Hid (KeepD w w7) := Lib.hid (HK6.out.trans (KeepD.grown HO6.out hgr))
        have HO7 := Lib.hid hown
        have k0 := hr7.c0
        have k1 := hr7.c1
        have k2 := hr7.c2
        have f0 := hr7.fr 0
        have f1 := hr7.fr 1
        have f2 := hr7.fr 2
        have HR7 := Lib.hid hr7
        clear hgr hown hr7 c1
        go_wp2
        refine bodyPost_ret (v := .tuple #[decV .zero, v']) (by rw [results_cell_tmp rfl]; go_simp; rfl) rfl ?_
        rw [← HPost.out]
        unfold StepPost
        rw [HSt2.out]
        exact ⟨v', rfl, ⟨own_set3 HO7.out HR7.out, below_set3 HB7.out (by omega), HK7.out.set3 HWd.out _ _ _⟩⟩
      · rw [opB_one h0]
        have HSt2 : Hid (stepS ⟨ld, r, n⟩ b = (⟨ld, r', n'⟩, [])) := Lib.hid (by rw [HSt.out, if_neg h0])
        have c0 := hd5.c0
        have c1 := hd5.c1
        have c2 := hd5.c2
        have k0 := hr5.c0
        have k1 := hr5.c1
        have k2 := hr5.c2
        have f0 := hr5.fr 0
        have f1 := hr5.fr 1
        have f2 := hr5.fr 2
        have HR5 := Lib.hid hr5
        clear hd5 hr5 h0
        go_wp2
        refine bodyPost_ret (v := .tuple #[decV ⟨ld, r', n'⟩, v]) (by rw [results_cell_tmp rfl]; go_simp; rfl) rfl ?_
        rw [← HPost.out]
        unfold StepPost
        rw [HSt2.out]
        refine ⟨v, rfl, ⟨?_, below_set3 (HB5.out.mono hbase) (by omega), HK5.out.set3 HWd.out _ _ _⟩⟩
        show OwnR base v (zs ++ []) _
        rw [List.append_nil]
        exact own_set3 HO5.out HR5.out
end Go.Proofs.YtfapmgecebcfaaaDoor.Y
