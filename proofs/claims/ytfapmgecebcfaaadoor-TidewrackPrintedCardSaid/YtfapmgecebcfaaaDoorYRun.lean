/- The contracts of Decoder's Next, Run and End, and of Decode. -/
import Derived.Test.YtfapmgecebcfaaaDoorYStepW
import Derived.Deep.RegionWith
namespace Go.Proofs.YtfapmgecebcfaaaDoor.Y
open Go.RowKit
open Go.Proofs.YtfapmgecebcfaaaDoor.W (OwnR RunesIn wpList_append_runes runes_one grownBy_of_below)

def RunPost (d' : St) (told : List Nat) (w : World) (e : Ending) (w' : World) : Prop := ∃ v', e = .returned (.tuple #[decV d', v']) ∧ OwnR w.heap.size v' (toI told) w' ∧ Below w.heap.size w w'

set_option maxRecDepth 100000 in
set_option maxHeartbeats 4000000 in
theorem next_any (d : St) (hd : Sound d) (b : Nat) (hb : b < 256) (w : World) (hT : Tab w) :
    Calls Tryd.prog 42 #[decV d, .int .u8 (b : Int)] w (RunPost (stepS d b).1 (stepS d b).2 w) := by
  obtain ⟨db, hdb⟩ : ∃ db, w.heap.size = db := ⟨_, rfl⟩
  have hpos : 0 < db := by rw [← hdb]; exact hT.pos
  have HSd := Lib.hid hd
  obtain ⟨ld, r, n⟩ := d
  obtain ⟨P, hP⟩ : ∃ P, RunPost (stepS ⟨ld, r, n⟩ b).1 (stepS ⟨ld, r, n⟩ b).2 w = P := ⟨_, rfl⟩
  rw [hP]
  have HPost := Lib.hid hP
  obtain ⟨w1, hw1⟩ : ∃ w1, (w.alloc (.cells #[.int .u8 (ld : Int), .int .i32 (r : Int), .int .i64 (n : Int)] 26)).alloc (.cells #[.int .u8 0, .int .i32 0, .int .i64 0] 26) = w1 := ⟨_, rfl⟩
  have hb1 : Below db w w1 := by rw [← hw1, ← hdb]; exact ((Below.refl _ _).alloc (Nat.le_refl _) _).alloc (by simp) _
  have hd1 : DBlk db (.int .u8 (ld : Int)) (.int .i32 (r : Int)) (.int .i64 (n : Int)) w1 := by rw [← hw1, ← hdb]; exact (DBlk.new _ _ _ _).alloc _
  have hr1 : DBlk (db + 1) (.int .u8 0) (.int .i32 0) (.int .i64 0) w1 := by
    have h := DBlk.new (w.alloc (.cells #[.int .u8 (ld : Int), .int .i32 (r : Int), .int .i64 (n : Int)] 26)) (.int .u8 0) (.int .i32 0) (.int .i64 0)
    rw [World.size_alloc, hdb, hw1] at h
    exact h
  have hs1 : db + 1 < w1.heap.size := hr1.lt
  have HSt := Lib.hid (step_any ⟨ld, r, n⟩ hd b hb db (.slice none 0 0) [] (by decide) w1 (hT.belowAll (by rw [hdb]; exact hb1)) (OwnR.nil _ _) (by omega) hpos)
  have HB1 := Lib.hid hb1
  have HR1 := Lib.hid hr1
  have HW1 := Lib.hid hw1
  have HDb := Lib.hid hdb
  have c0 := hd1.c0
  have c1 := hd1.c1
  have c2 := hd1.c2
  obtain ⟨⟨⟨l3, r3, n3⟩, q3⟩, hst⟩ : ∃ x, stepS ⟨ld, r, n⟩ b = x := ⟨_, rfl⟩
  unfold StepPost at HSt
  rw [hst] at HSt HPost
  simp only [decV] at HSt
  clear hb1 hd1 hr1 hw1 hdb hT hP hd hst
  unfold decV
  simp only
  go_enter Tryd.func42, Tryd.ntmps42
  go_upto_region 1 with fail
  rw [HW1.out, HDb.out]
  go_wp2_with fail
  refine HSt.out.mono ?_
  rintro e w2 ⟨v', rfl, hleft⟩
  have hr2 := hleft.keep _ _ _ _ HR1.out
  have k0 := hr2.c0
  have k1 := hr2.c1
  have k2 := hr2.c2
  have f0 := hr2.fr 0
  have f1 := hr2.fr 1
  have f2 := hr2.fr 2
  have HR2 := Lib.hid hr2
  have HL := Lib.hid hleft
  clear hr2 hleft c0 c1 c2 HSt
  go_wp2
  refine bodyPost_ret (v := .tuple #[decV ⟨l3, r3, n3⟩, v']) (by rw [results_cell_tmp rfl]; go_simp; rfl) rfl ?_
  rw [← HPost.out]
  unfold RunPost
  rw [HDb.out]
  exact ⟨v', rfl, own_set3 HL.out.own HR2.out, below_set3 (HB1.out.trans HL.out.below) (by omega)⟩

set_option maxRecDepth 100000 in
set_option maxHeartbeats 4000000 in
theorem run_any (d : St) (hd : Sound d) (s : ByteArray) (hs : (s.size : Int) ≤ 400000) (w : World) (hT : Tab w) :
    Calls Tryd.prog 26 #[decV d, .string s] w (RunPost (runS d s.data.toList).1 (runS d s.data.toList).2 w) := by
  obtain ⟨db, hdb⟩ : ∃ db, w.heap.size = db := ⟨_, rfl⟩
  have hpos : 0 < db := by rw [← hdb]; exact hT.pos
  obtain ⟨P, hP⟩ : ∃ P, RunPost (runS d s.data.toList).1 (runS d s.data.toList).2 w = P := ⟨_, rfl⟩
  rw [hP]
  have HPost := Lib.hid hP
  obtain ⟨w1, hw1⟩ : ∃ w1, (w.alloc (.cells #[.int .u8 (d.lead : Int), .int .i32 (d.rune : Int), .int .i64 (d.need : Int)] 26)).alloc (.cells #[.int .u8 0, .int .i32 0, .int .i64 0] 26) = w1 := ⟨_, rfl⟩
  have hb1 : Below db w w1 := by rw [← hw1, ← hdb]; exact ((Below.refl _ _).alloc (Nat.le_refl _) _).alloc (by simp) _
  have hd1 : DBlk db (.int .u8 (d.lead : Int)) (.int .i32 (d.rune : Int)) (.int .i64 (d.need : Int)) w1 := by rw [← hw1, ← hdb]; exact (DBlk.new _ _ _ _).alloc _
  have hr1 : DBlk (db + 1) (.int .u8 0) (.int .i32 0) (.int .i64 0) w1 := by
    have h := DBlk.new (w.alloc (.cells #[.int .u8 (d.lead : Int), .int .i32 (d.rune : Int), .int .i64 (d.need : Int)] 26)) (.int .u8 0) (.int .i32 0) (.int .i64 0)
    rw [World.size_alloc, hdb, hw1] at h
    exact h
  have hs1 : db + 1 < w1.heap.size := hr1.lt
  have HB1 := Lib.hid hb1
  have HD1 := Lib.hid hd1
  have HR1 := Lib.hid hr1
  have HW1 := Lib.hid hw1
  have HDb := Lib.hid hdb
  have HTB : Hid (∀ w', Below db w w' → Tab w') := Lib.hid (fun w' h => hT.belowAll (by rw [hdb]; exact h))
  have HSd := Lib.hid hd
  clear hb1 hd1 hr1 hw1 hdb hT hP hd
  unfold decV
  go_enter Tryd.func26, Tryd.ntmps26
  go_upto_region 2 with fail
  rw [HW1.out, HDb.out]
  go_wp2_with fail
  go_loopw [6, 10] (fun v i wr => ∃ j : Nat, i = .int .i64 (j : Int) ∧ j ≤ s.size ∧ db + 1 < wr.heap.size ∧ Hid (Below db w wr ∧ OwnR db v (toI (runS d (s.data.toList.take j)).2) wr ∧ DBlk db (.int .u8 ((runS d (s.data.toList.take j)).1.lead : Int)) (.int .i32 ((runS d (s.data.toList.take j)).1.rune : Int)) (.int .i64 ((runS d (s.data.toList.take j)).1.need : Int)) wr ∧ DBlk (db + 1) (.int .u8 0) (.int .i32 0) (.int .i64 0) wr)) (fun _ i _ => s.size - (intOf i).toNat)
  case atStart => exact ⟨0, rfl, by omega, hs1, Lib.hid ⟨HB1.out, OwnR.nil _ _, HD1.out, HR1.out⟩⟩
  case round =>
    rename_i wr
    obtain ⟨j, rfl, hj, hsz, HF⟩ := hrel
    by_cases hlt : j < s.size
    · have hts : s.data.toList.take (j + 1) = s.data.toList.take j ++ [s[j]] := by
        rw [List.take_succ_eq_append_getElem (by simpa using hlt)]; rfl
      have hsn := runS_snoc (s.data.toList.take j) s[j] d
      rw [← hts] at hsn
      have hcount := run_count (s.data.toList.take j) d
      have hop := opn_le d
      have hso := (run_sound (s.data.toList.take j) d HSd.out).1
      have htl : (s.data.toList.take j).length ≤ j := List.length_take_le _ _
      obtain ⟨hB, hO, hD, hR⟩ := HF.out
      obtain ⟨⟨⟨l, r, n⟩, q⟩, hx⟩ : ∃ x, runS d (s.data.toList.take j) = x := ⟨_, rfl⟩
      rw [hx] at hsn hcount hso hO hD
      simp only at hsn hcount hso hO hD
      have hst := step_any ⟨l, r, n⟩ hso s[j].toNat s[j].toNat_lt db _ (toI q) (by rw [toI_len]; omega) wr.drew (HTB.out wr.drew hB.drew) hO (show db ≤ wr.heap.size by omega) hpos
      unfold StepPost at hst
      obtain ⟨⟨⟨l3, r3, n3⟩, q3⟩, hst3⟩ : ∃ x, stepS ⟨l, r, n⟩ s[j].toNat = x := ⟨_, rfl⟩
      rw [hst3] at hst hsn
      simp only [decV] at hst hsn
      have HSt := Lib.hid hst
      have HSn := Lib.hid hsn
      have HB := Lib.hid hB
      have HD := Lib.hid hD
      have HR := Lib.hid hR
      have c0 := hD.c0
      have c1 := hD.c1
      have c2 := hD.c2
      clear hts hsn hcount hop hso htl hB hO hD hR hx hst hst3 HF
      go_wp2_with fail
      go_region_with (go_at_call 35; refine HSt.out.mono ?_; rintro e w2 ⟨v', rfl, hleft⟩; have hd2 := hleft.keep _ _ _ _ HD.out; have k0 := hd2.c0; have k1 := hd2.c1; have k2 := hd2.c2; have f0 := hd2.fr 0; have f1 := hd2.fr 1; have f2 := hd2.fr 2; have HL := Lib.hid hleft; clear hleft hd2)
      all_goals
        clear HSt
        go_wp2
        go_roundw
        case rel =>
          have hd2 := HL.out.keep _ _ _ _ HD.out
          have hr2 := HL.out.keep _ _ _ _ HR.out
          have hd3 : DBlk db (.int .u8 (l3 : Int)) (.int .i32 (r3 : Int)) (.int .i64 (n3 : Int)) (set3 w2 db (.int .u8 (l3 : Int)) (.int .i32 (r3 : Int)) (.int .i64 (n3 : Int))) := hd2.set3
          have hr3 : DBlk (db + 1) (.int .u8 0) (.int .i32 0) (.int .i64 0) (set3 w2 db (.int .u8 (l3 : Int)) (.int .i32 (r3 : Int)) (.int .i64 (n3 : Int))) := ((hr2.other (by omega) _).other (by omega) _).other (by omega) _
          refine ⟨j + 1, by go_num, by omega, hr3.lt, Lib.hid ⟨below_set3 (HB.out.drew.trans HL.out.below) (Nat.le_refl _), ?_, ?_, hr3⟩⟩
          · rw [HSn.out]
            show OwnR db v' (toI (q ++ q3)) _
            rw [toI_append]
            exact own_set3 HL.out.own hd2
          · rw [HSn.out]
            exact hd3
        case measure => simp [intOf]; omega
    · obtain rfl : j = s.size := by omega
      have hta : s.data.toList.take s.size = s.data.toList := List.take_of_length_le (Nat.le_refl _)
      obtain ⟨hB, hO, hD, hR⟩ := HF.out
      rw [hta] at hO hD
      obtain ⟨⟨⟨l, r, n⟩, q⟩, hx⟩ : ∃ x, runS d s.data.toList = x := ⟨_, rfl⟩
      rw [hx] at HPost hO hD
      simp only at hO hD
      have c0 := hD.c0
      have c1 := hD.c1
      have c2 := hD.c2
      have k0 := hR.c0
      have k1 := hR.c1
      have k2 := hR.c2
      have f0 := hR.fr 0
      have f1 := hR.fr 1
      have f2 := hR.fr 2
      have HB := Lib.hid hB
      have HO := Lib.hid hO
      have HR := Lib.hid hR
      clear hta hB hO hD hR hx HF
      go_wp2
      refine bodyPost_ret (v := .tuple #[decV ⟨l, r, n⟩, u6]) (by rw [results_cell_tmp rfl]; go_simp; rfl) rfl ?_
      rw [← HPost.out]
      unfold RunPost
      rw [HDb.out]
      exact ⟨_, rfl, own_set3 HO.out HR.out, below_set3 HB.out (by omega)⟩
end Go.Proofs.YtfapmgecebcfaaaDoor.Y
