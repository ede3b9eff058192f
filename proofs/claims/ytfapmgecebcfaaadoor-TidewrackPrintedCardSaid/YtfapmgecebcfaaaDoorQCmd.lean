/- The contract of seq's inCommand. -/
import Derived.Test.YtfapmgecebcfaaaDoorQFin
import Derived.Lib.MinMax
namespace Go.Proofs.YtfapmgecebcfaaaDoor.Q
open Go.RowKit
open Go.Proofs.YtfapmgecebcfaaaDoor.W (OwnI OwnR IntsIn RunesIn wpList_append_ints)

set_option maxRecDepth 100000 in
set_option maxHeartbeats 8000000 in
theorem command_any (base k : Nat) (p : PS) (v : Value) (acts : List Say) (b : Nat) (hb : b < 256) (hb32 : 32 ≤ b) (hb127 : b ≠ 127) (w : World) (hE : Env base k p v acts w) : Calls Tryd.prog 33 #[.pointer (some ⟨k, 0, none⟩), .int .u8 (b : Int), v] w (MPost base k (cmdS p b).1 (acts ++ (cmdS p b).2) w) := by
  have HE := Lib.hid hE
  obtain ⟨P, hP⟩ : ∃ P, MPost base k (cmdS p b).1 (acts ++ (cmdS p b).2) w = P := ⟨_, rfl⟩
  rw [hP]
  have HP := Lib.hid hP
  have c22 := hE.blk.begun
  have f22 := hE.blk.fr 22
  obtain ⟨BG, hbg⟩ : ∃ BG, p.begun = BG := ⟨_, rfl⟩
  rw [hbg] at c22
  have HBg := Lib.hid hbg
  obtain ⟨p1, hp1⟩ : ∃ p1 : PS, { p with begun := true } = p1 := ⟨_, rfl⟩
  obtain ⟨w1, hw1⟩ : ∃ w1, w.setCell ⟨k, 22, none⟩ (.bool true) = w1 := ⟨_, rfl⟩
  have hB1 : PBlk k p1 w1 := by rw [← hp1, ← hw1]; exact hE.blk.setBegun true
  have hO1 : OwnA base v acts w1 := by rw [← hw1]; exact hE.own.setP hE.blk 22 _
  have hK1 : Kept base k w w1 := by rw [← hw1]; exact (Kept.refl _ _ _).setCell 22 _
  have hbw1 : base ≤ w1.heap.size := Nat.le_trans hE.bw hK1.size
  have hok1 : Ok p1 := by rw [← hp1]; exact ⟨hE.ok.st, hE.ok.dec, hE.ok.nums, hE.ok.num, hE.ok.number, hE.ok.text, hE.ok.other⟩
  have hE1 : Env base k p1 v acts w1 := ⟨hO1, hB1, hE.kb, hbw1, hok1, hE.few⟩
  have HE1 := Lib.hid hE1
  have HK1 := Lib.hid hK1
  have HW1 := Lib.hid hw1
  have HP1 := Lib.hid hp1
  have hb' : (b : Int) < 256 := by omega
  have hb2 : (32 : Int) ≤ b := by omega
  clear hP hE hbg hp1 hw1 hB1 hO1 hK1 hok1 hE1
  by_cases h1 : 48 ≤ b ∧ b ≤ 57
  · have hs : cmdS p b = ({ p1 with number := min (10 * p1.number + ((b : Int) - 48)) 9999, numbered := true }, []) := by
      rw [← HP1.out]; unfold cmdS; rw [if_pos h1]
    rw [hs, List.append_nil] at HP
    obtain ⟨h1a, h1b⟩ := h1
    have c21 := HE1.out.blk.number
    have f21 := HE1.out.blk.fr 21
    have c23 := HE1.out.blk.numbered
    have f23 := HE1.out.blk.fr 23
    obtain ⟨n1, n2⟩ := HE1.out.ok.number
    obtain ⟨N, hN⟩ : ∃ N, p1.number = N := ⟨_, rfl⟩
    rw [hN] at c21 n1 n2 HP
    have q1 : decide ((48 : Int) ≤ b) = true := by simp; omega
    have q2 : decide ((b : Int) ≤ 57) = true := by simp; omega
    clear hs hN
    go_enter Tryd.func33, Tryd.ntmps33
    go_upto_region 4 with fail
    rw [HW1.out]
    clear c22 f22
    go_wp2
    rw [← HP.out]
    have hx := (HE1.out.blk.setNumber (min (10 * N + ((b : Int) - 48)) 9999)).setNumbered true
    exact ⟨v, rfl, ((HE1.out.own.setP HE1.out.blk 21 _).setP (HE1.out.blk.setNumber _) 23 _), hx, (HK1.out.setCell 21 _).setCell 23 _⟩
  · have hne : ¬ (48 ≤ b) ∨ ¬ (b ≤ 57) := by omega
    have q0 : (decide ((48 : Int) ≤ b) && decide ((b : Int) ≤ 57)) = false := by
      rcases hne with h | h
      · rw [show decide ((48 : Int) ≤ b) = false from by simp; omega]; rfl
      · rw [show decide ((b : Int) ≤ 57) = false from by simp; omega, Bool.and_false]
    by_cases h2 : b = 59 ∨ b = 58
    · have hs : cmdS p b = ({ keepS p1 with numbered := true }, []) := by
        rw [← HP1.out]; unfold cmdS; rw [if_neg h1, if_pos h2]
      rw [hs, List.append_nil] at HP
      have HKe := Lib.hid (keep_any k p1 w1 HE1.out.blk HE1.out.ok.nums)
      clear hs hne q0 h1
      rcases h2 with rfl | rfl
      all_goals
        go_enter Tryd.func33, Tryd.ntmps33
        go_upto_region 4 with fail
        rw [HW1.out]
        clear c22 f22
        go_wp2_with fail
        refine HKe.out.mono ?_
        rintro e w2 ⟨rfl, hb2, hg2⟩
        have c23 := hb2.numbered
        have f23 := hb2.fr 23
        have HO2 := Lib.hid (HE1.out.own.turned HE1.out.blk hg2)
        have HK2 : Hid (Kept base k w w2) := Lib.hid (HK1.out.trans (Kept.of_grown hg2 HE1.out.bw))
        have HB2 := Lib.hid hb2
        clear hb2 hg2 HKe
        go_wp2
        rw [← HP.out]
        exact ⟨v, rfl, HO2.out.setP HB2.out 23 _, HB2.out.setNumbered true, HK2.out.setCell 23 _⟩
    · have q59 : ((b : Int) == 59) = false := by rw [beq_eq_false_iff_ne]; omega
      have q58 : ((b : Int) == 58) = false := by rw [beq_eq_false_iff_ne]; omega
      by_cases h3 : b = 63 ∧ BG = false
      · have hs : cmdS p b = ({ p1 with priv := true }, []) := by
          rw [← HP1.out]; unfold cmdS; rw [if_neg h1, if_neg h2, if_pos ⟨h3.1, by rw [HBg.out]; exact h3.2⟩]
        rw [hs, List.append_nil] at HP
        obtain ⟨rfl, rfl⟩ := h3
        have c24 := HE1.out.blk.priv
        have f24 := HE1.out.blk.fr 24
        clear hs hne q0 h1 h2 q59 q58
        go_enter Tryd.func33, Tryd.ntmps33
        go_upto_region 4 with fail
        rw [HW1.out]
        clear c22 f22
        go_wp2
        rw [← HP.out]
        exact ⟨v, rfl, HE1.out.own.setP HE1.out.blk 24 _, HE1.out.blk.setPriv true, HK1.out.setCell 24 _⟩
      · have q63 : (((b : Int) == 63) && !BG) = false := by
          by_cases h : b = 63
          · have : BG = true := by
              cases BG with
              | true => rfl
              | false => exact absurd ⟨h, rfl⟩ h3
            rw [this]; simp
          · rw [show ((b : Int) == 63) = false from by rw [beq_eq_false_iff_ne]; omega]; rfl
        have hcase : (b = 63 ∧ BG = true) ∨ (b ≠ 63) := by
          by_cases h : b = 63
          · left
            refine ⟨h, ?_⟩
            cases BG with
            | true => rfl
            | false => exact absurd ⟨h, rfl⟩ h3
          · exact .inr h
        have hreg : b < 48 ∨ (57 < b ∧ b < 64) ∨ (64 ≤ b ∧ b < 127) ∨ 127 < b := by omega
        by_cases h4 : b < 64 ∨ 127 < b
        · have hs : cmdS p b = ({ p1 with wrong := true }, []) := by
            rw [← HP1.out]; unfold cmdS; rw [if_neg h1, if_neg h2, if_neg (fun e => h3 ⟨e.1, by rw [← HBg.out]; exact e.2⟩), if_pos h4]
          rw [hs, List.append_nil] at HP
          have c25 := HE1.out.blk.wrong
          have f25 := HE1.out.blk.fr 25
          rcases hcase with ⟨rfl, rfl⟩ | hn63
          · clear hs hne q0 h1 h2 h3 h4 hreg q63
            go_enter Tryd.func33, Tryd.ntmps33
            go_upto_region 4 with fail
            rw [HW1.out]
            clear c22 f22
            go_wp2
            rw [← HP.out]
            exact ⟨v, rfl, HE1.out.own.setP HE1.out.blk 25 _, HE1.out.blk.setWrong true, HK1.out.setCell 25 _⟩
          · have q63' : ((b : Int) == 63) = false := by rw [beq_eq_false_iff_ne]; omega
            rcases (show b < 48 ∨ (57 < b ∧ b < 64) ∨ 127 < b by omega) with r | ⟨r, r2⟩ | r
            all_goals
              clear hs hne q0 h1 h2 h3 h4 hreg q63 hn63
              go_enter Tryd.func33, Tryd.ntmps33
              go_upto_region 4 with fail
              rw [HW1.out]
              clear c22 f22
              go_wp2
              rw [← HP.out]
              exact ⟨v, rfl, HE1.out.own.setP HE1.out.blk 25 _, HE1.out.blk.setWrong true, HK1.out.setCell 25 _⟩
        · have hs : cmdS p b = finS p1 b := by
            rw [← HP1.out]; unfold cmdS; rw [if_neg h1, if_neg h2, if_neg (fun e => h3 ⟨e.1, by rw [← HBg.out]; exact e.2⟩), if_neg h4]
          rw [hs] at HP
          have HFi := Lib.hid (finish_any base k p1 v acts b w1 HE1.out)
          have r1 : 64 ≤ b := by omega
          have r2 : b < 127 := by omega
          have q63' : ((b : Int) == 63) = false := by rw [beq_eq_false_iff_ne]; omega
          clear hs hne q0 h1 h2 h3 h4 hreg q63 hcase
          go_enter Tryd.func33, Tryd.ntmps33
          go_upto_region 4 with fail
          rw [HW1.out]
          clear c22 f22
          go_wp2_with fail
          refine HFi.out.mono ?_
          rintro e w2 ⟨v', rfl, h1, h2, h3⟩
          have HR : Hid (OwnA base v' (acts ++ (finS p1 b).2) w2 ∧ PBlk k (finS p1 b).1 w2 ∧ Kept base k w w2) := Lib.hid ⟨h1, h2, HK1.out.trans h3⟩
          clear h1 h2 h3 HFi
          go_wp2
          rw [← HP.out]
          exact ⟨v', rfl, HR.out⟩
end Go.Proofs.YtfapmgecebcfaaaDoor.Q
