/- The contracts of seq's inSkip and inEscape. -/
import Derived.Test.YtfapmgecebcfaaaDoorQOver
namespace Go.Proofs.YtfapmgecebcfaaaDoor.Q
open Go.RowKit
open Go.Proofs.YtfapmgecebcfaaaDoor.W (OwnI OwnR IntsIn RunesIn wpList_append_ints)

set_option maxRecDepth 100000 in
set_option maxHeartbeats 8000000 in
theorem skip_any (base k : Nat) (p : PS) (v : Value) (acts : List Say) (b : Nat) (w : World) (hE : Env base k p v acts w) : Calls Tryd.prog 32 #[.pointer (some ⟨k, 0, none⟩), .int .u8 (b : Int), v] w (MPost base k (skipS p b) acts w) := by
  have HE := Lib.hid hE
  have HEn := Lib.hid (enter_any k p 0 w hE.blk)
  obtain ⟨P, hP⟩ : ∃ P, MPost base k (skipS p b) acts w = P := ⟨_, rfl⟩
  rw [hP]
  have HP := Lib.hid hP
  clear hP hE
  by_cases h : 48 ≤ b
  · have hs : skipS p b = fresh 0 := by unfold skipS; rw [if_pos h]
    rw [hs] at HP
    clear hs
    go_enter Tryd.func32, Tryd.ntmps32
    go_wp2_with fail
    refine HEn.out.mono ?_
    rintro e w2 ⟨rfl, hb2, hg2⟩
    have HO2 := Lib.hid (HE.out.own.turned HE.out.blk hg2)
    have HK2 : Hid (Kept base k w w2) := Lib.hid (Kept.of_grown hg2 HE.out.bw)
    have HB2 := Lib.hid hb2
    clear hb2 hg2 HEn
    go_wp2
    rw [← HP.out]
    exact ⟨v, rfl, HO2.out, HB2.out, HK2.out⟩
  · have hs : skipS p b = p := by unfold skipS; rw [if_neg h]
    rw [hs] at HP
    clear hs HEn
    go_enter Tryd.func32, Tryd.ntmps32
    go_wp2
    rw [← HP.out]
    exact ⟨v, rfl, HE.out.own, HE.out.blk, Kept.refl _ _ _⟩

set_option maxRecDepth 100000 in
set_option maxHeartbeats 8000000 in
theorem escape_any (base k : Nat) (p : PS) (v : Value) (acts : List Say) (b : Nat) (hb : b < 256) (w : World) (hE : Env base k p v acts w) : Calls Tryd.prog 31 #[.pointer (some ⟨k, 0, none⟩), .int .u8 (b : Int), v] w (MPost base k (escS b).1 (acts ++ (escS b).2) w) := by
  have HE := Lib.hid hE
  have HEn := Lib.hid (fun s => enter_any k p s w hE.blk)
  obtain ⟨P, hP⟩ : ∃ P, MPost base k (escS b).1 (acts ++ (escS b).2) w = P := ⟨_, rfl⟩
  rw [hP]
  have HP := Lib.hid hP
  clear hP hE
  have fin : ∀ s w2, TurnPost k (fresh s) w (.returned (.tuple #[])) w2 → escS b = (fresh s, []) → P (.returned v) w2 := by
    intro s w2 ⟨_, hb2, hg2⟩ e
    rw [← HP.out, e, List.append_nil]
    exact ⟨v, rfl, HE.out.own.turned HE.out.blk hg2, hb2, Kept.of_grown hg2 HE.out.bw⟩
  have HFin := Lib.hid fin
  clear fin
  have hb' : (b : Int) < 256 := by omega
  by_cases h1 : b = 91
  · have hs : escS b = (fresh 3, []) := by unfold escS; rw [if_pos h1]
    have HS := Lib.hid hs
    subst h1
    clear hs
    go_enter Tryd.func31, Tryd.ntmps31
    go_wp2_with fail
    refine (HEn.out 3).mono ?_
    rintro e w2 ht
    have HT := Lib.hid ht
    obtain ⟨rfl, _, _⟩ := ht
    clear HEn
    go_wp2
    exact HFin.out 3 w2 HT.out HS.out
  · by_cases h2 : b = 93
    · have hs : escS b = (fresh 4, []) := by unfold escS; rw [if_neg h1, if_pos h2]
      have HS := Lib.hid hs
      subst h2
      clear hs h1
      go_enter Tryd.func31, Tryd.ntmps31
      go_wp2_with fail
      refine (HEn.out 4).mono ?_
      rintro e w2 ht
      have HT := Lib.hid ht
      obtain ⟨rfl, _, _⟩ := ht
      clear HEn
      go_wp2
      exact HFin.out 4 w2 HT.out HS.out
    · have q1 : ((b : Int) == 91) = false := by rw [beq_eq_false_iff_ne]; omega
      have q2 : ((b : Int) == 93) = false := by rw [beq_eq_false_iff_ne]; omega
      by_cases h3 : b < 48
      · have hs : escS b = (fresh 2, []) := by unfold escS; rw [if_neg h1, if_neg h2, if_pos h3]
        have HS := Lib.hid hs
        have q3 : decide ((b : Int) < 48) = true := by simp; omega
        clear hs h1 h2 h3
        go_enter Tryd.func31, Tryd.ntmps31
        go_wp2_with fail
        refine (HEn.out 2).mono ?_
        rintro e w2 ht
        have HT := Lib.hid ht
        obtain ⟨rfl, _, _⟩ := ht
        clear HEn
        go_wp2
        exact HFin.out 2 w2 HT.out HS.out
      · have q3 : decide ((b : Int) < 48) = false := by simp; omega
        by_cases h4 : b < 127
        · have hs : escS b = (fresh 0, [esc b]) := by unfold escS; rw [if_neg h1, if_neg h2, if_neg h3, if_pos h4]
          have q4 : decide ((b : Int) < 127) = true := by simp; omega
          rw [hs] at HP
          clear hs h1 h2 h3 h4 HFin
          go_enter Tryd.func31, Tryd.ntmps31
          go_wp2_with fail
          refine (HEn.out 0).mono ?_
          rintro e w2 ⟨rfl, hb2, hg2⟩
          have HO2 := Lib.hid (HE.out.own.turned HE.out.blk hg2)
          have HK2 : Hid (Kept base k w w2) := Lib.hid (Kept.of_grown hg2 HE.out.bw)
          have hbw2 : base ≤ w2.heap.size := Nat.le_trans HE.out.bw hg2.size
          have HB2 := Lib.hid hb2
          clear hb2 hg2 HEn
          go_wp2_with (at_builtin; refine wpList_append_act rfl _ _ rfl rfl base _ acts w2.heap.size (esc b, .slice none 0 0) rfl rfl (HO2.out.alloc _) (act_one w2 (esc b) (.slice none 0 0) _) (OwnI.nil _ _) (by have := HE.out.few; omega) (by simp; omega) ?_)
          intro v' w4 hown4 hgr
          have HM := Lib.hid (said_more HO2.out HB2.out HE.out.kb hbw2 _ hown4 hgr)
          clear hown4 hgr
          go_wp2
          rw [← HP.out]
          exact ⟨v', rfl, HM.out.1, HM.out.2.1, HK2.out.trans HM.out.2.2⟩
        · have hs : escS b = (fresh 0, []) := by unfold escS; rw [if_neg h1, if_neg h2, if_neg h3, if_neg h4]
          have q4 : decide ((b : Int) < 127) = false := by simp; omega
          have HS := Lib.hid hs
          clear hs h1 h2 h3 h4
          go_enter Tryd.func31, Tryd.ntmps31
          go_wp2_with fail
          refine (HEn.out 0).mono ?_
          rintro e w2 ht
          have HT := Lib.hid ht
          obtain ⟨rfl, _, _⟩ := ht
          clear HEn
          go_wp2
          exact HFin.out 0 w2 HT.out HS.out
end Go.Proofs.YtfapmgecebcfaaaDoor.Q
