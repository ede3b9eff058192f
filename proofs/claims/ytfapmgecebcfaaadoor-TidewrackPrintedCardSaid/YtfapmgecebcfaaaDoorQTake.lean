/- The contracts of seq's take and inClosing. -/
import Derived.Test.YtfapmgecebcfaaaDoorQTitle
namespace Go.Proofs.YtfapmgecebcfaaaDoor.Q
open Go.RowKit
open Go.Proofs.YtfapmgecebcfaaaDoor.W (OwnI OwnR IntsIn RunesIn wpList_append_ints)
open Go.Proofs.YtfapmgecebcfaaaDoor.Y (Tab)

set_option maxRecDepth 100000 in
set_option maxHeartbeats 8000000 in
theorem core_any (base k : Nat) (p : PS) (h5 : p.state ≠ 5) (v : Value) (acts : List Say) (b : UInt8) (w : World) (hE : Env base k p v acts w) (hT : Tab w) : Calls Tryd.prog 21 #[.pointer (some ⟨k, 0, none⟩), .int .u8 (b.toNat : Int), v] w (MPost base k (coreS p b).1 (acts ++ (coreS p b).2) w) := by
  have HE := Lib.hid hE
  obtain ⟨P, hP⟩ : ∃ P, MPost base k (coreS p b).1 (acts ++ (coreS p b).2) w = P := ⟨_, rfl⟩
  rw [hP]
  have HP := Lib.hid hP
  have c0 := hE.blk.state
  have hst := hE.ok.st
  have HTi := Lib.hid (title_any base k p v acts b w hE)
  have HT := Lib.hid hT
  obtain ⟨s, hs⟩ : ∃ s, p.state = s := ⟨_, rfl⟩
  rw [hs] at c0 hst h5
  obtain ⟨B, hB⟩ : ∃ B, b.toNat = B := ⟨_, rfl⟩
  have hB256 : B < 256 := by rw [← hB]; exact b.toNat_lt
  have hb' : (B : Int) < 256 := by omega
  rw [hB] at HTi ⊢
  have HBb := Lib.hid hB
  have HSs := Lib.hid hs
  clear hP hE hT hB hs
  by_cases h4 : s = 4
  · subst h4
    have e : coreS p b = titleS p b := by unfold coreS; rw [if_pos HSs.out]
    rw [e] at HP
    clear e h5 hst
    go_enter Tryd.func21, Tryd.ntmps21
    go_wp2_with fail
    refine HTi.out.mono ?_
    rintro e w2 ⟨v', rfl, hx⟩
    have HR := Lib.hid hx
    clear hx HTi
    go_wp2
    rw [← HP.out]
    exact ⟨v', rfl, HR.out⟩
  · clear HTi
    by_cases hc : ctlB B
    · have e : coreS p b = anyS p B := by unfold coreS; rw [if_neg (by rw [HSs.out]; exact h4), HBb.out, if_pos hc]
      rw [e] at HP
      have HAn := Lib.hid (any_any base k p v acts B hB256 hc w HE.out)
      have hq : B < 32 ∨ (32 ≤ B ∧ B = 127) := by
        rcases hc with h | h
        · exact .inl h
        · exact .inr ⟨by omega, h⟩
      clear e hc
      rcases (show s = 0 ∨ s = 1 ∨ s = 2 ∨ s = 3 by omega) with rfl | rfl | rfl | rfl
      all_goals
        clear h4 h5 hst
        rcases hq with hq | ⟨hq, rfl⟩
        · have q1 : decide ((B : Int) < 32) = true := by simp; omega
          go_enter Tryd.func21, Tryd.ntmps21
          go_wp2_with fail
          refine HAn.out.mono ?_
          rintro e w2 ⟨v', rfl, hx⟩
          have HR := Lib.hid hx
          clear hx HAn
          go_wp2
          rw [← HP.out]
          exact ⟨v', rfl, HR.out⟩
        · skip
          go_enter Tryd.func21, Tryd.ntmps21
          go_wp2_with fail
          refine HAn.out.mono ?_
          rintro e w2 ⟨v', rfl, hx⟩
          have HR := Lib.hid hx
          clear hx HAn
          go_wp2
          rw [← HP.out]
          exact ⟨v', rfl, HR.out⟩
    · have hn1 : ¬ B < 32 := fun h => hc (.inl h)
      have hn2 : ¬ B = 127 := fun h => hc (.inr h)
      have q1 : decide ((B : Int) < 32) = false := by simp; omega
      have q2 : ((B : Int) == 127) = false := by rw [beq_eq_false_iff_ne]; omega
      rcases (show s = 0 ∨ s = 1 ∨ s = 2 ∨ s = 3 by omega) with rfl | rfl | rfl | rfl
      · have e : coreS p b = groundS p B := by unfold coreS; rw [HSs.out, HBb.out, if_neg (by decide), if_neg hc, if_neg (by decide), if_neg (by decide), if_neg (by decide)]
        rw [e] at HP
        have HGr := Lib.hid (ground_any base k p v acts B hB256 w HE.out HT.out)
        clear e hc h4 h5 hst hn1 hn2
        go_enter Tryd.func21, Tryd.ntmps21
        go_wp2_with fail
        refine HGr.out.mono ?_
        rintro e w2 ⟨v', rfl, hx⟩
        have HR := Lib.hid hx
        clear hx HGr
        go_wp2
        rw [← HP.out]
        exact ⟨v', rfl, HR.out⟩
      · have e : coreS p b = escS B := by unfold coreS; rw [HSs.out, HBb.out, if_neg (by decide), if_neg hc, if_pos rfl]
        rw [e] at HP
        have HGr := Lib.hid (escape_any base k p v acts B hB256 w HE.out)
        clear e hc h4 h5 hst hn1 hn2
        go_enter Tryd.func21, Tryd.ntmps21
        go_wp2_with fail
        refine HGr.out.mono ?_
        rintro e w2 ⟨v', rfl, hx⟩
        have HR := Lib.hid hx
        clear hx HGr
        go_wp2
        rw [← HP.out]
        exact ⟨v', rfl, HR.out⟩
      · have e : coreS p b = (skipS p B, []) := by unfold coreS; rw [HSs.out, HBb.out, if_neg (by decide), if_neg hc, if_neg (by decide), if_pos rfl]
        rw [e, List.append_nil] at HP
        have HGr := Lib.hid (skip_any base k p v acts B w HE.out)
        clear e hc h4 h5 hst hn1 hn2
        go_enter Tryd.func21, Tryd.ntmps21
        go_wp2_with fail
        refine HGr.out.mono ?_
        rintro e w2 ⟨v', rfl, hx⟩
        have HR := Lib.hid hx
        clear hx HGr
        go_wp2
        rw [← HP.out]
        exact ⟨v', rfl, HR.out⟩
      · have e : coreS p b = cmdS p B := by unfold coreS; rw [HSs.out, HBb.out, if_neg (by decide), if_neg hc, if_neg (by decide), if_neg (by decide), if_pos rfl]
        rw [e] at HP
        have HGr := Lib.hid (command_any base k p v acts B hB256 (by omega) hn2 w HE.out)
        clear e hc h4 h5 hst hn1 hn2
        go_enter Tryd.func21, Tryd.ntmps21
        go_wp2_with fail
        refine HGr.out.mono ?_
        rintro e w2 ⟨v', rfl, hx⟩
        have HR := Lib.hid hx
        clear hx HGr
        go_wp2
        rw [← HP.out]
        exact ⟨v', rfl, HR.out⟩

theorem tab_kept {base k : Nat} {w w' : World} (h : Tab w) (hK : Kept base k w w') (h0 : 0 < base) (hk : 0 ≠ k) : Tab w' := fun j hj =>
  have e := hK.block _ h0 hk
  have hr := h j hj
  ⟨(World.cell?_of_block (a := ⟨_, _, none⟩) e).trans hr.c0, (World.cell?_of_block (a := ⟨_, _, none⟩) e).trans hr.c1, (World.cell?_of_block (a := ⟨_, _, none⟩) e).trans hr.c2, (World.cell?_of_block (a := ⟨_, _, none⟩) e).trans hr.c3, (World.cell?_of_block (a := ⟨_, _, none⟩) e).trans hr.c4, (World.cell?_of_block (a := ⟨_, _, none⟩) e).trans hr.c5⟩

set_option maxRecDepth 100000 in
set_option maxHeartbeats 8000000 in
theorem closing_any (base k : Nat) (p : PS) (v : Value) (acts : List Say) (b : UInt8) (w : World) (hE : Env base k p v acts w) (hT : Tab w) (h0 : 0 < base) (hk : 0 ≠ k) (p' : PS) (l' : List Say) (hp : (if b.toNat = 92 then (fresh 0, overS p.text) else coreS (fresh 1) b) = (p', l')) :
    Calls Tryd.prog 29 #[.pointer (some ⟨k, 0, none⟩), .int .u8 (b.toNat : Int), v] w (MPost base k p' (acts ++ l') w) := by
  have HE := Lib.hid hE
  obtain ⟨P, hP⟩ : ∃ P, MPost base k p' (acts ++ l') w = P := ⟨_, rfl⟩
  rw [hP]
  have HP := Lib.hid hP
  obtain ⟨B, hB⟩ : ∃ B, b.toNat = B := ⟨_, rfl⟩
  have hB256 : B < 256 := by rw [← hB]; exact b.toNat_lt
  have hb' : (B : Int) < 256 := by omega
  have HBb := Lib.hid hB
  rw [hB] at hp ⊢
  have HT := Lib.hid hT
  have HOv := Lib.hid (over_any base k p v acts w hE)
  have HEn := Lib.hid (enter_any k p 1 w hE.blk)
  clear hP hE hT hB
  by_cases h : B = 92
  · rw [if_pos h] at hp
    cases hp
    subst h
    clear HEn
    go_enter Tryd.func29, Tryd.ntmps29
    go_wp2_with fail
    refine HOv.out.mono ?_
    rintro e w2 ⟨v', rfl, hx⟩
    have HR := Lib.hid hx
    clear hx HOv
    go_wp2
    rw [← HP.out]
    exact ⟨v', rfl, HR.out⟩
  · rw [if_neg h] at hp
    have q : ((B : Int) == 92) = false := by rw [beq_eq_false_iff_ne]; omega
    have HPp := Lib.hid hp
    clear HOv hp h
    go_enter Tryd.func29, Tryd.ntmps29
    go_wp2_with fail
    refine HEn.out.mono ?_
    rintro e w2 ⟨rfl, hb2, hg2⟩
    have hK2 : Kept base k w w2 := Kept.of_grown hg2 HE.out.bw
    have hE2 : Env base k (fresh 1) v acts w2 := ⟨HE.out.own.turned HE.out.blk hg2, hb2, HE.out.kb, Nat.le_trans HE.out.bw hg2.size, fresh_ok 1 (by decide), HE.out.few⟩
    have hC := core_any base k (fresh 1) (by decide) v acts b w2 hE2 (tab_kept HT.out hK2 h0 hk)
    rw [HPp.out, HBb.out] at hC
    have HC := Lib.hid hC
    have HK2 := Lib.hid hK2
    clear hb2 hg2 hK2 hE2 hC HEn
    go_wp2_with fail
    refine HC.out.mono ?_
    rintro e w3 ⟨v', rfl, hx1, hx2, hx3⟩
    have HR : Hid (OwnA base v' (acts ++ l') w3 ∧ PBlk k p' w3 ∧ Kept base k w w3) := Lib.hid ⟨hx1, hx2, HK2.out.trans hx3⟩
    clear hx1 hx2 hx3 HC
    go_wp2
    rw [← HP.out]
    exact ⟨v', rfl, HR.out⟩

set_option maxRecDepth 100000 in
set_option maxHeartbeats 8000000 in
theorem take_any (base k : Nat) (p : PS) (v : Value) (acts : List Say) (b : UInt8) (w : World) (hE : Env base k p v acts w) (hT : Tab w) (h0 : 0 < base) (hk : 0 ≠ k) : Calls Tryd.prog 21 #[.pointer (some ⟨k, 0, none⟩), .int .u8 (b.toNat : Int), v] w (MPost base k (takeS p b).1 (acts ++ (takeS p b).2) w) := by
  by_cases h5 : p.state = 5
  · obtain ⟨P, hP⟩ : ∃ P, MPost base k (takeS p b).1 (acts ++ (takeS p b).2) w = P := ⟨_, rfl⟩
    have HC := Lib.hid (closing_any base k p v acts b w hE hT h0 hk (takeS p b).1 (takeS p b).2 (by unfold takeS; rw [if_pos h5]))
    rw [hP] at HC ⊢
    have c0 := hE.blk.state
    rw [h5] at c0
    have hb' : (b.toNat : Int) < 256 := by have := b.toNat_lt; omega
    have HP := Lib.hid hP
    obtain ⟨B, hB⟩ : ∃ B, b.toNat = B := ⟨_, rfl⟩
    rw [hB] at HC hb' ⊢
    clear hE hT hP h5 hB
    go_enter Tryd.func21, Tryd.ntmps21
    go_wp2_with fail
    refine HC.out.mono ?_
    intro e w2 hx
    rw [← HP.out] at hx
    obtain ⟨v', rfl, hx⟩ := hx
    have HR := Lib.hid hx
    clear hx HC
    go_wp2
    rw [← HP.out]
    exact ⟨v', rfl, HR.out⟩
  · have e : takeS p b = coreS p b := by unfold takeS; rw [if_neg h5]
    rw [e]
    exact core_any base k p h5 v acts b w hE hT
end Go.Proofs.YtfapmgecebcfaaaDoor.Q
