/- The contracts of seq's over, finish, inSkip and inEscape. -/
import Derived.Test.YtfapmgecebcfaaaDoorQEnter
namespace Go.Proofs.YtfapmgecebcfaaaDoor.Q
open Go.RowKit
open Go.Proofs.YtfapmgecebcfaaaDoor.W (OwnI OwnR IntsIn RunesIn wpList_append_ints)

theorem bytes_ext {s t : ByteArray} (h : s.data.toList = t.data.toList) : s = t := by
  cases s; cases t
  simp only at h
  congr 1
  exact Array.ext' h
structure Env (base k : Nat) (p : PS) (v : Value) (acts : List Say) (w : World) : Prop where
  own : OwnA base v acts w
  blk : PBlk k p w
  kb : k < base
  bw : base ≤ w.heap.size
  ok : Ok p
  few : (acts.length : Int) ≤ 900000
def MPost (base k : Nat) (p' : PS) (acts' : List Say) (w : World) (e : Ending) (w' : World) : Prop := ∃ v', e = .returned v' ∧ OwnA base v' acts' w' ∧ PBlk k p' w' ∧ Kept base k w w'
/-- an action is put behind what was said: what is left -/
theorem said_more {base k : Nat} {p : PS} {v v' : Value} {acts acts' : List Say} {w w' : World} (hO : OwnA base v acts w) (hB : PBlk k p w) (hkb : k < base) (hbw : base ≤ w.heap.size) (o : Obj) (hown : OwnA base v' acts' w') (hgr : (w.alloc o).grownBy w' v.ownBlock) :
    OwnA base v' acts' w' ∧ PBlk k p w' ∧ Kept base k w w' := by
  have hb : Below base w w' := ((Below.refl base w).alloc hbw o).grown hgr (by simp; omega) (fun q hq => hO.ownBlock q hq)
  exact ⟨hown, hB.below hb hkb, Kept.of_below hb (Nat.le_refl _)⟩

set_option maxRecDepth 100000 in
set_option maxHeartbeats 8000000 in
theorem over_any (base k : Nat) (p : PS) (v : Value) (acts : List Say) (w : World) (hE : Env base k p v acts w) : Calls Tryd.prog 37 #[.pointer (some ⟨k, 0, none⟩), v] w (MPost base k (fresh 0) (acts ++ overS p.text) w) := by
  obtain ⟨P, hP⟩ : ∃ P, MPost base k (fresh 0) (acts ++ overS p.text) w = P := ⟨_, rfl⟩
  rw [hP]
  have HP := Lib.hid hP
  have c26 := hE.blk.text
  obtain ⟨T, hT⟩ : ∃ T, p.text = T := ⟨_, rfl⟩
  have hTl := hE.ok.text
  rw [hT] at c26 HP hTl
  have HEn := Lib.hid (enter_any k p 0 w hE.blk)
  have HE := Lib.hid hE
  obtain ⟨S, hS⟩ : ∃ S : ByteArray, S = ⟨⟨T⟩⟩ := ⟨_, rfl⟩
  have hsz : S.size = T.length := by rw [hS]; rfl
  unfold strV at c26
  rw [← hS] at c26
  have HSz := Lib.hid hsz
  have HS := Lib.hid hS
  clear hP hT hE hsz hS
  go_enter Tryd.func37, Tryd.ntmps37
  go_wp2_with fail
  refine HEn.out.mono ?_
  rintro e w2 ⟨rfl, hb2, hg2⟩
  have hO2 := HE.out.own.turned HE.out.blk hg2
  have hbw2 : base ≤ w2.heap.size := Nat.le_trans HE.out.bw hg2.size
  have HK2 : Hid (Kept base k w w2) := Lib.hid (Kept.of_grown hg2 HE.out.bw)
  have HB2 := Lib.hid hb2
  have HO2 := Lib.hid hO2
  clear hb2 hg2 hO2 HEn c26
  have fin : overS T = [] → P (.returned v) w2 := fun e => by
    rw [← HP.out, e, List.append_nil]
    exact ⟨v, rfl, HO2.out, HB2.out, HK2.out⟩
  have HFin := Lib.hid fin
  clear fin
  match T, hTl with
  | [], _ =>
    have hs0 : S.size = 0 := HSz.out
    go_wp2
    exact HFin.out rfl
  | [a], _ =>
    have hs0 : S.size = 1 := HSz.out
    go_wp2
    exact HFin.out rfl
  | a :: b :: T, _ =>
    obtain ⟨N, hN⟩ : ∃ N, T.length + 2 = N := ⟨_, rfl⟩
    have hs2 : S.size = N := HSz.out.trans hN
    have hN2 : (2 : Int) ≤ N := by omega
    have hd2 : decide ((N : Int) < 2) = false := by simp; omega
    have HN := Lib.hid hN
    clear hN
    have h0 : 0 < S.size := by omega
    have h1 : 1 < S.size := by omega
    have e0 : S[0] = a := by
      have hs := HS.out
      subst hs; rfl
    have e1 : S[1] = b := by
      have hs := HS.out
      subst hs; rfl
    obtain ⟨A, hA⟩ : ∃ A, a.toNat = A := ⟨_, rfl⟩
    obtain ⟨B, hB⟩ : ∃ B, b.toNat = B := ⟨_, rfl⟩
    have f0 : S[0].toNat = A := by rw [e0, hA]
    have f1 : S[1].toNat = B := by rw [e1, hB]
    by_cases hq : (a = 48 ∨ a = 50) ∧ b = 59
    · have ho : overS (a :: b :: T) = [ttl T] := by show (if (a = 48 ∨ a = 50) ∧ b = 59 then [ttl T] else []) = _; rw [if_pos hq]
      have hx : S.extract 2 N = ⟨⟨T⟩⟩ := by
        apply bytes_ext
        rw [HS.out, ← HN.out]
        simp [ByteArray.data_extract, List.extract]
      obtain ⟨ha, rfl⟩ := hq
      have hB59 : B = 59 := by rw [← hB]; rfl
      subst hB59
      rw [ho] at HP
      have HX := Lib.hid hx
      clear hx ho hB
      rcases ha with rfl | rfl
      all_goals
        have hA' := hA.symm
        subst hA'
        go_wp2_with (at_builtin; rw [HX.out]; refine wpList_append_act rfl _ _ rfl rfl base _ acts w2.heap.size (ttl T, .slice none 0 0) rfl rfl (HO2.out.alloc _) (act_one w2 (ttl T) (.slice none 0 0) _) (OwnI.nil _ _) (by have := HE.out.few; omega) (by simp; omega) ?_)
        intro v' w4 hown4 hgr
        have HM := Lib.hid (said_more HO2.out HB2.out HE.out.kb hbw2 _ hown4 hgr)
        clear hown4 hgr
        go_wp2
        rw [← HP.out]
        exact ⟨v', rfl, HM.out.1, HM.out.2.1, HK2.out.trans HM.out.2.2⟩
    · have ho : overS (a :: b :: T) = [] := by show (if (a = 48 ∨ a = 50) ∧ b = 59 then [ttl T] else []) = _; rw [if_neg hq]
      by_cases ha : a = 48 ∨ a = 50
      · have hb : b ≠ 59 := fun e => hq ⟨ha, e⟩
        have hB59 : ¬ B = 59 := fun e => hb (by rw [← UInt8.toNat_inj, hB, e]; rfl)
        have qb : ((B : Int) == 59) = false := by rw [beq_eq_false_iff_ne]; omega
        rcases ha with rfl | rfl
        all_goals
          have hA' := hA.symm
          subst hA'
          go_wp2
          exact HFin.out ho
      · have qa : ((A : Int) == 48) = false := by
          rw [beq_eq_false_iff_ne]
          intro e
          exact ha (.inl (by rw [← UInt8.toNat_inj, hA]; show A = 48; omega))
        have qc : ((A : Int) == 50) = false := by
          rw [beq_eq_false_iff_ne]
          intro e
          exact ha (.inr (by rw [← UInt8.toNat_inj, hA]; show A = 50; omega))
        go_wp2
        exact HFin.out ho
end Go.Proofs.YtfapmgecebcfaaaDoor.Q

/- The contracts of seq's inSkip and inEscape. -/
namespace Go.Proofs.YtfapmgecebcfaaaDoor.Q
open Go.RowKit
open Go.Proofs.YtfapmgecebcfaaaDoor.W (OwnI OwnR IntsIn RunesIn wpList_append_ints)

set_option maxRecDepth 100000 in
set_option maxHeartbeats 8000000 in
theorem skip_any (base k : Nat) (p : PS) (v : Value) (acts : List Say) (b : Nat) (w : World) (hE : Env base k p v acts w) : Calls Tryd.prog 32 #[.pointer (some ⟨k, 0, none⟩), .int .u8 (b : Int), v] w (MPost base k (skipS p b) acts w) := by
  have HE := Lib.hid hE
  have HEn := Lib.hid (enter_any k p 0 w hE.blk)
  obtain ⟨P, hP⟩ : ∃ P, MPost base k (skipS p b) acts w = P := ⟨_, rfl⟩
  rw [hP]
  have HP := Lib.hid hP
  clear hP hE
  by_cases h : 48 ≤ b
  · have hs : skipS p b = fresh 0 := by unfold skipS; rw [if_pos h]
    rw [hs] at HP
    clear hs
    go_enter Tryd.func32, Tryd.ntmps32
    go_wp2_with fail
    refine HEn.out.mono ?_
    rintro e w2 ⟨rfl, hb2, hg2⟩
    have HO2 := Lib.hid (HE.out.own.turned HE.out.blk hg2)
    have HK2 : Hid (Kept base k w w2) := Lib.hid (Kept.of_grown hg2 HE.out.bw)
    have HB2 := Lib.hid hb2
    clear hb2 hg2 HEn
    go_wp2
    rw [← HP.out]
    exact ⟨v, rfl, HO2.out, HB2.out, HK2.out⟩
  · have hs : skipS p b = p := by unfold skipS; rw [if_neg h]
    rw [hs] at HP
    clear hs HEn
    go_enter Tryd.func32, Tryd.ntmps32
    go_wp2
    rw [← HP.out]
    exact ⟨v, rfl, HE.out.own, HE.out.blk, Kept.refl _ _ _⟩

set_option maxRecDepth 100000 in
set_option maxHeartbeats 8000000 in
theorem escape_any (base k : Nat) (p : PS) (v : Value) (acts : List Say) (b : Nat) (hb : b < 256) (w : World) (hE : Env base k p v acts w) : Calls Tryd.prog 31 #[.pointer (some ⟨k, 0, none⟩), .int .u8 (b : Int), v] w (MPost base k (escS b).1 (acts ++ (escS b).2) w) := by
  have HE := Lib.hid hE
  have HEn := Lib.hid (fun s => enter_any k p s w hE.blk)
  obtain ⟨P, hP⟩ : ∃ P, MPost base k (escS b).1 (acts ++ (escS b).2) w = P := ⟨_, rfl⟩
  rw [hP]
  have HP := Lib.hid hP
  clear hP hE
  have fin : ∀ s w2, TurnPost k (fresh s) w (.returned (.tuple #[])) w2 → escS b = (fresh s, []) → P (.returned v) w2 := by
    intro s w2 ⟨_, hb2, hg2⟩ e
    rw [← HP.out, e, List.append_nil]
    exact ⟨v, rfl, HE.out.own.turned HE.out.blk hg2, hb2, Kept.of_grown hg2 HE.out.bw⟩
  have HFin := Lib.hid fin
  clear fin
  have hb' : (b : Int) < 256 := by omega
  by_cases h1 : b = 91
  · have hs : escS b = (fresh 3, []) := by unfold escS; rw [if_pos h1]
    have HS := Lib.hid hs
    subst h1
    clear hs
    go_enter Tryd.func31, Tryd.ntmps31
    go_wp2_with fail
    refine (HEn.out 3).mono ?_
    rintro e w2 ht
    have HT := Lib.hid ht
    obtain ⟨rfl, _, _⟩ := ht
    clear HEn
    go_wp2
    exact HFin.out 3 w2 HT.out HS.out
  · by_cases h2 : b = 93
    · have hs : escS b = (fresh 4, []) := by unfold escS; rw [if_neg h1, if_pos h2]
      have HS := Lib.hid hs
      subst h2
      clear hs h1
      go_enter Tryd.func31, Tryd.ntmps31
      go_wp2_with fail
      refine (HEn.out 4).mono ?_
      rintro e w2 ht
      have HT := Lib.hid ht
      obtain ⟨rfl, _, _⟩ := ht
      clear HEn
      go_wp2
      exact HFin.out 4 w2 HT.out HS.out
    · have q1 : ((b : Int) == 91) = false := by rw [beq_eq_false_iff_ne]; omega
      have q2 : ((b : Int) == 93) = false := by rw [beq_eq_false_iff_ne]; omega
      by_cases h3 : b < 48
      · have hs : escS b = (fresh 2, []) := by unfold escS; rw [if_neg h1, if_neg h2, if_pos h3]
        have HS := Lib.hid hs
        have q3 : decide ((b : Int) < 48) = true := by simp; omega
        clear hs h1 h2 h3
        go_enter Tryd.func31, Tryd.ntmps31
        go_wp2_with fail
        refine (HEn.out 2).mono ?_
        rintro e w2 ht
        have HT := Lib.hid ht
        obtain ⟨rfl, _, _⟩ := ht
        clear HEn
        go_wp2
        exact HFin.out 2 w2 HT.out HS.out
      · have q3 : decide ((b : Int) < 48) = false := by simp; omega
        by_cases h4 : b < 127
        · have hs : escS b = (fresh 0, [esc b]) := by unfold escS; rw [if_neg h1, if_neg h2, if_neg h3, if_pos h4]
          have q4 : decide ((b : Int) < 127) = true := by simp; omega
          rw [hs] at HP
          clear hs h1 h2 h3 h4 HFin
          go_enter Tryd.func31, Tryd.ntmps31
          go_wp2_with fail
          refine (HEn.out 0).mono ?_
          rintro e w2 ⟨rfl, hb2, hg2⟩
          have HO2 := Lib.hid (HE.out.own.turned HE.out.blk hg2)
          have HK2 : Hid (Kept base k w w2) := Lib.hid (Kept.of_grown hg2 HE.out.bw)
          have hbw2 : base ≤ w2.heap.size := Nat.le_trans HE.out.bw hg2.size
          have HB2 := Lib.hid hb2
          clear hb2 hg2 HEn
          go_wp2_with (at_builtin; refine wpList_append_act rfl _ _ rfl rfl base _ acts w2.heap.size (esc b, .slice none 0 0) rfl rfl (HO2.out.alloc _) (act_one w2 (esc b) (.slice none 0 0) _) (OwnI.nil _ _) (by have := HE.out.few; omega) (by simp; omega) ?_)
          intro v' w4 hown4 hgr
          have HM := Lib.hid (said_more HO2.out HB2.out HE.out.kb hbw2 _ hown4 hgr)
          clear hown4 hgr
          go_wp2
          rw [← HP.out]
          exact ⟨v', rfl, HM.out.1, HM.out.2.1, HK2.out.trans HM.out.2.2⟩
        · have hs : escS b = (fresh 0, []) := by unfold escS; rw [if_neg h1, if_neg h2, if_neg h3, if_neg h4]
          have q4 : decide ((b : Int) < 127) = false := by simp; omega
          have HS := Lib.hid hs
          clear hs h1 h2 h3 h4
          go_enter Tryd.func31, Tryd.ntmps31
          go_wp2_with fail
          refine (HEn.out 0).mono ?_
          rintro e w2 ht
          have HT := Lib.hid ht
          obtain ⟨rfl, _, _⟩ := ht
          clear HEn
          go_wp2
          exact HFin.out 0 w2 HT.out HS.out
end Go.Proofs.YtfapmgecebcfaaaDoor.Q
