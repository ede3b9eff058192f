/- The contracts of seq's inGround and anywhere. -/
import Derived.Test.YtfapmgecebcfaaaDoorQCmd
namespace Go.Proofs.YtfapmgecebcfaaaDoor.Q
open Go.RowKit
open Go.Proofs.YtfapmgecebcfaaaDoor.W (OwnI OwnR IntsIn RunesIn wpList_append_ints)
open Go.Proofs.YtfapmgecebcfaaaDoor.Y (Tab next_any end_any decV toI toI_shape stepS endS Sound)

theorem decV_val (d : Y.St) : decV d = .agg #[.int .u8 (d.lead : Int), .int .i32 (d.rune : Int), .int .i64 (d.need : Int)] := rfl
theorem ownR_set {base k o : Nat} {v u : Value} {zs : List Int} {w : World} (h : OwnR base v zs w) (hk : k < base) : OwnR base v zs (w.setCell ⟨k, o, none⟩ u) :=
  World.ownsRow.kept h (grownBy_set w k o u) (by
    cases hv : v.ownBlock with
    | none => exact .inl rfl
    | some g => exact .inr (fun e => by have := (own_type h hv).choose_spec.2; have := Option.some.inj e; omega))

set_option maxRecDepth 100000 in
set_option maxHeartbeats 8000000 in
theorem ground_any (base k : Nat) (p : PS) (v : Value) (acts : List Say) (b : Nat) (hb : b < 256) (w : World) (hE : Env base k p v acts w) (hT : Tab w) : Calls Tryd.prog 34 #[.pointer (some ⟨k, 0, none⟩), .int .u8 (b : Int), v] w (MPost base k (groundS p b).1 (acts ++ (groundS p b).2) w) := by
  have HE := Lib.hid hE
  obtain ⟨P, hP⟩ : ∃ P, MPost base k (groundS p b).1 (acts ++ (groundS p b).2) w = P := ⟨_, rfl⟩
  rw [hP]
  have HP := Lib.hid hP
  have c1 := hE.blk.lead
  have c2 := hE.blk.rune
  have c3 := hE.blk.need
  have hN := next_any p.dec hE.ok.dec b hb w hT
  have hcnt := @Y.step_count p.dec b
  have hopn := Y.opn_le p.dec
  unfold groundS at HP
  obtain ⟨⟨d2, l⟩, hst⟩ : ∃ x, stepS p.dec b = x := ⟨_, rfl⟩
  rw [hst] at hN HP hcnt
  have hl2 : l.length ≤ 2 := by simp only at hcnt; omega
  simp only at HP hN
  unfold decV at hN
  have HN := Lib.hid hN
  clear hP hE hN hT hst hcnt hopn
  go_enter Tryd.func34, Tryd.ntmps34
  go_wp2_with fail
  refine HN.out.mono ?_
  rintro e w2 ⟨v', rfl, hown, hb2⟩
  obtain ⟨a, c, rfl, hin, hnil⟩ := toI_shape hown
  unfold decV
  have hB2 := HE.out.blk.belowAll hb2
  have hO2 := HE.out.own.belowAll hb2
  have hbw2 : base ≤ w2.heap.size := Nat.le_trans HE.out.bw hb2.size
  obtain ⟨w3, hw3⟩ : ∃ w3, w2.alloc (.cells #[.int .u8 (d2.lead : Int), .int .i32 (d2.rune : Int), .int .i64 (d2.need : Int)] 26) = w3 := ⟨_, rfl⟩
  have hD3 : Y.DBlk w2.heap.size (.int .u8 (d2.lead : Int)) (.int .i32 (d2.rune : Int)) (.int .i64 (d2.need : Int)) w3 := by rw [← hw3]; exact Y.DBlk.new _ _ _ _
  have hB3 : PBlk k p w3 := by rw [← hw3]; exact hB2.alloc _
  have hO3 : OwnA base v acts w3 := by rw [← hw3]; exact hO2.alloc _
  have hR3 : OwnR w.heap.size (.slice a l.length c) (toI l) w3 := by rw [← hw3]; exact World.ownsRow.alloc hown _
  have hK3 : Kept base k w w3 := by rw [← hw3]; exact Kept.of_below ((hb2.mono HE.out.bw).alloc hbw2 _) (Nat.le_refl _)
  have hkw : k < w.heap.size := Nat.lt_of_lt_of_le HE.out.kb HE.out.bw
  have hkn : k < w2.heap.size := Nat.lt_of_lt_of_le HE.out.kb hbw2
  have HW3 := Lib.hid hw3
  have HB3 := Lib.hid hB3
  have HO3 := Lib.hid hO3
  have HR3 := Lib.hid hR3
  have HK3 := Lib.hid hK3
  have HHd := Lib.hid hown
  clear hown hin hnil hb2 hB2 hO2 hB3 hO3 hR3 hK3 hw3 HN HHd
  go_upto_region 2 with fail
  rw [HW3.out]
  clear c1 c2 c3
  have e0 := hD3.c0
  have e1 := hD3.c1
  have e2 := hD3.c2
  have c1 := HB3.out.lead
  have c2 := HB3.out.rune
  have c3 := HB3.out.need
  have f1 := HB3.out.fr 1
  have f2 := HB3.out.fr 2
  have f3 := HB3.out.fr 3
  clear hD3
  obtain ⟨w4, hw4⟩ : ∃ w4, ((w3.setCell ⟨k, 1, none⟩ (.int .u8 (d2.lead : Int))).setCell ⟨k, 2, none⟩ (.int .i32 (d2.rune : Int))).setCell ⟨k, 3, none⟩ (.int .i64 (d2.need : Int)) = w4 := ⟨_, rfl⟩
  have hB4 : PBlk k { p with dec := d2 } w4 := by rw [← hw4]; exact HB3.out.setDec d2
  have hO4 : OwnA base v acts w4 := by
    rw [← hw4]
    exact HO3.out.turned HB3.out (gset 3 _ (gset 2 _ (gset 1 _ (grefl _ _))))
  have hR4 : OwnR w.heap.size (.slice a l.length c) (toI l) w4 := by rw [← hw4]; exact ownR_set (ownR_set (ownR_set HR3.out hkw) hkw) hkw
  have hK4 : Kept base k w w4 := by rw [← hw4]; exact ((HK3.out.setCell 1 _).setCell 2 _).setCell 3 _
  have HW4 := Lib.hid hw4
  have hbw4 : base ≤ w4.heap.size := Nat.le_trans HE.out.bw hK4.size
  have HPr := Lib.hid (printed_any base w.heap.size v acts a c l w4 hO4 hR4 hbw4 (by have := HE.out.few; omega))
  have HB4 := Lib.hid hB4
  have HK4 := Lib.hid hK4
  clear hB4 hO4 hR4 hK4 hw4
  go_upto_region 3 with fail
  rw [HW4.out]
  clear e0 e1 e2 c1 c2 c3 f1 f2 f3
  go_wp2_with fail
  refine HPr.out.mono ?_
  rintro e w5 ⟨v5, rfl, hO5, hb5⟩
  have HR : Hid (OwnA base v5 (acts ++ prints l) w5 ∧ PBlk k { p with dec := d2 } w5 ∧ Kept base k w w5) := Lib.hid ⟨hO5, HB4.out.below hb5 HE.out.kb, HK4.out.trans (Kept.of_below hb5 (Nat.le_refl _))⟩
  clear hO5 hb5 HPr
  go_wp2
  rw [← HP.out]
  exact ⟨v5, rfl, HR.out⟩

set_option maxRecDepth 100000 in
set_option maxHeartbeats 8000000 in
theorem any_any (base k : Nat) (p : PS) (v : Value) (acts : List Say) (b : Nat) (hb : b < 256) (hc : ctlB b) (w : World) (hE : Env base k p v acts w) : Calls Tryd.prog 30 #[.pointer (some ⟨k, 0, none⟩), .int .u8 (b : Int), v] w (MPost base k (anyS p b).1 (acts ++ (anyS p b).2) w) := by
  have HE := Lib.hid hE
  obtain ⟨P, hP⟩ : ∃ P, MPost base k (anyS p b).1 (acts ++ (anyS p b).2) w = P := ⟨_, rfl⟩
  rw [hP]
  have HP := Lib.hid hP
  have c1 := hE.blk.lead
  have c2 := hE.blk.rune
  have c3 := hE.blk.need
  have hN := end_any p.dec w
  have hl2 : (endS p.dec).length ≤ 1 := by unfold endS; split <;> simp
  obtain ⟨l, hst⟩ : ∃ l, endS p.dec = l := ⟨_, rfl⟩
  rw [hst] at hN hl2
  unfold decV at hN
  have HN := Lib.hid hN
  have HSt := Lib.hid hst
  have hb' : (b : Int) < 256 := by omega
  clear hP hE hN hst
  go_enter Tryd.func30, Tryd.ntmps30
  go_wp2_with fail
  refine HN.out.mono ?_
  rintro e w2 ⟨a, c, rfl, hown, hb2⟩
  have hB2 := HE.out.blk.belowAll hb2
  have hO2 := HE.out.own.belowAll hb2
  have hbw2 : base ≤ w2.heap.size := Nat.le_trans HE.out.bw hb2.size
  have hK2 : Kept base k w w2 := Kept.of_below hb2 HE.out.bw
  have HPr := Lib.hid (printed_any base w.heap.size v acts a c l w2 hO2 hown hbw2 (by have := HE.out.few; omega))
  have HB2 := Lib.hid hB2
  have HK2 := Lib.hid hK2
  clear hown hb2 hB2 hO2 hK2 HN
  go_wp2_with fail
  refine HPr.out.mono ?_
  rintro e w3 ⟨v4, rfl, hO3, hb3⟩
  have hB3 := HB2.out.below hb3 HE.out.kb
  have hK3 := HK2.out.trans (Kept.of_below hb3 (Nat.le_refl base))
  clear c1 c2 c3 HPr hb3
  have c1 := hB3.lead
  have c2 := hB3.rune
  have c3 := hB3.need
  have f1 := hB3.fr 1
  have f2 := hB3.fr 2
  have f3 := hB3.fr 3
  obtain ⟨w4, hw4⟩ : ∃ w4, ((w3.setCell ⟨k, 1, none⟩ (.int .u8 0)).setCell ⟨k, 2, none⟩ (.int .i32 0)).setCell ⟨k, 3, none⟩ (.int .i64 0) = w4 := ⟨_, rfl⟩
  have hB4 : PBlk k { p with dec := .zero } w4 := by rw [← hw4]; exact hB3.setDec .zero
  have hO4 : OwnA base v4 (acts ++ prints l) w4 := by
    rw [← hw4]
    exact hO3.turned hB3 (gset 3 _ (gset 2 _ (gset 1 _ (grefl _ _))))
  have hK4 : Kept base k w w4 := by rw [← hw4]; exact ((hK3.setCell 1 _).setCell 2 _).setCell 3 _
  have hbw4 : base ≤ w4.heap.size := Nat.le_trans HE.out.bw hK4.size
  have HW4 := Lib.hid hw4
  have HB4 := Lib.hid hB4
  have HO4 := Lib.hid hO4
  have HK4 := Lib.hid hK4
  have HEn := Lib.hid (fun s => enter_any k { p with dec := .zero } s w4 hB4)
  clear hB3 hK3 hO3 hB4 hO4 hK4 hw4
  go_upto_region 3 with fail
  rw [HW4.out]
  clear c1 c2 c3 f1 f2 f3
  by_cases h1 : b = 24 ∨ b = 26
  · have hs : anyS p b = (fresh 0, prints l) := by unfold anyS; rw [if_pos h1, HSt.out]
    have HS := Lib.hid hs
    clear hs
    rcases h1 with rfl | rfl
    all_goals
      go_wp2_with fail
      refine (HEn.out 0).mono ?_
      rintro e w5 ⟨rfl, hb5, hg5⟩
      have HR : Hid (OwnA base v4 (acts ++ prints l) w5 ∧ PBlk k (fresh 0) w5 ∧ Kept base k w w5) := Lib.hid ⟨HO4.out.turned HB4.out hg5, hb5, HK4.out.trans (Kept.of_grown hg5 hbw4)⟩
      clear hb5 hg5 HEn
      go_wp2
      rw [← HP.out, HS.out]
      exact ⟨v4, rfl, HR.out⟩
  · have q24 : ((b : Int) == 24) = false := by rw [beq_eq_false_iff_ne]; omega
    have q26 : ((b : Int) == 26) = false := by rw [beq_eq_false_iff_ne]; omega
    by_cases h2 : b = 27
    · have hs : anyS p b = (fresh 1, prints l) := by unfold anyS; rw [if_neg h1, if_pos h2, HSt.out]
      have HS := Lib.hid hs
      subst h2
      clear hs h1
      go_wp2_with fail
      refine (HEn.out 1).mono ?_
      rintro e w5 ⟨rfl, hb5, hg5⟩
      have HR : Hid (OwnA base v4 (acts ++ prints l) w5 ∧ PBlk k (fresh 1) w5 ∧ Kept base k w w5) := Lib.hid ⟨HO4.out.turned HB4.out hg5, hb5, HK4.out.trans (Kept.of_grown hg5 hbw4)⟩
      clear hb5 hg5 HEn
      go_wp2
      rw [← HP.out, HS.out]
      exact ⟨v4, rfl, HR.out⟩
    · have q27 : ((b : Int) == 27) = false := by rw [beq_eq_false_iff_ne]; omega
      by_cases h3 : b = 127
      · have hs : anyS p b = ({ p with dec := .zero }, prints l) := by unfold anyS; rw [if_neg h1, if_neg h2, if_pos h3, HSt.out]
        have HS := Lib.hid hs
        subst h3
        clear hs h1 h2 HEn
        go_wp2
        rw [← HP.out, HS.out]
        exact ⟨v4, rfl, HO4.out, HB4.out, HK4.out⟩
      · have hs : anyS p b = ({ p with dec := .zero }, prints l ++ [ctl b]) := by unfold anyS; rw [if_neg h1, if_neg h2, if_neg h3, HSt.out]
        have HS := Lib.hid hs
        have q127 : ((b : Int) == 127) = false := by rw [beq_eq_false_iff_ne]; omega
        have HFew : Hid (((acts ++ prints l).length : Int) ≤ 1000000) := Lib.hid (by have := HE.out.few; rw [List.length_append]; unfold prints; rw [List.length_map]; omega)
        clear hs h1 h2 h3 HEn
        go_wp2_with (at_builtin; refine wpList_append_act rfl _ _ rfl rfl base _ (acts ++ prints l) w4.heap.size (ctl b, .slice none 0 0) rfl rfl (HO4.out.alloc _) (act_one w4 (ctl b) (.slice none 0 0) _) (OwnI.nil _ _) HFew.out (by simp; omega) ?_)
        intro v' w5 hown5 hgr
        have HM := Lib.hid (said_more HO4.out HB4.out HE.out.kb hbw4 _ hown5 hgr)
        clear hown5 hgr
        go_wp2
        rw [← HP.out, HS.out]
        exact ⟨v', rfl, HM.out.1, HM.out.2.1, HK4.out.trans HM.out.2.2⟩
end Go.Proofs.YtfapmgecebcfaaaDoor.Q
