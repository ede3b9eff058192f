/- The contract of the document's Read: of any bytes, what the parser says. -/
import Derived.Test.YtfapmgecebcfaaaDoorQOrder
import Derived.Test.YtfapmgecebcfaaaDoorMerged7
import Derived.Test.YtfapmgecebcfaaaDoorYRunes
namespace Go.Proofs.YtfapmgecebcfaaaDoor.Q
open Go.RowKit
open Go.Proofs.YtfapmgecebcfaaaDoor.W (OwnI OwnR IntsIn RunesIn)

/-- where the document's reading stands -/
def At (st : Nat) (body : List UInt8) (p : PS) : Prop := (st = 0 ∧ p = fresh 0) ∨ (st = 1 ∧ p = fresh 1) ∨ (st = 2 ∧ p = fresh 2) ∨ (st = 3 ∧ p = foldC (fresh 3) body ∧ ∀ c ∈ body, midB c) ∨ (st = 4 ∧ p = titP body)
def Rd (T : List UInt8) (j st : Nat) (body : List UInt8) (acts : List Say) : Prop :=
  ∃ p, feedS (fresh 0) (T.take j) = (p, acts) ∧ (At st body p ∨ (st = 1 ∧ p.state = 5 ∧ ∃ c, T[j]? = some c ∧ c.toNat ≠ 92))
theorem rd_start (T : List UInt8) : Rd T 0 0 [] [] := ⟨fresh 0, rfl, .inl (.inl ⟨rfl, rfl⟩)⟩
/-- one byte -/
theorem Rd.byte {T : List UInt8} {j st : Nat} {body : List UInt8} {acts : List Say} (h : Rd T j st body acts) (hj : j < T.length) :
    ∃ p, At st body p ∧ (feedS (fresh 0) (T.take (j + 1))) = ((takeS p T[j]).1, acts ++ (takeS p T[j]).2) := by
  obtain ⟨p, hf, hp⟩ := h
  have hts : T.take (j + 1) = T.take j ++ [T[j]] := List.take_succ_eq_append_getElem hj
  have hs := feedS_snoc (T.take j) T[j] (fresh 0)
  rw [← hts, hf] at hs
  rcases hp with hp | ⟨rfl, h5, c, hc, hne⟩
  · exact ⟨p, hp, hs⟩
  · refine ⟨fresh 1, .inr (.inl ⟨rfl, rfl⟩), ?_⟩
    have e : c = T[j] := by rw [List.getElem?_eq_getElem hj] at hc; exact (Option.some.inj hc).symm
    subst e
    rw [hs, take_five h5 hne]
theorem At.ctl {st : Nat} {body : List UInt8} {p : PS} (h : At st body p) (h0 : st ≠ 0) (h4 : st ≠ 4) : (p.state = 1 ∨ p.state = 2 ∨ p.state = 3) ∧ p.dec = .zero := by
  rcases h with ⟨h, _⟩ | ⟨_, rfl⟩ | ⟨_, rfl⟩ | ⟨_, rfl, hm⟩ | ⟨h, _⟩
  · exact absurd h h0
  · exact ⟨.inl rfl, rfl⟩
  · exact ⟨.inr (.inl rfl), rfl⟩
  · have := fold_state body (fresh 3) hm
    exact ⟨.inr (.inr this.1), this.2⟩
  · exact absurd h h4

theorem byte_more (B : ByteArray) (c : UInt8) {C : Nat} (hC : c.toNat = C) : (B ++ (⟨#[UInt8.ofNat C]⟩ : ByteArray)).data.toList = B.data.toList ++ [c] := by
  rw [← hC]; simp
theorem byte_more_size (B : ByteArray) (C : Nat) : (B ++ (⟨#[UInt8.ofNat C]⟩ : ByteArray)).size = B.size + 1 := by rw [ByteArray.size_append]; rfl
theorem overS_len (t : List UInt8) : (overS t).length ≤ 1 := by
  unfold overS
  split
  · split <;> simp
  · simp
theorem ordS_len (s : List UInt8) (b : Nat) : (ordS s b).length ≤ 1 := by
  have ht : ∀ pr t, (ordTail pr t b).length ≤ 1 := fun pr t => by
    unfold ordTail
    split
    · simp
    · split <;> simp
  unfold ordS
  split
  · split <;> exact ht _ _
  · exact ht _ _
theorem Rd.more {T : List UInt8} {j st : Nat} {body : List UInt8} {acts more : List Say} {p' : PS} (hf : feedS (fresh 0) (T.take (j + 1)) = (p', acts ++ more)) (hp : At st body p') : Rd T (j + 1) st body (acts ++ more) := ⟨p', hf, .inl hp⟩
theorem run_part {T : List UInt8} {j k : Nat} {acts : List Say} (hf : feedS (fresh 0) (T.take j) = (fresh 0, acts)) (hjk : j ≤ k) (hk : k ≤ T.length) (hnc : ∀ i (h : i < T.length), j ≤ i → i < k → ¬ ctlB T[i].toNat) {d : Y.St} {told : List Nat} (hr : Y.runS .zero ((T.take k).drop j) = (d, told)) : feedS (fresh 0) (T.take k) = ({ fresh 0 with dec := d }, acts ++ prints told) := by
  have e : T.take k = T.take j ++ (T.take k).drop j := by
    conv => lhs; rw [← List.take_append_drop j (T.take k)]
    rw [List.take_take, Nat.min_eq_left hjk]
  have hseg : ∀ b ∈ (T.take k).drop j, ¬ ctlB b.toNat := by
    intro b hb
    obtain ⟨i, hi, rfl⟩ := List.mem_iff_getElem.1 hb
    rw [List.getElem_drop, List.getElem_take]
    rw [List.length_drop, List.length_take] at hi
    exact hnc _ (by omega) (by omega) (by omega)
  have h2 := run_feed _ hseg
  rw [hr] at h2
  rw [e, feedS_append, hf, h2]
theorem ext_list {S : ByteArray} {T : List UInt8} (h : S = ⟨⟨T⟩⟩) (j k : Nat) : (S.extract j k).data.toList = (T.take k).drop j := by
  subst h
  simp [ByteArray.data_extract, List.extract, List.drop_take]
theorem acts_bound {T : List UInt8} {k : Nat} {p : PS} {acts : List Say} (hf : feedS (fresh 0) (T.take k) = (p, acts)) (hT : T.length ≤ 1000) : acts.length ≤ 2000 := by
  have h1 := feed_count (T.take k) (fresh 0)
  rw [hf] at h1
  have h2 := List.length_take_le k T
  have h3 := List.length_take_le' k T
  simp only at h1
  omega
theorem prints_len (l : List Nat) : (prints l).length = l.length := List.length_map ..

set_option maxRecDepth 100000 in
set_option maxHeartbeats 32000000 in
theorem read_any (S : ByteArray) (hsz : (S.size : Int) ≤ 1000) (w : World) : Calls Tryd.prog 14 #[.string S] w (XPost w.heap.size (feedS (fresh 0) S.data.toList).2 w) := by
  obtain ⟨base, hbase⟩ : ∃ base, w.heap.size = base := ⟨_, rfl⟩
  rw [hbase]
  obtain ⟨T, hT⟩ : ∃ T, S.data.toList = T := ⟨_, rfl⟩
  rw [hT]
  obtain ⟨P, hP⟩ : ∃ P, XPost base (feedS (fresh 0) T).2 w = P := ⟨_, rfl⟩
  rw [hP]
  have HP := Lib.hid hP
  have hS : S = ⟨⟨T⟩⟩ := bytes_ext hT
  have HS := Lib.hid hS
  have hst : S.size = T.length := by rw [← hT]; rfl
  obtain ⟨N, hN⟩ : ∃ N, T.length = N := ⟨_, rfl⟩
  rw [hN] at hst
  have HTN := Lib.hid hN
  obtain ⟨w1, hw1⟩ : ∃ w1, w.alloc (.cells #[] 47) = w1 := ⟨_, rfl⟩
  have hb1 : Below base w w1 := by rw [← hw1, ← hbase]; exact (Below.refl _ _).alloc (Nat.le_refl _) _
  have hO1 : OwnX base (.slice (some ⟨base, 0, none⟩) 0 0) [] w1 := by rw [← hw1, ← hbase]; exact OwnX.empty w _ (Nat.le_refl _)
  have hbw1 : base ≤ w1.heap.size := by have := hb1.size; omega
  have HB1 := Lib.hid hb1
  have HO1 := Lib.hid hO1
  have HW1 := Lib.hid hw1
  have HBs := Lib.hid hbase
  clear hP hT hS hN hw1 hb1 hO1 hbase
  go_enter Tryd.func14, Tryd.ntmps14
  go_upto_region 2 with fail
  rw [HW1.out, HBs.out]
  go_wp2_with fail
  go_loopw [3, 4, 5, 6] (fun o t a b wr => ∃ (j st : Nat) (B : ByteArray) (acts : List Say), a = .int .i64 (j : Int) ∧ t = .int .i64 (st : Int) ∧ b = .string B ∧ st ≤ 4 ∧ j ≤ N ∧ base ≤ wr.heap.size ∧ Hid (Below base w wr ∧ OwnX base o acts wr ∧ Rd T j st B.data.toList acts ∧ B.size ≤ j)) (fun _ _ a _ _ => N - (intOf a).toNat)
  case atStart => exact ⟨0, 0, ⟨#[]⟩, [], rfl, rfl, rfl, by omega, by omega, hbw1, Lib.hid ⟨HB1.out, HO1.out, rd_start T, Nat.le_refl 0⟩⟩
  case round =>
    rename_i wr
    obtain ⟨j, st, B, acts, rfl, rfl, rfl, hst4, hj, hbw, HF⟩ := hrel
    obtain ⟨hB, hO, hRd, hBz⟩ := HF.out
    have HB := Lib.hid hB
    have HO := Lib.hid hO
    have HBz := Lib.hid hBz
    have hal : ((acts.length : Nat) : Int) ≤ 1000000 := by
      obtain ⟨p, hf, _⟩ := hRd
      have h1 := feed_count (T.take j) (fresh 0)
      rw [hf] at h1
      have h2 := List.length_take_le j T
      simp only at h1
      omega
    have HAl := Lib.hid hal
    clear hB hO hBz HF hal
    by_cases hlt : j < N
    · have hd : decide (j < N) = true := by simp; omega
      have hjT : j < T.length := by rw [HTN.out]; exact hlt
      have hjS : j < S.size := by omega
      by_cases hs0 : st = 0
      · as_aux_lemma =>
          obtain rfl : st = 0 := hs0
          have hf0 : feedS (fresh 0) (T.take j) = (fresh 0, acts) := by
            obtain ⟨p, hf, hp⟩ := hRd
            rcases hp with (⟨_, rfl⟩ | ⟨h, _⟩ | ⟨h, _⟩ | ⟨h, _⟩ | ⟨h, _⟩) | ⟨h, _⟩
            · exact hf
            all_goals cases h
          have HF0 := Lib.hid hf0
          have hT1000 : T.length ≤ 1000 := by have := HTN.out; omega
          have HT1000 := Lib.hid hT1000
          clear hf0 hRd hT1000 hst4
          go_upto_region 8 with fail
          go_loop [7] (fun e => ∃ k : Nat, e = .int .i64 (k : Int) ∧ j ≤ k ∧ k ≤ N ∧ Hid (∀ i (h : i < T.length), j ≤ i → i < k → ¬ ctlB T[i].toNat)) (fun e => N - (intOf e).toNat)
          case atStart => exact ⟨j, rfl, by omega, by omega, Lib.hid (fun i _ h1 h2 => by omega)⟩
          case round =>
            obtain ⟨k, rfl, hjk, hkN, HNc⟩ := hrel
            have hL := ext_list HS.out j k
            have hLz : ((S.extract j k).size : Int) ≤ 1000 := by
              have : (S.extract j k).size = (S.extract j k).data.toList.length := rfl
              rw [this, hL, List.length_drop, List.length_take]; have := HTN.out; omega
            have HC1 := Lib.hid (Y.runes_any (S.extract j k) hLz wr)
            obtain ⟨r, hr⟩ : ∃ r, Y.runS .zero ((T.take k).drop j) = r := ⟨_, rfl⟩
            obtain ⟨d, told⟩ := r
            have hrun := run_part HF0.out hjk (by rw [HTN.out]; exact hkN) HNc.out hr
            have hbd := acts_bound hrun HT1000.out
            have htl : (told.length : Int) ≤ 100000 := by rw [List.length_append, prints_len] at hbd; omega
            unfold Y.AllPost at HC1
            rw [hL, hr] at HC1
            simp only at HC1
            obtain ⟨acts2, hacts2⟩ : ∃ x, acts ++ prints told = x := ⟨_, rfl⟩
            rw [hacts2] at hrun hbd
            have HA2 := Lib.hid hacts2
            have HRun := Lib.hid hrun
            have HBd := Lib.hid hbd
            have HTl := Lib.hid htl
            clear hL hLz hr hrun hbd htl hacts2
            have hjk' : (j : Int) ≤ k := by omega
            by_cases hk : k < N
            · have hdk : decide (k < N) = true := by simp; omega
              have hkT : k < T.length := by rw [HTN.out]; exact hk
              have hkS : k < S.size := by omega
              have hkS' : (k : Int) ≤ N := by omega
              obtain ⟨c, hc⟩ : ∃ c, T[k] = c := ⟨_, rfl⟩
              obtain ⟨C, hC⟩ : ∃ C, c.toNat = C := ⟨_, rfl⟩
              have eS : S[k] = c := by have h := HS.out; subst h; exact hc
              have fS : S[k].toNat = C := by rw [eS, hC]
              have hC256 : (C : Int) < 256 := by have := c.toNat_lt; omega
              clear eS
              by_cases hct : C < 32 ∨ C = 127
              · have hfd : feedS (fresh 0) (T.take (k + 1)) = (if C = 27 then fresh 1 else fresh 0, acts2 ++ prints (Y.endS d) ++ (if C = 24 ∨ C = 26 ∨ C = 27 ∨ C = 127 then [] else [ctl C])) := by
                  have hs := feedS_snoc (T.take k) T[k] (fresh 0)
                  rw [← List.take_succ_eq_append_getElem hkT, HRun.out, hc, take_run d (by rw [hC]; exact hct), any_ground, hC] at hs
                  rw [hs, List.append_assoc]
                have HFd := Lib.hid hfd
                clear hfd hc hC
                rcases hct with h32 | h127
                · have qlo : decide ((32 : Int) ≤ C) = false := by simp; omega
                  go_wp2_with fail
                  refine HC1.out.mono ?_
                  rintro e w4 ⟨a, cp, K, rfl, hI4, hB4, hK⟩
                  have HI4 := Lib.hid hI4
                  have HB4 := Lib.hid hB4
                  have HKz := Lib.hid hK
                  have HP4 := Lib.hid (refPrints_any _ a cp told w4 hI4 HTl.out)
                  have hbw4 : base ≤ w4.heap.size := Nat.le_trans hbw hB4.size
                  clear hI4 hB4 HC1 hK
                  go_wp2_with fail
                  refine HP4.out.mono ?_
                  rintro e w5 ⟨v5, rfl, hO5, hB5⟩
                  have HO5 := Lib.hid hO5
                  have HB5 : Hid (Below base w w5) := Lib.hid ((HB.out.trans (HB4.out.mono hbw)).trans (hB5.mono hbw4))
                  have HOb := Lib.hid ((HO.out.belowAll HB4.out).belowAll hB5)
                  have hbw5 : base ≤ w5.heap.size := Nat.le_trans hbw4 hB5.size
                  clear hO5 hB5 HP4
                  go_wp2_with (at_builtin; refine wpList_append_xs rfl _ _ rfl rfl base _ _ acts (prints told) rfl rfl HOb.out (HO5.out.weaken hbw4) HAl.out (by rw [prints_len]; have := HTl.out; omega) hbw5 ?_)
                  intro v6 w6 hown6 hgr
                  rw [HA2.out] at hown6
                  have HO6 := Lib.hid hown6
                  have HB6 : Hid (Below base w w6) := Lib.hid (HB5.out.grown hgr hbw5 (fun q hq => HOb.out.ownBlock q hq))
                  have hbw6 : base ≤ w6.heap.size := by have := hgr.size; omega
                  clear hown6 hgr HOb HO5 HB5 HI4
                  go_upto_if 55 with fail
                  go_cut [3] (fun o wx => Hid (OwnX base o (acts2 ++ prints (Y.endS d)) wx ∧ Below base w wx) ∧ base ≤ wx.heap.size)
                  case first =>
                    by_cases hK0 : K = 0
                    · have dK : decide ((0 : Int) < K) = false := by simp; omega
                      have he : Y.endS d = [] := by unfold Y.endS; rw [if_pos (HKz.out.1 hK0)]
                      have HE := Lib.hid he
                      clear he
                      go_wp2_with fail
                      go_meet
                      exact ⟨Lib.hid ⟨by rw [HE.out, show prints [] = [] from rfl, List.append_nil]; exact HO6.out, HB6.out⟩, hbw6⟩
                    · have dK : decide ((0 : Int) < K) = true := by simp; omega
                      have he : Y.endS d = [65533] := by unfold Y.endS; rw [if_neg (fun e => hK0 (HKz.out.2 e))]; rfl
                      have HE := Lib.hid he
                      have hbd2 : ((acts2.length : Nat) : Int) ≤ 1000000 := by have := HBd.out; omega
                      have HBd2 := Lib.hid hbd2
                      clear he hbd2
                      go_wp2_with (refine wpList_say base _ acts2 (prt 65533) rfl rfl rfl HO6.out rfl HBd2.out hbw6 ?_)
                      intro v7 w7 hown7 hgr7 hbw7
                      have HO7 := Lib.hid hown7
                      have HB7 : Hid (Below base w w7) := Lib.hid (hgr7 _ HB6.out)
                      clear hown7 hgr7
                      go_wp2_with fail
                      go_meet
                      exact ⟨Lib.hid ⟨by rw [HE.out]; exact HO7.out, HB7.out⟩, hbw7⟩
                  case rest =>
                  obtain ⟨HX, hbx⟩ := hcut
                  have hbd3 : (((acts2 ++ prints (Y.endS d)).length : Nat) : Int) ≤ 1000000 := by
                    have h1 : (Y.endS d).length ≤ 1 := by unfold Y.endS; split <;> simp
                    rw [List.length_append, prints_len]; have := HBd.out; omega
                  obtain ⟨acts3, hacts3⟩ : ∃ x, acts2 ++ prints (Y.endS d) = x := ⟨_, rfl⟩
                  rw [hacts3] at hbd3 HX HFd
                  have HBd3 := Lib.hid hbd3
                  have HO3 := Lib.hid HX.out.1
                  have HB3 := Lib.hid HX.out.2
                  clear hbd3 hacts3 HX HO6 HB6 hbw6 HBd HKz HB4 hbw4 hbw5
                  by_cases h1 : C = 24 ∨ C = 26
                  · have HRd : Hid (Rd T (k + 1) 0 B.data.toList acts3) := Lib.hid (by
                      have h := HFd.out
                      rw [if_neg (by omega), if_pos (by omega), List.append_nil] at h
                      exact ⟨_, h, .inl (.inl ⟨rfl, rfl⟩)⟩)
                    clear HFd h32
                    rcases h1 with rfl | rfl
                    all_goals
                      go_wp2
                      go_roundw
                      case rel => exact ⟨k + 1, 0, B, _, by go_num, rfl, rfl, by omega, by omega, hbx, Lib.hid ⟨HB3.out, HO3.out, HRd.out, by have := HBz.out; omega⟩⟩
                      case measure => simp [intOf] <;> omega
                  · by_cases h2 : C = 27
                    · have HRd : Hid (Rd T (k + 1) 1 B.data.toList acts3) := Lib.hid (by
                        have h := HFd.out
                        rw [if_pos h2, if_pos (by omega), List.append_nil] at h
                        exact ⟨_, h, .inl (.inr (.inl ⟨rfl, rfl⟩))⟩)
                      subst h2
                      clear HFd h32
                      go_wp2
                      go_roundw
                      case rel => exact ⟨k + 1, 1, B, _, by go_num, rfl, rfl, by omega, by omega, hbx, Lib.hid ⟨HB3.out, HO3.out, HRd.out, by have := HBz.out; omega⟩⟩
                      case measure => simp [intOf] <;> omega
                    · have q24 : ((C : Int) == 24) = false := by rw [beq_eq_false_iff_ne]; omega
                      have q26 : ((C : Int) == 26) = false := by rw [beq_eq_false_iff_ne]; omega
                      have q27 : ((C : Int) == 27) = false := by rw [beq_eq_false_iff_ne]; omega
                      have q32 : decide ((C : Int) < 32) = true := by simp; omega
                      have HRd : Hid (Rd T (k + 1) 0 B.data.toList (acts3 ++ [ctl C])) := Lib.hid (by
                        have h := HFd.out
                        rw [if_neg h2, if_neg (by omega)] at h
                        exact ⟨_, h, .inl (.inl ⟨rfl, rfl⟩)⟩)
                      clear HFd h1 h2 h32
                      go_wp2_with (refine wpList_say base _ acts3 (ctl C) rfl rfl rfl HO3.out rfl HBd3.out hbx ?_)
                      intro v8 w8 hown8 hgr8 hbw8
                      have HO8 := Lib.hid hown8
                      have HB8 : Hid (Below base w w8) := Lib.hid (hgr8 _ HB3.out)
                      clear hown8 hgr8
                      go_wp2
                      go_roundw
                      case rel => exact ⟨k + 1, 0, B, _, by go_num, rfl, rfl, by omega, by omega, hbw8, Lib.hid ⟨HB8.out, HO8.out, HRd.out, by have := HBz.out; omega⟩⟩
                      case measure => simp [intOf] <;> omega
                · as_aux_lemma =>
                    subst h127
                    go_wp2_with fail
                    refine HC1.out.mono ?_
                    rintro e w4 ⟨a, cp, K, rfl, hI4, hB4, hK⟩
                    have HI4 := Lib.hid hI4
                    have HB4 := Lib.hid hB4
                    have HKz := Lib.hid hK
                    have HP4 := Lib.hid (refPrints_any _ a cp told w4 hI4 HTl.out)
                    have hbw4 : base ≤ w4.heap.size := Nat.le_trans hbw hB4.size
                    clear hI4 hB4 HC1 hK
                    go_wp2_with fail
                    refine HP4.out.mono ?_
                    rintro e w5 ⟨v5, rfl, hO5, hB5⟩
                    have HO5 := Lib.hid hO5
                    have HB5 : Hid (Below base w w5) := Lib.hid ((HB.out.trans (HB4.out.mono hbw)).trans (hB5.mono hbw4))
                    have HOb := Lib.hid ((HO.out.belowAll HB4.out).belowAll hB5)
                    have hbw5 : base ≤ w5.heap.size := Nat.le_trans hbw4 hB5.size
                    clear hO5 hB5 HP4
                    go_wp2_with (at_builtin; refine wpList_append_xs rfl _ _ rfl rfl base _ _ acts (prints told) rfl rfl HOb.out (HO5.out.weaken hbw4) HAl.out (by rw [prints_len]; have := HTl.out; omega) hbw5 ?_)
                    intro v6 w6 hown6 hgr
                    rw [HA2.out] at hown6
                    have HO6 := Lib.hid hown6
                    have HB6 : Hid (Below base w w6) := Lib.hid (HB5.out.grown hgr hbw5 (fun q hq => HOb.out.ownBlock q hq))
                    have hbw6 : base ≤ w6.heap.size := by have := hgr.size; omega
                    clear hown6 hgr HOb HO5 HB5 HI4
                    go_upto_if 55 with fail
                    go_cut [3] (fun o wx => Hid (OwnX base o (acts2 ++ prints (Y.endS d)) wx ∧ Below base w wx) ∧ base ≤ wx.heap.size)
                    case first =>
                      by_cases hK0 : K = 0
                      · have dK : decide ((0 : Int) < K) = false := by simp; omega
                        have he : Y.endS d = [] := by unfold Y.endS; rw [if_pos (HKz.out.1 hK0)]
                        have HE := Lib.hid he
                        clear he
                        go_wp2_with fail
                        go_meet
                        exact ⟨Lib.hid ⟨by rw [HE.out, show prints [] = [] from rfl, List.append_nil]; exact HO6.out, HB6.out⟩, hbw6⟩
                      · have dK : decide ((0 : Int) < K) = true := by simp; omega
                        have he : Y.endS d = [65533] := by unfold Y.endS; rw [if_neg (fun e => hK0 (HKz.out.2 e))]; rfl
                        have HE := Lib.hid he
                        have hbd2 : ((acts2.length : Nat) : Int) ≤ 1000000 := by have := HBd.out; omega
                        have HBd2 := Lib.hid hbd2
                        clear he hbd2
                        go_wp2_with (refine wpList_say base _ acts2 (prt 65533) rfl rfl rfl HO6.out rfl HBd2.out hbw6 ?_)
                        intro v7 w7 hown7 hgr7 hbw7
                        have HO7 := Lib.hid hown7
                        have HB7 : Hid (Below base w w7) := Lib.hid (hgr7 _ HB6.out)
                        clear hown7 hgr7
                        go_wp2_with fail
                        go_meet
                        exact ⟨Lib.hid ⟨by rw [HE.out]; exact HO7.out, HB7.out⟩, hbw7⟩
                    case rest =>
                    obtain ⟨HX, hbx⟩ := hcut
                    have hbd3 : (((acts2 ++ prints (Y.endS d)).length : Nat) : Int) ≤ 1000000 := by
                      have h1 : (Y.endS d).length ≤ 1 := by unfold Y.endS; split <;> simp
                      rw [List.length_append, prints_len]; have := HBd.out; omega
                    obtain ⟨acts3, hacts3⟩ : ∃ x, acts2 ++ prints (Y.endS d) = x := ⟨_, rfl⟩
                    rw [hacts3] at hbd3 HX HFd
                    have HBd3 := Lib.hid hbd3
                    have HO3 := Lib.hid HX.out.1
                    have HB3 := Lib.hid HX.out.2
                    clear hbd3 hacts3 HX HO6 HB6 hbw6 HBd HKz HB4 hbw4 hbw5
                    have HRd : Hid (Rd T (k + 1) 0 B.data.toList acts3) := Lib.hid (by
                      have h := HFd.out
                      rw [if_neg (by decide), if_pos (by decide), List.append_nil] at h
                      exact ⟨_, h, .inl (.inl ⟨rfl, rfl⟩)⟩)
                    go_wp2
                    go_roundw
                    case rel => exact ⟨k + 1, 0, B, _, by go_num, rfl, rfl, by omega, by omega, hbx, Lib.hid ⟨HB3.out, HO3.out, HRd.out, by have := HBz.out; omega⟩⟩
                    case measure => simp [intOf] <;> omega
              · have q1 : decide ((32 : Int) ≤ C) = true := by simp; omega
                have q2 : ((C : Int) == 127) = false := by rw [beq_eq_false_iff_ne]; omega
                have HNc2 : Hid (∀ i (h : i < T.length), j ≤ i → i < k + 1 → ¬ ctlB T[i].toNat) := Lib.hid (fun i h h1 h2 => by
                  by_cases e : i = k
                  · subst e; rw [hc, hC]; exact hct
                  · exact HNc.out i h h1 (by omega))
                clear hct hc hC HC1
                go_wp2
                go_round
                case rel => exact ⟨k + 1, by go_num, by omega, by omega, HNc2⟩
                case measure => simp [intOf] <;> omega
            · obtain rfl : k = N := by omega
              have hdk : decide (k < k) = false := by simp
              have hfin : Hid (acts2 = (feedS (fresh 0) T).2) := Lib.hid (by
                have hf := HRun.out
                rw [List.take_of_length_le (Nat.le_of_eq HTN.out)] at hf
                rw [hf])
              have hkS' : (k : Int) ≤ k := by omega
              go_wp2_with fail
              refine HC1.out.mono ?_
              rintro e w4 ⟨a, cp, K, rfl, hI4, hB4, hK⟩
              have HI4 := Lib.hid hI4
              have HB4 := Lib.hid hB4
              have HP4 := Lib.hid (refPrints_any _ a cp told w4 hI4 HTl.out)
              have hbw4 : base ≤ w4.heap.size := Nat.le_trans hbw hB4.size
              clear hI4 hB4 HC1 hK
              go_wp2_with fail
              refine HP4.out.mono ?_
              rintro e w5 ⟨v5, rfl, hO5, hB5⟩
              have HO5 := Lib.hid hO5
              have HB5 : Hid (Below base w w5) := Lib.hid ((HB.out.trans (HB4.out.mono hbw)).trans (hB5.mono hbw4))
              have HOb := Lib.hid ((HO.out.belowAll HB4.out).belowAll hB5)
              have hbw5 : base ≤ w5.heap.size := Nat.le_trans hbw4 hB5.size
              clear hO5 hB5 HP4
              go_wp2_with (at_builtin; refine wpList_append_xs rfl _ _ rfl rfl base _ _ acts (prints told) rfl rfl HOb.out (HO5.out.weaken hbw4) HAl.out (by rw [prints_len]; have := HTl.out; omega) hbw5 ?_)
              intro v6 w6 hown6 hgr
              rw [HA2.out] at hown6
              have HO6 := Lib.hid hown6
              have HB6 : Hid (Below base w w6) := Lib.hid (HB5.out.grown hgr hbw5 (fun q hq => HOb.out.ownBlock q hq))
              clear hown6 hgr
              go_wp2
              rw [← HP.out, ← hfin.out]
              exact ⟨_, rfl, HO6.out, HB6.out⟩
      · obtain ⟨p, hAt, hfd⟩ := hRd.byte hjT
        obtain ⟨c, hc⟩ : ∃ c, T[j] = c := ⟨_, rfl⟩
        rw [hc] at hfd
        obtain ⟨C, hC⟩ : ∃ C, c.toNat = C := ⟨_, rfl⟩
        have eS : S[j] = c := by have h := HS.out; subst h; exact hc
        have fS : S[j].toNat = C := by rw [eS, hC]
        have hC256 : (C : Int) < 256 := by have := c.toNat_lt; omega
        have qs0 : ((st : Int) == 0) = false := by rw [beq_eq_false_iff_ne]; omega
        by_cases hs4 : st = 4
        · as_aux_lemma =>
            obtain rfl : st = 4 := hs4
            obtain rfl : p = titP B.data.toList := by
              rcases hAt with ⟨h, _⟩ | ⟨h, _⟩ | ⟨h, _⟩ | ⟨h, _⟩ | ⟨_, h⟩
              · cases h
              · cases h
              · cases h
              · cases h
              · exact h
            have htk := take_title B.data.toList c
            rw [hC] at htk
            clear hAt hs0 hRd hst4
            by_cases h1 : C = 7
            · rw [if_pos (.inl h1), if_pos h1] at htk
              rw [htk] at hfd
              have HRd : Hid (Rd T (j + 1) 0 B.data.toList (acts ++ overS (B.data.toList.take 200))) := Lib.hid ⟨_, hfd, .inl (.inl ⟨rfl, rfl⟩)⟩
              have HC := Lib.hid (titles_any B (by have := HBz.out; omega) wr)
              subst h1
              clear htk hfd hC eS
              go_wp2_with fail
              refine HC.out.mono ?_
              rintro e w4 ⟨v4, rfl, hO4, hB4⟩
              have HO4 := Lib.hid hO4
              have HB4 := Lib.hid hB4
              have hbw4 : base ≤ w4.heap.size := Nat.le_trans hbw hB4.size
              clear hO4 hB4 HC
              go_wp2_with (at_builtin; refine wpList_append_xs rfl _ _ rfl rfl base _ _ acts (overS (B.data.toList.take 200)) rfl rfl (HO.out.belowAll HB4.out) (HO4.out.weaken hbw) HAl.out (by have := overS_len (B.data.toList.take 200); omega) hbw4 ?_)
              intro v5 w5 hown5 hgr
              have HO5 := Lib.hid hown5
              have HB5 : Hid (Below base w w5) := Lib.hid ((HB.out.trans (HB4.out.mono hbw)).grown hgr hbw4 (fun q hq => HO.out.ownBlock q hq))
              have hbw5 : base ≤ w5.heap.size := by have := hgr.size; omega
              clear hown5 hgr
              go_wp2
              go_roundw
              case rel => exact ⟨j + 1, 0, B, _, by go_num, rfl, rfl, by omega, by omega, hbw5, Lib.hid ⟨HB5.out, HO5.out, HRd.out, by have := HBz.out; omega⟩⟩
              case measure => simp [intOf] <;> omega
            · have q7 : ((C : Int) == 7) = false := by rw [beq_eq_false_iff_ne]; omega
              rw [if_neg h1, ] at htk
              by_cases h2 : C = 24 ∨ C = 26
              · rw [if_pos (.inr h2)] at htk
                rw [htk, List.append_nil] at hfd
                have HRd : Hid (Rd T (j + 1) 0 B.data.toList acts) := Lib.hid ⟨_, hfd, .inl (.inl ⟨rfl, rfl⟩)⟩
                clear htk hfd hC eS h1 q7
                rcases h2 with rfl | rfl
                all_goals
                  go_wp2
                  go_roundw
                  case rel => exact ⟨j + 1, 0, B, _, by go_num, rfl, rfl, by omega, by omega, hbw, Lib.hid ⟨HB.out, HO.out, HRd.out, by have := HBz.out; omega⟩⟩
                  case measure => simp [intOf] <;> omega
              · have hq : ¬ (C = 7 ∨ C = 24 ∨ C = 26) := by omega
                rw [if_neg hq] at htk
                have q24 : ((C : Int) == 24) = false := by rw [beq_eq_false_iff_ne]; omega
                have q26 : ((C : Int) == 26) = false := by rw [beq_eq_false_iff_ne]; omega
                by_cases h3 : C = 27
                · rw [if_pos h3] at htk
                  rw [htk, List.append_nil] at hfd
                  have HFd := Lib.hid hfd
                  subst h3
                  clear htk hfd hC eS h1 h2 hq q24 q26
                  obtain ⟨J, hJ⟩ : ∃ J, j + 1 = J := ⟨_, rfl⟩
                  have eJ : (j : Int) + 1 = (J : Int) := by omega
                  rw [hJ] at HFd
                  by_cases hN1 : J = N
                  · have hfin : Hid (acts = (feedS (fresh 0) T).2) := Lib.hid (by
                      have hf := HFd.out
                      rw [List.take_of_length_le (by have := HTN.out; omega)] at hf
                      rw [hf])
                    have qN : ((J : Int) == (S.size : Int)) = true := by rw [beq_iff_eq]; omega
                    go_wp2
                    rw [← HP.out, ← hfin.out]
                    exact ⟨_, rfl, HO.out, HB.out⟩
                  · have hJT : J < T.length := by rw [HTN.out]; omega
                    have hJS : J < S.size := by omega
                    have qN : ((J : Int) == (S.size : Int)) = false := by rw [beq_eq_false_iff_ne]; omega
                    obtain ⟨d, hd'⟩ : ∃ d, T[J] = d := ⟨_, rfl⟩
                    obtain ⟨D, hD⟩ : ∃ D, d.toNat = D := ⟨_, rfl⟩
                    have eS : S[J] = d := by have h := HS.out; subst h; exact hd'
                    have fS2 : S[J].toNat = D := by rw [eS, hD]
                    by_cases h92 : D = 92
                    · have hfd2 : feedS (fresh 0) (T.take (J + 1)) = (fresh 0, acts ++ overS (B.data.toList.take 200)) := by
                        have hs := feedS_snoc (T.take J) T[J] (fresh 0)
                        rw [← List.take_succ_eq_append_getElem hJT, HFd.out, hd', take_closed B.data.toList (hD.trans h92)] at hs
                        exact hs
                      have HRd : Hid (Rd T (J + 1) 0 B.data.toList (acts ++ overS (B.data.toList.take 200))) := Lib.hid ⟨_, hfd2, .inl (.inl ⟨rfl, rfl⟩)⟩
                      have HC := Lib.hid (titles_any B (by have := HBz.out; omega) wr)
                      subst h92
                      clear hfd2 hD hd' eS
                      go_wp2_with fail
                      refine HC.out.mono ?_
                      rintro e w4 ⟨v4, rfl, hO4, hB4⟩
                      have HO4 := Lib.hid hO4
                      have HB4 := Lib.hid hB4
                      have hbw4 : base ≤ w4.heap.size := Nat.le_trans hbw hB4.size
                      clear hO4 hB4 HC
                      go_wp2_with (at_builtin; refine wpList_append_xs rfl _ _ rfl rfl base _ _ acts (overS (B.data.toList.take 200)) rfl rfl (HO.out.belowAll HB4.out) (HO4.out.weaken hbw) HAl.out (by have := overS_len (B.data.toList.take 200); omega) hbw4 ?_)
                      intro v5 w5 hown5 hgr
                      have HO5 := Lib.hid hown5
                      have HB5 : Hid (Below base w w5) := Lib.hid ((HB.out.trans (HB4.out.mono hbw)).grown hgr hbw4 (fun q hq => HO.out.ownBlock q hq))
                      have hbw5 : base ≤ w5.heap.size := by have := hgr.size; omega
                      clear hown5 hgr
                      go_wp2
                      go_roundw
                      case rel => exact ⟨J + 1, 0, B, _, by go_num, rfl, rfl, by omega, by omega, hbw5, Lib.hid ⟨HB5.out, HO5.out, HRd.out, by have := HBz.out; omega⟩⟩
                      case measure => simp [intOf] <;> omega
                    · have q92 : ((D : Int) == 92) = false := by rw [beq_eq_false_iff_ne]; omega
                      have HRd : Hid (Rd T J 1 B.data.toList acts) := Lib.hid ⟨_, HFd.out, .inr ⟨rfl, rfl, d, by rw [List.getElem?_eq_getElem hJT, hd'], by omega⟩⟩
                      clear hD hd' eS h92
                      go_wp2
                      go_roundw
                      case rel => exact ⟨J, 1, B, _, rfl, rfl, rfl, by omega, by omega, hbw, Lib.hid ⟨HB.out, HO.out, HRd.out, by have := HBz.out; omega⟩⟩
                      case measure => simp [intOf] <;> omega
                · have q27 : ((C : Int) == 27) = false := by rw [beq_eq_false_iff_ne]; omega
                  rw [if_neg h3] at htk
                  rw [htk, List.append_nil] at hfd
                  have HRd : Hid (Rd T (j + 1) 4 (B ++ (⟨#[UInt8.ofNat C]⟩ : ByteArray)).data.toList acts) := Lib.hid ⟨_, hfd, .inl (.inr (.inr (.inr (.inr ⟨rfl, by rw [byte_more B c hC]⟩))))⟩
                  have hBn : B.size ≤ 1000 := by have := HBz.out; omega
                  have hno : ¬ 9223372036854775807 < B.size + 1 := by omega
                  have hcv := Y.conv_bytes wr [C]
                  simp only [List.map_cons, List.map_nil, List.length_cons, List.length_nil] at hcv
                  clear htk hfd hC eS h1 h2 h3 hq
                  go_wp2
                  go_roundw
                  case rel => exact ⟨j + 1, 4, _, _, by go_num, rfl, rfl, by omega, by omega, by simp; omega, Lib.hid ⟨HB.out.alloc hbw _, HO.out.alloc _, HRd.out, by rw [byte_more_size]; have := HBz.out; omega⟩⟩
                  case measure => simp [intOf] <;> omega
        · have qs4 : ((st : Int) == 4) = false := by rw [beq_eq_false_iff_ne]; omega
          obtain ⟨hpst, hpd⟩ := hAt.ctl hs0 hs4
          by_cases hct : ctlB C
          · as_aux_lemma =>
              have htk := take_ctl hpst hpd (c := c) (by rw [hC]; exact hct)
              rw [hC] at htk
              by_cases h1 : C = 24 ∨ C = 26
              · have hq : C = 24 ∨ C = 26 ∨ C = 27 ∨ C = 127 := by omega
                rw [if_pos h1, if_pos hq] at htk
                rw [htk, List.append_nil] at hfd
                have HRd : Hid (Rd T (j + 1) 0 B.data.toList acts) := Lib.hid ⟨_, hfd, .inl (.inl ⟨rfl, rfl⟩)⟩
                clear htk hfd hpst hpd hAt hct hq hRd eS hC
                rcases h1 with rfl | rfl
                all_goals
                  go_wp2
                  go_roundw
                  case rel => exact ⟨j + 1, 0, B, _, by go_num, rfl, rfl, by omega, by omega, hbw, Lib.hid ⟨HB.out, HO.out, HRd.out, by have := HBz.out; omega⟩⟩
                  case measure => simp [intOf] <;> omega
              · by_cases h2 : C = 27
                · have hq : C = 24 ∨ C = 26 ∨ C = 27 ∨ C = 127 := by omega
                  rw [if_neg h1, if_pos h2, if_pos hq] at htk
                  rw [htk, List.append_nil] at hfd
                  have HRd : Hid (Rd T (j + 1) 1 B.data.toList acts) := Lib.hid ⟨_, hfd, .inl (.inr (.inl ⟨rfl, rfl⟩))⟩
                  subst h2
                  clear htk hfd hpst hpd hAt hct hq hRd eS hC h1
                  go_wp2
                  go_roundw
                  case rel => exact ⟨j + 1, 1, B, _, by go_num, rfl, rfl, by omega, by omega, hbw, Lib.hid ⟨HB.out, HO.out, HRd.out, by have := HBz.out; omega⟩⟩
                  case measure => simp [intOf] <;> omega
                · have q24 : ((C : Int) == 24) = false := by rw [beq_eq_false_iff_ne]; omega
                  have q26 : ((C : Int) == 26) = false := by rw [beq_eq_false_iff_ne]; omega
                  have q27 : ((C : Int) == 27) = false := by rw [beq_eq_false_iff_ne]; omega
                  by_cases h3 : C = 127
                  · have hq : C = 24 ∨ C = 26 ∨ C = 27 ∨ C = 127 := by omega
                    rw [if_neg h1, if_neg h2, if_pos hq] at htk
                    rw [htk, List.append_nil] at hfd
                    have HRd : Hid (Rd T (j + 1) st B.data.toList acts) := Lib.hid ⟨_, hfd, .inl hAt⟩
                    subst h3
                    clear htk hfd hpst hpd hAt hct hq hRd eS hC h1 h2
                    go_wp2
                    go_roundw
                    case rel => exact ⟨j + 1, st, B, _, by go_num, rfl, rfl, by omega, by omega, hbw, Lib.hid ⟨HB.out, HO.out, HRd.out, by have := HBz.out; omega⟩⟩
                    case measure => simp [intOf] <;> omega
                  · have hq : ¬ (C = 24 ∨ C = 26 ∨ C = 27 ∨ C = 127) := by omega
                    rw [if_neg h1, if_neg h2, if_neg hq] at htk
                    rw [htk] at hfd
                    have HRd : Hid (Rd T (j + 1) st B.data.toList (acts ++ [ctl C])) := Lib.hid ⟨_, hfd, .inl hAt⟩
                    have q32 : decide ((C : Int) < 32) = true := by
                      rcases hct with h | h
                      · simp; omega
                      · exact absurd h h3
                    clear htk hfd hpst hpd hAt hct hq hRd eS hC h1 h2 h3
                    go_wp2_with (refine wpList_say base _ acts (ctl C) rfl rfl rfl HO.out rfl HAl.out hbw ?_)
                    intro v4 w4 hown4 hgr hbw4
                    have HO4 := Lib.hid hown4
                    have HB4 : Hid (Below base w w4) := Lib.hid (hgr _ HB.out)
                    clear hown4 hgr
                    go_wp2
                    go_roundw
                    case rel => exact ⟨j + 1, st, B, _, by go_num, rfl, rfl, by omega, by omega, hbw4, Lib.hid ⟨HB4.out, HO4.out, HRd.out, by have := HBz.out; omega⟩⟩
                    case measure => simp [intOf] <;> omega
          · have hn1 : ¬ C < 32 := fun h => hct (.inl h)
            have hn2 : ¬ C = 127 := fun h => hct (.inr h)
            have q24 : ((C : Int) == 24) = false := by rw [beq_eq_false_iff_ne]; omega
            have q26 : ((C : Int) == 26) = false := by rw [beq_eq_false_iff_ne]; omega
            have q27 : ((C : Int) == 27) = false := by rw [beq_eq_false_iff_ne]; omega
            have q127 : ((C : Int) == 127) = false := by rw [beq_eq_false_iff_ne]; omega
            have q32 : decide ((C : Int) < 32) = false := by simp; omega
            have hctc : ¬ ctlB c.toNat := by rw [hC]; exact hct
            rcases hAt with ⟨h, _⟩ | ⟨rfl, rfl⟩ | ⟨rfl, rfl⟩ | ⟨rfl, rfl, hm⟩ | ⟨h, _⟩
            · exact absurd h hs0
            · as_aux_lemma =>
                have htk := take_esc hctc
                rw [hC] at htk
                unfold escS at htk
                clear hpst hpd hRd eS hs0 hs4 hst4
                by_cases h1 : C = 91
                · rw [if_pos h1] at htk
                  rw [htk, List.append_nil] at hfd
                  have HRd : Hid (Rd T (j + 1) 3 [] acts) := Lib.hid ⟨_, hfd, .inl (.inr (.inr (.inr (.inl ⟨rfl, rfl, fun _ h => by cases h⟩))))⟩
                  subst h1
                  clear htk hfd hct hctc hC hn1 hn2
                  go_wp2
                  go_roundw
                  case rel => exact ⟨j + 1, 3, ⟨#[]⟩, _, by go_num, rfl, rfl, by omega, by omega, hbw, Lib.hid ⟨HB.out, HO.out, HRd.out, Nat.zero_le _⟩⟩
                  case measure => simp [intOf] <;> omega
                · by_cases h2 : C = 93
                  · rw [if_neg h1, if_pos h2] at htk
                    rw [htk, List.append_nil] at hfd
                    have HRd : Hid (Rd T (j + 1) 4 [] acts) := Lib.hid ⟨_, hfd, .inl (.inr (.inr (.inr (.inr ⟨rfl, rfl⟩))))⟩
                    subst h2
                    clear htk hfd hct hctc hC hn1 hn2 h1
                    go_wp2
                    go_roundw
                    case rel => exact ⟨j + 1, 4, ⟨#[]⟩, _, by go_num, rfl, rfl, by omega, by omega, hbw, Lib.hid ⟨HB.out, HO.out, HRd.out, Nat.zero_le _⟩⟩
                    case measure => simp [intOf] <;> omega
                  · have q91 : ((C : Int) == 91) = false := by rw [beq_eq_false_iff_ne]; omega
                    have q93 : ((C : Int) == 93) = false := by rw [beq_eq_false_iff_ne]; omega
                    by_cases h3 : C < 48
                    · rw [if_neg h1, if_neg h2, if_pos h3] at htk
                      rw [htk, List.append_nil] at hfd
                      have HRd : Hid (Rd T (j + 1) 2 [] acts) := Lib.hid ⟨_, hfd, .inl (.inr (.inr (.inl ⟨rfl, rfl⟩)))⟩
                      have q48 : decide ((C : Int) < 48) = true := by simp; omega
                      clear htk hfd hct hctc hC hn1 hn2 h1 h2 h3
                      go_wp2
                      go_roundw
                      case rel => exact ⟨j + 1, 2, ⟨#[]⟩, _, by go_num, rfl, rfl, by omega, by omega, hbw, Lib.hid ⟨HB.out, HO.out, HRd.out, Nat.zero_le _⟩⟩
                      case measure => simp [intOf] <;> omega
                    · have q48 : decide ((C : Int) < 48) = false := by simp; omega
                      by_cases h4 : C < 127
                      · rw [if_neg h1, if_neg h2, if_neg h3, if_pos h4] at htk
                        rw [htk] at hfd
                        have HRd : Hid (Rd T (j + 1) 0 [] (acts ++ [esc C])) := Lib.hid ⟨_, hfd, .inl (.inl ⟨rfl, rfl⟩)⟩
                        have q1 : decide ((C : Int) < 127) = true := by simp; omega
                        clear htk hfd hct hctc hC hn1 hn2 h1 h2 h3 h4
                        go_wp2_with (refine wpList_say base _ acts (esc C) rfl rfl rfl HO.out rfl HAl.out hbw ?_)
                        intro v4 w4 hown4 hgr hbw4
                        have HO4 := Lib.hid hown4
                        have HB4 : Hid (Below base w w4) := Lib.hid (hgr _ HB.out)
                        clear hown4 hgr
                        go_wp2
                        go_roundw
                        case rel => exact ⟨j + 1, 0, ⟨#[]⟩, _, by go_num, rfl, rfl, by omega, by omega, hbw4, Lib.hid ⟨HB4.out, HO4.out, HRd.out, Nat.zero_le _⟩⟩
                        case measure => simp [intOf] <;> omega
                      · rw [if_neg h1, if_neg h2, if_neg h3, if_neg h4] at htk
                        rw [htk, List.append_nil] at hfd
                        have HRd : Hid (Rd T (j + 1) 0 [] acts) := Lib.hid ⟨_, hfd, .inl (.inl ⟨rfl, rfl⟩)⟩
                        have q1 : decide ((C : Int) < 127) = false := by simp; omega
                        clear htk hfd hct hctc hC hn1 hn2 h1 h2 h3 h4
                        go_wp2
                        go_roundw
                        case rel => exact ⟨j + 1, 0, ⟨#[]⟩, _, by go_num, rfl, rfl, by omega, by omega, hbw, Lib.hid ⟨HB.out, HO.out, HRd.out, Nat.zero_le _⟩⟩
                        case measure => simp [intOf] <;> omega
            · as_aux_lemma =>
                have htk := take_skip hctc
                rw [hC] at htk
                clear hpst hpd hRd eS hs0 hs4 hst4
                by_cases h1 : 48 ≤ C
                · rw [if_pos h1] at htk
                  rw [htk, List.append_nil] at hfd
                  have HRd : Hid (Rd T (j + 1) 0 B.data.toList acts) := Lib.hid ⟨_, hfd, .inl (.inl ⟨rfl, rfl⟩)⟩
                  have q48 : decide ((48 : Int) ≤ C) = true := by simp; omega
                  clear htk hfd hct hctc hC hn1 hn2 h1
                  go_wp2
                  go_roundw
                  case rel => exact ⟨j + 1, 0, B, _, by go_num, rfl, rfl, by omega, by omega, hbw, Lib.hid ⟨HB.out, HO.out, HRd.out, by have := HBz.out; omega⟩⟩
                  case measure => simp [intOf] <;> omega
                · rw [if_neg h1] at htk
                  rw [htk, List.append_nil] at hfd
                  have HRd : Hid (Rd T (j + 1) 2 B.data.toList acts) := Lib.hid ⟨_, hfd, .inl (.inr (.inr (.inl ⟨rfl, rfl⟩)))⟩
                  have q48 : decide ((48 : Int) ≤ C) = false := by simp; omega
                  clear htk hfd hct hctc hC hn1 hn2 h1
                  go_wp2
                  go_roundw
                  case rel => exact ⟨j + 1, 2, B, _, by go_num, rfl, rfl, by omega, by omega, hbw, Lib.hid ⟨HB.out, HO.out, HRd.out, by have := HBz.out; omega⟩⟩
                  case measure => simp [intOf] <;> omega
            · as_aux_lemma =>
                clear hpst hpd hRd eS hs0 hs4 hst4
                by_cases hmid : midB c
                · have htk := take_mid B.data.toList hm hctc hmid
                  rw [htk, List.append_nil] at hfd
                  have HRd : Hid (Rd T (j + 1) 3 (B ++ (⟨#[UInt8.ofNat C]⟩ : ByteArray)).data.toList acts) := Lib.hid ⟨_, hfd, .inl (.inr (.inr (.inr (.inl ⟨rfl, by rw [byte_more B c hC], fun x hx => by
                    rw [byte_more B c hC] at hx
                    rcases List.mem_append.1 hx with hx | hx
                    · exact hm x hx
                    · obtain rfl : x = c := by simpa using hx
                      exact hmid⟩))))⟩
                  have hBn : B.size ≤ 1000 := by have := HBz.out; omega
                  have hno : ¬ 9223372036854775807 < B.size + 1 := by omega
                  have hcv := Y.conv_bytes wr [C]
                  simp only [List.map_cons, List.map_nil, List.length_cons, List.length_nil] at hcv
                  have hr : (C < 64 ∨ (¬ C < 64 ∧ 126 < C)) := by unfold midB at hmid; omega
                  clear htk hfd hct hctc hC hm hmid hn1 hn2
                  rcases hr with h | ⟨h, h'⟩
                  · have d1 : decide ((C : Int) < 64) = true := by simp; omega
                    clear h
                    go_wp2
                    go_roundw
                    case rel => exact ⟨j + 1, 3, _, _, by go_num, rfl, rfl, by omega, by omega, by simp; omega, Lib.hid ⟨HB.out.alloc hbw _, HO.out.alloc _, HRd.out, by rw [byte_more_size]; have := HBz.out; omega⟩⟩
                    case measure => simp [intOf] <;> omega
                  · have d1 : decide ((C : Int) < 64) = false := by simp; omega
                    have d2 : decide ((126 : Int) < C) = true := by simp; omega
                    clear h h'
                    go_wp2
                    go_roundw
                    case rel => exact ⟨j + 1, 3, _, _, by go_num, rfl, rfl, by omega, by omega, by simp; omega, Lib.hid ⟨HB.out.alloc hbw _, HO.out.alloc _, HRd.out, by rw [byte_more_size]; have := HBz.out; omega⟩⟩
                    case measure => simp [intOf] <;> omega
                · have h64 : 64 ≤ C ∧ C < 127 := by unfold midB at hmid; omega
                  have htk := take_last B.data.toList hm (c := c) (by omega) (by omega)
                  rw [htk, hC] at hfd
                  have HRd : Hid (Rd T (j + 1) 0 B.data.toList (acts ++ ordS B.data.toList C)) := Lib.hid ⟨_, hfd, .inl (.inl ⟨rfl, rfl⟩)⟩
                  have d1 : decide ((C : Int) < 64) = false := by simp; omega
                  have d2 : decide ((126 : Int) < C) = false := by simp; omega
                  have HC := Lib.hid (order_any B (by have := HBz.out; omega) C wr)
                  clear htk hfd hct hctc hC hm hmid hn1 hn2 h64
                  go_wp2_with fail
                  refine HC.out.mono ?_
                  rintro e w4 ⟨v4, rfl, hO4, hB4⟩
                  have HO4 := Lib.hid hO4
                  have HB4 := Lib.hid hB4
                  have hbw4 : base ≤ w4.heap.size := Nat.le_trans hbw hB4.size
                  clear hO4 hB4 HC
                  go_wp2_with (at_builtin; refine wpList_append_xs rfl _ _ rfl rfl base _ _ acts (ordS B.data.toList C) rfl rfl (HO.out.belowAll HB4.out) (HO4.out.weaken hbw) HAl.out (by have := ordS_len B.data.toList C; omega) hbw4 ?_)
                  intro v5 w5 hown5 hgr
                  have HO5 := Lib.hid hown5
                  have HB5 : Hid (Below base w w5) := Lib.hid ((HB.out.trans (HB4.out.mono hbw)).grown hgr hbw4 (fun q hq => HO.out.ownBlock q hq))
                  have hbw5 : base ≤ w5.heap.size := by have := hgr.size; omega
                  clear hown5 hgr
                  go_wp2
                  go_roundw
                  case rel => exact ⟨j + 1, 0, B, _, by go_num, rfl, rfl, by omega, by omega, hbw5, Lib.hid ⟨HB5.out, HO5.out, HRd.out, by have := HBz.out; omega⟩⟩
                  case measure => simp [intOf] <;> omega
            · exact absurd h hs4
    · as_aux_lemma =>
        obtain rfl : j = N := by omega
        have hd : decide ((j : Int) < (j : Int)) = false := by simp
        have hfin : Hid (acts = (feedS (fresh 0) T).2) := Lib.hid (by
          obtain ⟨p, hf, _⟩ := hRd
          rw [List.take_of_length_le (Nat.le_of_eq HTN.out)] at hf
          rw [hf])
        clear hRd
        go_wp2
        rw [← HP.out, ← hfin.out]
        exact ⟨_, rfl, HO.out, HB.out⟩
end Go.Proofs.YtfapmgecebcfaaaDoor.Q
