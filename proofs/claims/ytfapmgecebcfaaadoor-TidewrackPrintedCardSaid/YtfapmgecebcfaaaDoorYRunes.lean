/- The contract of the document's own Runes: of all bytes at once, the runes that a decoder tells, and whether one is left. -/
import Derived.Test.YtfapmgecebcfaaaDoorYNeed
import Derived.Test.YtfapmgecebcfaaaDoorYRunesM
import Derived.Deep.DeepCutAuto
namespace Go.Proofs.YtfapmgecebcfaaaDoor.Y
open Go.RowKit
open Go.Proofs.YtfapmgecebcfaaaDoor.W (OwnR OwnI RunesIn IntsIn isRune runes_one ints_one wpList_append_ints grownBy_of_below)

/-- The numbers told, and how many bytes are left: none just if no sequence is open. -/
def AllPost (base : Nat) (L : List UInt8) (w : World) (e : Ending) (w' : World) : Prop := ∃ (a : Option Addr) (c K : Nat), e = .returned (.tuple #[.slice a (runS .zero L).2.length c, .int .i64 (K : Int)]) ∧ OwnI base (.slice a (runS .zero L).2.length c) (toI (runS .zero L).2) w' ∧ Below base w w' ∧ (K = 0 ↔ (runS .zero L).1.need = 0)
theorem drop_one (s : ByteArray) (k : Nat) (h : k < s.size) : s.data.toList.drop k = s[k] :: s.data.toList.drop (k + 1) := by
  rw [List.drop_eq_getElem_cons (by show k < s.size; exact h)]; rfl
theorem mods_cell {n : Nat} (h1 : 1 ≤ n) (h3 : n ≤ 3) : (#[Value.int .i64 0, .int .i64 32, .int .i64 16, .int .i64 8] : Array Value)[n]? = some (.int .i64 (modS n : Int)) ∧ 0 < modS n := by
  obtain rfl | rfl | rfl : n = 1 ∨ n = 2 ∨ n = 3 := by omega
  all_goals exact ⟨rfl, by decide⟩
theorem own_shape {base : Nat} {v : Value} {l : List Nat} {w : World} (h : OwnI base v (toI l) w) : ∃ a c, v = .slice a l.length c := by
  obtain ⟨a, c, hv, _⟩ := h.shape
  rw [toI_len] at hv
  exact ⟨a, c, hv⟩

set_option maxRecDepth 100000 in
set_option maxHeartbeats 8000000 in
theorem runes_any (s : ByteArray) (hs : (s.size : Int) ≤ 1000) (w : World) : Calls Tryd.prog 17 #[.string s] w (AllPost w.heap.size s.data.toList w) := by
  obtain ⟨base, hbase⟩ : ∃ base, w.heap.size = base := ⟨_, rfl⟩
  rw [hbase]
  obtain ⟨P, hP⟩ : ∃ P, AllPost base s.data.toList w = P := ⟨_, rfl⟩
  rw [hP]
  have HPost := Lib.hid hP
  obtain ⟨w1, hw1⟩ : ∃ w1, w.alloc (.cells #[] 3) = w1 := ⟨_, rfl⟩
  have hb1 : Below base w w1 := by rw [← hw1, ← hbase]; exact (Below.refl _ _).alloc (Nat.le_refl _) _
  have ho1 : OwnI base (.slice (some ⟨base, 0, none⟩) 0 0) (toI []) w1 := by rw [← hw1, ← hbase]; exact World.ownsRow_lit w #[] 0 (Nat.le_refl _) (by decide) rfl
  have hsz1 : base ≤ w1.heap.size := by rw [← hbase]; exact hb1.size
  have HB1 := Lib.hid hb1
  have HO1 := Lib.hid ho1
  have HW1 := Lib.hid hw1
  have HBs := Lib.hid hbase
  clear hP hb1 ho1 hw1 hbase
  go_enter Tryd.func17, Tryd.ntmps17
  go_wp2_with fail
  rw [HW1.out, HBs.out]
  go_loopw [4, 5] (fun o i wr => ∃ (j : Nat) (told : List Nat), i = .int .i64 (j : Int) ∧ j ≤ s.size ∧ base ≤ wr.heap.size ∧ Hid (Below base w wr ∧ OwnI base o (toI told) wr ∧ Upto s.data.toList j told)) (fun _ i _ => s.size - (intOf i).toNat)
  case atStart => exact ⟨0, [], rfl, by omega, hsz1, Lib.hid ⟨HB1.out, HO1.out, upto_start _⟩⟩
  case round =>
    rename_i wr
    obtain ⟨j, told, rfl, hj, hbw, HF⟩ := hrel
    by_cases hlt : j < s.size
    · have hdlt : decide (j < s.size) = true := by simpa using hlt
      have HL := Lib.hid (drop_one s j hlt)
      obtain ⟨c, hc⟩ : ∃ c, s[j] = c := ⟨_, rfl⟩
      rw [hc] at HL
      have hb256 : (c.toNat : Int) < 256 := by have := c.toNat_lt; omega
      have htold := HF.out.2.2.2
      have HOwn := Lib.hid HF.out.2.1
      by_cases h128 : (c.toNat : Int) < 128
      · have HU := Lib.hid (HF.out.2.2.more (k := 1) (by omega) (by rw [HL.out]; exact run_small _ (by omega)))
        go_wp2_with (at_builtin; refine wpList_append_ints rfl _ _ rfl rfl base _ (toI told) (some ⟨wr.heap.size, 0, none⟩) 1 1 [(c.toNat : Int)] rfl rfl (HOwn.out.alloc _) (ints_one wr (c.toNat : Int) _) (fun e => by cases e) (by rw [toI_len]; omega) (by simp) (by simp; omega) ?_)
        intro v' w9 hown9 hgr
        have HB9 : Hid (Below base w w9) := Lib.hid ((HF.out.1.alloc hbw _).grown hgr (by simp; omega) (fun q hq => HOwn.out.ownBlock q hq))
        have hbw9 : base ≤ w9.heap.size := by have := hgr.size; simp at this; omega
        have HOwn9 := Lib.hid hown9
        clear hown9 hgr
        go_wp2
        go_roundw
        case rel => exact ⟨j + 1, told ++ [c.toNat], by go_num, by omega, hbw9, Lib.hid ⟨HB9.out, by rw [toI_append]; exact HOwn9.out, HU.out⟩⟩
        case measure => simp [intOf]; omega
      · have HNd := Lib.hid (need_any c.toNat hb256 wr)
        unfold NeedPost at HNd
        obtain ⟨⟨n, lo, hi⟩, hnd⟩ : ∃ x, needS c.toNat = x := ⟨_, rfl⟩
        rw [hnd] at HNd
        simp only at HNd
        have hn1 : (needS c.toNat).1 = n := by rw [hnd]
        have hn2 : (needS c.toNat).2.1 = lo := by rw [hnd]
        have hn3 : (needS c.toNat).2.2 = hi := by rw [hnd]
        have HN1 := Lib.hid hn1
        have HN2 := Lib.hid hn2
        have HN3 := Lib.hid hn3
        clear hnd hn1 hn2 hn3
        go_wp2_with fail
        refine HNd.out.mono ?_
        rintro e w' ⟨rfl, rfl⟩
        by_cases h0 : n = 0
        · have d0 : ((n : Int) == 0) = true := by rw [beq_iff_eq]; omega
          have HU := Lib.hid (HF.out.2.2.more (k := 1) (by omega) (by rw [HL.out]; exact run_none _ (by omega) (by rw [HN1.out]; exact h0)))
          clear h0
          go_wp2_with (at_builtin; refine wpList_append_ints rfl _ _ rfl rfl base _ (toI told) (some ⟨wr.heap.size, 0, none⟩) 1 1 [65533] rfl rfl (HOwn.out.alloc _) (ints_one wr 65533 _) (fun e => by cases e) (by rw [toI_len]; omega) (by simp) (by simp; omega) ?_)
          intro v' w9 hown9 hgr
          have HB9 : Hid (Below base w w9) := Lib.hid ((HF.out.1.alloc hbw _).grown hgr (by simp; omega) (fun q hq => HOwn.out.ownBlock q hq))
          have hbw9 : base ≤ w9.heap.size := by have := hgr.size; simp at this; omega
          have HOwn9 := Lib.hid hown9
          clear hown9 hgr
          go_wp2
          go_roundw
          case rel => exact ⟨j + 1, told ++ [bad], by go_num, by omega, hbw9, Lib.hid ⟨HB9.out, by rw [toI_append]; exact HOwn9.out, HU.out⟩⟩
          case measure => simp [intOf]; omega
        · have d0 : ((n : Int) == 0) = false := by rw [beq_eq_false_iff_ne]; omega
          obtain ⟨x, _, _, _, _, _, hge1, hle3, hlo128, hhi191⟩ := lead_some (b := c.toNat) (by omega) c.toNat_lt (by rw [HN1.out]; exact h0)
          rw [HN1.out] at hge1 hle3
          rw [HN2.out] at hlo128
          rw [HN3.out] at hhi191
          obtain ⟨hcell, hmpos⟩ := mods_cell hge1 hle3
          obtain ⟨m, hm⟩ : ∃ m, modS n = m := ⟨_, rfl⟩
          rw [hm] at hcell hmpos
          obtain ⟨r0, hr0⟩ : ∃ r0, c.toNat % m = r0 := ⟨_, rfl⟩
          have hmod : (c.toNat : Int) % (m : Int) = (r0 : Int) := by rw [← hr0]; omega
          have HMid : Hid (Mid s.data.toList j c.toNat n 1 r0) := Lib.hid (by
            have h := mid_first HL.out (by omega) (by rw [HN1.out]; exact h0)
            rw [HN1.out, hm, hr0] at h
            exact h)
          obtain ⟨w2, hw2⟩ : ∃ w2, wr.alloc (.cells #[.int .i64 0, .int .i64 32, .int .i64 16, .int .i64 8] 3) = w2 := ⟨_, rfl⟩
          have hcell2 : w2.cell? ⟨wr.heap.size, n, none⟩ = some (.int .i64 (m : Int)) := by rw [← hw2, World.cell?_alloc_new]; exact hcell
          have hb2 : Below wr.heap.size wr w2 := by rw [← hw2]; exact (Below.refl _ _).alloc (Nat.le_refl _) _
          have HB2 : Hid (Below base w w2) := Lib.hid (HF.out.1.trans (hb2.mono hbw))
          have hbw2 : base ≤ w2.heap.size := Nat.le_trans hbw hb2.size
          have HOwn2 := Lib.hid (HOwn.out.belowAll hb2)
          have HW2 := Lib.hid hw2
          have HM0 := Lib.hid h0
          clear h0 hm hr0 hb2 hw2 hcell2
          go_upto_region 13 with fail
          rw [HW2.out, hmod]
          clear hcell hmod hmpos d0
          obtain ⟨hlo0, hhi0⟩ := lo_first HN1.out.symm
          rw [HN2.out] at hlo0
          rw [HN3.out] at hhi0
          have HLo0 := Lib.hid hlo0
          have HHi0 := Lib.hid hhi0
          have hr32 := HMid.out.bound (by omega) (by omega)
          clear hlo0 hhi0
          go_wp2_with fail
          go_loop [8, 9, 10, 11] (fun l' h' r' k' => ∃ k r : Nat, k' = .int .i64 (k : Int) ∧ r' = .int .i64 (r : Int) ∧ l' = .int .i64 (loS c.toNat (n + 1 - k) : Int) ∧ h' = .int .i64 (hiS c.toNat (n + 1 - k) : Int) ∧ 1 ≤ k ∧ k ≤ n + 1 ∧ j + k ≤ s.size ∧ r < 8388608 ∧ Hid (Mid s.data.toList j c.toNat n k r)) (fun _ _ _ k' => n + 1 - (intOf k').toNat)
          case atStart =>
            exact ⟨1, r0, rfl, rfl, by rw [show n + 1 - 1 = n from rfl, HLo0.out], by rw [show n + 1 - 1 = n from rfl, HHi0.out], by omega, by omega, by omega, hr32, HMid⟩
          case round =>
            obtain ⟨k, r, rfl, rfl, rfl, rfl, hk1, hkn, hjk, hrb, HMk⟩ := hrel
            obtain ⟨p, hp⟩ : ∃ p : Nat, (j : Int) + (k : Int) = (p : Int) := ⟨j + k, by omega⟩
            have hpj : j + k = p := by omega
            have HPJ := Lib.hid hpj
            obtain ⟨lk, hlk⟩ : ∃ lk, loS c.toNat (n + 1 - k) = lk := ⟨_, rfl⟩
            obtain ⟨hk', hhk⟩ : ∃ hk', hiS c.toNat (n + 1 - k) = hk' := ⟨_, rfl⟩
            rw [hlk, hhk]
            have HLk := Lib.hid hlk
            have HHk := Lib.hid hhk
            clear hlk hhk
            by_cases hkle : k ≤ n
            · have e1 : decide (k ≤ n) = true := by simpa using hkle
              have e1' : decide (n < k) = false := by simp; omega
              by_cases hps : p < s.size
              · have e2 : decide (p < s.size) = true := by simpa using hps
                have HLp := Lib.hid (drop_one s p hps)
                obtain ⟨c', hc'⟩ : ∃ c', s[p] = c' := ⟨_, rfl⟩
                rw [hc'] at HLp
                have hc256 : (c'.toNat : Int) < 256 := by have := c'.toNat_lt; omega
                have HLq : Hid (s.data.toList.drop (j + k) = c' :: s.data.toList.drop (j + (k + 1))) := Lib.hid (by rw [show j + (k + 1) = p + 1 by omega, hpj]; exact HLp.out)
                by_cases hin : lk ≤ c'.toNat ∧ c'.toNat ≤ hk'
                · have e3 : decide (c'.toNat < lk) = false := by rw [decide_eq_false_iff_not]; omega
                  have e4 : decide (hk' < c'.toNat) = false := by rw [decide_eq_false_iff_not]; omega
                  have HM2 : Hid (Mid s.data.toList j c.toNat n (k + 1) (r * 64 + c'.toNat % 64)) := Lib.hid (mid_next HMk.out (by omega) c.toNat_lt HN1.out.symm hk1 hkle HLq.out (by rw [HLk.out]; exact hin.1) (by rw [HHk.out]; exact hin.2))
                  have hr2 := HM2.out.bound (by omega) (by omega)
                  obtain ⟨hl2, hh2⟩ := lo_next HN1.out.symm hk1 hkle
                  have HL2 := Lib.hid hl2
                  have HH2 := Lib.hid hh2
                  have HKle := Lib.hid hkle
                  have HPs := Lib.hid hps
                  clear hin hl2 hh2 hpj
                  go_wp2
                  go_round
                  case rel =>
                    refine ⟨k + 1, r * 64 + c'.toNat % 64, by go_num, by go_num, by rw [HL2.out]; rfl, by rw [HH2.out]; rfl, by omega, ?_, ?_, hr2, HM2⟩
                    · have := HKle.out; omega
                    · have := HPs.out; have := HPJ.out; omega
                  case measure => have := HKle.out; simp [intOf]; omega
                · by_cases hlow : c'.toNat < lk
                  · have HU : Hid (Upto s.data.toList p (told ++ [bad])) := Lib.hid (by
                      have h := mid_not HMk.out (by omega) c.toNat_lt HN1.out.symm hk1 hkle HLq.out (by rw [HLk.out, HHk.out]; exact hin)
                      have h2 := HF.out.2.2.more hk1 h
                      rwa [hpj] at h2)
                    have e3 : decide (c'.toNat < lk) = true := by simpa using hlow
                    clear hin hpj
                    go_wp2_with (at_builtin; refine wpList_append_ints rfl _ _ rfl rfl base _ (toI told) (some ⟨w2.heap.size, 0, none⟩) 1 1 [65533] rfl rfl (HOwn2.out.alloc _) (ints_one w2 65533 _) (fun e => by cases e) (by rw [toI_len]; omega) (by simp) (by simp; omega) ?_)
                    intro v' w9 hown9 hgr
                    have HB9 : Hid (Below base w w9) := Lib.hid ((HB2.out.alloc hbw2 _).grown hgr (by simp; omega) (fun q hq => HOwn2.out.ownBlock q hq))
                    have hbw9 : base ≤ w9.heap.size := by have := hgr.size; simp at this; omega
                    have HOwn9 := Lib.hid hown9
                    clear hown9 hgr
                    go_wp2
                    go_roundw
                    case rel => exact ⟨p, told ++ [bad], by go_num, by omega, hbw9, Lib.hid ⟨HB9.out, by rw [toI_append]; exact HOwn9.out, HU.out⟩⟩
                    case measure => simp [intOf]; omega
                  · have HU : Hid (Upto s.data.toList p (told ++ [bad])) := Lib.hid (by
                      have h := mid_not HMk.out (by omega) c.toNat_lt HN1.out.symm hk1 hkle HLq.out (by rw [HLk.out, HHk.out]; exact hin)
                      have h2 := HF.out.2.2.more hk1 h
                      rwa [hpj] at h2)
                    have e3 : decide (c'.toNat < lk) = false := by simpa using hlow
                    have e4 : decide (hk' < c'.toNat) = true := by rw [decide_eq_true_eq]; omega
                    clear hin hpj
                    go_wp2_with (at_builtin; refine wpList_append_ints rfl _ _ rfl rfl base _ (toI told) (some ⟨w2.heap.size, 0, none⟩) 1 1 [65533] rfl rfl (HOwn2.out.alloc _) (ints_one w2 65533 _) (fun e => by cases e) (by rw [toI_len]; omega) (by simp) (by simp; omega) ?_)
                    intro v' w9 hown9 hgr
                    have HB9 : Hid (Below base w w9) := Lib.hid ((HB2.out.alloc hbw2 _).grown hgr (by simp; omega) (fun q hq => HOwn2.out.ownBlock q hq))
                    have hbw9 : base ≤ w9.heap.size := by have := hgr.size; simp at this; omega
                    have HOwn9 := Lib.hid hown9
                    clear hown9 hgr
                    go_wp2
                    go_roundw
                    case rel => exact ⟨p, told ++ [bad], by go_num, by omega, hbw9, Lib.hid ⟨HB9.out, by rw [toI_append]; exact HOwn9.out, HU.out⟩⟩
                    case measure => simp [intOf]; omega
              · have e2 : decide (p < s.size) = false := by simpa using hps
                have e5 : ((p : Int) == (s.size : Int)) = true := by rw [beq_iff_eq]; omega
                have hend := mid_end HMk.out hkle (by rw [hpj]; exact List.drop_of_length_le (by show s.size ≤ p; omega))
                have hall := HF.out.2.2.1
                rw [hend] at hall
                simp only [List.append_nil] at hall
                have HAll := Lib.hid hall
                obtain ⟨a4, c4, rfl⟩ := own_shape HOwn2.out
                clear hend hall hps hpj
                go_wp2
                rw [← HPost.out]
                unfold AllPost
                rw [HAll.out]
                exact ⟨a4, c4, k, rfl, HOwn2.out, HB2.out, by simp only; omega⟩
            · have hkn1 : k = n + 1 := by omega
              have e1 : decide (k ≤ n) = false := by simp; omega
              have e1' : decide (n < k) = true := by simp; omega
              have HU : Hid (Upto s.data.toList p (told ++ [r])) := Lib.hid (by
                have h2 := HF.out.2.2.more hk1 (HMk.out.2.1 hkn1)
                rwa [hpj] at h2)
              clear hkn1 hpj hkle
              go_wp2_with (at_builtin; refine wpList_append_ints rfl _ _ rfl rfl base _ (toI told) (some ⟨w2.heap.size, 0, none⟩) 1 1 [(r : Int)] rfl rfl (HOwn2.out.alloc _) (ints_one w2 (r : Int) _) (fun e => by cases e) (by rw [toI_len]; omega) (by simp) (by simp; omega) ?_)
              intro v' w9 hown9 hgr
              have HB9 : Hid (Below base w w9) := Lib.hid ((HB2.out.alloc hbw2 _).grown hgr (by simp; omega) (fun q hq => HOwn2.out.ownBlock q hq))
              have hbw9 : base ≤ w9.heap.size := by have := hgr.size; simp at this; omega
              have HOwn9 := Lib.hid hown9
              clear hown9 hgr
              go_wp2
              go_roundw
              case rel => exact ⟨p, told ++ [r], by go_num, by omega, hbw9, Lib.hid ⟨HB9.out, by rw [toI_append]; exact HOwn9.out, HU.out⟩⟩
              case measure => simp [intOf]; omega
    · obtain rfl : j = s.size := by omega
      have hall := HF.out.2.2.1
      have hd : s.data.toList.drop s.size = [] := List.drop_of_length_le (Nat.le_refl _)
      rw [hd] at hall
      have hall2 : runS .zero s.data.toList = (.zero, told) := by rw [hall]; simp [runS]
      have HAll := Lib.hid hall2
      have HOwn := Lib.hid HF.out.2.1
      obtain ⟨a4, c4, rfl⟩ := own_shape HOwn.out
      clear hall hd hall2
      go_wp2
      rw [← HPost.out]
      unfold AllPost
      rw [HAll.out]
      exact ⟨a4, c4, 0, rfl, HOwn.out, HF.out.1, by simp [St.zero]⟩
end Go.Proofs.YtfapmgecebcfaaaDoor.Y
