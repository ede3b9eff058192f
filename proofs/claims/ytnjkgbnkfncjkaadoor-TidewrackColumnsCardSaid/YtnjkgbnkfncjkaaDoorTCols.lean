/- TidewrackColumns: of any bytes the runes that fit are a front of all, and are the same, written and read again: the walk. -/
import Derived.Test.YtnjkgbnkfncjkaaDoorYDec
import Derived.Test.YtnjkgbnkfncjkaaDoorYHeals
import Derived.Test.YtnjkgbnkfncjkaaDoorWArg
import Derived.RegionTactic
import Derived.Deep.RegionWith
import Derived.Deep.DeepCutAuto
import Derived.BigQuiet
import Derived.Lib.QuietBelow
namespace Go.Proofs.YtnjkgbnkfncjkaaDoor.T
open Go.RowKit Go.Proofs.YtnjkgbnkfncjkaaDoor.Y
open Go.Proofs.YtnjkgbnkfncjkaaDoor.W (OwnR OwnI RunesIn IntsIn isRune Rn ofS sumS fitS)

theorem dec97 : decS [97] = [97] := by decide +kernel
theorem of97 : ofS 97 = 1 := by decide
/-- What is decoded and cut is encoded and decoded again. -/
theorem again_dec {l : List Nat} (h : ∀ r ∈ l, validN r) (n : Nat) : decS (((toI l).take n).flatMap encS) = l.take n := by
  rw [encs_dec]
  unfold toI
  rw [← List.map_take, List.map_map]
  have : ∀ r ∈ l.take n, (fixI ∘ fun n : Nat => (n : Int)) r = r := fun r hr => fixI_id (h r (List.mem_of_mem_take hr))
  rw [List.map_congr_left this, List.map_id']

set_option maxRecDepth 100000 in
set_option maxHeartbeats 8000000 in
theorem cols_walk (s : ByteArray) (z : Int) (hs : (s.size : Int) ≤ 9223372036854775807) (w : World) (hY : Y.Tab w) (hW : W.Tab w) :
    Calls Tryd.prog 11 #[.string s, .int .i64 z] w fun e w' => e = .returned (.bool true) ∧ Below w.heap.size w w' := by
  have HS := Lib.hid hs
  obtain ⟨base, hbase⟩ : ∃ base, w.heap.size = base := ⟨_, rfl⟩
  have HYB : Hid (∀ w', Below base w w' → Y.Tab w') := Lib.hid (fun w' h => hY.belowAll (by rw [hbase]; exact h))
  have HWB : Hid (∀ w', Below base w w' → W.Tab w') := Lib.hid (fun w' h => hW.belowAll (by rw [hbase]; exact h))
  have HBs := Lib.hid hbase
  have h1 := W.of_any 97 w hW
  rw [of97] at h1
  have H1 := Lib.hid h1
  obtain ⟨V, hV⟩ : ∃ V : Nat, bits .and .i64 z 63 = (V : Int) := ⟨(z % 64).toNat, by rw [W.i64_and6]; omega⟩
  have hV2 : (V : Int) ≤ 63 := by have := W.i64_and6 z; omega
  rw [hbase]
  clear hY hW hs hbase h1
  go_enter Tryd.func11, Tryd.ntmps11
  go_wp2_with fail
  refine H1.out.mono ?_
  rintro e w1 ⟨rfl, hb1⟩
  rw [HBs.out] at hb1
  have hl1 := hb1.size
  rw [HBs.out] at hl1
  have HB1 := Lib.hid hb1
  have hd0 := decode_any ⟨#[97]⟩ (by decide) w1 (HYB.out w1 hb1)
  rw [show (⟨#[97]⟩ : ByteArray).data.toList = [97] from rfl, dec97] at hd0
  unfold NewRunes at hd0
  simp only [List.length_cons, List.length_nil, Nat.reduceAdd] at hd0
  have H2 := Lib.hid hd0
  clear hb1 H1 hd0
  go_wp2_with fail
  refine H2.out.mono ?_
  rintro e w2 ⟨a0, c0, rfl, -, hb2⟩
  have HB2 : Hid (Below base w w2) := Lib.hid (HB1.out.trans (hb2.mono hl1))
  have hl2 : base ≤ w2.heap.size := Nat.le_trans hl1 hb2.size
  clear hb2 H2
  go_wp2_with fail
  refine (cut_any s 80 HS.out (by decide) _).mono ?_
  rintro e w' ⟨⟨t, rfl, hts, htl⟩, rfl⟩
  have hd1 := decode_any t (by omega) w2 (HYB.out w2 HB2.out)
  have hval := dec_valid t.data.toList
  have hcnt := dec_count t.data.toList
  rw [show t.data.toList.length = t.size from rfl] at hcnt
  obtain ⟨l, hl⟩ : ∃ l, decS t.data.toList = l := ⟨_, rfl⟩
  rw [hl] at hd1 hval hcnt
  obtain ⟨m, hm⟩ : ∃ m, l.length = m := ⟨_, rfl⟩
  unfold NewRunes at hd1
  rw [hm] at hd1 hcnt
  have H3 := Lib.hid hd1
  have HVal := Lib.hid hval
  have HM := Lib.hid hm
  have hm80 : (m : Int) ≤ 80 := by omega
  clear htl hd1 hval hcnt hl hm
  go_wp2_with fail
  refine H3.out.mono ?_
  rintro e w3 ⟨a, c, rfl, hown, hb3⟩
  rw [← HM.out] at hown
  obtain ⟨a', c', hv, hin, hnil⟩ := toI_shape hown
  have hsh := hown.shape
  rw [HM.out] at hv hin
  injection hv with hv1 hv0 hv2
  clear hv0
  subst hv1 hv2
  have HB3 : Hid (Below base w w3) := Lib.hid (HB2.out.trans (hb3.mono hl2))
  have hl3 : base ≤ w3.heap.size := Nat.le_trans hl2 hb3.size
  obtain ⟨as3, cs3, hv, -, hlt3, -, hcap, hcap2⟩ := hsh
  rw [toI_len, HM.out] at hv
  injection hv with hv1 hv0 hv2
  clear hv0
  subst hv1 hv2
  rw [toI_len, HM.out] at hcap
  have hrn3 : Rn a m (toI l) w3 := ⟨hin, HWB.out w3 HB3.out, fun b hb => (hlt3 b hb).2, by rw [toI_len, HM.out]; omega⟩
  have HRn3 := Lib.hid hrn3
  have H4 := Lib.hid (W.fit_any V (by omega) (by omega) a m c (toI l) w3 hrn3)
  have hn1 := W.fitS_le (toI l) V
  have hn2 := W.fitS_fits (toI l) V (by omega)
  have hn3 := W.fitS_more (toI l) V (by omega)
  obtain ⟨N, hN⟩ : ∃ N, fitS V (toI l) = N := ⟨_, rfl⟩
  rw [hN] at H4 hn1 hn2 hn3
  rw [toI_len, HM.out] at hn1 hn3
  obtain ⟨A, hA⟩ : ∃ A, sumS ((toI l).take N) = A := ⟨_, rfl⟩
  rw [hA] at hn2 hn3
  have hd1 : decide (m < N) = false := by simp; omega
  have hd2 : decide (V < A) = false := by simp; omega
  have hnc : (N : Int) ≤ c := by omega
  have HN3 := Lib.hid hn3
  have HA := Lib.hid hA
  clear hown hb3 hin hnil hlt3 hrn3 hn2 hn3 hN hA H3
  go_wp2_with fail
  refine H4.out.mono ?_
  rintro e w4 ⟨rfl, hb4⟩
  have HB4 : Hid (Below base w w4) := Lib.hid (HB3.out.trans (hb4.mono hl3))
  have hl4 : base ≤ w4.heap.size := Nat.le_trans hl3 hb4.size
  have HRn4 := Lib.hid (HRn3.out.belowAll hb4)
  have h5 := W.sum_any a N c ((toI l).take N) w4 (HRn4.out.take hn1)
  rw [HA.out] at h5
  have H5 := Lib.hid h5
  clear hb4 H4 h5
  go_wp2_with fail
  refine H5.out.mono ?_
  rintro e w5 ⟨rfl, hb5⟩
  have HB5 : Hid (Below base w w5) := Lib.hid (HB4.out.trans (hb5.mono hl4))
  have hl5 : base ≤ w5.heap.size := Nat.le_trans hl4 hb5.size
  have HRn5 := Lib.hid (HRn4.out.belowAll hb5)
  have H6 := Lib.hid (encode_any a N c ((toI l).take N) w5 (HRn5.out.take hn1).rs)
  clear hb5 H5
  go_wp2_with fail
  refine H6.out.mono ?_
  rintro e w' ⟨⟨u, rfl, hu⟩, rfl⟩
  have husz : (u.size : Int) ≤ 320 := by
    have h1 : u.size = u.data.toList.length := rfl
    rw [h1, hu]
    have : ∀ l : List Int, (l.flatMap encS).length ≤ 4 * l.length := by
      intro l
      induction l with
      | nil => simp
      | cons z l ih =>
        have h4 : (encS z).length ≤ 4 := by unfold encS; rw [List.length_map]; exact encN_len.2
        rw [List.flatMap_cons, List.length_append, List.length_cons]
        omega
    have h2 := this ((toI l).take N)
    rw [List.length_take, toI_len, HM.out] at h2
    omega
  have hd2' := decode_any u (by omega) w5 (HYB.out w5 HB5.out)
  rw [hu, again_dec HVal.out N] at hd2'
  unfold NewRunes at hd2'
  have hlN : (l.take N).length = N := by rw [List.length_take, HM.out]; omega
  rw [hlN] at hd2'
  have H7 := Lib.hid hd2'
  have HLN := Lib.hid hlN
  clear hu husz hd2' hlN H6
  go_wp2_with fail
  refine H7.out.mono ?_
  rintro e w6 ⟨a6, c6, rfl, hown6, hb6⟩
  rw [← HLN.out] at hown6
  obtain ⟨a', c', hv, hin6, -⟩ := toI_shape hown6
  rw [HLN.out] at hv hin6
  injection hv with hv1 hv0 hv2
  clear hv0
  subst hv1 hv2
  have HB6 : Hid (Below base w w6) := Lib.hid (HB5.out.trans (hb6.mono hl5))
  have hl6 : base ≤ w6.heap.size := Nat.le_trans hl5 hb6.size
  have HRn6 := Lib.hid (HRn5.out.belowAll hb6)
  have HIn6 := Lib.hid hin6
  clear hown6 hb6 hin6 H7
  go_wp2_with fail
  go_loopw [51] (fun i wr => ∃ j : Nat, i = .int .i64 (j : Int) ∧ j ≤ N ∧ base ≤ wr.heap.size ∧ Hid (Below w6.heap.size w6 wr)) (fun i _ => N - (intOf i).toNat)
  case atStart => exact ⟨0, rfl, by omega, hl6, Lib.hid (Below.refl _ _)⟩
  case round =>
    rename_i wr
    obtain ⟨j, rfl, hj, hbw, HF⟩ := hrel
    by_cases hlt : j < N
    · have hjz : j < (toI l).length := by rw [toI_len, HM.out]; omega
      have hju : j < (toI (l.take N)).length := by rw [toI_len, HLN.out]; exact hlt
      obtain ⟨b1, o1, rfl, hl1', hI1⟩ := HRn6.out.rs.2.resolve_left (by intro e; rw [e] at hjz; simp at hjz)
      obtain ⟨b2, o2, rfl, hl2', hI2⟩ := HIn6.out.2.resolve_left (by intro e; rw [e] at hju; simp at hju)
      have k1 := (HF.out.cell (p := ⟨b1, o1 + j, none⟩) hl1').trans (hI1 j hjz)
      have k2 := (HF.out.cell (p := ⟨b2, o2 + j, none⟩) hl2').trans (hI2 j hju)
      have e12 : (toI (l.take N)).getD j 0 = (toI l).getD j 0 := by
        unfold toI
        rw [List.map_take]
        simp [List.getD_eq_getElem?_getD, List.getElem?_take, hlt]
      rw [e12] at k2
      obtain ⟨x, hx⟩ : ∃ x, (toI l).getD j 0 = x := ⟨_, rfl⟩
      rw [hx] at k1 k2
      clear hjz hju hI1 hI2 hl1' hl2' e12 hx
      go_wp2
      go_region
      all_goals
        go_wp2
        go_roundw
        case rel => exact ⟨j + 1, by go_num, by omega, hbw, Lib.hid HF.out.drew⟩
        case measure => simp [intOf]; omega
    · obtain rfl : j = N := by omega
      have HBr : Hid (Below base w wr) := Lib.hid (HB6.out.trans (HF.out.mono hl6))
      have HRnr := Lib.hid (HRn6.out.belowAll HF.out)
      clear HF
      by_cases hjm : j = m
      · have ejm : ((j : Int) == (m : Int)) = true := by rw [beq_iff_eq]; omega
        clear hjm
        go_upto_region 17 with fail
        refine wp_region_quiet_below (by kernel_rfl) (by kernel_rfl) ?_
        repeat (go_big_quiet_step (fail))
        refine wpQuiet_nil ?_
        intro _ hw'
        obtain ⟨⟨dq, osq⟩, hw''⟩ := hw'
        subst hw''
        go_wp2
        go_ret
        exact ⟨rfl, HBr.out.trans ((below_regrown _ _ _).mono hbw)⟩
      · have hjlt : j < m := by omega
        have ejm : ((j : Int) == (m : Int)) = false := by rw [beq_eq_false_iff_ne]; omega
        obtain ⟨_, _, h3⟩ := HN3.out hjlt
        have hjz : j < (toI l).length := by rw [toI_len, HM.out]; exact hjlt
        obtain ⟨b1, o1, rfl, hl1', hI1⟩ := HRnr.out.rs.2.resolve_left (by intro e; rw [e] at hjz; simp at hjz)
        have hc := hI1 j hjz
        obtain ⟨x, hx⟩ : ∃ x, (toI l).getD j 0 = x := ⟨_, rfl⟩
        rw [hx] at hc h3
        obtain ⟨C, hC⟩ : ∃ C, ofS x = C := ⟨_, rfl⟩
        rw [hC] at h3
        have e3 : decide ((V : Int) < (A : Int) + (C : Int)) = true := by rw [decide_eq_true_eq]; omega
        have hC2 : C ≤ 2 := by rw [← hC]; exact W.ofS_le x
        have hA2 : A ≤ 200 := by
          have h := W.sumS_le ((toI l).take j)
          rw [HA.out, List.length_take, toI_len, HM.out] at h
          omega
        have cS : ∀ d os, Calls Tryd.prog 26 #[.slice (some ⟨b1, o1, none⟩) j c] (Go.Sort.grow (redrawn wr d) os) fun en w'' => en = .returned (.int .i64 (A : Int)) ∧ ∃ p : Regrown, w'' = Go.Sort.grow (redrawn wr p.d) p.os := fun d os => by
          have h := W.sum_any (some ⟨b1, o1, none⟩) j c ((toI l).take j) (Go.Sort.grow (redrawn wr d) os) ((HRnr.out.take hn1).belowAll (below_regrown wr d os))
          rw [HA.out] at h
          exact Calls.regrown_of h
        have cO : ∀ d os, Calls Tryd.prog 24 #[.int .i32 x] (Go.Sort.grow (redrawn wr d) os) fun en w'' => en = .returned (.int .i64 (C : Int)) ∧ ∃ p : Regrown, w'' = Go.Sort.grow (redrawn wr p.d) p.os := fun d os => by
          have h := W.of_any x (Go.Sort.grow (redrawn wr d) os) (HRnr.out.tb.belowAll (below_regrown wr d os))
          rw [hC] at h
          exact Calls.regrown_of h
        have z0 := fun d os => cell_regrown hc d os
        have CS := Lib.hid cS
        have CO := Lib.hid cO
        clear cS cO hc hjz hI1 hl1' hx hC h3 hjm
        go_upto_region 17 with fail
        refine wp_region_quiet_below (by kernel_rfl) (by kernel_rfl) ?_
        repeat (go_big_quiet_step (first | exact CS.out _ _ | exact CO.out _ _))
        refine wpQuiet_nil ?_
        intro _ hw'
        obtain ⟨⟨dq, osq⟩, hw''⟩ := hw'
        subst hw''
        go_wp2
        go_ret
        exact ⟨rfl, HBr.out.trans ((below_regrown _ _ _).mono hbw)⟩
end Go.Proofs.YtnjkgbnkfncjkaaDoor.T
