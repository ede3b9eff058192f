/- WideTells: how many columns runes have, and how many fit, is just the document's: the walk. -/
import Derived.Test.YtnjkgbnkfncjkaaDoorWArg
namespace Go.Proofs.YtnjkgbnkfncjkaaDoor.W
open Go.RowKit

set_option maxRecDepth 100000 in
set_option maxHeartbeats 4000000 in
theorem tells_walk (a : Option Addr) (len cap : Nat) (zs : List Int) (v : Int) (hv1 : -9223372036854775808 ≤ v) (hv2 : v ≤ 9223372036854775807) (w : World) (hT : Tab w) (hA : Arg a len cap zs w) :
    Calls Tryd.prog 8 #[.slice a len cap, .int .i64 v] w fun e w' => e = .returned (.bool true) ∧ Below w.heap.size w w' := by
  have HT := Lib.hid hT
  obtain ⟨M, hM⟩ : ∃ M : Nat, min (len : Int) 40 = (M : Int) := ⟨min len 40, by omega⟩
  have hml : M ≤ len := by omega
  have hmc : (M : Int) ≤ cap := by have := hA.fit; omega
  have hm40 : (M : Int) ≤ 40 := by omega
  have htop := hA.top
  have HV1 := Lib.hid hv1
  have HV2 := Lib.hid hv2
  obtain ⟨ys, hys⟩ : ∃ ys, zs.take M = ys := ⟨_, rfl⟩
  have hylen : ys.length = M := by rw [← hys, List.length_take]; have := hA.rs.1; omega
  have HRn : Hid (Rn a M ys w) := Lib.hid (by rw [← hys]; exact hA.rn hT hml (by omega))
  have HOk : Hid (∀ i, i < ys.length → isRune (ys.getD i 0)) := Lib.hid (by
    intro i hi
    have hm : ys.getD i 0 ∈ ys := by rw [List.getD_eq_getElem?_getD, List.getElem?_eq_getElem hi]; exact List.getElem_mem hi
    rw [← hys] at hm
    rw [← hys]
    exact hA.ok _ (List.mem_of_mem_take hm))
  have HY := Lib.hid hylen
  clear hT hA hys hylen hv1 hv2
  have H1 := Lib.hid (awake_any w HT.out)
  obtain ⟨base, hbase⟩ : ∃ base, w.heap.size = base := ⟨_, rfl⟩
  have HBs := Lib.hid hbase
  clear hbase
  rw [HBs.out]
  go_enter Tryd.func8, Tryd.ntmps8
  go_wp2_with fail
  refine H1.out.mono ?_
  rintro e w1 ⟨rfl, hb1⟩
  rw [HBs.out] at hb1
  have hle1 := hb1.size
  rw [HBs.out] at hle1
  have HB1 := Lib.hid hb1
  clear hb1 H1
  go_wp2_with fail
  go_loopw [5, 6, 20] (fun s x i wr => ∃ j A : Nat, i = .int .i64 (j : Int) ∧ s = .int .i64 (A : Int) ∧ j ≤ M ∧ A ≤ 2 * j ∧ base ≤ wr.heap.size ∧ Hid (Below base w wr ∧ A = sumS (ys.take j) ∧ OwnI base x (ys.take j) wr)) (fun _ _ i _ => M - (intOf i).toNat)
  case atStart => exact ⟨0, 0, rfl, rfl, by omega, by omega, hle1, Lib.hid ⟨HB1.out, rfl, OwnI.nil _ _⟩⟩
  case round =>
    rename_i wr
    obtain ⟨j, A, rfl, rfl, hj, hA, hbw, HF⟩ := hrel
    have HRw := Lib.hid (HRn.out.belowAll (by rw [HBs.out]; exact HF.out.1))
    by_cases hlt : j < M
    · have hjl : j < ys.length := by rw [HY.out]; exact hlt
      obtain ⟨b, off, rfl, hbl, hI⟩ := HRw.out.rs.2.resolve_left (by intro e; rw [e] at hjl; simp at hjl)
      have hc := hI j hjl
      obtain ⟨hz1, hz2⟩ := HOk.out j hjl
      have hts := take_snoc ys j hjl
      obtain ⟨z, hz⟩ : ∃ z, ys.getD j 0 = z := ⟨_, rfl⟩
      rw [hz] at hc hz1 hz2 hts
      have hO := refOf_any z wr
      rw [← ofS_ref z hz1 hz2] at hO
      have hof := ofS_le z
      have hO2 := fun w hT => of_any z w hT
      obtain ⟨C, hC⟩ : ∃ C, ofS z = C := ⟨_, rfl⟩
      rw [hC] at hO hof
      simp only [hC] at hO2
      have HO := Lib.hid hO
      have HO2 := Lib.hid hO2
      have HTs := Lib.hid hts
      have HF' : Hid (A + C = sumS (ys.take (j + 1))) := Lib.hid (by rw [hts, sumS_append, sumS_cons, hC, ← HF.out.2.1]; rfl)
      have hf40 : (ys.take j).length ≤ 40 := by rw [List.length_take]; omega
      clear hz hI hjl hbl hts hO hO2 hC
      go_wp2_with fail
      refine HO.out.mono ?_
      rintro e w2 ⟨rfl, hb2⟩
      have HRw2 := Lib.hid (HO2.out w2 (HRw.out.tb.belowAll hb2))
      have HB2 := Lib.hid hb2
      clear hb2
      go_wp2_with fail
      refine HRw2.out.mono ?_
      rintro e w3 ⟨rfl, hb3⟩
      have hb23 := HB2.out.trans (hb3.mono HB2.out.size)
      have hbw3 : base ≤ w3.heap.size := Nat.le_trans hbw hb23.size
      have HB3 : Hid (Below base w w3) := Lib.hid (HF.out.1.trans (hb23.mono hbw))
      have hown3 := HF.out.2.2.belowAll hb23
      have HOwn := Lib.hid hown3
      clear hb3 hb23 hown3
      go_wp2_with (at_builtin; refine wpList_append_ints rfl _ _ rfl rfl base _ (ys.take j) (some ⟨w3.heap.size, 0, none⟩) 1 1 [z] rfl rfl (HOwn.out.alloc _) (ints_one w3 z _) (fun e => by cases e) (by omega) (by simp) (by simp; omega) ?_)
      intro v' w4 hown4 hgr
      have HB4 : Hid (Below base w w4) := Lib.hid ((HB3.out.alloc hbw3 _).grown hgr (by simp; omega) (fun q hq => HOwn.out.ownBlock q hq))
      rw [← HTs.out] at hown4
      have HOwn4 := Lib.hid hown4
      have hbw4 : base ≤ w4.heap.size := by have := hgr.size; simp at this; omega
      clear hown4 hgr
      go_wp2
      go_roundw
      case rel => exact ⟨j + 1, A + C, by go_num, by go_num, by omega, by omega, hbw4, Lib.hid ⟨HB4.out, HF'.out, HOwn4.out⟩⟩
      case measure => simp [intOf]; omega
    · obtain rfl : j = M := by omega
      have hta : ys.take j = ys := by rw [← HY.out]; exact List.take_length
      obtain ⟨hB, hAs, hown⟩ := HF.out
      rw [hta] at hAs hown
      obtain ⟨a2, c2, rfl, hin, hlt2, hnil, hc1, hc2⟩ := hown.shape
      rw [HY.out] at hin
      rw [HY.out]
      have HIn := Lib.hid hin
      have HLt2 := Lib.hid hlt2
      have HAs := Lib.hid hAs
      have HB := Lib.hid hB
      have H2 := Lib.hid (fit_any v HV1.out HV2.out a j cap ys wr HRw.out)
      obtain ⟨N, hN⟩ : ∃ N, fitS v ys = N := ⟨_, rfl⟩
      rw [hN] at H2
      have HN := Lib.hid hN
      clear hta hB hAs hown hin hlt2 hnil hc1 hc2 HF hN
      go_wp2_with fail
      refine H2.out.mono ?_
      rintro e w2 ⟨rfl, hb2⟩
      have HB2 := Lib.hid (HB.out.trans (hb2.mono hbw))
      have hbw2 : base ≤ w2.heap.size := Nat.le_trans hbw hb2.size
      have H3 := Lib.hid (sum_any a j cap ys w2 (HRw.out.belowAll hb2))
      rw [← HAs.out] at H3
      have HIn2 := Lib.hid (HIn.out.belowAll hb2)
      clear hb2 H2
      by_cases hneg : v < 0
      · have hN0 : N = 0 := by rw [← HN.out, fitS_neg _ _ hneg]
        subst hN0
        go_wp2_with fail
        refine H3.out.mono ?_
        rintro e w3 ⟨rfl, hb3⟩
        have HB3 := Lib.hid (HB2.out.trans (hb3.mono hbw2))
        clear hb3 H3
        go_wp2
        go_ret
        exact ⟨rfl, HB3.out⟩
      · go_wp2_with fail
        refine H3.out.mono ?_
        rintro e w3 ⟨rfl, hb3⟩
        have HB3 := Lib.hid (HB2.out.trans (hb3.mono hbw2))
        have hbw3 : base ≤ w3.heap.size := Nat.le_trans hbw2 hb3.size
        have H4 := Lib.hid (refFit_any v a2 j c2 ys (by rw [HY.out]; omega) HOk.out w3 (HIn2.out.belowAll hb3))
        rw [HN.out] at H4
        clear hb3 H3
        go_wp2_with fail
        refine H4.out.mono ?_
        rintro e w4 ⟨rfl, hb4⟩
        have HB4 := Lib.hid (HB3.out.trans (hb4.mono hbw3))
        clear hb4 H4
        go_wp2
        go_ret
        exact ⟨rfl, HB4.out⟩
end Go.Proofs.YtnjkgbnkfncjkaaDoor.W
