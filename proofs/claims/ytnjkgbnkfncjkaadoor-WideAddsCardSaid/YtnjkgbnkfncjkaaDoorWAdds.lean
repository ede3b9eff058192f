/- WideAdds: columns add up; with more columns no fewer runes fit: the walk. -/
import Derived.Test.YtnjkgbnkfncjkaaDoorWArg
import Derived.RegionTactic
import Derived.BigQuiet
import Derived.Deep.QuietTactic
namespace Go.Proofs.YtnjkgbnkfncjkaaDoor.W
open Go.RowKit

set_option maxRecDepth 100000 in
set_option maxHeartbeats 4000000 in
theorem adds_walk (a b : Option Addr) (la ca lb cb : Nat) (zs us : List Int) (v : Int) (w : World) (hT : Tab w) (hA : Arg a la ca zs w) (hB : Arg b lb cb us w) :
    Calls Tryd.prog 10 #[.slice a la ca, .slice b lb cb, .int .i64 v] w fun e w' => e = .returned (.bool true) ∧ Below w.heap.size w w' := by
  have HT := Lib.hid hT
  obtain ⟨M, hM⟩ : ∃ M : Nat, min (la : Int) 30 = (M : Int) := ⟨min la 30, by omega⟩
  have hml : M ≤ la := by omega
  have hmc : (M : Int) ≤ ca := by have := hA.fit; omega
  have hm30 : (M : Int) ≤ 30 := by omega
  obtain ⟨L, hL⟩ : ∃ L : Nat, min (lb : Int) 30 = (L : Int) := ⟨min lb 30, by omega⟩
  have hll : L ≤ lb := by omega
  have hlc : (L : Int) ≤ cb := by have := hB.fit; omega
  have hl30 : (L : Int) ≤ 30 := by omega
  obtain ⟨V, hV⟩ : ∃ V : Nat, bits .and .i64 v 63 = (V : Int) := ⟨(v % 64).toNat, by rw [i64_and6]; omega⟩
  have hV2 : (V : Int) ≤ 63 := by have := i64_and6 v; omega
  have htop := hA.top
  have htopb := hB.top
  obtain ⟨ys, hys⟩ : ∃ ys, zs.take M = ys := ⟨_, rfl⟩
  have hylen : ys.length = M := by rw [← hys, List.length_take]; have := hA.rs.1; omega
  have HRa : Hid (Rn a M ys w) := Lib.hid (by rw [← hys]; exact hA.rn hT hml (by omega))
  obtain ⟨xs, hxs⟩ : ∃ xs, us.take L = xs := ⟨_, rfl⟩
  have hxlen : xs.length = L := by rw [← hxs, List.length_take]; have := hB.rs.1; omega
  have HRb : Hid (Rn b L xs w) := Lib.hid (by rw [← hxs]; exact hB.rn hT hll (by omega))
  have HY := Lib.hid hylen
  have HX := Lib.hid hxlen
  have HNa := Lib.hid hA.nil
  have HNb := Lib.hid hB.nil
  clear hT hA hB hys hylen hxs hxlen
  have H1 := Lib.hid (awake_any w HT.out)
  obtain ⟨base, hbase⟩ : ∃ base, w.heap.size = base := ⟨_, rfl⟩
  have HBs := Lib.hid hbase
  clear hbase
  rw [HBs.out]
  go_enter Tryd.func10, Tryd.ntmps10
  go_wp2_with fail
  refine H1.out.mono ?_
  rintro e w1 ⟨rfl, hb1⟩
  rw [HBs.out] at hb1
  have hle1 := hb1.size
  rw [HBs.out] at hle1
  have HB1 := Lib.hid hb1
  clear hb1 H1
  go_wp2_with fail
  go_region
  have HBd : Hid (Below base w w1.drew) := Lib.hid HB1.out.drew
  have hled : base ≤ w1.drew.heap.size := hle1
  obtain ⟨wd, hwd⟩ : ∃ wd, w1.drew = wd := ⟨_, rfl⟩
  rw [hwd] at HBd hled ⊢
  have HRa2 := Lib.hid (HRa.out.belowAll (by rw [HBs.out]; exact HBd.out))
  have HRb2 := Lib.hid (HRb.out.belowAll (by rw [HBs.out]; exact HBd.out))
  have HO0 : Hid (OwnR base (.slice (some ⟨wd.heap.size, 0, none⟩) 0 0) [] (wd.alloc (.cells #[] 21))) := Lib.hid (World.ownsRow_lit wd #[] 0 hled (by decide) rfl)
  have hbA : Below wd.heap.size wd (wd.alloc (.cells #[] 21)) := (Below.refl _ _).alloc (Nat.le_refl _) _
  have HBA := Lib.hid hbA
  clear hwd hbA
  go_wp2_with (at_builtin; refine wpList_append_runes rfl _ _ rfl rfl base _ [] a M ca ys rfl rfl HO0.out (HRa2.out.rs.belowAll HBA.out) (fun e => (HNa.out e).2) (by simp) (by rw [HY.out]; omega) (by simp; omega) ?_)
  intro v1 w2 hown hgr
  have hbA2 : Below base w w2 := (HBd.out.trans (HBA.out.mono hled)).grown hgr (by simp; omega) (fun q hq => HO0.out.ownBlock q hq)
  have hle2 : base ≤ w2.heap.size := by have := hgr.size; simp at this; omega
  have HB2 := Lib.hid hbA2
  have HRb3 := Lib.hid (HRb.out.belowAll (by rw [HBs.out]; exact hbA2))
  have HO1 := Lib.hid hown
  clear hown hgr hbA2
  go_wp2_with (at_builtin; refine wpList_append_runes rfl _ _ rfl rfl base _ ys b L cb xs rfl rfl HO1.out HRb3.out.rs (fun e => (HNb.out e).2) (by rw [HY.out]; omega) (by rw [HX.out]; omega) hle2 ?_)
  intro v2 w3 hown hgr
  have hbA3 : Below base w w3 := HB2.out.grown hgr hle2 (fun q hq => HO1.out.ownBlock q hq)
  have hle3 : base ≤ w3.heap.size := Nat.le_trans hle2 hgr.size
  obtain ⟨al, hal⟩ : ∃ al, ys ++ xs = al := ⟨_, rfl⟩
  have hlen : al.length = M + L := by rw [← hal, List.length_append, HY.out, HX.out]
  have hsum : sumS al = sumS ys + sumS xs := by rw [← hal, sumS_append]
  rw [hal] at hown
  obtain ⟨a3, c3, rfl, hin, hlt3, hnil3, hc1, hc2⟩ := hown.shape
  rw [hlen] at hin ⊢
  have HB3 := Lib.hid hbA3
  have HTb : Hid (∀ w', Below base w w' → Tab w') := Lib.hid (fun w' h => HT.out.belowAll (by rw [HBs.out]; exact h))
  have HRn : Hid (Rn a3 (M + L) al w3) := Lib.hid ⟨hin, HTb.out _ hbA3, fun b hb => (hlt3 b hb).2, by rw [hlen]; omega⟩
  have HSum := Lib.hid hsum
  have HLen := Lib.hid hlen
  have H2 := Lib.hid (fit_any V (by omega) (by omega) a3 (M + L) c3 al w3 HRn.out)
  have hn1 := fitS_le al V
  have hmono := fitS_mono al V (V + 1) (by omega)
  have hall := fitS_all al V (by omega)
  obtain ⟨N, hN⟩ : ∃ N, fitS V al = N := ⟨_, rfl⟩
  obtain ⟨N2, hN2⟩ : ∃ N2, fitS (V + 1) al = N2 := ⟨_, rfl⟩
  rw [hN] at H2 hn1 hmono hall
  rw [hN2] at hmono
  have HN2 := Lib.hid hN2
  obtain ⟨S, hS⟩ : ∃ S, sumS al = S := ⟨_, rfl⟩
  obtain ⟨S1, hS1⟩ : ∃ S1, sumS ys = S1 := ⟨_, rfl⟩
  obtain ⟨S2, hS2⟩ : ∃ S2, sumS xs = S2 := ⟨_, rfl⟩
  have hs1 := sumS_le ys
  have hs2 := sumS_le xs
  rw [hS, hS1, hS2] at hsum
  rw [hS1, HY.out] at hs1
  rw [hS2, HX.out] at hs2
  rw [hS, hlen] at hall
  rw [hlen] at hn1
  have HS := Lib.hid hS
  have HS1 := Lib.hid hS1
  have HS2 := Lib.hid hS2
  have HAll := Lib.hid hall
  have HSm := Lib.hid hsum
  clear hown hgr hbA3 hal hlen hsum hin hlt3 hnil3 hc1 hc2 hN hN2 hS hS1 hS2 hall
  go_wp2_with fail
  refine H2.out.mono ?_
  rintro e w4 ⟨rfl, hb4⟩
  have HB4 := Lib.hid (HB3.out.trans (hb4.mono hle3))
  have hle4 : base ≤ w4.heap.size := Nat.le_trans hle3 hb4.size
  have HRn4 := Lib.hid (HRn.out.belowAll hb4)
  have H3 := Lib.hid (fit_any ((V : Int) + 1) (by omega) (by omega) a3 (M + L) c3 al w4 HRn4.out)
  rw [HN2.out] at H3
  clear hb4 H2
  go_wp2_with fail
  refine H3.out.mono ?_
  rintro e w5 ⟨rfl, hb5⟩
  have HB5 := Lib.hid (HB4.out.trans (hb5.mono hle4))
  have hle5 : base ≤ w5.heap.size := Nat.le_trans hle4 hb5.size
  have HRn5 := Lib.hid (HRn4.out.belowAll hb5)
  have H4 := Lib.hid (sum_any a3 (M + L) c3 al w5 HRn5.out)
  rw [HS.out] at H4
  clear hb5 H3
  go_wp2_with fail
  refine H4.out.mono ?_
  rintro e w6 ⟨rfl, hb6⟩
  have HB6 := Lib.hid (HB5.out.trans (hb6.mono hle5))
  have hle6 : base ≤ w6.heap.size := Nat.le_trans hle5 hb6.size
  have H5 := Lib.hid (sum_any a M ca ys w6 (HRa.out.belowAll (by rw [HBs.out]; exact HB6.out)))
  rw [HS1.out] at H5
  have HRn6 := Lib.hid (HRn5.out.belowAll hb6)
  clear hb6 H4
  go_wp2_with fail
  refine H5.out.mono ?_
  rintro e w7 ⟨rfl, hb7⟩
  have HB7 := Lib.hid (HB6.out.trans (hb7.mono hle6))
  have hle7 : base ≤ w7.heap.size := Nat.le_trans hle6 hb7.size
  have H6 := Lib.hid (sum_any b L cb xs w7 (HRb.out.belowAll (by rw [HBs.out]; exact HB7.out)))
  rw [HS2.out] at H6
  have HRn7 := Lib.hid (HRn6.out.belowAll hb7)
  clear hb7 H5
  have hd1 : ((S : Int) == (S1 : Int) + (S2 : Int)) = true := by rw [beq_iff_eq]; have := HSm.out; omega
  have hd2 : decide (N ≤ N2) = true := by simp; omega
  clear hmono
  go_wp2_with fail
  refine H6.out.mono ?_
  rintro e w8 ⟨rfl, hb8⟩
  have HB8 := Lib.hid (HB7.out.trans (hb8.mono hle7))
  have hle8 : base ≤ w8.heap.size := Nat.le_trans hle7 hb8.size
  have H7 := Lib.hid (sum_any a3 (M + L) c3 al w8 (HRn7.out.belowAll hb8))
  rw [HS.out] at H7
  clear hb8 H6
  go_wp2_with fail
  refine H7.out.mono ?_
  rintro e w9 ⟨rfl, hb9⟩
  have HB9 := Lib.hid (HB8.out.trans (hb9.mono hle8))
  clear hb9 H7
  have hall := HAll.out
  by_cases hc : V < S
  · have hd3 : decide (V < S) = true := by simpa using hc
    have hd4 : decide ((N : Int) < (M : Int) + (L : Int)) = true := by rw [decide_eq_true_eq]; omega
    clear hall hc
    go_wp2
    go_ret
    exact ⟨rfl, HB9.out⟩
  · have hd3 : decide (V < S) = false := by simpa using hc
    have hd4 : decide ((N : Int) < (M : Int) + (L : Int)) = false := by rw [decide_eq_false_iff_not]; omega
    clear hall hc
    go_wp2
    go_ret
    exact ⟨rfl, HB9.out⟩
end Go.Proofs.YtnjkgbnkfncjkaaDoor.W
