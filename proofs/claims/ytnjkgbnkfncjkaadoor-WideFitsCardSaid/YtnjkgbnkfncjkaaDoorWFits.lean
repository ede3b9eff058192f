/- WideFits: what fits fits, and one with columns more doesn't: the walk. -/
import Derived.Test.YtnjkgbnkfncjkaaDoorWArg
namespace Go.Proofs.YtnjkgbnkfncjkaaDoor.W
open Go.RowKit

set_option maxRecDepth 100000 in
set_option maxHeartbeats 2000000 in
theorem fits_walk (a : Option Addr) (len cap : Nat) (zs : List Int) (v : Int) (w : World) (hT : Tab w) (hA : Arg a len cap zs w) :
    Calls Tryd.prog 9 #[.slice a len cap, .int .i64 v] w fun e w' => e = .returned (.bool true) ∧ Below w.heap.size w w' := by
  have HT := Lib.hid hT
  have HA := Lib.hid hA
  obtain ⟨M, hM⟩ : ∃ M : Nat, min (len : Int) 40 = (M : Int) := ⟨min len 40, by omega⟩
  have hml : M ≤ len := by omega
  have hmc : (M : Int) ≤ cap := by have := hA.fit; omega
  have hm40 : (M : Int) ≤ 40 := by omega
  obtain ⟨V, hV⟩ : ∃ V : Nat, bits .and .i64 v 127 = (V : Int) := ⟨(v % 128).toNat, by rw [i64_and7]; omega⟩
  have hV2 : (V : Int) ≤ 127 := by have := i64_and7 v; omega
  have htop := hA.top
  obtain ⟨ys, hys⟩ : ∃ ys, zs.take M = ys := ⟨_, rfl⟩
  have hylen : ys.length = M := by rw [← hys, List.length_take]; have := hA.rs.1; omega
  have HRn : Hid (Rn a M ys w) := Lib.hid (by rw [← hys]; exact hA.rn hT hml (by omega))
  have HY := Lib.hid hylen
  clear hT hA hys hylen
  have H1 := Lib.hid (awake_any w HT.out)
  go_enter Tryd.func9, Tryd.ntmps9
  go_wp2_with fail
  refine H1.out.mono ?_
  rintro e w1 ⟨rfl, hb1⟩
  have HB1 := Lib.hid hb1
  have H2 := Lib.hid (fit_any V (by omega) (by omega) a M cap ys w1 (HRn.out.belowAll hb1))
  have hn1 := fitS_le ys V
  have hn2 := fitS_fits ys V (by omega)
  have hn3 := fitS_more ys V (by omega)
  obtain ⟨N, hN⟩ : ∃ N, fitS V ys = N := ⟨_, rfl⟩
  rw [hN] at H2 hn1 hn2 hn3
  rw [HY.out] at hn1 hn3
  have HN2 := Lib.hid hn2
  have HN3 := Lib.hid hn3
  clear hb1 H1 hn2 hn3 hN
  go_wp2_with fail
  refine H2.out.mono ?_
  rintro e w2 ⟨rfl, hb2⟩
  have HB2 := Lib.hid (HB1.out.trans (hb2.mono HB1.out.size))
  have HR2 := Lib.hid (HRn.out.belowAll HB2.out)
  have H3 := Lib.hid (sum_any a N cap (ys.take N) w2 (HR2.out.take hn1))
  obtain ⟨A, hA⟩ : ∃ A, sumS (ys.take N) = A := ⟨_, rfl⟩
  rw [hA] at H3
  have hAV : (A : Int) ≤ V := by have := HN2.out; omega
  have hd1 : decide (M < N) = false := by simp; omega
  have hd2 : decide (V < A) = false := by simp; omega
  have hnc : (N : Int) ≤ cap := by omega
  clear hb2 H2 hA
  go_wp2_with fail
  refine H3.out.mono ?_
  rintro e w3 ⟨rfl, hb3⟩
  have HB3 := Lib.hid (HB2.out.trans (hb3.mono HB2.out.size))
  have HR3 := Lib.hid (HRn.out.belowAll HB3.out)
  clear hb3 H3
  by_cases hNM : N = M
  · subst hNM
    go_wp2
    go_ret
    exact ⟨rfl, HB3.out⟩
  · have hlt : N < M := by omega
    have hne : ((N : Int) == (M : Int)) = false := by rw [beq_eq_false_iff_ne]; omega
    obtain ⟨h4, h5, _⟩ := HN3.out hlt
    have H4 := Lib.hid (sum_any a (N + 1) cap (ys.take (N + 1)) w3 (HR3.out.take hlt))
    obtain ⟨B, hB⟩ : ∃ B, sumS (ys.take (N + 1)) = B := ⟨_, rfl⟩
    rw [hB] at H4 h4
    have hd3 : decide (V < B) = true := by simp; omega
    have hnc1 : (N : Int) + 1 ≤ cap := by omega
    clear hB h4 hNM
    go_wp2_with fail
    refine H4.out.mono ?_
    rintro e w4 ⟨rfl, hb4⟩
    have HB4 := Lib.hid (HB3.out.trans (hb4.mono HB3.out.size))
    have HR4 := Lib.hid (HRn.out.belowAll HB4.out)
    have hNy : N < ys.length := by rw [HY.out]; exact hlt
    obtain ⟨b, off, rfl, hbl, hI⟩ := HR4.out.rs.2.resolve_left (by intro e; rw [e] at hNy; simp at hNy)
    have hc := hI N hNy
    obtain ⟨z, hz⟩ : ∃ z, ys.getD N 0 = z := ⟨_, rfl⟩
    rw [hz] at hc h5
    have H5 := Lib.hid (of_any z w4 HR4.out.tb)
    obtain ⟨C, hC⟩ : ∃ C, ofS z = C := ⟨_, rfl⟩
    rw [hC] at H5 h5
    clear hb4 H4 hNy hbl hI hz hC
    go_wp2_with fail
    refine H5.out.mono ?_
    rintro e w5 ⟨rfl, hb5⟩
    have HB5 := Lib.hid (HB4.out.trans (hb5.mono HB4.out.size))
    clear hb5 H5
    go_wp2
    go_ret
    exact ⟨rfl, HB5.out⟩
end Go.Proofs.YtnjkgbnkfncjkaaDoor.W
