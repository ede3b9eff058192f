/- The contract of the document's own Fit: of any runes, how many fit. -/
import Derived.Test.YtnjkgbnkfncjkaaDoorWRef
import Derived.Test.YtnjkgbnkfncjkaaDoorWApp
namespace Go.Proofs.YtnjkgbnkfncjkaaDoor.W
open Go.RowKit



set_option maxRecDepth 100000 in
set_option maxHeartbeats 2000000 in
theorem refFit_any (v : Int) (a : Option Addr) (len cap : Nat) (zs : List Int) (hfew : (zs.length : Int) ≤ 1000000) (hr : ∀ i, i < zs.length → isRune (zs.getD i 0)) (w : World) (h : IntsIn a len zs w) :
    Calls Tryd.prog 27 #[.int .i64 v, .slice a len cap] w fun e w' => e = .returned (.int .i64 (fitS v zs : Int)) ∧ Below w.heap.size w w' := by
  obtain ⟨R, hR⟩ : ∃ R, fitS v zs = R := ⟨_, rfl⟩
  rw [hR]
  have HR := Lib.hid hR
  have HI := Lib.hid h
  have HRu := Lib.hid hr
  have hl := h.1
  rw [← hl] at hfew
  have HLen := Lib.hid hl
  obtain ⟨base, hbase⟩ : ∃ base, w.heap.size = base := ⟨_, rfl⟩
  have hsz : base ≤ w.heap.size := by omega
  have h0 : Below base w w := Below.refl _ _
  have HB0 := Lib.hid h0
  have HBs := Lib.hid hbase
  rw [hbase]
  clear hR h hr hl h0 hbase
  go_enter Tryd.func27, Tryd.ntmps27
  go_wp2
  go_loopw [5, 10] (fun s i wr => ∃ j A : Nat, i = .int .i64 (j : Int) ∧ s = .int .i64 (A : Int) ∧ j ≤ len ∧ A ≤ 2 * j ∧ base ≤ wr.heap.size ∧ Hid (Below base w wr ∧ A = sumS (zs.take j) ∧ fitS v (zs.take j) = j)) (fun _ i _ => len - (intOf i).toNat)
  case atStart => exact ⟨0, 0, rfl, rfl, by omega, by omega, hsz, Lib.hid ⟨HB0.out, rfl, rfl⟩⟩
  case round =>
    rename_i wr
    obtain ⟨j, A, rfl, rfl, hj, hA, hbw, HF⟩ := hrel
    by_cases hlt : j < len
    · have hjl : j < zs.length := by rw [← HLen.out]; exact hlt
      obtain ⟨b, off, rfl, hbl, hI⟩ := HI.out.2.resolve_left (by intro e; rw [e] at hjl; simp at hjl)
      have hc := ((HF.out.1).cell (p := ⟨b, off + j, none⟩) (by rw [← HBs.out]; exact hbl)).trans (hI j hjl)
      have hru := HRu.out j hjl
      have hts := take_snoc zs j hjl
      obtain ⟨z, hz⟩ : ∃ z, zs.getD j 0 = z := ⟨_, rfl⟩
      rw [hz] at hc hru hts
      have hO := refOf_any z wr
      rw [← ofS_ref z hru.1 hru.2] at hO
      have hof := ofS_le z
      obtain ⟨C, hC⟩ : ∃ C, ofS z = C := ⟨_, rfl⟩
      rw [hC] at hO hof
      have HO := Lib.hid hO
      have HT := Lib.hid hts
      have HC := Lib.hid hC
      have hjm : j ≤ zs.length := by omega
      have hlen2 : (zs.take j).length = j := by rw [List.length_take]; omega
      have hstep : ((A : Int) + C ≤ v → fitS v (zs.take (j + 1)) = j + 1) ∧ (v < (A : Int) + C → fitS v zs = j) := by
        have hf := HF.out.2.2
        have hs := HF.out.2.1
        constructor
        · intro hx
          rw [hts, fitS_snoc (by rw [hlen2]; exact hf) (by rw [← hs, hC]; omega)]
          simp
          omega
        · intro hx
          have := fitS_stop (x := z) (by rw [hlen2]; exact hf) (by rw [← hs, hC]; omega) zs (j + 1) hts.symm
          rw [this, hlen2]
      have HStep := Lib.hid hstep
      have HF' : Hid (A + C = sumS (zs.take (j + 1))) := Lib.hid (by rw [hts, sumS_append, sumS_cons, hC, ← HF.out.2.1]; rfl)
      clear hz hI hjl hbl hru hts hO hC hjm hlen2 hstep
      go_wp2_with fail
      refine HO.out.mono ?_
      rintro e w1 ⟨rfl, hb1⟩
      have hbw1 : base ≤ w1.heap.size := Nat.le_trans hbw hb1.size
      have HB1 := Lib.hid (HF.out.1.trans (hb1.mono hbw))
      clear hb1
      by_cases hx : v < (A : Int) + C
      · have HV := Lib.hid (HStep.out.2 hx)
        go_wp2
        go_ret
        exact ⟨by rw [← HR.out, HV.out]; rfl, HB1.out⟩
      · have HV := Lib.hid (HStep.out.1 (Int.not_lt.1 hx))
        go_wp2
        go_roundw
        case rel => exact ⟨j + 1, A + C, by go_num, by go_num, by omega, by omega, hbw1, Lib.hid ⟨HB1.out, HF'.out, HV.out⟩⟩
        case measure => simp [intOf]; omega
    · obtain rfl : j = len := by omega
      have hfin : fitS v zs = j := by have h := HF.out.2.2; rw [HLen.out, List.take_length] at h; rw [HLen.out]; exact h
      have HV : Hid (R = j) := Lib.hid (HR.out.symm.trans hfin)
      clear hfin
      go_wp2
      go_ret
      exact ⟨by rw [HV.out]; rfl, HF.out.1⟩
end Go.Proofs.YtnjkgbnkfncjkaaDoor.W
