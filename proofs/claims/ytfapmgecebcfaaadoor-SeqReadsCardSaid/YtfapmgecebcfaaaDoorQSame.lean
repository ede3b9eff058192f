/- Same: of two lists of numbers. -/
import Derived.Test.YtfapmgecebcfaaaDoorWInts
import Derived.Deep.QuietTactic
import Derived.BigQuiet
namespace Go.Proofs.YtfapmgecebcfaaaDoor.Q
open Go.RowKit
open Go.Proofs.YtfapmgecebcfaaaDoor.W (IntsIn)

theorem drewN_below {B : Nat} {a w : World} (h : Below B a w) (n : Nat) : Below B a (w.drewN n) := h.trans ⟨rfl, rfl, rfl, Nat.le_refl _, fun _ _ => rfl⟩
theorem same_step {zs ys : List Int} {j : Nat} (h1 : j < zs.length) (h2 : j < ys.length) (h : zs.take j = ys.take j) (he : zs.getD j 0 = ys.getD j 0) : zs.take (j + 1) = ys.take (j + 1) := by
  rw [List.take_succ_eq_append_getElem h1, List.take_succ_eq_append_getElem h2, h]
  simp [h1, h2] at he
  rw [he]
theorem same_not {zs ys : List Int} {j : Nat} (he : ¬ zs.getD j 0 = ys.getD j 0) : zs ≠ ys := fun e => he (by rw [e])
set_option maxRecDepth 100000 in
set_option maxHeartbeats 1000000 in
theorem same_any (a b : Option Addr) (la lb ca cb : Nat) (zs ys : List Int) (w : World) (h : IntsIn a la zs w) (k : IntsIn b lb ys w) (hla : (la : Int) ≤ 1000000) :
    Calls Tryd.prog 20 #[.slice a la ca, .slice b lb cb] w fun en w' => en = .returned (.bool (decide (zs = ys))) ∧ Below w.heap.size w w' := by
  obtain ⟨R, hR⟩ : ∃ R, decide (zs = ys) = R := ⟨_, rfl⟩
  rw [hR]
  obtain ⟨hl, hz⟩ := h
  obtain ⟨hk, hy⟩ := k
  by_cases hne : la = lb
  · have hlz : zs.length = ys.length := by omega
    have HZ := Lib.hid hz
    have HY := Lib.hid hy
    have HR := Lib.hid hR
    have HL := Lib.hid hl
    have HK := Lib.hid hk
    have HLz := Lib.hid hlz
    subst hne
    clear hz hy hR hl hk hlz
    go_enter Tryd.func20, Tryd.ntmps20
    go_wp2
    go_loopw [5, 13] (fun _ i wr => ∃ j : Nat, j ≤ la ∧ i = .int .i64 j ∧ Hid (zs.take j = ys.take j) ∧ Hid (Below w.heap.size w wr)) (fun _ i _ => la - (intOf i).toNat)
    case atStart => exact ⟨0, by omega, rfl, Lib.hid rfl, Lib.hid (Below.refl _ _)⟩
    case round =>
      obtain ⟨j, hj, rfl, hF, hB⟩ := hrel
      by_cases hlt : j < la
      · have hjz : j < zs.length := by rw [← HL.out]; exact hlt
        have hjy : j < ys.length := by rw [← HK.out]; exact hlt
        obtain ⟨b1, o1, rfl, hb1, hI1⟩ := HZ.out.resolve_left (by intro e; rw [e] at hjz; simp at hjz)
        obtain ⟨b2, o2, rfl, hb2, hI2⟩ := HY.out.resolve_left (by intro e; rw [e] at hjy; simp at hjy)
        have hc1 := (hB.out.cell (p := ⟨b1, o1 + j, none⟩) hb1).trans (hI1 j hjz)
        have hc2 := (hB.out.cell (p := ⟨b2, o2 + j, none⟩) hb2).trans (hI2 j hjy)
        have HSt := Lib.hid (same_step hjz hjy hF.out)
        have HNo := Lib.hid (same_not (zs := zs) (ys := ys) (j := j))
        obtain ⟨x, hx⟩ : ∃ x, zs.getD j 0 = x := ⟨_, rfl⟩
        obtain ⟨y, hy⟩ : ∃ y, ys.getD j 0 = y := ⟨_, rfl⟩
        rw [hx] at hc1
        rw [hy] at hc2
        rw [hx, hy] at HSt HNo
        clear hx hy hI1 hI2 hjz hjy hF
        by_cases hxy : x = y
        · have HT := Lib.hid (HSt.out hxy)
          subst hxy
          clear HSt HNo
          go_wp2_with fail
          go_quiet (fail)
          go_wp2
          go_roundw
          case rel => exact ⟨j + 1, by omega, by go_num, HT, Lib.hid (drewN_below hB.out _)⟩
          case measure => simp [intOf]; omega
        · have HF : Hid (R = false) := Lib.hid (by rw [← HR.out]; exact decide_eq_false (HNo.out hxy))
          have hne : ((x : Int) != y) = true := by rw [bne_iff_ne]; exact hxy
          clear HSt HNo hxy
          go_wp2_with fail
          go_quiet (fail)
          go_wp2
          go_ret
          exact ⟨by rw [HF.out]; rfl, drewN_below hB.out _⟩
      · obtain rfl : j = la := by omega
        have HT : Hid (R = true) := Lib.hid (by
          rw [← HR.out]
          have h := hF.out
          have e1 : zs.take j = zs := by rw [HL.out, List.take_length]
          have e2 : ys.take j = ys := by rw [HK.out, List.take_length]
          rw [e1, e2] at h
          exact decide_eq_true h)
        clear hF
        go_wp2
        go_ret
        exact ⟨by rw [HT.out]; rfl, hB.out⟩
  · have HF : Hid (R = false) := Lib.hid (by
      rw [← hR]
      refine decide_eq_false ?_
      intro e
      rw [e] at hl
      omega)
    have hne2 : ((la : Int) != lb) = true := by rw [bne_iff_ne]; omega
    clear hR hne hl hk hz hy
    go_enter Tryd.func20, Tryd.ntmps20
    go_wp2
    go_ret
    exact ⟨by rw [HF.out]; rfl, Below.refl _ _⟩
end Go.Proofs.YtfapmgecebcfaaaDoor.Q
