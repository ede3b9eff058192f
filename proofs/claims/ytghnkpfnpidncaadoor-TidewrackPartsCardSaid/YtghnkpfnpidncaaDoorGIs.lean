/- Same, Is: of two lists of numbers; of two datagrams. -/
import Derived.Test.YtghnkpfnpidncaaDoorGApp
import Derived.Deep.QuietTactic
import Derived.BigQuiet
namespace Go.Proofs.YtghnkpfnpidncaaDoor.G
open Go.RowKit Go.Proofs.YtghnkpfnpidncaaDoor.I

theorem drewN_below {B : Nat} {a w : World} (h : Below B a w) (n : Nat) : Below B a (w.drewN n) := h.trans ⟨rfl, rfl, rfl, Nat.le_refl _, fun _ _ => rfl⟩
theorem same_step {zs ys : List Int} {j : Nat} (h1 : j < zs.length) (h2 : j < ys.length) (h : zs.take j = ys.take j) (he : zs.getD j 0 = ys.getD j 0) : zs.take (j + 1) = ys.take (j + 1) := by
  rw [List.take_succ_eq_append_getElem h1, List.take_succ_eq_append_getElem h2, h]
  simp [h1, h2] at he
  rw [he]
theorem same_not {zs ys : List Int} {j : Nat} (he : ¬ zs.getD j 0 = ys.getD j 0) : zs ≠ ys := fun e => he (by rw [e])
set_option maxRecDepth 100000 in
set_option maxHeartbeats 1000000 in
theorem same_any (a b : Option Addr) (la lb ca cb : Nat) (zs ys : List Int) (w : World) (h : NumsIn a la zs w) (k : NumsIn b lb ys w) (hla : (la : Int) ≤ 1000000) :
    Calls Tryd.prog 36 #[.slice a la ca, .slice b lb cb] w fun en w' => en = .returned (.bool (decide (zs = ys))) ∧ Below w.heap.size w w' := by
  obtain ⟨R, hR⟩ : ∃ R, decide (zs = ys) = R := ⟨_, rfl⟩
  rw [hR]
  obtain ⟨hl, hz⟩ := h
  obtain ⟨hk, hy⟩ := k
  by_cases hne : la = lb
  · have hlz : zs.length = ys.length := by omega
    have HZ := Lib.hid hz
    have HY := Lib.hid hy
    have HR := Lib.hid hR
    have HL := Lib.hid hl
    have HK := Lib.hid hk
    have HLz := Lib.hid hlz
    subst hne
    clear hz hy hR hl hk hlz
    go_enter Tryd.func36, Tryd.ntmps36
    go_wp2
    go_loopw [5, 13] (fun _ i wr => ∃ j : Nat, j ≤ la ∧ i = .int .i64 j ∧ Hid (zs.take j = ys.take j) ∧ Hid (Below w.heap.size w wr)) (fun _ i _ => la - (intOf i).toNat)
    case atStart => exact ⟨0, by omega, rfl, Lib.hid rfl, Lib.hid (Below.refl _ _)⟩
    case round =>
      obtain ⟨j, hj, rfl, hF, hB⟩ := hrel
      by_cases hlt : j < la
      · have hjz : j < zs.length := by rw [← HL.out]; exact hlt
        have hjy : j < ys.length := by rw [← HK.out]; exact hlt
        obtain ⟨b1, o1, rfl, hb1, hI1⟩ := HZ.out.resolve_left (by intro e; rw [e] at hjz; simp at hjz)
        obtain ⟨b2, o2, rfl, hb2, hI2⟩ := HY.out.resolve_left (by intro e; rw [e] at hjy; simp at hjy)
        have hc1 := (hB.out.cell (p := ⟨b1, o1 + j, none⟩) hb1).trans (hI1 j hjz)
        have hc2 := (hB.out.cell (p := ⟨b2, o2 + j, none⟩) hb2).trans (hI2 j hjy)
        have HSt := Lib.hid (same_step hjz hjy hF.out)
        have HNo := Lib.hid (same_not (zs := zs) (ys := ys) (j := j))
        obtain ⟨x, hx⟩ : ∃ x, zs.getD j 0 = x := ⟨_, rfl⟩
        obtain ⟨y, hy⟩ : ∃ y, ys.getD j 0 = y := ⟨_, rfl⟩
        rw [hx] at hc1
        rw [hy] at hc2
        rw [hx, hy] at HSt HNo
        clear hx hy hI1 hI2 hjz hjy hF
        by_cases hxy : x = y
        · have HT := Lib.hid (HSt.out hxy)
          subst hxy
          clear HSt HNo
          go_wp2_with fail
          go_quiet (fail)
          go_wp2
          go_roundw
          case rel => exact ⟨j + 1, by omega, by go_num, HT, Lib.hid (drewN_below hB.out _)⟩
          case measure => simp [intOf]; omega
        · have HF : Hid (R = false) := Lib.hid (by rw [← HR.out]; exact decide_eq_false (HNo.out hxy))
          have hne : ((x : Int) != y) = true := by rw [bne_iff_ne]; exact hxy
          clear HSt HNo hxy
          go_wp2_with fail
          go_quiet (fail)
          go_wp2
          go_ret
          exact ⟨by rw [HF.out]; rfl, drewN_below hB.out _⟩
      · obtain rfl : j = la := by omega
        have HT : Hid (R = true) := Lib.hid (by
          rw [← HR.out]
          have h := hF.out
          have e1 : zs.take j = zs := by rw [HL.out, List.take_length]
          have e2 : ys.take j = ys := by rw [HK.out, List.take_length]
          rw [e1, e2] at h
          exact decide_eq_true h)
        clear hF
        go_wp2
        go_ret
        exact ⟨by rw [HT.out]; rfl, hB.out⟩
  · have HF : Hid (R = false) := Lib.hid (by
      rw [← hR]
      refine decide_eq_false ?_
      intro e
      rw [e] at hl
      omega)
    have hne2 : ((la : Int) != lb) = true := by rw [bne_iff_ne]; omega
    clear hR hne hl hk hz hy
    go_enter Tryd.func36, Tryd.ntmps36
    go_wp2
    go_ret
    exact ⟨by rw [HF.out]; rfl, Below.refl _ _⟩
/-- Are two datagrams alike? -/
def isB (e k : Int) (zs : List Int) (d : ByteArray) (e' k' : Int) (ys : List Int) (d' : ByteArray) : Bool := decide (e = e') && decide (k = k') && decide (zs = ys) && decide (d.data.toList = d'.data.toList)
set_option maxRecDepth 100000 in
set_option maxHeartbeats 1000000 in
theorem is_any (e k e' k' : Int) (a b : Option Addr) (la lb ca cb : Nat) (zs ys : List Int) (d d' : ByteArray) (w : World) (h : NumsIn a la zs w) (hk : NumsIn b lb ys w) (hla : (la : Int) ≤ 1000000) :
    Calls Tryd.prog 17 #[gramV e k a la ca d, gramV e' k' b lb cb d'] w fun en w' => en = .returned (.bool (isB e k zs d e' k' ys d')) ∧ Below w.heap.size w w' := by
  obtain ⟨R, hR⟩ : ∃ R, isB e k zs d e' k' ys d' = R := ⟨_, rfl⟩
  rw [hR]
  unfold gramV
  obtain ⟨w1, hw1⟩ : ∃ w1, w.alloc (.cells #[.int .i64 e, .int .i64 k, .slice a la ca, .string d] 26) = w1 := ⟨_, rfl⟩
  obtain ⟨w2, hw2⟩ : ∃ w2, w1.alloc (.cells #[.int .i64 e', .int .i64 k', .slice b lb cb, .string d'] 24) = w2 := ⟨_, rfl⟩
  obtain ⟨B, hB⟩ : ∃ B, w.heap.size = B := ⟨_, rfl⟩
  obtain ⟨B', hB'⟩ : ∃ B', w1.heap.size = B' := ⟨_, rfl⟩
  have hb1 : Below B w w1 := by rw [← hw1, ← hB]; exact (Below.refl _ _).alloc (Nat.le_refl _) _
  have hb2 : Below B w w2 := by rw [← hw2]; exact hb1.alloc (by have := hb1.size; omega) _
  have g1 : w1.heap[B]? = some (.cells #[.int .i64 e, .int .i64 k, .slice a la ca, .string d] 26 (0, 0)) := by rw [← hw1, ← hB]; exact World.alloc_heap_new _ _
  have g2 : w2.heap[B]? = some (.cells #[.int .i64 e, .int .i64 k, .slice a la ca, .string d] 26 (0, 0)) := by rw [← hw2, Below.heap_alloc _ _ _ (Array.getElem?_eq_some_iff.1 g1).1]; exact g1
  have k2 : w2.heap[B']? = some (.cells #[.int .i64 e', .int .i64 k', .slice b lb cb, .string d'] 24 (0, 0)) := by rw [← hw2, ← hB']; exact World.alloc_heap_new _ _
  rw [← hB] at hb2
  have HS := Lib.hid (same_any a b la lb ca cb zs ys w2 (h.below hb2) (hk.below hb2) hla)
  have HB2 := Lib.hid hb2
  have HG := Lib.hid g2
  have HK := Lib.hid k2
  have c0 : w2.cell? ⟨B, 0, none⟩ = some (.int .i64 e) := by simp [World.cell?, g2]
  have c1 : w2.cell? ⟨B, 1, none⟩ = some (.int .i64 k) := by simp [World.cell?, g2]
  have c2 : w2.cell? ⟨B, 2, none⟩ = some (.slice a la ca) := by simp [World.cell?, g2]
  have d0 : w2.cell? ⟨B', 0, none⟩ = some (.int .i64 e') := by simp [World.cell?, k2]
  have d1 : w2.cell? ⟨B', 1, none⟩ = some (.int .i64 k') := by simp [World.cell?, k2]
  have d2 : w2.cell? ⟨B', 2, none⟩ = some (.slice b lb cb) := by simp [World.cell?, k2]
  clear h hk hb2 hb1 g1 g2 k2
  by_cases he : e = e'
  · have he' : (e == e') = true := by simpa using he
    by_cases hk1 : k = k'
    · have hk' : (k == k') = true := by simpa using hk1
      have HR : Hid (R = (decide (zs = ys) && decide (d.data.toList = d'.data.toList))) := Lib.hid (by rw [← hR]; unfold isB; rw [decide_eq_true he, decide_eq_true hk1]; rfl)
      clear hR he hk1
      go_enter Tryd.func17, Tryd.ntmps17
      go_wp2_with fail
      refine HS.out.mono ?_
      rintro en w3 ⟨rfl, hb3⟩
      have q3 : w3.heap[B]? = _ := (hb3.block B (Array.getElem?_eq_some_iff.1 HG.out).1).trans HG.out
      have r3 : w3.heap[B']? = _ := (hb3.block B' (Array.getElem?_eq_some_iff.1 HK.out).1).trans HK.out
      have c3 : w3.cell? ⟨B, 3, none⟩ = some (.string d) := by simp [World.cell?, q3]
      have d3 : w3.cell? ⟨B', 3, none⟩ = some (.string d') := by simp [World.cell?, r3]
      have HB3 : Hid (Below w.heap.size w w3) := Lib.hid (HB2.out.trans (hb3.mono HB2.out.size))
      have HDD : Hid ((d.toList == d'.toList) = decide (d.data.toList = d'.data.toList)) := Lib.hid (by rw [ByteArray.toList_eq, ByteArray.toList_eq]; rw [Bool.eq_iff_iff, beq_iff_eq, decide_eq_true_iff])
      clear hb3 q3 r3
      by_cases hz : zs = ys
      · have hz' : decide (zs = ys) = true := decide_eq_true hz
        rw [hz'] at HR
        rw [hz']
        clear hz'
        go_wp2
        go_ret
        exact ⟨by rw [HR.out, ← HDD.out]; rfl, HB3.out⟩
      · have hz' : decide (zs = ys) = false := decide_eq_false hz
        rw [hz'] at HR
        rw [hz']
        clear hz'
        go_wp2
        go_ret
        exact ⟨by rw [HR.out]; rfl, HB3.out⟩
    · have hk' : (k == k') = false := by simpa using hk1
      have HR : Hid (R = false) := Lib.hid (by rw [← hR]; unfold isB; rw [decide_eq_false hk1]; simp)
      clear hR he hk1
      go_enter Tryd.func17, Tryd.ntmps17
      go_wp2
      go_ret
      exact ⟨by rw [HR.out]; rfl, HB2.out⟩
  · have he' : (e == e') = false := by simpa using he
    have HR : Hid (R = false) := Lib.hid (by rw [← hR]; unfold isB; rw [decide_eq_false he]; simp)
    clear hR he
    go_enter Tryd.func17, Tryd.ntmps17
    go_wp2
    go_ret
    exact ⟨by rw [HR.out]; rfl, HB2.out⟩
end Go.Proofs.YtghnkpfnpidncaaDoor.G
