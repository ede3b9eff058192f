/- The document's Check and Pack of a datagram. -/
import Derived.Test.YtghnkpfnpidncaaDoorGRefB
namespace Go.Proofs.YtghnkpfnpidncaaDoor.G
open Go.RowKit Go.Proofs.YtghnkpfnpidncaaDoor.I

theorem body_size (e k : Int) (zs : List Int) (d : ByteArray) : (bodyS e k zs d ++ S.tl (S.sumOf (bodyS e k zs d))).length = sizeN e k zs d.size := by
  have hl : d.data.toList.length = d.size := rfl
  have ht : (S.tl (S.sumOf (bodyS e k zs d))).length = 4 := by simp [S.tl]
  rw [List.length_append, ht]
  unfold bodyS sizeN textB
  simp [numsOf, hl]
  omega
set_option maxRecDepth 100000 in
set_option maxHeartbeats 4000000 in
theorem refcheck_any (e k : Int) (a : Option Addr) (len cap : Nat) (d : ByteArray) (zs : List Int) (w : World) (h : NumsIn a len zs w) (hlen : (len : Int) ≤ 1000000) (hd : (d.size : Int) ≤ 1000) :
    Calls Tryd.prog 13 #[gramV e k a len cap d] w fun en w' => en = .returned (.int .i64 (checkS e k zs d.size : Nat)) ∧ Below w.heap.size w w' := by
  obtain ⟨w1, hw1⟩ : ∃ w1, w.alloc (.cells #[.int .i64 e, .int .i64 k, .slice a len cap, .string d] 24) = w1 := ⟨_, rfl⟩
  have hb1 : Below w.heap.size w w1 := by rw [← hw1]; exact (Below.refl _ _).alloc (Nat.le_refl _) _
  have hbox : QBlk 24 w.heap.size (.int .i64 e) (.int .i64 k) (.slice a len cap) (.string d) w1 := by rw [← hw1]; exact World.alloc_heap_new _ _
  have hN1 := h.below hb1
  obtain ⟨B, hB⟩ : ∃ B, w.heap.size = B := ⟨_, rfl⟩
  rw [hB] at hb1 ⊢
  have HB1 := Lib.hid hb1
  have HN := Lib.hid (hN1)
  have HLen := Lib.hid h.1
  rw [hB] at hbox
  have HBox := Lib.hid hbox
  obtain ⟨R, hR⟩ : ∃ R, checkS e k zs d.size = R := ⟨_, rfl⟩
  rw [hR]
  have HHd : Hid (headOk e k zs.length ∨ ¬ headOk e k zs.length) := Lib.hid (Decidable.em _)
  have hlen' := h.1
  have hBy : ∀ u, Below w1.heap.size w1 u → (len : Int) ≤ 64 → Calls Tryd.prog 32 #[gramV e k a len cap d] u fun en w' => ∃ t : ByteArray, en = .returned (.string t) ∧ t.size = sizeN e k zs d.size ∧ Below u.heap.size u w' := fun u hu h64 => by
    refine (refbytes_any e k a len cap d zs u ((hN1).below hu) h64 hd).mono ?_
    rintro en w' ⟨t, h1, h2, h3⟩
    exact ⟨t, h1, by rw [← body_size, ← h2]; rfl, h3⟩
  have HBy := Lib.hid hBy
  unfold gramV at *
  by_cases hok : headOk e k zs.length
  · have hcs : R = if zs.all numOk = true then (if 8192 < sizeN e k zs d.size then 3 else 0) else 6 := by rw [← hR]; unfold checkS soundS; rw [decide_eq_true hok, Bool.true_and]
    have HR := Lib.hid hcs
    have hl64 : (len : Int) ≤ 64 := by rw [hlen']; have := hok.2.2.2.2; omega
    obtain ⟨h1, h2, h3, h4, _⟩ := hok
    have c0 := hbox.c0
    have c1 := hbox.c1
    have c2 := hbox.c2
    have c3 := hbox.c3
    clear hR hb1 h hlen hlen' hcs hBy hbox
    go_enter Tryd.func13, Tryd.ntmps13
    go_wp2
    go_loopw [4, 32] (fun _ i wr => ∃ j : Nat, j ≤ len ∧ i = .int .i64 j ∧ wr = w1 ∧ Hid ((zs.take j).all numOk = true)) (fun _ i _ => len - (intOf i).toNat)
    case atStart => exact ⟨0, by omega, rfl, rfl, Lib.hid rfl⟩
    case round =>
      obtain ⟨j, hj, rfl, rfl, hF⟩ := hrel
      by_cases hlt : j < len
      · have hjz : j < zs.length := by rw [← HLen.out]; exact hlt
        obtain ⟨b, off, rfl, _, hI⟩ := HN.out.2.resolve_left (by intro e; rw [e] at hjz; simp at hjz)
        have hc := hI j hjz
        obtain ⟨z, hz⟩ : ∃ z, zs.getD j 0 = z := ⟨_, rfl⟩
        rw [hz] at hc
        have HUp := Lib.hid (all_upto hjz hF.out)
        have HCut := Lib.hid (fun h => all_cut (p := numOk) hjz h)
        rw [hz] at HUp HCut
        have HJ := Lib.hid hjz
        clear hz hI hjz
        by_cases h0 : z < 0
        · have HR' : Hid (R = 6) := Lib.hid (by rw [HR.out, HCut.out (by unfold numOk; rw [decide_eq_false (by omega)])]; rfl)
          go_wp2
          go_ret
          exact ⟨by rw [HR'.out]; rfl, HB1.out⟩
        · by_cases hg : 4611686018427387904 < z
          · have HR' : Hid (R = 6) := Lib.hid (by rw [HR.out, HCut.out (by unfold numOk; rw [decide_eq_false (by omega)])]; rfl)
            go_wp2
            go_ret
            exact ⟨by rw [HR'.out]; rfl, HB1.out⟩
          · have HF' : Hid ((zs.take (j + 1)).all numOk = true) := Lib.hid (by rw [HUp.out]; unfold numOk; rw [decide_eq_true (by omega)])
            go_wp2
            go_roundw
            case rel => exact ⟨j + 1, by omega, by go_num, by first | rfl | trivial, HF'⟩
            case measure => simp [intOf]; omega
      · obtain rfl : j = len := by omega
        have HR' : Hid (R = if 8192 < sizeN e k zs d.size then 3 else 0) := Lib.hid (by rw [HR.out]; have h := hF.out; rw [HLen.out, List.take_length] at h; rw [h]; rfl)
        have HByW := Lib.hid (HBy.out wr (Below.refl _ _) hl64)
        clear hF
        go_wp2_with fail
        refine HByW.out.mono ?_
        rintro en w2 ⟨t, rfl, hts, hb2⟩
        have HB2 : Hid (Below B w w2) := Lib.hid (HB1.out.trans (hb2.mono (Nat.le_of_lt HBox.out.lt)))
        rw [← hts] at HR'
        clear hb2 hts
        by_cases hbig : (8192 : Int) < t.size
        · have HR2 : Hid (R = 3) := Lib.hid (by rw [HR'.out, if_pos (by omega)])
          go_wp2
          go_ret
          exact ⟨by rw [HR2.out]; rfl, HB2.out⟩
        · have HR2 : Hid (R = 0) := Lib.hid (by rw [HR'.out, if_neg (by omega)])
          go_wp2
          go_ret
          exact ⟨by rw [HR2.out]; rfl, HB2.out⟩
  · have HR : Hid (R = 6) := Lib.hid (by rw [← hR]; unfold checkS soundS; rw [decide_eq_false hok, Bool.false_and]; rfl)
    have hcase : e < 1 ∨ (¬ e < 1 ∧ 4294967296 < e) ∨ (¬ e < 1 ∧ ¬ 4294967296 < e ∧ k < 1) ∨ (¬ e < 1 ∧ ¬ 4294967296 < e ∧ ¬ k < 1 ∧ 4 < k) ∨ (¬ e < 1 ∧ ¬ 4294967296 < e ∧ ¬ k < 1 ∧ ¬ 4 < k ∧ (64 : Int) < len) := by
      unfold headOk at hok
      omega
    have c0 := hbox.c0
    have c1 := hbox.c1
    have c2 := hbox.c2
    clear hR hb1 h hlen hlen' hok hBy hbox
    rcases hcase with h1 | ⟨h1, h2⟩ | ⟨h1, h2, h3⟩ | ⟨h1, h2, h3, h4⟩ | ⟨h1, h2, h3, h4, h5⟩
    all_goals
      go_enter Tryd.func13, Tryd.ntmps13
      go_wp2
      go_ret
      exact ⟨by rw [HR.out]; rfl, HB1.out⟩
set_option maxHeartbeats 1000000 in
theorem refpack_any (e k : Int) (a : Option Addr) (len cap : Nat) (d : ByteArray) (zs : List Int) (w : World) (h : NumsIn a len zs w) (hlen : (len : Int) ≤ 1000000) (hd : (d.size : Int) ≤ 1000) :
    Calls Tryd.prog 14 #[gramV e k a len cap d] w (PackPost (packS e k zs d) w) := by
  obtain ⟨w1, hw1⟩ : ∃ w1, w.alloc (.cells #[.int .i64 e, .int .i64 k, .slice a len cap, .string d] 24) = w1 := ⟨_, rfl⟩
  have hb1 : Below w.heap.size w w1 := by rw [← hw1]; exact (Below.refl _ _).alloc (Nat.le_refl _) _
  have hbox : QBlk 24 w.heap.size (.int .i64 e) (.int .i64 k) (.slice a len cap) (.string d) w1 := by rw [← hw1]; exact World.alloc_heap_new _ _
  have hN1 := h.below hb1
  obtain ⟨B, hB⟩ : ∃ B, w.heap.size = B := ⟨_, rfl⟩
  rw [hB] at hb1
  have HBe := Lib.hid hB
  rw [hB] at hbox
  obtain ⟨P, hP⟩ : ∃ P, PackPost (packS e k zs d) w = P := ⟨_, rfl⟩
  rw [hP]
  have HP := Lib.hid hP
  obtain ⟨R, hR⟩ : ∃ R, checkS e k zs d.size = R := ⟨_, rfl⟩
  have hC := refcheck_any e k a len cap d zs w1 (hN1) hlen hd
  rw [hR] at hC
  have HC := Lib.hid hC
  have HB1 := Lib.hid hb1
  have HR := Lib.hid hR
  have hlen' := h.1
  have HBy : Hid (∀ u, Below w1.heap.size w1 u → R = 0 → Calls Tryd.prog 32 #[gramV e k a len cap d] u fun en w' => ∃ t : ByteArray, en = .returned (.string t) ∧ t.data.toList = packS e k zs d ∧ Below u.heap.size u w') := Lib.hid fun u hu h0 => by
    have hs : soundS e k zs = true := by
      rw [← hR] at h0
      unfold checkS at h0
      by_cases hs : soundS e k zs = true
      · exact hs
      · rw [if_neg hs] at h0; cases h0
    have h64 := sound_len hs
    refine (refbytes_any e k a len cap d zs u ((hN1).below hu) (by omega) hd).mono ?_
    rintro en w' ⟨t, h1, h2, h3⟩
    exact ⟨t, h1, by unfold packS; rw [hR, if_pos h0, h2], h3⟩
  have c0 := hbox.c0
  have c1 := hbox.c1
  have c2 := hbox.c2
  have c3 := hbox.c3
  have HBox := Lib.hid hbox
  unfold gramV at *
  clear hP hb1 hC hR h hbox hN1 hlen' hlen hd
  go_enter Tryd.func14, Tryd.ntmps14
  go_wp2_with fail
  refine HC.out.mono ?_
  rintro en w2 ⟨rfl, hb2⟩
  have HB2 := Lib.hid hb2
  by_cases hR0 : R = 0
  · subst hR0
    have hbox2 := HBox.out.below hb2
    have d0 := hbox2.c0
    have d1 := hbox2.c1
    have d2 := hbox2.c2
    have d3 := hbox2.c3
    have HByW := Lib.hid (HBy.out w2 hb2 rfl)
    clear hbox2 hb2 c0 c1 c2 c3 hw1 hB
    go_wp2_with fail
    refine HByW.out.mono ?_
    rintro en w3 ⟨t, rfl, htl, hb3⟩
    have HB3 : Hid (Below B w w3) := Lib.hid (by
      have h2 := HB1.out.trans (HB2.out.mono (Nat.le_of_lt HBox.out.lt))
      exact h2.trans (hb3.mono (Nat.le_trans (Nat.le_of_lt HBox.out.lt) HB2.out.size)))
    have HT := Lib.hid htl
    clear hb3 htl
    go_wp2
    rw [← HP.out]
    exact ⟨t, rfl, HT.out, by rw [HBe.out]; exact HB3.out⟩
  · have hne : ((R : Int) != 0) = true := by rw [bne_iff_ne]; omega
    have HNe := Lib.hid hR0
    have HB3 : Hid (Below B w w2) := Lib.hid (HB1.out.trans (hb2.mono (Nat.le_of_lt HBox.out.lt)))
    clear hR0 hb2 c0 c1 c2 c3 hw1 hB
    go_wp2
    rw [← HP.out]
    exact ⟨⟨#[]⟩, rfl, by unfold packS; rw [HR.out, if_neg HNe.out], by rw [HBe.out]; exact HB3.out⟩
end Go.Proofs.YtghnkpfnpidncaaDoor.G
