/- StyleOrders: the numbers that are told make one style another: the walk. -/
import Derived.Test.YtfapmgecebcfaaaZOrd
import Derived.Lib.QuietBelow
import Derived.BigQuiet
import Derived.RegionTactic
namespace Go.Proofs.Ytfapmgecebcfaaa.Z
open Go.RowKit
open Go.Proofs.Ytfapmgecebcfaaa.W (OwnI IntsIn ArgI)

theorem sty_ne (s s' : Sty) (hss : ¬ s = s') : s.fore ≠ s'.fore ∨ (s.fore = s'.fore ∧ s.back ≠ s'.back) ∨ (s.fore = s'.fore ∧ s.back = s'.back ∧ ((s.bold = true ∧ s'.bold = false) ∨ (s.bold = false ∧ s'.bold = true))) ∨ (s.fore = s'.fore ∧ s.back = s'.back ∧ s.bold = s'.bold ∧ ((s.under = true ∧ s'.under = false) ∨ (s.under = false ∧ s'.under = true))) ∨ (s.fore = s'.fore ∧ s.back = s'.back ∧ s.bold = s'.bold ∧ s.under = s'.under ∧ ((s.inv = true ∧ s'.inv = false) ∨ (s.inv = false ∧ s'.inv = true))) := by
  obtain ⟨f, b, u, v, i⟩ := s
  obtain ⟨f', b', u', v', i'⟩ := s'
  simp only [Sty.mk.injEq, not_and] at hss
  simp only
  by_cases h1 : f = f'
  · by_cases h2 : b = b'
    · cases u <;> cases u' <;> cases v <;> cases v' <;> cases i <;> cases i' <;> simp_all
    · exact .inr (.inl ⟨h1, h2⟩)
  · exact .inl h1
theorem ordS_len (s : Sty) : 1 ≤ (ordS s).length ∧ (ordS s).length ≤ 6 := by
  unfold ordS
  simp only [List.length_append, List.length_cons, List.length_nil]
  split <;> split <;> split <;> split <;> split <;> simp
theorem ordS_cons (s : Sty) : ∃ t, ordS s = 0 :: t := by
  unfold ordS
  simp only [List.append_assoc, List.cons_append, List.nil_append]
  exact ⟨_, rfl⟩
theorem ordS_up (s : Sty) (h : s.may) : List.Pairwise (fun a b : Int => a < b) (ordS s).tail := by
  obtain ⟨h1, h2, h3, h4⟩ := h
  unfold ordS
  simp only [List.append_assoc, List.cons_append, List.nil_append, List.tail_cons]
  split <;> split <;> split <;> split <;> split <;> simp <;> omega
theorem ordS_lt (s : Sty) (h : s.may) (i : Nat) (h2 : 2 ≤ i) (hi : i < (ordS s).length) : (ordS s).getD (i - 1) 0 < (ordS s).getD i 0 := by
  have hp := ordS_up s h
  obtain ⟨t, ht⟩ := ordS_cons s
  rw [ht] at hp hi ⊢
  rw [List.tail_cons, List.pairwise_iff_getElem] at hp
  obtain ⟨k, rfl⟩ : ∃ k, i = k + 2 := ⟨i - 2, by omega⟩
  simp only [List.length_cons] at hi
  have := hp k (k + 1) (by omega) (by omega) (by omega)
  simpa [List.getD_eq_getElem?_getD, show k < t.length by omega, show k + 1 < t.length by omega] using this
theorem ord_sets' (s s' : Sty) (h : s.may) : setS s' (ordS s) = s := by
  rw [set_ref, if_neg (fun e => by obtain ⟨t, ht⟩ := ordS_cons s; rw [ht] at e; cases e), ord_sets s s' h]

set_option maxRecDepth 100000 in
set_option maxHeartbeats 8000000 in
theorem orders_walk (s s' : Sty) (w : World) : Calls Try.prog 5 #[sV s, sV s'] w fun e w' => e = .returned (.bool true) ∧ Below w.heap.size w w' := by
  obtain ⟨rb, hrb⟩ : ∃ rb, w.heap.size = rb := ⟨_, rfl⟩
  obtain ⟨w1, hw1⟩ : ∃ w1, (w.alloc (.cells #[.int .i64 s.fore, .int .i64 s.back, .bool s.bold, .bool s.under, .bool s.inv] 23)).alloc (.cells #[.int .i64 s'.fore, .int .i64 s'.back, .bool s'.bold, .bool s'.under, .bool s'.inv] 23) = w1 := ⟨_, rfl⟩
  have hb1 : Below rb w w1 := by rw [← hw1, ← hrb]; exact ((Below.refl _ _).alloc (Nat.le_refl _) _).alloc (by simp) _
  have hd1 : SBlk 23 rb s w1 := by rw [← hw1, ← hrb]; exact (SBlk.new _ _ _).alloc _
  have hr1 : SBlk 23 (rb + 1) s' w1 := by
    have h := SBlk.new 23 (w.alloc (.cells #[.int .i64 s.fore, .int .i64 s.back, .bool s.bold, .bool s.under, .bool s.inv] 23)) s'
    rw [World.size_alloc, hrb] at h
    rw [← hw1]; exact h
  have hlt1 : rb + 1 < w1.heap.size := hr1.lt
  have HB1 := Lib.hid hb1
  have HD1 := Lib.hid hd1
  have HE1 := Lib.hid hr1
  have HW1 := Lib.hid hw1
  have HRb := Lib.hid hrb
  have HAw := Lib.hid (fun w => awake_any w)
  have HMay := Lib.hid (fun w => refMay_any s w)
  have HOrd := Lib.hid (fun w => order_any s s' w)
  obtain ⟨L, hL⟩ : ∃ L, (if s = s' ∨ ¬ s.may then [] else ordS s) = L := ⟨_, rfl⟩
  rw [hL] at HOrd
  have HL := Lib.hid hL
  clear hb1 hd1 hr1 hw1 hrb hL
  unfold sV
  go_enter Try.func5, Try.ntmps5
  go_upto_region 1 with fail
  rw [HW1.out, HRb.out]
  go_wp2_with fail
  refine (HAw.out _).mono ?_
  rintro e w2 ⟨rfl, hb2⟩
  have hlt2 : rb + 1 < w2.heap.size := Nat.lt_of_lt_of_le hlt1 hb2.size
  have HB2 : Hid (Below rb w w2) := Lib.hid (HB1.out.trans (hb2.mono (by omega)))
  have hd2 := HD1.out.below hb2 (by omega)
  have hr2 := HE1.out.below hb2 hlt1
  have c0 := hd2.c0
  have c1 := hd2.c1
  have c2 := hd2.c2
  have c3 := hd2.c3
  have c4 := hd2.c4
  have e0 := hr2.c0
  have e1 := hr2.c1
  have e2 := hr2.c2
  have e3 := hr2.c3
  have e4 := hr2.c4
  have HD2 := Lib.hid hd2
  have HE2 := Lib.hid hr2
  unfold sV at HOrd
  clear hb2 HAw hd2 hr2
  go_wp2_with fail
  refine (HOrd.out _).mono ?_
  rintro e w3 ⟨v, rfl, hown, hb3⟩
  have hlt3 : rb + 1 < w3.heap.size := Nat.lt_of_lt_of_le hlt2 hb3.size
  have HB3 : Hid (Below rb w w3) := Lib.hid (HB2.out.trans (hb3.mono (by omega)))
  have hd3 := HD2.out.below hb3 (by omega)
  have hr3 := HE2.out.below hb3 hlt2
  clear c0 c1 c2 c3 c4 e0 e1 e2 e3 e4 HOrd hb3
  have c0 := hd3.c0
  have c1 := hd3.c1
  have c2 := hd3.c2
  have c3 := hd3.c3
  have c4 := hd3.c4
  obtain ⟨a, c, rfl, hin, _, _, hc1, hc2⟩ := hown.shape
  have HD3 := Lib.hid hd3
  have HE3 := Lib.hid hr3
  have HIn := Lib.hid hin
  obtain ⟨M, hM⟩ : ∃ M, decide s.may = M := ⟨_, rfl⟩
  simp only [hM] at HMay
  have HMm := Lib.hid hM
  obtain ⟨N, hN⟩ : ∃ N, L.length = N := ⟨_, rfl⟩
  rw [hN] at hc1 HIn
  rw [hN]
  have HN := Lib.hid hN
  unfold sV at HMay
  clear hown hin hM hd3 hr3 hN
  go_wp2_with fail
  refine (HMay.out _).mono ?_
  rintro e w4 ⟨rfl, hb4⟩
  have hlt4 : rb + 1 < w4.heap.size := Nat.lt_of_lt_of_le hlt3 hb4.size
  have HB4 : Hid (Below rb w w4) := Lib.hid (HB3.out.trans (hb4.mono (by omega)))
  have hd4 := HD3.out.below hb4 (by omega)
  have hr4 := HE3.out.below hb4 hlt3
  have HIn4 := Lib.hid (HIn.out.belowAll hb4)
  clear c0 c1 c2 c3 c4 HMay hb4
  cases M with
  | false =>
    have hm : ¬ s.may := by have := HMm.out; simpa using this
    have h0 : N = 0 := by rw [← HN.out, ← HL.out, if_pos (.inr hm)]; rfl
    subst h0
    clear hd4 hr4 hm
    go_wp2
    go_ret
    exact ⟨rfl, by rw [HRb.out]; exact HB4.out⟩
  | true =>
    have hm : s.may := by have := HMm.out; simpa using this
    have c0 := hd4.c0
    have c1 := hd4.c1
    have c2 := hd4.c2
    have c3 := hd4.c3
    have c4 := hd4.c4
    have e0 := hr4.c0
    have e1 := hr4.c1
    have e2 := hr4.c2
    have e3 := hr4.c3
    have e4 := hr4.c4
    have HD4 := Lib.hid hd4
    have HE4 := Lib.hid hr4
    clear hd4 hr4
    by_cases hss : s = s'
    · have h0 : N = 0 := by rw [← HN.out, ← HL.out, if_pos (.inl hss)]; rfl
      subst h0
      subst hss
      clear hm
      go_wp2
      go_ret
      exact ⟨rfl, by rw [HRb.out]; exact HB4.out⟩
    · have hl : L = ordS s := by rw [← HL.out, if_neg (fun e => e.elim hss (fun h => h hm))]
      have hcase := sty_ne s s' hss
      have HSS := Lib.hid hss
      have HMay := Lib.hid hm
      have HLo := Lib.hid hl
      clear hm hss hl
      go_upto_region 6 with fail
      go_cut [20] (fun t20 wx => t20 = .bool false ∧ wx = w4)
      case first =>
        clear HL HSS HMay HLo HN HMm HIn HIn4 HB2 HB3 HB4 HD1 HD2 HD3 HD4 HE1 HE2 HE3 HE4 HB1 HW1 HRb
        obtain ⟨f, b, u, v, i⟩ := s
        obtain ⟨f', b', u', v', i'⟩ := s'
        simp only at hcase c0 c1 c2 c3 c4 e0 e1 e2 e3 e4
        rcases hcase with q0 | ⟨rfl, q1⟩ | ⟨rfl, rfl, (⟨rfl, rfl⟩ | ⟨rfl, rfl⟩)⟩ | ⟨rfl, rfl, rfl, (⟨rfl, rfl⟩ | ⟨rfl, rfl⟩)⟩ | ⟨rfl, rfl, rfl, rfl, (⟨rfl, rfl⟩ | ⟨rfl, rfl⟩)⟩
        all_goals
          go_wp2_with fail
          go_meet
          exact ⟨rfl, rfl⟩
      case rest =>
      obtain ⟨rfl, rfl⟩ := hcut
      have hlen := ordS_len s
      rw [← HLo.out, HN.out] at hlen
      obtain ⟨n1, n6⟩ := hlen
      obtain ⟨b, off, rfl, hbl, hI⟩ := HIn4.out.2.resolve_left (fun e => by have := HN.out; rw [e] at this; simp at this; omega)
      have hset : setS s' L = s := by rw [HLo.out]; exact ord_sets' s s' HMay.out
      have h00 : L.getD 0 0 = 0 := by obtain ⟨t, ht⟩ := ordS_cons s; rw [HLo.out, ht]; rfl
      have hlt : ∀ i, 2 ≤ i → i < N → L.getD (i - 1) 0 < L.getD i 0 := by
        intro i h2 hi
        have := ordS_lt s HMay.out i h2 (by rw [← HLo.out, HN.out]; exact hi)
        rwa [← HLo.out] at this
      have hcl0 := hI 0 (by rw [HN.out]; omega)
      rw [h00, Nat.add_zero] at hcl0
      have cR : ∀ d os, Calls Try.prog 10 #[sV s', .slice (some ⟨b, off, none⟩) N c] (Go.Sort.grow (redrawn wc d) os) fun en w'' => en = .returned (sV s) ∧ ∃ p : Regrown, w'' = Go.Sort.grow (redrawn wc p.d) p.os := fun d os => by
        have h := refSet_any s' (some ⟨b, off, none⟩) N c L (by omega) (Go.Sort.grow (redrawn wc d) os) (HIn4.out.belowAll (below_regrown wc d os))
        rw [hset] at h
        exact Calls.regrown_of h
      unfold sV at cR
      have z0 := fun d os => cell_regrown c0 d os
      have z1 := fun d os => cell_regrown c1 d os
      have z2 := fun d os => cell_regrown c2 d os
      have z3 := fun d os => cell_regrown c3 d os
      have z4 := fun d os => cell_regrown c4 d os
      have y0 := fun d os => cell_regrown e0 d os
      have y1 := fun d os => cell_regrown e1 d os
      have y2 := fun d os => cell_regrown e2 d os
      have y3 := fun d os => cell_regrown e3 d os
      have y4 := fun d os => cell_regrown e4 d os
      have yl := fun d os => cell_regrown hcl0 d os
      have CR := Lib.hid cR
      have HIx := Lib.hid hI
      have HLt := Lib.hid hlt
      have n1' : decide ((N : Int) < 1) = false := by simp; omega
      have n6' : decide ((6 : Int) < N) = false := by simp; omega
      clear cR hset h00 c0 c1 c2 c3 c4 e0 e1 e2 e3 e4 hI hcl0 hlt hcase
      go_upto_region 8 with fail
      refine wp_region_quiet_below (by kernel_rfl) (by kernel_rfl) ?_
      repeat (go_big_quiet_step (first | exact CR.out _ _))
      refine wpQuiet_nil ?_
      intro _ hw'
      obtain ⟨⟨dq, osq⟩, hw''⟩ := hw'
      obtain ⟨w5, hw5⟩ : ∃ w5, Go.Sort.grow (redrawn wc dq) osq = w5 := ⟨_, rfl⟩
      have hb5 := below_regrown wc dq osq
      rw [hw5] at hb5
      rw [hw''] 
      simp only
      rw [hw5]
      have HB5 : Hid (Below rb w w5) := Lib.hid (HB4.out.trans (hb5.mono (by omega)))
      have HI5 : Hid (∀ i, i < N → w5.cell? ⟨b, off + i, none⟩ = some (.int .i64 (L.getD i 0))) := Lib.hid (fun i hi => (hb5.cell (p := ⟨b, off + i, none⟩) hbl).trans (HIx.out i (by rw [HN.out]; exact hi)))
      have hbl5 : b < w5.heap.size := Nat.lt_of_lt_of_le hbl hb5.size
      clear z0 z1 z2 z3 z4 y0 y1 y2 y3 y4 yl hb5 hw5 hw'' CR
      go_wp2_with fail
      go_loopw [6] (fun i wr => ∃ j : Nat, i = .int .i64 (j : Int) ∧ 2 ≤ j ∧ j ≤ 6 ∧ Hid (Below w5.heap.size w5 wr)) (fun i _ => 6 - (intOf i).toNat)
      case atStart => exact ⟨2, rfl, by omega, by omega, Lib.hid (Below.refl _ _)⟩
      case round =>
        rename_i wr
        obtain ⟨j, rfl, hj2, hj6, HF⟩ := hrel
        by_cases hlt : j < N
        · have hd : decide (j < N) = true := by simp; omega
          have ca := (HF.out.cell (p := ⟨b, off + j, none⟩) hbl5).trans (HI5.out j hlt)
          have cb := (HF.out.cell (p := ⟨b, off + (j - 1), none⟩) hbl5).trans (HI5.out (j - 1) (by omega))
          have hup := HLt.out j hj2 hlt
          obtain ⟨x, hx⟩ : ∃ x, L.getD j 0 = x := ⟨_, rfl⟩
          obtain ⟨y, hy⟩ : ∃ y, L.getD (j - 1) 0 = y := ⟨_, rfl⟩
          rw [hx] at ca hup
          rw [hy] at cb hup
          have hxy : decide (x ≤ y) = false := by simp; omega
          have hj1 : (j : Int) - 1 = ((j - 1 : Nat) : Int) := by omega
          clear hx hy hup
          go_wp2_with fail
          go_region
          go_wp2
          go_roundw
          case rel => exact ⟨j + 1, by go_num, by omega, by omega, Lib.hid (HF.out.drew)⟩
          case measure => simp [intOf]; omega
        · have hd : decide (j < N) = false := by simp; omega
          go_wp2
          go_ret
          exact ⟨rfl, by rw [HRb.out]; exact HB5.out.trans (HF.out.mono (by have := HB5.out.size; rw [HRb.out] at this; exact this))⟩
end Go.Proofs.Ytfapmgecebcfaaa.Z
