/- The contract of the document's Set. -/
import Derived.Test.YtfapmgecebcfaaaZSet
namespace Go.Proofs.Ytfapmgecebcfaaa.Z
open Go.RowKit
open Go.Proofs.Ytfapmgecebcfaaa.W (OwnI IntsIn)

theorem withS_fore (f b : Int) (u v q : Bool) (x : Int) (h1 : 30 ≤ x) (h2 : x ≤ 37) : withS ⟨f, b, u, v, q⟩ x = ⟨x - 29, b, u, v, q⟩ := by
  have h := w_fore f b u v q (x - 29) (by omega) (by omega)
  rwa [show 30 + (x - 29) - 1 = x by omega] at h
theorem withS_back (f b : Int) (u v q : Bool) (x : Int) (h1 : 40 ≤ x) (h2 : x ≤ 47) : withS ⟨f, b, u, v, q⟩ x = ⟨f, x - 39, u, v, q⟩ := by
  have h := w_back f b u v q (x - 39) (by omega) (by omega)
  rwa [show 40 + (x - 39) - 1 = x by omega] at h
theorem withS_other (f b : Int) (u v q : Bool) (x : Int) (h0 : x ≠ 0) (h1 : x ≠ 1) (h2 : x ≠ 22) (h3 : x ≠ 4) (h4 : x ≠ 24) (h5 : x ≠ 7) (h6 : x ≠ 27) (h7 : ¬ (30 ≤ x ∧ x ≤ 37)) (h8 : x ≠ 39) (h9 : ¬ (40 ≤ x ∧ x ≤ 47)) (h10 : x ≠ 49) : withS ⟨f, b, u, v, q⟩ x = ⟨f, b, u, v, q⟩ := by
  unfold withS colS
  rw [if_neg h0, if_neg (by omega), if_neg (by omega), if_neg (by omega), if_neg (by omega), if_neg h1, if_neg h2, if_neg h3, if_neg h4, if_neg h5, if_neg h6]
theorem SBlk.put0 {t : TypeId} {p : Nat} {f b : Int} {u v q : Bool} {w : World} (h : SBlk t p ⟨f, b, u, v, q⟩ w) (y : Int) : SBlk t p ⟨y, b, u, v, q⟩ (w.setCell ⟨p, 0, none⟩ (.int .i64 y)) := by
  unfold SBlk at *; simp [World.setCell, Array.getElem?_modify, h]
theorem SBlk.put1 {t : TypeId} {p : Nat} {f b : Int} {u v q : Bool} {w : World} (h : SBlk t p ⟨f, b, u, v, q⟩ w) (y : Int) : SBlk t p ⟨f, y, u, v, q⟩ (w.setCell ⟨p, 1, none⟩ (.int .i64 y)) := by
  unfold SBlk at *; simp [World.setCell, Array.getElem?_modify, h]
theorem SBlk.put2 {t : TypeId} {p : Nat} {f b : Int} {u v q : Bool} {w : World} (h : SBlk t p ⟨f, b, u, v, q⟩ w) (y : Bool) : SBlk t p ⟨f, b, y, v, q⟩ (w.setCell ⟨p, 2, none⟩ (.bool y)) := by
  unfold SBlk at *; simp [World.setCell, Array.getElem?_modify, h]
theorem SBlk.put3 {t : TypeId} {p : Nat} {f b : Int} {u v q : Bool} {w : World} (h : SBlk t p ⟨f, b, u, v, q⟩ w) (y : Bool) : SBlk t p ⟨f, b, u, y, q⟩ (w.setCell ⟨p, 3, none⟩ (.bool y)) := by
  unfold SBlk at *; simp [World.setCell, Array.getElem?_modify, h]
theorem SBlk.put4 {t : TypeId} {p : Nat} {f b : Int} {u v q : Bool} {w : World} (h : SBlk t p ⟨f, b, u, v, q⟩ w) (y : Bool) : SBlk t p ⟨f, b, u, v, y⟩ (w.setCell ⟨p, 4, none⟩ (.bool y)) := by
  unfold SBlk at *; simp [World.setCell, Array.getElem?_modify, h]

set_option maxRecDepth 100000 in
set_option maxHeartbeats 16000000 in
theorem refSet_any (s : Sty) (a : Option Addr) (len cap : Nat) (zs : List Int) (hl : (len : Int) ≤ 1000000) (w : World) (h : IntsIn a len zs w) :
    Calls Try.prog 10 #[sV s, .slice a len cap] w fun e w' => e = .returned (sV (setS s zs)) ∧ Below w.heap.size w w' := by
  obtain ⟨R, hR⟩ : ∃ R, setS s zs = R := ⟨_, rfl⟩
  rw [hR]
  obtain ⟨rb, hrb⟩ : ∃ rb, w.heap.size = rb := ⟨_, rfl⟩
  obtain ⟨w1, hw1⟩ : ∃ w1, (w.alloc (.cells #[.int .i64 s.fore, .int .i64 s.back, .bool s.bold, .bool s.under, .bool s.inv] 23)).alloc (.cells #[.int .i64 0, .int .i64 0, .bool false, .bool false, .bool false] 23) = w1 := ⟨_, rfl⟩
  have hb1 : Below rb w w1 := by rw [← hw1, ← hrb]; exact ((Below.refl _ _).alloc (Nat.le_refl _) _).alloc (by simp) _
  have hd1 : SBlk 23 rb s w1 := by rw [← hw1, ← hrb]; exact (SBlk.new _ _ _).alloc _
  have hr1 : SBlk 23 (rb + 1) .zero w1 := by
    have h := SBlk.new 23 (w.alloc (.cells #[.int .i64 s.fore, .int .i64 s.back, .bool s.bold, .bool s.under, .bool s.inv] 23)) .zero
    rw [World.size_alloc, hrb] at h
    rw [← hw1]; exact h
  have hs1 : rb + 1 < w1.heap.size := hr1.lt
  have HI := Lib.hid h
  have hlz := h.1
  have HB1 := Lib.hid hb1
  have HD1 := Lib.hid hd1
  have HR1 := Lib.hid hr1
  have HW1 := Lib.hid hw1
  have HRb := Lib.hid hrb
  have HRR := Lib.hid hR
  unfold sV
  by_cases hz : zs = []
  · have hl0 : len = 0 := by rw [hlz, hz]; rfl
    subst hl0
    have hzz : R = .zero := by rw [← hR]; unfold setS; rw [if_pos hz]
    subst hzz
    have c0 := hr1.c0
    have c1 := hr1.c1
    have c2 := hr1.c2
    have c3 := hr1.c3
    have c4 := hr1.c4
    simp only [Sty.zero] at c0 c1 c2 c3 c4
    have f0 := hr1.fr 0
    have f1 := hr1.fr 1
    have f2 := hr1.fr 2
    have f3 := hr1.fr 3
    have f4 := hr1.fr 4
    clear hb1 hd1 hr1 hw1 hrb hR hz h hlz
    go_enter Try.func10, Try.ntmps10
    go_upto_region 1 with fail
    rw [HW1.out, HRb.out]
    go_wp2
    refine bodyPost_ret (v := sV .zero) (by rw [results_cell (fn := Try.f10) rfl]; go_simp; rfl) rfl ?_
    exact ⟨rfl, by rw [HRb.out]; exact below_set5 (s := .zero) HB1.out (by omega)⟩
  · have hgo : refGo s 0 (zs.drop 0) = R := by rw [← hR, set_ref, if_neg hz, List.drop_zero]
    obtain ⟨b0, off, rfl, hbl, hIx⟩ := h.2.resolve_left hz
    have hpos : 0 < len := by rw [hlz]; exact List.length_pos_iff.2 hz
    have hne : ((len : Int) == 0) = false := by rw [beq_eq_false_iff_ne]; omega
    have hbl' : b0 < rb := by rw [← hrb]; exact hbl
    have HGo := Lib.hid hgo
    have HLz := Lib.hid hlz
    clear hb1 hd1 hr1 hw1 hrb hR hz h hlz hgo hIx hbl
    go_enter Try.func10, Try.ntmps10
    go_upto_region 1 with fail
    rw [HW1.out, HRb.out]
    go_wp2_with fail
    go_loopw [5, 14] (fun k i wr => ∃ j n : Nat, ∃ cur : Sty, i = .int .i64 (j : Int) ∧ k = .int .i64 (n : Int) ∧ n ≤ 4 ∧ j ≤ len ∧ rb + 1 < wr.heap.size ∧ Hid (Below rb w wr ∧ SBlk 23 rb cur wr ∧ SBlk 23 (rb + 1) .zero wr ∧ refGo cur n (zs.drop j) = R)) (fun _ i _ => len - (intOf i).toNat)
    case atStart => exact ⟨0, 0, s, rfl, rfl, by omega, by omega, hs1, Lib.hid ⟨HB1.out, HD1.out, HR1.out, HGo.out⟩⟩
    case round =>
      rename_i wr
      obtain ⟨j, n, cur, rfl, rfl, hn4, hj, hsz, HF⟩ := hrel
      obtain ⟨hB, hD, hZ, hG⟩ := HF.out
      have HB := Lib.hid hB
      have HD := Lib.hid hD
      have HZ := Lib.hid hZ
      by_cases hlt : j < len
      · have hd0 : decide (j < len) = true := by simp; omega
        have hjz : j < zs.length := by rw [← HLz.out]; exact hlt
        have hIr := HI.out.belowAll (by rw [HRb.out]; exact hB)
        obtain ⟨b', off', e', hbr, hIc⟩ := hIr.2.resolve_left (fun e => by rw [e] at hjz; simp at hjz)
        cases e'
        have hcj := hIc j hjz
        obtain ⟨x, hx⟩ : ∃ x, zs.getD j 0 = x := ⟨_, rfl⟩
        rw [hx] at hcj
        cases n with
        | succ n =>
          rw [refGo_stepS cur n zs j hjz] at hG
          have HSt := Lib.hid hG
          have hd1 : decide (0 < n + 1) = true := by simp
          clear hB hD hZ hG hIr hIc HF hx
          go_wp2
          go_roundw
          case rel => exact ⟨j + 1, n, cur, by go_num, by go_num, by omega, by omega, HZ.out.lt, Lib.hid ⟨HB.out, HD.out, HZ.out, HSt.out⟩⟩
          case measure => simp [intOf]; omega
        | zero =>
          have hst := refGo_step0 cur zs j hjz
          rw [hG, hx, tailN_at] at hst
          by_cases hk : taker x
          · rw [if_pos hk] at hst
            by_cases h1 : j + 1 < len
            · have hcy := hIc (j + 1) (by rw [← HLz.out]; exact h1)
              rw [dif_pos (by rw [← HLz.out]; exact h1)] at hst
              obtain ⟨y, hy⟩ : ∃ y, zs.getD (j + 1) 0 = y := ⟨_, rfl⟩
              rw [hy] at hcy hst
              have hd2 : decide ((j : Int) + 1 < len) = true := by simp; omega
              have hcy2 : wr.cell? ⟨b0, off + j + 1, none⟩ = some (.int .i64 y) := by rw [Nat.add_assoc]; exact hcy
              clear hB hD hZ hG hIr hIc HF hx hy
              by_cases h5 : y = 5
              · rw [if_pos h5] at hst
                subst h5
                have HSt := Lib.hid hst
                clear hst
                rcases hk with rfl | rfl
                all_goals
                  go_wp2
                  go_roundw
                  case rel => exact ⟨j + 1, 2, cur, by go_num, by go_num, by omega, by omega, HZ.out.lt, Lib.hid ⟨HB.out, HD.out, HZ.out, HSt.out.symm⟩⟩
                  case measure => simp [intOf]; omega
              · rw [if_neg h5] at hst
                by_cases h2 : y = 2
                · rw [if_pos h2] at hst
                  subst h2
                  have HSt := Lib.hid hst
                  clear hst
                  rcases hk with rfl | rfl
                  all_goals
                    go_wp2
                    go_roundw
                    case rel => exact ⟨j + 1, 4, cur, by go_num, by go_num, by omega, by omega, HZ.out.lt, Lib.hid ⟨HB.out, HD.out, HZ.out, HSt.out.symm⟩⟩
                    case measure => simp [intOf]; omega
                · rw [if_neg h2] at hst
                  have q5 : (y == 5) = false := by rw [beq_eq_false_iff_ne]; exact h5
                  have q2 : (y == 2) = false := by rw [beq_eq_false_iff_ne]; exact h2
                  have HSt := Lib.hid hst
                  clear hst
                  rcases hk with rfl | rfl
                  all_goals
                    go_wp2
                    go_roundw
                    case rel => exact ⟨j + 1, 0, cur, by go_num, by go_num, by omega, by omega, HZ.out.lt, Lib.hid ⟨HB.out, HD.out, HZ.out, HSt.out.symm⟩⟩
                    case measure => simp [intOf]; omega
            · rw [dif_neg (by rw [← HLz.out]; exact h1)] at hst
              have hd2 : decide ((j : Int) + 1 < len) = false := by simp; omega
              have HSt := Lib.hid hst
              clear hB hD hZ hG hIr hIc HF hx hst
              rcases hk with rfl | rfl
              all_goals
                go_wp2
                go_roundw
                case rel => exact ⟨j + 1, 0, cur, by go_num, by go_num, by omega, by omega, HZ.out.lt, Lib.hid ⟨HB.out, HD.out, HZ.out, HSt.out.symm⟩⟩
                case measure => simp [intOf]; omega
          · rw [if_neg hk] at hst
            have hst := hst.symm
            have k38 : x ≠ 38 := fun e => hk (.inl e)
            have k48 : x ≠ 48 := fun e => hk (.inr e)
            obtain ⟨f, b, u, v, q⟩ := cur
            have c0 := HD.out.c0
            have c1 := HD.out.c1
            have c2 := HD.out.c2
            have c3 := HD.out.c3
            have c4 := HD.out.c4
            simp only at c0 c1 c2 c3 c4
            have f0 := HD.out.fr 0
            have f1 := HD.out.fr 1
            have f2 := HD.out.fr 2
            have f3 := HD.out.fr 3
            have f4 := HD.out.fr 4
            clear hB hD hZ hG hIr hIc HF hx
            by_cases x0 : x = 0
            · subst x0
              have hw : withS ⟨f, b, u, v, q⟩ 0 = ⟨0, 0, false, false, false⟩ := by rfl
              rw [hw] at hst
              have HSt := Lib.hid hst
              clear hst hw hk
              go_wp2
              go_roundw
              case rel =>
                have hz5 : SBlk 23 (rb + 1) .zero (set5 wr rb .zero) := ((((HZ.out.other (by omega) _).other (by omega) _).other (by omega) _).other (by omega) _).other (by omega) _
                exact ⟨j + 1, 0, .zero, by go_num, rfl, by omega, by omega, hz5.lt, Lib.hid ⟨below_set5 (s := .zero) HB.out (Nat.le_refl _), HD.out.laid5 (s' := .zero), hz5, HSt.out⟩⟩
              case measure => simp [intOf]; omega
            by_cases x1 : x = 1
            · subst x1
              have hw : withS ⟨f, b, u, v, q⟩ 1 = ⟨f, b, true, v, q⟩ := by simp [withS, colS]
              rw [hw] at hst
              have HSt := Lib.hid hst
              clear hst hw hk
              go_wp2
              go_roundw
              case rel =>
                have hz5 := HZ.out.other (k := rb) (o := 2) (by omega) (.bool true)
                exact ⟨j + 1, 0, ⟨f, b, true, v, q⟩, by go_num, rfl, by omega, by omega, hz5.lt, Lib.hid ⟨HB.out.setCell (p := ⟨rb, 2, none⟩) (Nat.le_refl _) _, HD.out.put2 _, hz5, HSt.out⟩⟩
              case measure => simp [intOf]; omega
            by_cases x22 : x = 22
            · subst x22
              have hw : withS ⟨f, b, u, v, q⟩ 22 = ⟨f, b, false, v, q⟩ := by simp [withS, colS]
              rw [hw] at hst
              have HSt := Lib.hid hst
              clear hst hw hk
              go_wp2
              go_roundw
              case rel =>
                have hz5 := HZ.out.other (k := rb) (o := 2) (by omega) (.bool false)
                exact ⟨j + 1, 0, ⟨f, b, false, v, q⟩, by go_num, rfl, by omega, by omega, hz5.lt, Lib.hid ⟨HB.out.setCell (p := ⟨rb, 2, none⟩) (Nat.le_refl _) _, HD.out.put2 _, hz5, HSt.out⟩⟩
              case measure => simp [intOf]; omega
            by_cases x4 : x = 4
            · subst x4
              have hw : withS ⟨f, b, u, v, q⟩ 4 = ⟨f, b, u, true, q⟩ := by simp [withS, colS]
              rw [hw] at hst
              have HSt := Lib.hid hst
              clear hst hw hk
              go_wp2
              go_roundw
              case rel =>
                have hz5 := HZ.out.other (k := rb) (o := 3) (by omega) (.bool true)
                exact ⟨j + 1, 0, ⟨f, b, u, true, q⟩, by go_num, rfl, by omega, by omega, hz5.lt, Lib.hid ⟨HB.out.setCell (p := ⟨rb, 3, none⟩) (Nat.le_refl _) _, HD.out.put3 _, hz5, HSt.out⟩⟩
              case measure => simp [intOf]; omega
            by_cases x24 : x = 24
            · subst x24
              have hw : withS ⟨f, b, u, v, q⟩ 24 = ⟨f, b, u, false, q⟩ := by simp [withS, colS]
              rw [hw] at hst
              have HSt := Lib.hid hst
              clear hst hw hk
              go_wp2
              go_roundw
              case rel =>
                have hz5 := HZ.out.other (k := rb) (o := 3) (by omega) (.bool false)
                exact ⟨j + 1, 0, ⟨f, b, u, false, q⟩, by go_num, rfl, by omega, by omega, hz5.lt, Lib.hid ⟨HB.out.setCell (p := ⟨rb, 3, none⟩) (Nat.le_refl _) _, HD.out.put3 _, hz5, HSt.out⟩⟩
              case measure => simp [intOf]; omega
            by_cases x7 : x = 7
            · subst x7
              have hw : withS ⟨f, b, u, v, q⟩ 7 = ⟨f, b, u, v, true⟩ := by simp [withS, colS]
              rw [hw] at hst
              have HSt := Lib.hid hst
              clear hst hw hk
              go_wp2
              go_roundw
              case rel =>
                have hz5 := HZ.out.other (k := rb) (o := 4) (by omega) (.bool true)
                exact ⟨j + 1, 0, ⟨f, b, u, v, true⟩, by go_num, rfl, by omega, by omega, hz5.lt, Lib.hid ⟨HB.out.setCell (p := ⟨rb, 4, none⟩) (Nat.le_refl _) _, HD.out.put4 _, hz5, HSt.out⟩⟩
              case measure => simp [intOf]; omega
            by_cases x27 : x = 27
            · subst x27
              have hw : withS ⟨f, b, u, v, q⟩ 27 = ⟨f, b, u, v, false⟩ := by simp [withS, colS]
              rw [hw] at hst
              have HSt := Lib.hid hst
              clear hst hw hk
              go_wp2
              go_roundw
              case rel =>
                have hz5 := HZ.out.other (k := rb) (o := 4) (by omega) (.bool false)
                exact ⟨j + 1, 0, ⟨f, b, u, v, false⟩, by go_num, rfl, by omega, by omega, hz5.lt, Lib.hid ⟨HB.out.setCell (p := ⟨rb, 4, none⟩) (Nat.le_refl _) _, HD.out.put4 _, hz5, HSt.out⟩⟩
              case measure => simp [intOf]; omega
            by_cases x39 : x = 39
            · subst x39
              have hw : withS ⟨f, b, u, v, q⟩ 39 = ⟨0, b, u, v, q⟩ := by simp [withS, colS]
              rw [hw] at hst
              have HSt := Lib.hid hst
              clear hst hw hk
              go_wp2
              go_roundw
              case rel =>
                have hz5 := HZ.out.other (k := rb) (o := 0) (by omega) (.int .i64 0)
                exact ⟨j + 1, 0, ⟨0, b, u, v, q⟩, by go_num, rfl, by omega, by omega, hz5.lt, Lib.hid ⟨HB.out.setCell (p := ⟨rb, 0, none⟩) (Nat.le_refl _) _, HD.out.put0 _, hz5, HSt.out⟩⟩
              case measure => simp [intOf]; omega
            by_cases x49 : x = 49
            · subst x49
              have hw : withS ⟨f, b, u, v, q⟩ 49 = ⟨f, 0, u, v, q⟩ := by simp [withS, colS]
              rw [hw] at hst
              have HSt := Lib.hid hst
              clear hst hw hk
              go_wp2
              go_roundw
              case rel =>
                have hz5 := HZ.out.other (k := rb) (o := 1) (by omega) (.int .i64 0)
                exact ⟨j + 1, 0, ⟨f, 0, u, v, q⟩, by go_num, rfl, by omega, by omega, hz5.lt, Lib.hid ⟨HB.out.setCell (p := ⟨rb, 1, none⟩) (Nat.le_refl _) _, HD.out.put1 _, hz5, HSt.out⟩⟩
              case measure => simp [intOf]; omega
            have q38 : (x == 38) = false := by rw [beq_eq_false_iff_ne]; omega
            have q48 : (x == 48) = false := by rw [beq_eq_false_iff_ne]; omega
            have q0 : (x == 0) = false := by rw [beq_eq_false_iff_ne]; omega
            have q1 : (x == 1) = false := by rw [beq_eq_false_iff_ne]; omega
            have q22 : (x == 22) = false := by rw [beq_eq_false_iff_ne]; omega
            have q4 : (x == 4) = false := by rw [beq_eq_false_iff_ne]; omega
            have q24 : (x == 24) = false := by rw [beq_eq_false_iff_ne]; omega
            have q7 : (x == 7) = false := by rw [beq_eq_false_iff_ne]; omega
            have q27 : (x == 27) = false := by rw [beq_eq_false_iff_ne]; omega
            have q39 : (x == 39) = false := by rw [beq_eq_false_iff_ne]; omega
            have q49 : (x == 49) = false := by rw [beq_eq_false_iff_ne]; omega
            by_cases hf : 30 ≤ x ∧ x ≤ 37
            · obtain ⟨hf1, hf2⟩ := hf
              have hw : withS ⟨f, b, u, v, q⟩ x = ⟨x - 29, b, u, v, q⟩ := by exact withS_fore _ _ _ _ _ _ hf1 hf2
              rw [hw] at hst
              have HSt := Lib.hid hst
              clear hst hw hk
              go_wp2
              go_roundw
              case rel =>
                have hz5 := HZ.out.other (k := rb) (o := 0) (by omega) (.int .i64 (x - 29))
                exact ⟨j + 1, 0, ⟨x - 29, b, u, v, q⟩, by go_num, rfl, by omega, by omega, hz5.lt, Lib.hid ⟨HB.out.setCell (p := ⟨rb, 0, none⟩) (Nat.le_refl _) _, HD.out.put0 _, hz5, HSt.out⟩⟩
              case measure => simp [intOf]; omega
            by_cases hg : 40 ≤ x ∧ x ≤ 47
            · obtain ⟨hg1, hg2⟩ := hg
              have hw : withS ⟨f, b, u, v, q⟩ x = ⟨f, x - 39, u, v, q⟩ := by exact withS_back _ _ _ _ _ _ hg1 hg2
              rw [hw] at hst
              have HSt := Lib.hid hst
              clear hst hw hk
              go_wp2
              go_roundw
              case rel =>
                have hz5 := HZ.out.other (k := rb) (o := 1) (by omega) (.int .i64 (x - 39))
                exact ⟨j + 1, 0, ⟨f, x - 39, u, v, q⟩, by go_num, rfl, by omega, by omega, hz5.lt, Lib.hid ⟨HB.out.setCell (p := ⟨rb, 1, none⟩) (Nat.le_refl _) _, HD.out.put1 _, hz5, HSt.out⟩⟩
              case measure => simp [intOf]; omega
            have hw : withS ⟨f, b, u, v, q⟩ x = ⟨f, b, u, v, q⟩ := by exact withS_other _ _ _ _ _ _ x0 x1 x22 x4 x24 x7 x27 hf x39 hg x49
            rw [hw] at hst
            have HSt := Lib.hid hst
            clear hst hw hk
            rcases (show x < 30 ∨ 47 < x by omega) with hr | hr
            all_goals
              go_wp2
              go_roundw
              case rel =>
                exact ⟨j + 1, 0, ⟨f, b, u, v, q⟩, by go_num, rfl, by omega, by omega, HZ.out.lt, Lib.hid ⟨HB.out, HD.out, HZ.out, HSt.out⟩⟩
              case measure => simp [intOf]; omega
      · obtain rfl : j = len := by omega
        have hcur : cur = R := by rw [← hG, HLz.out, List.drop_length, refGo_nil]
        subst hcur
        have c0 := hD.c0
        have c1 := hD.c1
        have c2 := hD.c2
        have c3 := hD.c3
        have c4 := hD.c4
        have e0 := hZ.c0
        have e1 := hZ.c1
        have e2 := hZ.c2
        have e3 := hZ.c3
        have e4 := hZ.c4
        simp only [Sty.zero] at e0 e1 e2 e3 e4
        have f0 := hZ.fr 0
        have f1 := hZ.fr 1
        have f2 := hZ.fr 2
        have f3 := hZ.fr 3
        have f4 := hZ.fr 4
        clear hB hD hZ hG HF HRR
        go_wp2
        refine bodyPost_ret (v := sV cur) (by rw [results_cell (fn := Try.f10) rfl]; go_simp; rfl) rfl ?_
        exact ⟨rfl, by rw [HRb.out]; exact below_set5 (s := cur) HB.out (by omega)⟩
end Go.Proofs.Ytfapmgecebcfaaa.Z
