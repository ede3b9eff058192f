/- The contracts of style's belonging and Set. -/
import Derived.Test.YtfapmgecebcfaaaZNum
import Derived.Lib.MinMax
import Derived.Deep.RegionWith
namespace Go.Proofs.Ytfapmgecebcfaaa.Z
open Go.RowKit
open Go.Proofs.Ytfapmgecebcfaaa.W (OwnI IntsIn)

def lenV : Value → Nat
  | .slice _ n _ => n
  | _ => 0
theorem drop_getD (zs : List Int) (j i : Nat) : (zs.drop j).getD i 0 = zs.getD (j + i) 0 := by
  simp [List.getD_eq_getElem?_getD, List.getElem?_drop]
theorem ints_drop {b off len : Nat} {zs : List Int} {w : World} (h : IntsIn (some ⟨b, off, none⟩) len zs w) {j : Nat} (hj : j ≤ len) : IntsIn (some ⟨b, off + j, none⟩) (len - j) (zs.drop j) w := by
  refine ⟨by rw [List.length_drop, h.1], ?_⟩
  by_cases hz : zs.drop j = []
  · exact .inl hz
  · obtain ⟨b', off', e, hb, hI⟩ := h.2.resolve_left (fun e => hz (by rw [e, List.drop_nil]))
    cases e
    refine .inr ⟨b, off + j, rfl, hb, fun i hi => ?_⟩
    rw [List.length_drop] at hi
    rw [Nat.add_assoc, hI (j + i) (by omega), drop_getD]

set_option maxRecDepth 100000 in
set_option maxHeartbeats 2000000 in
theorem belonging_any (b off len cap : Nat) (zs : List Int) (hne : 0 < len) (hl : (len : Int) ≤ 9223372036854775807) (w : World) (h : IntsIn (some ⟨b, off, none⟩) len zs w) :
    Calls Try.prog 16 #[.slice (some ⟨b, off, none⟩) len cap] w fun e w' => e = .returned (.int .i64 (belN (zs.getD 0 0) (zs.drop 1) : Int)) ∧ w = w' := by
  have hlen := h.1
  obtain ⟨b', off', e, hb, hI⟩ := h.2.resolve_left (fun e => by rw [e] at hlen; simp at hlen; omega)
  cases e
  have c0 := hI 0 (by omega)
  have c1 : 1 < len → w.cell? ⟨b, off + 1, none⟩ = some (.int .i64 (zs.getD 1 0)) := fun h1 => hI 1 (by omega)
  have ht : (zs.drop 1).length = len - 1 := by rw [List.length_drop, hlen]
  have hta := tailN_at zs 1
  obtain ⟨V, hV⟩ : ∃ V, belN (zs.getD 0 0) (zs.drop 1) = V := ⟨_, rfl⟩
  rw [hV]
  unfold belN at hV
  rw [ht, hta] at hV
  obtain ⟨x, hx⟩ : ∃ x, zs.getD 0 0 = x := ⟨_, rfl⟩
  obtain ⟨y, hy⟩ : ∃ y, zs.getD 1 0 = y := ⟨_, rfl⟩
  rw [hx] at c0 hV
  rw [hy] at c1 hV
  rw [← hlen] at hV
  simp only [Nat.add_zero] at c0
  clear hta ht hx hy hI hlen
  by_cases hk : taker x
  · rw [if_pos hk] at hV
    by_cases h1 : 1 < len
    · have c1' := c1 h1
      rw [dif_pos h1] at hV
      have h1' : ¬ (len : Int) = 1 := by omega
      clear c1
      by_cases h5 : y = 5
      · rw [if_pos h5] at hV
        have hm : min (2 : Int) ((len : Int) - 1) = (V : Int) := by omega
        subst h5
        rcases hk with rfl | rfl
        all_goals
          go_enter Try.func16, Try.ntmps16
          go_wp2
          go_ret
          exact ⟨by first | rfl | rw [hm], rfl⟩
      · rw [if_neg h5] at hV
        by_cases h2 : y = 2
        · rw [if_pos h2] at hV
          have hm : min (4 : Int) ((len : Int) - 1) = (V : Int) := by omega
          subst h2
          rcases hk with rfl | rfl
          all_goals
            go_enter Try.func16, Try.ntmps16
            go_wp2
            go_ret
            exact ⟨by first | rfl | rw [hm], rfl⟩
        · rw [if_neg h2] at hV
          have hm : min (0 : Int) ((len : Int) - 1) = (V : Int) := by omega
          rcases hk with rfl | rfl
          all_goals
            go_enter Try.func16, Try.ntmps16
            go_wp2
            go_ret
            exact ⟨by first | rfl | rw [hm], rfl⟩
    · rw [dif_neg h1] at hV
      obtain rfl : len = 1 := by omega
      obtain rfl : V = 0 := by omega
      clear c1
      rcases hk with rfl | rfl
      all_goals
        go_enter Try.func16, Try.ntmps16
        go_wp2
        go_ret
        exact ⟨rfl, rfl⟩
  · rw [if_neg hk] at hV
    subst hV
    have h1 : x ≠ 38 := fun e => hk (.inl e)
    have h2 : x ≠ 48 := fun e => hk (.inr e)
    clear c1 hk
    go_enter Try.func16, Try.ntmps16
    go_wp2
    go_ret
    exact ⟨rfl, rfl⟩

set_option maxRecDepth 100000 in
set_option maxHeartbeats 4000000 in
theorem set_any (s : Sty) (a : Option Addr) (len cap : Nat) (zs : List Int) (hc : len ≤ cap) (hl : (cap : Int) ≤ 9223372036854775807) (w : World) (h : IntsIn a len zs w) :
    Calls Try.prog 9 #[sV s, .slice a len cap] w fun e w' => e = .returned (sV (setS s zs)) ∧ Below w.heap.size w w' := by
  obtain ⟨R, hR⟩ : ∃ R, setS s zs = R := ⟨_, rfl⟩
  rw [hR]
  obtain ⟨rb, hrb⟩ : ∃ rb, w.heap.size = rb := ⟨_, rfl⟩
  obtain ⟨w1, hw1⟩ : ∃ w1, (w.alloc (.cells #[.int .i64 s.fore, .int .i64 s.back, .bool s.bold, .bool s.under, .bool s.inv] 26)).alloc (.cells #[.int .i64 0, .int .i64 0, .bool false, .bool false, .bool false] 26) = w1 := ⟨_, rfl⟩
  have hb1 : Below rb w w1 := by rw [← hw1, ← hrb]; exact ((Below.refl _ _).alloc (Nat.le_refl _) _).alloc (by simp) _
  have hd1 : SBlk 26 rb s w1 := by rw [← hw1, ← hrb]; exact (SBlk.new _ _ _).alloc _
  have hr1 : SBlk 26 (rb + 1) .zero w1 := by
    have h := SBlk.new 26 (w.alloc (.cells #[.int .i64 s.fore, .int .i64 s.back, .bool s.bold, .bool s.under, .bool s.inv] 26)) .zero
    rw [World.size_alloc, hrb] at h
    rw [← hw1]; exact h
  have hs1 : rb + 1 < w1.heap.size := hr1.lt
  have HI := Lib.hid h
  have hlz := h.1
  have HB1 := Lib.hid hb1
  have HD1 := Lib.hid hd1
  have HR1 := Lib.hid hr1
  have HW1 := Lib.hid hw1
  have HRb := Lib.hid hrb
  have HRR := Lib.hid hR
  unfold sV
  by_cases hz : zs = []
  · have hl0 : len = 0 := by rw [hlz, hz]; rfl
    subst hl0
    have hzz : R = .zero := by rw [← hR]; unfold setS; rw [if_pos hz]
    subst hzz
    have c0 := hr1.c0
    have c1 := hr1.c1
    have c2 := hr1.c2
    have c3 := hr1.c3
    have c4 := hr1.c4
    simp only [Sty.zero] at c0 c1 c2 c3 c4
    have f0 := hr1.fr 0
    have f1 := hr1.fr 1
    have f2 := hr1.fr 2
    have f3 := hr1.fr 3
    have f4 := hr1.fr 4
    clear hb1 hd1 hr1 hw1 hrb hR hz h hlz
    go_enter Try.func9, Try.ntmps9
    go_upto_region 1 with fail
    rw [HW1.out, HRb.out]
    go_wp2
    refine bodyPost_ret (v := sV .zero) (by rw [results_cell (fn := Try.f9) rfl]; go_simp; rfl) rfl ?_
    exact ⟨rfl, by rw [HRb.out]; exact below_set5 (s := .zero) HB1.out (by omega)⟩
  · have hgo : setGo s (zs.drop 0) = R := by rw [← hR]; unfold setS; rw [if_neg hz, List.drop_zero]
    obtain ⟨b, off, rfl, hbl, hIx⟩ := h.2.resolve_left hz
    have hpos : 0 < len := by rw [hlz]; exact List.length_pos_iff.2 hz
    have hne : ((len : Int) == 0) = false := by rw [beq_eq_false_iff_ne]; omega
    have hbl' : b < rb := by rw [← hrb]; exact hbl
    have HGo := Lib.hid hgo
    have HLz := Lib.hid hlz
    clear hb1 hd1 hr1 hw1 hrb hR hz h hlz hgo hIx hbl
    go_enter Try.func9, Try.ntmps9
    go_upto_region 1 with fail
    rw [HW1.out, HRb.out]
    go_wp2_with fail
    go_loopw [5] (fun v wr => ∃ j o : Nat, ∃ cur : Sty, j ≤ len ∧ (j < len → o = off + j) ∧ v = .slice (some ⟨b, o, none⟩) (len - j) (cap - j) ∧ rb + 1 < wr.heap.size ∧ Hid (Below rb w wr ∧ SBlk 26 rb cur wr ∧ SBlk 26 (rb + 1) .zero wr ∧ setGo cur (zs.drop j) = R)) (fun v _ => lenV v)
    case atStart => exact ⟨0, off, s, by omega, fun _ => rfl, rfl, hs1, Lib.hid ⟨HB1.out, HD1.out, HR1.out, HGo.out⟩⟩
    case round =>
      rename_i wr
      obtain ⟨j, o, cur, hj, ho, rfl, hsz, HF⟩ := hrel
      obtain ⟨hB, hD, hZ, hG⟩ := HF.out
      have hIr := HI.out.belowAll (by rw [HRb.out]; exact hB)
      by_cases hlt : j < len
      · obtain rfl := ho hlt
        clear ho
        have hjz : j < zs.length := by rw [← HLz.out]; exact hlt
        obtain ⟨b', off', e', hbr, hIc⟩ := hIr.2.resolve_left (fun e => by rw [e] at hjz; simp at hjz)
        cases e'
        have hcj := hIc j hjz
        have hst := setGo_step cur zs j hjz
        rw [hG] at hst
        obtain ⟨x, hx⟩ : ∃ x, zs.getD j 0 = x := ⟨_, rfl⟩
        have hbel := belonging_any b (off + j) (len - j) (cap - j) (zs.drop j) (by omega) (by omega)
        rw [drop_getD, List.drop_drop, Nat.add_zero] at hbel
        have hble := belN_le x (zs.drop (j + 1))
        rw [List.length_drop, ← HLz.out] at hble
        rw [hx] at hcj hst hbel
        obtain ⟨k, hk⟩ : ∃ k, belN x (zs.drop (j + 1)) = k := ⟨_, rfl⟩
        rw [hk] at hst hbel hble
        have HIr := Lib.hid hIr
        have HW := Lib.hid (with_any cur x)
        have HBel := Lib.hid hbel
        have HSt := Lib.hid hst
        have HB := Lib.hid hB
        have HD := Lib.hid hD
        have HZ := Lib.hid hZ
        have c0 := hD.c0
        have c1 := hD.c1
        have c2 := hD.c2
        have c3 := hD.c3
        have c4 := hD.c4
        have hd : decide ((0:Int) < ((len - j : Nat) : Int)) = true := by simp; omega
        clear hB hD hZ hG hIr hIc hst hbel hx hk HF hjz
        unfold sV at HW
        go_wp2_with fail
        go_region_with (go_at_call 17; refine (HW.out _).mono ?_; rintro e w2 ⟨rfl, hb2⟩; have hd2 : SBlk 26 rb cur w2 := (hb2.block rb HD.out.lt).trans HD.out; have e0 := hd2.c0; have e1 := hd2.c1; have e2 := hd2.c2; have e3 := hd2.c3; have e4 := hd2.c4; have f0 := hd2.fr 0; have f1 := hd2.fr 1; have f2 := hd2.fr 2; have f3 := hd2.fr 3; have f4 := hd2.fr 4; have HB2 := Lib.hid hb2; have HD2 := Lib.hid hd2; clear hb2 hd2)
        all_goals
          clear HW c0 c1 c2 c3 c4 e0 e1 e2 e3 e4 f0 f1 f2 f3 f4
          obtain ⟨w3, hw3⟩ : ∃ w3, set5 w2 rb (withS cur x) = w3 := ⟨_, rfl⟩
          have hd3 : SBlk 26 rb (withS cur x) w3 := by rw [← hw3]; exact HD2.out.laid5
          have hz2 : SBlk 26 (rb + 1) .zero w2 := (HB2.out.block (rb + 1) HZ.out.lt).trans HZ.out
          have hz3 : SBlk 26 (rb + 1) .zero w3 := by
            rw [← hw3]; unfold set5
            exact ((((hz2.other (by omega) _).other (by omega) _).other (by omega) _).other (by omega) _).other (by omega) _
          have hb3 : Below rb w w3 := by rw [← hw3]; exact below_set5 ((HB.out.drew).trans (HB2.out.mono (by show rb ≤ wr.heap.size; omega))) (Nat.le_refl _)
          have hs3 : rb + 1 < w3.heap.size := hz3.lt
          have hi3 := ints_drop (HI.out.belowAll (by rw [HRb.out]; exact hb3)) hj
          have HBe := Lib.hid (HBel.out w3 hi3)
          unfold set5 at hw3
          rw [hw3]
          have HD3 := Lib.hid hd3
          have HZ3 := Lib.hid hz3
          have HB3 := Lib.hid hb3
          clear hw3 hd3 hz2 hz3 hb3 hi3 HBel
          have hkl : (1 : Int) + k ≤ ((len - j : Nat) : Int) := by omega
          go_wp2_with fail
          refine HBe.out.mono ?_
          rintro e w4 ⟨rfl, rfl⟩
          clear HBe
          by_cases hcap : cap - j = 1 + k
          · go_wp2
            go_roundw
            case rel =>
              refine ⟨j + 1 + k, off + j, withS cur x, by omega, fun h => by omega, ?_, hs3, Lib.hid ⟨HB3.out, HD3.out, HZ3.out, HSt.out.symm⟩⟩
              first | rfl | (congr 1 <;> first | rfl | omega | (congr 2 <;> omega))
            case measure => simp [lenV]; omega
          · go_wp2
            go_roundw
            case rel =>
              refine ⟨j + 1 + k, off + j + (1 + k), withS cur x, by omega, fun h => by omega, ?_, hs3, Lib.hid ⟨HB3.out, HD3.out, HZ3.out, HSt.out.symm⟩⟩
              first | rfl | (congr 1 <;> first | rfl | omega | (congr 2 <;> omega))
            case measure => simp [lenV]; omega
      · obtain rfl : j = len := by omega
        have hcur : cur = R := by rw [← hG, HLz.out, List.drop_length, setGo]
        subst hcur
        have c0 := hD.c0
        have c1 := hD.c1
        have c2 := hD.c2
        have c3 := hD.c3
        have c4 := hD.c4
        have e0 := hZ.c0
        have e1 := hZ.c1
        have e2 := hZ.c2
        have e3 := hZ.c3
        have e4 := hZ.c4
        simp only [Sty.zero] at e0 e1 e2 e3 e4
        have f0 := hZ.fr 0
        have f1 := hZ.fr 1
        have f2 := hZ.fr 2
        have f3 := hZ.fr 3
        have f4 := hZ.fr 4
        have hd : decide ((0:Int) < ((j - j : Nat) : Int)) = false := by simp
        have HB := Lib.hid hB
        clear hB hD hZ hG hIr HF HRR
        go_wp2
        refine bodyPost_ret (v := sV cur) (by rw [results_cell (fn := Try.f9) rfl]; go_simp; rfl) rfl ?_
        exact ⟨rfl, by rw [HRb.out]; exact below_set5 (s := cur) HB.out (by omega)⟩
end Go.Proofs.Ytfapmgecebcfaaa.Z
