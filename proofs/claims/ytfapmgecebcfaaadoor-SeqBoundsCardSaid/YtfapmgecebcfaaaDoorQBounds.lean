/- SeqBounds: there are never more numbers, nor greater ones, nor longer titles, than may be: the walk. -/
import Derived.Test.YtfapmgecebcfaaaDoorQGround
import Derived.Test.YtfapmgecebcfaaaDoorQBig
namespace Go.Proofs.YtfapmgecebcfaaaDoor.Q
open Go.RowKit
open Go.Proofs.YtfapmgecebcfaaaDoor.W (OwnI OwnR IntsIn RunesIn)
open Go.Proofs.YtfapmgecebcfaaaDoor.Y (Tab)

set_option maxRecDepth 100000 in
set_option maxHeartbeats 16000000 in
theorem bounds_walk (s : ByteArray) (hs : (s.size : Int) ≤ 9223372036854775807) (w : World) (hT : Tab w) :
    Calls Tryd.prog 8 #[.string s] w fun e w' => e = .returned (.bool true) ∧ Below w.heap.size w w' := by
  have HT := Lib.hid hT
  obtain ⟨b0, hb0⟩ : ∃ b0, w.heap.size = b0 := ⟨_, rfl⟩
  have HB0 := Lib.hid hb0
  have H1 := Lib.hid (awake_any w hT)
  clear hT hb0
  go_enter Tryd.func8, Tryd.ntmps8
  go_wp2_with fail
  refine H1.out.mono ?_
  rintro e w1 ⟨rfl, hb1⟩
  obtain ⟨rb, hrb⟩ : ∃ rb, w1.heap.size = rb := ⟨_, rfl⟩
  obtain ⟨w2, hw2⟩ : ∃ w2, w1.alloc (.cells zeroP 31) = w2 := ⟨_, rfl⟩
  have hb2 : Below rb w1 w2 := by rw [← hw2, ← hrb]; exact (Below.refl _ _).alloc (Nat.le_refl _) _
  have hB2 : PBlk rb (fresh 0) w2 := by rw [← hw2, ← hrb]; exact PBlk.zero w1
  have hT1 : Tab w1 := HT.out.belowAll hb1
  have h0 : 0 < rb := by rw [← hrb]; exact hT1.pos
  have hne : 0 ≠ rb := by omega
  have hT2 : Tab w2 := hT1.belowAll (by rw [hrb]; exact hb2)
  have hrb0 : b0 ≤ rb := by rw [← hrb, ← HB0.out]; exact hb1.size
  have HB1 : Hid (Below b0 w w1) := Lib.hid (by rw [← HB0.out]; exact hb1)
  have HB2 := Lib.hid hb2
  have HP2 := Lib.hid hB2
  have HT2 := Lib.hid hT2
  unfold zeroP at hw2
  have HW2 := Lib.hid hw2
  have HRb := Lib.hid hrb
  clear hb1 hb2 hB2 hT1 h0 hT2 hw2 hrb H1
  go_upto_region 4 with fail
  rw [HW2.out, HRb.out]
  go_wp2_with fail
  refine (Y.cut_any s 400 hs (by decide) _).mono ?_
  rintro e w' ⟨⟨t, rfl, hts, htl⟩, rfl⟩
  clear htl
  have HF := Lib.hid (feed_any rb (fresh 0) t (by omega) w2 HP2.out (fresh_ok 0 (by decide)) HT2.out hne)
  go_wp2_with fail
  refine HF.out.mono ?_
  rintro e w3 ⟨v3, rfl, hO, _, hK3⟩
  have hgood := good_feed t.data.toList (fresh 0) (fresh_ok 0 (by decide)) (.inl rfl)
  have hcnt := feed_count t.data.toList (fresh 0)
  obtain ⟨L, hL⟩ : ∃ L, (feedS (fresh 0) t.data.toList).2 = L := ⟨_, rfl⟩
  rw [hL] at hO hgood hcnt
  have hB3 := kept_below HB2.out HP2.out.lt hK3
  have HB3 : Hid (Below b0 w w3) := Lib.hid (HB1.out.trans (hB3.mono hrb0))
  have hlt3 : b0 ≤ w3.heap.size := by have := hB3.size; have := HRb.out; omega
  have hsh : ∃ (a : Option Addr) (N cap : Nat), v3 = .slice a N cap ∧ N = L.length ∧ (N : Int) ≤ 800 ∧ ∀ i s, L[i]? = some s → ∃ g nv, a = some ⟨g, 0, none⟩ ∧ g < w3.heap.size ∧ N ≤ cap ∧ ActAt w3 g (i * 6) s nv ∧ OwnI w2.heap.size nv s.nums w3 := by
    have hl8 : (L.length : Int) ≤ 800 := by have : t.data.toList.length = t.size := rfl; omega
    obtain ⟨h, a, c, rfl, _⟩ | ⟨g, cap, rfl, _, hg1, hg2, hc, hcm, hact⟩ := hO.shape
    · subst h
      exact ⟨a, 0, c, rfl, rfl, by omega, fun i s h => by simp at h⟩
    · exact ⟨_, _, cap, rfl, rfl, hl8, fun i s h => by obtain ⟨nv, h1, h2⟩ := hact i s h; exact ⟨g, nv, rfl, hg2, hc, h1, h2⟩⟩
  obtain ⟨a, N, cap, rfl, hNL, hN8, hact⟩ := hsh
  have HAct := Lib.hid hact
  have HGood := Lib.hid hgood
  have HNL := Lib.hid hNL
  clear hO hK3 hgood hcnt hL hB3 hact hNL HF
  go_wp2_with fail
  go_loopw [14] (fun i wr => ∃ j : Nat, i = .int .i64 (j : Int) ∧ j ≤ N ∧ b0 ≤ wr.heap.size ∧ Hid (Below w3.heap.size w3 wr)) (fun i _ => N - (intOf i).toNat)
  case atStart => exact ⟨0, rfl, by omega, hlt3, Lib.hid (Below.refl _ _)⟩
  case round =>
    rename_i wr
    obtain ⟨j, rfl, hj, hbr, HFr⟩ := hrel
    by_cases hlt : j < N
    · have hjl : j < L.length := by rw [← HNL.out]; exact hlt
      obtain ⟨g, nv, rfl, hg, hNc, hat, hown⟩ := HAct.out j L[j] (List.getElem?_eq_getElem hjl)
      have hgd := HGood.out L[j] (List.getElem_mem hjl)
      obtain ⟨sy, hsy⟩ : ∃ sy, L[j] = sy := ⟨_, rfl⟩
      rw [hsy] at hat hown hgd
      have hat' := hat.below HFr.out hg
      have hown' : OwnI w2.heap.size nv sy.nums wr := OwnI.belowAll hown HFr.out
      obtain ⟨an, c, rfl, hin, _, _, hnc, _⟩ := hown'.shape
      have c0 := hat'.c0
      have c1 := hat'.c1
      have c2 := hat'.c2
      have c3 := hat'.c3
      have c4 := hat'.c4
      have c5 := hat'.c5
      obtain ⟨K, R, B, p, nums, text⟩ := sy
      obtain ⟨⟨k1, k5⟩, hnl, hnum, htx, hru, hby⟩ := hgd
      simp only at k1 k5 hnl hnum htx hru hby c0 c1 c2 c3 c4 c5 hin hnc
      obtain ⟨n, hn⟩ : ∃ n, nums.length = n := ⟨_, rfl⟩
      rw [hn] at hnl hin hnc c4
      obtain ⟨S, hS⟩ : ∃ S : ByteArray, S = ⟨⟨text⟩⟩ := ⟨_, rfl⟩
      have hsz : (S.size : Int) ≤ 198 := by rw [hS]; show (text.length : Int) ≤ 198; omega
      unfold strV at c5
      rw [← hS] at c5
      have HIn := Lib.hid hin
      have HNum := Lib.hid hnum
      have HNn := Lib.hid hn
      have hgr : g < wr.heap.size := Nat.lt_of_lt_of_le hg HFr.out.size
      clear hat hown hat' hown' hin hnum hS htx hn hsy hjl
      obtain ⟨w5, hw5⟩ : ∃ w5, wr.alloc (.cells #[.int .i64 (K : Int), .int .i32 (R : Int), .int .u8 (B : Int), .bool p, .slice an n c, .string S] 51) = w5 := ⟨_, rfl⟩
      have hblk : w5.heap[wr.heap.size]? = some (.cells #[.int .i64 (K : Int), .int .i32 (R : Int), .int .u8 (B : Int), .bool p, .slice an n c, .string S] 51 (0, 0)) := by rw [← hw5]; exact World.alloc_heap_new _ _
      have hb5 : Below wr.heap.size wr w5 := by rw [← hw5]; exact (Below.refl _ _).alloc (Nat.le_refl _) _
      obtain ⟨nb, hnb⟩ : ∃ nb, wr.heap.size = nb := ⟨_, rfl⟩
      have HF5 : Hid (Below w3.heap.size w3 w5) := Lib.hid (HFr.out.trans (hb5.mono HFr.out.size))
      have hbr5 : b0 ≤ w5.heap.size := Nat.le_trans hbr hb5.size
      have HIn5 := Lib.hid (HIn.out.belowAll hb5)
      rw [hnb] at hblk
      have e0 : w5.cell? ⟨nb, 0, none⟩ = some (.int .i64 (K : Int)) := by simp [World.cell?, hblk]
      have e1 : w5.cell? ⟨nb, 1, none⟩ = some (.int .i32 (R : Int)) := by simp [World.cell?, hblk]
      have e2 : w5.cell? ⟨nb, 2, none⟩ = some (.int .u8 (B : Int)) := by simp [World.cell?, hblk]
      have e4 : w5.cell? ⟨nb, 4, none⟩ = some (.slice an n c) := by simp [World.cell?, hblk]
      have e5 : w5.cell? ⟨nb, 5, none⟩ = some (.string S) := by simp [World.cell?, hblk]
      have HW5 := Lib.hid hw5
      have HNb := Lib.hid hnb
      clear hw5 hblk hb5 hnb HIn HFr
      go_upto_region 7 with fail
      rw [HW5.out, HNb.out]
      clear c0 c1 c2 c3 c4 c5
      go_cut [62] (fun t62 wx => t62 = .bool false ∧ wx = w5)
      case first =>
        have d1 : decide ((K : Int) < 1) = false := by simp; omega
        have d2 : decide ((5 : Int) < K) = false := by simp; omega
        have d3 : decide ((16 : Int) < n) = false := by simp; omega
        have d4 : decide ((198 : Int) < S.size) = false := by simp; omega
        clear HT HB0 HB1 HB2 HP2 HT2 HW2 HRb HB3 HAct HGood HNL HIn5 HNum HNn HF5 HW5 HNb hs hts hrb0
        by_cases hk1 : K = 1
        · subst hk1
          obtain ⟨r1, r2⟩ := hru rfl
          have d5 : decide ((R : Int) < 32) = false := by simp; omega
          have d6 : ((R : Int) == 127) = false := by rw [beq_eq_false_iff_ne]; omega
          clear hru hby r1 r2 d1 d2 k1 k5
          go_wp2_with fail
          go_meet
          exact ⟨rfl, rfl⟩
        · have q1 : ((K : Int) == 1) = false := by rw [beq_eq_false_iff_ne]; omega
          by_cases hk2 : K = 2
          · subst hk2
            have hB := hby rfl
            have d7 : decide ((32 : Int) ≤ B) = false := by simp; omega
            clear hru hby d1 d2 k1 k5 hB hk1
            go_wp2_with fail
            go_meet
            exact ⟨rfl, rfl⟩
          · have q2 : ((K : Int) == 2) = false := by rw [beq_eq_false_iff_ne]; omega
            clear hru hby hk1 hk2
            go_wp2_with fail
            go_meet
            exact ⟨rfl, rfl⟩
      case rest =>
      obtain ⟨rfl, rfl⟩ := hcut
      clear e0 e1 e2 e5
      go_wp2_with fail
      go_loopw [66] (fun i wi => ∃ m : Nat, i = .int .i64 (m : Int) ∧ m ≤ n ∧ wi = wc) (fun i _ => n - (intOf i).toNat)
      case atStart => exact ⟨0, rfl, by omega, rfl⟩
      case round =>
        obtain ⟨m, rfl, hm, rfl⟩ := hrel
        by_cases hmn : m < n
        · have hml : m < nums.length := by rw [HNn.out]; exact hmn
          obtain ⟨bn, on, rfl, hbn, hIx⟩ := HIn5.out.2.resolve_left (by intro e; rw [e] at hml; simp at hml)
          have hcz := hIx m hml
          obtain ⟨z, hz⟩ : ∃ z, nums.getD m 0 = z := ⟨_, rfl⟩
          have hzm : 0 ≤ z ∧ z ≤ 9999 := HNum.out z (by rw [← hz, List.getD_eq_getElem?_getD, List.getElem?_eq_getElem hml]; exact List.getElem_mem hml)
          rw [hz] at hcz
          obtain ⟨z1, z2⟩ := hzm
          have dz1 : decide (z < 0) = false := by simp; omega
          have dz2 : decide ((9999 : Int) < z) = false := by simp; omega
          have hd : decide (m < n) = true := by simp; omega
          clear hz hIx
          go_wp2
          go_roundw
          case rel => exact ⟨m + 1, by go_num, by omega, by first | rfl | trivial⟩
          case measure => simp [intOf]; omega
        · obtain rfl : m = n := by omega
          go_wp2
          go_roundw
          case rel => exact ⟨j + 1, by go_num, by omega, hbr5, HF5⟩
          case measure => simp [intOf]; omega
    · obtain rfl : j = N := by omega
      go_wp2
      go_ret
      exact ⟨rfl, by rw [HB0.out]; exact HB3.out.trans (HFr.out.mono hlt3)⟩
end Go.Proofs.YtfapmgecebcfaaaDoor.Q
