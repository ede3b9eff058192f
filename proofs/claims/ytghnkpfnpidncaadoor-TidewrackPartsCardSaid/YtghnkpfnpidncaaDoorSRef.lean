/- Contracts of the document's answers for layer 2 (their Of, Seal, Open), and of the fixed fact. -/
import Derived.Test.YtghnkpfnpidncaaDoorSSeal
namespace Go.Proofs.YtghnkpfnpidncaaDoor.S
open Go.RowKit

theorem bits_xor_i64 (a b : Nat) (ha : a < 4294967296) (hb : b < 4294967296) : bits .xor .i64 (a : Int) (b : Int) = ((a ^^^ b : Nat) : Int) := by
  have hx : a ^^^ b < 4294967296 := Nat.xor_lt_two_pow (n := 32) ha hb
  simp only [bits, BitVec.ofInt_natCast, BitVec.toNat_xor, BitVec.toNat_ofNat, show IntKind.bits .i64 = 64 from rfl]
  rw [Nat.mod_eq_of_lt (by omega : a < 2 ^ 64), Nat.mod_eq_of_lt (by omega : b < 2 ^ 64)]
  generalize a ^^^ b = n at hx
  simp [IntKind.wrap, IntKind.bits, IntKind.signed]
  omega
theorem not_nat (C : Nat) (h : C < 4294967296) : C ^^^ 4294967295 = 4294967295 - C := by
  apply Nat.eq_of_testBit_eq
  intro i
  have h2 : (4294967295 : Nat) - C = 2 ^ 32 - (C + 1) := by omega
  rw [h2, Nat.testBit_two_pow_sub_succ (by omega), Nat.testBit_xor, show (4294967295 : Nat) = 2 ^ 32 - 1 from rfl, Nat.testBit_two_pow_sub_one]
  by_cases hi : i < 32
  · simp [hi]
  · simp [hi, Nat.testBit_lt_two_pow (show C < 2 ^ i from Nat.lt_of_lt_of_le (show C < 2 ^ 32 from h) (Nat.pow_le_pow_right (by decide) (by omega)))]
theorem rn_succ (n x : Nat) : rn (n + 1) x = rn n (r1 x) := rfl
set_option maxRecDepth 100000 in
set_option maxHeartbeats 1000000 in
theorem refof_any (s : ByteArray) (hz : (s.size : Int) ≤ 9223372036854775807) (w : World) :
    Calls Tryd.prog 70 #[.string s] w fun e w' => e = .returned (.int .i64 (sumOf s.data.toList : Nat)) ∧ w = w' := by
  go_enter Tryd.func70, Tryd.ntmps70
  go_wp2
  go_loop [3, 4] (fun c i => ∃ m D : Nat, m ≤ s.size ∧ i = .int .i64 m ∧ c = .int .i64 D ∧ D < 4294967296 ∧ Hid (D = crc 4294967295 (s.data.toList.take m))) (fun _ i => s.size - (intOf i).toNat)
  case atStart => exact ⟨0, 4294967295, by omega, rfl, rfl, by omega, Lib.hid (by simp [crc])⟩
  case round =>
    obtain ⟨m, D, hm, rfl, rfl, hD, HDm⟩ := hrel
    by_cases hlt : m < s.size
    · have hb : (s[m].toNat : Int) < 256 := by have := s[m].toNat_lt; omega
      obtain ⟨X, e1, hX, xX⟩ : ∃ X : Nat, bits .xor .i64 (D : Int) (s[m].toNat : Int) = (X : Int) ∧ X < 4294967296 ∧ X = D ^^^ s[m].toNat :=
        ⟨D ^^^ s[m].toNat, bits_xor_i64 _ _ hD (by omega), Nat.xor_lt_two_pow (n := 32) hD (by omega), rfl⟩
      have HX := Lib.hid xX
      clear xX
      go_wp2
      go_loop [3, 5] (fun c i => ∃ k Y : Nat, k ≤ 8 ∧ i = .int .i64 k ∧ c = .int .i64 Y ∧ Y < 4294967296 ∧ Hid (rn 8 X = rn (8 - k) Y)) (fun _ i => 8 - (intOf i).toNat)
      case atStart => exact ⟨0, X, by omega, rfl, rfl, hX, Lib.hid rfl⟩
      case round =>
        obtain ⟨k, Y, hk, rfl, rfl, hY, HYk⟩ := hrel
        by_cases hk8 : k < 8
        · have hstep : rn 8 X = rn (8 - (k + 1)) (r1 Y) := by
            rw [HYk.out, show 8 - k = (8 - (k + 1)) + 1 from by omega, rn_succ]
          have HS := Lib.hid hstep
          have hlt1 := r1_lt hY
          clear hstep
          by_cases h2 : Y % 2 = 1
          · have ht : ((Y : Int) % 2 == 1) = true := by rw [beq_iff_eq]; omega
            obtain ⟨Z, e2, hZ⟩ : ∃ Z : Nat, bits .xor .i64 ((Y : Int) / 2) 3988292384 = (Z : Int) ∧ Hid (Z = r1 Y) := by
              refine ⟨r1 Y, ?_, Lib.hid rfl⟩
              rw [show ((Y : Int) / 2) = ((Y / 2 : Nat) : Int) from by omega, show (3988292384 : Int) = ((3988292384 : Nat) : Int) from rfl, bits_xor_i64 _ _ (by omega) (by decide)]
              unfold r1
              rw [if_pos h2]
            rw [← hZ.out] at hlt1
            have HZ := hZ
            clear hZ h2
            go_wp2
            go_round
            case rel => exact ⟨k + 1, Z, by omega, by go_num, rfl, hlt1, Lib.hid (by rw [HZ.out]; exact HS.out)⟩
            case measure => simp [intOf]; omega
          · have ht : ((Y : Int) % 2 == 1) = false := by rw [beq_eq_false_iff_ne]; omega
            have hZ : Hid (Y / 2 = r1 Y) := Lib.hid (by unfold r1; rw [if_neg h2])
            clear h2
            go_wp2
            go_round
            case rel => exact ⟨k + 1, Y / 2, by omega, by go_num, by go_num, by omega, Lib.hid (by rw [hZ.out]; exact HS.out)⟩
            case measure => simp [intOf]; omega
        · go_wp2
          go_round
          case rel =>
            obtain rfl : k = 8 := by omega
            exact ⟨m + 1, Y, by omega, by go_num, rfl, hY, Lib.hid (by rw [str_snoc s m hlt, crc_snoc, ← HDm.out, bstep_eq, ← HX.out, HYk.out]; rfl)⟩
          case measure => simp [intOf]; omega
    · go_wp2
      go_ret
      obtain rfl : m = s.size := by omega
      have h := HDm.out
      rw [take_all] at h
      exact ⟨congrArg (fun x => Ending.returned (.int .i64 x)) (by rw [sumOf, ← h]; have := not_nat D hD; omega), rfl⟩

set_option maxHeartbeats 400000 in
theorem refseal_any (s : ByteArray) (hs : (s.size : Int) ≤ 200000) (w : World) :
    Calls Tryd.prog 55 #[.string s] w fun e w' => (∃ u : ByteArray, e = .returned (.string u) ∧ (u.size : Int) ≤ s.size + 4 ∧ u.data.toList = s.data.toList ++ tl (sumOf s.data.toList)) ∧ Below w.heap.size w w' := by
  obtain ⟨C, hC⟩ : ∃ C, sumOf s.data.toList = C := ⟨_, rfl⟩
  have hlt : C < 4294967296 := by rw [← hC]; exact sumOf_lt _
  have h1 := refof_any s (by omega) w
  rw [hC] at h1 ⊢
  have H1 := Lib.hid h1
  clear h1 hC
  have hconv := run_convert_bytes_back (P := Tryd.prog) (w.alloc (.cells #[.int .u8 ((C : Int) % 256), .int .u8 ((C : Int) / 256 % 256), .int .u8 ((C : Int) / 65536 % 256), .int .u8 ((C : Int) / 16777216)] 5)) 47 9 5 ⟨w.heap.size, 0, none⟩ 4 (tl C) Tryd.underlying47 Tryd.underlying5 Tryd.underlying9 (by
    intro j hj
    have hj4 : j < 4 := hj
    have hadd : ((⟨w.heap.size, 0, none⟩ : Addr).add j) = ⟨w.heap.size, j, none⟩ := by unfold Addr.add; simp; intro h; exact h.symm
    rw [hadd, cell_alloc_new]
    match j, hj4 with
    | 0, _ => simp [tl]
    | 1, _ => simp [tl]
    | 2, _ => simp [tl]
    | 3, _ => simp [tl]; omega)
  rw [show (tl C).length = 4 from rfl] at hconv
  obtain ⟨t, ht⟩ : ∃ t : ByteArray, (⟨(tl C).toArray⟩ : ByteArray) = t := ⟨_, rfl⟩
  have hts : (t.size : Int) ≤ 4 := by rw [← ht]; show ((tl C).length : Int) ≤ 4; simp [tl]
  have htl : t.data.toList = tl C := by rw [← ht]
  rw [ht] at hconv
  have HTL := Lib.hid htl
  clear htl ht
  go_enter Tryd.func55, Tryd.ntmps55
  go_wp2_with (go_at_call 70; refine H1.out.mono ?_; rintro e w' ⟨rfl, rfl⟩)
  go_ret
  exact ⟨⟨_, rfl, by simp; omega, by simp [HTL.out]⟩, (Below.refl _ _).alloc (Nat.le_refl _) _⟩
theorem refopen_short (s : ByteArray) (hs : (s.size : Int) < 4) (w : World) :
    Calls Tryd.prog 39 #[.string s] w (Pair (opened s.data.toList) (isSealed s.data.toList) w) := by
  have h0 : isSealed s.data.toList = false := by
    unfold isSealed
    rw [decide_eq_false (by show ¬ 4 ≤ s.size; omega)]; rfl
  have h1 : opened s.data.toList = [] := by unfold opened; rw [h0]; rfl
  rw [h0, h1]
  clear h0 h1
  go_enter Tryd.func39, Tryd.ntmps39
  go_wp2
  go_ret2
  exact ⟨_, rfl, rfl, Below.refl _ _⟩

set_option maxHeartbeats 400000 in
theorem refopen_long (s : ByteArray) (n : Nat) (hsz : (s.size : Int) = n + 4) (hs : (n : Int) ≤ 110000) (w : World) :
    Calls Tryd.prog 39 #[.string s] w (Pair (opened s.data.toList) (isSealed s.data.toList) w) := by
  obtain ⟨hd, hE1⟩ : ∃ h, s.extract 0 n = h := ⟨_, rfl⟩
  have hhd : (hd.size : Int) ≤ n := by rw [← hE1]; simp; omega
  have hD : hd.data.toList = s.data.toList.take n := by rw [← hE1]; simp
  have H1 := Lib.hid (refseal_any hd (by omega) w)
  obtain ⟨L, hL⟩ : ∃ L, opened s.data.toList = L := ⟨_, rfl⟩
  obtain ⟨R, hR⟩ : ∃ R, isSealed s.data.toList = R := ⟨_, rfl⟩
  rw [hL, hR]
  have HF : Hid (∀ u : ByteArray, u.data.toList = hd.data.toList ++ tl (sumOf hd.data.toList) → ((!u.toList == s.toList) = false → R = true ∧ L = s.data.toList.take n) ∧ ((!u.toList == s.toList) = true → R = false ∧ L = [])) := by
    refine Lib.hid fun u hu => ?_
    rw [hD] at hu
    have hl : s.data.toList.length = n + 4 := by show s.size = n + 4; omega
    have key : (!u.toList == s.toList) = !isSealed s.data.toList := by
      unfold isSealed
      rw [hl, decide_eq_true (by omega), show n + 4 - 4 = n from by omega, ByteArray.toList_eq, ByteArray.toList_eq, hu, Bool.true_and]
      congr 1
      rw [Bool.eq_iff_iff, beq_iff_eq, beq_iff_eq]
      constructor
      · intro h
        have := congrArg (List.drop n) h
        rw [List.drop_append_of_le_length (by simp; omega), List.drop_of_length_le (by simp; omega), List.nil_append] at this
        exact this
      · intro h
        rw [h, List.take_append_drop]
    rw [key, ← hL, ← hR]
    unfold opened
    rw [hl, show n + 4 - 4 = n from by omega]
    cases isSealed s.data.toList <;> simp
  have HD := Lib.hid hD
  clear hL hR hD
  go_enter Tryd.func39, Tryd.ntmps39
  go_wp2_with (go_at_call 55; refine H1.out.mono ?_; rintro e w' ⟨⟨u, rfl, hus, hul⟩, hb⟩; have HU := Lib.hid hul; have HB := Lib.hid hb; clear hul hb)
  · have h : (n : Int) + 4 < 4 ∨ (!u.toList == s.toList) = true := by assumption
    have h' : (!u.toList == s.toList) = true := h.resolve_left (by omega)
    obtain ⟨rfl, rfl⟩ := (HF.out u HU.out).2 h'
    go_ret2
    exact ⟨_, rfl, rfl, HB.out⟩
  · have h : 4 ≤ (n : Int) + 4 ∧ (!u.toList == s.toList) = false := by assumption
    obtain ⟨rfl, rfl⟩ := (HF.out u HU.out).1 h.2
    go_ret2
    exact ⟨_, rfl, HD.out, HB.out⟩

/-- Open, of any text that isn't long. -/
theorem open_any (s : ByteArray) (hs : (s.size : Int) ≤ 110000) (w : World) (hT : Tab w) : Calls Tryd.prog 33 #[.string s] w (Pair (opened s.data.toList) (isSealed s.data.toList) w) := by
  by_cases h : (s.size : Int) < 4
  · exact open_short s h w
  · exact open_long s (s.size - 4) (by omega) (by omega) w hT
theorem refopen_any (s : ByteArray) (hs : (s.size : Int) ≤ 110000) (w : World) : Calls Tryd.prog 39 #[.string s] w (Pair (opened s.data.toList) (isSealed s.data.toList) w) := by
  by_cases h : (s.size : Int) < 4
  · exact refopen_short s h w
  · exact refopen_long s (s.size - 4) (by omega) (by omega) w

end Go.Proofs.YtghnkpfnpidncaaDoor.S
