/- GramLongest: of every length there is a datagram just if it has at most 8192 bytes; 8193 bytes are too many. No condition. -/
import Derived.Test.YtghnkpfnpidncaaDoorGAwake
import Derived.ProofKit
import Derived.OpenShut
namespace Go.Proofs.YtghnkpfnpidncaaDoor.G
open Go.RowKit Go.Proofs.YtghnkpfnpidncaaDoor.I

theorem i64_and14 (n : Int) : bits .and .i64 n 16383 = n % 16384 := by
  have h127 : (BitVec.ofInt 64 16383).toNat = 2 ^ 14 - 1 := by decide
  have key : (BitVec.ofInt 64 n &&& BitVec.ofInt 64 16383).toNat = (n % ((2 ^ 64 : Nat) : Int)).toNat % 2 ^ 14 := by
    rw [BitVec.toNat_and, BitVec.toNat_ofInt, h127, Nat.and_two_pow_sub_one_eq_mod]
  show IntKind.i64.wrap ((BitVec.ofInt 64 n &&& BitVec.ofInt 64 16383).toNat : Nat) = n % 16384
  rw [key, IntKind.wrap_i64]
  omega
theorem madeCells_one (z : Value) (n : Nat) : (madeCells #[z] n).toList = List.replicate n z := by
  apply List.ext_getElem
  · simp [madeCells]
  · intro i h1 h2
    simp [madeCells, Nat.mod_one]
/-- A text of zeros: make, and its conversion. -/
theorem zeros (n : Nat) (hn : n ≤ 16384) : ∃ Z : List Value, ∃ d : ByteArray, d.size = n ∧ (∀ W : World, (Instr.makeSlice 47 (.int .i64 (n : Int)) (.int .i64 (n : Int))).run Tryd.prog W = .ok (.slice (some ⟨W.heap.size, 0, none⟩) n n) (W.alloc (.cells Z.toArray 5))) ∧
    ∀ W : World, (convert 47 9 (.slice (some ⟨W.heap.size, 0, none⟩) n n)).run Tryd.prog (W.alloc (.cells Z.toArray 5)) = .ok (.string d) (W.alloc (.cells Z.toArray 5)) := by
  obtain ⟨i0, hi, hz0, hz1, hz2⟩ := info_parts info5
  refine ⟨List.replicate n (.int .u8 0), ⟨(List.replicate n (0 : UInt8)).toArray⟩, by simp [ByteArray.size], fun W => ?_, fun W => ?_⟩
  · rw [run_make W 47 5 i0 _ Tryd.underlying47 hi hz0 .i64 .i64 n n (by omega) (by omega) (by rw [hz2]; omega) (by omega)]
    rw [hz1, Nat.mul_one, Int.toNat_natCast, ← madeCells_one]
    rfl
  · have h := run_convert_bytes_back (P := Tryd.prog) (W.alloc (.cells (List.replicate n (Value.int .u8 0)).toArray 5)) 47 9 5 ⟨W.heap.size, 0, none⟩ n (List.replicate n (0 : UInt8)) Tryd.underlying47 Tryd.underlying5 Tryd.underlying9 (by
      intro j hj
      have hj' : j < n := by simpa using hj
      have hadd : ((⟨W.heap.size, 0, none⟩ : Addr).add j) = ⟨W.heap.size, j, none⟩ := by unfold Addr.add; simp; intro h; exact h.symm
      rw [hadd, cell_alloc_new]
      simp [hj'])
    rw [List.length_replicate] at h
    exact h
theorem digs_two {n : Nat} (h1 : 128 ≤ n) (h2 : n < 16384) : (digs (clipN (n : Int))).length = 2 := by
  have hc : clipN (n : Int) = n := by unfold clipN top; simp; omega
  rw [hc, digs_big (by omega), digs_small (m := n / 128) (by omega)]
  rfl
theorem digs_one {n : Nat} (h1 : n < 128) : (digs (clipN (n : Int))).length = 1 := by
  have hc : clipN (n : Int) = n := by unfold clipN top; simp; omega
  rw [hc, digs_small (by omega)]
  rfl
theorem digs4 : digs (clipN 4) = [4] := by rw [show clipN 4 = 4 by decide, digs_small (by decide)]; rfl
theorem size14 (n : Nat) : sizeN 1 4 [] n = 7 + (digs (clipN (n : Int))).length + n := by
  unfold sizeN
  rw [digs1, digs4, List.length_nil, digs0']
  simp [numsOf]
  omega
theorem check14 (n : Nat) (h : n < 16384) : checkS 1 4 [] n = if 8192 < n + 9 then 3 else 0 := by
  unfold checkS
  rw [if_pos (by decide), size14]
  by_cases h1 : n < 128
  · rw [digs_one h1, if_neg (by omega), if_neg (by omega)]
  · rw [digs_two (by omega) h]
    by_cases h2 : 8192 < n + 9
    · rw [if_pos (by omega), if_pos h2]
    · rw [if_neg (by omega), if_neg h2]
theorem body_len (e k : Int) (zs : List Int) (d : ByteArray) : (bodyS e k zs d).length + 4 = sizeN e k zs d.size := by
  have hl : d.data.toList.length = d.size := rfl
  unfold bodyS sizeN textB
  simp [numsOf, hl]
  omega
/-- What the law asks of the text. -/
theorem pack14 (d : ByteArray) (h : d.size < 16384) (s : ByteArray) (hs : s.data.toList = packS 1 4 [] d) : (8192 < d.size + 9 ∧ s.size = 0) ∨ (¬ 8192 < d.size + 9 ∧ s.size ≠ 0 ∧ (d.size < 128 ∨ s.size = d.size + 9)) := by
  have hl : s.size = (packS 1 4 [] d).length := by rw [← hs]; rfl
  unfold packS at hl
  rw [check14 _ h] at hl
  by_cases h2 : 8192 < d.size + 9
  · rw [if_pos h2, if_neg (by decide)] at hl
    exact .inl ⟨h2, hl⟩
  · rw [if_neg h2, if_pos rfl, List.length_append] at hl
    have hb := body_len 1 4 [] d
    have ht : (S.tl (S.sumOf (bodyS 1 4 [] d))).length = 4 := by simp [S.tl]
    rw [ht] at hl
    rw [size14] at hb
    refine .inr ⟨h2, by omega, ?_⟩
    by_cases h1 : d.size < 128
    · exact .inl h1
    · rw [digs_two (by omega) h] at hb
      exact .inr (by omega)

set_option maxRecDepth 100000 in
set_option maxHeartbeats 4000000 in
theorem longest_walk (n : Int) (w : World) (hT : S.Tab w) : Calls Tryd.prog 6 #[.int .i64 n] w fun e w' => e = .returned (.bool true) ∧ Below w.heap.size w w' := by
  obtain ⟨N, hN, hN2⟩ : ∃ N : Nat, bits .and .i64 n 16383 = (N : Int) ∧ (N : Int) < 16384 := ⟨(n % 16384).toNat, by rw [i64_and14]; omega, by omega⟩
  obtain ⟨Z, d, hd, hm1, hc1⟩ := zeros N (by omega)
  obtain ⟨M, hM⟩ : ∃ M : Nat, M = 8193 := ⟨_, rfl⟩
  obtain ⟨Z', d', hd', hm2, hc2⟩ := zeros M (by omega)
  have HMe := Lib.hid hM
  have HT := Lib.hid hT
  have HM2 := Lib.hid hm2
  have HC2 := Lib.hid hc2
  have HD := Lib.hid hd
  have HD' := Lib.hid hd'
  have HM1 := Lib.hid hm1
  have HC1 := Lib.hid hc1
  clear hT hm2 hc2 hd hd' hm1 hc1 hM
  go_enter Tryd.func6, Tryd.ntmps6
  go_wp2_with fail
  refine (awake_any w HT.out).mono ?_
  rintro en w1 ⟨rfl, hb1⟩
  have hm1 := HM1.out w1
  have hc1 := HC1.out w1
  obtain ⟨gb, hgb⟩ : ∃ gb, (w1.alloc (.cells Z.toArray 5)).heap.size = gb := ⟨_, rfl⟩
  obtain ⟨w2, hw2⟩ : ∃ w2, (w1.alloc (.cells Z.toArray 5)).alloc (.cells #[.int .i64 1, .int .i64 4, .slice none 0 0, .string d] 26) = w2 := ⟨_, rfl⟩
  have hB2 : Below w.heap.size w w2 := by rw [← hw2]; exact (hb1.alloc hb1.size _).alloc (by have := hb1.size; simp; omega) _
  have HG2 : Hid (GBlk gb (.int .i64 1) (.int .i64 4) (.slice none 0 0) (.string d) w2) := Lib.hid (by rw [← hw2, ← hgb]; exact World.alloc_heap_new _ _)
  have HPk := Lib.hid (pack_any 1 4 none 0 0 d [] w2 ⟨rfl, .inl ⟨rfl, rfl⟩⟩ (by rw [HD.out]; omega) (S.tab_of HT.out hB2))
  have HB2 := Lib.hid hB2
  have k0 := HG2.out.c0
  have k1 := HG2.out.c1
  have k2 := HG2.out.c2
  have k3 := HG2.out.c3
  unfold gramV at HPk
  clear hb1 hB2
  go_wp2_with fail
  refine HPk.out.mono ?_
  rintro en w3 ⟨s, rfl, hsl, hb3⟩
  have hcase := pack14 d (by rw [HD.out]; omega) s hsl
  rw [HD.out] at hcase
  have HCase := Lib.hid hcase
  have hg3 : GBlk gb (.int .i64 1) (.int .i64 4) (.slice none 0 0) (.string d) w3 := (hb3.block gb HG2.out.lt).trans HG2.out
  have HB3 : Hid (Below w.heap.size w w3) := Lib.hid (HB2.out.trans (hb3.mono HB2.out.size))
  have hm3 := HM2.out w3
  have hc3 := HC2.out w3
  obtain ⟨w4, hw4⟩ : ∃ w4, w3.alloc (.cells Z'.toArray 5) = w4 := ⟨_, rfl⟩
  rw [hw4] at hm3 hc3
  have hB4 : Below w3.heap.size w3 w4 := by rw [← hw4]; exact (Below.refl _ _).alloc (Nat.le_refl _) _
  have HG3 := Lib.hid hg3
  have HB4 := Lib.hid hB4
  have HW4 := Lib.hid hw4
  have HPa := Lib.hid (parse_big d' (by rw [HD'.out, HMe.out]; decide) w4)
  have HSz : Hid ((s.toList.isEmpty = true ∧ s.size = 0) ∨ (s.toList.isEmpty = false ∧ s.size ≠ 0)) := Lib.hid (by
    rw [ByteArray.toList_eq]
    have hl : s.data.toList.length = s.size := rfl
    cases h : s.data.toList with
    | nil => rw [h] at hl; exact .inl ⟨rfl, hl.symm⟩
    | cons x l => rw [h] at hl; exact .inr ⟨rfl, by simp at hl; omega⟩)
  clear hsl hb3 hg3 k0 k1 k2 k3 hm1 hc1 hgb hw2 hcase hB4 HPk hw4
  go_upto_region 6 with fail
  have hme : (8193 : Int) = (M : Int) := by have := HMe.out; omega
  rw [hme]
  clear hme
  go_wp2_with fail
  refine HPa.out.mono ?_
  rintro en w5 ⟨rfl, hb5⟩
  have hg5 : GBlk gb (.int .i64 1) (.int .i64 4) (.slice none 0 0) (.string d) w5 := (hb5.block gb (Nat.lt_of_lt_of_le HG3.out.lt HB4.out.size)).trans ((HB4.out.block gb HG3.out.lt).trans HG3.out)
  have hB5 : Below w.heap.size w w5 := by
    have h := HB3.out.trans (HB4.out.mono HB3.out.size)
    exact h.trans (hb5.mono h.size)
  obtain ⟨w6, hw6⟩ : ∃ w6, w5.alloc (.cells #[.int .i64 0, .int .i64 0, .slice none 0 0, .string ⟨#[]⟩] 26) = w6 := ⟨_, rfl⟩
  have hB6 : Below w.heap.size w w6 := by rw [← hw6]; exact hB5.alloc hB5.size _
  have hg6 : GBlk gb (.int .i64 1) (.int .i64 4) (.slice none 0 0) (.string d) w6 := by rw [← hw6]; exact (Below.heap_alloc w5 _ gb hg5.lt).trans hg5
  have hck := check_any 1 4 none 0 0 d [] w6 ⟨rfl, .inl rfl⟩ (by rw [HD.out]; omega)
  rw [check14 d.size (by rw [HD.out]; omega), HD.out] at hck
  have HCk := Lib.hid hck
  have HB6 := Lib.hid hB6
  have k0 := hg5.c0
  have k1 := hg5.c1
  have k2 := hg5.c2
  have k3 := hg5.c3
  have m0 := hg6.c0
  have m1 := hg6.c1
  have m2 := hg6.c2
  have m3 := hg6.c3
  have hw9 : wrap64 ((N : Int) + 9) = (N : Int) + 9 := IntWalk.wrap64_in _ ⟨by omega, by omega⟩
  have HW9 := Lib.hid hw9
  clear hw9
  have kn : w5.heap.size ≠ gb := by have := hg5.lt; omega
  unfold gramV at *
  clear hb5 hg5 hB5 hB6 hg6 hck hm3 hc3 HPa hN hN2
  subst hw6
  rcases HCase.out with ⟨h1, h2⟩ | ⟨h1, h2, h3⟩
  · have he : s.toList.isEmpty = true := by rcases HSz.out with h | h; exact h.1; exact absurd h2 h.2
    have h8 : (8192 : Int) < (N : Int) + 9 := by omega
    have hw9 := HW9.out
    have HCk3 := HCk.out
    rw [if_pos h1] at HCk3
    have HCk3 := Lib.hid HCk3
    clear h1 h2
    go_wp2_with fail
    refine HCk3.out.mono ?_
    rintro en w7 ⟨rfl, hb7⟩
    have HB7 : Hid (Below w.heap.size w w7) := Lib.hid (HB6.out.trans (hb7.mono HB6.out.size))
    clear hb7 k0 k1 k2 k3 kn m0 m1 m2 m3
    go_wp2
    all_goals go_ret
    all_goals exact ⟨rfl, HB7.out⟩
  · have he : s.toList.isEmpty = false := by rcases HSz.out with h | h; exact absurd h.2 h2; exact h.1
    have h3' : (N : Int) < 128 ∨ ((128 : Int) ≤ N ∧ (s.size : Int) = (N : Int) + 9) := by omega
    have h8 : (N : Int) + 9 ≤ 8192 := by omega
    have HDec : Hid (decide ((8192 : Int) < (N : Int) + 9) = false) := Lib.hid (decide_eq_false (by omega))
    have hw9 := HW9.out
    have HCk0 := HCk.out
    rw [if_neg h1] at HCk0
    have HCk0 := Lib.hid HCk0
    clear h1 h2 h3
    rcases h3' with h3 | ⟨h4, h3⟩
    all_goals
      go_wp2_with fail
      refine HCk0.out.mono ?_
      rintro en w7 ⟨rfl, hb7⟩
      have HB7 : Hid (Below w.heap.size w w7) := Lib.hid (HB6.out.trans (hb7.mono HB6.out.size))
      clear hb7 k0 k1 k2 k3 kn m0 m1 m2 m3
      go_wp2
      go_ret
      refine ⟨?_, HB7.out⟩
      show Ending.returned (Value.bool (!decide ((8192 : Int) < (N : Int) + 9))) = _
      rw [HDec.out]
      rfl
end Go.Proofs.YtghnkpfnpidncaaDoor.G
