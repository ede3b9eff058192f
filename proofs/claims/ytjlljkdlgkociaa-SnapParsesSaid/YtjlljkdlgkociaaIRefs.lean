/- The contracts of the document's own reader: Read, Raw, ReadText, End. -/
import Derived.Test.YtjlljkdlgkociaaMerged3
import Derived.Lib.QuietBelow
import Derived.BigQuiet
import Derived.Laws.ResultCell
namespace Go.Proofs.Ytjlljkdlgkociaa.I
open Go.RowKit

/-- The reader's struct. -/
def inV (s : ByteArray) (e : Nat) : Value := .agg #[.string s, .int .i64 e]
theorem refend_any (s : ByteArray) (e : Nat) (w : World) : Calls Try.prog 30 #[inV s e] w fun en w' => en = .returned (.int .i64 (endS s.data.toList e : Nat)) ∧ Below w.heap.size w w' := by
  have hB : Below w.heap.size w (w.alloc (.cells #[.string s, .int .i64 e] 65)) := (Below.refl _ _).alloc (Nat.le_refl _) _
  have HB := Lib.hid hB
  clear hB
  unfold inV
  by_cases he : e = 0
  · subst he
    by_cases hn : s.data.toList = []
    · have hr : endS s.data.toList 0 = 0 := by simp [endS, hn]
      have h1 : s.toList = [] := by rw [ByteArray.toList_eq, hn]
      have h2 : (!s.toList.isEmpty) = false := by rw [h1]; rfl
      have h3 : s.toList.isEmpty = true := by rw [h1]; rfl
      rw [hr]
      clear hr hn
      go_enter Try.func30, Try.ntmps30
      go_wp2
      go_ret
      exact ⟨rfl, HB.out⟩
    · have hr : endS s.data.toList 0 = 1 := by simp [endS, hn]
      have h3 : s.toList.isEmpty = false := by rw [ByteArray.toList_eq]; cases h : s.data.toList <;> simp_all
      rw [hr]
      clear hr hn
      go_enter Try.func30, Try.ntmps30
      go_wp2
      go_ret
      exact ⟨rfl, HB.out⟩
  · have hr : endS s.data.toList e = e := by simp [endS, he]
    have ht : ((e : Int) == 0) = false := by rw [beq_eq_false_iff_ne]; omega
    rw [hr]
    clear hr he
    go_enter Try.func30, Try.ntmps30
    go_wp2
    go_ret
    exact ⟨rfl, HB.out⟩
/-- What a function of the document's reader hands back: the struct behind it, and what was taken. -/
def RefS (b : List UInt8) (st : List UInt8 × Nat) (w : World) (e : Ending) (w' : World) : Prop := ∃ s t : ByteArray, e = .returned (.tuple #[inV s st.2, .string t]) ∧ s.data.toList = st.1 ∧ t.data.toList = b ∧ (s.size : Int) ≤ 1000000 ∧ Below w.heap.size w w'
theorem refraw_any (s : ByteArray) (hs : (s.size : Int) ≤ 1000000) (e : Nat) (he : e ≠ 0 → s.data.toList = []) (n : Int) (w : World) :
    Calls Try.prog 67 #[inV s e, .int .i64 n] w (RefS (rawS s.data.toList e n.toNat).2 (rawS s.data.toList e n.toNat).1 w) := by
  have hsl : s.data.toList.length = s.size := rfl
  obtain ⟨m, hm⟩ : ∃ m : Nat, n.toNat = m := ⟨_, rfl⟩
  have hmx : (if n < 0 then (0 : Int) else n) = (m : Int) := by split <;> omega
  rw [hm]
  by_cases h0 : e = 0
  · subst h0
    by_cases hlt : s.size < m
    · have hr : rawS s.data.toList 0 m = (([], 2), []) := by unfold rawS; rw [if_pos (by omega)]; simp [failS]
      rw [hr]
      clear hr hsl he hm
      unfold inV
      go_enter Try.func67, Try.ntmps67
      go_wp2
      (try simp only [Exit.inBlock, Exit.then])
      refine bodyPost_ret (v := .tuple #[.agg #[.string ⟨#[]⟩, .int .i64 (2 : Nat)], .string ⟨#[]⟩]) (by rw [results_cell_tmp rfl]; go_simp) rfl ?_
      exact ⟨_, _, rfl, rfl, rfl, by decide, ((Below.refl _ _).alloc (Nat.le_refl _) _).alloc (by simp) _⟩
    · have hr : rawS s.data.toList 0 m = ((s.data.toList.drop m, 0), s.data.toList.take m) := by unfold rawS; rw [if_neg (by omega)]
      rw [hr]
      have hle : (m : Int) ≤ s.size := by omega
      clear hr hsl he hlt
      rcases Int.lt_or_le 0 n with hn | hn
      · obtain rfl : n = m := by omega
        clear hmx hm
        unfold inV
        go_enter Try.func67, Try.ntmps67
        go_wp2_with fail
        go_region
        go_wp2
        (try simp only [Exit.inBlock, Exit.then])
        (try simp only [Exit.inBlock, Exit.then])
        refine bodyPost_ret (v := .tuple #[.agg #[.string (s.extract m s.size), .int .i64 (0 : Nat)], .string (s.extract 0 m)]) (by rw [results_cell_tmp rfl]; go_simp) rfl ?_
        refine ⟨_, _, rfl, ?_, by rw [ByteArray.data_extract]; simp, by simp; omega, by (repeat' (first | exact Below.refl _ _ | refine Below.drew ?_ | refine Below.alloc ?_ (by simp <;> omega) _))⟩
        rw [ByteArray.data_extract]
        simp
        rw [List.take_of_length_le (by rw [List.length_drop]; exact Nat.le_refl _)]
      · obtain rfl : m = 0 := by omega
        clear hmx hm
        unfold inV
        go_enter Try.func67, Try.ntmps67
        go_wp2_with fail
        go_region
        go_wp2
        (try simp only [Exit.inBlock, Exit.then])
        (try simp only [Exit.inBlock, Exit.then])
        refine bodyPost_ret (v := .tuple #[.agg #[.string s, .int .i64 (0 : Nat)], .string ByteArray.empty]) (by rw [results_cell_tmp rfl]; go_simp) rfl ?_
        exact ⟨s, _, rfl, by simp, rfl, hs, by (repeat' (first | exact Below.refl _ _ | refine Below.drew ?_ | refine Below.alloc ?_ (by simp <;> omega) _))⟩
  · have hl := he h0
    have hr : rawS s.data.toList e m = (([], e), []) := by rw [hl]; unfold rawS; simp [failS, h0]
    rw [hr]
    have ht : ((e : Int) == 0) = false := by rw [beq_eq_false_iff_ne]; omega
    have ht2 : ((e : Int) != 0) = true := by rw [bne_iff_ne]; omega
    have HL := Lib.hid hl
    clear hr hsl he hm h0 hl
    unfold inV
    go_enter Try.func67, Try.ntmps67
    go_wp2
    all_goals (try simp only [Exit.inBlock, Exit.then])
    all_goals refine bodyPost_ret (v := .tuple #[.agg #[.string s, .int .i64 e], .string ⟨#[]⟩]) (by rw [results_cell_tmp rfl]; go_simp) rfl ?_
    all_goals exact ⟨_, _, rfl, HL.out, rfl, hs, ((Below.refl _ _).alloc (Nat.le_refl _) _).alloc (by simp) _⟩

/-- A number's step, without wrapping. -/
theorem scale_step (N x k : Nat) (hN : N < 128 ^ k) (hk : k < 9) (hx : x < 128) : ∃ C y Z : Nat, 128 ^ (min k 8) = C ∧ x * C = y ∧ N + y = Z ∧ (C : Int) ≤ 72057594037927936 ∧ (y : Int) ≤ 9223372036854775807 ∧ (Z : Int) ≤ 9223372036854775807 ∧ Hid (Z = N + x * 128 ^ k ∧ Z < 128 ^ (k + 1)) := by
  have e8 : min k 8 = k := by omega
  have h8 : 128 ^ k ≤ 128 ^ 8 := Nat.pow_le_pow_right (by decide) (by omega)
  have hmul : x * 128 ^ k ≤ 127 * 128 ^ k := Nat.mul_le_mul_right _ (by omega)
  have hlt : N + x * 128 ^ k < 128 ^ (k + 1) := by rw [Nat.pow_succ]; omega
  refine ⟨128 ^ k, x * 128 ^ k, N + x * 128 ^ k, by rw [e8], rfl, rfl, by omega, by omega, by omega, Lib.hid ⟨rfl, hlt⟩⟩

set_option maxRecDepth 100000 in
set_option maxHeartbeats 1000000 in
theorem refread_any (s : ByteArray) (hs : (s.size : Int) ≤ 1000000) (e : Nat) (he : e ≠ 0 → s.data.toList = []) (w : World) :
    Calls Try.prog 25 #[inV s e] w fun en w' => ∃ t : ByteArray, en = .returned (.tuple #[inV t (numS s.data.toList e).1.2, .int .i64 (numS s.data.toList e).2]) ∧ t.data.toList = (numS s.data.toList e).1.1 ∧ (t.size : Int) ≤ 1000000 ∧ Below w.heap.size w w' := by
  by_cases h0 : e = 0
  · subst h0
    obtain ⟨v, sz, er, hfs⟩ : ∃ v sz er, firstS s.data.toList = (v, sz, er) := ⟨_, _, _, rfl⟩
    have HN : Hid (numS s.data.toList 0 = if er = 0 then ((s.data.toList.drop sz, 0), v) else (([], er), 0)) := Lib.hid (by
      unfold numS
      rw [hfs]
      by_cases her : er = 0
      · simp [her]
      · simp [her, failS])
    have HS : Hid (scan (s.data.toList.drop 0) 0 0 = (v, sz, er)) := Lib.hid (by simpa [firstS] using hfs)
    obtain ⟨R, hR⟩ : ∃ R, numS s.data.toList 0 = R := ⟨_, rfl⟩
    rw [hR] at HN ⊢
    clear hfs hR he
    unfold inV
    go_enter Try.func25, Try.ntmps25
    go_wp2_with fail
    go_loop [4, 5, 6] (fun c sc i => ∃ k N C : Nat, k ≤ 9 ∧ i = .int .i64 k ∧ c = .int .i64 N ∧ sc = .int .i64 C ∧ (k : Int) ≤ s.size ∧ (C : Int) ≤ 72057594037927936 ∧ (N : Int) ≤ 9223372036854775807 ∧ Hid (C = 128 ^ (min k 8) ∧ N < 128 ^ k ∧ scan (s.data.toList.drop k) k N = (v, sz, er))) (fun _ _ i => 9 - (intOf i).toNat)
    case atStart => exact ⟨0, 0, 1, by omega, rfl, rfl, rfl, by omega, by decide, by decide, Lib.hid ⟨by decide, by decide, HS.out⟩⟩
    case round =>
      obtain ⟨k, N, C, hk, rfl, rfl, rfl, hks, hC, hN, hF⟩ := hrel
      by_cases h9 : k = 9
      · subst h9
        have hres : (0, 0, 1) = (v, sz, er) := by
          rw [← hF.out.2.2]
          cases s.data.toList.drop 9 <;> simp [scan]
        have HR : Hid (R = (([], 1), 0)) := Lib.hid (by cases hres; exact HN.out)
        clear hres
        go_wp2
        all_goals (try simp only [Exit.inBlock, Exit.then])
        all_goals refine bodyPost_ret (v := .tuple #[.agg #[.string ⟨#[]⟩, .int .i64 (1 : Nat)], .int .i64 (0 : Nat)]) (by rw [results_cell_tmp rfl]; go_simp) rfl ?_
        all_goals rw [HR.out]
        all_goals exact ⟨_, rfl, rfl, by decide, by (repeat' (first | exact Below.refl _ _ | refine Below.drew ?_ | refine Below.alloc ?_ (by simp <;> omega) _))⟩
      · by_cases hend : k = s.size
        · have hres : (0, 0, 2) = (v, sz, er) := by
            rw [← hF.out.2.2, List.drop_of_length_le (by show s.size ≤ k; omega)]
            simp [scan]
            omega
          have HR : Hid (R = (([], 2), 0)) := Lib.hid (by cases hres; exact HN.out)
          have hke : (k : Int) = (s.size : Int) := by omega
          clear hres hend
          go_wp2
          all_goals (try simp only [Exit.inBlock, Exit.then])
          all_goals refine bodyPost_ret (v := .tuple #[.agg #[.string ⟨#[]⟩, .int .i64 (2 : Nat)], .int .i64 (0 : Nat)]) (by rw [results_cell_tmp rfl]; go_simp) rfl ?_
          all_goals rw [HR.out]
          all_goals exact ⟨_, rfl, rfl, by decide, by (repeat' (first | exact Below.refl _ _ | refine Below.drew ?_ | refine Below.alloc ?_ (by simp <;> omega) _))⟩
        · have hks' : k < s.size := by omega
          have hb : (s[k].toNat : Int) < 256 := by have := s[k].toNat_lt; omega
          obtain ⟨x, hx⟩ : ∃ x : Nat, s[k].toNat % 128 = x := ⟨_, rfl⟩
          have e1 : ((s[k].toNat : Int)).tmod 128 = (x : Int) := by rw [← hx]; rfl
          have hx128 : (x : Int) < 128 := by omega
          have HX := Lib.hid hx
          clear hx
          obtain ⟨C', y, Z, hC', hy, hZ, hC72, hy63, hZ63, hZZ⟩ := scale_step N x k hF.out.2.1 (by omega) (by omega)
          obtain rfl : C' = C := by rw [← hC', hF.out.1]
          have e2 : (x : Int) * (C' : Int) = (y : Int) := by rw [← hy, Int.natCast_mul]
          have e3 : (N : Int) + (y : Int) = (Z : Int) := by omega
          have hstep : scan (s[k] :: s.data.toList.drop (k + 1)) k N = (v, sz, er) := by
            have h := hF.out.2.2
            rwa [drop_cons s k hks'] at h
          simp only [scan] at hstep
          rw [if_neg (by omega), HX.out, ← hZZ.out.1] at hstep
          have HSt := Lib.hid hstep
          have HC := Lib.hid hC'
          clear hstep hy hC'
          by_cases h128 : 128 ≤ (s[k].toNat : Int)
          · have h2 := HSt.out
            rw [if_pos (by omega)] at h2
            have H2 := Lib.hid h2
            clear h2
            by_cases hk8 : k < 8
            · obtain ⟨C2, hC2⟩ : ∃ C2, 128 ^ (min (k + 1) 8) = C2 := ⟨_, rfl⟩
              have e4 : (C' : Int) * 128 = (C2 : Int) := by rw [← hC2, ← HC.out, show min (k + 1) 8 = k + 1 from by omega, show min k 8 = k from by omega, Nat.pow_succ]; simp
              have hC2b : (C2 : Int) ≤ 72057594037927936 := by
                have := Nat.pow_le_pow_right (n := 128) (by decide) (by omega : min (k + 1) 8 ≤ 8)
                omega
              have HC2 := Lib.hid hC2
              clear hC2
              go_wp2
              go_round
              case rel => exact ⟨k + 1, Z, C2, by omega, by go_num, rfl, rfl, by omega, hC2b, hZ63, Lib.hid ⟨HC2.out.symm, hZZ.out.2, H2.out⟩⟩
              case measure => simp [intOf]; omega
            · have HC8 : Hid (128 ^ (min (k + 1) 8) = C') := Lib.hid (by rw [← HC.out, show min (k + 1) 8 = min k 8 from by omega])
              go_wp2
              go_round
              case rel => exact ⟨k + 1, Z, C', by omega, by go_num, rfl, rfl, by omega, hC72, hZ63, Lib.hid ⟨HC8.out.symm, hZZ.out.2, H2.out⟩⟩
              case measure => simp [intOf]; omega
          · have h2 := HSt.out
            rw [if_neg (by omega)] at h2
            by_cases hbad : 0 < k ∧ s[k].toNat = 0
            · rw [if_pos (.inl hbad)] at h2
              obtain ⟨hk0, hb0⟩ := hbad
              have hb0' : ((s[k].toNat : Int) == 0) = true := by rw [beq_iff_eq]; omega
              have HR : Hid (R = (([], 1), 0)) := Lib.hid (by cases h2; exact HN.out)
              clear h2 hb0
              go_wp2
              all_goals (try simp only [Exit.inBlock, Exit.then])
              all_goals refine bodyPost_ret (v := .tuple #[.agg #[.string ⟨#[]⟩, .int .i64 (1 : Nat)], .int .i64 (0 : Nat)]) (by rw [results_cell_tmp rfl]; go_simp) rfl ?_
              all_goals rw [HR.out]
              all_goals exact ⟨_, rfl, rfl, by decide, by (repeat' (first | exact Below.refl _ _ | refine Below.drew ?_ | refine Below.alloc ?_ (by simp <;> omega) _))⟩
            · by_cases htop : top < Z
              · rw [if_pos (.inr htop)] at h2
                have HR : Hid (R = (([], 1), 0)) := Lib.hid (by cases h2; exact HN.out)
                have htop' : (4611686018427387904 : Int) < Z := by unfold top at htop; omega
                clear h2 htop
                by_cases hk0 : 0 < k
                · have hb0' : ((s[k].toNat : Int) == 0) = false := by rw [beq_eq_false_iff_ne]; omega
                  clear hbad
                  go_wp2
                  all_goals (try simp only [Exit.inBlock, Exit.then])
                  all_goals refine bodyPost_ret (v := .tuple #[.agg #[.string ⟨#[]⟩, .int .i64 (1 : Nat)], .int .i64 (0 : Nat)]) (by rw [results_cell_tmp rfl]; go_simp) rfl ?_
                  all_goals rw [HR.out]
                  all_goals exact ⟨_, rfl, rfl, by decide, by (repeat' (first | exact Below.refl _ _ | refine Below.drew ?_ | refine Below.alloc ?_ (by simp <;> omega) _))⟩
                · clear hbad
                  go_wp2
                  all_goals (try simp only [Exit.inBlock, Exit.then])
                  all_goals refine bodyPost_ret (v := .tuple #[.agg #[.string ⟨#[]⟩, .int .i64 (1 : Nat)], .int .i64 (0 : Nat)]) (by rw [results_cell_tmp rfl]; go_simp) rfl ?_
                  all_goals rw [HR.out]
                  all_goals exact ⟨_, rfl, rfl, by decide, by (repeat' (first | exact Below.refl _ _ | refine Below.drew ?_ | refine Below.alloc ?_ (by simp <;> omega) _))⟩
              · rw [if_neg (by omega)] at h2
                have HR : Hid (R = ((s.data.toList.drop (k + 1), 0), Z)) := Lib.hid (by cases h2; exact HN.out)
                have HX2 : Hid ((s.extract (k + 1) s.size).data.toList = s.data.toList.drop (k + 1)) := Lib.hid (by
                  rw [ByteArray.data_extract]
                  simp
                  rw [List.take_of_length_le (by rw [List.length_drop]; exact Nat.le_refl _)])
                have htop' : (Z : Int) ≤ 4611686018427387904 := by unfold top at htop; omega
                clear h2 htop
                by_cases hk0 : 0 < k
                · have hb0' : ((s[k].toNat : Int) == 0) = false := by rw [beq_eq_false_iff_ne]; omega
                  clear hbad
                  go_wp2
                  all_goals (try simp only [Exit.inBlock, Exit.then])
                  all_goals refine bodyPost_ret (v := .tuple #[.agg #[.string (s.extract (k + 1) s.size), .int .i64 (0 : Nat)], .int .i64 (Z : Nat)]) (by rw [results_cell_tmp rfl]; go_simp) rfl ?_
                  all_goals rw [HR.out]
                  all_goals exact ⟨_, rfl, HX2.out, by simp; omega, by (repeat' (first | exact Below.refl _ _ | refine Below.drew ?_ | refine Below.alloc ?_ (by simp <;> omega) _))⟩
                · clear hbad
                  go_wp2
                  all_goals (try simp only [Exit.inBlock, Exit.then])
                  all_goals refine bodyPost_ret (v := .tuple #[.agg #[.string (s.extract (k + 1) s.size), .int .i64 (0 : Nat)], .int .i64 (Z : Nat)]) (by rw [results_cell_tmp rfl]; go_simp) rfl ?_
                  all_goals rw [HR.out]
                  all_goals exact ⟨_, rfl, HX2.out, by simp; omega, by (repeat' (first | exact Below.refl _ _ | refine Below.drew ?_ | refine Below.alloc ?_ (by simp <;> omega) _))⟩
  · have hl := he h0
    have hr : numS s.data.toList e = (([], e), 0) := by rw [hl]; simp [numS, firstS, scan, failS, h0]
    rw [hr]
    have ht : ((e : Int) == 0) = false := by rw [beq_eq_false_iff_ne]; omega
    have ht2 : ((e : Int) != 0) = true := by rw [bne_iff_ne]; omega
    have HL := Lib.hid hl
    clear hr he h0 hl
    unfold inV
    go_enter Try.func25, Try.ntmps25
    go_wp2
    (try simp only [Exit.inBlock, Exit.then])
    refine bodyPost_ret (v := .tuple #[.agg #[.string s, .int .i64 e], .int .i64 0]) (by rw [results_cell_tmp rfl]; go_simp) rfl ?_
    exact ⟨_, rfl, HL.out, hs, ((Below.refl _ _).alloc (Nat.le_refl _) _).alloc (by simp) _⟩
end Go.Proofs.Ytjlljkdlgkociaa.I
