/- The contracts of num.first and of In's methods. -/
import Derived.Test.YtghnkpfnpidncaaDoorRows
import Derived.Test.YtghnkpfnpidncaaDoorIScan
import Derived.WalkKit
import Derived.WalkLawsBesides
import Derived.WalkSpells
import Derived.Outline
import Derived.Lib.Hide
import Derived.Below
import Derived.IntWalk
import Derived.OwnWalk
namespace Go.Proofs.YtghnkpfnpidncaaDoor.I
open Go.RowKit

theorem drop_cons (s : ByteArray) (k : Nat) (h : k < s.size) : s.data.toList.drop k = s[k] :: s.data.toList.drop (k + 1) := by
  rw [List.drop_eq_getElem_cons (by show k < s.size; exact h)]; rfl
theorem or_shift (N x k : Nat) (hN : N < 128 ^ k) (hk : k < 9) (hx : x < 128) : ∃ Z : Nat, bits .or .i64 (N : Int) (wrap64 ((x : Int) * 2 ^ (7 * k))) = (Z : Int) ∧ (Z : Int) ≤ 9223372036854775807 ∧ Hid (Z = N + x * 128 ^ k ∧ Z < 128 ^ (k + 1)) := by
  have e : 128 ^ k = 2 ^ (7 * k) := by rw [show (128 : Nat) = 2 ^ 7 from rfl, ← Nat.pow_mul]
  have h63 : 128 ^ k * 128 ≤ 2 ^ 63 := by
    rw [e, show (128 : Nat) = 2 ^ 7 from rfl, ← Nat.pow_add]
    exact Nat.pow_le_pow_right (by decide) (by omega)
  have hmul : x * 128 ^ k ≤ 127 * 128 ^ k := Nat.mul_le_mul_right _ (by omega)
  have hlt : N + x * 128 ^ k < 128 ^ (k + 1) := by rw [Nat.pow_succ]; omega
  have hs : N + x * 128 ^ k < 2 ^ 63 := by rw [Nat.pow_succ] at hlt; omega
  refine ⟨N + x * 128 ^ k, ?_, by omega, Lib.hid ⟨rfl, hlt⟩⟩
  rw [← or_seven N x k hN hk hx]
  congr 1
  have hc : ((x : Int) * 2 ^ (7 * k)) = ((x * 128 ^ k : Nat) : Int) := by rw [e, Int.natCast_mul, Int.natCast_pow]; rfl
  rw [hc]
  exact IntWalk.wrap64_in _ ⟨by omega, by omega⟩

set_option maxRecDepth 100000 in
set_option maxHeartbeats 1000000 in
theorem first_any (s : ByteArray) (hs : (s.size : Int) ≤ 1000000) (v sz e : Nat) (hsc : firstS s.data.toList = (v, sz, e)) (w : World) :
    Calls Tryd.prog 71 #[.string s] w fun en w' => en = .returned (.tuple #[.int .i64 v, .int .i64 sz, .int .i64 e]) ∧ w = w' := by
  have HS := Lib.hid hsc
  clear hsc
  obtain ⟨M, hM⟩ : ∃ M : Nat, (M : Int) = min (s.size : Int) 9 := ⟨min s.size 9, by omega⟩
  have hM9 : (M : Int) ≤ 9 := by omega
  have hMs : (M : Int) ≤ s.size := by omega
  have HM := Lib.hid hM
  have hmn : (if (9 : Int) < s.size then (9 : Int) else s.size) = (M : Int) := by by_cases h : (9 : Int) < s.size <;> simp [h] <;> omega
  clear hM
  go_enter Tryd.func71, Tryd.ntmps71
  go_wp2
  go_loop [5, 11] (fun c i => ∃ k N : Nat, k ≤ M ∧ i = .int .i64 k ∧ c = .int .i64 N ∧ (N : Int) ≤ 9223372036854775807 ∧ Hid (N < 128 ^ k ∧ scan (s.data.toList.drop k) k N = (v, sz, e))) (fun _ i => M - (intOf i).toNat)
  case atStart => exact ⟨0, 0, by omega, rfl, rfl, by omega, Lib.hid ⟨by decide, by have := HS.out; simpa [firstS] using this⟩⟩
  case round =>
    obtain ⟨k, N, hk, rfl, rfl, hN, hF⟩ := hrel
    by_cases hlt : k < M
    · have hks : k < s.size := by omega
      have hb : (s[k].toNat : Int) < 256 := by have := s[k].toNat_lt; omega
      have e1 : bits .and .u8 (s[k].toNat : Int) 127 = ((s[k].toNat % 128 : Nat) : Int) := by
        have := bits_mask .u8 8 (by decide) wraps_u8 7 (by decide) (s[k].toNat : Int) (by omega) (by omega)
        simpa using this
      obtain ⟨x, hx⟩ : ∃ x : Nat, s[k].toNat % 128 = x := ⟨_, rfl⟩
      rw [hx] at e1
      have hx128 : (x : Int) < 128 := by omega
      have HX := Lib.hid hx
      clear hx
      obtain ⟨Z, e2, hZ63, hZ⟩ := or_shift N x k hF.out.1 (by omega) (by omega)
      have hstep : scan (s[k] :: s.data.toList.drop (k + 1)) k N = (v, sz, e) := by
        have h := hF.out.2
        rwa [drop_cons s k hks] at h
      simp only [scan] at hstep
      rw [if_neg (by omega), HX.out, ← hZ.out.1] at hstep
      have HSt := Lib.hid hstep
      clear hstep
      by_cases h128 : 128 ≤ (s[k].toNat : Int)
      · have h2 := HSt.out
        rw [if_pos (by omega)] at h2
        have H2 := Lib.hid h2
        clear h2
        go_wp2
        go_round
        case rel => exact ⟨k + 1, Z, by omega, by go_num, rfl, hZ63, Lib.hid ⟨hZ.out.2, H2.out⟩⟩
        case measure => simp [intOf]; omega
      · have h2 := HSt.out
        rw [if_neg (by omega)] at h2
        by_cases hbad : 0 < k ∧ s[k].toNat = 0
        · rw [if_pos (.inl hbad)] at h2
          obtain ⟨hk0, hb0⟩ := hbad
          have hb0' : ((s[k].toNat : Int) == 0) = true := by rw [beq_iff_eq]; omega
          have H2 := Lib.hid h2
          clear h2 hb0
          go_wp2
          all_goals go_ret3
          all_goals (have h := H2.out; cases h; exact ⟨rfl, rfl⟩)
        · by_cases htop : top < Z
          · rw [if_pos (.inr htop)] at h2
            have H2 := Lib.hid h2
            have htop' : (4611686018427387904 : Int) < Z := by unfold top at htop; omega
            clear h2 htop
            by_cases hk0 : 0 < k
            · have hb0' : ((s[k].toNat : Int) == 0) = false := by rw [beq_eq_false_iff_ne]; omega
              clear hbad
              go_wp2
              all_goals go_ret3
              all_goals (have h := H2.out; cases h; exact ⟨rfl, rfl⟩)
            · clear hbad
              go_wp2
              all_goals go_ret3
              all_goals (have h := H2.out; cases h; exact ⟨rfl, rfl⟩)
          · rw [if_neg (by omega)] at h2
            have H2 := Lib.hid h2
            have htop' : (Z : Int) ≤ 4611686018427387904 := by unfold top at htop; omega
            clear h2 htop
            by_cases hk0 : 0 < k
            · have hb0' : ((s[k].toNat : Int) == 0) = false := by rw [beq_eq_false_iff_ne]; omega
              clear hbad
              go_wp2
              all_goals go_ret3
              all_goals (have h := H2.out; cases h; exact ⟨by simp, rfl⟩)
            · clear hbad
              go_wp2
              all_goals go_ret3
              all_goals (have h := H2.out; cases h; exact ⟨by simp, rfl⟩)
    · obtain rfl : k = M := by omega
      have hend := hF.out.2
      by_cases h9 : 9 ≤ (s.size : Int)
      · have hk9 : k = 9 := by have := HM.out; omega
        have hres : (0, 0, 1) = (v, sz, e) := by
          rw [← hend, hk9]
          cases s.data.toList.drop 9 <;> simp [scan]
        have HR := Lib.hid hres
        clear hres hk9 hend
        go_wp2
        all_goals go_ret3
        all_goals (have h := HR.out; cases h; exact ⟨rfl, rfl⟩)
      · have hks : k = s.size := by have := HM.out; omega
        have hres : (0, 0, 2) = (v, sz, e) := by
          rw [← hend, List.drop_of_length_le (by show s.size ≤ k; omega)]
          simp [scan]
          omega
        have HR := Lib.hid hres
        clear hres hks hend
        go_wp2
        all_goals go_ret3
        all_goals (have h := HR.out; cases h; exact ⟨rfl, rfl⟩)
end Go.Proofs.YtghnkpfnpidncaaDoor.I
