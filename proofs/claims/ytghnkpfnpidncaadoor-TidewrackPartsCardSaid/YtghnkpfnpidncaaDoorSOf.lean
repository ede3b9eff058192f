/- The contract of sum.Of: of any texts, in a world that holds the table, it returns the sum of all of them and changes nothing. -/
import Derived.Test.YtghnkpfnpidncaaDoorRows
import Derived.Test.YtghnkpfnpidncaaDoorSMath
import Derived.WalkKit
import Derived.WalkLawsBesides
import Derived.WalkSpells
import Derived.Outline
import Derived.Lib.Hide
namespace Go.Proofs.YtghnkpfnpidncaaDoor.S
open Go.RowKit

/-- The world holds the table. -/
def Tab (w : World) : Prop := ∀ j, j < 16 → w.cell? ⟨0, j, none⟩ = some (.int .u32 (tbl j : Int))
/-- The cells hold texts. -/
def Strs (w : World) (b off : Nat) (ss : List ByteArray) : Prop := ∀ i, i < ss.length → w.cell? ⟨b, off + i, none⟩ = some (.string (ss.getD i ByteArray.empty))
def bytesOf (ss : List ByteArray) : List UInt8 := ss.flatMap fun s => s.data.toList

theorem bytesOf_snoc (ss : List ByteArray) (k : Nat) (h : k < ss.length) : bytesOf (ss.take (k + 1)) = bytesOf (ss.take k) ++ (ss.getD k ByteArray.empty).data.toList := by
  unfold bytesOf
  rw [List.take_succ_eq_append_getElem h, List.flatMap_append]
  simp [h]

theorem tbl_lt : ∀ j, j < 16 → tbl j < 4294967296 := by decide

theorem byte_xor (C : Nat) (b : UInt8) (h : C < 4294967296) : ∃ X : Nat, bits .xor .u32 (C : Int) ((b.toNat : Int) % 4294967296) = (X : Int) ∧ X < 4294967296 ∧ X = C ^^^ b.toNat := by
  have hb := b.toNat_lt
  refine ⟨C ^^^ b.toNat, ?_, Nat.xor_lt_two_pow (n := 32) h (by omega), rfl⟩
  rw [show ((b.toNat : Int) % 4294967296) = (b.toNat : Int) from by omega]
  exact u32_xor_nat C b.toNat h (by omega)
theorem half_step (X : Nat) (h : X < 4294967296) : ∃ j T Y : Nat, bits .and .u32 (X : Int) 15 = (j : Int) ∧ j < 16 ∧ T = tbl j ∧ bits .xor .u32 ((X : Int) / 16) (T : Int) = (Y : Int) ∧ Y < 4294967296 ∧ Y = hstep X := by
  have ht := tbl_lt (X % 16) (by omega)
  refine ⟨X % 16, tbl (X % 16), hstep X, ?_, by omega, rfl, ?_, hstep_lt h, rfl⟩
  · rw [show (15 : Int) = ((15 : Nat) : Int) from rfl, u32_and_nat X 15 h (by decide)]
    congr 1
    exact Nat.and_two_pow_sub_one_eq_mod X 4
  · rw [show ((X : Int) / 16) = ((X / 16 : Nat) : Int) from by omega]
    exact u32_xor_nat (X / 16) _ (by omega) ht

theorem str_snoc (s : ByteArray) (k : Nat) (h : k < s.size) : s.data.toList.take (k + 1) = s.data.toList.take k ++ [s[k]] := by
  rw [List.take_succ_eq_append_getElem (by simpa using h)]; rfl

theorem take_all (s : ByteArray) : s.data.toList.take s.size = s.data.toList := List.take_of_length_le (Nat.le_refl _)
theorem not_u32 (C : Nat) (h : C < 4294967296) : bits .xor .u32 IntKind.u32.max (C : Int) = ((C ^^^ 4294967295 : Nat) : Int) := by
  rw [show IntKind.u32.max = ((4294967295 : Nat) : Int) from rfl, u32_xor_nat _ C (by decide) h, Nat.xor_comm]

set_option maxHeartbeats 1000000 in
theorem of_some (ss : List ByteArray) (b off cap : Nat) (w : World) (hlen : (ss.length : Int) ≤ 9223372036854775807) (hsz : ∀ i, ((ss.getD i ByteArray.empty).size : Int) ≤ 9223372036854775807)
    (hcell : Strs w b off ss) (hT : Tab w) :
    Calls Tryd.prog 38 #[.slice (some ⟨b, off, none⟩) ss.length cap] w fun e w' => e = .returned (.int .u32 (sumOf (bytesOf ss) : Nat)) ∧ w = w' := by
  have HC := Lib.hid hcell
  have HT := Lib.hid hT
  have HZ := Lib.hid hsz
  clear hcell hT hsz
  go_enter Tryd.func38, Tryd.ntmps38
  go_wp2
  go_loop [3, 9] (fun c i => ∃ k C : Nat, k ≤ ss.length ∧ i = .int .i64 k ∧ c = .int .u32 C ∧ C < 4294967296 ∧ Hid (C = crc 4294967295 (bytesOf (ss.take k)))) (fun _ i => ss.length - (intOf i).toNat)
  case atStart => exact ⟨0, 4294967295, by omega, rfl, rfl, by omega, Lib.hid (by simp [bytesOf, crc])⟩
  case round =>
    obtain ⟨k, C, hk, rfl, rfl, hC, HCk⟩ := hrel
    by_cases hlt : k < ss.length
    · have hc := HC.out k hlt
      have hz := HZ.out k
      obtain ⟨s, hs⟩ : ∃ s, ss.getD k ByteArray.empty = s := ⟨_, rfl⟩
      rw [hs] at hc hz
      have HS := Lib.hid hs
      clear hs
      go_wp2
      go_loop [3, 6, 15] (fun c _ i => ∃ m D : Nat, m ≤ s.size ∧ i = .int .i64 m ∧ c = .int .u32 D ∧ D < 4294967296 ∧ Hid (D = crc (crc 4294967295 (bytesOf (ss.take k))) (s.data.toList.take m))) (fun _ _ i => s.size - (intOf i).toNat)
      case atStart => exact ⟨0, C, by omega, rfl, rfl, hC, Lib.hid (by rw [HCk.out]; simp [crc])⟩
      case round =>
        obtain ⟨m, D, hm, rfl, rfl, hD, HDm⟩ := hrel
        by_cases hlt' : m < s.size
        · obtain ⟨X, e1, hX, xX⟩ := byte_xor D s[m] hD
          obtain ⟨j, T, Y, e2, hj, tT, e3, hY, yY⟩ := half_step X hX
          obtain ⟨j', T', Z, e4, hj', tT', e5, hZ, zZ⟩ := half_step Y hY
          have c1 := HT.out j hj
          have c2 := HT.out j' hj'
          rw [← tT] at c1
          rw [← tT'] at c2
          have HX := Lib.hid xX
          have HY := Lib.hid yY
          have HZ' := Lib.hid zZ
          clear xX yY zZ tT tT'
          go_wp2
          go_round
          case rel => exact ⟨m + 1, Z, by omega, by go_num, rfl, hZ, Lib.hid (by rw [str_snoc s m hlt', crc_snoc, ← HDm.out, HZ'.out, HY.out, HX.out]; rfl)⟩
          case measure => simp [intOf]; omega
        · go_wp2
          go_round
          case rel =>
            obtain rfl : m = s.size := by omega
            exact ⟨k + 1, D, by omega, by go_num, rfl, hD, Lib.hid (by rw [bytesOf_snoc ss k hlt, HS.out, crc_append, HDm.out, take_all])⟩
          case measure => simp [intOf]; omega
    · go_wp2
      go_ret
      obtain rfl : k = ss.length := by omega
      have h := HCk.out
      rw [List.take_length] at h
      exact ⟨congrArg (fun x => Ending.returned (.int .u32 x)) (by rw [not_u32 C hC, sumOf, ← h]), rfl⟩
end Go.Proofs.YtghnkpfnpidncaaDoor.S
