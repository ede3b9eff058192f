/- Plain facts on numbers as bytes: seven bits a byte, the lowest first. No Go here. -/
import Derived.Laws.BitsAllLaws
import Derived.Laws.Bits128
namespace Go.Proofs.YtghnkpfnpidncaaDoor.I

/-- the greatest number -/
def top : Nat := 2 ^ 62
/-- n, brought among the numbers that there are -/
def clipN (n : Int) : Nat := min n.toNat top
theorem clipN_le (n : Int) : clipN n ≤ top := Nat.min_le_right _ _
/-- a number's bytes -/
def digs (m : Nat) : List UInt8 := if m < 128 then [UInt8.ofNat m] else UInt8.ofNat (m % 128 + 128) :: digs (m / 128)
termination_by m
decreasing_by omega
theorem digs_small {m : Nat} (h : m < 128) : digs m = [UInt8.ofNat m] := by rw [digs, if_pos h]
theorem digs_big {m : Nat} (h : ¬ m < 128) : digs m = UInt8.ofNat (m % 128 + 128) :: digs (m / 128) := by rw [digs, if_neg h]
theorem digs_pos (m : Nat) : 0 < (digs m).length := by
  by_cases h : m < 128
  · rw [digs_small h]; simp
  · rw [digs_big h]; simp
theorem digs_mono : ∀ (b a : Nat), a ≤ b → (digs a).length ≤ (digs b).length := by
  intro b
  induction b using Nat.strongRecOn with
  | ind b ih =>
    intro a h
    by_cases hb : b < 128
    · rw [digs_small hb, digs_small (by omega)]; simp
    · by_cases ha : a < 128
      · rw [digs_small ha]; exact digs_pos b
      · rw [digs_big ha, digs_big hb]
        have := ih (b / 128) (by omega) (a / 128) (Nat.div_le_div_right h)
        simp; omega
theorem digs_nine (m : Nat) (h : m ≤ top) : (digs m).length ≤ 9 := by
  have e : (digs top).length = 9 := by
    unfold top
    rw [digs_big (by decide), digs_big (by decide), digs_big (by decide), digs_big (by decide), digs_big (by decide), digs_big (by decide), digs_big (by decide), digs_big (by decide), digs_small (by decide)]
    rfl
  have := digs_mono top m h
  omega
theorem clipN_mono {a b : Int} (h : a ≤ b) : clipN a ≤ clipN b := by
  unfold clipN
  omega
/-- the byte of a number's seven lowest bits, with 128 more -/
theorem low_byte (m : Nat) : (bits .or .i64 ((m : Int) % 128) 128) % 256 = ((UInt8.ofNat (m % 128 + 128)).toNat : Int) := by
  have h1 : m % 128 < 2 ^ 7 := Nat.mod_lt _ (by decide)
  have h := (bits_nat .i64 8 (by decide) (fun n h0 h1 => by
    simp [IntKind.wrap, IntKind.bits, IntKind.signed]
    omega) (m % 128) 128 (by omega) (by decide)).2
  have e : ((m : Int) % 128) = ((m % 128 : Nat) : Int) := by omega
  rw [e, show (128 : Int) = ((128 : Nat) : Int) from rfl, h]
  have ho : m % 128 ||| 128 = m % 128 + 128 := by
    have := Nat.two_pow_add_eq_or_of_lt h1 1
    simp at this
    rw [Nat.or_comm, ← this, Nat.add_comm]
  rw [ho]
  simp
end Go.Proofs.YtghnkpfnpidncaaDoor.I
