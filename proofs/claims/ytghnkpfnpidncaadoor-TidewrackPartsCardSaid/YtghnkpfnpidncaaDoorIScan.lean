/- Plain facts on reading a number: what was written is read, and what is read was written so. No Go here. -/
import Derived.Test.YtghnkpfnpidncaaDoorIMath
import Derived.Laws.BitsLemmas
namespace Go.Proofs.YtghnkpfnpidncaaDoor.I

/-- A number's bytes, read from place i on, n having come: the number, how many bytes it has, the error (1: the form; 2: the end). -/
def scan : List UInt8 → Nat → Nat → Nat × Nat × Nat
  | [], i, _ => if 9 ≤ i then (0, 0, 1) else (0, 0, 2)
  | b :: r, i, n => if 9 ≤ i then (0, 0, 1) else if 128 ≤ b.toNat then scan r (i + 1) (n + b.toNat % 128 * 128 ^ i)
      else if (0 < i ∧ b.toNat = 0) ∨ top < n + b.toNat % 128 * 128 ^ i then (0, 0, 1) else (n + b.toNat % 128 * 128 ^ i, i + 1, 0)
def firstS (l : List UInt8) : Nat × Nat × Nat := scan l 0 0

theorem scan_digs : ∀ (m i n : Nat) (r : List UInt8), n + m * 128 ^ i ≤ top → i + (digs m).length ≤ 9 → (i = 0 ∨ 0 < m) → scan (digs m ++ r) i n = (n + m * 128 ^ i, i + (digs m).length, 0) := by
  intro m
  induction m using Nat.strongRecOn with
  | ind m ih =>
    intro i n r h9 hl h0
    have hp := digs_pos m
    by_cases hb : m < 128
    · rw [digs_small hb]
      have e : (UInt8.ofNat m).toNat = m := by simp; omega
      simp only [List.cons_append, List.nil_append, scan, e]
      rw [if_neg (by omega), if_neg (by omega), Nat.mod_eq_of_lt hb, if_neg (by omega)]
      simp
    · rw [digs_big hb]
      have e : (UInt8.ofNat (m % 128 + 128)).toNat = m % 128 + 128 := by simp; omega
      have hl2 : (digs m).length = (digs (m / 128)).length + 1 := by rw [digs_big hb]; simp
      have key : n + m % 128 * 128 ^ i + m / 128 * 128 ^ (i + 1) = n + m * 128 ^ i := by
        have : m / 128 * 128 ^ (i + 1) = (m / 128 * 128) * 128 ^ i := by rw [Nat.pow_succ, Nat.mul_comm (128 ^ i) 128, Nat.mul_assoc]
        rw [this, Nat.add_assoc, ← Nat.add_mul]
        congr 2
        omega
      simp only [List.cons_append, scan, e]
      rw [if_neg (by omega), if_pos (by omega), show (m % 128 + 128) % 128 = m % 128 from by omega, ih (m / 128) (by omega) (i + 1) _ r (by omega) (by omega) (.inr (by omega)), key]
      simp
      omega
theorem first_digs (m : Nat) (r : List UInt8) (h : m ≤ top) : firstS (digs m ++ r) = (m, (digs m).length, 0) := by
  have := scan_digs m 0 0 r (by simpa using h) (by have := digs_nine m h; omega) (.inl rfl)
  simpa [firstS] using this
theorem scan_only : ∀ (l : List UInt8) (i n v sz : Nat), scan l i n = (v, sz, 0) → ∃ m, v = n + m * 128 ^ i ∧ l.take (sz - i) = digs m ∧ (0 < m ∨ i = 0) ∧ v ≤ top ∧ i < sz ∧ sz - i ≤ l.length
  | [], i, n, v, sz, h => by
    unfold scan at h
    split at h <;> cases h
  | b :: r, i, n, v, sz, h => by
    unfold scan at h
    split at h
    · cases h
    · split at h
      · rename_i h9 h128
        obtain ⟨m, hv, ht, hm, htop, hlt, hle⟩ := scan_only r (i + 1) _ v sz h
        have hb := b.toNat_lt
        have hm0 : 0 < m := hm.resolve_right (by omega)
        have hbig : ¬ m * 128 + b.toNat % 128 < 128 := by omega
        refine ⟨m * 128 + b.toNat % 128, ?_, ?_, .inl (by omega), htop, by omega, by simp; omega⟩
        · rw [hv, Nat.pow_succ, Nat.add_mul, Nat.mul_assoc m 128, Nat.mul_comm 128 (128 ^ i)]
          omega
        · rw [digs_big hbig, show sz - i = (sz - (i + 1)) + 1 from by omega, List.take_succ_cons, ht]
          congr 1
          · have e : (m * 128 + b.toNat % 128) % 128 + 128 = b.toNat := by omega
            rw [e]; simp
          · congr 1; omega
      · split at h
        · cases h
        · rename_i h9 h128 hf
          cases h
          have hb := b.toNat_lt
          refine ⟨b.toNat, by rw [Nat.mod_eq_of_lt (by omega)], ?_, ?_, by omega, by omega, by simp⟩
          · rw [digs_small (by omega), show i + 1 - i = 1 from by omega]; simp
          · omega
theorem first_only {l : List UInt8} {v sz : Nat} (h : firstS l = (v, sz, 0)) : l.take sz = digs v ∧ v ≤ top ∧ 0 < sz ∧ sz ≤ l.length := by
  obtain ⟨m, hv, ht, _, htop, hlt, hle⟩ := scan_only l 0 0 v sz h
  have : m = v := by simpa using hv.symm
  subst this
  exact ⟨by simpa using ht, htop, hlt, by simpa using hle⟩
theorem scan_err : ∀ (l : List UInt8) (i n v sz e : Nat), scan l i n = (v, sz, e) → e ≠ 0 → v = 0 ∧ sz = 0 ∧ (e = 1 ∨ e = 2)
  | [], i, n, v, sz, e, h, he => by
    unfold scan at h
    split at h <;> cases h <;> simp
  | b :: r, i, n, v, sz, e, h, he => by
    unfold scan at h
    split at h
    · cases h; simp
    · split at h
      · exact scan_err r _ _ v sz e h he
      · split at h
        · cases h; simp
        · cases h; exact absurd rfl he
/-- seven bits more -/
theorem or_seven (N x k : Nat) (hN : N < 128 ^ k) (hk : k < 9) (hx : x < 128) : bits .or .i64 (N : Int) (((x * 128 ^ k : Nat)) : Int) = ((N + x * 128 ^ k : Nat) : Int) := by
  have e : 128 ^ k = 2 ^ (7 * k) := by rw [show (128 : Nat) = 2 ^ 7 from rfl, ← Nat.pow_mul]
  have h63 : 128 ^ k * 128 ≤ 2 ^ 63 := by
    rw [e, show (128 : Nat) = 2 ^ 7 from rfl, ← Nat.pow_add]
    exact Nat.pow_le_pow_right (by decide) (by omega)
  have hb : x * 128 ^ k < 2 ^ 63 := Nat.lt_of_lt_of_le (Nat.mul_lt_mul_of_pos_right hx (Nat.pow_pos (by decide))) (by rw [Nat.mul_comm]; exact h63)
  have ha : N < 2 ^ 63 := by
    have : 128 ^ k ≤ 128 ^ k * 128 := Nat.le_mul_of_pos_right _ (by decide)
    omega
  have h := (bits_nat .i64 63 (by decide) (fun n h0 h1 => by
    simp [IntKind.wrap, IntKind.bits, IntKind.signed]
    omega) N (x * 128 ^ k) ha hb).2
  rw [h]
  congr 1
  rw [e, Nat.mul_comm x, Nat.or_comm, Nat.add_comm]
  exact (Nat.two_pow_add_eq_or_of_lt (by rw [← e]; exact hN) x).symm
end Go.Proofs.YtghnkpfnpidncaaDoor.I
