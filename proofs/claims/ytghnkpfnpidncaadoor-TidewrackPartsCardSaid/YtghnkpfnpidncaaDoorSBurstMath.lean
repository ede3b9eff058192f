/- Plain facts on bursts: of a sealed text a burst of at most 32 bits, wherever it is, is told. -/
import Derived.Test.YtghnkpfnpidncaaDoorSTurn
namespace Go.Proofs.YtghnkpfnpidncaaDoor.S

theorem num_nil : num [] = 0 := rfl
theorem num_cons (b : UInt8) (l : List UInt8) : num (b :: l) = b.toNat ^^^ (256 * num l) := rfl
theorem mul_xor (k x y : Nat) : 2 ^ k * (x ^^^ y) = (2 ^ k * x) ^^^ (2 ^ k * y) := by
  apply Nat.eq_of_testBit_eq
  intro i
  rw [Nat.testBit_xor, Nat.testBit_two_pow_mul, Nat.testBit_two_pow_mul, Nat.testBit_two_pow_mul, Nat.testBit_xor]
  by_cases h : k ≤ i <;> simp [h]
theorem num_append (l m : List UInt8) : num (l ++ m) = num l ^^^ (2 ^ (8 * l.length) * num m) := by
  induction l with
  | nil => simp [num]
  | cons b l ih =>
    rw [List.cons_append, num_cons, num_cons, ih, show (256 : Nat) = 2 ^ 8 from rfl, mul_xor, ← Nat.mul_assoc, ← Nat.pow_add, List.length_cons, show 8 + 8 * l.length = 8 * (l.length + 1) from by omega, Nat.xor_assoc]
/-- one byte changed -/
theorem num_set : ∀ (l : List UInt8) (i : Nat) (v : UInt8), i < l.length → num (l.set i (l.getD i 0 ^^^ v)) = num l ^^^ (2 ^ (8 * i) * v.toNat)
  | [], i, v, h => by simp at h
  | b :: l, 0, v, _ => by
    simp only [List.set_cons_zero, List.getD_cons_zero, num_cons, UInt8.toNat_xor, Nat.mul_zero, Nat.pow_zero, Nat.one_mul]
    ac_rfl
  | b :: l, i + 1, v, h => by
    simp only [List.set_cons_succ, List.getD_cons_succ, num_cons]
    rw [num_set l i v (by simpa using h), show (256 : Nat) = 2 ^ 8 from rfl, mul_xor, ← Nat.mul_assoc, ← Nat.pow_add, show 8 + 8 * i = 8 * (i + 1) from by omega, Nat.xor_assoc]
theorem num_flip (l : List UInt8) (p b : Nat) (hb : b ≤ 1) (hp : p / 8 < l.length) : num (flip l p b) = num l ^^^ (2 ^ p * b) := by
  unfold flip
  rw [num_set l _ _ hp]
  have hlt : b * 2 ^ (p % 8) < 256 := by
    have h1 : 2 ^ (p % 8) ≤ 2 ^ 7 := Nat.pow_le_pow_right (by decide) (by omega)
    have h2 : b * 2 ^ (p % 8) ≤ 1 * 2 ^ (p % 8) := Nat.mul_le_mul_right _ hb
    omega
  have e : (UInt8.ofNat (b * 2 ^ (p % 8))).toNat = b * 2 ^ (p % 8) := by simp; omega
  rw [e, Nat.mul_comm b, ← Nat.mul_assoc, ← Nat.pow_add, show 8 * (p / 8) + p % 8 = p from by omega]
theorem num_turn (l : List UInt8) (p m k : Nat) (hk : p + k ≤ 8 * l.length) : num (turnL l p m k) = num l ^^^ (2 ^ p * (m % 2 ^ k)) := by
  induction k with
  | zero => simp [turnL, Nat.mod_one]
  | succ k ih =>
    have hl := turnL_length l p m k
    show num (flip (turnL l p m k) (p + k) (m / 2 ^ k % 2)) = _
    rw [num_flip _ _ _ (by omega) (by rw [hl]; omega), ih (by omega), Nat.xor_assoc]
    congr 1
    rw [Nat.pow_add, Nat.mul_assoc, ← mul_xor]
    congr 1
    apply Nat.eq_of_testBit_eq
    intro i
    rw [Nat.testBit_xor, Nat.testBit_mod_two_pow, Nat.testBit_mod_two_pow, Nat.testBit_two_pow_mul]
    by_cases h1 : i < k
    · simp [h1, show i < k + 1 from by omega, show ¬ k ≤ i from by omega]
    · by_cases h2 : i = k
      · subst h2
        simp [Nat.testBit, Nat.shiftRight_eq_div_pow]
      · have : (m / 2 ^ k % 2).testBit (i - k) = false := Nat.testBit_lt_two_pow (Nat.lt_of_lt_of_le (show m / 2 ^ k % 2 < 2 ^ 1 from by omega) (Nat.pow_le_pow_right (by decide) (by omega)))
        simp [h1, show ¬ i < k + 1 from by omega, this]
theorem num_inj : ∀ (l m : List UInt8), l.length = m.length → num l = num m → l = m
  | [], [], _, _ => rfl
  | [], _ :: _, h, _ => by simp at h
  | _ :: _, [], h, _ => by simp at h
  | b :: l, c :: m, h, hn => by
    rw [num_cons, num_cons] at hn
    have key : ∀ (x : UInt8) (y : Nat), (x.toNat ^^^ (256 * y)) % 256 = x.toNat ∧ (x.toNat ^^^ (256 * y)) / 256 = y := by
      intro x y
      have hx := x.toNat_lt
      refine ⟨?_, ?_⟩
      · have h1 : (x.toNat ^^^ (256 * y)) % 2 ^ 8 = (x.toNat % 2 ^ 8) ^^^ ((256 * y) % 2 ^ 8) := Nat.xor_mod_two_pow
        rw [show (256 : Nat) = 2 ^ 8 from rfl] at *
        rw [h1, Nat.mod_eq_of_lt (by omega), Nat.mul_mod_right, Nat.xor_zero]
      · have h1 : (x.toNat ^^^ (256 * y)) / 2 ^ 8 = (x.toNat / 2 ^ 8) ^^^ ((256 * y) / 2 ^ 8) := Nat.xor_div_two_pow
        rw [show (256 : Nat) = 2 ^ 8 from rfl] at *
        rw [h1, Nat.div_eq_of_lt (by omega), Nat.mul_div_cancel_left _ (by decide), Nat.zero_xor]
    have k1 := key b (num l)
    have k2 := key c (num m)
    rw [hn] at k1
    have e1 : b.toNat = c.toNat := k1.1.symm.trans k2.1
    have e2 : num l = num m := k1.2.symm.trans k2.2
    rw [UInt8.toNat_inj.1 e1, num_inj l m (by simpa using h) e2]
theorem num_tl (C : Nat) (h : C < 4294967296) : num (tl C) = C := by
  simp only [tl, num_cons, num_nil, Nat.mul_zero, Nat.xor_zero]
  have e : ∀ n, n < 256 → (UInt8.ofNat n).toNat = n := fun n hn => by simp; omega
  rw [e _ (by omega), e _ (by omega), e _ (by omega), e _ (by omega)]
  have s1 := split_low C 8
  have s2 := split_low (C / 256) 8
  have s3 := split_low (C / 65536) 8
  have d1 : C / 256 / 2 ^ 8 = C / 65536 := by rw [Nat.div_div_eq_div_mul]
  have d2 : C / 65536 / 2 ^ 8 = C / 16777216 := by rw [Nat.div_div_eq_div_mul]
  rw [d1] at s2
  rw [d2] at s3
  have f1 : (C % 256) ^^^ (256 * (C / 256)) = C := by rw [Nat.xor_comm]; exact s1.symm
  have f2 : (C / 256 % 256) ^^^ (256 * (C / 65536)) = C / 256 := by rw [Nat.xor_comm]; exact s2.symm
  have f3 : (C / 65536 % 256) ^^^ (256 * (C / 16777216)) = C / 65536 := by rw [Nat.xor_comm]; exact s3.symm
  rw [f3, f2, f1]
/-- WHEN A TEXT IS SEALED, by its number. -/
theorem sealed_iff (l : List UInt8) (n : Nat) (hl : l.length = n + 4) : isSealed l = true ↔ rn (8 * l.length) (4294967295 ^^^ num l) = rn 32 4294967295 := by
  have hsplit : l = l.take n ++ l.drop n := (List.take_append_drop n l).symm
  have ht : (l.take n).length = n := by simp; omega
  have hd : (l.drop n).length = 4 := by simp; omega
  have hnum : rn (8 * l.length) (4294967295 ^^^ num l) = rn 32 (crc 4294967295 (l.take n) ^^^ num (l.drop n)) := by
    rw [crc_num, ht]
    conv => lhs; rw [hsplit, num_append, List.length_append, ht, hd]
    rw [show 8 * (n + 4) = 8 * n + 32 from by omega, rn_add, ← Nat.xor_assoc, rn_xor (8 * n), rn_pow]
  have hb4 : num (l.drop n) < 4294967296 := by
    match h : l.drop n, hd with
    | [a, b, c, d], _ =>
      simp only [num_cons, num_nil, Nat.mul_zero, Nat.xor_zero]
      have := a.toNat_lt; have := b.toNat_lt; have := c.toNat_lt; have := d.toNat_lt
      have x1 : c.toNat ^^^ 256 * d.toNat < 2 ^ 16 := Nat.xor_lt_two_pow (by omega) (by omega)
      have x2 : b.toNat ^^^ 256 * (c.toNat ^^^ 256 * d.toNat) < 2 ^ 24 := Nat.xor_lt_two_pow (by omega) (by omega)
      exact Nat.xor_lt_two_pow (n := 32) (by omega) (by omega)
  have hc := crc_lt (l.take n) (c := 4294967295) (by decide)
  have hlen : l.length - 4 = n := by omega
  have e : isSealed l = true ↔ tl (sumOf (l.take n)) = l.drop n := by
    unfold isSealed
    rw [hlen, decide_eq_true (by omega), Bool.true_and, beq_iff_eq]
  rw [e, hnum]
  have e2 : tl (sumOf (l.take n)) = l.drop n ↔ sumOf (l.take n) = num (l.drop n) := by
    constructor
    · intro h
      rw [← h, num_tl _ (sumOf_lt _)]
    · intro h
      refine num_inj _ _ (by rw [hd]; rfl) ?_
      rw [num_tl _ (sumOf_lt _), h]
  rw [e2]
  unfold sumOf
  constructor
  · intro h
    rw [← h]
    congr 1
    rw [← Nat.xor_assoc, Nat.xor_self, Nat.zero_xor]
  · intro h
    have h2 := rn_inj 32 (Nat.xor_lt_two_pow (n := 32) hc hb4) (by decide) h
    generalize crc 4294967295 (l.take n) = X at h2 ⊢
    rw [← h2, ← Nat.xor_assoc, Nat.xor_self, Nat.zero_xor]
/-- ████ A BURST IS TOLD ████ -/
theorem burst_told (l : List UInt8) (p m k : Nat) (h : isSealed l = true) (hk : p + k ≤ 8 * l.length) (h32 : k ≤ 32) : isSealed (turnL l p m k) = decide (turnL l p m k = l) := by
  have hl4 : 4 ≤ l.length := by
    unfold isSealed at h
    simp at h
    exact h.1
  have hl : l.length = (l.length - 4) + 4 := by omega
  have hu : (turnL l p m k).length = (l.length - 4) + 4 := by rw [turnL_length]; omega
  have h1 := (sealed_iff l _ hl).1 h
  by_cases he : turnL l p m k = l
  · rw [decide_eq_true he, he, h]
  · rw [decide_eq_false he]
    cases hs : isSealed (turnL l p m k) with
    | false => rfl
    | true =>
      exfalso
      have h2 := (sealed_iff _ _ hu).1 hs
      rw [turnL_length, num_turn l p m k hk, ← Nat.xor_assoc, rn_xor, h1] at h2
      have h3 : rn (8 * l.length) (2 ^ p * (m % 2 ^ k)) = 0 := by
        have := congrArg (fun x => rn 32 4294967295 ^^^ x) h2
        simpa [← Nat.xor_assoc] using this
      rw [show 8 * l.length = p + (8 * l.length - p) from by omega, rn_add, rn_pow] at h3
      have hm : m % 2 ^ k < 4294967296 := Nat.lt_of_lt_of_le (Nat.mod_lt _ (Nat.two_pow_pos k)) (Nat.pow_le_pow_right (by decide : 0 < 2) h32)
      have h4 := rn_zero _ hm h3
      apply he
      refine num_inj _ _ (turnL_length l p m k) ?_
      rw [num_turn l p m k hk, h4, Nat.mul_zero, Nat.xor_zero]
theorem turn_twice (l : List UInt8) (p m k : Nat) (hk : p + k ≤ 8 * l.length) : turnL (turnL l p m k) p m k = l := by
  refine num_inj _ _ (by rw [turnL_length, turnL_length]) ?_
  rw [num_turn _ p m k (by rw [turnL_length]; exact hk), num_turn l p m k hk, Nat.xor_assoc, Nat.xor_self, Nat.xor_zero]
end Go.Proofs.YtghnkpfnpidncaaDoor.S
