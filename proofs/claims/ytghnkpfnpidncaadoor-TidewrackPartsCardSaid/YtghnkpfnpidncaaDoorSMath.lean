/- Plain facts on CRC-32 as a number: the table's half step is four single steps; a text's sum is so many single steps of its number; a burst of at most 32 bits is told. No Go here. -/
import Derived.Laws.BitsAllLaws
namespace Go.Proofs.YtghnkpfnpidncaaDoor.S

/-- one bit's step -/
def r1 (x : Nat) : Nat := if x % 2 = 1 then (x / 2) ^^^ 3988292384 else x / 2
def rn : Nat → Nat → Nat
  | 0, x => x
  | n + 1, x => rn n (r1 x)
def tbl (i : Nat) : Nat := [0, 498536548, 997073096, 651767980, 1994146192, 1802195444, 1303535960, 1342533948, 3988292384, 4027552580, 3604390888, 3412177804, 2607071920, 2262029012, 2685067896, 3183342108].getD i 0
def hstep (x : Nat) : Nat := (x / 16) ^^^ tbl (x % 16)
def bstep (c b : Nat) : Nat := hstep (hstep (c ^^^ b))
def crc (c : Nat) (l : List UInt8) : Nat := l.foldl (fun c b => bstep c b.toNat) c
def sumOf (l : List UInt8) : Nat := crc 4294967295 l ^^^ 4294967295
/-- a text's number: its first byte lowest -/
def num : List UInt8 → Nat
  | [] => 0
  | b :: l => b.toNat ^^^ (256 * num l)

theorem xor_mod_two (x y : Nat) : (x ^^^ y) % 2 = (x % 2 + y % 2) % 2 := by
  have h : (x ^^^ y) % 2 = (x % 2) ^^^ (y % 2) := Nat.xor_mod_two_pow (n := 1)
  rw [h]
  rcases Nat.mod_two_eq_zero_or_one x with hx | hx <;> rcases Nat.mod_two_eq_zero_or_one y with hy | hy <;> rw [hx, hy] <;> rfl
theorem xor_zero_eq {x y : Nat} (h : x ^^^ y = 0) : x = y := by
  have : (x ^^^ y) ^^^ y = 0 ^^^ y := by rw [h]
  simpa [Nat.xor_assoc] using this

theorem r1_xor (x y : Nat) : r1 (x ^^^ y) = r1 x ^^^ r1 y := by
  have h := xor_mod_two x y
  unfold r1
  rw [Nat.xor_div_two]
  rcases Nat.mod_two_eq_zero_or_one x with hx | hx <;> rcases Nat.mod_two_eq_zero_or_one y with hy | hy <;> rw [hx, hy] at h <;> simp only [h, hx, hy] <;> simp
  · rw [Nat.xor_assoc]
  · rw [Nat.xor_assoc, Nat.xor_comm (y / 2), ← Nat.xor_assoc]
  · rw [Nat.xor_assoc, Nat.xor_comm 3988292384, Nat.xor_assoc, Nat.xor_self, Nat.xor_zero]

theorem r1_double (y : Nat) : r1 (2 * y) = y := by unfold r1; rw [if_neg (by omega)]; omega
theorem rn_xor (n : Nat) : ∀ x y, rn n (x ^^^ y) = rn n x ^^^ rn n y := by
  induction n with
  | zero => intro x y; rfl
  | succ n ih => intro x y; simp only [rn, r1_xor, ih]
theorem rn_pow (n : Nat) : ∀ y, rn n (2 ^ n * y) = y := by
  induction n with
  | zero => intro y; simp [rn]
  | succ n ih => intro y; simp only [rn]; rw [show 2 ^ (n + 1) * y = 2 * (2 ^ n * y) from by rw [Nat.pow_succ]; simp [Nat.mul_assoc, Nat.mul_comm, Nat.mul_left_comm]]; rw [r1_double, ih]
theorem rn_add (n m : Nat) : ∀ x, rn (n + m) x = rn m (rn n x) := by
  induction n with
  | zero => intro x; simp [rn]
  | succ n ih => intro x; rw [show n + 1 + m = (n + m) + 1 from by omega]; simp only [rn, ih]
theorem r1_lt {x : Nat} (h : x < 4294967296) : r1 x < 4294967296 := by
  unfold r1
  split
  · exact Nat.xor_lt_two_pow (n := 32) (by omega) (by decide)
  · omega
theorem rn_lt (n : Nat) : ∀ {x : Nat}, x < 4294967296 → rn n x < 4294967296 := by
  induction n with
  | zero => intro x h; exact h
  | succ n ih => intro x h; exact ih (r1_lt h)
theorem r1_zero {x : Nat} (h : x < 4294967296) (h0 : r1 x = 0) : x = 0 := by
  unfold r1 at h0
  split at h0
  · have := xor_zero_eq h0
    omega
  · omega
theorem rn_zero (n : Nat) : ∀ {x : Nat}, x < 4294967296 → rn n x = 0 → x = 0 := by
  induction n with
  | zero => intro x _ h; exact h
  | succ n ih => intro x h h0; exact r1_zero h (ih (r1_lt h) h0)
theorem rn_of_zero (n : Nat) : rn n 0 = 0 := by
  induction n with
  | zero => rfl
  | succ n ih => simpa [rn, r1] using ih
theorem rn_inj (n : Nat) {x y : Nat} (hx : x < 4294967296) (hy : y < 4294967296) (h : rn n x = rn n y) : x = y := by
  have h1 : rn n (x ^^^ y) = 0 := by rw [rn_xor, h, Nat.xor_self]
  exact xor_zero_eq (rn_zero n (Nat.xor_lt_two_pow (n := 32) hx hy) h1)

theorem small_half : ∀ i, i < 16 → rn 4 i = tbl i := by decide
theorem split_low (x k : Nat) : x = (2 ^ k * (x / 2 ^ k)) ^^^ (x % 2 ^ k) := by
  apply Nat.eq_of_testBit_eq
  intro i
  rw [Nat.testBit_xor, Nat.testBit_two_pow_mul, Nat.testBit_mod_two_pow]
  by_cases h : i < k
  · simp [h, show ¬ k ≤ i from by omega]
  · have h' : k ≤ i := by omega
    simp [h, h', Nat.testBit_div_two_pow]
theorem hstep_eq (x : Nat) : hstep x = rn 4 x := by
  have h := split_low x 4
  rw [h, rn_xor, rn_pow, small_half _ (by omega), ← h]
  rfl
theorem hstep_lt {x : Nat} (h : x < 4294967296) : hstep x < 4294967296 := by rw [hstep_eq]; exact rn_lt 4 h
theorem bstep_eq (c b : Nat) : bstep c b = rn 8 (c ^^^ b) := by
  unfold bstep
  rw [hstep_eq, hstep_eq, ← rn_add]
theorem byte_lt (b : UInt8) : b.toNat < 256 := b.toNat_lt
theorem bstep_lt {c : Nat} (b : UInt8) (h : c < 4294967296) : bstep c b.toNat < 4294967296 := by
  rw [bstep_eq]; exact rn_lt 8 (Nat.xor_lt_two_pow (n := 32) h (by have := byte_lt b; omega))
theorem crc_lt (l : List UInt8) : ∀ {c : Nat}, c < 4294967296 → crc c l < 4294967296 := by
  induction l with
  | nil => intro c h; exact h
  | cons b l ih => intro c h; exact ih (bstep_lt b h)
theorem crc_append (c : Nat) (l m : List UInt8) : crc c (l ++ m) = crc (crc c l) m := by simp [crc]
theorem crc_snoc (c : Nat) (l : List UInt8) (b : UInt8) : crc c (l ++ [b]) = bstep (crc c l) b.toNat := by simp [crc]
theorem sumOf_lt (l : List UInt8) : sumOf l < 4294967296 := Nat.xor_lt_two_pow (n := 32) (crc_lt l (by decide)) (by decide)
/-- A SUM IS SO MANY SINGLE STEPS OF THE TEXT's NUMBER. -/
theorem crc_num (l : List UInt8) : ∀ c, crc c l = rn (8 * l.length) (c ^^^ num l) := by
  induction l with
  | nil => intro c; simp [crc, rn, num]
  | cons b l ih =>
    intro c
    show crc (bstep c b.toNat) l = _
    rw [ih, List.length_cons, show 8 * (l.length + 1) = 8 + 8 * l.length from by omega, rn_add, num, ← Nat.xor_assoc, rn_xor 8, show (256 : Nat) = 2 ^ 8 from rfl, rn_pow, bstep_eq]

/-! ### three texts, xored -/
def xor3 : List UInt8 → List UInt8 → List UInt8 → List UInt8
  | x :: a, y :: b, z :: c => (x ^^^ y ^^^ z) :: xor3 a b c
  | _, _, _ => []
theorem xor4 (a b c d e f : Nat) : (a ^^^ b ^^^ c) ^^^ (d ^^^ e ^^^ f) = (a ^^^ d) ^^^ (b ^^^ e) ^^^ (c ^^^ f) := by
  ac_rfl
theorem crc_xor3 : ∀ (a b c : List UInt8) (x y z : Nat), a.length = b.length → b.length = c.length → crc (x ^^^ y ^^^ z) (xor3 a b c) = crc x a ^^^ crc y b ^^^ crc z c
  | [], [], [], x, y, z, _, _ => rfl
  | p :: a, q :: b, r :: c, x, y, z, h1, h2 => by
    show crc (bstep (x ^^^ y ^^^ z) (p ^^^ q ^^^ r).toNat) (xor3 a b c) = crc (bstep x p.toNat) a ^^^ crc (bstep y q.toNat) b ^^^ crc (bstep z r.toNat) c
    rw [← crc_xor3 a b c _ _ _ (by simpa using h1) (by simpa using h2), bstep_eq, bstep_eq, bstep_eq, bstep_eq, UInt8.toNat_xor, UInt8.toNat_xor, xor4, rn_xor, rn_xor]
  | [], [], _ :: _, _, _, _, _, h => by simp at h
  | [], _ :: _, _, _, _, _, h, _ => by simp at h
  | _ :: _, [], _, _, _, _, h, _ => by simp at h
  | _ :: _, _ :: _, [], _, _, _, _, h => by simp at h
theorem sum_xor3 (a b c : List UInt8) (h1 : a.length = b.length) (h2 : b.length = c.length) : sumOf (xor3 a b c) = sumOf a ^^^ sumOf b ^^^ sumOf c := by
  have h := crc_xor3 a b c 4294967295 4294967295 4294967295 h1 h2
  have e : (4294967295 : Nat) ^^^ 4294967295 ^^^ 4294967295 = 4294967295 := by decide
  rw [e] at h
  unfold sumOf
  rw [h]
  generalize crc 4294967295 a = A
  generalize crc 4294967295 b = B
  generalize crc 4294967295 c = C
  have k : (A ^^^ 4294967295) ^^^ (B ^^^ 4294967295) ^^^ (C ^^^ 4294967295) = (A ^^^ B ^^^ C) ^^^ (4294967295 ^^^ 4294967295 ^^^ 4294967295) := by ac_rfl
  rw [k, e]
end Go.Proofs.YtghnkpfnpidncaaDoor.S
