/- Plain facts on numbers as bytes: seven bits a byte, the lowest first. No Go here. -/
import Derived.Laws.BitsAllLaws
import Derived.Laws.Bits128
import Derived.Test.YtkggmcnocpgnbaaDoorMerged9
namespace Go.Proofs.YtkggmcnocpgnbaaDoor.I

/-- the greatest number -/
def top : Nat := 2 ^ 62
/-- n, brought among the numbers that there are -/
def clipN (n : Int) : Nat := min n.toNat top
theorem clipN_le (n : Int) : clipN n ≤ top := Nat.min_le_right _ _
/-- a number's bytes -/
def digs (m : Nat) : List UInt8 := if m < 128 then [UInt8.ofNat m] else UInt8.ofNat (m % 128 + 128) :: digs (m / 128)
termination_by m
decreasing_by omega
theorem digs_small {m : Nat} (h : m < 128) : digs m = [UInt8.ofNat m] := by rw [digs, if_pos h]
theorem digs_big {m : Nat} (h : ¬ m < 128) : digs m = UInt8.ofNat (m % 128 + 128) :: digs (m / 128) := by rw [digs, if_neg h]
theorem digs_pos (m : Nat) : 0 < (digs m).length := by
  by_cases h : m < 128
  · rw [digs_small h]; simp
  · rw [digs_big h]; simp
theorem digs_mono : ∀ (b a : Nat), a ≤ b → (digs a).length ≤ (digs b).length := by
  intro b
  induction b using Nat.strongRecOn with
  | ind b ih =>
    intro a h
    by_cases hb : b < 128
    · rw [digs_small hb, digs_small (by omega)]; simp
    · by_cases ha : a < 128
      · rw [digs_small ha]; exact digs_pos b
      · rw [digs_big ha, digs_big hb]
        have := ih (b / 128) (by omega) (a / 128) (Nat.div_le_div_right h)
        simp; omega
theorem digs_nine (m : Nat) (h : m ≤ top) : (digs m).length ≤ 9 := by
  have e : (digs top).length = 9 := by
    unfold top
    rw [digs_big (by decide), digs_big (by decide), digs_big (by decide), digs_big (by decide), digs_big (by decide), digs_big (by decide), digs_big (by decide), digs_big (by decide), digs_small (by decide)]
    rfl
  have := digs_mono top m h
  omega
/-- the byte of a number's seven lowest bits, with 128 more -/
theorem low_byte (m : Nat) : (bits .or .i64 ((m : Int) % 128) 128) % 256 = ((UInt8.ofNat (m % 128 + 128)).toNat : Int) := by
  have h1 : m % 128 < 2 ^ 7 := Nat.mod_lt _ (by decide)
  have h := (bits_nat .i64 8 (by decide) (fun n h0 h1 => by
    simp [IntKind.wrap, IntKind.bits, IntKind.signed]
    omega) (m % 128) 128 (by omega) (by decide)).2
  have e : ((m : Int) % 128) = ((m % 128 : Nat) : Int) := by omega
  rw [e, show (128 : Int) = ((128 : Nat) : Int) from rfl, h]
  have ho : m % 128 ||| 128 = m % 128 + 128 := by
    have := Nat.two_pow_add_eq_or_of_lt h1 1
    simp at this
    rw [Nat.or_comm, ← this, Nat.add_comm]
  rw [ho]
  simp
end Go.Proofs.YtkggmcnocpgnbaaDoor.I

/- Plain facts on CRC-32 as a number: the table's half step is four single steps; a text's sum is so many single steps of its number; a burst of at most 32 bits is told. No Go here. -/
namespace Go.Proofs.YtkggmcnocpgnbaaDoor.S

/-- one bit's step -/
def r1 (x : Nat) : Nat := if x % 2 = 1 then (x / 2) ^^^ 3988292384 else x / 2
def rn : Nat → Nat → Nat
  | 0, x => x
  | n + 1, x => rn n (r1 x)
def tbl (i : Nat) : Nat := [0, 498536548, 997073096, 651767980, 1994146192, 1802195444, 1303535960, 1342533948, 3988292384, 4027552580, 3604390888, 3412177804, 2607071920, 2262029012, 2685067896, 3183342108].getD i 0
def hstep (x : Nat) : Nat := (x / 16) ^^^ tbl (x % 16)
def bstep (c b : Nat) : Nat := hstep (hstep (c ^^^ b))
def crc (c : Nat) (l : List UInt8) : Nat := l.foldl (fun c b => bstep c b.toNat) c
def sumOf (l : List UInt8) : Nat := crc 4294967295 l ^^^ 4294967295
/-- a text's number: its first byte lowest -/
def num : List UInt8 → Nat
  | [] => 0
  | b :: l => b.toNat ^^^ (256 * num l)

theorem xor_mod_two (x y : Nat) : (x ^^^ y) % 2 = (x % 2 + y % 2) % 2 := by
  have h : (x ^^^ y) % 2 = (x % 2) ^^^ (y % 2) := Nat.xor_mod_two_pow (n := 1)
  rw [h]
  rcases Nat.mod_two_eq_zero_or_one x with hx | hx <;> rcases Nat.mod_two_eq_zero_or_one y with hy | hy <;> rw [hx, hy] <;> rfl
theorem r1_xor (x y : Nat) : r1 (x ^^^ y) = r1 x ^^^ r1 y := by
  have h := xor_mod_two x y
  unfold r1
  rw [Nat.xor_div_two]
  rcases Nat.mod_two_eq_zero_or_one x with hx | hx <;> rcases Nat.mod_two_eq_zero_or_one y with hy | hy <;> rw [hx, hy] at h <;> simp only [h, hx, hy] <;> simp
  · rw [Nat.xor_assoc]
  · rw [Nat.xor_assoc, Nat.xor_comm (y / 2), ← Nat.xor_assoc]
  · rw [Nat.xor_assoc, Nat.xor_comm 3988292384, Nat.xor_assoc, Nat.xor_self, Nat.xor_zero]

theorem r1_double (y : Nat) : r1 (2 * y) = y := by unfold r1; rw [if_neg (by omega)]; omega
theorem rn_xor (n : Nat) : ∀ x y, rn n (x ^^^ y) = rn n x ^^^ rn n y := by
  induction n with
  | zero => intro x y; rfl
  | succ n ih => intro x y; simp only [rn, r1_xor, ih]
theorem rn_pow (n : Nat) : ∀ y, rn n (2 ^ n * y) = y := by
  induction n with
  | zero => intro y; simp [rn]
  | succ n ih => intro y; simp only [rn]; rw [show 2 ^ (n + 1) * y = 2 * (2 ^ n * y) from by rw [Nat.pow_succ]; simp [Nat.mul_assoc, Nat.mul_comm, Nat.mul_left_comm]]; rw [r1_double, ih]
theorem rn_add (n m : Nat) : ∀ x, rn (n + m) x = rn m (rn n x) := by
  induction n with
  | zero => intro x; simp [rn]
  | succ n ih => intro x; rw [show n + 1 + m = (n + m) + 1 from by omega]; simp only [rn, ih]
theorem r1_lt {x : Nat} (h : x < 4294967296) : r1 x < 4294967296 := by
  unfold r1
  split
  · exact Nat.xor_lt_two_pow (n := 32) (by omega) (by decide)
  · omega
theorem rn_lt (n : Nat) : ∀ {x : Nat}, x < 4294967296 → rn n x < 4294967296 := by
  induction n with
  | zero => intro x h; exact h
  | succ n ih => intro x h; exact ih (r1_lt h)
theorem small_half : ∀ i, i < 16 → rn 4 i = tbl i := by decide
theorem split_low (x k : Nat) : x = (2 ^ k * (x / 2 ^ k)) ^^^ (x % 2 ^ k) := by
  apply Nat.eq_of_testBit_eq
  intro i
  rw [Nat.testBit_xor, Nat.testBit_two_pow_mul, Nat.testBit_mod_two_pow]
  by_cases h : i < k
  · simp [h, show ¬ k ≤ i from by omega]
  · have h' : k ≤ i := by omega
    simp [h, h', Nat.testBit_div_two_pow]
theorem hstep_eq (x : Nat) : hstep x = rn 4 x := by
  have h := split_low x 4
  rw [h, rn_xor, rn_pow, small_half _ (by omega), ← h]
  rfl
theorem hstep_lt {x : Nat} (h : x < 4294967296) : hstep x < 4294967296 := by rw [hstep_eq]; exact rn_lt 4 h
theorem bstep_eq (c b : Nat) : bstep c b = rn 8 (c ^^^ b) := by
  unfold bstep
  rw [hstep_eq, hstep_eq, ← rn_add]
theorem byte_lt (b : UInt8) : b.toNat < 256 := b.toNat_lt
theorem bstep_lt {c : Nat} (b : UInt8) (h : c < 4294967296) : bstep c b.toNat < 4294967296 := by
  rw [bstep_eq]; exact rn_lt 8 (Nat.xor_lt_two_pow (n := 32) h (by have := byte_lt b; omega))
theorem crc_lt (l : List UInt8) : ∀ {c : Nat}, c < 4294967296 → crc c l < 4294967296 := by
  induction l with
  | nil => intro c h; exact h
  | cons b l ih => intro c h; exact ih (bstep_lt b h)
theorem crc_append (c : Nat) (l m : List UInt8) : crc c (l ++ m) = crc (crc c l) m := by simp [crc]
theorem crc_snoc (c : Nat) (l : List UInt8) (b : UInt8) : crc c (l ++ [b]) = bstep (crc c l) b.toNat := by simp [crc]
theorem sumOf_lt (l : List UInt8) : sumOf l < 4294967296 := Nat.xor_lt_two_pow (n := 32) (crc_lt l (by decide)) (by decide)
/-! ### three texts, xored -/
end Go.Proofs.YtkggmcnocpgnbaaDoor.S

/- Lines of glyphs: their bytes, their chain; a book, to which rows are added. -/
namespace Go.Proofs.YtkggmcnocpgnbaaDoor.K

def gBytes (g : Int × Int) : List UInt8 := I.digs (I.clipN g.1) ++ I.digs (I.clipN g.2)
def packG (l : List (Int × Int)) : List UInt8 := I.digs (I.clipN (l.length : Int)) ++ l.flatMap gBytes
theorem gBytes_len (g : Int × Int) : (gBytes g).length ≤ 18 := by
  have h1 := I.digs_nine (I.clipN g.1) (by unfold I.clipN; exact Nat.min_le_right _ _)
  have h2 := I.digs_nine (I.clipN g.2) (by unfold I.clipN; exact Nat.min_le_right _ _)
  unfold gBytes
  rw [List.length_append]
  omega
theorem flat_gBytes_len (l : List (Int × Int)) : (l.flatMap gBytes).length ≤ 18 * l.length := by
  induction l with
  | nil => simp
  | cons g l ih =>
    have := gBytes_len g
    rw [List.flatMap_cons, List.length_append, List.length_cons]
    omega
theorem packG_len (l : List (Int × Int)) : (packG l).length ≤ 9 + 18 * l.length := by
  have h1 := I.digs_nine (I.clipN (l.length : Int)) (by unfold I.clipN; exact Nat.min_le_right _ _)
  have h2 := flat_gBytes_len l
  unfold packG
  rw [List.length_append]
  omega
theorem flat_snoc (l : List (Int × Int)) (k : Nat) (h : k < l.length) : (l.take (k + 1)).flatMap gBytes = (l.take k).flatMap gBytes ++ gBytes l[k] := by
  rw [List.take_succ_eq_append_getElem h, List.flatMap_append]
  simp
/-- the chain of a line more -/
def nextC (c : Nat) (l : List (Int × Int)) : Nat := (c * 65536 % 281474976710597 + S.sumOf (packG l)) % 281474976710597
def chainB (L : List (List (Int × Int))) : Nat := L.foldl nextC 0
theorem chainB_snoc (L : List (List (Int × Int))) (l : List (Int × Int)) : chainB (L ++ [l]) = nextC (chainB L) l := by
  unfold chainB
  rw [List.foldl_append]
  rfl
theorem nextC_lt (c : Nat) (l : List (Int × Int)) : nextC c l < 281474976710597 := Nat.mod_lt _ (by decide)
theorem chainB_lt (L : List (List (Int × Int))) : chainB L < 281474976710597 := by
  rcases List.eq_nil_or_concat L with rfl | ⟨L', l, rfl⟩
  · decide
  · rw [List.concat_eq_append, chainB_snoc]
    exact nextC_lt _ _
/-- lines, and what is begun -/
structure Bk where
  L : List (List (Int × Int))
  G : List (Int × Int)
/-- the first n of what is begun are a line -/
def endB (x : Bk) (n : Nat) : Bk := ⟨x.L ++ [x.G.take n], x.G.drop n⟩
def cutB (x : Bk) : Bk := if _h : 1024 ≤ x.G.length then cutB (endB x 1024) else x
termination_by x.G.length
decreasing_by
  show (x.G.drop 1024).length < _
  rw [List.length_drop]
  omega
theorem cutB_step {x : Bk} (h : 1024 ≤ x.G.length) : cutB x = cutB (endB x 1024) := by rw [cutB, dif_pos h]
theorem cutB_done {x : Bk} (h : ¬ 1024 ≤ x.G.length) : cutB x = x := by rw [cutB, dif_neg h]
def addB (x : Bk) (r : Ro) : Bk := if r.wrapped = true then cutB ⟨x.L, x.G ++ glyphs r⟩ else endB (cutB ⟨x.L, x.G ++ glyphs r⟩) (cutB ⟨x.L, x.G ++ glyphs r⟩).G.length
def addsB (x : Bk) (rs : List Ro) : Bk := rs.foldl addB x
theorem addsB_snoc (x : Bk) (rs : List Ro) (k : Nat) (h : k < rs.length) : addsB x (rs.take (k + 1)) = addB (addsB x (rs.take k)) rs[k] := by
  rw [List.take_succ_eq_append_getElem h]
  unfold addsB
  rw [List.foldl_append]
  rfl
theorem trimG_len : ∀ l : List Cel, (trimG l).length ≤ l.length
  | [] => Nat.le_refl _
  | c :: l => by
    unfold trimG
    split
    · exact Nat.le_trans (trimG_len l) (by simp)
    · exact Nat.le_refl _
theorem glyphs_len (r : Ro) : (glyphs r).length ≤ r.l.length := by
  rw [glyphs_glF]
  refine Nat.le_trans (glF_length _) ?_
  unfold trimS
  split
  · exact Nat.le_refl _
  · rw [List.length_reverse]
    exact Nat.le_trans (trimG_len _) (by rw [List.length_reverse]; exact Nat.le_refl _)
/-- it is one: less than 1024 glyphs are begun, no line is longer -/
structure BkOk (x : Bk) : Prop where
  g : x.G.length < 1024
  l : ∀ l ∈ x.L, l.length ≤ 1024
theorem cutB_ok (x : Bk) (h : ∀ l ∈ x.L, l.length ≤ 1024) : BkOk (cutB x) := by
  rw [cutB]
  split
  · refine cutB_ok (endB x 1024) (fun l hl => ?_)
    rcases List.mem_append.1 hl with hl | hl
    · exact h l hl
    · rw [List.mem_singleton.1 hl, List.length_take]; omega
  · exact ⟨by omega, h⟩
termination_by x.G.length
decreasing_by
  show (x.G.drop 1024).length < _
  rw [List.length_drop]
  omega
theorem endB_ok {x : Bk} (h : BkOk x) : BkOk (endB x x.G.length) := by
  refine ⟨by show (x.G.drop _).length < _; rw [List.length_drop]; omega, fun l hl => ?_⟩
  rcases List.mem_append.1 hl with hl | hl
  · exact h.l l hl
  · rw [List.mem_singleton.1 hl, List.length_take]; have := h.g; omega
theorem addB_ok {x : Bk} (h : BkOk x) (r : Ro) : BkOk (addB x r) := by
  unfold addB
  split
  · exact cutB_ok _ h.l
  · exact endB_ok (cutB_ok _ h.l)
theorem addsB_ok {x : Bk} (h : BkOk x) : ∀ rs : List Ro, BkOk (addsB x rs)
  | [] => h
  | r :: rs => addsB_ok (addB_ok h r) rs
/-- no more than two lines come of a row -/
theorem cutB_count (x : Bk) (h : x.G.length < 2048) : (cutB x).L.length ≤ x.L.length + 1 := by
  rw [cutB]
  split
  · rename_i h1
    rw [cutB_done (by show ¬ 1024 ≤ (x.G.drop 1024).length; rw [List.length_drop]; omega)]
    show (x.L ++ [_]).length ≤ _
    simp
  · omega
theorem addB_count {x : Bk} (h : BkOk x) (r : Ro) (hr : r.l.length ≤ 1024) : (addB x r).L.length ≤ x.L.length + 2 := by
  have h1 := glyphs_len r
  have h2 := h.g
  have h3 := cutB_count ⟨x.L, x.G ++ glyphs r⟩ (by show (x.G ++ glyphs r).length < 2048; rw [List.length_append]; omega)
  unfold addB
  split
  · exact Nat.le_trans h3 (by show x.L.length + 1 ≤ _; omega)
  · show ((cutB _).L ++ [_]).length ≤ _
    rw [List.length_append, List.length_singleton]
    have h4 : (cutB ⟨x.L, x.G ++ glyphs r⟩).L.length ≤ x.L.length + 1 := h3
    omega
/-- all glyphs, in their order -/
def allB (x : Bk) : List (Int × Int) := x.L.flatten ++ x.G
theorem endB_all (x : Bk) (n : Nat) : allB (endB x n) = allB x := by
  unfold allB endB
  simp only
  rw [List.flatten_append, List.flatten_singleton, List.append_assoc, List.take_append_drop]
theorem cutB_all (x : Bk) : allB (cutB x) = allB x := by
  rw [cutB]
  split
  · rw [cutB_all (endB x 1024), endB_all]
  · rfl
termination_by x.G.length
decreasing_by
  show (x.G.drop 1024).length < _
  rw [List.length_drop]
  omega
theorem addB_all (x : Bk) (r : Ro) : allB (addB x r) = allB x ++ glyphs r := by
  have h : allB (cutB ⟨x.L, x.G ++ glyphs r⟩) = allB x ++ glyphs r := by
    rw [cutB_all]
    unfold allB
    simp only
    rw [List.append_assoc]
  unfold addB
  split
  · exact h
  · rw [endB_all, h]
end Go.Proofs.YtkggmcnocpgnbaaDoor.K
