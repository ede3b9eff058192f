/- Plain facts on parts of a text: no Go here. -/
import Derived.Laws.BitsAllLaws
namespace Go.Proofs.YtghnkpfnpidncaaDoor.P

abbrev bl (s : ByteArray) : List UInt8 := s.data.toList
theorem bl_len (s : ByteArray) : (bl s).length = s.size := rfl
/-- how a size counts -/
def szN (z : Int) : Nat := (max 1 (min z 8000)).toNat
theorem szN_pos (z : Int) : 1 ≤ szN z := by unfold szN; omega
theorem szN_le (z : Int) : szN z ≤ 8000 := by unfold szN; omega
/-- how many parts, and which is the k-th -/
def cntN (len n : Nat) : Nat := max 1 ((len + n - 1) / n)
def chunk (l : List UInt8) (n k : Nat) : List UInt8 := (l.drop (k * n)).take n
def chunks (l : List UInt8) (n : Nat) : List (List UInt8) := (List.range (cntN l.length n)).map (chunk l n)
theorem cntN_pos (len n : Nat) : 1 ≤ cntN len n := by unfold cntN; omega
theorem cntN_le (len n : Nat) (hn : 1 ≤ n) : cntN len n ≤ len + 1 := by
  unfold cntN
  have : (len + n - 1) / n ≤ len := by
    rcases Nat.eq_zero_or_pos len with h | h
    · subst h; rw [Nat.zero_add, Nat.div_eq_of_lt (by omega)]; exact Nat.le_refl _
    · calc (len + n - 1) / n ≤ (len * n) / n := Nat.div_le_div_right (by
            have : len + n ≤ len * n + 1 := by
              obtain ⟨a, rfl⟩ : ∃ a, len = a + 1 := ⟨len - 1, by omega⟩
              obtain ⟨b, rfl⟩ : ∃ b, n = b + 1 := ⟨n - 1, by omega⟩
              have := Nat.zero_le (a * b)
              have e : (a + 1) * (b + 1) = a * b + a + b + 1 := by rw [Nat.add_mul, Nat.mul_add]; omega
              omega
            omega)
        _ = len := Nat.mul_div_cancel _ (by omega)
  omega
/-- more than one part is left just if more bytes are left than a part has -/
theorem more_iff (len n k : Nat) (hn : 1 ≤ n) (hk : k + 1 ≤ cntN len n) : n < len - k * n ↔ k + 1 < cntN len n := by
  have e : (k + 1) * n = k * n + n := by rw [Nat.add_mul, Nat.one_mul]
  have h : k + 1 < (len + n - 1) / n ↔ (k + 2) * n ≤ len + n - 1 := by
    rw [show (k + 1 < (len + n - 1) / n) = (k + 2 ≤ (len + n - 1) / n) from rfl, Nat.le_div_iff_mul_le (by omega)]
  have e2 : (k + 2) * n = k * n + n + n := by rw [Nat.add_mul]; omega
  unfold cntN at hk ⊢
  constructor
  · intro h1
    have := h.2 (by omega)
    omega
  · intro h1
    rcases Nat.lt_or_ge (k + 1) ((len + n - 1) / n) with h2 | h2
    · have := h.1 h2; omega
    · omega
theorem last_le (len n k : Nat) (hn : 1 ≤ n) (hk : k + 1 = cntN len n) : len - k * n ≤ n := by
  have := (more_iff len n k hn (by omega))
  omega
theorem in_le (len n k : Nat) (hn : 1 ≤ n) (hk : k + 1 ≤ cntN len n) : k * n ≤ len := by
  rcases Nat.eq_zero_or_pos k with h | h
  · subst h; omega
  · obtain ⟨j, rfl⟩ : ∃ j, k = j + 1 := ⟨k - 1, by omega⟩
    have := (more_iff len n j hn (by omega)).2 (by omega)
    have e : (j + 1) * n = j * n + n := by rw [Nat.add_mul, Nat.one_mul]
    omega
theorem chunk_len (l : List UInt8) (n k : Nat) : (chunk l n k).length = min n (l.length - k * n) := by simp [chunk]
theorem chunk_full (l : List UInt8) (n k : Nat) (hn : 1 ≤ n) (hk : k + 1 < cntN l.length n) : (chunk l n k).length = n := by
  have := (more_iff l.length n k hn (by omega)).2 hk
  rw [chunk_len]; omega
theorem flat_take (l : List UInt8) (n : Nat) : ∀ k, ((List.range k).map (chunk l n)).flatten = l.take (k * n)
  | 0 => by simp
  | k + 1 => by
    rw [List.range_succ, List.map_append, List.flatten_append, flat_take l n k]
    simp only [List.map_cons, List.map_nil, List.flatten_cons, List.flatten_nil, List.append_nil]
    rw [show (k + 1) * n = k * n + n from by rw [Nat.add_mul, Nat.one_mul], List.take_add]
    rfl
theorem flat_chunks (l : List UInt8) (n : Nat) (hn : 1 ≤ n) : (chunks l n).flatten = l := by
  unfold chunks
  rw [flat_take]
  have hc := cntN_pos l.length n
  have := last_le l.length n (cntN l.length n - 1) hn (by omega)
  have e : cntN l.length n * n = (cntN l.length n - 1) * n + n := by
    obtain ⟨c, hcc⟩ : ∃ c, cntN l.length n = c + 1 := ⟨cntN l.length n - 1, by omega⟩
    rw [hcc, Nat.add_mul, Nat.one_mul]; rfl
  rw [List.take_of_length_le (by omega)]
theorem chunks_len (l : List UInt8) (n : Nat) : (chunks l n).length = cntN l.length n := by simp [chunks]
theorem chunks_getD (l : List UInt8) (n k : Nat) (h : k < cntN l.length n) : (chunks l n).getD k [] = chunk l n k := by
  unfold chunks
  simp [List.getD_eq_getElem?_getD, h]
end Go.Proofs.YtghnkpfnpidncaaDoor.P
