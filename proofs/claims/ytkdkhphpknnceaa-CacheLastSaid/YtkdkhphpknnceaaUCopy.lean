/- Rows of our own, of elements of any size: copy into them. -/
import Derived.Test.YtkdkhphpknnceaaU
import Derived.Laws.CopyRow
import Derived.Laws.IdiomCopy
namespace Go.Proofs.Ytkdkhphpknnceaa.U
open Go.RowKit

/-- so many times the same -/
def rep (n : Nat) (xs : List Value) : List Value := (List.replicate n xs).flatten
theorem rep_length (n : Nat) (xs : List Value) : (rep n xs).length = n * xs.length := by
  induction n with
  | zero => simp [rep]
  | succ n ih =>
    unfold rep at ih ⊢
    rw [List.replicate_succ, List.flatten_cons, List.length_append, ih, Nat.succ_mul]; omega
theorem rep_add (n m : Nat) (xs : List Value) : rep (n + m) xs = rep n xs ++ rep m xs := by
  unfold rep; rw [← List.flatten_append, List.replicate_append_replicate]
theorem rep_take {n k : Nat} (h : k ≤ n) (xs : List Value) : (rep n xs).take (k * xs.length) = rep k xs := by
  obtain ⟨d, rfl⟩ : ∃ d, n = k + d := ⟨n - k, by omega⟩
  rw [rep_add]
  exact List.take_left' (rep_length k xs)
/-- the front of a row that holds so many times the same -/
def Filled (base : Nat) (e : TypeId) (size g n : Nat) (xs : List Value) (j : Nat) (w : World) : Prop := ∃ L, L.take (j * size) = rep j xs ∧ w.ownsRow base e size (.slice (some ⟨g, 0, none⟩) n n) n L
theorem Filled.src {base : Nat} {e : TypeId} {size g n : Nat} {xs : List Value} {k q : Nat} {w : World} (h : Filled base e size g n xs k w) (hx : xs.length = size) (hqk : q ≤ k) (hk : k ≤ n) :
    ∀ j v, (rep q xs)[j]? = some v → w.cell? ((⟨g, 0, none⟩ : Addr).add j) = some v := fun j v hj => by
  obtain ⟨L, hL, hoL⟩ := h
  have hadd : ((⟨g, 0, none⟩ : Addr).add j) = ⟨g, 0 + j, none⟩ := by unfold Addr.add; split <;> simp_all
  rw [hadd, Nat.zero_add]
  have hjl : j < q * size := by have := (List.getElem?_eq_some_iff.1 hj).1; rw [rep_length, hx] at this; exact this
  have h2 : (rep k xs)[j]? = some v := by
    have h3 := rep_take hqk xs
    rw [hx] at h3
    rw [← h3, List.getElem?_take, if_pos hjl] at hj
    exact hj
  rw [← hL, List.getElem?_take] at h2
  split at h2
  · have h5 : k * size ≤ n * size := Nat.mul_le_mul_right _ hk
    have h6 : q * size ≤ k * size := Nat.mul_le_mul_right _ hqk
    exact (World.ownsRow.cellAt hoL j (by omega)).trans h2
  · cases h2
theorem Filled.belowAll {base : Nat} {e : TypeId} {size g n : Nat} {xs : List Value} {k : Nat} {w w' : World} (h : Filled base e size g n xs k w) (hb : Below w.heap.size w w') : Filled base e size g n xs k w' := by
  obtain ⟨L, hL, hoL⟩ := h
  exact ⟨L, hL, U.belowAll hoL hb⟩
theorem Filled.less {base : Nat} {e : TypeId} {size g n : Nat} {xs : List Value} {k q : Nat} {w : World} (h : Filled base e size g n xs (k + q) w) (hx : xs.length = size) : Filled base e size g n xs k w := by
  obtain ⟨L, hL, hoL⟩ := h
  refine ⟨L, ?_, hoL⟩
  have h3 := rep_take (Nat.le_add_right k q) xs
  rw [hx, ← hL, List.take_take, Nat.min_eq_left (Nat.mul_le_mul_right _ (Nat.le_add_right k q))] at h3
  exact h3
end Go.Proofs.Ytkdkhphpknnceaa.U
