/- Missing and In of a set. -/
import Derived.Test.YthplghcpjmodeaaHColl
import Derived.Test.YthplghcpjmodeaaRelT
import Derived.Test.YthplghcpjmodeaaRelU
namespace Go.Proofs.Ythplghcpjmodeaa.H
open Go.RowKit Go.Shelf

theorem pair_one {g : Nat} {X1 X2 : Int} {w : World} (h : w.heap[g]? = some (.cells #[.int .i64 X1, .int .i64 X2] 56 (0, 0))) : PairsIn .i64 (some ⟨g, 0, none⟩) 1 1 [(X1, X2)] w :=
  ⟨rfl, Nat.le_refl _, by decide, .inr ⟨g, 0, rfl, (Array.getElem?_eq_some_iff.1 h).1, fun i u hi => by
    match i, hi with
    | 0, hi => cases hi; exact ⟨by rw [cell_block h]; rfl, by rw [cell_block h]; rfl⟩
    | i + 1, hi => simp at hi⟩⟩
theorem Norm.begins {b : Int} : ∀ {l : List Sp}, Norm b l → ∀ y ∈ l, b ≤ y.1
  | x :: l, hn, y, hy => by
    rcases List.mem_cons.1 hy with rfl | h
    · exact hn.1
    · have := Norm.begins hn.2.2 y h; have := hn.1; have := hn.2.1; omega
theorem Norm.apart : ∀ {l : List Sp} {b : Int}, Norm b l → ∀ (i j : Nat) (x y : Sp), l[i]? = some x → l[j]? = some y → i < j → x.2 < y.1
  | z :: l, b, hn, i, j, x, y, hi, hj, hij => by
    match i, j, hij with
    | 0, j + 1, _ =>
      obtain rfl : z = x := by simpa using hi
      have := Norm.begins hn.2.2 y (List.mem_of_getElem? (i := j) (by simpa using hj))
      omega
    | i + 1, j + 1, h => exact Norm.apart hn.2.2 i j x y (by simpa using hi) (by simpa using hj) (by omega)
theorem Norm.full : ∀ {l : List Sp} {b : Int}, Norm b l → ∀ (i : Nat) (x : Sp), l[i]? = some x → x.1 < x.2
  | z :: l, b, hn, i, x, hi => by
    match i, hi with
    | 0, hi =>
      obtain rfl : z = x := by simpa using hi
      exact hn.2.1
    | i + 1, hi => exact Norm.full hn.2.2 i x (by simpa using hi)
theorem Norm.drop : ∀ (k : Nat) {l : List Sp} {b : Int}, Norm b l → Norm b (l.drop k)
  | 0, _, _, h => h
  | k + 1, [], _, _ => trivial
  | k + 1, x :: l, b, h => (Norm.drop k h.2.2).mono (by have := h.1; have := h.2.1; omega)
theorem Norm.take : ∀ (k : Nat) {l : List Sp} {b : Int}, Norm b l → Norm b (l.take k)
  | 0, _, _, _ => trivial
  | k + 1, [], _, _ => trivial
  | k + 1, x :: l, b, h => ⟨h.1, h.2.1, Norm.take k h.2.2⟩
theorem own_plain {T : TypeId} {base : Nat} {a : Option Addr} {n c : Nat} {l : List Sp} {w : World} (h : OwnP .i64 T base (.slice a n c) l w) : ∀ x, a = some x → x = ⟨x.block, x.off, none⟩ := by
  rcases h.2 with ⟨e, _⟩ | ⟨g, cap, cur, e, _⟩
  · rintro x rfl; cases e
  · rintro x rfl; injection e with e; injection e with e; rw [e]
end Go.Proofs.Ythplghcpjmodeaa.H
