/- Missing and In of a set. -/
import Derived.Test.YtkdkhphpknnceaaMerged1
import Derived.Test.YtkdkhphpknnceaaRelT
import Derived.Test.YtkdkhphpknnceaaRelU
namespace Go.Proofs.Ytkdkhphpknnceaa.H
open Go.RowKit Go.Shelf

theorem Norm.begins {b : Int} : ∀ {l : List Sp}, Norm b l → ∀ y ∈ l, b ≤ y.1
  | x :: l, hn, y, hy => by
    rcases List.mem_cons.1 hy with rfl | h
    · exact hn.1
    · have := Norm.begins hn.2.2 y h; have := hn.1; have := hn.2.1; omega
theorem Norm.apart : ∀ {l : List Sp} {b : Int}, Norm b l → ∀ (i j : Nat) (x y : Sp), l[i]? = some x → l[j]? = some y → i < j → x.2 < y.1
  | z :: l, b, hn, i, j, x, y, hi, hj, hij => by
    match i, j, hij with
    | 0, j + 1, _ =>
      obtain rfl : z = x := by simpa using hi
      have := Norm.begins hn.2.2 y (List.mem_of_getElem? (i := j) (by simpa using hj))
      omega
    | i + 1, j + 1, h => exact Norm.apart hn.2.2 i j x y (by simpa using hi) (by simpa using hj) (by omega)
theorem Norm.full : ∀ {l : List Sp} {b : Int}, Norm b l → ∀ (i : Nat) (x : Sp), l[i]? = some x → x.1 < x.2
  | z :: l, b, hn, i, x, hi => by
    match i, hi with
    | 0, hi =>
      obtain rfl : z = x := by simpa using hi
      exact hn.2.1
    | i + 1, hi => exact Norm.full hn.2.2 i x (by simpa using hi)
theorem Norm.drop : ∀ (k : Nat) {l : List Sp} {b : Int}, Norm b l → Norm b (l.drop k)
  | 0, _, _, h => h
  | k + 1, [], _, _ => trivial
  | k + 1, x :: l, b, h => (Norm.drop k h.2.2).mono (by have := h.1; have := h.2.1; omega)
theorem Norm.take : ∀ (k : Nat) {l : List Sp} {b : Int}, Norm b l → Norm b (l.take k)
  | 0, _, _, _ => trivial
  | k + 1, [], _, _ => trivial
  | k + 1, x :: l, b, h => ⟨h.1, h.2.1, Norm.take k h.2.2⟩
end Go.Proofs.Ytkdkhphpknnceaa.H
