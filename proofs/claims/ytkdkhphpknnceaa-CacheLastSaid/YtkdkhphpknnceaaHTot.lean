/- Counting the numbers of spans; sets and slices beside each other. -/
import Derived.Test.YtkdkhphpknnceaaHTwo
namespace Go.Proofs.Ytkdkhphpknnceaa.H
open Go.RowKit

open Classical in
/-- of k numbers from b on: how many are as p says -/
noncomputable def num (p : Int → Prop) (b : Int) : Nat → Int
  | 0 => 0
  | k + 1 => num p b k + if p (b + k) then 1 else 0
theorem mem_iff (n : Int) : ∀ (l : List Sp), mem n l ↔ ∃ x ∈ l, inx n x
  | [] => by simp [mem]
  | x :: l => by simp only [mem, mem_iff n l, List.mem_cons, exists_eq_or_imp]
end Go.Proofs.Ytkdkhphpknnceaa.H
