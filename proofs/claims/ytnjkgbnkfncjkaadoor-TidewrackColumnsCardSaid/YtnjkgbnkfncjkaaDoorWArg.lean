/- Slices of runes that were handed in, and their first ones. -/
import Derived.Test.YtnjkgbnkfncjkaaDoorWAwake
import Derived.Test.YtnjkgbnkfncjkaaDoorWRefFit
import Derived.Lib.MinMax
namespace Go.Proofs.YtnjkgbnkfncjkaaDoor.W
open Go.RowKit

/-- A slice of runes, as it is handed in. -/
structure Arg (a : Option Addr) (len cap : Nat) (zs : List Int) (w : World) : Prop where
  rs : RunesIn a len zs w
  lt : ∀ b ∈ blkOf a zs, b < w.heap.size
  fit : len ≤ cap
  top : (cap : Int) ≤ 9223372036854775807
  nil : a = none → len = 0 ∧ cap = 0
  ok : ∀ z ∈ zs, isRune z
theorem RunesIn.take {a : Option Addr} {len : Nat} {zs : List Int} {w : World} (h : RunesIn a len zs w) {k : Nat} (hk : k ≤ len) : RunesIn a k (zs.take k) w := by
  have hl := h.1
  refine ⟨by rw [List.length_take]; omega, ?_⟩
  rcases h.2 with e | ⟨b, off, ha, hb, hi⟩
  · left; rw [e]; simp
  · refine .inr ⟨b, off, ha, hb, fun i hi' => ?_⟩
    rw [List.length_take] at hi'
    rw [hi i (by omega)]
    simp [List.getD_eq_getElem?_getD, List.getElem?_take, show i < k by omega]
theorem Arg.rn {a : Option Addr} {len cap : Nat} {zs : List Int} {w : World} (h : Arg a len cap zs w) (hT : Tab w) {k : Nat} (hk : k ≤ len) (hk2 : (k : Int) ≤ 1000000) : Rn a k (zs.take k) w :=
  ⟨h.rs.take hk, hT, fun b hb => h.lt b (blkOf_sub (fun e e' => e (by rw [e']; simp)) b hb), by rw [List.length_take]; omega⟩
theorem Arg.belowAll {a : Option Addr} {len cap : Nat} {zs : List Int} {w w' : World} (h : Arg a len cap zs w) (hb : Below w.heap.size w w') : Arg a len cap zs w' :=
  ⟨h.rs.belowAll hb, fun b hm => Nat.lt_of_lt_of_le (h.lt b hm) hb.size, h.fit, h.top, h.nil, h.ok⟩
theorem Rn.take {a : Option Addr} {len : Nat} {zs : List Int} {w : World} (h : Rn a len zs w) {k : Nat} (hk : k ≤ len) : Rn a k (zs.take k) w :=
  ⟨h.rs.take hk, h.tb, fun b hb => h.lt b (blkOf_sub (fun e e' => e (by rw [e']; simp)) b hb), by have := h.few; rw [List.length_take]; omega⟩
theorem i64_and6 (n : Int) : bits .and .i64 n 63 = n % 64 := by
  have h127 : (BitVec.ofInt 64 63).toNat = 2 ^ 6 - 1 := by decide
  have key : (BitVec.ofInt 64 n &&& BitVec.ofInt 64 63).toNat = (n % ((2 ^ 64 : Nat) : Int)).toNat % 2 ^ 6 := by
    rw [BitVec.toNat_and, BitVec.toNat_ofInt, h127, Nat.and_two_pow_sub_one_eq_mod]
  show IntKind.i64.wrap ((BitVec.ofInt 64 n &&& BitVec.ofInt 64 63).toNat : Nat) = n % 64
  rw [key, IntKind.wrap_i64]
  omega
theorem i64_and7 (n : Int) : bits .and .i64 n 127 = n % 128 := by
  have h127 : (BitVec.ofInt 64 127).toNat = 2 ^ 7 - 1 := by decide
  have key : (BitVec.ofInt 64 n &&& BitVec.ofInt 64 127).toNat = (n % ((2 ^ 64 : Nat) : Int)).toNat % 2 ^ 7 := by
    rw [BitVec.toNat_and, BitVec.toNat_ofInt, h127, Nat.and_two_pow_sub_one_eq_mod]
  show IntKind.i64.wrap ((BitVec.ofInt 64 n &&& BitVec.ofInt 64 127).toNat : Nat) = n % 128
  rw [key, IntKind.wrap_i64]
  omega
end Go.Proofs.YtnjkgbnkfncjkaaDoor.W
