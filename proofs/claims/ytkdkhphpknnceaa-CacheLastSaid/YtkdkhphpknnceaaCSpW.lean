/- CacheSpans: the spans have just the numbers that are at hand, and these are in the order in which they were asked for. -/
import Derived.Test.YtkdkhphpknnceaaCMth
namespace Go.Proofs.Ytkdkhphpknnceaa.C
open Go.RowKit Go.Maps Go.Proofs.Ytkdkhphpknnceaa.H
open Go.Proofs.Ytkdkhphpknnceaa.W (OwnI IntsIn)

theorem and_small (n : Int) (m : Nat) (hm : m < 4294967296) : ∃ t : Nat, bits .and .i64 n (m : Int) = (t : Int) ∧ t ≤ m := by
  refine ⟨(BitVec.ofInt 64 n &&& BitVec.ofInt 64 (m : Int)).toNat, ?_, ?_⟩
  · show IntKind.i64.wrap ((BitVec.ofInt 64 n &&& BitVec.ofInt 64 (m : Int)).toNat : Int) = _
    have h2 : (BitVec.ofInt 64 (m : Int)).toNat = m := by
      rw [BitVec.ofInt_natCast, BitVec.toNat_ofNat]; exact Nat.mod_eq_of_lt (by omega)
    have h3 : (BitVec.ofInt 64 n &&& BitVec.ofInt 64 (m : Int)).toNat ≤ m := by
      rw [BitVec.toNat_and, h2]; exact Nat.and_le_right
    rw [IntKind.wrap_i64]
    omega
  · rw [BitVec.toNat_and, BitVec.ofInt_natCast, BitVec.toNat_ofNat, Nat.mod_eq_of_lt (by omega : m < 2 ^ 64)]
    exact Nat.and_le_right
/-- an act that was handed in -/
structure CAct where
  kd : Int
  i : Int
  sa : Option Addr
  sn : Nat
  sc : Nat
  g : List (Int × Int)
structure CActsIn (a : Option Addr) (n c : Nat) (l : List CAct) (w : World) : Prop where
  len : n = l.length
  fit : n ≤ c
  top : (c : Int) ≤ 9223372036854775807
  at_ : l = [] ∨ ∃ b off, a = some ⟨b, off, none⟩ ∧ b < w.heap.size ∧ ∀ i A, l[i]? = some A → w.cell? ⟨b, off + i * 3, none⟩ = some (.int .i64 A.kd) ∧ w.cell? ⟨b, off + i * 3 + 1, none⟩ = some (.int .i64 A.i) ∧ w.cell? ⟨b, off + i * 3 + 2, none⟩ = some (.slice A.sa A.sn A.sc)
  sub : ∀ A ∈ l, PairsIn .i32 A.sa A.sn A.sc A.g w ∧ (A.sa = none → A.sc = 0) ∧ ∀ g ∈ A.g, -2147483648 ≤ g.1 ∧ g.1 ≤ 2147483647
theorem CActsIn.one {a : Option Addr} {n c : Nat} {l : List CAct} {w : World} (h : CActsIn a n c l w) {k : Nat} (hk : k < n) : ∃ b off A, a = some ⟨b, off, none⟩ ∧ b < w.heap.size ∧ l[k]? = some A ∧ w.cell? ⟨b, off + k * 3, none⟩ = some (.int .i64 A.kd) ∧ w.cell? ⟨b, off + k * 3 + 1, none⟩ = some (.int .i64 A.i) ∧ w.cell? ⟨b, off + k * 3 + 2, none⟩ = some (.slice A.sa A.sn A.sc) := by
  obtain ⟨A, hA⟩ : ∃ A, l[k]? = some A := ⟨_, List.getElem?_eq_getElem (by rw [← h.len]; exact hk)⟩
  obtain ⟨b, off, ha, hb, hi⟩ := h.at_.resolve_left (by intro e; rw [e] at hA; cases hA)
  exact ⟨b, off, A, ha, hb, hA, hi k A hA⟩
theorem Norm.in_ : ∀ {l : List Sp} {b : Int}, Norm b l → ∀ y ∈ l, b ≤ y.1 ∧ y.1 < y.2
  | x :: l, b, hn, y, hy => by
    rcases List.mem_cons.1 hy with rfl | h
    · exact ⟨hn.1, hn.2.1⟩
    · have h1 := Norm.in_ hn.2.2 y h
      have h2 := hn.1
      have h3 := hn.2.1
      omega
end Go.Proofs.Ytkdkhphpknnceaa.C
