/- CacheSpans: the spans have just the numbers that are at hand, and these are in the order in which they were asked for. -/
import Derived.Test.YthplghcpjmodeaaCMth
namespace Go.Proofs.Ythplghcpjmodeaa.C
open Go.RowKit Go.Maps Go.Proofs.Ythplghcpjmodeaa.H
open Go.Proofs.Ythplghcpjmodeaa.W (OwnI IntsIn)

theorem and_small (n : Int) (m : Nat) (hm : m < 4294967296) : ∃ t : Nat, bits .and .i64 n (m : Int) = (t : Int) ∧ t ≤ m := by
  refine ⟨(BitVec.ofInt 64 n &&& BitVec.ofInt 64 (m : Int)).toNat, ?_, ?_⟩
  · show IntKind.i64.wrap ((BitVec.ofInt 64 n &&& BitVec.ofInt 64 (m : Int)).toNat : Int) = _
    have h2 : (BitVec.ofInt 64 (m : Int)).toNat = m := by
      rw [BitVec.ofInt_natCast, BitVec.toNat_ofNat]; exact Nat.mod_eq_of_lt (by omega)
    have h3 : (BitVec.ofInt 64 n &&& BitVec.ofInt 64 (m : Int)).toNat ≤ m := by
      rw [BitVec.toNat_and, h2]; exact Nat.and_le_right
    rw [IntKind.wrap_i64]
    omega
  · rw [BitVec.toNat_and, BitVec.ofInt_natCast, BitVec.toNat_ofNat, Nat.mod_eq_of_lt (by omega : m < 2 ^ 64)]
    exact Nat.and_le_right
/-- an act that was handed in -/
structure CAct where
  kd : Int
  i : Int
  sa : Option Addr
  sn : Nat
  sc : Nat
  g : List (Int × Int)
structure CActsIn (a : Option Addr) (n c : Nat) (l : List CAct) (w : World) : Prop where
  len : n = l.length
  fit : n ≤ c
  top : (c : Int) ≤ 9223372036854775807
  at_ : l = [] ∨ ∃ b off, a = some ⟨b, off, none⟩ ∧ b < w.heap.size ∧ ∀ i A, l[i]? = some A → w.cell? ⟨b, off + i * 3, none⟩ = some (.int .i64 A.kd) ∧ w.cell? ⟨b, off + i * 3 + 1, none⟩ = some (.int .i64 A.i) ∧ w.cell? ⟨b, off + i * 3 + 2, none⟩ = some (.slice A.sa A.sn A.sc)
  sub : ∀ A ∈ l, PairsIn .i32 A.sa A.sn A.sc A.g w ∧ (A.sa = none → A.sc = 0) ∧ ∀ g ∈ A.g, -2147483648 ≤ g.1 ∧ g.1 ≤ 2147483647
theorem CActsIn.one {a : Option Addr} {n c : Nat} {l : List CAct} {w : World} (h : CActsIn a n c l w) {k : Nat} (hk : k < n) : ∃ b off A, a = some ⟨b, off, none⟩ ∧ b < w.heap.size ∧ l[k]? = some A ∧ w.cell? ⟨b, off + k * 3, none⟩ = some (.int .i64 A.kd) ∧ w.cell? ⟨b, off + k * 3 + 1, none⟩ = some (.int .i64 A.i) ∧ w.cell? ⟨b, off + k * 3 + 2, none⟩ = some (.slice A.sa A.sn A.sc) := by
  obtain ⟨A, hA⟩ : ∃ A, l[k]? = some A := ⟨_, List.getElem?_eq_getElem (by rw [← h.len]; exact hk)⟩
  obtain ⟨b, off, ha, hb, hi⟩ := h.at_.resolve_left (by intro e; rw [e] at hA; cases hA)
  exact ⟨b, off, A, ha, hb, hA, hi k A hA⟩
/-- numbers of five bits -/
def Small (x : Ca) : Prop := ∀ z ∈ nums x, 0 ≤ z ∧ z ≤ 31
theorem Small.within {x : Ca} (h : Small x) : Within (nums x) := fun z hz => by have := h z hz; omega
def LastIs (y : Ca) (la : Int) : Prop := la = -1 ∨ (0 ≤ la ∧ ∃ ys, nums y = ys ++ [la])
/-- what the switch leaves -/
def SwS (c : Nat) (la : Int) (W w : World) : Prop := ∃ y, OneC c y W w ∧ Small y ∧ LastIs y la
theorem SwS.put {c : Nat} {x : Ca} {W w : World} {K : Nat} (hK : K ≤ 31) (hs : Small x) (hm : 1 ≤ x.most) (h : OneC c (putC x (K : Int) []).1 W w) : SwS c (K : Int) W w :=
  ⟨_, h, fun z hz => (nums_put hz).elim (hs z) (fun e => by omega), .inr ⟨by omega, put_last ⟨by omega, by omega⟩ hm⟩⟩
theorem SwS.get {c : Nat} {x : Ca} {W w : World} {K : Nat} (hK : K ≤ 31) (hs : Small x) (h : OneC c (getC x (K : Int)) W w) : SwS c (if (findC x.L (K : Int)).isSome = true then (K : Int) else -1) W w := by
  refine ⟨_, h, fun z hz => (nums_get hz).elim (hs z) (fun e => by omega), ?_⟩
  split
  · rename_i hf
    exact .inr ⟨by omega, get_last hf⟩
  · exact .inl rfl
theorem Norm.in_ : ∀ {l : List Sp} {b : Int}, Norm b l → ∀ y ∈ l, b ≤ y.1 ∧ y.1 < y.2
  | x :: l, b, hn, y, hy => by
    rcases List.mem_cons.1 hy with rfl | h
    · exact ⟨hn.1, hn.2.1⟩
    · have h1 := Norm.in_ hn.2.2 y h
      have h2 := hn.1
      have h3 := hn.2.1
      omega
end Go.Proofs.Ythplghcpjmodeaa.C
