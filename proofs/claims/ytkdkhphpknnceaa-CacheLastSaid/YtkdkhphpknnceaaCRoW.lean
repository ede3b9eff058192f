/- CacheRoom: where there is room none goes, and each is at hand as it was put. -/
import Derived.Test.YtkdkhphpknnceaaCRoM
import Derived.Test.YtkdkhphpknnceaaRelD
import Derived.Test.YtkdkhphpknnceaaRelU
namespace Go.Proofs.Ytkdkhphpknnceaa.C
open Go.RowKit Go.Maps Go.Proofs.Ytkdkhphpknnceaa.H

/-- a line that was handed in -/
structure LArg where
  sa : Option Addr
  sn : Nat
  sc : Nat
  g : List (Int × Int)
structure LArgsIn (a : Option Addr) (n c : Nat) (l : List LArg) (w : World) : Prop where
  len : n = l.length
  fit : n ≤ c
  top : (c : Int) ≤ 9223372036854775807
  at_ : l = [] ∨ ∃ b off, a = some ⟨b, off, none⟩ ∧ b < w.heap.size ∧ ∀ i A, l[i]? = some A → w.cell? ⟨b, off + i, none⟩ = some (.slice A.sa A.sn A.sc)
  sub : ∀ A ∈ l, PairsIn .i32 A.sa A.sn A.sc A.g w ∧ (A.sa = none → A.sc = 0) ∧ RngG A.g
theorem LArgsIn.one {a : Option Addr} {n c : Nat} {l : List LArg} {w : World} (h : LArgsIn a n c l w) {k : Nat} (hk : k < n) : ∃ b off A, a = some ⟨b, off, none⟩ ∧ b < w.heap.size ∧ l[k]? = some A ∧ w.cell? ⟨b, off + k, none⟩ = some (.slice A.sa A.sn A.sc) := by
  obtain ⟨A, hA⟩ : ∃ A, l[k]? = some A := ⟨_, List.getElem?_eq_getElem (by rw [← h.len]; exact hk)⟩
  obtain ⟨b, off, ha, hb, hi⟩ := h.at_.resolve_left (by intro e; rw [e] at hA; cases hA)
  exact ⟨b, off, A, ha, hb, hA, hi k A hA⟩
theorem pairs_front {rk : IntKind} {a : Option Addr} {n c : Nat} {l : List (Int × Int)} {w : World} (h : PairsIn rk a n c l w) {k : Nat} (hk : k ≤ n) : PairsIn rk a k c (l.take k) w := by
  refine ⟨by rw [List.length_take, ← h.len]; omega, Nat.le_trans hk h.fit, h.top, ?_⟩
  rcases h.at_ with e | ⟨b, off, ha, hb, hi⟩
  · exact .inl (by rw [e]; simp)
  · refine .inr ⟨b, off, ha, hb, fun i g hg => ?_⟩
    rw [List.getElem?_take] at hg
    split at hg
    · exact hi i g hg
    · cases hg
def StR (w : World) (Q : World → Prop) : Nat → (Nat → Value) → World → Prop
  | 0, _, u => EqD w u
  | _, _, u => Q u
theorem StR.cong {w : World} {Q : World → Prop} {k : Nat} {f f2 : Nat → Value} {u : World} (h : StR w Q k f u) : StR w Q k f2 u := by
  match k, h with
  | 0, h => exact h
  | _ + 1, h => exact h
end Go.Proofs.Ytkdkhphpknnceaa.C
