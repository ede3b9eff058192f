/- The iterator left: what is left of some spans without others, one behind the other. -/
import Derived.Test.YtkdkhphpknnceaaHRange
namespace Go.Proofs.Ytkdkhphpknnceaa.H
open Go.RowKit Go.Shelf

attribute [local go_sem] Oper.semAt_some

/-- these blocks are kept -/
def KeepL (l : List Nat) (A B : World) : Prop := A.heap.size ≤ B.heap.size ∧ ∀ b ∈ l, b < A.heap.size → B.heap[b]? = A.heap[b]?
theorem KeepL.of_below {l : List Nat} {A B : World} {n : Nat} (h : Below n A B) (hl : ∀ b ∈ l, b < n) : KeepL l A B := ⟨h.size, fun b hb _ => h.block b (hl b hb)⟩
/-- the row of a box is there -/
def RowV (b0 : Nat) (A : World) : Prop := ∀ k, rowOf b0 A = some k → k < A.heap.size
theorem rowOf_same {b0 : Nat} {A B : World} (h : B.heap[b0]? = A.heap[b0]?) : rowOf b0 B = rowOf b0 A := by
  unfold rowOf
  rw [World.cell?_of_block (a := ⟨b0, 0, none⟩) h]
theorem grownBy_of_below {w w' : World} (h : Below w.heap.size w w') : w.grownBy w' none := ⟨h.os, h.tape, h.output, h.size, fun k hk _ => h.block k hk⟩
theorem PairsIn.blocks {rk : IntKind} {a : Option Addr} {n c : Nat} {gs : List (Int × Int)} {w w' : World} (h : PairsIn rk a n c gs w) (hs : w.heap.size ≤ w'.heap.size) (hk : ∀ b off, a = some ⟨b, off, none⟩ → b < w.heap.size → w'.heap[b]? = w.heap[b]?) : PairsIn rk a n c gs w' := by
  refine ⟨h.len, h.fit, h.top, h.at_.imp id ?_⟩
  rintro ⟨b, off, ha, hl, hi⟩
  have hk' := hk b off ha hl
  exact ⟨b, off, ha, Nat.lt_of_lt_of_le hl hs, fun i u hu => ⟨(World.cell?_of_block (a := ⟨b, off + i * 2, none⟩) hk').trans (hi i u hu).1, (World.cell?_of_block (a := ⟨b, off + i * 2 + 1, none⟩) hk').trans (hi i u hu).2⟩⟩
theorem RowV.below {b0 : Nat} {A B : World} (h : RowV b0 A) (hb0 : b0 < A.heap.size) (hb : Below A.heap.size A B) : RowV b0 B := fun k hk => by
  rw [rowOf_same (hb.block b0 hb0)] at hk
  exact Nat.lt_of_lt_of_le (h k hk) hb.size
end Go.Proofs.Ytkdkhphpknnceaa.H
