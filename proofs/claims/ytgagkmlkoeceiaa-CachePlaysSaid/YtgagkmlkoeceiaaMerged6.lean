/- Which of a set's spans have numbers of a span: over. -/
import Derived.Test.YtgagkmlkoeceiaaHOwn
import Derived.RangeFuncNested
import Derived.RangeFuncBound
import Derived.RangeFuncCalls
import Derived.RangeFuncLeaves
import Derived.RangeFuncBox
import Derived.Shelf.Abstract
import Derived.Shelf.RegionOpen
import Derived.OwnWalkIn
import Derived.TacticsInMore
import Derived.LoopNIn
import Derived.LoopIn
import Derived.Test.YtgagkmlkoeceiaaRelT
import Derived.Test.YtgagkmlkoeceiaaRelU
namespace Go.Proofs.Ytgagkmlkoeceiaa.H
open Go.RowKit

end Go.Proofs.Ytgagkmlkoeceiaa.H

/- A loop over an iterator that writes boxes of its own: what the caller keeps abides these writes. -/
namespace Go.Proofs.Ytgagkmlkoeceiaa.H
open Go.RowKit Go.Shelf

/-- the block of the slice that stands in a box -/
def rowOf (b0 : Nat) (W : World) : Option Nat := (W.cell? ⟨b0, 0, none⟩).bind Value.ownBlock
variable {F : Fence} {n : Nat} {P : Program}
end Go.Proofs.Ytgagkmlkoeceiaa.H

/- The iterator left: what is left of some spans without others, one behind the other. -/
namespace Go.Proofs.Ytgagkmlkoeceiaa.H
open Go.RowKit Go.Shelf

attribute [local go_sem] Oper.semAt_some

/-- these blocks are kept -/
def KeepL (l : List Nat) (A B : World) : Prop := A.heap.size ≤ B.heap.size ∧ ∀ b ∈ l, b < A.heap.size → B.heap[b]? = A.heap[b]?
theorem KeepL.of_below {l : List Nat} {A B : World} {n : Nat} (h : Below n A B) (hl : ∀ b ∈ l, b < n) : KeepL l A B := ⟨h.size, fun b hb _ => h.block b (hl b hb)⟩
/-- blocks of one span alone are kept -/
def Small (A B : World) : Prop := ∀ (k : Nat) (u v : Value), A.heap[k]? = some (.cells #[u, v] 81 (0, 0)) → B.heap[k]? = some (.cells #[u, v] 81 (0, 0))
/-- the row of a box is there -/
def RowV (b0 : Nat) (A : World) : Prop := ∀ k, rowOf b0 A = some k → k < A.heap.size
theorem rowOf_same {b0 : Nat} {A B : World} (h : B.heap[b0]? = A.heap[b0]?) : rowOf b0 B = rowOf b0 A := by
  unfold rowOf
  rw [World.cell?_of_block (a := ⟨b0, 0, none⟩) h]
theorem grownBy_of_below {w w' : World} (h : Below w.heap.size w w') : w.grownBy w' none := ⟨h.os, h.tape, h.output, h.size, fun k hk _ => h.block k hk⟩
def blkA (a : Option Addr) : List Nat := match a with
  | some a => [a.block]
  | none => []
def lookL (B1 B2 : Nat) (a1 a2 : Option Addr) : List Nat := B1 :: B2 :: (blkA a1 ++ blkA a2)
theorem PairsIn.blocks {rk : IntKind} {a : Option Addr} {n c : Nat} {gs : List (Int × Int)} {w w' : World} (h : PairsIn rk a n c gs w) (hs : w.heap.size ≤ w'.heap.size) (hk : ∀ b off, a = some ⟨b, off, none⟩ → b < w.heap.size → w'.heap[b]? = w.heap[b]?) : PairsIn rk a n c gs w' := by
  refine ⟨h.len, h.fit, h.top, h.at_.imp id ?_⟩
  rintro ⟨b, off, ha, hl, hi⟩
  have hk' := hk b off ha hl
  exact ⟨b, off, ha, Nat.lt_of_lt_of_le hl hs, fun i u hu => ⟨(World.cell?_of_block (a := ⟨b, off + i * 2, none⟩) hk').trans (hi i u hu).1, (World.cell?_of_block (a := ⟨b, off + i * 2 + 1, none⟩) hk').trans (hi i u hu).2⟩⟩
structure LLook (B1 B2 : Nat) (a1 : Option Addr) (n1 c1 : Nat) (xs : List Sp) (a2 : Option Addr) (n2 c2 : Nat) (ys : List Sp) (w : World) : Prop where
  b1 : Boxed w B1 67 (.slice a1 n1 c1)
  b2 : Boxed w B2 67 (.slice a2 n2 c2)
  p1 : PairsIn .i64 a1 n1 c1 xs w
  p2 : PairsIn .i64 a2 n2 c2 ys w
  lt : ∀ b ∈ lookL B1 B2 a1 a2, b < w.heap.size
theorem LLook.keep {B1 B2 : Nat} {a1 : Option Addr} {n1 c1 : Nat} {xs : List Sp} {a2 : Option Addr} {n2 c2 : Nat} {ys : List Sp} {w w' : World} (h : LLook B1 B2 a1 n1 c1 xs a2 n2 c2 ys w) (hk : KeepL (lookL B1 B2 a1 a2) w w') : LLook B1 B2 a1 n1 c1 xs a2 n2 c2 ys w' :=
  ⟨(hk.2 B1 (by simp [lookL]) h.b1.lt).trans h.b1, (hk.2 B2 (by simp [lookL]) h.b2.lt).trans h.b2, h.p1.blocks hk.1 (fun b off e hl => hk.2 b (by simp [lookL, blkA, e]) hl), h.p2.blocks hk.1 (fun b off e hl => hk.2 b (by simp [lookL, blkA, e]) hl), fun b hb => Nat.lt_of_lt_of_le (h.lt b hb) hk.1⟩
theorem LLook.below {B1 B2 : Nat} {a1 : Option Addr} {n1 c1 : Nat} {xs : List Sp} {a2 : Option Addr} {n2 c2 : Nat} {ys : List Sp} {w w' : World} (h : LLook B1 B2 a1 n1 c1 xs a2 n2 c2 ys w) (hb : Below w.heap.size w w') : LLook B1 B2 a1 n1 c1 xs a2 n2 c2 ys w' := h.keep (KeepL.of_below hb h.lt)

theorem RowV.below {b0 : Nat} {A B : World} (h : RowV b0 A) (hb0 : b0 < A.heap.size) (hb : Below A.heap.size A B) : RowV b0 B := fun k hk => by
  rw [rowOf_same (hb.block b0 hb0)] at hk
  exact Nat.lt_of_lt_of_le (h k hk) hb.size
end Go.Proofs.Ytgagkmlkoeceiaa.H

/- What is left of some spans without others, gathered: left, AppendSeq, Collect. -/
namespace Go.Proofs.Ytgagkmlkoeceiaa.H
open Go.RowKit Go.Shelf

attribute [local go_sem] Oper.semAt_some

/-- what stands between two rounds of a loop that gathers: in box b0, rows from base on -/
def Gath (w0 : World) (b0 base : Nat) (pre : List Sp) (W : World) : Prop :=
  ∃ v, Boxed W b0 67 v ∧ OwnP .i64 81 base v pre W ∧ (v = .slice none 0 0 ∨ pre ≠ []) ∧ Below w0.heap.size w0 W ∧ base ≤ W.heap.size
theorem Gath.row {w0 : World} {b0 base : Nat} {pre : List Sp} {W : World} (h : Gath w0 b0 base pre W) : ∃ v, Boxed W b0 67 v ∧ OwnP .i64 81 base v pre W ∧ rowOf b0 W = v.ownBlock := by
  obtain ⟨v, h1, h2, -⟩ := h
  exact ⟨v, h1, h2, by unfold rowOf; rw [h1.cell]; rfl⟩
end Go.Proofs.Ytgagkmlkoeceiaa.H

/- slices.AppendSeq and slices.Collect of what is left. -/
namespace Go.Proofs.Ytgagkmlkoeceiaa.H
open Go.RowKit Go.Shelf

attribute [local go_sem] Oper.semAt_some

end Go.Proofs.Ytgagkmlkoeceiaa.H

/- Missing and In of a set. -/
namespace Go.Proofs.Ytgagkmlkoeceiaa.H
open Go.RowKit Go.Shelf

theorem pair_one {g : Nat} {X1 X2 : Int} {w : World} (h : w.heap[g]? = some (.cells #[.int .i64 X1, .int .i64 X2] 81 (0, 0))) : PairsIn .i64 (some ⟨g, 0, none⟩) 1 1 [(X1, X2)] w :=
  ⟨rfl, Nat.le_refl _, by decide, .inr ⟨g, 0, rfl, (Array.getElem?_eq_some_iff.1 h).1, fun i u hi => by
    match i, hi with
    | 0, hi => cases hi; exact ⟨by rw [cell_block h]; rfl, by rw [cell_block h]; rfl⟩
    | i + 1, hi => simp at hi⟩⟩
theorem mem_get (n : Int) (l : List Sp) : mem n l ↔ ∃ (i : Nat) (y : Sp), l[i]? = some y ∧ inx n y := by
  induction l with
  | nil => simp [mem]
  | cons z l ih =>
    constructor
    · rintro (h | h)
      · exact ⟨0, z, rfl, h⟩
      · obtain ⟨i, y, h1, h2⟩ := ih.1 h
        exact ⟨i + 1, y, by simpa using h1, h2⟩
    · rintro ⟨i, y, h1, h2⟩
      match i, h1 with
      | 0, h1 =>
        obtain rfl : z = y := by simpa using h1
        exact .inl h2
      | i + 1, h1 => exact .inr (ih.2 ⟨i, y, by simpa using h1, h2⟩)
theorem Norm.begins {b : Int} : ∀ {l : List Sp}, Norm b l → ∀ y ∈ l, b ≤ y.1
  | x :: l, hn, y, hy => by
    rcases List.mem_cons.1 hy with rfl | h
    · exact hn.1
    · have := Norm.begins hn.2.2 y h; have := hn.1; have := hn.2.1; omega
theorem Norm.apart : ∀ {l : List Sp} {b : Int}, Norm b l → ∀ (i j : Nat) (x y : Sp), l[i]? = some x → l[j]? = some y → i < j → x.2 < y.1
  | z :: l, b, hn, i, j, x, y, hi, hj, hij => by
    match i, j, hij with
    | 0, j + 1, _ =>
      obtain rfl : z = x := by simpa using hi
      have := Norm.begins hn.2.2 y (List.mem_of_getElem? (i := j) (by simpa using hj))
      omega
    | i + 1, j + 1, h => exact Norm.apart hn.2.2 i j x y (by simpa using hi) (by simpa using hj) (by omega)
theorem Norm.full : ∀ {l : List Sp} {b : Int}, Norm b l → ∀ (i : Nat) (x : Sp), l[i]? = some x → x.1 < x.2
  | z :: l, b, hn, i, x, hi => by
    match i, hi with
    | 0, hi =>
      obtain rfl : z = x := by simpa using hi
      exact hn.2.1
    | i + 1, hi => exact Norm.full hn.2.2 i x (by simpa using hi)
theorem Norm.drop : ∀ (k : Nat) {l : List Sp} {b : Int}, Norm b l → Norm b (l.drop k)
  | 0, _, _, h => h
  | k + 1, [], _, _ => trivial
  | k + 1, x :: l, b, h => (Norm.drop k h.2.2).mono (by have := h.1; have := h.2.1; omega)
theorem Norm.take : ∀ (k : Nat) {l : List Sp} {b : Int}, Norm b l → Norm b (l.take k)
  | 0, _, _, _ => trivial
  | k + 1, [], _, _ => trivial
  | k + 1, x :: l, b, h => ⟨h.1, h.2.1, Norm.take k h.2.2⟩
theorem own_plain {T : TypeId} {base : Nat} {a : Option Addr} {n c : Nat} {l : List Sp} {w : World} (h : OwnP .i64 T base (.slice a n c) l w) : ∀ x, a = some x → x = ⟨x.block, x.off, none⟩ := by
  rcases h.2 with ⟨e, _⟩ | ⟨g, cap, cur, e, _⟩
  · rintro x rfl; cases e
  · rintro x rfl; injection e with e; injection e with e; rw [e]
end Go.Proofs.Ytgagkmlkoeceiaa.H
