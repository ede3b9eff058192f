/- The iterator left: what is left of some spans without others, one behind the other. -/
import Derived.Test.YthplghcpjmodeaaHRange
namespace Go.Proofs.Ythplghcpjmodeaa.H
open Go.RowKit Go.Shelf

attribute [local go_sem] Oper.semAt_some

/-- these blocks are kept -/
def KeepL (l : List Nat) (A B : World) : Prop := A.heap.size ≤ B.heap.size ∧ ∀ b ∈ l, b < A.heap.size → B.heap[b]? = A.heap[b]?
theorem KeepL.of_below {l : List Nat} {A B : World} {n : Nat} (h : Below n A B) (hl : ∀ b ∈ l, b < n) : KeepL l A B := ⟨h.size, fun b hb _ => h.block b (hl b hb)⟩
/-- blocks of one span alone are kept -/
def Small (A B : World) : Prop := ∀ (k : Nat) (u v : Value), A.heap[k]? = some (.cells #[u, v] 56 (0, 0)) → B.heap[k]? = some (.cells #[u, v] 56 (0, 0))
/-- the row of a box is there -/
def RowV (b0 : Nat) (A : World) : Prop := ∀ k, rowOf b0 A = some k → k < A.heap.size
theorem rowOf_same {b0 : Nat} {A B : World} (h : B.heap[b0]? = A.heap[b0]?) : rowOf b0 B = rowOf b0 A := by
  unfold rowOf
  rw [World.cell?_of_block (a := ⟨b0, 0, none⟩) h]
theorem grownBy_of_below {w w' : World} (h : Below w.heap.size w w') : w.grownBy w' none := ⟨h.os, h.tape, h.output, h.size, fun k hk _ => h.block k hk⟩
def blkA (a : Option Addr) : List Nat := match a with
  | some a => [a.block]
  | none => []
def lookL (B1 B2 : Nat) (a1 a2 : Option Addr) : List Nat := B1 :: B2 :: (blkA a1 ++ blkA a2)
theorem PairsIn.blocks {rk : IntKind} {a : Option Addr} {n c : Nat} {gs : List (Int × Int)} {w w' : World} (h : PairsIn rk a n c gs w) (hs : w.heap.size ≤ w'.heap.size) (hk : ∀ b off, a = some ⟨b, off, none⟩ → b < w.heap.size → w'.heap[b]? = w.heap[b]?) : PairsIn rk a n c gs w' := by
  refine ⟨h.len, h.fit, h.top, h.at_.imp id ?_⟩
  rintro ⟨b, off, ha, hl, hi⟩
  have hk' := hk b off ha hl
  exact ⟨b, off, ha, Nat.lt_of_lt_of_le hl hs, fun i u hu => ⟨(World.cell?_of_block (a := ⟨b, off + i * 2, none⟩) hk').trans (hi i u hu).1, (World.cell?_of_block (a := ⟨b, off + i * 2 + 1, none⟩) hk').trans (hi i u hu).2⟩⟩
structure LLook (B1 B2 : Nat) (a1 : Option Addr) (n1 c1 : Nat) (xs : List Sp) (a2 : Option Addr) (n2 c2 : Nat) (ys : List Sp) (w : World) : Prop where
  b1 : Boxed w B1 53 (.slice a1 n1 c1)
  b2 : Boxed w B2 53 (.slice a2 n2 c2)
  p1 : PairsIn .i64 a1 n1 c1 xs w
  p2 : PairsIn .i64 a2 n2 c2 ys w
  lt : ∀ b ∈ lookL B1 B2 a1 a2, b < w.heap.size
theorem LLook.keep {B1 B2 : Nat} {a1 : Option Addr} {n1 c1 : Nat} {xs : List Sp} {a2 : Option Addr} {n2 c2 : Nat} {ys : List Sp} {w w' : World} (h : LLook B1 B2 a1 n1 c1 xs a2 n2 c2 ys w) (hk : KeepL (lookL B1 B2 a1 a2) w w') : LLook B1 B2 a1 n1 c1 xs a2 n2 c2 ys w' :=
  ⟨(hk.2 B1 (by simp [lookL]) h.b1.lt).trans h.b1, (hk.2 B2 (by simp [lookL]) h.b2.lt).trans h.b2, h.p1.blocks hk.1 (fun b off e hl => hk.2 b (by simp [lookL, blkA, e]) hl), h.p2.blocks hk.1 (fun b off e hl => hk.2 b (by simp [lookL, blkA, e]) hl), fun b hb => Nat.lt_of_lt_of_le (h.lt b hb) hk.1⟩
theorem LLook.below {B1 B2 : Nat} {a1 : Option Addr} {n1 c1 : Nat} {xs : List Sp} {a2 : Option Addr} {n2 c2 : Nat} {ys : List Sp} {w w' : World} (h : LLook B1 B2 a1 n1 c1 xs a2 n2 c2 ys w) (hb : Below w.heap.size w w') : LLook B1 B2 a1 n1 c1 xs a2 n2 c2 ys w' := h.keep (KeepL.of_below hb h.lt)

theorem RowV.below {b0 : Nat} {A B : World} (h : RowV b0 A) (hb0 : b0 < A.heap.size) (hb : Below A.heap.size A B) : RowV b0 B := fun k hk => by
  rw [rowOf_same (hb.block b0 hb0)] at hk
  exact Nat.lt_of_lt_of_le (h k hk) hb.size
end Go.Proofs.Ythplghcpjmodeaa.H
