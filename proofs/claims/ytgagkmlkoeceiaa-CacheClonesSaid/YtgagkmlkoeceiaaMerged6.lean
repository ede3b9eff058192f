/- Which of a set's spans have numbers of a span: over. -/
import Derived.Test.YtgagkmlkoeceiaaHOwn
import Derived.RangeFuncNested
import Derived.RangeFuncBound
import Derived.RangeFuncCalls
import Derived.RangeFuncLeaves
import Derived.RangeFuncBox
import Derived.Shelf.Abstract
import Derived.Shelf.RegionOpen
import Derived.OwnWalkIn
import Derived.TacticsInMore
import Derived.LoopNIn
import Derived.LoopIn
import Derived.Test.YtgagkmlkoeceiaaRelT
import Derived.Test.YtgagkmlkoeceiaaRelU
import Derived.Lib.Overlaps
import Derived.Laws.Externs
import Derived.Lib.AppendZerosOnto
import Derived.Shelf.RegionOpenPlain
import Derived.StillTailTactics
namespace Go.Proofs.Ytgagkmlkoeceiaa.H
open Go.RowKit

end Go.Proofs.Ytgagkmlkoeceiaa.H

/- A loop over an iterator that writes boxes of its own: what the caller keeps abides these writes. -/
namespace Go.Proofs.Ytgagkmlkoeceiaa.H
open Go.RowKit Go.Shelf

/-- the block of the slice that stands in a box -/
def rowOf (b0 : Nat) (W : World) : Option Nat := (W.cell? ⟨b0, 0, none⟩).bind Value.ownBlock
variable {F : Fence} {n : Nat} {P : Program}
end Go.Proofs.Ytgagkmlkoeceiaa.H

/- The iterator left: what is left of some spans without others, one behind the other. -/
namespace Go.Proofs.Ytgagkmlkoeceiaa.H
open Go.RowKit Go.Shelf

attribute [local go_sem] Oper.semAt_some

/-- these blocks are kept -/
def KeepL (l : List Nat) (A B : World) : Prop := A.heap.size ≤ B.heap.size ∧ ∀ b ∈ l, b < A.heap.size → B.heap[b]? = A.heap[b]?
theorem KeepL.of_below {l : List Nat} {A B : World} {n : Nat} (h : Below n A B) (hl : ∀ b ∈ l, b < n) : KeepL l A B := ⟨h.size, fun b hb _ => h.block b (hl b hb)⟩
/-- blocks of one span alone are kept -/
def Small (A B : World) : Prop := ∀ (k : Nat) (u v : Value), A.heap[k]? = some (.cells #[u, v] 81 (0, 0)) → B.heap[k]? = some (.cells #[u, v] 81 (0, 0))
/-- the row of a box is there -/
def RowV (b0 : Nat) (A : World) : Prop := ∀ k, rowOf b0 A = some k → k < A.heap.size
theorem rowOf_same {b0 : Nat} {A B : World} (h : B.heap[b0]? = A.heap[b0]?) : rowOf b0 B = rowOf b0 A := by
  unfold rowOf
  rw [World.cell?_of_block (a := ⟨b0, 0, none⟩) h]
theorem grownBy_of_below {w w' : World} (h : Below w.heap.size w w') : w.grownBy w' none := ⟨h.os, h.tape, h.output, h.size, fun k hk _ => h.block k hk⟩
def blkA (a : Option Addr) : List Nat := match a with
  | some a => [a.block]
  | none => []
def lookL (B1 B2 : Nat) (a1 a2 : Option Addr) : List Nat := B1 :: B2 :: (blkA a1 ++ blkA a2)
theorem PairsIn.blocks {rk : IntKind} {a : Option Addr} {n c : Nat} {gs : List (Int × Int)} {w w' : World} (h : PairsIn rk a n c gs w) (hs : w.heap.size ≤ w'.heap.size) (hk : ∀ b off, a = some ⟨b, off, none⟩ → b < w.heap.size → w'.heap[b]? = w.heap[b]?) : PairsIn rk a n c gs w' := by
  refine ⟨h.len, h.fit, h.top, h.at_.imp id ?_⟩
  rintro ⟨b, off, ha, hl, hi⟩
  have hk' := hk b off ha hl
  exact ⟨b, off, ha, Nat.lt_of_lt_of_le hl hs, fun i u hu => ⟨(World.cell?_of_block (a := ⟨b, off + i * 2, none⟩) hk').trans (hi i u hu).1, (World.cell?_of_block (a := ⟨b, off + i * 2 + 1, none⟩) hk').trans (hi i u hu).2⟩⟩
structure LLook (B1 B2 : Nat) (a1 : Option Addr) (n1 c1 : Nat) (xs : List Sp) (a2 : Option Addr) (n2 c2 : Nat) (ys : List Sp) (w : World) : Prop where
  b1 : Boxed w B1 67 (.slice a1 n1 c1)
  b2 : Boxed w B2 67 (.slice a2 n2 c2)
  p1 : PairsIn .i64 a1 n1 c1 xs w
  p2 : PairsIn .i64 a2 n2 c2 ys w
  lt : ∀ b ∈ lookL B1 B2 a1 a2, b < w.heap.size
theorem LLook.keep {B1 B2 : Nat} {a1 : Option Addr} {n1 c1 : Nat} {xs : List Sp} {a2 : Option Addr} {n2 c2 : Nat} {ys : List Sp} {w w' : World} (h : LLook B1 B2 a1 n1 c1 xs a2 n2 c2 ys w) (hk : KeepL (lookL B1 B2 a1 a2) w w') : LLook B1 B2 a1 n1 c1 xs a2 n2 c2 ys w' :=
  ⟨(hk.2 B1 (by simp [lookL]) h.b1.lt).trans h.b1, (hk.2 B2 (by simp [lookL]) h.b2.lt).trans h.b2, h.p1.blocks hk.1 (fun b off e hl => hk.2 b (by simp [lookL, blkA, e]) hl), h.p2.blocks hk.1 (fun b off e hl => hk.2 b (by simp [lookL, blkA, e]) hl), fun b hb => Nat.lt_of_lt_of_le (h.lt b hb) hk.1⟩
theorem LLook.below {B1 B2 : Nat} {a1 : Option Addr} {n1 c1 : Nat} {xs : List Sp} {a2 : Option Addr} {n2 c2 : Nat} {ys : List Sp} {w w' : World} (h : LLook B1 B2 a1 n1 c1 xs a2 n2 c2 ys w) (hb : Below w.heap.size w w') : LLook B1 B2 a1 n1 c1 xs a2 n2 c2 ys w' := h.keep (KeepL.of_below hb h.lt)

theorem RowV.below {b0 : Nat} {A B : World} (h : RowV b0 A) (hb0 : b0 < A.heap.size) (hb : Below A.heap.size A B) : RowV b0 B := fun k hk => by
  rw [rowOf_same (hb.block b0 hb0)] at hk
  exact Nat.lt_of_lt_of_le (h k hk) hb.size
end Go.Proofs.Ytgagkmlkoeceiaa.H

/- What is left of some spans without others, gathered: left, AppendSeq, Collect. -/
namespace Go.Proofs.Ytgagkmlkoeceiaa.H
open Go.RowKit Go.Shelf

attribute [local go_sem] Oper.semAt_some

/-- what stands between two rounds of a loop that gathers: in box b0, rows from base on -/
def Gath (w0 : World) (b0 base : Nat) (pre : List Sp) (W : World) : Prop :=
  ∃ v, Boxed W b0 67 v ∧ OwnP .i64 81 base v pre W ∧ (v = .slice none 0 0 ∨ pre ≠ []) ∧ Below w0.heap.size w0 W ∧ base ≤ W.heap.size
theorem Gath.row {w0 : World} {b0 base : Nat} {pre : List Sp} {W : World} (h : Gath w0 b0 base pre W) : ∃ v, Boxed W b0 67 v ∧ OwnP .i64 81 base v pre W ∧ rowOf b0 W = v.ownBlock := by
  obtain ⟨v, h1, h2, -⟩ := h
  exact ⟨v, h1, h2, by unfold rowOf; rw [h1.cell]; rfl⟩
end Go.Proofs.Ytgagkmlkoeceiaa.H

/- slices.AppendSeq and slices.Collect of what is left. -/
namespace Go.Proofs.Ytgagkmlkoeceiaa.H
open Go.RowKit Go.Shelf

attribute [local go_sem] Oper.semAt_some

end Go.Proofs.Ytgagkmlkoeceiaa.H

/- Missing and In of a set. -/
namespace Go.Proofs.Ytgagkmlkoeceiaa.H
open Go.RowKit Go.Shelf

theorem pair_one {g : Nat} {X1 X2 : Int} {w : World} (h : w.heap[g]? = some (.cells #[.int .i64 X1, .int .i64 X2] 81 (0, 0))) : PairsIn .i64 (some ⟨g, 0, none⟩) 1 1 [(X1, X2)] w :=
  ⟨rfl, Nat.le_refl _, by decide, .inr ⟨g, 0, rfl, (Array.getElem?_eq_some_iff.1 h).1, fun i u hi => by
    match i, hi with
    | 0, hi => cases hi; exact ⟨by rw [cell_block h]; rfl, by rw [cell_block h]; rfl⟩
    | i + 1, hi => simp at hi⟩⟩
theorem mem_get (n : Int) (l : List Sp) : mem n l ↔ ∃ (i : Nat) (y : Sp), l[i]? = some y ∧ inx n y := by
  induction l with
  | nil => simp [mem]
  | cons z l ih =>
    constructor
    · rintro (h | h)
      · exact ⟨0, z, rfl, h⟩
      · obtain ⟨i, y, h1, h2⟩ := ih.1 h
        exact ⟨i + 1, y, by simpa using h1, h2⟩
    · rintro ⟨i, y, h1, h2⟩
      match i, h1 with
      | 0, h1 =>
        obtain rfl : z = y := by simpa using h1
        exact .inl h2
      | i + 1, h1 => exact .inr (ih.2 ⟨i, y, by simpa using h1, h2⟩)
theorem Norm.begins {b : Int} : ∀ {l : List Sp}, Norm b l → ∀ y ∈ l, b ≤ y.1
  | x :: l, hn, y, hy => by
    rcases List.mem_cons.1 hy with rfl | h
    · exact hn.1
    · have := Norm.begins hn.2.2 y h; have := hn.1; have := hn.2.1; omega
theorem Norm.apart : ∀ {l : List Sp} {b : Int}, Norm b l → ∀ (i j : Nat) (x y : Sp), l[i]? = some x → l[j]? = some y → i < j → x.2 < y.1
  | z :: l, b, hn, i, j, x, y, hi, hj, hij => by
    match i, j, hij with
    | 0, j + 1, _ =>
      obtain rfl : z = x := by simpa using hi
      have := Norm.begins hn.2.2 y (List.mem_of_getElem? (i := j) (by simpa using hj))
      omega
    | i + 1, j + 1, h => exact Norm.apart hn.2.2 i j x y (by simpa using hi) (by simpa using hj) (by omega)
theorem Norm.full : ∀ {l : List Sp} {b : Int}, Norm b l → ∀ (i : Nat) (x : Sp), l[i]? = some x → x.1 < x.2
  | z :: l, b, hn, i, x, hi => by
    match i, hi with
    | 0, hi =>
      obtain rfl : z = x := by simpa using hi
      exact hn.2.1
    | i + 1, hi => exact Norm.full hn.2.2 i x (by simpa using hi)
theorem Norm.drop : ∀ (k : Nat) {l : List Sp} {b : Int}, Norm b l → Norm b (l.drop k)
  | 0, _, _, h => h
  | k + 1, [], _, _ => trivial
  | k + 1, x :: l, b, h => (Norm.drop k h.2.2).mono (by have := h.1; have := h.2.1; omega)
theorem Norm.take : ∀ (k : Nat) {l : List Sp} {b : Int}, Norm b l → Norm b (l.take k)
  | 0, _, _, _ => trivial
  | k + 1, [], _, _ => trivial
  | k + 1, x :: l, b, h => ⟨h.1, h.2.1, Norm.take k h.2.2⟩
theorem own_plain {T : TypeId} {base : Nat} {a : Option Addr} {n c : Nat} {l : List Sp} {w : World} (h : OwnP .i64 T base (.slice a n c) l w) : ∀ x, a = some x → x = ⟨x.block, x.off, none⟩ := by
  rcases h.2 with ⟨e, _⟩ | ⟨g, cap, cur, e, _⟩
  · rintro x rfl; cases e
  · rintro x rfl; injection e with e; injection e with e; rw [e]
end Go.Proofs.Ytgagkmlkoeceiaa.H

/- A row of spans, cell by cell: copy into it, clear, and what slices.overlaps says of it. -/
namespace Go.Proofs.Ytgagkmlkoeceiaa.H
open Go.RowKit Go.Shelf

/-- the cells of a row -/
def RowC (q : Nat) (C : List Value) (w : World) : Prop := w.heap[q]? = some (.cells C.toArray 81 (0, 0))
theorem info_span : (Try.prog.info? 81).map (·.size) = some 2 := by kernel_rfl
theorem copyC {w : World} {q : Nat} {C : List Value} (hC : RowC q C w) (ty : TypeId) (o dLen dCap : Nat) (a : Addr) (sLen sCap : Nat) (cs : List Value) (hn : cs.length = Nat.min sLen dLen * 2) (hsrc : ∀ j v, cs[j]? = some v → w.cell? (a.add j) = some v) (hfit : o + cs.length ≤ C.length) (h1 : ∀ v ∈ cs, v.oneCell' = true) :
    (Builtin.copy_ #[67, 67] ty #[.slice (some ⟨q, o, none⟩) dLen dCap, .slice (some a) sLen sCap]).run Try.prog w = .ok (goInt (Nat.min sLen dLen : Nat)) (w.setRow q (C.take o ++ cs ++ C.drop (o + cs.length)).toArray) := by
  have := U.run_copy_rows (P := Try.prog) w 67 67 ty 81 2 q o dLen dCap a sLen sCap C.toArray 81 cs sl_span info_span hC hn hsrc (by simpa using hfit) h1
  simpa using this
theorem RowC.set {w : World} {q : Nat} {C C' : List Value} (hC : RowC q C w) : RowC q C' (w.setRow q C'.toArray) := setRow_heap w q C.toArray C'.toArray _ (0, 0) hC
theorem setRow_keep (w : World) (q : Nat) (A : Array Value) : KeepB [q] w (w.setRow q A) := ⟨rfl, rfl, rfl, by simp [World.setRow], fun k _ hk => setRow_other w q k _ (fun e => hk (by rw [e]; simp))⟩
theorem RowC.cells {w : World} {q : Nat} {C : List Value} (hC : RowC q C w) (o : Nat) : ∀ j v, (C.drop o)[j]? = some v → w.cell? ((⟨q, o, none⟩ : Addr).add j) = some v := fun j v hj => by
  have hadd : ((⟨q, o, none⟩ : Addr).add j) = ⟨q, o + j, none⟩ := by unfold Addr.add; split <;> simp_all
  rw [hadd, cell_block hC]
  rw [List.getElem?_drop] at hj
  simpa using hj
/-- an own row of spans is some row of cells -/
theorem OwnP.rowC {base : Nat} {q n cap : Nat} {l : List Sp} {w : World} (h : OwnP .i64 81 base (.slice (some ⟨q, 0, none⟩) n cap) l w) : ∃ C : List Value, RowC q C w ∧ C.length = cap * 2 ∧ C.take (l.length * 2) = flatP .i64 l ∧ n = l.length ∧ n ≤ cap ∧ cap ≤ maxLen ∧ base ≤ q := by
  rcases h.2 with ⟨e, _⟩ | ⟨g, c, cur, e, hb, hg, hc, hm, hs, ht⟩
  · cases e
  · obtain ⟨rfl, rfl, rfl⟩ : q = g ∧ n = l.length ∧ cap = c := by injection e with e e2 e3; injection e with e; injection e with e4; exact ⟨e4, e2, e3⟩
    exact ⟨cur.toList, by simpa [RowC] using hg, by simpa using hs, ht, rfl, hc, hm, hb⟩
theorem RowC.own {q cap : Nat} {C : List Value} {l : List Sp} {w : World} (hC : RowC q C w) (hl : C.length = cap * 2) (ht : C.take (l.length * 2) = flatP .i64 l) (hc : l.length ≤ cap) (hm : cap ≤ maxLen) : OwnP .i64 81 0 (.slice (some ⟨q, 0, none⟩) l.length cap) l w :=
  ⟨by rw [flatP_len], .inr ⟨q, cap, C.toArray, rfl, Nat.zero_le _, hC, hc, hm, by simpa using hl, by simpa using ht⟩⟩
theorem flatP_takeD (l : List Sp) (i : Nat) : flatP .i64 (l.take i) = (flatP .i64 l).take (i * 2) := by
  by_cases h : i ≤ l.length
  · have e1 : flatP .i64 l = flatP .i64 (l.take i) ++ flatP .i64 (l.drop i) := by rw [← flatP_append, List.take_append_drop]
    rw [e1, List.take_left' (by rw [flatP_len, List.length_take, Nat.min_eq_left h])]
  · rw [List.take_of_length_le (by omega), List.take_of_length_le (by rw [flatP_len]; omega)]
theorem flatP_dropD (l : List Sp) (i : Nat) : flatP .i64 (l.drop i) = (flatP .i64 l).drop (i * 2) := by
  by_cases h : i ≤ l.length
  · have e1 : flatP .i64 l = flatP .i64 (l.take i) ++ flatP .i64 (l.drop i) := by rw [← flatP_append, List.take_append_drop]
    rw [e1, List.drop_left' (by rw [flatP_len, List.length_take, Nat.min_eq_left h])]
  · rw [List.drop_of_length_le (by omega), List.drop_of_length_le (by rw [flatP_len]; omega)]; rfl
/-- clear of a row's part -/
theorem clearC {w : World} {q : Nat} {C : List Value} (hC : RowC q C w) (ty : TypeId) (o n c : Nat) (hfit : o + n * 2 ≤ C.length) :
    ∃ w', (Builtin.clear_ #[67] ty #[.slice (some ⟨q, o, none⟩) n c]).run Try.prog w = .ok (.tuple #[]) w' ∧ KeepB [q] w w' ∧ ∃ Z : List Value, Z.length = n * 2 ∧ RowC q (C.take o ++ Z ++ C.drop (o + n * 2)) w' := by
  obtain ⟨i0, hi, hz0, hz1, hz2⟩ := info_parts spanT.info
  cases n with
  | zero => exact ⟨w, by simp [Builtin.clear_, run_underlying sl_span], KeepB.refl _ _, [], rfl, by simpa using hC⟩
  | succ n =>
    obtain ⟨zs, hzs⟩ : ∃ zs, Builtin.zeroCells (Value.agg #[.int .i64 0, .int .i64 0]).cells (n + 1) = zs := ⟨_, rfl⟩
    have hzl : zs.toList.length = (n + 1) * 2 := by
      rw [← hzs, Array.length_toList, size_zeroCells]
      simp [Value.cells]
    have hone : ∀ v ∈ zs.toList, v.oneCell' = true := by
      intro v hv
      rw [← hzs] at hv
      simp only [Builtin.zeroCells, Array.toList_map, List.mem_map] at hv
      obtain ⟨i, -, rfl⟩ := hv
      have h2 : i % (Value.agg #[.int .i64 0, .int .i64 0]).cells.size < 2 := Nat.mod_lt _ (by decide)
      generalize i % (Value.agg #[.int .i64 0, .int .i64 0]).cells.size = k at h2 ⊢
      match k, h2 with
      | 0, _ => rfl
      | 1, _ => rfl
    have hst := run_storeCells_at (P := Try.prog) q o 81 zs.toList 0 C.toArray w hC (by simp at hfit ⊢; rw [show zs.size = zs.toList.length from rfl, hzl]; omega) hone
    refine ⟨w.setRow q (C.take o ++ zs.toList ++ C.drop (o + (n + 1) * 2)).toArray, ?_, setRow_keep _ _ _, zs.toList, hzl, hC.set⟩
    have hst' : (storeCells ⟨q, o, none⟩ zs.toList 0).run Try.prog w = .ok () (w.setRow q (C.take o ++ zs.toList ++ C.drop (o + (n + 1) * 2)).toArray) := by
      rw [hst, hzl]
      simp
    simp only [Builtin.clear_, List.getElem?_toArray, List.getElem?_cons_zero, Sem.run_bind, run_underlying sl_span, Result.andThen_ok]
    have hzv : ∀ w, (zeroValue 81).run Try.prog w = .ok (.agg #[.int .i64 0, .int .i64 0]) w := fun w => by simp [zeroValue, typeInfo, hi, hz0]
    simp only [hzv, Result.andThen_ok, Sem.run_bind, hzs, hst', Sem.run_pure]
/-- two rows in two blocks don't overlap -/
theorem overlaps_apart {w : World} {q g : Nat} {C D : List Value} (hq : RowC q C w) (hg : RowC g D w) (hne : g ≠ q) (hD : D ≠ []) (o1 o2 la ca lb cb : Nat) :
    (callFunc 58 #[.slice (some ⟨q, o1, none⟩) la ca, .slice (some ⟨g, o2, none⟩) lb cb]).run Try.prog w = .ok (.value (.bool false)) w := by
  have hz : ∀ w, (Go.sizeOf 81).run Try.prog w = .ok 2 w := fun w => by
    obtain ⟨i0, hi, hz0, hz1, hz2⟩ := info_parts spanT.info
    simp [sizeOf, typeInfo, hi, hz1]
  rw [run_callFunc_extern Try.func58 (by kernel_rfl) (by kernel_rfl) (by kernel_rfl) (e := Extern.SlicesOverlaps.overlaps #[67, 67] #[4]) (by kernel_rfl),
    Lib.run_overlaps_apart w 67 4 81 sl_span 2 hz ⟨q, o1, none⟩ ⟨g, o2, none⟩ la ca lb cb (Ne.symm hne) 81 81 C.length D.length (by simp [World.shape?, show w.heap[q]? = _ from hq]) (by simp [World.shape?, show w.heap[g]? = _ from hg]) (by simpa using hD) (frozen_block hq _) (frozen_block hq _)]
  rfl
end Go.Proofs.Ytgagkmlkoeceiaa.H
