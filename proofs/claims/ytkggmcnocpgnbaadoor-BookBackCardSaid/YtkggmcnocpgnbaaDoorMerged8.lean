/- Rows in memory: a block of slices of cells, each with its mark. -/
import Derived.Test.YtkggmcnocpgnbaaDoorVDo
import Derived.RangeFuncNested
import Derived.RangeFuncBound
import Derived.RangeFuncCalls
import Derived.RangeFuncLeaves
import Derived.RangeFuncBox
import Derived.Shelf.Abstract
import Derived.Shelf.RegionOpen
import Derived.OwnWalkIn
import Derived.TacticsInMore
import Derived.LoopNIn
import Derived.LoopIn
import Derived.Test.YtkggmcnocpgnbaaDoorRelU
import Derived.OrdersIn
import Derived.CallsIn
import Derived.WalkKit
namespace Go.Proofs.YtkggmcnocpgnbaaDoor.K
open Go.RowKit

/-- a row, as it lies in a block -/
structure Rv where
  a : Option Addr
  n : Nat
  c : Nat
  b : Bool
def Rv.val (u : Rv) : Value := .agg #[.slice u.a u.n u.c, .bool u.b]
theorem Rv.val_inj {u v : Rv} (h : u.val = v.val) : u = v := by
  obtain ⟨a, n, c, b⟩ := u
  obtain ⟨a', n', c', b'⟩ := v
  have e1 : #[Value.slice a n c, Value.bool b] = #[Value.slice a' n' c', Value.bool b'] := by injection h
  simp only [Array.mk.injEq, List.cons.injEq, Value.slice.injEq, Value.bool.injEq, and_true] at e1
  obtain ⟨⟨rfl, rfl, rfl⟩, rfl⟩ := e1
  rfl
def Rv.nil : Rv := ⟨none, 0, 0, false⟩
def vCells (u : Rv) : List Value := [.slice u.a u.n u.c, .bool u.b]
def flatV (l : List Rv) : List Value := l.flatMap vCells
theorem flatV_len (l : List Rv) : (flatV l).length = l.length * 2 := by
  induction l with
  | nil => rfl
  | cons c l ih => simp [flatV, List.flatMap_cons, vCells] at ih ⊢; omega
theorem flatV_get : ∀ (l : List Rv) (i j : Nat) (c : Rv), l[i]? = some c → j < 2 → (flatV l)[i * 2 + j]? = (vCells c)[j]?
  | [], _, _, _, h, _ => by cases h
  | d :: l, 0, j, c, h, hj => by
    obtain rfl : d = c := by simpa using h
    show (vCells d ++ flatV l)[0 * 2 + j]? = _
    rw [List.getElem?_append_left (by simp [vCells]; omega)]
    simp
  | d :: l, i + 1, j, c, h, hj => by
    show (vCells d ++ flatV l)[(i + 1) * 2 + j]? = _
    rw [List.getElem?_append_right (by simp [vCells]; omega)]
    have e : (i + 1) * 2 + j - (vCells d).length = i * 2 + j := by simp [vCells]; omega
    rw [e]
    exact flatV_get l i j c (by simpa using h) hj
/-- rows of our own -/
def OwnV (T : TypeId) (base : Nat) (v : Value) (l : List Rv) (w : World) : Prop := w.ownsRow base T 2 v l.length (flatV l)
theorem OwnV.nil (T : TypeId) (base : Nat) (w : World) : OwnV T base (.slice none 0 0) [] w := World.ownsRow_nil _ _ _ _
theorem OwnV.belowAll {T : TypeId} {base : Nat} {v : Value} {l : List Rv} {w w' : World} (h : OwnV T base v l w) (hb : Below w.heap.size w w') : OwnV T base v l w' := U.belowAll h hb
theorem OwnV.alloc {T : TypeId} {base : Nat} {v : Value} {l : List Rv} {w : World} (h : OwnV T base v l w) (o : Obj) : OwnV T base v l (w.alloc o) := h.belowAll ((Below.refl _ _).alloc (Nat.le_refl _) o)
theorem OwnV.weaken {T : TypeId} {base base' : Nat} {v : Value} {l : List Rv} {w : World} (h : OwnV T base v l w) (hb : base' ≤ base) : OwnV T base' v l w := U.weaken h hb
theorem OwnV.ownBlock {T : TypeId} {base : Nat} {v : Value} {l : List Rv} {w : World} (h : OwnV T base v l w) : ∀ q, v.ownBlock = some q → base ≤ q ∧ q < w.heap.size := fun q hq => ⟨(U.own_type h hq).choose_spec.2.1, (U.own_type h hq).choose_spec.2.2⟩
theorem OwnV.lit (T : TypeId) (w : World) (base : Nat) (hb : base ≤ w.heap.size) : OwnV T base (.slice (some ⟨w.heap.size, 0, none⟩) 0 0) [] (w.alloc (.cells #[] T)) := World.ownsRow_lit w #[] 0 hb (by decide) rfl
theorem OwnV.kept {T : TypeId} {base : Nat} {v : Value} {l : List Rv} {w w' : World} {row : Option Nat} (h : OwnV T base v l w) (hg : w.grownBy w' row) (hne : ∀ q, v.ownBlock = some q → row ≠ some q) : OwnV T base v l w' := U.kept_apart h hg hne
/-- a slice of rows -/
structure RvsIn (a : Option Addr) (n c : Nat) (us : List Rv) (w : World) : Prop where
  len : n = us.length
  fit : n ≤ c
  top : (c : Int) ≤ 9223372036854775807
  at_ : us = [] ∨ ∃ b off, a = some ⟨b, off, none⟩ ∧ b < w.heap.size ∧ ∀ i u, us[i]? = some u → w.cell? ⟨b, off + i * 2, none⟩ = some (.slice u.a u.n u.c) ∧ w.cell? ⟨b, off + i * 2 + 1, none⟩ = some (.bool u.b)
theorem RvsIn.blocks {a : Option Addr} {n c : Nat} {us : List Rv} {w w' : World} (h : RvsIn a n c us w) (hs : w.heap.size ≤ w'.heap.size) (hk : ∀ b off, a = some ⟨b, off, none⟩ → b < w.heap.size → w'.heap[b]? = w.heap[b]?) : RvsIn a n c us w' := by
  refine ⟨h.len, h.fit, h.top, h.at_.imp id ?_⟩
  rintro ⟨b, off, ha, hl, hi⟩
  have hk' := hk b off ha hl
  exact ⟨b, off, ha, Nat.lt_of_lt_of_le hl hs, fun i u hu => ⟨(World.cell?_of_block (a := ⟨b, off + i * 2, none⟩) hk').trans (hi i u hu).1, (World.cell?_of_block (a := ⟨b, off + i * 2 + 1, none⟩) hk').trans (hi i u hu).2⟩⟩
theorem RvsIn.belowAll {a : Option Addr} {n c : Nat} {us : List Rv} {w w' : World} (h : RvsIn a n c us w) (hb : Below w.heap.size w w') : RvsIn a n c us w' := h.blocks hb.size (fun b _ _ hl => hb.block b hl)
theorem OwnV.shape {T : TypeId} {base : Nat} {v : Value} {l : List Rv} {w : World} (h : OwnV T base v l w) : ∃ a c, v = .slice a l.length c ∧ RvsIn a l.length c l w ∧ (∀ b off, a = some ⟨b, off, none⟩ → base ≤ b ∧ b < w.heap.size ∧ off = 0) ∧ (a = none → c = 0) := by
  rcases h.2 with ⟨rfl, h0⟩ | ⟨g, cap, cur, rfl, hbase, hg, hc, hm, hs, ht⟩
  · exact ⟨none, 0, by rw [h0], ⟨rfl, by omega, by decide, .inl (List.length_eq_zero_iff.1 h0)⟩, (fun _ _ e => by cases e), fun _ => rfl⟩
  · have hlt := (Array.getElem?_eq_some_iff.1 hg).1
    refine ⟨some ⟨g, 0, none⟩, cap, rfl, ⟨rfl, hc, by unfold maxLen at hm; omega, .inr ⟨g, 0, rfl, hlt, fun i c hi => ?_⟩⟩, (fun b off e => by cases e; exact ⟨hbase, hlt, rfl⟩), (fun e => by cases e)⟩
    have hil : i < l.length := (List.getElem?_eq_some_iff.1 hi).1
    have hcell : ∀ j, j < 2 → w.cell? ⟨g, 0 + i * 2 + j, none⟩ = (vCells c)[j]? := fun j hj => by
      rw [Nat.zero_add, World.ownsRow.cellAt h (i * 2 + j) (by omega), flatV_get l i j c hi hj]
    exact ⟨hcell 0 (by decide), hcell 1 (by decide)⟩
theorem RvsIn.news {b off n c : Nat} {l : List Rv} {w : World} (h : RvsIn (some ⟨b, off, none⟩) n c l w) : ∀ j u, (flatV l)[j]? = some u → w.cell? ((⟨b, off, none⟩ : Addr).add j) = some u := by
  intro j u hj
  have hadd : ((⟨b, off, none⟩ : Addr).add j) = ⟨b, off + j, none⟩ := by unfold Addr.add; split <;> simp_all
  rw [hadd]
  have hlt : j < l.length * 2 := by have := (List.getElem?_eq_some_iff.1 hj).1; rw [flatV_len] at this; exact this
  rcases h.at_ with e | ⟨b', off', ha, hb, hi⟩
  · rw [e] at hlt; simp at hlt
  · cases ha
    have hjl : j / 2 < l.length := by omega
    have h1 := hi (j / 2) l[j / 2] (List.getElem?_eq_getElem hjl)
    have h2 := flatV_get l (j / 2) (j % 2) l[j / 2] (List.getElem?_eq_getElem hjl) (by omega)
    rw [show j / 2 * 2 + j % 2 = j by omega, hj] at h2
    rcases Nat.mod_two_eq_zero_or_one j with hm | hm
    · rw [hm] at h2
      rw [show u = _ from (Option.some.inj h2), show off + j = off + j / 2 * 2 by omega]
      exact h1.1
    · rw [hm] at h2
      rw [show u = _ from (Option.some.inj h2), show off + j = off + j / 2 * 2 + 1 by omega]
      exact h1.2
/-- what the rows' cells are -/
def RowsV (rk : IntKind) (us : List Rv) (rs : List Ro) (w : World) : Prop := us.length = rs.length ∧ ∀ (i : Nat) (u : Rv) (r : Ro), us[i]? = some u → rs[i]? = some r → RowV rk u.val r w
theorem RowsV.nil (rk : IntKind) (w : World) : RowsV rk [] [] w := ⟨rfl, fun i u r h => by cases h⟩
theorem RowsV.belowAll {rk : IntKind} {us : List Rv} {rs : List Ro} {w w' : World} (h : RowsV rk us rs w) (hb : Below w.heap.size w w') : RowsV rk us rs w' := ⟨h.1, fun i u r h1 h2 => (h.2 i u r h1 h2).belowAll hb⟩
theorem RowsV.get {rk : IntKind} {us : List Rv} {rs : List Ro} {w : World} (h : RowsV rk us rs w) {i : Nat} {r : Ro} (hr : rs[i]? = some r) : ∃ u, us[i]? = some u ∧ RowV rk u.val r w := by
  have hlt : i < us.length := by rw [h.1]; exact (List.getElem?_eq_some_iff.1 hr).1
  exact ⟨us[i], List.getElem?_eq_getElem hlt, h.2 i _ r (List.getElem?_eq_getElem hlt) hr⟩
theorem RowsV.take {rk : IntKind} {us : List Rv} {rs : List Ro} {w : World} (h : RowsV rk us rs w) (k : Nat) : RowsV rk (us.take k) (rs.take k) w := by
  refine ⟨by rw [List.length_take, List.length_take, h.1], fun i u r hu hr => ?_⟩
  rw [List.getElem?_take] at hu hr
  split at hu
  · rename_i hi
    rw [if_pos hi] at hr
    exact h.2 i u r hu hr
  · cases hu
theorem RowsV.drop {rk : IntKind} {us : List Rv} {rs : List Ro} {w : World} (h : RowsV rk us rs w) (k : Nat) : RowsV rk (us.drop k) (rs.drop k) w :=
  ⟨by rw [List.length_drop, List.length_drop, h.1], fun i u r hu hr => by rw [List.getElem?_drop] at hu hr; exact h.2 _ u r hu hr⟩
theorem RowsV.append {rk : IntKind} {us vs : List Rv} {rs qs : List Ro} {w : World} (h : RowsV rk us rs w) (h' : RowsV rk vs qs w) : RowsV rk (us ++ vs) (rs ++ qs) w := by
  refine ⟨by rw [List.length_append, List.length_append, h.1, h'.1], fun i u r hu hr => ?_⟩
  rcases Nat.lt_or_ge i us.length with hi | hi
  · rw [List.getElem?_append_left hi] at hu
    rw [List.getElem?_append_left (by rw [← h.1]; exact hi)] at hr
    exact h.2 i u r hu hr
  · rw [List.getElem?_append_right hi] at hu
    rw [List.getElem?_append_right (by rw [← h.1]; exact hi), ← h.1] at hr
    exact h'.2 _ u r hu hr
theorem RowsV.rep {rk : IntKind} {u : Rv} {r : Ro} {w : World} (h : RowV rk u.val r w) (n : Nat) : RowsV rk (List.replicate n u) (List.replicate n r) w := by
  refine ⟨by rw [List.length_replicate, List.length_replicate], fun i v q hv hq => ?_⟩
  rw [List.getElem?_replicate] at hv hq
  split at hv
  · rename_i hi
    rw [if_pos hi] at hq
    rw [← Option.some.inj hv, ← Option.some.inj hq]
    exact h
  · cases hv
theorem RowsV.set {rk : IntKind} {us : List Rv} {rs : List Ro} {w : World} (h : RowsV rk us rs w) {u : Rv} {r : Ro} (hu : RowV rk u.val r w) (k : Nat) : RowsV rk (us.set k u) (rs.set k r) w := by
  refine ⟨by rw [List.length_set, List.length_set, h.1], fun i v q hv hq => ?_⟩
  rw [List.getElem?_set] at hv hq
  by_cases hk : k = i
  · rw [if_pos hk] at hv hq
    split at hv
    · rename_i hl
      rw [if_pos (by rw [← h.1]; exact hl)] at hq
      rw [← Option.some.inj hv, ← Option.some.inj hq]
      exact hu
    · cases hv
  · rw [if_neg hk] at hv hq
    exact h.2 i v q hv hq
end Go.Proofs.YtkggmcnocpgnbaaDoor.K

/- The iterator of rows from the uppermost one: grid.downwards. -/
namespace Go.Proofs.YtkggmcnocpgnbaaDoor.K
open Go.RowKit Go.Shelf

attribute [local go_sem] Oper.semAt_some

/-- these blocks are kept -/
def KeepL (l : List Nat) (A B : World) : Prop := A.heap.size ≤ B.heap.size ∧ ∀ b ∈ l, b < A.heap.size → B.heap[b]? = A.heap[b]?
theorem KeepL.of_below {l : List Nat} {A B : World} {n : Nat} (h : Below n A B) (hl : ∀ b ∈ l, b < n) : KeepL l A B := ⟨h.size, fun b hb _ => h.block b (hl b hb)⟩
theorem KeepL.refl (l : List Nat) (A : World) : KeepL l A A := ⟨Nat.le_refl _, fun _ _ _ => rfl⟩
theorem grownBy_of_below {w w' : World} (h : Below w.heap.size w w') : w.grownBy w' none := ⟨h.os, h.tape, h.output, h.size, fun k hk _ => h.block k hk⟩
/-- a row that an iterator hands on -/
abbrev It (w : World) := { p : Rv × Ro // RowV .i32 p.1.val p.2 w ∧ p.2.l.length ≤ 1000 }
def It.u {w : World} (x : It w) : Rv := x.1.1
def It.r {w : World} (x : It w) : Ro := x.1.2
/-- the block of a slice of rows that is not empty -/
def blkV {α : Type} (a : Option Addr) (us : List α) : List Nat := match a, us with
  | some a, _ :: _ => [a.block]
  | _, _ => []
theorem blkV_some {α : Type} {a : Option Addr} {b off : Nat} {us : List α} (hz : us ≠ []) (e : a = some ⟨b, off, none⟩) : b ∈ blkV a us := by
  subst e
  cases us with
  | nil => exact absurd rfl hz
  | cons z zs => simp [blkV]
def lookV {α : Type} (B : Nat) (a : Option Addr) (us : List α) : List Nat := B :: blkV a us
structure LooksV (B : Nat) (a : Option Addr) (n c : Nat) (us : List Rv) (w : World) : Prop where
  bx : Boxed w B 66 (.slice a n c)
  rs : RvsIn a n c us w
  lt : ∀ b ∈ blkV a us, b < w.heap.size
theorem LooksV.keep {B : Nat} {a : Option Addr} {n c : Nat} {us : List Rv} {w w' : World} (h : LooksV B a n c us w) (hk : KeepL (lookV B a us) w w') : LooksV B a n c us w' := by
  refine ⟨(hk.2 B (by simp [lookV]) h.bx.lt).trans h.bx, ?_, fun b hb => Nat.lt_of_lt_of_le (h.lt b hb) hk.1⟩
  by_cases hu : us = []
  · exact ⟨h.rs.len, h.rs.fit, h.rs.top, .inl hu⟩
  · exact h.rs.blocks hk.1 (fun b off e hl => hk.2 b (List.mem_cons_of_mem _ (blkV_some hu e)) hl)
theorem LooksV.all {B : Nat} {a : Option Addr} {n c : Nat} {us : List Rv} {w : World} (h : LooksV B a n c us w) : ∀ b ∈ lookV B a us, b < w.heap.size := by
  intro b hb
  rcases List.mem_cons.1 hb with rfl | hb
  · exact h.bx.lt
  · exact h.lt b hb
theorem LooksV.below {B : Nat} {a : Option Addr} {n c : Nat} {us : List Rv} {w w' : World} (h : LooksV B a n c us w) (hb : Below w.heap.size w w') : LooksV B a n c us w' := h.keep (KeepL.of_below hb h.all)
theorem RvsIn.lt {a : Option Addr} {n c : Nat} {us : List Rv} {w : World} (h : RvsIn a n c us w) : ∀ b ∈ blkV a us, b < w.heap.size := by
  intro b hb
  rcases h.at_ with e | ⟨b', off, rfl, hl, _⟩
  · subst e; cases a <;> cases hb
  · cases us with
    | nil => cases hb
    | cons u us =>
      obtain rfl : b = b' := by simpa [blkV] using hb
      exact hl
end Go.Proofs.YtkggmcnocpgnbaaDoor.K

/- A range over an iterator that itself ranges over another one: what a round keeps, said of the blocks by their kind; the loop's law for bodies that always go on. -/
namespace Go.Proofs.YtkggmcnocpgnbaaDoor.K
open Go.RowKit Go.Shelf

attribute [local go_sem] Oper.semAt_some

/-- what lies below m is kept, and beyond m each block of cells that holds no rows -/
def KpU (m : Nat) (W W' : World) : Prop := W.heap.size ≤ W'.heap.size ∧ (∀ i, i < m → i < W.heap.size → W'.heap[i]? = W.heap[i]?) ∧
  ∀ i cs T fr, W.heap[i]? = some (.cells cs T fr) → m < i → T ≠ 27 → W'.heap[i]? = W.heap[i]?
theorem KpU.refl (m : Nat) (W : World) : KpU m W W := ⟨Nat.le_refl _, fun _ _ _ => rfl, fun _ _ _ _ _ _ _ => rfl⟩
theorem KpU.trans {m : Nat} {A B C : World} (h : KpU m A B) (k : KpU m B C) : KpU m A C :=
  ⟨Nat.le_trans h.1 k.1, fun i hi hl => (k.2.1 i hi (Nat.lt_of_lt_of_le hl h.1)).trans (h.2.1 i hi hl), fun i cs T fr hc hi hT => by
    have h1 := h.2.2 i cs T fr hc hi hT
    exact (k.2.2 i cs T fr (h1.trans hc) hi hT).trans h1⟩
theorem KpU.putObj {m l : Nat} {W : World} {o : Obj} (o' : Obj) (hl : m ≤ l) (h : W.heap[l]? = some o) (ho : o.isCells = false) : KpU m W (W.putObj l o') :=
  ⟨by simp, fun i hi _ => World.putObj_heap_other (by omega), fun i cs T fr hc _ _ => World.putObj_heap_other (fun e => by rw [e, h] at hc; cases hc; cases ho)⟩
theorem KpU.of_below {m : Nat} {W W' : World} (h : Below W.heap.size W W') : KpU m W W' := ⟨h.size, fun i _ hl => h.block i hl, fun i cs T fr hc _ _ => h.block i (Array.getElem?_eq_some_iff.1 hc).1⟩
/-- and what is no cells, from B on -/
def KeepX (m B : Nat) (W W' : World) : Prop := KpU m W W' ∧ ∀ i o, B ≤ i → W.heap[i]? = some o → o.isCells = false → W'.heap[i]? = some o
theorem KeepX.trans {m B : Nat} {W1 W2 W3 : World} (h : KeepX m B W1 W2) (k : KeepX m B W2 W3) : KeepX m B W1 W3 := ⟨h.1.trans k.1, fun i o hi ho hc => k.2 i o hi (h.2 i o hi ho hc) hc⟩
theorem KeepX.of_below {m B : Nat} {W W' : World} (h : Below W.heap.size W W') : KeepX m B W W' := ⟨KpU.of_below h, fun i o _ ho _ => (h.block i (Array.getElem?_eq_some_iff.1 ho).1).trans ho⟩
theorem KeepX.mono {m B B' : Nat} {W W' : World} (h : KeepX m B W W') (hB : B ≤ B') : KeepX m B' W W' := ⟨h.1, fun i o hi => h.2 i o (Nat.le_trans hB hi)⟩
end Go.Proofs.YtkggmcnocpgnbaaDoor.K

/- Inside a fence: a region that draws its order, whose last operations wait for all others (wp_region_tailT's twin). -/
namespace Go.Proofs.YtkggmcnocpgnbaaDoor.R
open Go

section
variable {F : Fence} {nf : Nat} {P : Program} {ops : Array Oper} {Q : Exit → Act → World → Prop}

end
end Go.Proofs.YtkggmcnocpgnbaaDoor.R
