/- The contract of the statements' awake (layer 9). -/
import Derived.Test.YtkggmcnocpgnbaaDoorVDo
import Derived.Test.YtkggmcnocpgnbaaDoorVGly
import Derived.Test.YtkggmcnocpgnbaaDoorKFill
import Derived.Test.YtkggmcnocpgnbaaDoorRelU
import Derived.Test.YtkggmcnocpgnbaaDoorRelT
import Derived.Test.YtkggmcnocpgnbaaDoorMerged9
import Derived.Test.YtkggmcnocpgnbaaDoorMerged2
import Derived.Test.YtkggmcnocpgnbaaDoorMerged0
import Derived.Test.YtkggmcnocpgnbaaDoorMerged8
namespace Go.Proofs.YtkggmcnocpgnbaaDoor.K
open Go.RowKit

end Go.Proofs.YtkggmcnocpgnbaaDoor.K

/- The contract of the document's Whole. -/
namespace Go.Proofs.YtkggmcnocpgnbaaDoor.K
open Go.RowKit

def WholeOk (x s t x' s' t' j : Int) (rb : Nat) (a : Option Addr) (n c b o : Nat) (d : Bool) : Nat → Value → World → Prop
  | 0, u, _ => u = .agg #[.int .i64 x, .int .i64 s, .int .i64 t]
  | 1, u, _ => u = .pointer (some ⟨rb, 0, none⟩)
  | 2, u, _ => u = .slice a n c
  | 3, u, _ => u = .int .i64 j
  | 4, u, _ => u = .pointer (some ⟨b, o, none⟩)
  | 5, u, _ => u = .agg #[.int .i64 x', .int .i64 s', .int .i64 t']
  | 6, u, _ => u = .bool d
  | _, _, _ => True
theorem WholeOk.keeps {x s t x' s' t' j : Int} {rb : Nat} {a : Option Addr} {n c b o : Nat} {d : Bool} (i : Nat) (u : Value) (w w' : World) (h : WholeOk x s t x' s' t' j rb a n c b o d i u w) : WholeOk x s t x' s' t' j rb a n c b o d i u w' := by
  unfold WholeOk at h ⊢
  split <;> first | exact True.intro | exact h
end Go.Proofs.YtkggmcnocpgnbaaDoor.K

/- A region that draws its order, where the condition hangs on which operations came up already. -/
namespace Go.Proofs.YtkggmcnocpgnbaaDoor.R
open Go

def upd (L : Nat → Bool) (i : Nat) : Nat → Bool := fun k => if k = i then true else L k
theorem updL (listed : Array Bool) (i : Nat) (h : i < listed.size) : (fun k => (listed.setIfInBounds i true).getD k false) = upd (fun k => listed.getD k false) i := by
  funext k
  unfold upd
  rw [Array.getD_eq_getD_getElem?, Array.getElem?_setIfInBounds]
  by_cases hki : i = k
  · subst hki; rw [if_pos rfl, if_pos h, if_pos rfl]; rfl
  · rw [if_neg hki, if_neg (Ne.symm hki), ← Array.getD_eq_getD_getElem?]
theorem noneL (n : Nat) : (fun k => (Array.replicate n false).getD k false) = fun _ => false := by
  funext k
  rw [Array.getD_eq_getD_getElem?]
  by_cases h : k < n
  · simp [h]
  · simp [h]
theorem allL {n : Nat} {listed : Array Bool} (hsz : listed.size = n) (h : ∀ i, i < n → listed.getD i false = true) : (fun k => listed.getD k false) = fun k => decide (k < n) := by
  funext k
  by_cases hk : k < n
  · rw [h k hk]; simp [hk]
  · rw [Array.getD_eq_getD_getElem?, Array.getElem?_eq_none (by omega)]; simp [hk]

section
variable {P : Program} {ops : Array Oper} {Q : Exit → Act → World → Prop}
end
end Go.Proofs.YtkggmcnocpgnbaaDoor.R

/- RowPlays: behind any calls the rows are the document's, and whole: the walk. -/
namespace Go.Proofs.YtkggmcnocpgnbaaDoor.K
open Go.RowKit

theorem cels_ne {rk : IntKind} {a : Option Addr} {n : Nat} {l : List Cel} {w : World} (h : CelsIn rk a n l w) {t : TypeId} {p : Nat} {x : Option Addr} {y z : Nat} {bb : Bool} (hR : RoB t p (.slice x y z) bb w) : ∀ b off, a = some ⟨b, off, none⟩ → l ≠ [] → b ≠ p := fun b off ha hl e => by
  subst e
  rcases h.at_ with h0 | ⟨b', off', ha', _, hi⟩
  · exact hl h0
  · rw [ha] at ha'
    cases ha'
    match l, hl with
    | c :: l, _ =>
      have hc := (hi 0 c rfl).c0
      simp only [World.cell?, show w.heap[b]? = _ from hR] at hc
      match off, hc with
      | 0, hc => simp at hc
      | 1, hc => simp at hc
      | n + 2, hc => simp at hc
theorem RowV.setAt {rk : IntKind} {u : Value} {r : Ro} {w : World} (h : RowV rk u r w) {t : TypeId} {p o : Nat} {x : Option Addr} {y z : Nat} {bb : Bool} (hR : RoB t p (.slice x y z) bb w) (s : Value) : RowV rk u r (w.setCell ⟨p, o, none⟩ s) := by
  obtain ⟨a, c, e, hi, h3⟩ := h
  refine ⟨a, c, e, ?_, h3⟩
  rcases hi.at_ with h0 | ⟨b, off, ha, hb, hc⟩
  · exact ⟨rfl, .inl h0⟩
  · by_cases h0 : r.l = []
    · exact ⟨rfl, .inl h0⟩
    · have hne := cels_ne hi hR b off ha h0
      exact ⟨rfl, .inr ⟨b, off, ha, Nat.lt_of_lt_of_le hb (KeepsWalks.setCell w _ s).size, fun i d hd => (hc i d hd).block (Below.heap_setCell _ _ _ b (fun e => hne e))⟩⟩
theorem RoB.set1 {t : TypeId} {p : Nat} {v : Value} {b b' : Bool} {w : World} (h : RoB t p v b w) : RoB t p v b' (w.setCell ⟨p, 1, none⟩ (.bool b')) := by
  unfold RoB at h ⊢
  simp [World.setCell, Array.getElem?_modify, h]
/-- both rows, in their blocks -/
structure Both (rb b : Nat) (r : Ro) (w wr : World) : Prop where
  below : Below rb w wr
  base : rb ≤ b
  rows : ∃ x1 y1 x2 y2, RoB 27 b (.slice x1 r.l.length y1) r.wrapped wr ∧ RoB 38 (b + 1) (.slice x2 r.l.length y2) r.wrapped wr ∧ RowV .i32 (.agg #[.slice x1 r.l.length y1, .bool r.wrapped]) r wr ∧ RowV .i64 (.agg #[.slice x2 r.l.length y2, .bool r.wrapped]) r wr
theorem Both.more {rb b : Nat} {r : Ro} {w wr w' : World} (h : Both rb b r w wr) (hb : Below wr.heap.size wr w') (hs : rb ≤ wr.heap.size) : Both rb b r w w' := by
  obtain ⟨x1, y1, x2, y2, h1, h2, h3, h4⟩ := h.rows
  exact ⟨h.below.trans (hb.mono hs), h.base, x1, y1, x2, y2, h1.belowAll hb, h2.belowAll hb, h3.belowAll hb, h4.belowAll hb⟩
theorem RowV.shape {rk : IntKind} {u : Value} {r : Ro} {w : World} (h : RowV rk u r w) : ∃ x y, u = .agg #[.slice x r.l.length y, .bool r.wrapped] := by
  obtain ⟨a, c, e, _⟩ := h
  exact ⟨a, c, e⟩
theorem RowPost.row {rk : IntKind} {T : TypeId} {base : Nat} {l : List Cel} {b : Bool} {w : World} {e : Ending} {w' : World} (h : RowPost rk T base l b w e w') {r : Ro} (hl : r.l = l) (hw : r.wrapped = b) : ∃ x y, e = .returned (.agg #[.slice x r.l.length y, .bool r.wrapped]) ∧ RowV rk (.agg #[.slice x r.l.length y, .bool r.wrapped]) r w' ∧ Below base w w' := by
  obtain ⟨v, he, hO, hb⟩ := h
  obtain ⟨a, c, rfl, h1, h2, h3, h4, h5⟩ := hO.shape
  obtain ⟨l', b'⟩ := r
  simp only at hl hw
  subst hl hw
  exact ⟨a, c, he, ⟨a, c, rfl, h1, h3, h4, h5⟩, hb⟩
theorem RowV.of {rk : IntKind} {x : Option Addr} {m y : Nat} {g : Bool} {r : Ro} {w : World} (h : RowV rk (.agg #[.slice x m y, .bool g]) r w) : g = r.wrapped ∧ CelsIn rk x m r.l w ∧ (x = none → y = 0) ∧ m ≤ y ∧ (y : Int) ≤ 9223372036854775807 ∧ m = r.l.length := by
  obtain ⟨a, c, e, hi, h3, h4, h5⟩ := h
  have e1 : #[Value.slice x m y, Value.bool g] = #[Value.slice a r.l.length c, Value.bool r.wrapped] := by injection e
  simp only [Array.mk.injEq, List.cons.injEq, Value.slice.injEq, Value.bool.injEq, and_true] at e1
  obtain ⟨⟨rfl, rfl, rfl⟩, rfl⟩ := e1
  exact ⟨rfl, hi, h3, h4, h5, rfl⟩
/-- both are stored -/
theorem Both.stored {rb b : Nat} {r q : Ro} {w wr u : World} {x1 x2 : Option Addr} {y1 y2 : Nat} (h : Both rb b r w wr) (hb : Below wr.heap.size wr u) (hs : rb ≤ wr.heap.size) (h1 : RowV .i32 (.agg #[.slice x1 q.l.length y1, .bool q.wrapped]) q u) (h2 : RowV .i64 (.agg #[.slice x2 q.l.length y2, .bool q.wrapped]) q u) :
    Both rb b q w ((((u.setCell ⟨b, 0, none⟩ (.slice x1 q.l.length y1)).setCell ⟨b, 1, none⟩ (.bool q.wrapped)).setCell ⟨b + 1, 0, none⟩ (.slice x2 q.l.length y2)).setCell ⟨b + 1, 1, none⟩ (.bool q.wrapped)) := by
  have hU := h.more hb hs
  obtain ⟨a1, b1, a2, b2, g1, g2, -, -⟩ := hU.rows
  have p1 := g1.set0 (v' := .slice x1 q.l.length y1)
  have p2 := p1.set1 (b' := q.wrapped)
  have e1 := (g2.setOther (q := b) (o := 0) (x := .slice x1 q.l.length y1) (by omega)).setOther (q := b) (o := 1) (x := .bool q.wrapped) (by omega)
  have e2 := e1.set0 (v' := .slice x2 q.l.length y2)
  have e3 := e2.set1 (b' := q.wrapped)
  refine ⟨(((hU.below.setCell (p := ⟨b, 0, none⟩) h.base _).setCell (p := ⟨b, 1, none⟩) h.base _).setCell (p := ⟨b + 1, 0, none⟩) (by show rb ≤ b + 1; have := h.base; omega) _).setCell (p := ⟨b + 1, 1, none⟩) (by show rb ≤ b + 1; have := h.base; omega) _, h.base, x1, y1, x2, y2, ?_, e3, ?_, ?_⟩
  · exact (p2.setOther (by omega)).setOther (by omega)
  · exact (((h1.setAt g1 _).setAt p1 _).setAt e1 _).setAt e2 _
  · exact (((h2.setAt g1 _).setAt p1 _).setAt e1 _).setAt e2 _
/-- a pair of rows -/
def Two (u : Value) (q : Ro) (w : World) : Prop := ∃ v1 v2, u = .tuple #[v1, v2] ∧ RowV .i32 v1 q w ∧ RowV .i64 v2 q w
theorem Two.belowAll {u : Value} {q : Ro} {w w' : World} (h : Two u q w) (hb : Below w.heap.size w w') : Two u q w' := by
  obtain ⟨v1, v2, e, h1, h2⟩ := h
  exact ⟨v1, v2, e, h1.belowAll hb, h2.belowAll hb⟩
/-- rows stay what they are -/
def RowsK (w w' : World) : Prop := ∀ rk u r, RowV rk u r w → RowV rk u r w'
theorem RowsK.refl (w : World) : RowsK w w := fun _ _ _ h => h
theorem RowsK.below {w w' : World} (hb : Below w.heap.size w w') : RowsK w w' := fun _ _ _ h => h.belowAll hb
/-- half of the two is stored -/
structure Mid (rb b : Nat) (q : Ro) (w wr v : World) : Prop where
  below : Below rb w v
  base : rb ≤ b
  rows : ∃ x3 y3 x2 y2 m g, RoB 27 b (.slice x3 q.l.length y3) q.wrapped v ∧ RoB 38 (b + 1) (.slice x2 m y2) g v ∧ RowV .i32 (.agg #[.slice x3 q.l.length y3, .bool q.wrapped]) q v
/-- what came up, and what is so then -/
structure PlC (rb b : Nat) (r q : Ro) (w wr : World) (L : Nat → Bool) (v : World) : Prop where
  some : L 10 = true → ∀ k, k < 9 → L k = true
  none : L 10 = false → Below wr.heap.size wr v ∧ L 11 = false
  half : L 10 = true → L 11 = false → Mid rb b q w wr v
  both : L 11 = true → Both rb b q w v
theorem upd_ne {L : Nat → Bool} {i j : Nat} (h : j ≠ i) : R.upd L i j = L j := by unfold R.upd; rw [if_neg h]
theorem PlC.ten {rb b : Nat} {r q : Ro} {w wr : World} {L : Nat → Bool} {v : World} (h : PlC rb b r q w wr L v) {i : Nat} (hi : i < 9) (hL : L i = false) : L 10 = false := by
  cases h10 : L 10
  · rfl
  · rw [h.some h10 i hi] at hL; cases hL
theorem PlC.next {rb b : Nat} {r q : Ro} {w wr : World} {L : Nat → Bool} {v v' : World} (h : PlC rb b r q w wr L v) {i : Nat} (hi : i < 9) (hL : L i = false) (hb : Below v.heap.size v v') : PlC rb b r q w wr (R.upd L i) v' := by
  have h10 := h.ten hi hL
  obtain ⟨h1, h2⟩ := h.none h10
  have e10 : R.upd L i 10 = false := by rw [upd_ne (by omega)]; exact h10
  have e11 : R.upd L i 11 = false := by rw [upd_ne (by omega)]; exact h2
  refine ⟨fun e => ?_, fun _ => ⟨h1.trans (hb.mono h1.size), e11⟩, fun e => ?_, fun e => ?_⟩
  · rw [e10] at e; cases e
  · rw [e10] at e; cases e
  · rw [e11] at e; cases e
theorem PlC.nine {rb b : Nat} {r q : Ro} {w wr : World} {L : Nat → Bool} {v : World} (h : PlC rb b r q w wr L v) : PlC rb b r q w wr (R.upd L 9) v :=
  ⟨fun e k hk => by rw [upd_ne (by omega)]; exact h.some (by rw [upd_ne (by omega)] at e; exact e) k hk, fun e => by rw [upd_ne (by omega)] at e ⊢; exact h.none e, fun e e' => by rw [upd_ne (by omega)] at e e'; exact h.half e e', fun e => by rw [upd_ne (by omega)] at e; exact h.both e⟩
end Go.Proofs.YtkggmcnocpgnbaaDoor.K

/- The contract of grid.copied, against whatever iterator of rows keeps its word. -/
namespace Go.Proofs.YtkggmcnocpgnbaaDoor.K
open Go.RowKit Go.Shelf

attribute [local go_sem] Oper.semAt_some

/-- the row's cells lie in a block of cells, from base on -/
def TyC (base : Nat) (u : Rv) (w : World) : Prop := ∀ b off, u.a = some ⟨b, off, none⟩ → base ≤ b ∧ ∃ cs, w.heap[b]? = some (.cells cs 105 (0, 0))
theorem TyC.of {base : Nat} {x : Option Addr} {n y : Nat} {b : Bool} {l : List Cel} {w : World} (h : OwnC .i32 105 base (.slice x n y) l w) : TyC base ⟨x, n, y, b⟩ w := by
  intro g off e
  obtain ⟨a, c, h1, -, h2, -⟩ := h.shape
  injection h1 with h1
  obtain ⟨h3, -, h4⟩ := h2 g off (by rw [← h1]; exact e)
  obtain ⟨cs, h5, _⟩ := U.own_type h (g := g) (by rw [show x = some ⟨g, off, none⟩ from e]; rfl)
  exact ⟨h3, cs, h5⟩
theorem RowV.moved {rk : IntKind} {u : Rv} {r : Ro} {w w' : World} (h : RowV rk u.val r w) (hs : w.heap.size ≤ w'.heap.size) (hk : ∀ b off, u.a = some ⟨b, off, none⟩ → b < w.heap.size → w'.heap[b]? = w.heap[b]?) : RowV rk u.val r w' := by
  obtain ⟨a, c, e, hi, h3⟩ := h
  have := Rv.val_inj (v := ⟨a, r.l.length, c, r.wrapped⟩) e
  subst this
  exact ⟨a, c, rfl, hi.blocks hs hk, h3⟩
theorem RowsV.moved {rk : IntKind} {us : List Rv} {rs : List Ro} {w w' : World} (h : RowsV rk us rs w) (hs : w.heap.size ≤ w'.heap.size) (hk : ∀ u ∈ us, ∀ b off, u.a = some ⟨b, off, none⟩ → b < w.heap.size → w'.heap[b]? = w.heap[b]?) : RowsV rk us rs w' :=
  ⟨h.1, fun i u r hu hr => (h.2 i u r hu hr).moved hs (hk u (List.mem_of_getElem? hu))⟩
theorem TyC.moved {base : Nat} {u : Rv} {w w' : World} (h : TyC base u w) (hk : ∀ b off, u.a = some ⟨b, off, none⟩ → b < w.heap.size → w'.heap[b]? = w.heap[b]?) : TyC base u w' := fun b off e => by
  obtain ⟨h1, cs, h2⟩ := h b off e
  exact ⟨h1, cs, (hk b off e (Array.getElem?_eq_some_iff.1 h2).1).trans h2⟩
theorem OwnC.rowV {T : TypeId} {base : Nat} {x : Option Addr} {n y : Nat} {r : Ro} {w : World} (h : OwnC .i32 T base (.slice x n y) r.l w) : RowV .i32 (.agg #[.slice x n y, .bool r.wrapped]) r w := by
  obtain ⟨a, c, e, h2, -, h3, h4, h5⟩ := h.shape
  cases e
  exact ⟨x, y, rfl, h2, h3, h4, h5⟩
/-- what copied has come to -/
def CopI (base B : Nat) (rs : List Ro) (w : World) : Prop := ∃ v us, Boxed w B 66 v ∧ OwnV 27 base v us w ∧ RowsV .i32 us rs w ∧ ∀ u ∈ us, TyC base u w
theorem CopI.grown {base B : Nat} {rs : List Ro} {w w' : World} {row : Option Nat} (h : CopI base B rs w) (hg : w.grownBy w' row) (hr : ∀ r, row = some r → ∃ o : Obj, w.heap[r]? = some o ∧ o.isCells = false) : CopI base B rs w' := by
  obtain ⟨v, us, h1, h2, h3, h4⟩ := h
  have hne : ∀ u ∈ us, ∀ b off, u.a = some ⟨b, off, none⟩ → b < w.heap.size → w'.heap[b]? = w.heap[b]? := fun u hu b off e hl => hg.block b hl (fun e' => by
    obtain ⟨o, ho, hc⟩ := hr b e'.symm
    obtain ⟨_, cs, h5⟩ := h4 u hu b off e
    rw [h5] at ho
    cases ho
    cases hc)
  refine ⟨v, us, h1.kept hg (fun e' => ?_), h2.kept hg (fun q hq e' => ?_), h3.moved hg.size hne, fun u hu => (h4 u hu).moved (hne u hu)⟩
  · obtain ⟨o, ho, hc⟩ := hr B e'.symm
    rw [show w.heap[B]? = _ from h1] at ho; cases ho; cases hc
  · obtain ⟨o, ho, hc⟩ := hr q e'
    obtain ⟨cs, h5, _⟩ := U.own_type h2 hq
    rw [h5] at ho; cases ho; cases hc
theorem KeepX.grow {m B base : Nat} {v : Value} {us : List Rv} {w w' : World} (h : OwnV 27 base v us w) (hb : m ≤ base) (hg : w.grownBy w' v.ownBlock) : KeepX m B w w' := by
  refine ⟨⟨hg.size, fun i hi hl => hg.block i hl (fun e => by have := (h.ownBlock i e.symm).1; omega), fun i cs T fr hc _ hT => hg.block i (Array.getElem?_eq_some_iff.1 hc).1 (fun e => ?_)⟩, fun i o _ ho hc => (hg.block i (Array.getElem?_eq_some_iff.1 ho).1 (fun e => ?_)).trans ho⟩
  · obtain ⟨cs', h6, _⟩ := U.own_type h e.symm
    rw [hc] at h6
    injection h6 with h6
    injection h6 with h6 h7
    exact hT h7
  · obtain ⟨cs', h6, _⟩ := U.own_type h e.symm
    rw [ho] at h6
    cases h6
    cases hc
end Go.Proofs.YtkggmcnocpgnbaaDoor.K

/- The iterator of rows from the lowest one: slices.Backward, and grid.upwards over it. -/
namespace Go.Proofs.YtkggmcnocpgnbaaDoor.K
open Go.RowKit Go.Shelf

attribute [local go_sem] Oper.semAt_some

end Go.Proofs.YtkggmcnocpgnbaaDoor.K

/- Rows that go up and down within a region of a list. -/
namespace Go.Proofs.YtkggmcnocpgnbaaDoor.D
variable {α : Type}

/-- a list with a region -/
def inL (l : List α) (top bot : Nat) (f : List α → List α) : List α := l.take top ++ f ((l.take (bot + 1)).drop top) ++ l.drop (bot + 1)
end Go.Proofs.YtkggmcnocpgnbaaDoor.D

/- Rows of a screen, one above the other: what each call makes of them. -/
namespace Go.Proofs.YtkggmcnocpgnbaaDoor.K

/-- a grid -/
structure Gd where
  W : Nat
  rs : List Ro
/-- a grid as it may be -/
structure GdOk (x : Gd) : Prop where
  w1 : 1 ≤ x.W
  w2 : x.W ≤ 1000
  h1 : 1 ≤ x.rs.length
  h2 : x.rs.length ≤ 1000
  len : ∀ r ∈ x.rs, r.l.length = x.W
  rng : ∀ r ∈ x.rs, AllC Rng r.l
end Go.Proofs.YtkggmcnocpgnbaaDoor.K
