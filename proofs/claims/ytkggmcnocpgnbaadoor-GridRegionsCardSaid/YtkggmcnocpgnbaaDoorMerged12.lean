/- The contract of the statements' awake (layer 9). -/
import Derived.Test.YtkggmcnocpgnbaaDoorVDo
import Derived.Test.YtkggmcnocpgnbaaDoorVGly
import Derived.Test.YtkggmcnocpgnbaaDoorKFill
import Derived.Test.YtkggmcnocpgnbaaDoorMerged4
import Derived.Test.YtkggmcnocpgnbaaDoorMerged11
import Derived.Test.YtkggmcnocpgnbaaDoorMerged10
import Derived.Test.YtkggmcnocpgnbaaDoorMerged2
namespace Go.Proofs.YtkggmcnocpgnbaaDoor.K
open Go.RowKit

end Go.Proofs.YtkggmcnocpgnbaaDoor.K

/- The contract of the document's Whole. -/
namespace Go.Proofs.YtkggmcnocpgnbaaDoor.K
open Go.RowKit

def WholeOk (x s t x' s' t' j : Int) (rb : Nat) (a : Option Addr) (n c b o : Nat) (d : Bool) : Nat → Value → World → Prop
  | 0, u, _ => u = .agg #[.int .i64 x, .int .i64 s, .int .i64 t]
  | 1, u, _ => u = .pointer (some ⟨rb, 0, none⟩)
  | 2, u, _ => u = .slice a n c
  | 3, u, _ => u = .int .i64 j
  | 4, u, _ => u = .pointer (some ⟨b, o, none⟩)
  | 5, u, _ => u = .agg #[.int .i64 x', .int .i64 s', .int .i64 t']
  | 6, u, _ => u = .bool d
  | _, _, _ => True
theorem WholeOk.keeps {x s t x' s' t' j : Int} {rb : Nat} {a : Option Addr} {n c b o : Nat} {d : Bool} (i : Nat) (u : Value) (w w' : World) (h : WholeOk x s t x' s' t' j rb a n c b o d i u w) : WholeOk x s t x' s' t' j rb a n c b o d i u w' := by
  unfold WholeOk at h ⊢
  split <;> first | exact True.intro | exact h
end Go.Proofs.YtkggmcnocpgnbaaDoor.K

/- A region that draws its order, where the condition hangs on which operations came up already. -/
namespace Go.Proofs.YtkggmcnocpgnbaaDoor.R
open Go

def upd (L : Nat → Bool) (i : Nat) : Nat → Bool := fun k => if k = i then true else L k
theorem updL (listed : Array Bool) (i : Nat) (h : i < listed.size) : (fun k => (listed.setIfInBounds i true).getD k false) = upd (fun k => listed.getD k false) i := by
  funext k
  unfold upd
  rw [Array.getD_eq_getD_getElem?, Array.getElem?_setIfInBounds]
  by_cases hki : i = k
  · subst hki; rw [if_pos rfl, if_pos h, if_pos rfl]; rfl
  · rw [if_neg hki, if_neg (Ne.symm hki), ← Array.getD_eq_getD_getElem?]
theorem noneL (n : Nat) : (fun k => (Array.replicate n false).getD k false) = fun _ => false := by
  funext k
  rw [Array.getD_eq_getD_getElem?]
  by_cases h : k < n
  · simp [h]
  · simp [h]
theorem allL {n : Nat} {listed : Array Bool} (hsz : listed.size = n) (h : ∀ i, i < n → listed.getD i false = true) : (fun k => listed.getD k false) = fun k => decide (k < n) := by
  funext k
  by_cases hk : k < n
  · rw [h k hk]; simp [hk]
  · rw [Array.getD_eq_getD_getElem?, Array.getElem?_eq_none (by omega)]; simp [hk]

section
variable {P : Program} {ops : Array Oper} {Q : Exit → Act → World → Prop}
end
end Go.Proofs.YtkggmcnocpgnbaaDoor.R

/- RowPlays: behind any calls the rows are the document's, and whole: the walk. -/
namespace Go.Proofs.YtkggmcnocpgnbaaDoor.K
open Go.RowKit

theorem cels_ne {rk : IntKind} {a : Option Addr} {n : Nat} {l : List Cel} {w : World} (h : CelsIn rk a n l w) {t : TypeId} {p : Nat} {x : Option Addr} {y z : Nat} {bb : Bool} (hR : RoB t p (.slice x y z) bb w) : ∀ b off, a = some ⟨b, off, none⟩ → l ≠ [] → b ≠ p := fun b off ha hl e => by
  subst e
  rcases h.at_ with h0 | ⟨b', off', ha', _, hi⟩
  · exact hl h0
  · rw [ha] at ha'
    cases ha'
    match l, hl with
    | c :: l, _ =>
      have hc := (hi 0 c rfl).c0
      simp only [World.cell?, show w.heap[b]? = _ from hR] at hc
      match off, hc with
      | 0, hc => simp at hc
      | 1, hc => simp at hc
      | n + 2, hc => simp at hc
theorem RowV.setAt {rk : IntKind} {u : Value} {r : Ro} {w : World} (h : RowV rk u r w) {t : TypeId} {p o : Nat} {x : Option Addr} {y z : Nat} {bb : Bool} (hR : RoB t p (.slice x y z) bb w) (s : Value) : RowV rk u r (w.setCell ⟨p, o, none⟩ s) := by
  obtain ⟨a, c, e, hi, h3⟩ := h
  refine ⟨a, c, e, ?_, h3⟩
  rcases hi.at_ with h0 | ⟨b, off, ha, hb, hc⟩
  · exact ⟨rfl, .inl h0⟩
  · by_cases h0 : r.l = []
    · exact ⟨rfl, .inl h0⟩
    · have hne := cels_ne hi hR b off ha h0
      exact ⟨rfl, .inr ⟨b, off, ha, Nat.lt_of_lt_of_le hb (KeepsWalks.setCell w _ s).size, fun i d hd => (hc i d hd).block (Below.heap_setCell _ _ _ b (fun e => hne e))⟩⟩
theorem RoB.set1 {t : TypeId} {p : Nat} {v : Value} {b b' : Bool} {w : World} (h : RoB t p v b w) : RoB t p v b' (w.setCell ⟨p, 1, none⟩ (.bool b')) := by
  unfold RoB at h ⊢
  simp [World.setCell, Array.getElem?_modify, h]
/-- both rows, in their blocks -/
structure Both (rb b : Nat) (r : Ro) (w wr : World) : Prop where
  below : Below rb w wr
  base : rb ≤ b
  rows : ∃ x1 y1 x2 y2, RoB 27 b (.slice x1 r.l.length y1) r.wrapped wr ∧ RoB 38 (b + 1) (.slice x2 r.l.length y2) r.wrapped wr ∧ RowV .i32 (.agg #[.slice x1 r.l.length y1, .bool r.wrapped]) r wr ∧ RowV .i64 (.agg #[.slice x2 r.l.length y2, .bool r.wrapped]) r wr
theorem Both.more {rb b : Nat} {r : Ro} {w wr w' : World} (h : Both rb b r w wr) (hb : Below wr.heap.size wr w') (hs : rb ≤ wr.heap.size) : Both rb b r w w' := by
  obtain ⟨x1, y1, x2, y2, h1, h2, h3, h4⟩ := h.rows
  exact ⟨h.below.trans (hb.mono hs), h.base, x1, y1, x2, y2, h1.belowAll hb, h2.belowAll hb, h3.belowAll hb, h4.belowAll hb⟩
theorem RowV.shape {rk : IntKind} {u : Value} {r : Ro} {w : World} (h : RowV rk u r w) : ∃ x y, u = .agg #[.slice x r.l.length y, .bool r.wrapped] := by
  obtain ⟨a, c, e, _⟩ := h
  exact ⟨a, c, e⟩
theorem RowPost.row {rk : IntKind} {T : TypeId} {base : Nat} {l : List Cel} {b : Bool} {w : World} {e : Ending} {w' : World} (h : RowPost rk T base l b w e w') {r : Ro} (hl : r.l = l) (hw : r.wrapped = b) : ∃ x y, e = .returned (.agg #[.slice x r.l.length y, .bool r.wrapped]) ∧ RowV rk (.agg #[.slice x r.l.length y, .bool r.wrapped]) r w' ∧ Below base w w' := by
  obtain ⟨v, he, hO, hb⟩ := h
  obtain ⟨a, c, rfl, h1, h2, h3, h4, h5⟩ := hO.shape
  obtain ⟨l', b'⟩ := r
  simp only at hl hw
  subst hl hw
  exact ⟨a, c, he, ⟨a, c, rfl, h1, h3, h4, h5⟩, hb⟩
theorem RowV.of {rk : IntKind} {x : Option Addr} {m y : Nat} {g : Bool} {r : Ro} {w : World} (h : RowV rk (.agg #[.slice x m y, .bool g]) r w) : g = r.wrapped ∧ CelsIn rk x m r.l w ∧ (x = none → y = 0) ∧ m ≤ y ∧ (y : Int) ≤ 9223372036854775807 ∧ m = r.l.length := by
  obtain ⟨a, c, e, hi, h3, h4, h5⟩ := h
  have e1 : #[Value.slice x m y, Value.bool g] = #[Value.slice a r.l.length c, Value.bool r.wrapped] := by injection e
  simp only [Array.mk.injEq, List.cons.injEq, Value.slice.injEq, Value.bool.injEq, and_true] at e1
  obtain ⟨⟨rfl, rfl, rfl⟩, rfl⟩ := e1
  exact ⟨rfl, hi, h3, h4, h5, rfl⟩
theorem isRow_any {x1 x2 : Option Addr} {m1 y1 m2 y2 : Nat} {g1 g2 : Bool} {r1 r2 : Ro} {w : World} (h1 : RowV .i32 (.agg #[.slice x1 m1 y1, .bool g1]) r1 w) (h2 : RowV .i64 (.agg #[.slice x2 m2 y2, .bool g2]) r2 w) (hr : AllC Rng r1.l) (hn1 : r1.l.length ≤ 1000) (hn2 : r2.l.length ≤ 1000) :
    Calls Tryd.prog 41 #[.agg #[.slice x1 m1 y1, .bool g1], .agg #[.slice x2 m2 y2, .bool g2]] w fun e w' => e = .returned (.bool (decide (r1 = r2))) ∧ Below w.heap.size w w' := by
  obtain ⟨rfl, i1, -, -, -, e1⟩ := h1.of
  obtain ⟨rfl, i2, -, -, -, e2⟩ := h2.of
  exact is_any x1 x2 m1 m2 y1 y2 r1.wrapped r2.wrapped r1.l r2.l w i1 i2 hr (by omega) (by omega)
/-- both are stored -/
theorem Both.stored {rb b : Nat} {r q : Ro} {w wr u : World} {x1 x2 : Option Addr} {y1 y2 : Nat} (h : Both rb b r w wr) (hb : Below wr.heap.size wr u) (hs : rb ≤ wr.heap.size) (h1 : RowV .i32 (.agg #[.slice x1 q.l.length y1, .bool q.wrapped]) q u) (h2 : RowV .i64 (.agg #[.slice x2 q.l.length y2, .bool q.wrapped]) q u) :
    Both rb b q w ((((u.setCell ⟨b, 0, none⟩ (.slice x1 q.l.length y1)).setCell ⟨b, 1, none⟩ (.bool q.wrapped)).setCell ⟨b + 1, 0, none⟩ (.slice x2 q.l.length y2)).setCell ⟨b + 1, 1, none⟩ (.bool q.wrapped)) := by
  have hU := h.more hb hs
  obtain ⟨a1, b1, a2, b2, g1, g2, -, -⟩ := hU.rows
  have p1 := g1.set0 (v' := .slice x1 q.l.length y1)
  have p2 := p1.set1 (b' := q.wrapped)
  have e1 := (g2.setOther (q := b) (o := 0) (x := .slice x1 q.l.length y1) (by omega)).setOther (q := b) (o := 1) (x := .bool q.wrapped) (by omega)
  have e2 := e1.set0 (v' := .slice x2 q.l.length y2)
  have e3 := e2.set1 (b' := q.wrapped)
  refine ⟨(((hU.below.setCell (p := ⟨b, 0, none⟩) h.base _).setCell (p := ⟨b, 1, none⟩) h.base _).setCell (p := ⟨b + 1, 0, none⟩) (by show rb ≤ b + 1; have := h.base; omega) _).setCell (p := ⟨b + 1, 1, none⟩) (by show rb ≤ b + 1; have := h.base; omega) _, h.base, x1, y1, x2, y2, ?_, e3, ?_, ?_⟩
  · exact (p2.setOther (by omega)).setOther (by omega)
  · exact (((h1.setAt g1 _).setAt p1 _).setAt e1 _).setAt e2 _
  · exact (((h2.setAt g1 _).setAt p1 _).setAt e1 _).setAt e2 _
theorem Both.init {rb : Nat} {r : Ro} {w u : World} {x1 x2 : Option Addr} {y1 y2 : Nat} (hb : Below rb w u) (hs : rb ≤ u.heap.size) (h1 : RowV .i32 (.agg #[.slice x1 r.l.length y1, .bool r.wrapped]) r u) (h2 : RowV .i64 (.agg #[.slice x2 r.l.length y2, .bool r.wrapped]) r u) :
    Both rb u.heap.size r w ((u.alloc (.cells #[.slice x1 r.l.length y1, .bool r.wrapped] 27)).alloc (.cells #[.slice x2 r.l.length y2, .bool r.wrapped] 38)) := by
  have k1 : Below u.heap.size u (u.alloc (.cells #[.slice x1 r.l.length y1, .bool r.wrapped] 27)) := (Below.refl _ _).alloc (Nat.le_refl _) _
  have k2 : Below (u.heap.size + 1) (u.alloc (.cells #[.slice x1 r.l.length y1, .bool r.wrapped] 27)) ((u.alloc (.cells #[.slice x1 r.l.length y1, .bool r.wrapped] 27)).alloc (.cells #[.slice x2 r.l.length y2, .bool r.wrapped] 38)) := (Below.refl _ _).alloc (by simp) _
  have g1 := RoB.new 27 u (.slice x1 r.l.length y1) r.wrapped
  have g2 := RoB.new 38 (u.alloc (.cells #[.slice x1 r.l.length y1, .bool r.wrapped] 27)) (.slice x2 r.l.length y2) r.wrapped
  rw [World.size_alloc] at g2
  have k2' := k2
  exact ⟨(hb.trans (k1.mono hs)).trans (k2.mono (by omega)), hs, x1, y1, x2, y2, g1.below k2 (Nat.lt_succ_self _), g2, (h1.belowAll k1).belowAll (by rw [World.size_alloc]; exact k2), (h2.belowAll k1).belowAll (by rw [World.size_alloc]; exact k2)⟩
/-- a pair of rows -/
def Two (u : Value) (q : Ro) (w : World) : Prop := ∃ v1 v2, u = .tuple #[v1, v2] ∧ RowV .i32 v1 q w ∧ RowV .i64 v2 q w
theorem Two.belowAll {u : Value} {q : Ro} {w w' : World} (h : Two u q w) (hb : Below w.heap.size w w') : Two u q w' := by
  obtain ⟨v1, v2, e, h1, h2⟩ := h
  exact ⟨v1, v2, e, h1.belowAll hb, h2.belowAll hb⟩
/-- rows stay what they are -/
def RowsK (w w' : World) : Prop := ∀ rk u r, RowV rk u r w → RowV rk u r w'
theorem RowsK.refl (w : World) : RowsK w w := fun _ _ _ h => h
theorem RowsK.below {w w' : World} (hb : Below w.heap.size w w') : RowsK w w' := fun _ _ _ h => h.belowAll hb
/-- half of the two is stored -/
structure Mid (rb b : Nat) (q : Ro) (w wr v : World) : Prop where
  below : Below rb w v
  base : rb ≤ b
  rows : ∃ x3 y3 x2 y2 m g, RoB 27 b (.slice x3 q.l.length y3) q.wrapped v ∧ RoB 38 (b + 1) (.slice x2 m y2) g v ∧ RowV .i32 (.agg #[.slice x3 q.l.length y3, .bool q.wrapped]) q v
/-- what came up, and what is so then -/
structure PlC (rb b : Nat) (r q : Ro) (w wr : World) (L : Nat → Bool) (v : World) : Prop where
  some : L 10 = true → ∀ k, k < 9 → L k = true
  none : L 10 = false → Below wr.heap.size wr v ∧ L 11 = false
  half : L 10 = true → L 11 = false → Mid rb b q w wr v
  both : L 11 = true → Both rb b q w v
theorem upd_ne {L : Nat → Bool} {i j : Nat} (h : j ≠ i) : R.upd L i j = L j := by unfold R.upd; rw [if_neg h]
theorem PlC.ten {rb b : Nat} {r q : Ro} {w wr : World} {L : Nat → Bool} {v : World} (h : PlC rb b r q w wr L v) {i : Nat} (hi : i < 9) (hL : L i = false) : L 10 = false := by
  cases h10 : L 10
  · rfl
  · rw [h.some h10 i hi] at hL; cases hL
theorem PlC.next {rb b : Nat} {r q : Ro} {w wr : World} {L : Nat → Bool} {v v' : World} (h : PlC rb b r q w wr L v) {i : Nat} (hi : i < 9) (hL : L i = false) (hb : Below v.heap.size v v') : PlC rb b r q w wr (R.upd L i) v' := by
  have h10 := h.ten hi hL
  obtain ⟨h1, h2⟩ := h.none h10
  have e10 : R.upd L i 10 = false := by rw [upd_ne (by omega)]; exact h10
  have e11 : R.upd L i 11 = false := by rw [upd_ne (by omega)]; exact h2
  refine ⟨fun e => ?_, fun _ => ⟨h1.trans (hb.mono h1.size), e11⟩, fun e => ?_, fun e => ?_⟩
  · rw [e10] at e; cases e
  · rw [e10] at e; cases e
  · rw [e11] at e; cases e
theorem PlC.nine {rb b : Nat} {r q : Ro} {w wr : World} {L : Nat → Bool} {v : World} (h : PlC rb b r q w wr L v) : PlC rb b r q w wr (R.upd L 9) v :=
  ⟨fun e k hk => by rw [upd_ne (by omega)]; exact h.some (by rw [upd_ne (by omega)] at e; exact e) k hk, fun e => by rw [upd_ne (by omega)] at e ⊢; exact h.none e, fun e e' => by rw [upd_ne (by omega)] at e e'; exact h.half e e', fun e => by rw [upd_ne (by omega)] at e; exact h.both e⟩
end Go.Proofs.YtkggmcnocpgnbaaDoor.K

/- The contract of grid.copied, against whatever iterator of rows keeps its word. -/
namespace Go.Proofs.YtkggmcnocpgnbaaDoor.K
open Go.RowKit Go.Shelf

attribute [local go_sem] Oper.semAt_some

/-- the row's cells lie in a block of cells, from base on -/
def TyC (base : Nat) (u : Rv) (w : World) : Prop := ∀ b off, u.a = some ⟨b, off, none⟩ → base ≤ b ∧ ∃ cs, w.heap[b]? = some (.cells cs 105 (0, 0))
theorem TyC.of {base : Nat} {x : Option Addr} {n y : Nat} {b : Bool} {l : List Cel} {w : World} (h : OwnC .i32 105 base (.slice x n y) l w) : TyC base ⟨x, n, y, b⟩ w := by
  intro g off e
  obtain ⟨a, c, h1, -, h2, -⟩ := h.shape
  injection h1 with h1
  obtain ⟨h3, -, h4⟩ := h2 g off (by rw [← h1]; exact e)
  obtain ⟨cs, h5, _⟩ := U.own_type h (g := g) (by rw [show x = some ⟨g, off, none⟩ from e]; rfl)
  exact ⟨h3, cs, h5⟩
theorem RowV.moved {rk : IntKind} {u : Rv} {r : Ro} {w w' : World} (h : RowV rk u.val r w) (hs : w.heap.size ≤ w'.heap.size) (hk : ∀ b off, u.a = some ⟨b, off, none⟩ → b < w.heap.size → w'.heap[b]? = w.heap[b]?) : RowV rk u.val r w' := by
  obtain ⟨a, c, e, hi, h3⟩ := h
  have := Rv.val_inj (v := ⟨a, r.l.length, c, r.wrapped⟩) e
  subst this
  exact ⟨a, c, rfl, hi.blocks hs hk, h3⟩
theorem RowsV.moved {rk : IntKind} {us : List Rv} {rs : List Ro} {w w' : World} (h : RowsV rk us rs w) (hs : w.heap.size ≤ w'.heap.size) (hk : ∀ u ∈ us, ∀ b off, u.a = some ⟨b, off, none⟩ → b < w.heap.size → w'.heap[b]? = w.heap[b]?) : RowsV rk us rs w' :=
  ⟨h.1, fun i u r hu hr => (h.2 i u r hu hr).moved hs (hk u (List.mem_of_getElem? hu))⟩
theorem TyC.moved {base : Nat} {u : Rv} {w w' : World} (h : TyC base u w) (hk : ∀ b off, u.a = some ⟨b, off, none⟩ → b < w.heap.size → w'.heap[b]? = w.heap[b]?) : TyC base u w' := fun b off e => by
  obtain ⟨h1, cs, h2⟩ := h b off e
  exact ⟨h1, cs, (hk b off e (Array.getElem?_eq_some_iff.1 h2).1).trans h2⟩
theorem OwnC.rowV {T : TypeId} {base : Nat} {x : Option Addr} {n y : Nat} {r : Ro} {w : World} (h : OwnC .i32 T base (.slice x n y) r.l w) : RowV .i32 (.agg #[.slice x n y, .bool r.wrapped]) r w := by
  obtain ⟨a, c, e, h2, -, h3, h4, h5⟩ := h.shape
  cases e
  exact ⟨x, y, rfl, h2, h3, h4, h5⟩
/-- what copied has come to -/
def CopI (base B : Nat) (rs : List Ro) (w : World) : Prop := ∃ v us, Boxed w B 66 v ∧ OwnV 27 base v us w ∧ RowsV .i32 us rs w ∧ ∀ u ∈ us, TyC base u w
theorem CopI.grown {base B : Nat} {rs : List Ro} {w w' : World} {row : Option Nat} (h : CopI base B rs w) (hg : w.grownBy w' row) (hr : ∀ r, row = some r → ∃ o : Obj, w.heap[r]? = some o ∧ o.isCells = false) : CopI base B rs w' := by
  obtain ⟨v, us, h1, h2, h3, h4⟩ := h
  have hne : ∀ u ∈ us, ∀ b off, u.a = some ⟨b, off, none⟩ → b < w.heap.size → w'.heap[b]? = w.heap[b]? := fun u hu b off e hl => hg.block b hl (fun e' => by
    obtain ⟨o, ho, hc⟩ := hr b e'.symm
    obtain ⟨_, cs, h5⟩ := h4 u hu b off e
    rw [h5] at ho
    cases ho
    cases hc)
  refine ⟨v, us, h1.kept hg (fun e' => ?_), h2.kept hg (fun q hq e' => ?_), h3.moved hg.size hne, fun u hu => (h4 u hu).moved (hne u hu)⟩
  · obtain ⟨o, ho, hc⟩ := hr B e'.symm
    rw [show w.heap[B]? = _ from h1] at ho; cases ho; cases hc
  · obtain ⟨o, ho, hc⟩ := hr q e'
    obtain ⟨cs, h5, _⟩ := U.own_type h2 hq
    rw [h5] at ho; cases ho; cases hc
theorem KeepX.grow {m B base : Nat} {v : Value} {us : List Rv} {w w' : World} (h : OwnV 27 base v us w) (hb : m ≤ base) (hg : w.grownBy w' v.ownBlock) : KeepX m B w w' := by
  refine ⟨⟨hg.size, fun i hi hl => hg.block i hl (fun e => by have := (h.ownBlock i e.symm).1; omega), fun i cs T fr hc _ hT => hg.block i (Array.getElem?_eq_some_iff.1 hc).1 (fun e => ?_)⟩, fun i o _ ho hc => (hg.block i (Array.getElem?_eq_some_iff.1 ho).1 (fun e => ?_)).trans ho⟩
  · obtain ⟨cs', h6, _⟩ := U.own_type h e.symm
    rw [hc] at h6
    injection h6 with h6
    injection h6 with h6 h7
    exact hT h7
  · obtain ⟨cs', h6, _⟩ := U.own_type h e.symm
    rw [ho] at h6
    cases h6
    cases hc
theorem KeepX.setBox {m B : Nat} {w : World} {x : Value} (h : Boxed w m 66 x) (y : Value) : KeepX m B w (w.setCell ⟨m, 0, none⟩ y) := by
  have hk : ∀ i, i ≠ m → (w.setCell ⟨m, 0, none⟩ y).heap[i]? = w.heap[i]? := fun i hi => Below.heap_setCell _ _ _ i (fun e => hi e)
  refine ⟨⟨(KeepsWalks.setCell w _ y).size, fun i hi _ => hk i (by omega), fun i _ _ _ _ hi _ => hk i (by omega)⟩, fun i o _ ho hc => (hk i (fun e => ?_)).trans ho⟩
  rw [e, show w.heap[m]? = _ from h] at ho
  cases ho
  cases hc
theorem info_row : (Tryd.prog.info? 27).map (fun i => (i.zero, i.size, i.bytes)) = some (some (.agg #[.slice none 0 0, .bool false]), 2, 32) := by kernel_rfl
theorem row_cellsV {T : TypeId} {size base n : Nat} {v : Value} {xs : List Value} {w : World} (h : w.ownsRow base T size v n xs) {q : Nat} {o : Obj} (hq : v.ownBlock = some q) (ho : w.heap[q]? = some o) : o.isCells = true := by
  obtain ⟨cs, hc, _⟩ := U.own_type h hq
  rw [hc] at ho; cases ho; rfl
def CopOk (vv : Value) (B Bx cb : Nat) (ua : Option Addr) (un uc : Nat) (ub : Bool) (l : List Cel) : Nat → Value → World → Prop
  | 0, u, _ => u = vv
  | 1, u, _ => u = .pointer (some ⟨Bx, 0, none⟩)
  | 2, u, _ => u = .slice ua un uc
  | 3, u, w => ∃ x y, u = .slice x un y ∧ OwnC .i32 105 cb (.slice x un y) l w
  | 4, u, _ => u = .pointer (some ⟨Bx, 1, none⟩)
  | 5, u, _ => u = .bool ub
  | 6, u, w => ∃ x y, u = .agg #[.slice x un y, .bool ub] ∧ OwnC .i32 105 cb (.slice x un y) l w
  | 7, u, w => ∃ p x y, u = .slice (some ⟨p, 0, none⟩) 1 1 ∧ RoB 27 p (.slice x un y) ub w ∧ OwnC .i32 105 cb (.slice x un y) l w
  | _, _, _ => True
set_option maxRecDepth 100000 in
set_option maxHeartbeats 4000000 in
theorem copied_in (w0 : World) (n : Nat) (hn : 4 ≤ n) (gf : Nat) (lb : Array Value) (eg : ∀ args w, (callFunc gf args).run Tryd.prog w = .ok (.enter gf args) w) (its : List (It w0)) (hN : its.length ≤ 1000) (w : World) (hw0 : Below w0.heap.size w0 w)
    (hseq : SeqOwn (n - 1) gf lb (fun x : It w0 => #[x.u.val]) its w.heap.size (w.alloc (.cells #[.slice none 0 0] 66))) :
    CallsIn Fence.wide n Tryd.prog 72 #[.func (.func gf) #[] lb] w fun e w' => ∃ v us, e = .returned v ∧ OwnV 27 w.heap.size v us w' ∧ RowsV .i32 us (its.map It.r) w' ∧ (∀ u ∈ us, TyC w.heap.size u w') ∧ Below w.heap.size w w' := by
  have h1 : 1 ≤ n := by omega
  obtain ⟨i0, hi, hz0, hz1, hz2⟩ := info_parts info_row
  refine callsIn_of_wp_marks Tryd.func72 rfl trivial ?_ rfl
  simp only [Tryd.ntmps72, List.size_toArray, List.length_cons, List.length_nil, Nat.reduceAdd, Nat.reduceSub, Array.replicate_succ, Array.replicate_zero, List.push_toArray, List.append_toArray, List.nil_append, List.cons_append]
  gi_wp2
  have bO := Boxed.new w 66 (.slice none 0 0)
  have hB0 : Below w.heap.size w (w.alloc (.cells #[.slice none 0 0] 66)) := (Below.refl _ w).alloc (Nat.le_refl _) _
  refine own_range h1 (gf := gf) (lb := lb) rfl eg hseq (Below.refl _ _) (by simp) (fun _ => rfl)
    (fun pre W => CopI w.heap.size w.heap.size (pre.map It.r) W ∧ Below w.heap.size w W)
    (OwnFrom.and (fun pre X Y row hs hg hr => hs.grown hg (fun r e => (hr r e).2)) (ownFrom_below (Nat.le_refl _) (by simp)))
    ⟨⟨_, [], bO, OwnV.nil _ _ _, RowsV.nil _ _, fun u hu => by cases hu⟩, hB0⟩
    (fun x a' W => ∃ Bx, w.heap.size < Bx ∧ RoB 27 Bx (.slice x.u.a x.u.n x.u.c) x.u.b W ∧ a' = { tmps := #[.func (.func gf) #[] lb, undef, .slice none 0 0, .pointer (some ⟨w.heap.size, 0, none⟩), .pointer (some ⟨Bx, 0, none⟩), .func (.func gf) #[] lb, x.u.val, undef, undef, undef, undef, undef, undef, undef, undef, undef, undef], defers := [] })
    (fun x a' s X Y row hs hg hr => by
      obtain ⟨Bx, hb1, hb2, hb3⟩ := hs
      refine ⟨Bx, hb1, hb2.grown hg (fun e => ?_), hb3⟩
      obtain ⟨_, o, ho, hc⟩ := hr Bx e
      rw [show X.heap[Bx]? = _ from hb2] at ho
      cases ho
      cases hc)
    ?assign ?body ?done
  case assign =>
    rintro l pre x W K ⟨hI, hB⟩ hK
    obtain ⟨⟨⟨⟨ua, un, uc, ub⟩, r⟩, hx⟩, hxx⟩ : ∃ y : It w0, y = x := ⟨x, rfl⟩
    subst hxx
    simp only [It.u, Rv.val] at hK ⊢
    have hlt := hI.choose_spec.choose_spec.1.lt
    gi_wp2
    refine hK _ _ (KeepX.of_below ((Below.refl _ W).alloc (Nat.le_refl _) _)) ⟨hI.grown (World.grownBy_alloc W _ none) (fun r e => by cases e), hB.alloc hB.size _⟩ ⟨W.heap.size, hlt, RoB.new _ _ _ _, ?_⟩
    first | rfl | simp
  case body =>
    rintro l pre x a' W ⟨⟨vv, us, hv, hrow, hR, hTy⟩, hB⟩ ⟨Bx, hBx, hX, rfl⟩ hlt
    have hxr := x.2
    obtain ⟨ua, un, uc, ub, hu⟩ : ∃ ua un uc ub, x.u = ⟨ua, un, uc, ub⟩ := ⟨_, _, _, _, rfl⟩
    obtain ⟨r, hr⟩ : ∃ r, x.r = r := ⟨_, rfl⟩
    have hu' : x.1.1 = ⟨ua, un, uc, ub⟩ := hu
    have hr' : x.1.2 = r := hr
    rw [hu', hr'] at hxr
    obtain ⟨hxv, hxl⟩ := hxr
    unfold Rv.val at hxv
    simp only at hxv
    obtain ⟨hub, hce, hnil, -, -, hlen⟩ := hxv.of
    rw [hu] at hX ⊢
    unfold Rv.val
    simp only at hX ⊢
    obtain ⟨L, hL⟩ : ∃ L, r.l = L := ⟨_, rfl⟩
    have hw : Below w0.heap.size w0 W := hw0.trans (hB.mono hw0.size)
    have HCe : Hid (CelsIn .i32 ua un L W) := Lib.hid (by rw [← hL]; exact hce.belowAll hw)
    have HLen : Hid (L.length = un) := Lib.hid (by rw [← hL]; exact hlen.symm)
    have HUn : Hid (un ≤ 1000) := Lib.hid (by rw [hlen]; exact hxl)
    have HNil := Lib.hid hnil
    have HUb := Lib.hid hub
    have HLr := Lib.hid hL
    have HXr := Lib.hid hr
    have HV := Lib.hid hv
    have HVc := Lib.hid hv.cell
    have HRow := Lib.hid hrow
    have HRV := Lib.hid hR
    have HTy := Lib.hid hTy
    have HX := Lib.hid hX
    have HBl : Hid (w.heap.size < W.heap.size) := Lib.hid hv.lt
    have HBxl : Hid (Bx < W.heap.size) := Lib.hid hX.lt
    have HB := Lib.hid hB
    have HCb : Hid (w.heap.size ≤ W.heap.size) := Lib.hid hB.size
    have HUs : Hid (us.length ≤ 1000) := Lib.hid (by rw [hR.1, List.length_map]; omega)
    obtain ⟨B, hBe⟩ : ∃ B, w.heap.size = B := ⟨_, rfl⟩
    obtain ⟨cb, hcb⟩ : ∃ cb, w.heap.size = cb := ⟨_, rfl⟩
    have HBe := Lib.hid hBe
    clear hv hrow hR hTy hX hB hub hce hnil hlen hxv hxl hu hr hu' hr' hL hw hBe hcb
    gi_wp2
    refine Go.Proofs.YtkggmcnocpgnbaaDoor.R.wpIn_region_tailT 8 (by kernel_rfl) (fun u => Below W.heap.size W u) (fun u v => Below u.heap.size u v) (CopOk vv w.heap.size Bx w.heap.size ua un uc ub L) (by rfl) (by kernel_rfl) (by decide) (by kernel_rfl) (by kernel_rfl) (by kernel_rfl) ?hC ?hOk ?hop ?hdone ((Below.refl _ _).drew)
    case hC => exact fun u v h1 h2 => h1.trans (h2.mono h1.size)
    case hOk =>
      intro i u w1 w2 h hr
      unfold CopOk at h ⊢
      split <;> first | exact True.intro | exact h | (obtain ⟨x, y, e, h1⟩ := h; exact ⟨x, y, e, h1.belowAll hr⟩) | (obtain ⟨p, x, y, e, h0, h1⟩ := h; exact ⟨p, x, y, e, h0.belowAll hr, h1.belowAll hr⟩)
    case hop =>
      refine ⟨?_, ?_, ?_, ?_, ?_, ?_, ?_, ?_, trivial⟩
      · intro z v hz hag hdep
        refine .inl ⟨rfl, fun K hK => ?_⟩
        have d3 : z.tmps.getD 3 undef = .pointer (some ⟨w.heap.size, 0, none⟩) := hag.2.2 3 (by kernel_rfl)
        have e3 := d3
        rw [Array.getD_eq_getD_getElem?] at e3
        have l0 := (hz.cell (p := ⟨w.heap.size, 0, none⟩) HBl.out).trans HVc.out
        clear hz
        clear hdep hag 
        go_simp
        exact hK _ _ (Below.refl _ _) rfl
      · intro z v hz hag hdep
        refine .inl ⟨rfl, fun K hK => ?_⟩
        have d4 : z.tmps.getD 4 undef = .pointer (some ⟨Bx, 0, none⟩) := hag.2.2 4 (by kernel_rfl)
        have e4 := d4
        rw [Array.getD_eq_getD_getElem?] at e4
        clear hdep hag 
        go_simp
        exact hK _ _ (Below.refl _ _) rfl
      · intro z v hz hag hdep
        refine .inl ⟨rfl, fun K hK => ?_⟩
        have d8 : z.tmps.getD 8 undef = .pointer (some ⟨Bx, 0, none⟩) := hdep { on := 1, ground := .data } (by simp) rfl _ _ rfl rfl
        have e8 := d8
        rw [Array.getD_eq_getD_getElem?] at e8
        have l0 := (hz.cell (p := ⟨Bx, 0, none⟩) HBxl.out).trans HX.out.c0
        clear hz
        clear hdep hag 
        go_simp
        exact hK _ _ (Below.refl _ _) rfl
      · intro z v hz hag hdep
        refine .inl ⟨rfl, fun K hK => ?_⟩
        have d9 : z.tmps.getD 9 undef = .slice ua un uc := hdep { on := 2, ground := .data } (by simp) rfl _ _ rfl rfl
        have e9 := d9
        rw [Array.getD_eq_getD_getElem?] at e9
        have HC := Lib.hid (clone_any ua un uc L v (HCe.out.belowAll hz) HNil.out (by have := HUn.out; omega))
        have HZs := Lib.hid hz.size
        clear hdep hag hz
        go_simp
        refine ⟨by first | trivial | omega, fun _ => by omega, ?_⟩
        refine (CallsIn.inRound l (callsIn_wide.2 HC.out)).mono ?_
        rintro e w' ⟨v', rfl, h1, h2⟩
        obtain ⟨x3, y3, rfl, -⟩ := h1.shape
        have hl : L.length = un := HLen.out
        rw [hl] at h1 ⊢
        exact hK _ _ h2 ⟨x3, y3, rfl, h1.weaken (Nat.le_trans HCb.out HZs.out)⟩
      · intro z v hz hag hdep
        refine .inl ⟨rfl, fun K hK => ?_⟩
        have d4 : z.tmps.getD 4 undef = .pointer (some ⟨Bx, 0, none⟩) := hag.2.2 4 (by kernel_rfl)
        have e4 := d4
        rw [Array.getD_eq_getD_getElem?] at e4
        clear hdep hag 
        go_simp
        exact hK _ _ (Below.refl _ _) rfl
      · intro z v hz hag hdep
        refine .inl ⟨rfl, fun K hK => ?_⟩
        have d11 : z.tmps.getD 11 undef = .pointer (some ⟨Bx, 1, none⟩) := hdep { on := 4, ground := .data } (by simp) rfl _ _ rfl rfl
        have e11 := d11
        rw [Array.getD_eq_getD_getElem?] at e11
        have l0 := (hz.cell (p := ⟨Bx, 1, none⟩) HBxl.out).trans HX.out.c1
        clear hz
        clear hdep hag 
        go_simp
        exact hK _ _ (Below.refl _ _) rfl
      · intro z v hz hag hdep
        refine .inl ⟨rfl, fun K hK => ?_⟩
        have d10' : CopOk vv w.heap.size Bx w.heap.size ua un uc ub L 3 (z.tmps.getD 10 undef) v := hdep { on := 3, ground := .data } (by simp) rfl _ _ rfl rfl
        simp only [CopOk] at d10'
        obtain ⟨x3, y3, d10, hO3⟩ := d10'
        have e10 := d10
        rw [Array.getD_eq_getD_getElem?] at e10
        have d12 : z.tmps.getD 12 undef = .bool ub := hdep { on := 5, ground := .data } (by simp) rfl _ _ rfl rfl
        have e12 := d12
        rw [Array.getD_eq_getD_getElem?] at e12
        clear hdep hag hz
        go_simp
        exact hK _ _ (Below.refl _ _) ⟨x3, y3, rfl, hO3⟩
      · intro z v hz hag hdep
        refine .inl ⟨rfl, fun K hK => ?_⟩
        have d13' : CopOk vv w.heap.size Bx w.heap.size ua un uc ub L 6 (z.tmps.getD 13 undef) v := hdep { on := 6, ground := .data } (by simp) rfl _ _ rfl rfl
        simp only [CopOk] at d13'
        obtain ⟨x3, y3, d13, hO3⟩ := d13'
        have e13 := d13
        rw [Array.getD_eq_getD_getElem?] at e13
        have HO3 := Lib.hid hO3
        clear hdep hag hz hO3
        go_simp
        exact hK _ _ ((Below.refl _ _).alloc (Nat.le_refl _) _) ⟨v.heap.size, x3, y3, rfl, RoB.new _ _ _ _, HO3.out.alloc _⟩
    case hdone =>
      intro z v hz hag hok hno
      clear hno
      have d7 : z.tmps.getD 7 undef = vv := hok 0 _ 7 (by decide) rfl rfl
      obtain ⟨p, x3, y3, d14, hRo, hO3⟩ : ∃ p x y, z.tmps.getD 14 undef = .slice (some ⟨p, 0, none⟩) 1 1 ∧ RoB 27 p (.slice x un y) ub v ∧ OwnC .i32 105 w.heap.size (.slice x un y) L v := hok 7 _ 14 (by decide) rfl rfl
      obtain ⟨uu, hu, hzz⟩ := Go.Proofs.YtkggmcnocpgnbaaDoor.R.agree_frame [7, 8, 9, 10, 11, 12, 13, 14, 15] rfl hag
      have e7 := (hu 7).trans d7
      have e14 := (hu 14).trans d14
      subst hzz
      have hVz := HV.out.kept (grownBy_of_below hz) (by simp)
      have hc := hVz.cell
      have hf := hVz.frozen
      have HO := Lib.hid (HRow.out.belowAll hz)
      have HRz := Lib.hid (HRV.out.belowAll hz)
      have HTz : Hid (∀ u ∈ us, TyC w.heap.size u v) := Lib.hid (fun u hu => (HTy.out u hu).moved (fun b off _ hl => hz.block b hl))
      have HVz := Lib.hid hVz
      have HBz := Lib.hid hz
      have HRo := Lib.hid hRo
      have HO3 := Lib.hid hO3
      have HSz : Hid (w.heap.size ≤ v.heap.size) := Lib.hid (Nat.le_trans HCb.out hz.size)
      clear d7 d14 hu hag hok hz hVz hRo hO3
      simp only [List.foldl_cons, List.foldl_nil]
      rw [e7, e14]
      clear e7 e14
      dsimp only [List.drop]
      simp only [List.setIfInBounds_toArray, List.set_cons_succ, List.set_cons_zero]
      generalize uu 8 = u8', uu 9 = u9', uu 10 = u10', uu 11 = u11', uu 12 = u12', uu 13 = u13', uu 15 = u15'
      clear uu
      gi_wp2_with (gi_at_builtin; refine wpListIn_append_own _ rfl _ _ 66 rfl w.heap.size 27 i0 _ 2 32 rowsT.slice hi hz0 hz1 hz2 rfl (by decide) vv us.length (flatV us) rfl HO.out ⟨p, 0, none⟩ 1 1 (vCells ⟨x3, un, y3, ub⟩) rfl rfl ?c1 ?c2 ?c3 ?c4 ?c5 ?_)
      case c1 =>
        intro j q hj
        have hadd : ((⟨p, 0, none⟩ : Addr).add j) = ⟨p, 0 + j, none⟩ := by unfold Addr.add; split <;> simp_all
        rw [hadd, Nat.zero_add]
        match j, hj with
        | 0, hj => rw [show q = .slice x3 un y3 by simpa [vCells] using hj.symm]; exact HRo.out.c0
        | 1, hj => rw [show q = .bool ub by simpa [vCells] using hj.symm]; exact HRo.out.c1
        | k + 2, hj => simp [vCells] at hj
      case c2 => intro u hu; exact flatV_one [⟨x3, un, y3, ub⟩] u (by simpa [flatV] using hu)
      case c3 => have := HUs.out; unfold maxLen; omega
      case c4 => have := HUs.out; omega
      case c5 => exact HSz.out
      intro v' w1 hown' hgrow _
      obtain ⟨g', cap', rfl⟩ := ownsRow_succ hown'
      have hneB : some w.heap.size ≠ vv.ownBlock := HVz.out.not_row (by decide) HO.out
      have b1 : Boxed w1 w.heap.size 66 vv := HVz.out.kept hgrow hneB
      have hc1 := b1.cell
      have hf1 := b1.frozen
      have hneU : ∀ u, TyC w.heap.size u v → ∀ b off, u.a = some ⟨b, off, none⟩ → b < v.heap.size → w1.heap[b]? = v.heap[b]? := fun u hu b off e hl => hgrow.block b hl (fun e' => by
        obtain ⟨_, cs, h5⟩ := hu b off e
        obtain ⟨cs', h6, _⟩ := U.own_type HO.out e'.symm
        rw [h5] at h6
        injection h6 with h6
        injection h6 with h6 h7
        exact absurd h7 (by decide))
      have hTn : TyC w.heap.size ⟨x3, un, y3, ub⟩ v := TyC.of HO3.out
      have hrn : RowV .i32 (Rv.val ⟨x3, un, y3, ub⟩) r v := by
        have h := HO3.out
        rw [← HLr.out] at h
        have h' := h.rowV
        rw [← HUb.out] at h'
        exact h'
      have hR1 : RowsV .i32 (us ++ [⟨x3, un, y3, ub⟩]) (pre.map It.r ++ [r]) w1 := (HRz.out.snoc hrn).moved hgrow.size (fun u hu => by
        rcases List.mem_append.1 hu with hu | hu
        · exact hneU u (HTz.out u hu)
        · rw [List.mem_singleton.1 hu]; exact hneU _ hTn)
      have hT1 : ∀ u ∈ us ++ [⟨x3, un, y3, ub⟩], TyC w.heap.size u w1 := fun u hu => by
        rcases List.mem_append.1 hu with hu | hu
        · exact (HTz.out u hu).moved (hneU u (HTz.out u hu))
        · rw [List.mem_singleton.1 hu]; exact hTn.moved (hneU _ hTn)
      have hBl : Below w.heap.size v w1 := (Below.refl _ _).grown hgrow HSz.out (fun q hq => (HO.out.ownBlock q hq).1)
      have hKX : KeepX w.heap.size (w.heap.size + 1) W w1 := (KeepX.of_below HBz.out).trans (KeepX.grow HO.out (Nat.le_refl _) hgrow)
      have HOn := Lib.hid hown'
      have HB1 := Lib.hid b1
      have HR1 := Lib.hid hR1
      have HT1 := Lib.hid hT1
      have HBl1 : Hid (Below w.heap.size W w1) := Lib.hid ((HBz.out.mono HCb.out).trans hBl)
      have HKX := Lib.hid hKX
      have HXr := HXr
      clear hown' hgrow hneB b1 hneU hTn hrn hR1 hT1 hBl hKX
      gi_wp2
      have hset : ∀ b, b ≠ w.heap.size → (w1.setCell ⟨w.heap.size, 0, none⟩ (.slice (some ⟨g', 0, none⟩) (us.length + 1) cap')).heap[b]? = w1.heap[b]? := fun b hb => Below.heap_setCell _ _ _ b (fun e => hb e)
      have hBB := HB1.out
      have hneS : ∀ u, TyC w.heap.size u w1 → ∀ b off, u.a = some ⟨b, off, none⟩ → b < w1.heap.size → (w1.setCell ⟨w.heap.size, 0, none⟩ (.slice (some ⟨g', 0, none⟩) (us.length + 1) cap')).heap[b]? = w1.heap[b]? := fun u hu b off e hl => hset b (fun e' => by
        obtain ⟨_, cs, h5⟩ := hu b off e
        rw [e', show w1.heap[w.heap.size]? = _ from hBB] at h5
        injection h5 with h5
        injection h5 with h5 h6
        exact absurd h6 (by decide))
      refine ⟨HKX.out.trans (KeepX.setBox HB1.out _), ⟨⟨_, us ++ [⟨x3, un, y3, ub⟩], HB1.out.set _, ?_, ?_, fun u hu => (HT1.out u hu).moved (hneS u (HT1.out u hu))⟩, (HB.out.trans HBl1.out).setCell (p := ⟨w.heap.size, 0, none⟩) (Nat.le_refl _) _⟩⟩
      · have h := HOn.out.kept (grownBy_setCell' w1 w.heap.size (.slice (some ⟨g', 0, none⟩) (us.length + 1) cap')) (.inr (HB1.out.not_row (by decide) HOn.out).symm)
        unfold OwnV
        rw [List.length_append, flatV_append]
        simpa [flatV] using h
      · try rw [List.map_append]
        show RowsV .i32 _ (pre.map It.r ++ [x.r]) _
        rw [HXr.out]
        exact HR1.out.moved (KeepsWalks.setCell w1 _ _).size (fun u hu => hneS u (HT1.out u hu))
  case done =>
    rintro D W hD ⟨⟨vv, us, hv, hrow, hR, hTy⟩, hB⟩ hK
    have hc := hv.cell
    have HRow := Lib.hid hrow
    have HRV := Lib.hid hR
    have HTy := Lib.hid hTy
    have HB := Lib.hid hB
    have HK := Lib.hid hK
    have HD := Lib.hid hD
    have hgp := grownBy_putObj' W D (.deferred none)
    clear hv hrow hR hTy hB hK hD
    gi_wp2
    refine ⟨by simp, .inl ⟨_, _, rfl, run_takeDeferred HK.out, ?_⟩⟩
    refine ⟨_, results_tmp rfl _ _ _, vv, us, rfl, ownsRow_putObj HRow.out _ HK.out rfl, ?_, ?_, HB.out.trans (belowK_b (w := w) (Nat.le_refl _) W D _ _ (by have := HD.out; simp at this; omega) HK.out rfl rfl)⟩
    · exact HRV.out.moved (by simp) (fun u hu b off e hl => World.putObj_heap_other (fun e' => by
        obtain ⟨_, cs, h5⟩ := HTy.out u hu b off e
        rw [e', HK.out] at h5
        cases h5))
    · exact fun u hu => (HTy.out u hu).moved (fun b off e hl => World.putObj_heap_other (fun e' => by
        obtain ⟨_, cs, h5⟩ := HTy.out u hu b off e
        rw [e', HK.out] at h5
        cases h5))
end Go.Proofs.YtkggmcnocpgnbaaDoor.K
