/- RowPlays: behind any calls the rows are the document's, and whole: the walk. -/
import Derived.Test.YtmdnnpcofbhceaaDoorMerged12
import Derived.Test.YtmdnnpcofbhceaaDoorMerged13
namespace Go.Proofs.YtmdnnpcofbhceaaDoor.K
open Go.RowKit

theorem cels_ne {rk : IntKind} {a : Option Addr} {n : Nat} {l : List Cel} {w : World} (h : CelsIn rk a n l w) {t : TypeId} {p : Nat} {x : Option Addr} {y z : Nat} {bb : Bool} (hR : RoB t p (.slice x y z) bb w) : ∀ b off, a = some ⟨b, off, none⟩ → l ≠ [] → b ≠ p := fun b off ha hl e => by
  subst e
  rcases h.at_ with h0 | ⟨b', off', ha', _, hi⟩
  · exact hl h0
  · rw [ha] at ha'
    cases ha'
    match l, hl with
    | c :: l, _ =>
      have hc := (hi 0 c rfl).c0
      simp only [World.cell?, show w.heap[b]? = _ from hR] at hc
      match off, hc with
      | 0, hc => simp at hc
      | 1, hc => simp at hc
      | n + 2, hc => simp at hc
theorem RowV.setAt {rk : IntKind} {u : Value} {r : Ro} {w : World} (h : RowV rk u r w) {t : TypeId} {p o : Nat} {x : Option Addr} {y z : Nat} {bb : Bool} (hR : RoB t p (.slice x y z) bb w) (s : Value) : RowV rk u r (w.setCell ⟨p, o, none⟩ s) := by
  obtain ⟨a, c, e, hi, h3⟩ := h
  refine ⟨a, c, e, ?_, h3⟩
  rcases hi.at_ with h0 | ⟨b, off, ha, hb, hc⟩
  · exact ⟨rfl, .inl h0⟩
  · by_cases h0 : r.l = []
    · exact ⟨rfl, .inl h0⟩
    · have hne := cels_ne hi hR b off ha h0
      exact ⟨rfl, .inr ⟨b, off, ha, Nat.lt_of_lt_of_le hb (KeepsWalks.setCell w _ s).size, fun i d hd => (hc i d hd).block (Below.heap_setCell _ _ _ b (fun e => hne e))⟩⟩
theorem RoB.set1 {t : TypeId} {p : Nat} {v : Value} {b b' : Bool} {w : World} (h : RoB t p v b w) : RoB t p v b' (w.setCell ⟨p, 1, none⟩ (.bool b')) := by
  unfold RoB at h ⊢
  simp [World.setCell, Array.getElem?_modify, h]
/-- both rows, in their blocks -/
structure Both (rb b : Nat) (r : Ro) (w wr : World) : Prop where
  below : Below rb w wr
  base : rb ≤ b
  rows : ∃ x1 y1 x2 y2, RoB 26 b (.slice x1 r.l.length y1) r.wrapped wr ∧ RoB 30 (b + 1) (.slice x2 r.l.length y2) r.wrapped wr ∧ RowV .i32 (.agg #[.slice x1 r.l.length y1, .bool r.wrapped]) r wr ∧ RowV .i64 (.agg #[.slice x2 r.l.length y2, .bool r.wrapped]) r wr
theorem Both.more {rb b : Nat} {r : Ro} {w wr w' : World} (h : Both rb b r w wr) (hb : Below wr.heap.size wr w') (hs : rb ≤ wr.heap.size) : Both rb b r w w' := by
  obtain ⟨x1, y1, x2, y2, h1, h2, h3, h4⟩ := h.rows
  exact ⟨h.below.trans (hb.mono hs), h.base, x1, y1, x2, y2, h1.belowAll hb, h2.belowAll hb, h3.belowAll hb, h4.belowAll hb⟩
theorem RowV.shape {rk : IntKind} {u : Value} {r : Ro} {w : World} (h : RowV rk u r w) : ∃ x y, u = .agg #[.slice x r.l.length y, .bool r.wrapped] := by
  obtain ⟨a, c, e, _⟩ := h
  exact ⟨a, c, e⟩
theorem RowPost.row {rk : IntKind} {T : TypeId} {base : Nat} {l : List Cel} {b : Bool} {w : World} {e : Ending} {w' : World} (h : RowPost rk T base l b w e w') {r : Ro} (hl : r.l = l) (hw : r.wrapped = b) : ∃ x y, e = .returned (.agg #[.slice x r.l.length y, .bool r.wrapped]) ∧ RowV rk (.agg #[.slice x r.l.length y, .bool r.wrapped]) r w' ∧ Below base w w' := by
  obtain ⟨v, he, hO, hb⟩ := h
  obtain ⟨a, c, rfl, h1, h2, h3, h4, h5⟩ := hO.shape
  obtain ⟨l', b'⟩ := r
  simp only at hl hw
  subst hl hw
  exact ⟨a, c, he, ⟨a, c, rfl, h1, h3, h4, h5⟩, hb⟩
theorem RowV.of {rk : IntKind} {x : Option Addr} {m y : Nat} {g : Bool} {r : Ro} {w : World} (h : RowV rk (.agg #[.slice x m y, .bool g]) r w) : g = r.wrapped ∧ CelsIn rk x m r.l w ∧ (x = none → y = 0) ∧ m ≤ y ∧ (y : Int) ≤ 9223372036854775807 ∧ m = r.l.length := by
  obtain ⟨a, c, e, hi, h3, h4, h5⟩ := h
  have e1 : #[Value.slice x m y, Value.bool g] = #[Value.slice a r.l.length c, Value.bool r.wrapped] := by injection e
  simp only [Array.mk.injEq, List.cons.injEq, Value.slice.injEq, Value.bool.injEq, and_true] at e1
  obtain ⟨⟨rfl, rfl, rfl⟩, rfl⟩ := e1
  exact ⟨rfl, hi, h3, h4, h5, rfl⟩
theorem isRow_any {x1 x2 : Option Addr} {m1 y1 m2 y2 : Nat} {g1 g2 : Bool} {r1 r2 : Ro} {w : World} (h1 : RowV .i32 (.agg #[.slice x1 m1 y1, .bool g1]) r1 w) (h2 : RowV .i64 (.agg #[.slice x2 m2 y2, .bool g2]) r2 w) (hr : AllC Rng r1.l) (hn1 : r1.l.length ≤ 1000) (hn2 : r2.l.length ≤ 1000) :
    Calls Tryd.prog 17 #[.agg #[.slice x1 m1 y1, .bool g1], .agg #[.slice x2 m2 y2, .bool g2]] w fun e w' => e = .returned (.bool (decide (r1 = r2))) ∧ Below w.heap.size w w' := by
  obtain ⟨rfl, i1, -, -, -, e1⟩ := h1.of
  obtain ⟨rfl, i2, -, -, -, e2⟩ := h2.of
  exact is_any x1 x2 m1 m2 y1 y2 r1.wrapped r2.wrapped r1.l r2.l w i1 i2 hr (by omega) (by omega)
theorem wholeRow_any {x2 : Option Addr} {m2 y2 : Nat} {g2 : Bool} {r2 : Ro} {w : World} (h2 : RowV .i64 (.agg #[.slice x2 m2 y2, .bool g2]) r2 w) (hn2 : r2.l.length ≤ 1000) (hw : Whole r2.l) :
    Calls Tryd.prog 18 #[.agg #[.slice x2 m2 y2, .bool g2]] w fun e w' => e = .returned (.bool true) ∧ Below w.heap.size w w' := by
  obtain ⟨rfl, i2, -, -, h5, e2⟩ := h2.of
  have h := refWhole_any x2 m2 y2 r2.wrapped r2.l w i2 (by omega) h5
  have hw' : mend r2.l = r2.l := hw
  rw [decide_eq_true hw'] at h
  exact h
/-- both are stored -/
theorem Both.stored {rb b : Nat} {r q : Ro} {w wr u : World} {x1 x2 : Option Addr} {y1 y2 : Nat} (h : Both rb b r w wr) (hb : Below wr.heap.size wr u) (hs : rb ≤ wr.heap.size) (h1 : RowV .i32 (.agg #[.slice x1 q.l.length y1, .bool q.wrapped]) q u) (h2 : RowV .i64 (.agg #[.slice x2 q.l.length y2, .bool q.wrapped]) q u) :
    Both rb b q w ((((u.setCell ⟨b, 0, none⟩ (.slice x1 q.l.length y1)).setCell ⟨b, 1, none⟩ (.bool q.wrapped)).setCell ⟨b + 1, 0, none⟩ (.slice x2 q.l.length y2)).setCell ⟨b + 1, 1, none⟩ (.bool q.wrapped)) := by
  have hU := h.more hb hs
  obtain ⟨a1, b1, a2, b2, g1, g2, -, -⟩ := hU.rows
  have p1 := g1.set0 (v' := .slice x1 q.l.length y1)
  have p2 := p1.set1 (b' := q.wrapped)
  have e1 := (g2.setOther (q := b) (o := 0) (x := .slice x1 q.l.length y1) (by omega)).setOther (q := b) (o := 1) (x := .bool q.wrapped) (by omega)
  have e2 := e1.set0 (v' := .slice x2 q.l.length y2)
  have e3 := e2.set1 (b' := q.wrapped)
  refine ⟨(((hU.below.setCell (p := ⟨b, 0, none⟩) h.base _).setCell (p := ⟨b, 1, none⟩) h.base _).setCell (p := ⟨b + 1, 0, none⟩) (by show rb ≤ b + 1; have := h.base; omega) _).setCell (p := ⟨b + 1, 1, none⟩) (by show rb ≤ b + 1; have := h.base; omega) _, h.base, x1, y1, x2, y2, ?_, e3, ?_, ?_⟩
  · exact (p2.setOther (by omega)).setOther (by omega)
  · exact (((h1.setAt g1 _).setAt p1 _).setAt e1 _).setAt e2 _
  · exact (((h2.setAt g1 _).setAt p1 _).setAt e1 _).setAt e2 _
theorem Both.init {rb : Nat} {r : Ro} {w u : World} {x1 x2 : Option Addr} {y1 y2 : Nat} (hb : Below rb w u) (hs : rb ≤ u.heap.size) (h1 : RowV .i32 (.agg #[.slice x1 r.l.length y1, .bool r.wrapped]) r u) (h2 : RowV .i64 (.agg #[.slice x2 r.l.length y2, .bool r.wrapped]) r u) :
    Both rb u.heap.size r w ((u.alloc (.cells #[.slice x1 r.l.length y1, .bool r.wrapped] 26)).alloc (.cells #[.slice x2 r.l.length y2, .bool r.wrapped] 30)) := by
  have k1 : Below u.heap.size u (u.alloc (.cells #[.slice x1 r.l.length y1, .bool r.wrapped] 26)) := (Below.refl _ _).alloc (Nat.le_refl _) _
  have k2 : Below (u.heap.size + 1) (u.alloc (.cells #[.slice x1 r.l.length y1, .bool r.wrapped] 26)) ((u.alloc (.cells #[.slice x1 r.l.length y1, .bool r.wrapped] 26)).alloc (.cells #[.slice x2 r.l.length y2, .bool r.wrapped] 30)) := (Below.refl _ _).alloc (by simp) _
  have g1 := RoB.new 26 u (.slice x1 r.l.length y1) r.wrapped
  have g2 := RoB.new 30 (u.alloc (.cells #[.slice x1 r.l.length y1, .bool r.wrapped] 26)) (.slice x2 r.l.length y2) r.wrapped
  rw [World.size_alloc] at g2
  have k2' := k2
  exact ⟨(hb.trans (k1.mono hs)).trans (k2.mono (by omega)), hs, x1, y1, x2, y2, g1.below k2 (Nat.lt_succ_self _), g2, (h1.belowAll k1).belowAll (by rw [World.size_alloc]; exact k2), (h2.belowAll k1).belowAll (by rw [World.size_alloc]; exact k2)⟩
/-- a pair of rows -/
def Two (u : Value) (q : Ro) (w : World) : Prop := ∃ v1 v2, u = .tuple #[v1, v2] ∧ RowV .i32 v1 q w ∧ RowV .i64 v2 q w
theorem Two.belowAll {u : Value} {q : Ro} {w w' : World} (h : Two u q w) (hb : Below w.heap.size w w') : Two u q w' := by
  obtain ⟨v1, v2, e, h1, h2⟩ := h
  exact ⟨v1, v2, e, h1.belowAll hb, h2.belowAll hb⟩
/-- rows stay what they are -/
def RowsK (w w' : World) : Prop := ∀ rk u r, RowV rk u r w → RowV rk u r w'
theorem RowsK.refl (w : World) : RowsK w w := fun _ _ _ h => h
theorem RowsK.below {w w' : World} (hb : Below w.heap.size w w') : RowsK w w' := fun _ _ _ h => h.belowAll hb
/-- half of the two is stored -/
structure Mid (rb b : Nat) (q : Ro) (w wr v : World) : Prop where
  below : Below rb w v
  base : rb ≤ b
  rows : ∃ x3 y3 x2 y2 m g, RoB 26 b (.slice x3 q.l.length y3) q.wrapped v ∧ RoB 30 (b + 1) (.slice x2 m y2) g v ∧ RowV .i32 (.agg #[.slice x3 q.l.length y3, .bool q.wrapped]) q v
/-- what came up, and what is so then -/
structure PlC (rb b : Nat) (r q : Ro) (w wr : World) (L : Nat → Bool) (v : World) : Prop where
  some : L 10 = true → ∀ k, k < 9 → L k = true
  none : L 10 = false → Below wr.heap.size wr v ∧ L 11 = false
  half : L 10 = true → L 11 = false → Mid rb b q w wr v
  both : L 11 = true → Both rb b q w v
theorem upd_ne {L : Nat → Bool} {i j : Nat} (h : j ≠ i) : R.upd L i j = L j := by unfold R.upd; rw [if_neg h]
theorem upd_eq {L : Nat → Bool} {i : Nat} : R.upd L i i = true := by unfold R.upd; rw [if_pos rfl]
theorem PlC.ten {rb b : Nat} {r q : Ro} {w wr : World} {L : Nat → Bool} {v : World} (h : PlC rb b r q w wr L v) {i : Nat} (hi : i < 9) (hL : L i = false) : L 10 = false := by
  cases h10 : L 10
  · rfl
  · rw [h.some h10 i hi] at hL; cases hL
theorem PlC.early {rb b : Nat} {r q : Ro} {w wr : World} {L : Nat → Bool} {v : World} (h : PlC rb b r q w wr L v) {i : Nat} (hi : i < 9) (hL : L i = false) : Below wr.heap.size wr v := (h.none (h.ten hi hL)).1
theorem PlC.next {rb b : Nat} {r q : Ro} {w wr : World} {L : Nat → Bool} {v v' : World} (h : PlC rb b r q w wr L v) {i : Nat} (hi : i < 9) (hL : L i = false) (hb : Below v.heap.size v v') : PlC rb b r q w wr (R.upd L i) v' := by
  have h10 := h.ten hi hL
  obtain ⟨h1, h2⟩ := h.none h10
  have e10 : R.upd L i 10 = false := by rw [upd_ne (by omega)]; exact h10
  have e11 : R.upd L i 11 = false := by rw [upd_ne (by omega)]; exact h2
  refine ⟨fun e => ?_, fun _ => ⟨h1.trans (hb.mono h1.size), e11⟩, fun e => ?_, fun e => ?_⟩
  · rw [e10] at e; cases e
  · rw [e10] at e; cases e
  · rw [e11] at e; cases e
theorem PlC.nine {rb b : Nat} {r q : Ro} {w wr : World} {L : Nat → Bool} {v : World} (h : PlC rb b r q w wr L v) : PlC rb b r q w wr (R.upd L 9) v :=
  ⟨fun e k hk => by rw [upd_ne (by omega)]; exact h.some (by rw [upd_ne (by omega)] at e; exact e) k hk, fun e => by rw [upd_ne (by omega)] at e ⊢; exact h.none e, fun e e' => by rw [upd_ne (by omega)] at e e'; exact h.half e e', fun e => by rw [upd_ne (by omega)] at e; exact h.both e⟩
theorem PlC.store1 {rb b : Nat} {r q : Ro} {w wr : World} {L : Nat → Bool} {v : World} {x3 : Option Addr} {y3 : Nat} (h : PlC rb b r q w wr L v) (hL : L 10 = false) (hall : ∀ k, k < 9 → L k = true) (hB : Both rb b r w wr) (hs : rb ≤ wr.heap.size) (hv : RowV .i32 (.agg #[.slice x3 q.l.length y3, .bool q.wrapped]) q v) :
    RowsK v ((v.setCell ⟨b, 0, .none⟩ (.slice x3 q.l.length y3)).setCell ⟨b, 1, .none⟩ (.bool q.wrapped)) ∧ PlC rb b r q w wr (R.upd L 10) ((v.setCell ⟨b, 0, .none⟩ (.slice x3 q.l.length y3)).setCell ⟨b, 1, .none⟩ (.bool q.wrapped)) := by
  obtain ⟨h1, h2⟩ := h.none hL
  have hU := hB.more h1 hs
  obtain ⟨a1, b1, a2, b2, g1, g2, -, -⟩ := hU.rows
  have p1 := g1.set0 (v' := .slice x3 q.l.length y3)
  have e11 : R.upd L 10 11 = false := by rw [upd_ne (by omega)]; exact h2
  refine ⟨fun rk u r0 h0 => (h0.setAt g1 _).setAt p1 _, fun _ k hk => by rw [upd_ne (by omega)]; exact hall k hk, fun e => ?_, fun _ _ => ?_, fun e => ?_⟩
  · rw [upd_eq] at e; cases e
  · exact ⟨(hU.below.setCell (p := ⟨b, 0, .none⟩) hB.base _).setCell (p := ⟨b, 1, .none⟩) hB.base _, hB.base, x3, y3, a2, b2, _, _, p1.set1 (b' := q.wrapped), (g2.setOther (by omega)).setOther (by omega), (hv.setAt g1 _).setAt p1 _⟩
  · rw [e11] at e; cases e
theorem PlC.store2 {rb b : Nat} {r q : Ro} {w wr : World} {L : Nat → Bool} {v : World} {x4 : Option Addr} {y4 : Nat} (h : PlC rb b r q w wr L v) (hL : L 11 = false) (h10 : L 10 = true) (hv : RowV .i64 (.agg #[.slice x4 q.l.length y4, .bool q.wrapped]) q v) :
    RowsK v ((v.setCell ⟨b + 1, 0, .none⟩ (.slice x4 q.l.length y4)).setCell ⟨b + 1, 1, .none⟩ (.bool q.wrapped)) ∧ PlC rb b r q w wr (R.upd L 11) ((v.setCell ⟨b + 1, 0, .none⟩ (.slice x4 q.l.length y4)).setCell ⟨b + 1, 1, .none⟩ (.bool q.wrapped)) := by
  have hM := h.half h10 hL
  obtain ⟨x3, y3, x2, y2, m, g, k1, k2, k3⟩ := hM.rows
  have p1 := k2.set0 (v' := .slice x4 q.l.length y4)
  have e10 : R.upd L 11 10 = true := by rw [upd_ne (by omega)]; exact h10
  refine ⟨fun rk u r0 h0 => (h0.setAt k2 _).setAt p1 _, fun _ k hk => by rw [upd_ne (by omega)]; exact h.some h10 k hk, fun e => ?_, fun _ e => ?_, fun _ => ?_⟩
  · rw [e10] at e; cases e
  · rw [upd_eq] at e; cases e
  · exact ⟨(hM.below.setCell (p := ⟨b + 1, 0, .none⟩) (by show rb ≤ b + 1; have := hM.base; omega) _).setCell (p := ⟨b + 1, 1, .none⟩) (by show rb ≤ b + 1; have := hM.base; omega) _, hM.base, x3, y3, x4, y4, (k1.setOther (by omega)).setOther (by omega), p1.set1 (b' := q.wrapped), (k3.setAt k2 _).setAt p1 _, (hv.setAt k2 _).setAt p1 _⟩
def PlOk (b ab ao n c j : Nat) (x1 x2 : Option Addr) (m1 y1 y2 : Nat) (g : Bool) (KD AT N S X : Int) (q : Ro) : Nat → Value → World → Prop
  | 0, u, _ => u = .agg #[.slice x1 m1 y1, .bool g]
  | 1, u, _ => u = .agg #[.slice x2 m1 y2, .bool g]
  | 2, u, _ => u = .slice (some ⟨ab, ao, none⟩) n c
  | 3, u, _ => u = .int .i64 (j : Int)
  | 4, u, _ => u = .pointer (some ⟨ab, ao + j * 5, none⟩)
  | 5, u, _ => u = .agg #[.int .i64 KD, .int .i64 AT, .int .i64 N, .int .i64 S, .int .i32 X]
  | 6, u, w => Two u q w
  | 7, u, w => Two u q w
  | 8, u, w => ∃ t, u = t ∧ RowV .i32 t q w
  | 9, u, w => ∃ t, u = t ∧ RowV .i64 t q w
  | 10, _, _ => True
  | 11, _, _ => True
  | _, _, _ => True
/-- the rows behind the first j acts -/
def playS (r : Ro) (l : List ActR) (j : Nat) : Ro := (l.take j).foldl (doS W.ofS) r
theorem play_succ {r : Ro} {l : List ActR} {j : Nat} (h : j < l.length) : playS r l (j + 1) = doS W.ofS (playS r l j) l[j] := by
  unfold playS
  rw [List.take_succ_eq_append_getElem h, List.foldl_append]
  rfl
theorem play_ok {r : Ro} {l : List ActR} (h1 : r.l.length ≤ 1000) (h2 : AllC Rng r.l) (h3 : Whole r.l) (hl : ∀ A ∈ l, RngA A) (j : Nat) : (playS r l j).l.length ≤ 1000 ∧ AllC Rng (playS r l j).l ∧ Whole (playS r l j).l := by
  unfold playS
  have hl' : ∀ A ∈ l.take j, RngA A := fun A hA => hl A (List.mem_of_mem_take hA)
  generalize l.take j = m at hl'
  induction m generalizing r with
  | nil => exact ⟨h1, h2, h3⟩
  | cons A m ih => exact ih (do_len h1) (do_rng h2 (hl' A (by simp))) (whole_do h3) (fun B hB => hl' B (by simp [hB]))

set_option maxRecDepth 100000 in
set_option maxHeartbeats 16000000 in
theorem plays_walk (w0 s : Int) (a : Option Addr) (n c : Nat) (l : List ActR) (w : World) (hT : W.Tab w) (hA : ActsIn a n c l w) :
    Calls Tryd.prog 3 #[.int .i64 w0, .int .i64 s, .slice a n c] w fun e w' => e = .returned (.bool true) ∧ Below w.heap.size w w' := by
  obtain ⟨rb, hrb⟩ : ∃ rb, w.heap.size = rb := ⟨_, rfl⟩
  rw [hrb]
  obtain ⟨WN, hWN⟩ : ∃ WN, wideN w0 = WN := ⟨_, rfl⟩
  obtain ⟨r0, hr0⟩ : ∃ r0 : Ro, r0 = ⟨blanks (nearN WN) s, false⟩ := ⟨_, rfl⟩
  have hok := play_ok (r := r0) (l := l) (by rw [hr0]; show (blanks (nearN WN) s).length ≤ 1000; rw [blanks_length]; exact nearN_le _) (by rw [hr0]; exact all_blanks rng_blk _ _) (by rw [hr0]; exact whole_blanks _ _) hA.ok
  have HOk := Lib.hid hok
  have HRb := Lib.hid hrb
  have HT0 := Lib.hid hT
  have HA0 := Lib.hid hA
  have HLn := Lib.hid hA.len
  have hfit : (n : Int) ≤ c := by have := hA.fit; omega
  have htop := hA.top
  have HAw := Lib.hid (awake_any w hT)
  have HR0 := Lib.hid hr0
  have hway : (decide (w0 > 60) = false ∧ WN = w0) ∨ (decide (w0 > 60) = true ∧ decide (w0 < 1000) = false ∧ WN = w0) ∨ (decide (w0 > 60) = true ∧ decide (w0 < 1000) = true ∧ WN = 60) := by
    rw [← hWN]; unfold wideN
    by_cases h1 : 60 < w0
    · right
      by_cases h2 : w0 < 1000
      · right; exact ⟨decide_eq_true h1, decide_eq_true h2, by rw [if_pos ⟨h1, h2⟩]⟩
      · left; exact ⟨decide_eq_true h1, decide_eq_false h2, by rw [if_neg (fun h => h2 h.2)]⟩
    · left; exact ⟨decide_eq_false h1, by rw [if_neg (fun h => h1 h.1)]⟩
  clear hrb hT hA hok hr0 hWN
  go_enter Tryd.func3, Tryd.ntmps3
  go_upto_region 3 with (go_at_call 13; refine HAw.out.mono ?_; rintro e w1 ⟨rfl, hb1⟩)
  have HB1 : Hid (Below rb w w1) := Lib.hid (by rw [← HRb.out]; exact hb1)
  clear hb1 HAw
  rcases hway with ⟨d1, hw⟩ | ⟨d1, d2, hw⟩ | ⟨d1, d2, hw⟩
  all_goals
    have HWN := Lib.hid hw
    clear hw
    go_upto_region 5 with fail
    rw [← HWN.out]
    have H1 := Lib.hid (rowBlank_any WN s w1)
    go_wp2_with fail
    refine H1.out.mono ?_
    intro e w2 hp2
    obtain ⟨x1, y1, rfl, hV2, hb2⟩ := RowPost.row hp2 (r := r0) (by rw [HR0.out]) (by rw [HR0.out])
    have H2 := Lib.hid (refBlank_any WN s w2)
    have HV2 := Lib.hid hV2
    have HB2 := Lib.hid (HB1.out.trans (hb2.mono (by have := HB1.out.size; have := HRb.out; omega)))
    clear hp2 hV2 hb2 H1
    obtain ⟨m1, hm1⟩ : ∃ m1, r0.l.length = m1 := ⟨_, rfl⟩
    obtain ⟨g, hg⟩ : ∃ g, r0.wrapped = g := ⟨_, rfl⟩
    rw [hm1, hg]
    go_wp2_with fail
    refine H2.out.mono ?_
    intro e w3 hp3
    obtain ⟨x2, y2, rfl, hV3, hb3⟩ := RowPost.row hp3 (r := r0) (by rw [HR0.out]) (by rw [HR0.out])
    have hs2 : rb ≤ w2.heap.size := by have := HB2.out.size; have := HRb.out; omega
    have hb23 : Below rb w w3 := HB2.out.trans (hb3.mono hs2)
    have hs3 : rb ≤ w3.heap.size := Nat.le_trans hs2 hb3.size
    have hBo := Both.init hb23 hs3 (HV2.out.belowAll hb3) hV3
    rw [hm1, hg] at hBo
    rw [hm1, hg]
    have HBo := Lib.hid hBo
    clear hp3 hV3 hb3 hb23 H2 hs2 hBo hm1 hg
    go_upto_region 6 with fail
    obtain ⟨b, hb⟩ : ∃ b, w3.heap.size = b := ⟨_, rfl⟩
    obtain ⟨w5, hw5⟩ : ∃ w5, (w3.alloc (.cells #[.slice x1 m1 y1, .bool g] 26)).alloc (.cells #[.slice x2 m1 y2, .bool g] 30) = w5 := ⟨_, rfl⟩
    have hBo5 := HBo.out
    rw [hw5, hb] at hBo5
    rw [hw5, hb]
    have hs5 : b + 2 ≤ w5.heap.size := by rw [← hw5, ← hb]; simp
    have HBo5 := Lib.hid hBo5
    have hrbb : rb ≤ b := hBo5.base
    clear hBo5 hb hw5 HBo HV2 hs3
    go_wp2_with fail
    go_loopw [9] (fun i wr => ∃ j : Nat, i = .int .i64 (j : Int) ∧ j ≤ n ∧ b + 2 ≤ wr.heap.size ∧ Hid (Both rb b (playS r0 l j) w wr)) (fun i _ => n - (intOf i).toNat)
    case atStart => exact ⟨0, rfl, by omega, hs5, Lib.hid HBo5.out⟩
    case round =>
      obtain ⟨j, rfl, hj, hlw, HF⟩ := hrel
      obtain ⟨ho1, ho2, ho3⟩ := HOk.out j
      obtain ⟨q0, hq0⟩ : ∃ q0, playS r0 l j = q0 := ⟨_, rfl⟩
      rw [hq0] at HF ho1 ho2 ho3
      obtain ⟨x1, y1, x2, y2, k1, k2, k3, k4⟩ := HF.out.rows
      obtain ⟨m1, hm1⟩ : ∃ m1, q0.l.length = m1 := ⟨_, rfl⟩
      obtain ⟨g, hg⟩ : ∃ g, q0.wrapped = g := ⟨_, rfl⟩
      rw [hm1, hg] at k1 k2 k3 k4
      have HLq : Hid (q0.l.length ≤ 1000) := Lib.hid ho1
      have HV1 := Lib.hid k3
      have HV2 := Lib.hid k4
      have HRO1 := Lib.hid k1
      have HRO2 := Lib.hid k2
      have HT : Hid (W.Tab wr) := Lib.hid (HT0.out.belowAll (by rw [HRb.out]; exact HF.out.below))
      have HRl : Hid (b < wr.heap.size) := Lib.hid (by omega)
      have HXl : Hid (b + 1 < wr.heap.size) := Lib.hid (by omega)
      have hrbw : rb ≤ wr.heap.size := by omega
      by_cases hlt : j < n ∧ j < 30
      · have d1 : decide (j < n) = true := decide_eq_true hlt.1
        have d2 : decide ((j : Int) < 30) = true := decide_eq_true (by omega)
        have hjn : (j : Int) < n := by omega
        have hjl : j < l.length := by rw [← HLn.out]; exact hlt.1
        obtain ⟨ab, ao, rfl, hab, hAt⟩ := HA0.out.at_.resolve_left (by intro e; rw [e] at hjl; simp at hjl)
        have hab' : ab < wr.heap.size := by have := HRb.out; omega
        have hat := (hAt j l[j] (List.getElem?_eq_getElem hjl)).block (HF.out.below.block ab (by rw [← HRb.out]; exact hab))
        have hrg := HA0.out.ok l[j] (List.getElem_mem hjl)
        have hps := play_succ (r := r0) hjl
        obtain ⟨Aj, hAj⟩ : ∃ A, l[j] = A := ⟨_, rfl⟩
        rw [hAj] at hat hrg hps
        rw [hq0] at hps
        obtain ⟨KD, AT, N, S, X⟩ := Aj
        have HRg : Hid (RngA ⟨KD, AT, N, S, X⟩) := Lib.hid hrg
        have HR0 := Lib.hid k1.c0
        have HR1 := Lib.hid k1.c1
        have HX0 := Lib.hid k2.c0
        have HX1 := Lib.hid k2.c1
        have HA0 := Lib.hid hat.c0
        have HA1 := Lib.hid hat.c1
        have HA2 := Lib.hid hat.c2
        have HA3 := Lib.hid hat.c3
        have HA4 := Lib.hid hat.c4
        have HAl : Hid (ab < wr.heap.size) := Lib.hid hab'
        obtain ⟨q, hq⟩ : ∃ q, doS W.ofS q0 ⟨KD, AT, N, S, X⟩ = q := ⟨_, rfl⟩
        rw [hq] at hps
        have HQ := Lib.hid hq
        have HPs := Lib.hid hps
        have hoq := HOk.out (j + 1)
        rw [hps] at hoq
        have HOq := Lib.hid hoq
        clear hlt hAt hat hrg hps hAj hq hab hab' hq0 ho1 ho2 ho3 hm1 hg k1 k2 k3 k4 hoq
        go_upto_region 9 with fail
        have HBr : Hid (Both rb b q0 w wr) := Lib.hid HF.out
        refine Go.Proofs.YtmdnnpcofbhceaaDoor.R.wp_region_relL (by kernel_rfl) (PlC rb b q0 q w wr) RowsK (PlOk b ab ao n c j x1 x2 m1 y1 y2 g KD AT N S X q) (by rfl) (by kernel_rfl) (by kernel_rfl) ?hOk ?hop ?hdone ?h0
        case h0 => exact ⟨fun e => (by cases e), fun _ => ⟨(Below.refl _ _).drew, rfl⟩, fun e => (by cases e), fun e => (by cases e)⟩
        case hOk =>
          intro i x u u' hv huu
          unfold PlOk at hv ⊢
          split at hv
          all_goals first | exact hv | exact huu _ _ _ hv | (obtain ⟨v1, v2, e, g1, g2⟩ := hv; exact ⟨v1, v2, e, huu _ _ _ g1, huu _ _ _ g2⟩) | (obtain ⟨t, e, g1⟩ := hv; exact ⟨t, e, huu _ _ _ g1⟩) | trivial
        case hop =>
          refine ⟨?_, ?_, ?_, ?_, ?_, ?_, ?_, ?_, ?_, ?_, ?_, ?_, trivial⟩
          · intro L z v hL hdp hc hag hdep
            have hz := hc.early (by decide : 0 < 9) hL
            refine .inl ⟨rfl, fun K hK => ?_⟩
            have d7 : z.tmps.getD 7 undef = .pointer (some ⟨b, 0, none⟩) := hag.2.2 7 (by kernel_rfl)
            have e7 := d7
            rw [Array.getD_eq_getD_getElem?] at e7
            have l0 := (hz.cell (p := ⟨b, 0, none⟩) HRl.out).trans HR0.out
            have l1 := (hz.cell (p := ⟨b, 1, none⟩) HRl.out).trans HR1.out
            clear hdep hag 
            go_simp
            exact hK _ _ (RowsK.refl _) rfl (hc.next (by decide) hL (Below.refl _ _))
          · intro L z v hL hdp hc hag hdep
            have hz := hc.early (by decide : 1 < 9) hL
            refine .inl ⟨rfl, fun K hK => ?_⟩
            have d8 : z.tmps.getD 8 undef = .pointer (some ⟨b + 1, 0, none⟩) := hag.2.2 8 (by kernel_rfl)
            have e8 := d8
            rw [Array.getD_eq_getD_getElem?] at e8
            have l0 := (hz.cell (p := ⟨b + 1, 0, none⟩) HXl.out).trans HX0.out
            have l1 := (hz.cell (p := ⟨b + 1, 1, none⟩) HXl.out).trans HX1.out
            clear hdep hag 
            go_simp
            exact hK _ _ (RowsK.refl _) rfl (hc.next (by decide) hL (Below.refl _ _))
          · intro L z v hL hdp hc hag hdep
            have hz := hc.early (by decide : 2 < 9) hL
            refine .inl ⟨rfl, fun K hK => ?_⟩
            have d2 : z.tmps.getD 2 undef = .slice (some ⟨ab, ao, none⟩) n c := hag.2.2 2 (by kernel_rfl)
            have e2 := d2
            rw [Array.getD_eq_getD_getElem?] at e2
            clear hdep hag 
            go_simp
            exact hK _ _ (RowsK.refl _) rfl (hc.next (by decide) hL (Below.refl _ _))
          · intro L z v hL hdp hc hag hdep
            have hz := hc.early (by decide : 3 < 9) hL
            refine .inl ⟨rfl, fun K hK => ?_⟩
            have d9 : z.tmps.getD 9 undef = .int .i64 (j : Int) := hag.2.2 9 (by kernel_rfl)
            have e9 := d9
            rw [Array.getD_eq_getD_getElem?] at e9
            clear hdep hag 
            go_simp
            exact hK _ _ (RowsK.refl _) rfl (hc.next (by decide) hL (Below.refl _ _))
          · intro L z v hL hdp hc hag hdep
            have hz := hc.early (by decide : 4 < 9) hL
            refine .inl ⟨rfl, fun K hK => ?_⟩
            have d37 : z.tmps.getD 37 undef = .slice (some ⟨ab, ao, none⟩) n c := hdep { on := 2, ground := .data } (by simp) rfl _ _ rfl rfl
            have e37 := d37
            rw [Array.getD_eq_getD_getElem?] at e37
            have d38 : z.tmps.getD 38 undef = .int .i64 (j : Int) := hdep { on := 3, ground := .data } (by simp) rfl _ _ rfl rfl
            have e38 := d38
            rw [Array.getD_eq_getD_getElem?] at e38
            clear hdep hag 
            go_simp
            exact hK _ _ (RowsK.refl _) rfl (hc.next (by decide) hL (Below.refl _ _))
          · intro L z v hL hdp hc hag hdep
            have hz := hc.early (by decide : 5 < 9) hL
            refine .inl ⟨rfl, fun K hK => ?_⟩
            have d39 : z.tmps.getD 39 undef = .pointer (some ⟨ab, ao + j * 5, none⟩) := hdep { on := 4, ground := .data } (by simp) rfl _ _ rfl rfl
            have e39 := d39
            rw [Array.getD_eq_getD_getElem?] at e39
            have l0 : v.cell? ⟨ab, ao + j * 5, none⟩ = _ := (hz.cell (p := ⟨ab, ao + j * 5, none⟩) HAl.out).trans HA0.out
            have l1 : v.cell? ⟨ab, ao + j * 5 + 1, none⟩ = _ := (hz.cell (p := ⟨ab, ao + j * 5 + 1, none⟩) HAl.out).trans HA1.out
            have l2 : v.cell? ⟨ab, ao + j * 5 + 2, none⟩ = _ := (hz.cell (p := ⟨ab, ao + j * 5 + 2, none⟩) HAl.out).trans HA2.out
            have l3 : v.cell? ⟨ab, ao + j * 5 + 3, none⟩ = _ := (hz.cell (p := ⟨ab, ao + j * 5 + 3, none⟩) HAl.out).trans HA3.out
            have l4 : v.cell? ⟨ab, ao + j * 5 + 4, none⟩ = _ := (hz.cell (p := ⟨ab, ao + j * 5 + 4, none⟩) HAl.out).trans HA4.out
            clear hdep hag 
            go_simp
            exact hK _ _ (RowsK.refl _) rfl (hc.next (by decide) hL (Below.refl _ _))
          · intro L z v hL hdp hc hag hdep
            have hz := hc.early (by decide : 6 < 9) hL
            refine .inl ⟨rfl, fun K hK => ?_⟩
            have d35 : z.tmps.getD 35 undef = .agg #[.slice x1 m1 y1, .bool g] := hdep { on := 0, ground := .data } (by simp) rfl _ _ rfl rfl
            have e35 := d35
            rw [Array.getD_eq_getD_getElem?] at e35
            have d36 : z.tmps.getD 36 undef = .agg #[.slice x2 m1 y2, .bool g] := hdep { on := 1, ground := .data } (by simp) rfl _ _ rfl rfl
            have e36 := d36
            rw [Array.getD_eq_getD_getElem?] at e36
            have d40 : z.tmps.getD 40 undef = .agg #[.int .i64 KD, .int .i64 AT, .int .i64 N, .int .i64 S, .int .i32 X] := hdep { on := 5, ground := .data } (by simp) rfl _ _ rfl rfl
            have e40 := d40
            rw [Array.getD_eq_getD_getElem?] at e40
            have HD := Lib.hid (do_any (.agg #[.slice x1 m1 y1, .bool g]) (.agg #[.slice x2 m1 y2, .bool g]) q0 q0 ⟨KD, AT, N, S, X⟩ v (HT.out.belowAll hz) (HV1.out.belowAll hz) (HV2.out.belowAll hz) HLq.out HLq.out HRg.out)
            rw [HQ.out] at HD
            unfold actV at HD
            simp only at HD
            clear hdep hag hz
            go_simp
            refine HD.out.mono ?_
            rintro e w' ⟨v1, v2, rfl, k1, k2, k3⟩
            exact hK _ _ (RowsK.below k3) ⟨v1, v2, rfl, k1, k2⟩ (hc.next (by decide) hL k3)
          · intro L z v hL hdp hc hag hdep
            have hz := hc.early (by decide : 7 < 9) hL
            refine .inl ⟨rfl, fun K hK => ?_⟩
            have d41' : PlOk b ab ao n c j x1 x2 m1 y1 y2 g KD AT N S X q 6 (z.tmps.getD 41 undef) v := hdep { on := 6, ground := .data } (by simp) rfl _ _ rfl rfl
            simp only [PlOk] at d41'
            obtain ⟨v1, v2, d41, h1, h2⟩ := d41'
            have e41 := d41
            rw [Array.getD_eq_getD_getElem?] at e41
            clear hdep hag hz
            go_simp
            exact hK _ _ (RowsK.refl _) ⟨v1, v2, rfl, h1, h2⟩ (hc.next (by decide) hL (Below.refl _ _))
          · intro L z v hL hdp hc hag hdep
            have hz := hc.early (by decide : 8 < 9) hL
            refine .inl ⟨rfl, fun K hK => ?_⟩
            have d34' : PlOk b ab ao n c j x1 x2 m1 y1 y2 g KD AT N S X q 7 (z.tmps.getD 34 undef) v := hdep { on := 7, ground := .data } (by simp) rfl _ _ rfl rfl
            simp only [PlOk] at d34'
            obtain ⟨v1, v2, d34, h1, h2⟩ := d34'
            have e34 := d34
            rw [Array.getD_eq_getD_getElem?] at e34
            clear hdep hag hz
            go_simp
            exact hK _ _ (RowsK.refl _) ⟨_, rfl, h1⟩ (hc.next (by decide) hL (Below.refl _ _))
          · intro L z v hL hdp hc hag hdep
            refine .inl ⟨rfl, fun K hK => ?_⟩
            have d34' : PlOk b ab ao n c j x1 x2 m1 y1 y2 g KD AT N S X q 7 (z.tmps.getD 34 undef) v := hdep { on := 7, ground := .data } (by simp) rfl _ _ rfl rfl
            simp only [PlOk] at d34'
            obtain ⟨v1, v2, d34, h1, h2⟩ := d34'
            have e34 := d34
            rw [Array.getD_eq_getD_getElem?] at e34
            clear hdep hag
            go_simp
            exact hK _ _ (RowsK.refl _) ⟨_, rfl, h2⟩ hc.nine
          · intro L z v hL hdp hc hag hdep
            refine .inl ⟨rfl, fun K hK => ?_⟩
            have d7 : z.tmps.getD 7 undef = .pointer (some ⟨b, 0, none⟩) := hag.2.2 7 (by kernel_rfl)
            have e7 := d7
            rw [Array.getD_eq_getD_getElem?] at e7
            have d42' : PlOk b ab ao n c j x1 x2 m1 y1 y2 g KD AT N S X q 8 (z.tmps.getD 42 undef) v := hdep { on := 8, ground := .data } (by simp) rfl _ _ rfl rfl
            simp only [PlOk] at d42'
            obtain ⟨t8, d42, hv8⟩ := d42'
            have e42 := d42
            rw [Array.getD_eq_getD_getElem?] at e42
            have hall : ∀ k, k < 9 → L k = true := fun k hk => by
              rcases (by omega : k = 0 ∨ k = 1 ∨ k = 2 ∨ k = 3 ∨ k = 4 ∨ k = 5 ∨ k = 6 ∨ k = 7 ∨ k = 8) with rfl | rfl | rfl | rfl | rfl | rfl | rfl | rfl | rfl
              · exact hdp { on := 0, ground := .phase } (by simp) rfl
              · exact hdp { on := 1, ground := .phase } (by simp) rfl
              · exact hdp { on := 2, ground := .phase } (by simp) rfl
              · exact hdp { on := 3, ground := .phase } (by simp) rfl
              · exact hdp { on := 4, ground := .phase } (by simp) rfl
              · exact hdp { on := 5, ground := .phase } (by simp) rfl
              · exact hdp { on := 6, ground := .phase } (by simp) rfl
              · exact hdp { on := 7, ground := .phase } (by simp) rfl
              · exact hdp { on := 8, ground := .phase } (by simp) rfl
            obtain ⟨h1, -⟩ := hc.none hL
            obtain ⟨x3, y3, rfl⟩ := hv8.shape
            have hst := hc.store1 hL hall HBr.out hrbw hv8
            have s0 := (HRO1.out.below h1 HRl.out).c0
            have s1 := (HRO1.out.below h1 HRl.out).c1
            have f0 := (HRO1.out.below h1 HRl.out).fr 0
            have f1 := (HRO1.out.below h1 HRl.out).fr 1
            clear hdep hag hall h1
            go_simp
            exact hK undef _ hst.1 trivial hst.2
          · intro L z v hL hdp hc hag hdep
            refine .inl ⟨rfl, fun K hK => ?_⟩
            have d8 : z.tmps.getD 8 undef = .pointer (some ⟨b + 1, 0, none⟩) := hag.2.2 8 (by kernel_rfl)
            have e8 := d8
            rw [Array.getD_eq_getD_getElem?] at e8
            have d43' : PlOk b ab ao n c j x1 x2 m1 y1 y2 g KD AT N S X q 9 (z.tmps.getD 43 undef) v := hdep { on := 9, ground := .data } (by simp) rfl _ _ rfl rfl
            simp only [PlOk] at d43'
            obtain ⟨t9, d43, hv9⟩ := d43'
            have e43 := d43
            rw [Array.getD_eq_getD_getElem?] at e43
            have h10 : L 10 = true := hdp { on := 10, ground := .chain } (by simp) rfl
            have hM := hc.half h10 hL
            obtain ⟨x3, y3, x2, y2, m, g, -, k2, -⟩ := hM.rows
            obtain ⟨x4, y4, rfl⟩ := hv9.shape
            have hst := hc.store2 hL h10 hv9
            have s0 := k2.c0
            have s1 := k2.c1
            have f0 := k2.fr 0
            have f1 := k2.fr 1
            clear hdep hag hM k2
            go_simp
            exact hK undef _ hst.1 trivial hst.2
        case hdone =>
          intro z u hc hag hok
          obtain ⟨uu, huu, hzz⟩ := Go.Proofs.YtmdnnpcofbhceaaDoor.R.agree_frame [35, 36, 37, 38, 39, 40, 41, 34, 42, 43] rfl hag
          subst hzz
          have hst : Both rb b q w u := hc.both rfl
          obtain ⟨m3, hm3⟩ : ∃ m3, q.l.length = m3 := ⟨_, rfl⟩
          obtain ⟨g3, hg3⟩ : ∃ g3, q.wrapped = g3 := ⟨_, rfl⟩
          have HSt := Lib.hid hst
          have HM3 := Lib.hid hm3
          have HG3 := Lib.hid hg3
          clear hc hag hok huu hst hm3 hg3
          simp only [List.foldl_cons, List.foldl_nil]
          simp only [List.setIfInBounds_toArray, List.set_cons_succ, List.set_cons_zero]
          generalize uu 34 = u34', uu 35 = u35', uu 36 = u36', uu 37 = u37', uu 38 = u38', uu 39 = u39', uu 40 = u40', uu 41 = u41', uu 42 = u42', uu 43 = u43'
          clear uu
          obtain ⟨w6, hw6⟩ : ∃ w6, u = w6 := ⟨_, rfl⟩
          have hst := HSt.out
          rw [hw6] at hst
          rw [hw6]
          have hs6 : b + 2 ≤ w6.heap.size := by
            obtain ⟨a1, b1, a2, b2, g1, g2, -, -⟩ := hst.rows
            exact g2.lt
          have HS6 := Lib.hid hst
          obtain ⟨a1, b1, a2, b2, g1, g2, i1, i2⟩ := hst.rows
          rw [HM3.out, HG3.out] at g1 g2 i1 i2
          have HIs := Lib.hid (isRow_any i1 i2 HOq.out.2.1 HOq.out.1 HOq.out.1)
          have hdd : decide (q = q) = true := by simp
          rw [hdd] at HIs
          clear hdd
          have t0 := g1.c0
          have t1 := g1.c1
          have t2 := g2.c0
          have t3 := g2.c1
          have HI2 := Lib.hid i2
          have HG2 := Lib.hid g2
          have hxl6 : b + 1 < w6.heap.size := by omega
          clear hst hw6 g1 g2 i1 i2 HSt
          go_upto_region 10 with fail
          go_wp2_with (go_at_call 17; refine HIs.out.mono ?_; rintro e w7 ⟨rfl, hb7⟩; have t4 := (HG2.out.belowAll hb7).c0; have t5 := (HG2.out.belowAll hb7).c1)
          have HWh := Lib.hid (wholeRow_any (HI2.out.belowAll hb7) HOq.out.1 HOq.out.2.2)
          have HS7 := Lib.hid (HS6.out.more hb7 (by omega))
          have hs7 : b + 2 ≤ w7.heap.size := Nat.le_trans hs6 hb7.size
          clear hb7 HIs t0 t1 t2 t3
          go_wp2_with (go_at_call 18; refine HWh.out.mono ?_; rintro e w8 ⟨rfl, hb8⟩)
          have HS8 := Lib.hid (HS7.out.more hb8 (by omega))
          have hs8 : b + 2 ≤ w8.heap.size := Nat.le_trans hs7 hb8.size
          clear hb8 HWh t4 t5
          go_wp2
          go_roundw
          case rel => exact ⟨j + 1, by go_num, by omega, hs8, Lib.hid (by rw [HPs.out]; exact HS8.out)⟩
          case measure => simp [intOf]; omega
      · have hway : decide (j < n) = false ∨ (decide (j < n) = true ∧ decide ((j : Int) < 30) = false) := by
          by_cases h1 : j < n
          · right; exact ⟨decide_eq_true h1, decide_eq_false (by omega)⟩
          · left; exact decide_eq_false h1
        have HIs := Lib.hid (isRow_any k3 k4 ho2 ho1 ho1)
        have t0 := k1.c0
        have t1 := k1.c1
        have t2 := k2.c0
        have t3 := k2.c1
        have hdd : decide (q0 = q0) = true := by simp
        rw [hdd] at HIs
        clear hlt hdd hq0 ho1 ho2 ho3 hm1 hg k1 k2 k3 k4
        rcases hway with d1 | ⟨d1, d2⟩
        all_goals
          go_wp2_with (go_at_call 17; refine HIs.out.mono ?_; rintro e w7 ⟨rfl, hb7⟩)
          go_ret
          exact ⟨rfl, HF.out.below.trans (hb7.mono hrbw)⟩
end Go.Proofs.YtmdnnpcofbhceaaDoor.K
