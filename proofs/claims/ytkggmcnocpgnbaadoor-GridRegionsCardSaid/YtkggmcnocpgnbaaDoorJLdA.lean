/- The law's do of a grid: what stands in memory. -/
import Derived.Test.YtkggmcnocpgnbaaDoorMerged18
import Derived.Test.YtkggmcnocpgnbaaDoorJMvU
import Derived.Test.YtkggmcnocpgnbaaDoorJMvD
import Derived.Test.YtkggmcnocpgnbaaDoorJSix
import Derived.Test.YtkggmcnocpgnbaaDoorMerged17
import Derived.Test.YtkggmcnocpgnbaaDoorMerged19
namespace Go.Proofs.YtkggmcnocpgnbaaDoor.K
open Go.RowKit

/-- a call, as the statements draw it -/
structure ActG where
  kind : Int
  y : Int
  top : Int
  bottom : Int
  n : Int
  style : Int
  w : Int
  h : Int
  row : ActR
def actC (A : ActG) : Array Value := #[.int .i64 A.kind, .int .i64 A.y, .int .i64 A.top, .int .i64 A.bottom, .int .i64 A.n, .int .i64 A.style, .int .i64 A.w, .int .i64 A.h, .int .i64 A.row.kind, .int .i64 A.row.at_, .int .i64 A.row.n, .int .i64 A.row.style, .int .i32 A.row.rune]
/-- it stands in a block -/
def ActB (p : Nat) (A : ActG) (w : World) : Prop := w.heap[p]? = some (.cells (actC A) 77 (0, 0))
theorem ActB.lt {p : Nat} {A : ActG} {w : World} (h : ActB p A w) : p < w.heap.size := (Array.getElem?_eq_some_iff.1 h).1
theorem ActB.kept {p : Nat} {A : ActG} {w w' : World} (h : ActB p A w) (hb : w'.heap[p]? = w.heap[p]?) : ActB p A w' := hb.trans h
theorem ActB.c0 {p : Nat} {A : ActG} {w : World} (h : ActB p A w) : w.cell? ⟨p, 0, none⟩ = some (.int .i64 A.kind) := by simp [World.cell?, show w.heap[p]? = _ from h, actC]
theorem ActB.c1 {p : Nat} {A : ActG} {w : World} (h : ActB p A w) : w.cell? ⟨p, 1, none⟩ = some (.int .i64 A.y) := by simp [World.cell?, show w.heap[p]? = _ from h, actC]
theorem ActB.c2 {p : Nat} {A : ActG} {w : World} (h : ActB p A w) : w.cell? ⟨p, 2, none⟩ = some (.int .i64 A.top) := by simp [World.cell?, show w.heap[p]? = _ from h, actC]
theorem ActB.c3 {p : Nat} {A : ActG} {w : World} (h : ActB p A w) : w.cell? ⟨p, 3, none⟩ = some (.int .i64 A.bottom) := by simp [World.cell?, show w.heap[p]? = _ from h, actC]
theorem ActB.c4 {p : Nat} {A : ActG} {w : World} (h : ActB p A w) : w.cell? ⟨p, 4, none⟩ = some (.int .i64 A.n) := by simp [World.cell?, show w.heap[p]? = _ from h, actC]
theorem ActB.c5 {p : Nat} {A : ActG} {w : World} (h : ActB p A w) : w.cell? ⟨p, 5, none⟩ = some (.int .i64 A.style) := by simp [World.cell?, show w.heap[p]? = _ from h, actC]
theorem ActB.c6 {p : Nat} {A : ActG} {w : World} (h : ActB p A w) : w.cell? ⟨p, 6, none⟩ = some (.int .i64 A.w) := by simp [World.cell?, show w.heap[p]? = _ from h, actC]
theorem ActB.c7 {p : Nat} {A : ActG} {w : World} (h : ActB p A w) : w.cell? ⟨p, 7, none⟩ = some (.int .i64 A.h) := by simp [World.cell?, show w.heap[p]? = _ from h, actC]
theorem ActB.c8 {p : Nat} {A : ActG} {w : World} (h : ActB p A w) : w.cell? ⟨p, 8, none⟩ = some (.int .i64 A.row.kind) := by simp [World.cell?, show w.heap[p]? = _ from h, actC]
theorem ActB.c9 {p : Nat} {A : ActG} {w : World} (h : ActB p A w) : w.cell? ⟨p, 9, none⟩ = some (.int .i64 A.row.at_) := by simp [World.cell?, show w.heap[p]? = _ from h, actC]
theorem ActB.c10 {p : Nat} {A : ActG} {w : World} (h : ActB p A w) : w.cell? ⟨p, 10, none⟩ = some (.int .i64 A.row.n) := by simp [World.cell?, show w.heap[p]? = _ from h, actC]
theorem ActB.c11 {p : Nat} {A : ActG} {w : World} (h : ActB p A w) : w.cell? ⟨p, 11, none⟩ = some (.int .i64 A.row.style) := by simp [World.cell?, show w.heap[p]? = _ from h, actC]
theorem ActB.c12 {p : Nat} {A : ActG} {w : World} (h : ActB p A w) : w.cell? ⟨p, 12, none⟩ = some (.int .i32 A.row.rune) := by simp [World.cell?, show w.heap[p]? = _ from h, actC]
/-- new blocks may be turned -/
theorem KeepB.strike2 {L M : List Nat} {w u v : World} (h : KeepB L w u) (k : KeepB M u v) (hM : ∀ p ∈ M, w.heap.size ≤ p) : KeepB L w v :=
  ⟨k.os.trans h.os, k.tape.trans h.tape, k.output.trans h.output, Nat.le_trans h.size k.size, fun i hi hn => (k.block i (Nat.lt_of_lt_of_le hi h.size) (fun e => by have := hM i e; omega)).trans (h.block i hi hn)⟩
/-- while do runs -/
structure DoB (g q rb W : Nat) (sv : Value) (A : ActG) (w u : World) : Prop where
  kb : KeepB [g, q] w u
  xb : GrB rb W sv u
  ab : ActB (rb + 1) A u
  rs : ∃ a b, u.heap[rb + 2]? = some (.cells #[a, b] 82 (0, 0))
  sz : rb = w.heap.size
theorem DoB.keptB {g q rb W : Nat} {sv : Value} {A : ActG} {w u v : World} (h : DoB g q rb W sv A w u) (hk : KeepB [g, q] u v) (hg : g < rb ∧ q < rb) : DoB g q rb W sv A w v := by
  have hb : ∀ i, rb ≤ i → i < u.heap.size → v.heap[i]? = u.heap[i]? := fun i hi hl => hk.block i hl (fun e => by
    have h2 : i = g ∨ i = q := by simpa using e
    omega)
  obtain ⟨a, b, hr⟩ := h.rs
  exact ⟨h.kb.trans hk, h.xb.kept (hb rb (Nat.le_refl _) h.xb.lt), h.ab.kept (hb (rb + 1) (by omega) h.ab.lt), ⟨a, b, (hb (rb + 2) (by omega) (Array.getElem?_eq_some_iff.1 hr).1).trans hr⟩, h.sz⟩
theorem DoB.below {g q rb W : Nat} {sv : Value} {A : ActG} {w u v : World} (h : DoB g q rb W sv A w u) (hb : Below u.heap.size u v) (hg : g < rb ∧ q < rb) : DoB g q rb W sv A w v := h.keptB (KeepB.of_below hb) hg
theorem DoB.lt {g q rb W : Nat} {sv : Value} {A : ActG} {w u : World} (h : DoB g q rb W sv A w u) : rb + 2 < u.heap.size := by
  obtain ⟨a, b, hr⟩ := h.rs
  exact (Array.getElem?_eq_some_iff.1 hr).1
/-- where a struct of two cells lies, cells may be stored -/
theorem two_cells {u : World} {p : Nat} {a b : Value} {T : TypeId} (h : u.heap[p]? = some (.cells #[a, b] T (0, 0))) : u.cell? ⟨p, 0, none⟩ = some a ∧ u.cell? ⟨p, 1, none⟩ = some b ∧ u.frozen? ⟨p, 0, none⟩ = false ∧ u.frozen? ⟨p, 1, none⟩ = false := by
  refine ⟨?_, ?_, ?_, ?_⟩ <;> simp [World.cell?, World.frozen?, h]
/-- what do answers -/
def DoG (g q : Nat) (L : List Nat) (y : Gd) (w : World) (e : Ending) (w' : World) : Prop := ∃ v' q', e = .returned (.tuple #[v', .bool true]) ∧ Gr g q' y w' ∧ RefG (q' :: L) v' y w' ∧ (q' = q ∨ w.heap.size ≤ q') ∧ KeepB [g, q] w w'
theorem RefG.consMem {L : List Nat} {v : Value} {x : Gd} {w : World} (h : RefG L v x w) {q : Nat} (hq : q ∈ L) : RefG (q :: L) v x w := by
  obtain ⟨a, n, c, e, h⟩ := h
  refine ⟨a, n, c, e, h.sub (fun p hp => ?_)⟩
  rcases List.mem_cons.1 hp with rfl | hp
  · exact hq
  · exact hp
theorem RefG.sub {L L' : List Nat} {v : Value} {x : Gd} {w : World} (h : RefG L v x w) (hs : ∀ p ∈ L', p ∈ L) : RefG L' v x w := by
  obtain ⟨a, n, c, e, h⟩ := h
  exact ⟨a, n, c, e, h.sub hs⟩
theorem Gr.keptB {g q : Nat} {x : Gd} {w w' : World} {L : List Nat} (h : Gr g q x w) (hk : KeepB L w w') (hg : g ∉ L) (hq : q ∉ L) (hL : ∀ p ∈ L, p < w.heap.size → ∃ cs T, w.heap[p]? = some (.cells cs T (0, 0)) ∧ T ≠ 105) : Gr g q x w' := by
  obtain ⟨us, cap, h⟩ := h
  exact ⟨us, cap, h.kept hk hg hq hL⟩
theorem Gr.lt {g q : Nat} {x : Gd} {w : World} (h : Gr g q x w) : g < w.heap.size ∧ q < w.heap.size := by
  obtain ⟨us, cap, h⟩ := h
  exact h.lt
theorem Gr.ok {g q : Nat} {x : Gd} {w : World} (h : Gr g q x w) : GdOk x := by
  obtain ⟨us, cap, h⟩ := h
  exact h.ok
theorem mem_upGone {x : Gd} {top bot n s : Int} {r : Ro} (h : r ∈ (upG x top bot n s).2) : r ∈ x.rs := by
  unfold upG at h
  simp only at h
  split at h
  · cases h
  · exact List.mem_of_mem_take (List.mem_of_mem_drop (List.mem_of_mem_take h))
theorem mem_downGone {x : Gd} {top bot n s : Int} {r : Ro} (h : r ∈ (downG x top bot n s).2) : r ∈ x.rs := by
  unfold downG at h
  simp only at h
  split at h
  · cases h
  · exact List.mem_of_mem_take (List.mem_of_mem_drop (List.mem_of_mem_drop (List.mem_reverse.1 h)))
theorem len_upGone (x : Gd) (top bot n s : Int) : (upG x top bot n s).2.length ≤ x.rs.length := by
  unfold upG
  simp only
  split
  · exact Nat.zero_le _
  · unfold regR
    rw [List.length_take, List.length_drop, List.length_take]; omega
theorem len_downGone (x : Gd) (top bot n s : Int) : (downG x top bot n s).2.length ≤ x.rs.length := by
  unfold downG
  simp only
  split
  · exact Nat.zero_le _
  · unfold regR
    rw [List.length_reverse, List.length_drop, List.length_drop, List.length_take]; omega
theorem RowsL.keptB2 {rk : IntKind} {L : List Nat} {a : Option Addr} {n c : Nat} {rs : List Ro} {w w' : World} {M : List Nat} (h : RowsL rk L a n c rs w) (hk : KeepB M w w') (hM : ∀ p ∈ M, p ∈ L) : RowsL rk L a n c rs w' := h.keptB (hk.mono hM)
theorem RefG.keptB2 {L M : List Nat} {v : Value} {x : Gd} {w w' : World} (h : RefG L v x w) (hk : KeepB M w w') (hM : ∀ p ∈ M, p ∈ L) : RefG L v x w' := h.keptB (hk.mono hM)
/-- while rows go up or down -/
def UpT (g q rb : Nat) (L : List Nat) (x y : Gd) (gone : List Ro) (a5 : Option Addr) (n5 c5 : Nat) (a4 : Option Addr) (n4 c4 s : Nat) : Nat → (Nat → Value) → World → Prop
  | 0, _, u => Gr g q x u ∧ RefG ((rb + 2) :: L) (refV y.W a5 n5 c5) y u ∧ RowsL .i64 ((rb + 2) :: L) a4 n4 c4 gone u ∧ True
  | 1, f, u => Gr g q y u ∧ RefG ((rb + 2) :: L) (refV y.W a5 n5 c5) y u ∧ RowsL .i64 ((rb + 2) :: L) a4 n4 c4 gone u ∧ ∃ a m c, f s = .slice a m c ∧ RowsL .i32 ((rb + 2) :: L) a m c gone u
  | 2, _, u => Gr g q y u ∧ RefG ((rb + 2) :: L) (refV y.W a5 n5 c5) y u
  | _, _, u => Gr g q y u ∧ RefG ((rb + 2) :: L) (refV y.W a5 n5 c5) y u ∧ u.heap[rb + 2]? = some (.cells #[.int .i64 (y.W : Int), .slice a5 n5 c5] 82 (0, 0))
def UpS (g q rb p14 : Nat) (L : List Nat) (x y : Gd) (gone : List Ro) (a5 : Option Addr) (n5 c5 : Nat) (a4 : Option Addr) (n4 c4 W : Nat) (sv : Value) (A : ActG) (w : World) (s k : Nat) (f : Nat → Value) (u : World) : Prop := (DoB g q rb W sv A w u ∧ GrB p14 y.W (.slice a5 n5 c5) u) ∧ UpT g q rb L x y gone a5 n5 c5 a4 n4 c4 s k f u
section
variable {g q rb p14 : Nat} {L : List Nat} {x y : Gd} {gone : List Ro} {a5 : Option Addr} {n5 c5 : Nat} {a4 : Option Addr} {n4 c4 W : Nat} {sv : Value} {A : ActG} {w : World} {s : Nat}
theorem UpS.drew {f f2 : Nat → Value} {u : World} (h : UpS g q rb p14 L x y gone a5 n5 c5 a4 n4 c4 W sv A w s 0 f u) : UpS g q rb p14 L x y gone a5 n5 c5 a4 n4 c4 W sv A w s 0 f2 u.drew := by
  obtain ⟨⟨h1, h2⟩, h3, h4, h5, -⟩ := h
  have hb : Below u.heap.size u u.drew := (Below.refl _ _).drew
  exact ⟨⟨⟨h1.kb.trans (KeepB.of_below hb), h1.xb.belowAll hb, h1.ab, h1.rs, h1.sz⟩, h2.belowAll hb⟩, h3.below hb, h4.below hb, h5.below hb, trivial⟩
theorem UpS.cong {k : Nat} {f f2 : Nat → Value} {u : World} (hs : k = 1 → f s = f2 s) (h : UpS g q rb p14 L x y gone a5 n5 c5 a4 n4 c4 W sv A w s k f u) : UpS g q rb p14 L x y gone a5 n5 c5 a4 n4 c4 W sv A w s k f2 u := by
  obtain ⟨h1, h2⟩ := h
  refine ⟨h1, ?_⟩
  match k, h2, hs with
  | 0, h2, _ => exact h2
  | 1, h2, hs =>
    obtain ⟨h3, h4, h5, a, m, c, h6, h7⟩ := h2
    exact ⟨h3, h4, h5, a, m, c, by rw [← hs rfl]; exact h6, h7⟩
  | 2, h2, _ => exact h2
  | _ + 3, h2, _ => exact h2
theorem DoB.big {g q rb W : Nat} {sv : Value} {A : ActG} {w u : World} (h : DoB g q rb W sv A w u) (hL : ∀ p ∈ L, p < w.heap.size) (hrb : w.heap.size = rb) : ∀ p ∈ (rb + 2) :: L, p < u.heap.size := fun p hp => by
  have := h.lt
  rcases List.mem_cons.1 hp with rfl | hp
  · exact this
  · have := hL p hp; omega
theorem UpS.one {v' : World} {u : World} {f : Nat → Value} {a6 : Option Addr} {m6 c6 : Nat} {st0 : Act} (h : UpS g q rb p14 L x y gone a5 n5 c5 a4 n4 c4 W sv A w s 0 f u) (hlt : g < rb ∧ q < rb) (hsub : g ∈ L ∧ q ∈ L) (hs : s < st0.tmps.size) (hp : p14 ≠ g ∧ p14 ≠ q) (k1 : RowsL .i32 ((rb + 2) :: L) a6 m6 c6 gone v') (k2 : Gr g q y v') (k3 : KeepB [g, q] u v') :
    UpS g q rb p14 L x y gone a5 n5 c5 a4 n4 c4 W sv A w s 1 (R.slot (st0.put (some s) (.slice a6 m6 c6))) v' := by
  obtain ⟨⟨h1, h2⟩, h3, h4, h5, -⟩ := h
  have hM : ∀ p ∈ [g, q], p ∈ (rb + 2) :: L := fun p hp => by
    have : p = g ∨ p = q := by simpa using hp
    rcases this with rfl | rfl
    · simp [hsub.1]
    · simp [hsub.2]
  exact ⟨⟨h1.keptB k3 hlt, h2.kept (k3.block _ h2.lt (fun e => by
    have : p14 = g ∨ p14 = q := by simpa using e
    omega))⟩, k2, h4.keptB2 k3 hM, h5.keptB2 k3 hM, a6, m6, c6, R.slot_same hs, k1⟩
theorem UpS.two {v' : World} {u : World} {f f2 : Nat → Value} (h : UpS g q rb p14 L x y gone a5 n5 c5 a4 n4 c4 W sv A w s 1 f u) (hlt : g < rb ∧ q < rb) (hb : Below u.heap.size u v') : UpS g q rb p14 L x y gone a5 n5 c5 a4 n4 c4 W sv A w s 2 f2 v' := by
  obtain ⟨⟨h1, h2⟩, h3, h4, -⟩ := h
  exact ⟨⟨h1.below hb hlt, h2.belowAll hb⟩, h3.below hb, h4.below hb⟩
theorem UpS.three {u : World} {f f2 : Nat → Value} (h : UpS g q rb p14 L x y gone a5 n5 c5 a4 n4 c4 W sv A w s 2 f u) (hlt : g < rb ∧ q < rb) (hp : p14 ≠ rb + 2) : UpS g q rb p14 L x y gone a5 n5 c5 a4 n4 c4 W sv A w s 3 f2 ((u.setCell ⟨rb + 2, 0, none⟩ (.int .i64 (y.W : Int))).setCell ⟨rb + 2, 1, none⟩ (.slice a5 n5 c5)) := by
  obtain ⟨⟨h1, h2⟩, h3, h4⟩ := h
  obtain ⟨ra, rbb, hr⟩ := h1.rs
  have hk : KeepB [rb + 2] u ((u.setCell ⟨rb + 2, 0, none⟩ (.int .i64 (y.W : Int))).setCell ⟨rb + 2, 1, none⟩ (.slice a5 n5 c5)) := (KeepB.setCell _).trans (KeepB.setCell _)
  have hne : ∀ i, i ≠ rb + 2 → i < u.heap.size → ((u.setCell ⟨rb + 2, 0, none⟩ (.int .i64 (y.W : Int))).setCell ⟨rb + 2, 1, none⟩ (.slice a5 n5 c5)).heap[i]? = u.heap[i]? := fun i hi hl => hk.block i hl (fun e => hi (List.mem_singleton.1 e))
  have hsz := h1.sz
  have h3l := h3.lt
  have hp2 := put2 hr (.int .i64 (y.W : Int)) (.slice a5 n5 c5)
  refine ⟨⟨⟨h1.kb.strike2 hk (fun p hp => by rw [List.mem_singleton.1 hp]; omega), h1.xb.kept (hne rb (by omega) h1.xb.lt), h1.ab.kept (hne (rb + 1) (by omega) h1.ab.lt), ⟨_, _, hp2⟩, hsz⟩, h2.kept (hne p14 hp h2.lt)⟩, h3.keptB hk (fun e => by rw [List.mem_singleton] at e; omega) (fun e => by rw [List.mem_singleton] at e; omega) (fun p hp _ => by obtain rfl := List.mem_singleton.1 hp; exact ⟨_, _, hr, by decide⟩), h4.keptB2 hk (fun p hp => by rw [List.mem_singleton.1 hp]; simp), hp2⟩
end
end Go.Proofs.YtkggmcnocpgnbaaDoor.K
