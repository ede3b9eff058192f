/- The walks of a grid: a grid and the document's in its block, alike. -/
import Derived.Test.YtkggmcnocpgnbaaDoorMerged21
import Derived.Test.YtkggmcnocpgnbaaDoorMerged12
import Derived.Test.YtkggmcnocpgnbaaDoorMerged13
namespace Go.Proofs.YtkggmcnocpgnbaaDoor.K
open Go.RowKit

/-- a grid, and the document's: its value v; the block px of it holds W and sv; m: where the call's own begins; oa: an act that lies in a block -/
structure SynQ (m g px : Nat) (oa : Option (Nat × ActG)) (x : Gd) (v : Value) (W : Nat) (sv : Value) (w0 w : World) : Prop where
  ex : ∃ q L, m ≤ q ∧ (∀ p ∈ L, p < w.heap.size) ∧ g ∈ L ∧ q ∈ L ∧ px ∈ L ∧ Gr g q x w ∧ RefG L v x w
  xb : GrB px W sv w
  g : m ≤ g
  px : m ≤ px
  b : Below m w0 w
  m : m ≤ w.heap.size
  oa : ∀ p A, oa = some (p, A) → ActB p A w
section
variable {m g px : Nat} {oa : Option (Nat × ActG)} {x y : Gd} {v : Value} {Wx : Nat} {sv : Value} {w0 w w' : World}
theorem SynQ.below (h : SynQ m g px oa x v Wx sv w0 w) (hb : Below w.heap.size w w') : SynQ m g px oa x v Wx sv w0 w' := by
  obtain ⟨⟨q, L, hq, hL, hgL, hqL, hpL, h1, h2⟩, hx, hg, hpx, hb0, hm, ho⟩ := h
  exact ⟨⟨q, L, hq, fun p hp => Nat.lt_of_lt_of_le (hL p hp) hb.size, hgL, hqL, hpL, h1.below hb, h2.below hb⟩, hx.belowAll hb, hg, hpx, hb0.trans (hb.mono hm), Nat.le_trans hm hb.size, fun p A e => (ho p A e).kept (hb.block p (ho p A e).lt)⟩
theorem SynQ.ok (h : SynQ m g px oa x v Wx sv w0 w) : GdOk x := by
  obtain ⟨q, L, -, -, -, -, -, h1, -⟩ := h.ex
  exact h1.ok
/-- a block of another type is not the grid's -/
theorem Gr.ne {g q : Nat} {x : Gd} {w : World} (h : Gr g q x w) {p : Nat} {cs : Array Value} {T : TypeId} (hp : w.heap[p]? = some (.cells cs T (0, 0))) (h1 : T ≠ 130) (h2 : T ≠ 27) : p ≠ g ∧ p ≠ q := by
  obtain ⟨us, cap, h⟩ := h
  refine ⟨fun e => ?_, fun e => ?_⟩
  · have hg := h.gb
    rw [← e, hp] at hg
    injection hg with hg
    injection hg with hg h3
    exact h1 h3
  · obtain ⟨cs', hq⟩ := h.qb
    rw [← e, hp] at hq
    injection hq with hq
    injection hq with hq h3
    exact h2 h3
/-- while do is called -/
theorem SynQ.call {A : ActG} (h : SynQ m g px oa x v Wx sv w0 w) (hT : W.Tab w) (hra : RngA A.row) :
    Calls Tryd.prog 37 #[.pointer (some ⟨g, 0, none⟩), v, .agg (actC A)] w fun e w' => ∃ v', e = .returned (.tuple #[v', .bool true]) ∧ SynQ m g px oa (stepG x A) v' Wx sv w0 w' := by
  obtain ⟨⟨q, L, hq, hL, hgL, hqL, hpL, h1, h2⟩, hx, hg, hpx, hb0, hm, ho⟩ := h
  refine (lawDo_any w hT hra h1 h2 hgL hqL hL).mono ?_
  rintro e w' ⟨v', q', rfl, h3, h4, h5, h6⟩
  have hs := h6.size
  have hkx : w'.heap[px]? = w.heap[px]? := h6.block px hx.lt (fun e => by
    have h2 : px = g ∨ px = q := by simpa using e
    have := h1.ne hx (by decide) (by decide)
    rcases h2 with h2 | h2
    · exact this.1 h2
    · exact this.2 h2)
  refine ⟨v', rfl, ⟨q', q' :: L, ?_, fun p hp => ?_, List.mem_cons_of_mem _ hgL, by simp, List.mem_cons_of_mem _ hpL, h3, h4⟩, hx.kept hkx, hg, hpx, h6.below (fun i hi => ?_) hb0 hm, Nat.le_trans hm hs, fun p A e => ?_⟩
  · rcases h5 with rfl | h5
    · exact hq
    · omega
  · rcases List.mem_cons.1 hp with rfl | hp
    · exact h3.lt.2
    · have := hL p hp; omega
  · have : i = g ∨ i = q := by simpa using hi
    omega
  · have hp := ho p A e
    exact hp.kept (h6.block p hp.lt (fun e => by
      have h2 : p = g ∨ p = q := by simpa using e
      have := h1.ne hp (by decide) (by decide)
      rcases h2 with h2 | h2
      · exact this.1 h2
      · exact this.2 h2))
theorem SynQ.shape (h : SynQ m g px oa x v Wx sv w0 w) : ∃ a n c, v = refV x.W a n c := by
  obtain ⟨q, L, -, -, -, -, -, -, a, n, c, e, -⟩ := h.ex
  exact ⟨a, n, c, e⟩
/-- the document's is stored -/
theorem SynQ.store {a : Option Addr} {n c : Nat} (h : SynQ m g px oa x (refV x.W a n c) Wx sv w0 w) :
    SynQ m g px oa x (refV x.W a n c) x.W (.slice a n c) w0 ((w.setCell ⟨px, 0, none⟩ (.int .i64 (x.W : Int))).setCell ⟨px, 1, none⟩ (.slice a n c)) := by
  obtain ⟨⟨q, L, hq, hL, hgL, hqL, hpL, h1, h2⟩, hx, hg, hpx, hb0, hm, ho⟩ := h
  have hk : KeepB [px] w ((w.setCell ⟨px, 0, none⟩ (.int .i64 (x.W : Int))).setCell ⟨px, 1, none⟩ (.slice a n c)) := (KeepB.setCell _).trans (KeepB.setCell _)
  have hne := h1.ne hx (by decide) (by decide)
  have hs := hk.size
  refine ⟨⟨q, L, hq, fun p hp => Nat.lt_of_lt_of_le (hL p hp) hs, hgL, hqL, hpL, h1.keptB hk (by simpa using fun e => hne.1 e.symm) (by simpa using fun e => hne.2 e.symm) (fun p hp _ => ?_), h2.keptB2 hk (fun p hp => ?_)⟩, ?_, hg, hpx, hk.below (fun i hi => by rw [show i = px by simpa using hi]; exact hpx) hb0 hm, Nat.le_trans hm hs, fun p A e => ?_⟩
  · obtain rfl : p = px := by simpa using hp
    exact ⟨_, _, hx, by decide⟩
  · obtain rfl : p = px := by simpa using hp
    exact hpL
  · unfold GrB at hx ⊢
    simp [World.setCell, Array.getElem?_modify, hx]
  · have hp := ho p A e
    refine hp.kept (hk.block p hp.lt (fun e => ?_))
    obtain rfl : p = px := by simpa using e
    have h5 : w.heap[p]? = _ := hp
    rw [show w.heap[p]? = _ from hx] at h5
    injection h5 with h5
    injection h5 with h5 h6
    exact absurd h6 (by decide)
end
/-- it is laid -/
theorem SynQ.init {m g q : Nat} {L : List Nat} {oa : Option (Nat × ActG)} {x : Gd} {a : Option Addr} {n c : Nat} {w0 w : World} (hg : m ≤ g) (hq : m ≤ q) (hL : ∀ p ∈ L, p < w.heap.size) (h1 : Gr g q x w) (h2 : RefG L (refV x.W a n c) x w) (hgL : g ∈ L) (hqL : q ∈ L) (hb : Below m w0 w) (hm : m ≤ w.heap.size) (ho : ∀ p A, oa = some (p, A) → ActB p A w) :
    SynQ m g w.heap.size oa x (refV x.W a n c) x.W (.slice a n c) w0 (w.alloc (.cells #[.int .i64 (x.W : Int), .slice a n c] 82)) := by
  have b1 : Below w.heap.size w (w.alloc (.cells #[.int .i64 (x.W : Int), .slice a n c] 82)) := (Below.refl _ _).alloc (Nat.le_refl _) _
  have hs : (w.alloc (.cells #[.int .i64 (x.W : Int), .slice a n c] 82)).heap.size = w.heap.size + 1 := World.size_alloc _ _
  obtain ⟨a', n', c', e, h3⟩ := h2
  refine ⟨⟨q, w.heap.size :: L, hq, fun p hp => ?_, List.mem_cons_of_mem _ hgL, List.mem_cons_of_mem _ hqL, by simp, h1.below b1, a', n', c', e, (h3.cons (Nat.le_refl _)).below b1⟩, GrB.new w x.W _, hg, hm, hb.trans (b1.mono hm), by omega, fun p A e => (ho p A e).kept (b1.block p (ho p A e).lt)⟩
  rcases List.mem_cons.1 hp with rfl | hp
  · omega
  · have := hL p hp; omega
/-- a round's region: a call of both, and the document's stored -/
def StG (m g px : Nat) (oa : Option (Nat × ActG)) (x y : Gd) (a : Option Addr) (n c : Nat) (w0 : World) (s1 s2 s3 : Nat) : Nat → (Nat → Value) → World → Prop
  | 0, _, u => SynQ m g px oa x (refV x.W a n c) x.W (.slice a n c) w0 u
  | 1, _, u => SynQ m g px oa x (refV x.W a n c) x.W (.slice a n c) w0 u
  | 2, f, u => ∃ v', f s1 = .tuple #[v', .bool true] ∧ SynQ m g px oa y v' x.W (.slice a n c) w0 u
  | 3, f, u => ∃ v', f s2 = .tuple #[v', .bool true] ∧ SynQ m g px oa y v' x.W (.slice a n c) w0 u
  | 4, f, u => SynQ m g px oa y (f s3) x.W (.slice a n c) w0 u
  | _, _, u => ∃ a2 n2 c2, SynQ m g px oa y (refV y.W a2 n2 c2) y.W (.slice a2 n2 c2) w0 u
theorem StG.xb {m g px : Nat} {oa : Option (Nat × ActG)} {x y : Gd} {a : Option Addr} {n c : Nat} {w0 : World} {s1 s2 s3 k : Nat} {f : Nat → Value} {u : World} (h : StG m g px oa x y a n c w0 s1 s2 s3 k f u) : Below m w0 u ∧ m ≤ u.heap.size := by
  match k, h with
  | 0, h => exact ⟨h.b, h.m⟩
  | 1, h => exact ⟨SynQ.b h, SynQ.m h⟩
  | 2, ⟨_, _, h⟩ => exact ⟨h.b, h.m⟩
  | 3, ⟨_, _, h⟩ => exact ⟨h.b, h.m⟩
  | 4, h => exact ⟨SynQ.b h, SynQ.m h⟩
  | _ + 5, ⟨_, _, _, h⟩ => exact ⟨h.b, h.m⟩
theorem StG.cong {m g px : Nat} {oa : Option (Nat × ActG)} {x y : Gd} {a : Option Addr} {n c : Nat} {w0 : World} {s1 s2 s3 k : Nat} {f f2 : Nat → Value} {u : World} (e1 : k = 2 → f s1 = f2 s1) (e2 : k = 3 → f s2 = f2 s2) (e3 : k = 4 → f s3 = f2 s3) (h : StG m g px oa x y a n c w0 s1 s2 s3 k f u) : StG m g px oa x y a n c w0 s1 s2 s3 k f2 u := by
  match k, h, e1, e2, e3 with
  | 0, h, _, _, _ => exact h
  | 1, h, _, _, _ => exact h
  | 2, ⟨v, e, h⟩, e1, _, _ => exact ⟨v, by rw [← e1 rfl]; exact e, h⟩
  | 3, ⟨v, e, h⟩, _, e2, _ => exact ⟨v, by rw [← e2 rfl]; exact e, h⟩
  | 4, h, _, _, e3 => show SynQ _ _ _ _ _ (f2 s3) _ _ _ _; rw [← e3 rfl]; exact h
  | _ + 5, h, _, _, _ => exact h
end Go.Proofs.YtkggmcnocpgnbaaDoor.K

/- The law's Is of a grid: is it the document's? -/
namespace Go.Proofs.YtkggmcnocpgnbaaDoor.K
open Go.RowKit

/-- while Is runs: the document's grid is in block p -/
structure IsI (g q : Nat) (L : List Nat) (x : Gd) (W0 : Nat) (a : Option Addr) (n c p : Nat) (ta : Option Addr) (tc rb : Nat) (w u : World) : Prop where
  gr : Gr g q x u
  rl : RowsL .i64 L a n c x.rs u
  xb : GrB p W0 (.slice a n c) u
  tx : StrsIn ta n tc (x.rs.map txt) u
  b : Below rb w u
  s : rb ≤ u.heap.size
theorem IsI.below {g q : Nat} {L : List Nat} {x : Gd} {W0 : Nat} {a : Option Addr} {n c p : Nat} {ta : Option Addr} {tc rb : Nat} {w u v : World} (h : IsI g q L x W0 a n c p ta tc rb w u) (hb : Below u.heap.size u v) : IsI g q L x W0 a n c p ta tc rb w v :=
  ⟨h.gr.below hb, h.rl.below hb, h.xb.belowAll hb, h.tx.belowAll hb, h.b.trans (hb.mono h.s), Nat.le_trans h.s hb.size⟩
structure Is8 (g q : Nat) (L : List Nat) (x : Gd) (W0 : Nat) (a : Option Addr) (n c p tb tof tc rb : Nat) (ya : Option Addr) (yn yc : Nat) (yb : Bool) (p9 : Nat) (r : Ro) (w u : World) : Prop where
  i : IsI g q L x W0 a n c p (some ⟨tb, tof, none⟩) tc rb w u
  ro : RoB 38 p9 (.slice ya yn yc) yb u
  ry : RowV .i64 (.agg #[.slice ya yn yc, .bool yb]) r u
theorem Is8.below {g q : Nat} {L : List Nat} {x : Gd} {W0 : Nat} {a : Option Addr} {n c p tb tof tc rb : Nat} {ya : Option Addr} {yn yc : Nat} {yb : Bool} {p9 : Nat} {r : Ro} {w u v : World} (h : Is8 g q L x W0 a n c p tb tof tc rb ya yn yc yb p9 r w u) (hb : Below u.heap.size u v) : Is8 g q L x W0 a n c p tb tof tc rb ya yn yc yb p9 r w v :=
  ⟨h.i.below hb, h.ro.belowAll hb, h.ry.belowAll hb⟩
theorem Is8.cell {g q : Nat} {L : List Nat} {x : Gd} {W0 : Nat} {a : Option Addr} {n c p tb tof tc rb : Nat} {ya : Option Addr} {yn yc : Nat} {yb : Bool} {p9 : Nat} {r : Ro} {w u : World} (h : Is8 g q L x W0 a n c p tb tof tc rb ya yn yc yb p9 r w u) {j : Nat} {T : ByteArray} (hT : (x.rs.map txt)[j]? = some T) : u.cell? ⟨tb, tof + j, none⟩ = some (.string T) := by
  obtain ⟨b, off, e, -, hi⟩ := h.i.tx.at_.resolve_left (fun e => by rw [e] at hT; simp at hT)
  cases e
  exact hi j T hT
end Go.Proofs.YtkggmcnocpgnbaaDoor.K

/- Two grids, each with the document's in its block, alike; a round's region, of any such state. -/
namespace Go.Proofs.YtkggmcnocpgnbaaDoor.K
open Go.RowKit

theorem Gr.ne2 {g q c q2 : Nat} {x y : Gd} {w : World} (h : Gr g q x w) (k : Gr c q2 y w) : g ≠ q2 := fun e => by
  obtain ⟨us, cap, h⟩ := h
  obtain ⟨us2, cap2, k⟩ := k
  have hg := h.gb
  obtain ⟨cs, hq⟩ := k.qb
  rw [e, hq] at hg
  injection hg with hg
  injection hg with hg h2
  exact absurd h2 (by decide)
theorem Gr.grid {g q : Nat} {x : Gd} {w : World} (h : Gr g q x w) : ∃ cs, w.heap[g]? = some (.cells cs 130 (0, 0)) := by
  obtain ⟨us, cap, h⟩ := h
  exact ⟨_, h.gb⟩
theorem Gr.rows {g q : Nat} {x : Gd} {w : World} (h : Gr g q x w) : ∃ cs, w.heap[q]? = some (.cells cs 27 (0, 0)) := by
  obtain ⟨us, cap, h⟩ := h
  exact h.qb
/-- g stands still, with x in px; c is called, with y in py -/
structure Syn2 (m g px : Nat) (x : Gd) (a0 : Option Addr) (n0 c0 : Nat) (c py : Nat) (y : Gd) (v2 : Value) (Wy : Nat) (sv : Value) (w0 w : World) : Prop where
  ex : ∃ q q2 L, (m ≤ q ∧ m ≤ q2 ∧ q ≠ q2) ∧ (∀ p ∈ L, p < w.heap.size) ∧ (g ∈ L ∧ q ∈ L ∧ px ∈ L) ∧ (c ∈ L ∧ q2 ∈ L ∧ py ∈ L) ∧ Gr g q x w ∧ RefG L (refV x.W a0 n0 c0) x w ∧ Gr c q2 y w ∧ RefG L v2 y w
  xb : GrB px x.W (.slice a0 n0 c0) w
  yb : GrB py Wy sv w
  ne : g ≠ c ∧ px ≠ py
  bd : m ≤ g ∧ m ≤ px ∧ m ≤ c ∧ m ≤ py
  b : Below m w0 w
  m : m ≤ w.heap.size
section
variable {m g px : Nat} {x : Gd} {a0 : Option Addr} {n0 c0 : Nat} {c py : Nat} {y : Gd} {v2 : Value} {Wy : Nat} {sv : Value} {w0 w w' : World}
theorem Syn2.below (h : Syn2 m g px x a0 n0 c0 c py y v2 Wy sv w0 w) (hb : Below w.heap.size w w') : Syn2 m g px x a0 n0 c0 c py y v2 Wy sv w0 w' := by
  obtain ⟨⟨q, q2, L, hq, hL, hm1, hm2, h1, h2, h3, h4⟩, hx, hy, hne, hbd, hb0, hm⟩ := h
  exact ⟨⟨q, q2, L, hq, fun p hp => Nat.lt_of_lt_of_le (hL p hp) hb.size, hm1, hm2, h1.below hb, h2.below hb, h3.below hb, h4.below hb⟩, hx.belowAll hb, hy.belowAll hb, hne, hbd, hb0.trans (hb.mono hm), Nat.le_trans hm hb.size⟩
theorem RefG.consNew {L : List Nat} {v : Value} {x : Gd} {w : World} (h : RefG L v x w) {q : Nat} (hq : w.heap.size ≤ q) : RefG (q :: L) v x w := by
  obtain ⟨a, n, c, e, h⟩ := h
  exact ⟨a, n, c, e, h.cons hq⟩
theorem Syn2.call {A : ActG} (h : Syn2 m g px x a0 n0 c0 c py y v2 Wy sv w0 w) (hT : W.Tab w) (hra : RngA A.row) :
    Calls Tryd.prog 37 #[.pointer (some ⟨c, 0, none⟩), v2, .agg (actC A)] w fun e w' => ∃ v', e = .returned (.tuple #[v', .bool true]) ∧ Syn2 m g px x a0 n0 c0 c py (stepG y A) v' Wy sv w0 w' := by
  obtain ⟨⟨q, q2, L, hq, hL, hm1, hm2, h1, h2, h3, h4⟩, hx, hy, hne, hbd, hb0, hm⟩ := h
  refine (lawDo_any w hT hra h3 h4 hm2.1 hm2.2.1 hL).mono ?_
  rintro e w' ⟨v', q', rfl, k3, k4, k5, k6⟩
  have hs := k6.size
  have hmem : ∀ {i}, i ∈ [c, q2] → i = c ∨ i = q2 := fun hi => by simpa using hi
  have kx := h3.ne hx (by decide) (by decide)
  have ky := h3.ne hy (by decide) (by decide)
  have hgq := h1.ne2 h3
  have hcq := h3.ne2 h1
  obtain ⟨csc, hc1⟩ := h3.grid
  obtain ⟨csq, hc2⟩ := h3.rows
  have g1 : Gr g q x w' := h1.keptB k6 (fun e => by rcases hmem e with e | e; exact hne.1 e; exact hgq e) (fun e => by rcases hmem e with e | e; exact hcq e.symm; exact hq.2.2 e) (fun p hp _ => by
    rcases hmem hp with rfl | rfl
    · exact ⟨_, _, hc1, by decide⟩
    · exact ⟨_, _, hc2, by decide⟩)
  have g2 : RefG (q' :: L) (refV x.W a0 n0 c0) x w' := by
    have hk : ∀ p ∈ [c, q2], p ∈ q' :: L := fun p hp => by
      rcases hmem hp with rfl | rfl
      · exact List.mem_cons_of_mem _ hm2.1
      · exact List.mem_cons_of_mem _ hm2.2.1
    rcases k5 with rfl | k5
    · exact (h2.consMem hm2.2.1).keptB2 k6 hk
    · exact (h2.consNew k5).keptB2 k6 hk
  refine ⟨v', rfl, ⟨q, q', q' :: L, ⟨hq.1, ?_, ?_⟩, fun p hp => ?_, ⟨List.mem_cons_of_mem _ hm1.1, List.mem_cons_of_mem _ hm1.2.1, List.mem_cons_of_mem _ hm1.2.2⟩, ⟨List.mem_cons_of_mem _ hm2.1, by simp, List.mem_cons_of_mem _ hm2.2.2⟩, g1, g2, k3, k4⟩, hx.kept (k6.block px hx.lt (fun e => by rcases hmem e with e | e; exact kx.1 e; exact kx.2 e)), hy.kept (k6.block py hy.lt (fun e => by rcases hmem e with e | e; exact ky.1 e; exact ky.2 e)), hne, hbd, k6.below (fun i hi => ?_) hb0 hm, Nat.le_trans hm hs⟩
  · rcases k5 with rfl | k5
    · exact hq.2.1
    · omega
  · rcases k5 with rfl | k5
    · exact hq.2.2
    · have := h1.lt; omega
  · rcases List.mem_cons.1 hp with rfl | hp
    · exact k3.lt.2
    · have := hL p hp; omega
  · have := hmem hi
    omega
theorem Syn2.shape (h : Syn2 m g px x a0 n0 c0 c py y v2 Wy sv w0 w) : ∃ a n cc, v2 = refV y.W a n cc := by
  obtain ⟨q, q2, L, -, -, -, -, -, -, -, a, n, cc, e, -⟩ := h.ex
  exact ⟨a, n, cc, e⟩
theorem Syn2.store {a : Option Addr} {n cc : Nat} (h : Syn2 m g px x a0 n0 c0 c py y (refV y.W a n cc) Wy sv w0 w) :
    Syn2 m g px x a0 n0 c0 c py y (refV y.W a n cc) y.W (.slice a n cc) w0 ((w.setCell ⟨py, 0, none⟩ (.int .i64 (y.W : Int))).setCell ⟨py, 1, none⟩ (.slice a n cc)) := by
  obtain ⟨⟨q, q2, L, hq, hL, hm1, hm2, h1, h2, h3, h4⟩, hx, hy, hne, hbd, hb0, hm⟩ := h
  have hk : KeepB [py] w ((w.setCell ⟨py, 0, none⟩ (.int .i64 (y.W : Int))).setCell ⟨py, 1, none⟩ (.slice a n cc)) := (KeepB.setCell _).trans (KeepB.setCell _)
  have hs := hk.size
  have n1 := h1.ne hy (by decide) (by decide)
  have n3 := h3.ne hy (by decide) (by decide)
  have hty : ∀ p ∈ [py], p < w.heap.size → ∃ cs T, w.heap[p]? = some (.cells cs T (0, 0)) ∧ T ≠ 105 := fun p hp _ => by
    obtain rfl : p = py := by simpa using hp
    exact ⟨_, _, hy, by decide⟩
  have hin : ∀ p ∈ [py], p ∈ L := fun p hp => by
    obtain rfl : p = py := by simpa using hp
    exact hm2.2.2
  refine ⟨⟨q, q2, L, hq, fun p hp => Nat.lt_of_lt_of_le (hL p hp) hs, hm1, hm2, h1.keptB hk (by simpa using fun e => n1.1 e.symm) (by simpa using fun e => n1.2 e.symm) hty, h2.keptB2 hk hin, h3.keptB hk (by simpa using fun e => n3.1 e.symm) (by simpa using fun e => n3.2 e.symm) hty, h4.keptB2 hk hin⟩, hx.kept (hk.block px hx.lt (fun e => hne.2 (by simpa using e))), ?_, hne, hbd, hk.below (fun i hi => by rw [show i = py by simpa using hi]; exact hbd.2.2.2) hb0 hm, Nat.le_trans hm hs⟩
  unfold GrB at hy ⊢
  simp [World.setCell, Array.getElem?_modify, hy]
theorem Syn2.same (h : Syn2 m g px x a0 n0 c0 c py y v2 Wy sv w0 w) :
    Calls Tryd.prog 46 #[.pointer (some ⟨g, 0, none⟩), .pointer (some ⟨c, 0, none⟩)] w fun e w' => e = .returned (.bool (decide (x.rs = y.rs))) ∧ Below w.heap.size w w' := by
  obtain ⟨q, q2, L, -, -, -, -, h1, h2, h3, h4⟩ := h.ex
  exact gsame_any w h1 h3
end
theorem Syn2.init {m g px : Nat} {x : Gd} {a : Option Addr} {n c : Nat} {w0 wr z : World} (h : SynQ m g px none x (refV x.W a n c) x.W (.slice a n c) w0 wr) (hb : Below wr.heap.size wr z) {c2 q2 p : Nat} (hc : wr.heap.size ≤ c2) (hq2 : wr.heap.size ≤ q2) (hp : wr.heap.size ≤ p) (hG : Gr c2 q2 x z) (hP : GrB p x.W (.slice a n c) z) :
    Syn2 m g px x a n c c2 p x (refV x.W a n c) x.W (.slice a n c) w0 z := by
  obtain ⟨⟨q, L, hq, hL, hgL, hqL, hpL, h1, h2⟩, hx, hg, hpx, hb0, hm, ho⟩ := h
  have hl := h1.lt
  have hxl := hx.lt
  have h3 := (((h2.consNew hq2).consNew hc).consNew hp).below hb
  have hin : ∀ {i}, i ∈ L → i ∈ p :: c2 :: q2 :: L := fun hi => List.mem_cons_of_mem _ (List.mem_cons_of_mem _ (List.mem_cons_of_mem _ hi))
  refine ⟨⟨q, q2, p :: c2 :: q2 :: L, ⟨hq, by omega, by omega⟩, fun i hi => ?_, ⟨hin hgL, hin hqL, hin hpL⟩, ⟨by simp, by simp, by simp⟩, h1.below hb, h3, hG, h3⟩, hx.belowAll hb, hP, ⟨by omega, by omega⟩, ⟨hg, hpx, by omega, by omega⟩, hb0.trans (hb.mono hm), Nat.le_trans hm hb.size⟩
  have hsz := hb.size
  have hGl := hG.lt
  have hPl := hP.lt
  rcases List.mem_cons.1 hi with rfl | hi
  · exact hPl
  · rcases List.mem_cons.1 hi with rfl | hi
    · exact hGl.1
    · rcases List.mem_cons.1 hi with rfl | hi
      · exact hGl.2
      · have := hL i hi; omega
theorem GdOk.wide {x y : Gd} (hx : GdOk x) (hy : GdOk y) (h : x.rs = y.rs) : x.W = y.W := by
  have h1 := hx.h1
  have hm := List.getElem_mem (l := x.rs) (n := 0) (by omega)
  rw [← hx.len _ hm]
  exact hy.len _ (h ▸ hm)
/-- while a grid is cloned, and the document's copied -/
def ClS (x : Gd) (wr : World) (W0 : Nat) (sv : Value) : Nat → (Nat → Value) → World → Prop
  | 0, _, u => Below wr.heap.size wr u
  | 1, f, u => Below wr.heap.size wr u ∧ ∃ c q2, f 43 = .pointer (some ⟨c, 0, none⟩) ∧ wr.heap.size ≤ c ∧ wr.heap.size ≤ q2 ∧ Gr c q2 x u
  | 2, f, u => Below wr.heap.size wr u ∧ ∃ c q2, f 9 = .pointer (some ⟨c, 0, none⟩) ∧ wr.heap.size ≤ c ∧ wr.heap.size ≤ q2 ∧ Gr c q2 x u
  | _, f, u => Below wr.heap.size wr u ∧ ∃ c q2 p, f 9 = .pointer (some ⟨c, 0, none⟩) ∧ f 10 = .pointer (some ⟨p, 0, none⟩) ∧ wr.heap.size ≤ c ∧ wr.heap.size ≤ q2 ∧ wr.heap.size ≤ p ∧ Gr c q2 x u ∧ GrB p W0 sv u
section
variable {x : Gd} {wr : World} {W0 : Nat} {sv : Value} {k : Nat} {f f2 : Nat → Value} {u u' : World}
theorem ClS.b (h : ClS x wr W0 sv k f u) : Below wr.heap.size wr u := by
  match k, h with
  | 0, h => exact h
  | 1, h => exact h.1
  | 2, h => exact h.1
  | _ + 3, h => exact h.1
theorem ClS.below (h : ClS x wr W0 sv k f u) (hb : Below u.heap.size u u') : ClS x wr W0 sv k f u' := by
  have h0 : Below wr.heap.size wr u' := (ClS.b h).trans (hb.mono (ClS.b h).size)
  match k, h with
  | 0, _ => exact h0
  | 1, ⟨_, c, q2, e, h1, h2, h3⟩ => exact ⟨h0, c, q2, e, h1, h2, h3.below hb⟩
  | 2, ⟨_, c, q2, e, h1, h2, h3⟩ => exact ⟨h0, c, q2, e, h1, h2, h3.below hb⟩
  | _ + 3, ⟨_, c, q2, p, e, e2, h1, h2, h3, h4, h5⟩ => exact ⟨h0, c, q2, p, e, e2, h1, h2, h3, h4.below hb, h5.belowAll hb⟩
theorem ClS.cong (e1 : k = 1 → f 43 = f2 43) (e2 : k = 2 → f 9 = f2 9) (e3 : 3 ≤ k → f 9 = f2 9 ∧ f 10 = f2 10) (h : ClS x wr W0 sv k f u) : ClS x wr W0 sv k f2 u := by
  match k, h, e1, e2, e3 with
  | 0, h, _, _, _ => exact h
  | 1, ⟨h0, c, q2, e, h⟩, e1, _, _ => exact ⟨h0, c, q2, by rw [← e1 rfl]; exact e, h⟩
  | 2, ⟨h0, c, q2, e, h⟩, _, e2, _ => exact ⟨h0, c, q2, by rw [← e2 rfl]; exact e, h⟩
  | _ + 3, ⟨h0, c, q2, p, e, e', h⟩, _, _, e3 => exact ⟨h0, c, q2, p, by rw [← (e3 (by omega)).1]; exact e, by rw [← (e3 (by omega)).2]; exact e', h⟩
end
/-- where a document's grid lies, one stays -/
def GrR (w w' : World) : Prop := ∀ (p : Nat) (a b : Value), w.heap[p]? = some (.cells #[a, b] 82 (0, 0)) → ∃ a b : Value, w'.heap[p]? = some (.cells #[a, b] 82 (0, 0))
theorem GrR.refl (w : World) : GrR w w := fun _ _ _ h => ⟨_, _, h⟩
theorem GrR.below {w w' : World} (hb : Below w.heap.size w w') : GrR w w' := fun p _ _ h => ⟨_, _, (hb.block p (Array.getElem?_eq_some_iff.1 h).1).trans h⟩
theorem GrR.set2 {w : World} {q : Nat} {a b a2 b2 : Value} (h : w.heap[q]? = some (.cells #[a, b] 82 (0, 0))) : GrR w ((w.setCell ⟨q, 0, none⟩ a2).setCell ⟨q, 1, none⟩ b2) := fun p c d hp => by
  by_cases e : p = q
  · subst e
    refine ⟨a2, b2, ?_⟩
    simp [World.setCell, Array.getElem?_modify, h]
  · exact ⟨c, d, ((Below.heap_setCell _ _ _ p e).trans (Below.heap_setCell _ _ _ p e)).trans hp⟩
theorem ClS.store {x : Gd} {wr : World} {W0 : Nat} {a : Option Addr} {n c : Nat} {f : Nat → Value} {u : World} {p : Nat} {a1 b1 : Value} (h : ClS x wr W0 (.slice a n c) 2 f u) (hp : wr.heap.size ≤ p) (hb : u.heap[p]? = some (.cells #[a1, b1] 82 (0, 0))) (h10 : f 10 = .pointer (some ⟨p, 0, none⟩)) :
    ClS x wr W0 (.slice a n c) 3 f ((u.setCell ⟨p, 0, none⟩ (.int .i64 (W0 : Int))).setCell ⟨p, 1, none⟩ (.slice a n c)) := by
  obtain ⟨h0, c2, q2, e, h1, h2, h3⟩ := h
  have hk : KeepB [p] u ((u.setCell ⟨p, 0, none⟩ (.int .i64 (W0 : Int))).setCell ⟨p, 1, none⟩ (.slice a n c)) := (KeepB.setCell _).trans (KeepB.setCell _)
  have n3 := h3.ne hb (by decide) (by decide)
  refine ⟨hk.below (fun i hi => by rw [show i = p by simpa using hi]; exact hp) h0 h0.size, c2, q2, p, e, h10, h1, h2, hp, h3.keptB hk (by simpa using fun e => n3.1 e.symm) (by simpa using fun e => n3.2 e.symm) (fun i hi _ => ?_), ?_⟩
  · obtain rfl : i = p := by simpa using hi
    exact ⟨_, _, hb, by decide⟩
  · unfold GrB
    simp [World.setCell, Array.getElem?_modify, hb]
/-- a round's region, of any such state -/
def StH (S : Gd → Value → Nat → Value → World → Prop) (x y : Gd) (a : Option Addr) (n c : Nat) (s1 s2 s3 : Nat) : Nat → (Nat → Value) → World → Prop
  | 0, _, u => S x (refV x.W a n c) x.W (.slice a n c) u
  | 1, _, u => S x (refV x.W a n c) x.W (.slice a n c) u
  | 2, f, u => ∃ v', f s1 = .tuple #[v', .bool true] ∧ S y v' x.W (.slice a n c) u
  | 3, f, u => ∃ v', f s2 = .tuple #[v', .bool true] ∧ S y v' x.W (.slice a n c) u
  | 4, f, u => S y (f s3) x.W (.slice a n c) u
  | _, _, u => ∃ a2 n2 c2, S y (refV y.W a2 n2 c2) y.W (.slice a2 n2 c2) u
theorem StH.b {S : Gd → Value → Nat → Value → World → Prop} {Q : World → Prop} (hS : ∀ x v W sv u, S x v W sv u → Q u) {x y : Gd} {a : Option Addr} {n c s1 s2 s3 k : Nat} {f : Nat → Value} {u : World} (h : StH S x y a n c s1 s2 s3 k f u) : Q u := by
  match k, h with
  | 0, h => exact hS _ _ _ _ _ h
  | 1, h => exact hS _ _ _ _ _ h
  | 2, ⟨_, _, h⟩ => exact hS _ _ _ _ _ h
  | 3, ⟨_, _, h⟩ => exact hS _ _ _ _ _ h
  | 4, h => exact hS _ _ _ _ _ h
  | _ + 5, ⟨_, _, _, h⟩ => exact hS _ _ _ _ _ h
theorem StH.cong {S : Gd → Value → Nat → Value → World → Prop} {x y : Gd} {a : Option Addr} {n c s1 s2 s3 k : Nat} {f f2 : Nat → Value} {u : World} (e1 : k = 2 → f s1 = f2 s1) (e2 : k = 3 → f s2 = f2 s2) (e3 : k = 4 → f s3 = f2 s3) (h : StH S x y a n c s1 s2 s3 k f u) : StH S x y a n c s1 s2 s3 k f2 u := by
  match k, h, e1, e2, e3 with
  | 0, h, _, _, _ => exact h
  | 1, h, _, _, _ => exact h
  | 2, ⟨v, e, h⟩, e1, _, _ => exact ⟨v, by rw [← e1 rfl]; exact e, h⟩
  | 3, ⟨v, e, h⟩, _, e2, _ => exact ⟨v, by rw [← e2 rfl]; exact e, h⟩
  | 4, h, _, _, e3 => show S _ (f2 s3) _ _ _; rw [← e3 rfl]; exact h
  | _ + 5, h, _, _, _ => exact h
end Go.Proofs.YtkggmcnocpgnbaaDoor.K

/- Rows that go up some at once, or one by one. -/
namespace Go.Proofs.YtkggmcnocpgnbaaDoor.K

theorem inL_same {α : Type} {l : List α} {t b : Nat} {f g : List α → List α} (h : f ((l.take (b + 1)).drop t) = g ((l.take (b + 1)).drop t)) : D.inL l t b f = D.inL l t b g := by
  unfold D.inL
  rw [h]
end Go.Proofs.YtkggmcnocpgnbaaDoor.K

/- Rows of the program's that are gathered, some at once. -/
namespace Go.Proofs.YtkggmcnocpgnbaaDoor.K
open Go.RowKit

/-- rows that were gathered, in memory of our own -/
structure GathP (T : TypeId) (L : List Nat) (base : Nat) (v : Value) (rs : List Ro) (w : World) : Prop where
  ex : ∃ us, OwnV T base v us w ∧ RowsV .i32 us rs w ∧ (∀ u ∈ us, Off L u) ∧ ∀ u ∈ us, Apart v u
theorem GathP.nil (T : TypeId) (L : List Nat) (base : Nat) (w : World) : GathP T L base (.slice none 0 0) [] w := ⟨[], OwnV.nil _ _ _, RowsV.nil _ _, (fun u hu => by cases hu), (fun u hu => by cases hu)⟩
theorem GathP.keptB {T : TypeId} {L M : List Nat} {base : Nat} {v : Value} {rs : List Ro} {w w' : World} (h : GathP T L base v rs w) (hk : KeepB M w w') (hM : ∀ p ∈ M, p ∈ L) (hv : ∀ q, v.ownBlock = some q → q ∉ M) : GathP T L base v rs w' := by
  obtain ⟨us, h1, h2, h3, h4⟩ := h
  refine ⟨us, ?_, ⟨h2.1, fun i u r hu hr => (h2.2 i u r hu hr).keptB (h3 u (List.mem_of_getElem? hu)) (hk.mono hM)⟩, h3, h4⟩
  refine ⟨h1.1, ?_⟩
  rcases h1.2 with h0 | ⟨g', c', cur, he, hbase, hgb, hc, hmx, hsz, ht⟩
  · exact .inl h0
  · exact .inr ⟨g', c', cur, he, hbase, (hk.block g' (Array.getElem?_eq_some_iff.1 hgb).1 (hv g' (by rw [he]; rfl))).trans hgb, hc, hmx, hsz, ht⟩
theorem GathP.own {T : TypeId} {L : List Nat} {base : Nat} {v : Value} {rs : List Ro} {w : World} (h : GathP T L base v rs w) : ∀ q, v.ownBlock = some q → base ≤ q ∧ q < w.heap.size ∧ ∃ cs, w.heap[q]? = some (.cells cs T (0, 0)) := fun q hq => by
  obtain ⟨us, h1, -⟩ := h.ex
  obtain ⟨cs, h2, h3, h4⟩ := U.own_type h1 hq
  exact ⟨h3, h4, cs, h2⟩
theorem GathP.shape {T : TypeId} {L : List Nat} {base : Nat} {v : Value} {rs : List Ro} {w : World} (h : GathP T L base v rs w) : ∃ a c us, v = .slice a rs.length c ∧ RvsIn a rs.length c us w ∧ RowsV .i32 us rs w := by
  obtain ⟨us, h1, h2, -⟩ := h.ex
  obtain ⟨a', c', e, h3, -⟩ := h1.shape
  rw [h2.1] at e h3
  exact ⟨a', c', us, e, h3, h2⟩
theorem GathP.rowsL {T : TypeId} {L : List Nat} {base : Nat} {a : Option Addr} {n c : Nat} {rs : List Ro} {w : World} (h : GathP T L base (.slice a n c) rs w) : RowsL .i32 [] a n c rs w := by
  obtain ⟨us, h1, h2, h3, -⟩ := h.ex
  obtain ⟨a', c', e, -⟩ := h1.shape
  cases e
  exact h1.rowsL h2 (fun u hu hn b off e hb => by cases hb) (fun p hp => by cases hp)
theorem rowSame_self {x1 x2 : Option Addr} {m1 y1 m2 y2 : Nat} {g1 g2 : Bool} {r : Ro} {w : World} (h1 : RowV .i32 (.agg #[.slice x1 m1 y1, .bool g1]) r w) (h2 : RowV .i32 (.agg #[.slice x2 m2 y2, .bool g2]) r w) (hn : r.l.length ≤ 1000) :
    Calls Tryd.prog 42 #[.agg #[.slice x1 m1 y1, .bool g1], .agg #[.slice x2 m2 y2, .bool g2]] w fun e w' => e = .returned (.bool true) ∧ Below w.heap.size w w' := by
  obtain ⟨rfl, i1, -, -, -, e1⟩ := h1.of
  obtain ⟨rfl, i2, -, -, -, e2⟩ := h2.of
  have h := rowSame_any x1 x2 m1 m2 y1 y2 r.wrapped r.wrapped r.l r.l w i1 i2 (by omega) (by omega)
  rw [decide_eq_true rfl] at h
  exact h
theorem and_small (n : Int) (m : Nat) (hm : m < 4294967296) : ∃ t : Nat, bits .and .i64 n (m : Int) = (t : Int) ∧ t ≤ m := by
  refine ⟨(BitVec.ofInt 64 n &&& BitVec.ofInt 64 (m : Int)).toNat, ?_, ?_⟩
  · show IntKind.i64.wrap ((BitVec.ofInt 64 n &&& BitVec.ofInt 64 (m : Int)).toNat : Int) = _
    have h2 : (BitVec.ofInt 64 (m : Int)).toNat = m := by
      rw [BitVec.ofInt_natCast, BitVec.toNat_ofNat]; exact Nat.mod_eq_of_lt (by omega)
    have h3 : (BitVec.ofInt 64 n &&& BitVec.ofInt 64 (m : Int)).toNat ≤ m := by
      rw [BitVec.toNat_and, h2]; exact Nat.and_le_right
    rw [IntKind.wrap_i64]
    omega
  · rw [BitVec.toNat_and, BitVec.ofInt_natCast, BitVec.toNat_ofNat, Nat.mod_eq_of_lt (by omega : m < 2 ^ 64)]
    exact Nat.and_le_right
end Go.Proofs.YtkggmcnocpgnbaaDoor.K

/- Rows that go up by one, and down again. -/
namespace Go.Proofs.YtkggmcnocpgnbaaDoor.K

theorem setG_len (x : Gd) (y : Int) (r : Ro) : (setG x y r).rs.length = x.rs.length := by
  unfold setG
  split
  · show (x.rs.set _ _).length = _; rw [List.length_set]
  · rfl
theorem upG_len {x : Gd} (hx : GdOk x) (top bot n s : Int) : (upG x top bot n s).1.rs.length = x.rs.length := by
  unfold upG
  simp only
  split
  · rfl
  · exact D.inL_length (by omega) (plN_lt (by have := hx.h1; omega) _) (fun R => D.upR_length R _ _)
theorem downG_len {x : Gd} (hx : GdOk x) (top bot n s : Int) : (downG x top bot n s).1.rs.length = x.rs.length := by
  unfold downG
  simp only
  split
  · rfl
  · exact D.inL_length (by omega) (plN_lt (by have := hx.h1; omega) _) (fun R => D.downR_length R _ _)
/-- calls of kinds 0 to 2 keep how many rows there are -/
theorem stepG_len {x : Gd} (hx : GdOk x) {A : ActG} (h0 : 0 ≤ A.kind) (h3 : A.kind < 3) : (stepG x A).rs.length = x.rs.length := by
  unfold stepG
  split
  · exact setG_len _ _ _
  · split
    · exact upG_len hx _ _ _ _
    · split
      · exact downG_len hx _ _ _ _
      · omega
theorem plN_of {len t : Nat} (h : t < len) : plN len (t : Int) = t := by unfold plN; omega
/-- up by one, and down again: the region has a blank on top, else it is as before -/
theorem down_up {x : Gd} (hx : GdOk x) {t b : Nat} (htb : t ≤ b) (hb : b < x.rs.length) (s : Int) :
    (downG (upG x t b 1 s).1 t b 1 0).1 = ⟨x.W, D.inL x.rs t b fun R => D.downR (D.upR R 1 (blankR x.W s)) 1 (blankR x.W 0)⟩ := by
  have hl := upG_len hx (t : Int) (b : Int) 1 s
  have e1 : (upG x t b 1 s).1 = ⟨x.W, D.inL x.rs t b fun R => D.upR R 1 (blankR x.W s)⟩ := by
    unfold upG
    simp only
    rw [plN_of hb, plN_of (Nat.lt_of_le_of_lt htb hb), if_neg (by omega), show cntN 1 (b + 1 - t) = 1 by unfold cntN; omega]
  unfold downG
  simp only
  rw [hl, plN_of hb, plN_of (Nat.lt_of_le_of_lt htb hb), if_neg (by omega), show cntN 1 (b + 1 - t) = 1 by unfold cntN; omega, e1]
  simp only
  rw [D.inL_comp htb hb (fun R => D.upR_length R _ _)]
theorem gone_one {x : Gd} {t b : Nat} (htb : t ≤ b) (hb : b < x.rs.length) (s : Int) : (upG x t b 1 s).2 = [x.rs[t]'(Nat.lt_of_le_of_lt htb hb)] := by
  have ht := Nat.lt_of_le_of_lt htb hb
  unfold upG
  simp only
  rw [plN_of hb, plN_of ht, if_neg (by omega), show cntN 1 (b + 1 - t) = 1 by unfold cntN; omega]
  unfold regR
  show ((x.rs.take (b + 1)).drop t).take 1 = _
  have hlt : t < (x.rs.take (b + 1)).length := by rw [List.length_take]; omega
  rw [List.drop_eq_getElem_cons hlt]
  simp
/-- and the row that went set again: all is as before -/
theorem set_back {x : Gd} (hx : GdOk x) {t b : Nat} (htb : t ≤ b) (hb : b < x.rs.length) (s : Int) :
    setG (downG (upG x t b 1 s).1 t b 1 0).1 (t : Int) (x.rs[t]'(Nat.lt_of_le_of_lt htb hb)) = x := by
  have ht := Nat.lt_of_le_of_lt htb hb
  rw [down_up hx htb hb]
  have hR : ((x.rs.take (b + 1)).drop t).length = b + 1 - t := D.region_length htb hb
  have hlen : (D.inL x.rs t b fun R => D.downR (D.upR R 1 (blankR x.W s)) 1 (blankR x.W 0)).length = x.rs.length := D.inL_length htb hb (fun R => by rw [D.downR_length, D.upR_length])
  have hm := List.getElem_mem ht
  unfold setG
  simp only
  rw [hlen, if_pos (by omega), Int.toNat_natCast]
  have hz : resizeS (x.rs[t]) x.W = x.rs[t] := by
    have hn : nearN (x.W : Int) = x.W := by have := hx.w1; have := hx.w2; unfold nearN; omega
    unfold resizeS
    rw [hn, if_pos (hx.len _ hm).symm]
  rw [hz]
  obtain ⟨W, rs⟩ := x
  simp only at *
  congr 1
  unfold D.inL D.downR D.upR
  have hd : (rs.take (b + 1)).drop t = rs[t] :: (rs.take (b + 1)).drop (t + 1) := by
    rw [List.drop_eq_getElem_cons (by rw [List.length_take]; omega)]
    simp
  have hta : (rs.take t).length = t := by rw [List.length_take]; omega
  rw [hd]
  have hr2 : ((rs.take (b + 1)).drop (t + 1)).length = b - t := by rw [List.length_drop, List.length_take]; omega
  simp only [List.drop_succ_cons, List.drop_zero, List.length_cons, List.length_append, List.length_replicate, hr2]
  rw [show min 1 (b - t + 1) = 1 by omega, show min 1 (b - t + 1) = 1 by omega]
  rw [show b - t + 1 - 1 = b - t by omega]
  have e3 : ((rs.take (b + 1)).drop (t + 1) ++ List.replicate 1 (blankR W s)).take (b - t) = (rs.take (b + 1)).drop (t + 1) := by
    rw [List.take_append_of_le_length (by omega), List.take_of_length_le (by omega)]
  rw [e3]
  rw [List.append_assoc, List.set_append_right _ _ (by omega), hta, Nat.sub_self]
  simp only [List.replicate_one, List.singleton_append, List.cons_append, List.set_cons_zero]
  have h9 : rs.take t ++ (rs[t] :: (rs.take (b + 1)).drop (t + 1)) ++ rs.drop (b + 1) = rs := by
    rw [← hd]
    exact D.inL_id rs htb
  rw [List.append_assoc] at h9
  exact h9
/-- a place counts as the nearest -/
theorem upG_clip {x : Gd} (h6 : x.rs.length = 6) (t b : Nat) (s : Int) : upG x (t : Int) (b : Int) 1 s = upG x ((min t 5 : Nat) : Int) ((min b 5 : Nat) : Int) 1 s := by
  have h : ∀ n : Nat, plN 6 (n : Int) = plN 6 ((min n 5 : Nat) : Int) := fun n => by unfold plN; omega
  unfold upG
  rw [h6, h t, h b]
theorem upG_none {x : Gd} (h6 : x.rs.length = 6) {t b : Nat} (htb : b < t) (ht : t ≤ 5) (s : Int) : upG x (t : Int) (b : Int) 1 s = (x, []) := by
  unfold upG
  simp only
  rw [plN_of (by omega), plN_of (by omega), if_pos htb]
section
variable {x : Gd} {t b : Nat} (htb : t ≤ b) (hb : b < x.rs.length) (s : Int)
include htb hb
theorem up_form : (upG x t b 1 s).1.rs = x.rs.take t ++ ((x.rs.take (b + 1)).drop (t + 1) ++ ([blankR x.W s] ++ x.rs.drop (b + 1))) := by
  have e1 : (upG x t b 1 s).1 = ⟨x.W, D.inL x.rs t b fun R => D.upR R 1 (blankR x.W s)⟩ := by
    unfold upG
    simp only
    rw [plN_of hb, plN_of (Nat.lt_of_le_of_lt htb hb), if_neg (by omega), show cntN 1 (b + 1 - t) = 1 by unfold cntN; omega]
  rw [e1]
  show D.inL x.rs t b (fun R => D.upR R 1 (blankR x.W s)) = _
  unfold D.inL D.upR
  simp only
  rw [D.region_length htb hb, show min 1 (b + 1 - t) = 1 by omega, List.drop_drop]
  simp
theorem up_low {y : Nat} (hy : y < t) : (upG x t b 1 s).1.rs[y]? = x.rs[y]? := by
  rw [up_form htb hb, List.getElem?_append_left (by rw [List.length_take]; omega), List.getElem?_take_of_lt hy]
theorem up_high {y : Nat} (hy : b < y) : (upG x t b 1 s).1.rs[y]? = x.rs[y]? := by
  rw [up_form htb hb, ← List.append_assoc, ← List.append_assoc, List.getElem?_append_right (by simp; omega), List.getElem?_drop]
  congr 1
  simp
  omega
theorem up_mid {y : Nat} (h1 : t ≤ y) (h2 : y < b) : (upG x t b 1 s).1.rs[y]? = x.rs[y + 1]? := by
  have hl : (x.rs.take t).length = t := by rw [List.length_take]; omega
  rw [up_form htb hb, List.getElem?_append_right (by rw [hl]; exact h1), hl, List.getElem?_append_left (by rw [List.length_drop, List.length_take]; omega), List.getElem?_drop, List.getElem?_take_of_lt (by omega)]
  congr 1
  omega
end
end Go.Proofs.YtkggmcnocpgnbaaDoor.K
