/- A grid in memory, the program's and the document's; what a call keeps. -/
import Derived.Test.YtkggmcnocpgnbaaDoorMerged10
import Derived.Test.YtkggmcnocpgnbaaDoorJDo
namespace Go.Proofs.YtkggmcnocpgnbaaDoor.K
open Go.RowKit

/-- the program's grid: its block g, its rows' block q -/
structure GridAt (g q : Nat) (x : Gd) (us : List Rv) (cap : Nat) (w : World) : Prop where
  ok : GdOk x
  gb : w.heap[g]? = some (.cells #[.int .i64 (x.W : Int), .slice (some ⟨q, 0, none⟩) us.length cap] 130 (0, 0))
  own : OwnV 27 0 (.slice (some ⟨q, 0, none⟩) us.length cap) us w
  rv : RowsV .i32 us x.rs w
  ty : ∀ u ∈ us, TyC 0 u w
/-- it lies so, for some rows -/
def Gr (g q : Nat) (x : Gd) (w : World) : Prop := ∃ us cap, GridAt g q x us cap w
/-- but for these blocks all is kept -/
structure KeepB (L : List Nat) (w w' : World) : Prop where
  os : w'.os = w.os
  tape : w'.tape = w.tape
  output : w'.output = w.output
  size : w.heap.size ≤ w'.heap.size
  block : ∀ i, i < w.heap.size → i ∉ L → w'.heap[i]? = w.heap[i]?
theorem KeepB.refl (L : List Nat) (w : World) : KeepB L w w := ⟨rfl, rfl, rfl, Nat.le_refl _, fun _ _ _ => rfl⟩
theorem KeepB.trans {L : List Nat} {a b c : World} (h : KeepB L a b) (k : KeepB L b c) : KeepB L a c :=
  ⟨k.os.trans h.os, k.tape.trans h.tape, k.output.trans h.output, Nat.le_trans h.size k.size, fun i hi hl => (k.block i (Nat.lt_of_lt_of_le hi h.size) hl).trans (h.block i hi hl)⟩
theorem KeepB.of_below {L : List Nat} {w w' : World} (h : Below w.heap.size w w') : KeepB L w w' := ⟨h.os, h.tape, h.output, h.size, fun i hi _ => h.block i hi⟩
theorem KeepB.mono {L L' : List Nat} {w w' : World} (h : KeepB L w w') (hl : ∀ i ∈ L, i ∈ L') : KeepB L' w w' := ⟨h.os, h.tape, h.output, h.size, fun i hi hn => h.block i hi (fun e => hn (hl i e))⟩
theorem KeepB.below {L : List Nat} {base : Nat} {w0 w w' : World} (h : KeepB L w w') (hL : ∀ i ∈ L, base ≤ i) (hb : Below base w0 w) (hs : base ≤ w.heap.size) : Below base w0 w' :=
  hb.trans ⟨h.os, h.tape, h.output, h.size, fun i hi => h.block i (by omega) (fun e => by have := hL i e; omega)⟩
theorem KeepB.setCell {w : World} {q o : Nat} (v : Value) : KeepB [q] w (w.setCell ⟨q, o, none⟩ v) := ⟨rfl, rfl, rfl, (KeepsWalks.setCell w _ v).size, fun i _ hn => Below.heap_setCell _ _ _ i (fun e => hn (by rw [show i = q from e]; simp))⟩
theorem KeepB.block1 {L : List Nat} {w w' : World} (h : KeepB L w w') {i : Nat} {o : Obj} (ho : w.heap[i]? = some o) (hn : i ∉ L) : w'.heap[i]? = some o := (h.block i (Array.getElem?_eq_some_iff.1 ho).1 hn).trans ho
theorem GridAt.below {g q : Nat} {x : Gd} {us : List Rv} {cap : Nat} {w w' : World} (h : GridAt g q x us cap w) (hb : Below w.heap.size w w') : GridAt g q x us cap w' :=
  ⟨h.ok, (hb.block g (Array.getElem?_eq_some_iff.1 h.gb).1).trans h.gb, h.own.belowAll hb, h.rv.belowAll hb, fun u hu => (h.ty u hu).moved (fun b _ _ hl => hb.block b hl)⟩
theorem Gr.below {g q : Nat} {x : Gd} {w w' : World} (h : Gr g q x w) (hb : Below w.heap.size w w') : Gr g q x w' := by
  obtain ⟨us, cap, h⟩ := h
  exact ⟨us, cap, h.below hb⟩
theorem GridAt.qb {g q : Nat} {x : Gd} {us : List Rv} {cap : Nat} {w : World} (h : GridAt g q x us cap w) : ∃ cs, w.heap[q]? = some (.cells cs 27 (0, 0)) := by
  obtain ⟨cs, hc, _⟩ := U.own_type h.own (g := q) rfl
  exact ⟨cs, hc⟩
theorem GridAt.lt {g q : Nat} {x : Gd} {us : List Rv} {cap : Nat} {w : World} (h : GridAt g q x us cap w) : g < w.heap.size ∧ q < w.heap.size := by
  obtain ⟨cs, hc⟩ := h.qb
  exact ⟨(Array.getElem?_eq_some_iff.1 h.gb).1, (Array.getElem?_eq_some_iff.1 hc).1⟩
/-- cells lie in blocks of cells -/
theorem TyC.ne {base : Nat} {u : Rv} {w : World} (h : TyC base u w) {p : Nat} {cs : Array Value} {T : TypeId} (hp : w.heap[p]? = some (.cells cs T (0, 0))) (hT : T ≠ 105) : ∀ b off, u.a = some ⟨b, off, none⟩ → b ≠ p := fun b off e e' => by
  obtain ⟨_, cs', h5⟩ := h b off e
  rw [e', hp] at h5
  injection h5 with h5
  injection h5 with h5 h6
  exact hT h6
/-- a grid whose blocks aren't touched -/
theorem GridAt.kept {g q : Nat} {x : Gd} {us : List Rv} {cap : Nat} {w w' : World} {L : List Nat} (h : GridAt g q x us cap w) (hk : KeepB L w w') (hg : g ∉ L) (hq : q ∉ L) (hL : ∀ p ∈ L, p < w.heap.size → ∃ cs T, w.heap[p]? = some (.cells cs T (0, 0)) ∧ T ≠ 105) : GridAt g q x us cap w' := by
  have hne : ∀ u ∈ us, ∀ b off, u.a = some ⟨b, off, none⟩ → b < w.heap.size → w'.heap[b]? = w.heap[b]? := fun u hu b off e hl => hk.block b hl (fun hb => by
    obtain ⟨cs, T, hp, hT⟩ := hL b hb hl
    exact (h.ty u hu).ne hp hT b off e rfl)
  have hgr : w.grownBy w' (some w.heap.size) ∨ True := .inr trivial
  obtain ⟨cs, hqb, hb0⟩ := U.own_type h.own (g := q) rfl
  refine ⟨h.ok, (hk.block g h.lt.1 hg).trans h.gb, ?_, h.rv.moved hk.size hne, fun u hu => (h.ty u hu).moved (hne u hu)⟩
  have ho := h.own
  refine ⟨ho.1, ?_⟩
  rcases ho.2 with ⟨h0, _⟩ | ⟨g', cap', cur, he, hbase, hgb, hc, hmx, hsz, ht⟩
  · cases h0
  · cases he
    exact .inr ⟨_, _, cur, rfl, hbase, (hk.block q h.lt.2 hq).trans hgb, hc, hmx, hsz, ht⟩
/-- none of these blocks is the row's -/
def Off (L : List Nat) (u : Rv) : Prop := u.n ≠ 0 → ∀ b off, u.a = some ⟨b, off, none⟩ → b ∉ L
theorem Off.fresh {L : List Nat} {u : Rv} {m : Nat} (h : ∀ b off, u.a = some ⟨b, off, none⟩ → m ≤ b) (hL : ∀ p ∈ L, p < m) : Off L u := fun _ b off e hb => by have := h b off e; have := hL b hb; omega
theorem RowV.lt {rk : IntKind} {u : Rv} {r : Ro} {w : World} (h : RowV rk u.val r w) (hn : u.n ≠ 0) : ∀ b off, u.a = some ⟨b, off, none⟩ → b < w.heap.size := fun b off e => by
  obtain ⟨a, c, e1, hi, _⟩ := h
  have := Rv.val_inj (v := ⟨a, r.l.length, c, r.wrapped⟩) e1
  subst this
  rcases hi.at_ with h0 | ⟨b', off', ha, hl, _⟩
  · exact absurd (by show r.l.length = 0; rw [h0]; rfl) hn
  · rw [show a = some ⟨b, off, none⟩ from e] at ha
    cases ha
    exact hl
theorem Off.cons {L : List Nat} {rk : IntKind} {u : Rv} {r : Ro} {q : Nat} {w : World} (h : Off L u) (hv : RowV rk u.val r w) (hq : w.heap.size ≤ q) : Off (q :: L) u := fun hn b off e hb => by
  rcases List.mem_cons.1 hb with rfl | hb
  · have := hv.lt hn b off e; omega
  · exact h hn b off e hb
theorem RowV.keptB {rk : IntKind} {u : Rv} {r : Ro} {L : List Nat} {w w' : World} (h : RowV rk u.val r w) (ho : Off L u) (hk : KeepB L w w') : RowV rk u.val r w' := by
  by_cases hn : u.n = 0
  · obtain ⟨a, c, e1, hi, h3⟩ := h
    have := Rv.val_inj (v := ⟨a, r.l.length, c, r.wrapped⟩) e1
    subst this
    have h0 : r.l = [] := List.eq_nil_of_length_eq_zero hn
    exact ⟨a, c, rfl, ⟨rfl, .inl h0⟩, h3⟩
  · exact h.moved hk.size (fun b off e hl => hk.block b hl (ho hn b off e))
/-- rows, a slice of them, none of them in these blocks -/
structure RowsL (rk : IntKind) (L : List Nat) (a : Option Addr) (n c : Nat) (rs : List Ro) (w : World) : Prop where
  ex : ∃ vs, RvsIn a n c vs w ∧ RowsV rk vs rs w ∧ ∀ u ∈ vs, Off L u
  nil : a = none → c = 0
  off : n ≠ 0 → ∀ b off, a = some ⟨b, off, none⟩ → b ∉ L
theorem RowsL.len {rk : IntKind} {L : List Nat} {a : Option Addr} {n c : Nat} {rs : List Ro} {w : World} (h : RowsL rk L a n c rs w) : n = rs.length := by
  obtain ⟨vs, h1, h2, _⟩ := h.ex
  rw [h1.len, h2.1]
theorem RowsL.lt {rk : IntKind} {L : List Nat} {a : Option Addr} {n c : Nat} {rs : List Ro} {w : World} (h : RowsL rk L a n c rs w) (hn : n ≠ 0) : ∀ b off, a = some ⟨b, off, none⟩ → b < w.heap.size := fun b off e => by
  obtain ⟨vs, h1, _⟩ := h.ex
  rcases h1.at_ with h0 | ⟨b', off', ha, hl, _⟩
  · exact absurd (by rw [h1.len, h0]; rfl) hn
  · rw [e] at ha; cases ha; exact hl
theorem RowsL.keptB {rk : IntKind} {L : List Nat} {a : Option Addr} {n c : Nat} {rs : List Ro} {w w' : World} (h : RowsL rk L a n c rs w) (hk : KeepB L w w') : RowsL rk L a n c rs w' := by
  obtain ⟨vs, h1, h2, h3⟩ := h.ex
  refine ⟨⟨vs, ?_, ⟨h2.1, fun i u r hu hr => (h2.2 i u r hu hr).keptB (h3 u (List.mem_of_getElem? hu)) hk⟩, h3⟩, h.nil, h.off⟩
  by_cases hn : n = 0
  · exact ⟨h1.len, h1.fit, h1.top, .inl (List.eq_nil_of_length_eq_zero (by rw [← h1.len]; exact hn))⟩
  · exact h1.blocks hk.size (fun b off e hl => hk.block b hl (h.off hn b off e))
theorem RowsL.below {rk : IntKind} {L : List Nat} {a : Option Addr} {n c : Nat} {rs : List Ro} {w w' : World} (h : RowsL rk L a n c rs w) (hb : Below w.heap.size w w') : RowsL rk L a n c rs w' := h.keptB (KeepB.of_below hb)
theorem RowsL.cons {rk : IntKind} {L : List Nat} {a : Option Addr} {n c : Nat} {rs : List Ro} {w : World} (h : RowsL rk L a n c rs w) {q : Nat} (hq : w.heap.size ≤ q) : RowsL rk (q :: L) a n c rs w := by
  obtain ⟨vs, h1, h2, h3⟩ := h.ex
  refine ⟨⟨vs, h1, h2, fun u hu => ?_⟩, h.nil, fun hn b off e hb => ?_⟩
  · obtain ⟨i, hi, rfl⟩ := List.mem_iff_getElem.1 hu
    have hi' : i < rs.length := by rw [← h2.1]; exact hi
    exact (h3 _ hu).cons (h2.2 i _ _ (List.getElem?_eq_getElem hi) (List.getElem?_eq_getElem hi')) hq
  · rcases List.mem_cons.1 hb with rfl | hb
    · have := h.lt hn b off e; omega
    · exact h.off hn b off e hb
/-- the document's grid -/
def refV (W : Nat) (a : Option Addr) (n c : Nat) : Value := .agg #[.int .i64 (W : Int), .slice a n c]
def RefG (L : List Nat) (v : Value) (x : Gd) (w : World) : Prop := ∃ a n c, v = refV x.W a n c ∧ RowsL .i64 L a n c x.rs w
theorem RefG.keptB {L : List Nat} {v : Value} {x : Gd} {w w' : World} (h : RefG L v x w) (hk : KeepB L w w') : RefG L v x w' := by
  obtain ⟨a, n, c, e, h⟩ := h
  exact ⟨a, n, c, e, h.keptB hk⟩
theorem RefG.below {L : List Nat} {v : Value} {x : Gd} {w w' : World} (h : RefG L v x w) (hb : Below w.heap.size w w') : RefG L v x w' := h.keptB (KeepB.of_below hb)
theorem RefG.cons {L : List Nat} {v : Value} {x : Gd} {w : World} (h : RefG L v x w) {q : Nat} (hq : w.heap.size ≤ q) : RefG (q :: L) v x w := by
  obtain ⟨a, n, c, e, h⟩ := h
  exact ⟨a, n, c, e, h.cons hq⟩
end Go.Proofs.YtkggmcnocpgnbaaDoor.K
