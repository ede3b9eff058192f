/- A grid in memory, the program's and the document's; what a call keeps. -/
import Derived.Test.YtjlljkdlgkociaaJCop
import Derived.Test.YtjlljkdlgkociaaMerged9
import Derived.Test.YtjlljkdlgkociaaMerged6
import Derived.Test.YtjlljkdlgkociaaMerged8
namespace Go.Proofs.Ytjlljkdlgkociaa.K
open Go.RowKit

/-- the program's grid: its block g, its rows' block q -/
structure GridAt (g q : Nat) (x : Gd) (us : List Rv) (cap : Nat) (w : World) : Prop where
  ok : GdOk x
  gb : w.heap[g]? = some (.cells #[.int .i64 (x.W : Int), .slice (some ⟨q, 0, none⟩) us.length cap] 144 (0, 0))
  own : OwnV 50 0 (.slice (some ⟨q, 0, none⟩) us.length cap) us w
  rv : RowsV .i32 us x.rs w
  ty : ∀ u ∈ us, TyC 0 u w
/-- it lies so, for some rows -/
def Gr (g q : Nat) (x : Gd) (w : World) : Prop := ∃ us cap, GridAt g q x us cap w
/-- but for these blocks all is kept -/
structure KeepB (L : List Nat) (w w' : World) : Prop where
  os : w'.os = w.os
  tape : w'.tape = w.tape
  output : w'.output = w.output
  size : w.heap.size ≤ w'.heap.size
  block : ∀ i, i < w.heap.size → i ∉ L → w'.heap[i]? = w.heap[i]?
theorem KeepB.refl (L : List Nat) (w : World) : KeepB L w w := ⟨rfl, rfl, rfl, Nat.le_refl _, fun _ _ _ => rfl⟩
theorem KeepB.trans {L : List Nat} {a b c : World} (h : KeepB L a b) (k : KeepB L b c) : KeepB L a c :=
  ⟨k.os.trans h.os, k.tape.trans h.tape, k.output.trans h.output, Nat.le_trans h.size k.size, fun i hi hl => (k.block i (Nat.lt_of_lt_of_le hi h.size) hl).trans (h.block i hi hl)⟩
theorem KeepB.of_below {L : List Nat} {w w' : World} (h : Below w.heap.size w w') : KeepB L w w' := ⟨h.os, h.tape, h.output, h.size, fun i hi _ => h.block i hi⟩
theorem KeepB.mono {L L' : List Nat} {w w' : World} (h : KeepB L w w') (hl : ∀ i ∈ L, i ∈ L') : KeepB L' w w' := ⟨h.os, h.tape, h.output, h.size, fun i hi hn => h.block i hi (fun e => hn (hl i e))⟩
/-- a block that is not there yet may be struck -/
theorem KeepB.strike {L : List Nat} {q : Nat} {w w' : World} (h : KeepB (q :: L) w w') (hq : w.heap.size ≤ q) : KeepB L w w' := ⟨h.os, h.tape, h.output, h.size, fun i hi hn => h.block i hi (fun e => by
  rcases List.mem_cons.1 e with rfl | e
  · omega
  · exact hn e)⟩
theorem KeepB.below {L : List Nat} {base : Nat} {w0 w w' : World} (h : KeepB L w w') (hL : ∀ i ∈ L, base ≤ i) (hb : Below base w0 w) (hs : base ≤ w.heap.size) : Below base w0 w' :=
  hb.trans ⟨h.os, h.tape, h.output, h.size, fun i hi => h.block i (by omega) (fun e => by have := hL i e; omega)⟩
theorem KeepB.of_grown {w w' : World} {q : Nat} (h : w.grownBy w' (some q)) : KeepB [q] w w' := ⟨h.os, h.tape, h.output, h.size, fun i hi hn => h.block i hi (fun e => hn (by cases e; simp))⟩
theorem KeepB.setCell {w : World} {q o : Nat} (v : Value) : KeepB [q] w (w.setCell ⟨q, o, none⟩ v) := ⟨rfl, rfl, rfl, (KeepsWalks.setCell w _ v).size, fun i _ hn => Below.heap_setCell _ _ _ i (fun e => hn (by rw [show i = q from e]; simp))⟩
theorem KeepB.block1 {L : List Nat} {w w' : World} (h : KeepB L w w') {i : Nat} {o : Obj} (ho : w.heap[i]? = some o) (hn : i ∉ L) : w'.heap[i]? = some o := (h.block i (Array.getElem?_eq_some_iff.1 ho).1 hn).trans ho
theorem GridAt.below {g q : Nat} {x : Gd} {us : List Rv} {cap : Nat} {w w' : World} (h : GridAt g q x us cap w) (hb : Below w.heap.size w w') : GridAt g q x us cap w' :=
  ⟨h.ok, (hb.block g (Array.getElem?_eq_some_iff.1 h.gb).1).trans h.gb, h.own.belowAll hb, h.rv.belowAll hb, fun u hu => (h.ty u hu).moved (fun b _ _ hl => hb.block b hl)⟩
theorem Gr.below {g q : Nat} {x : Gd} {w w' : World} (h : Gr g q x w) (hb : Below w.heap.size w w') : Gr g q x w' := by
  obtain ⟨us, cap, h⟩ := h
  exact ⟨us, cap, h.below hb⟩
theorem GridAt.qb {g q : Nat} {x : Gd} {us : List Rv} {cap : Nat} {w : World} (h : GridAt g q x us cap w) : ∃ cs, w.heap[q]? = some (.cells cs 50 (0, 0)) := by
  obtain ⟨cs, hc, _⟩ := U.own_type h.own (g := q) rfl
  exact ⟨cs, hc⟩
theorem GridAt.gq {g q : Nat} {x : Gd} {us : List Rv} {cap : Nat} {w : World} (h : GridAt g q x us cap w) : g ≠ q := fun e => by
  obtain ⟨cs, hc⟩ := h.qb
  have hg := h.gb
  rw [e, hc] at hg
  injection hg with hg
  injection hg with hg h2
  exact absurd h2 (by decide)
theorem GridAt.lt {g q : Nat} {x : Gd} {us : List Rv} {cap : Nat} {w : World} (h : GridAt g q x us cap w) : g < w.heap.size ∧ q < w.heap.size := by
  obtain ⟨cs, hc⟩ := h.qb
  exact ⟨(Array.getElem?_eq_some_iff.1 h.gb).1, (Array.getElem?_eq_some_iff.1 hc).1⟩
theorem GridAt.ulen {g q : Nat} {x : Gd} {us : List Rv} {cap : Nat} {w : World} (h : GridAt g q x us cap w) : us.length = x.rs.length := h.rv.1
/-- cells lie in blocks of cells -/
theorem TyC.ne {base : Nat} {u : Rv} {w : World} (h : TyC base u w) {p : Nat} {cs : Array Value} {T : TypeId} (hp : w.heap[p]? = some (.cells cs T (0, 0))) (hT : T ≠ 52) : ∀ b off, u.a = some ⟨b, off, none⟩ → b ≠ p := fun b off e e' => by
  obtain ⟨_, cs', h5⟩ := h b off e
  rw [e', hp] at h5
  injection h5 with h5
  injection h5 with h5 h6
  exact hT h6
/-- a grid whose blocks aren't touched -/
theorem GridAt.kept {g q : Nat} {x : Gd} {us : List Rv} {cap : Nat} {w w' : World} {L : List Nat} (h : GridAt g q x us cap w) (hk : KeepB L w w') (hg : g ∉ L) (hq : q ∉ L) (hL : ∀ p ∈ L, p < w.heap.size → ∃ cs T, w.heap[p]? = some (.cells cs T (0, 0)) ∧ T ≠ 52) : GridAt g q x us cap w' := by
  have hne : ∀ u ∈ us, ∀ b off, u.a = some ⟨b, off, none⟩ → b < w.heap.size → w'.heap[b]? = w.heap[b]? := fun u hu b off e hl => hk.block b hl (fun hb => by
    obtain ⟨cs, T, hp, hT⟩ := hL b hb hl
    exact (h.ty u hu).ne hp hT b off e rfl)
  have hgr : w.grownBy w' (some w.heap.size) ∨ True := .inr trivial
  obtain ⟨cs, hqb, hb0⟩ := U.own_type h.own (g := q) rfl
  refine ⟨h.ok, (hk.block g h.lt.1 hg).trans h.gb, ?_, h.rv.moved hk.size hne, fun u hu => (h.ty u hu).moved (hne u hu)⟩
  have ho := h.own
  refine ⟨ho.1, ?_⟩
  rcases ho.2 with ⟨h0, _⟩ | ⟨g', cap', cur, he, hbase, hgb, hc, hmx, hsz, ht⟩
  · cases h0
  · cases he
    exact .inr ⟨_, _, cur, rfl, hbase, (hk.block q h.lt.2 hq).trans hgb, hc, hmx, hsz, ht⟩
/-- none of these blocks is the row's -/
def Off (L : List Nat) (u : Rv) : Prop := u.n ≠ 0 → ∀ b off, u.a = some ⟨b, off, none⟩ → b ∉ L
theorem Off.fresh {L : List Nat} {u : Rv} {m : Nat} (h : ∀ b off, u.a = some ⟨b, off, none⟩ → m ≤ b) (hL : ∀ p ∈ L, p < m) : Off L u := fun _ b off e hb => by have := h b off e; have := hL b hb; omega
theorem RowV.lt {rk : IntKind} {u : Rv} {r : Ro} {w : World} (h : RowV rk u.val r w) (hn : u.n ≠ 0) : ∀ b off, u.a = some ⟨b, off, none⟩ → b < w.heap.size := fun b off e => by
  obtain ⟨a, c, e1, hi, _⟩ := h
  have := Rv.val_inj (v := ⟨a, r.l.length, c, r.wrapped⟩) e1
  subst this
  rcases hi.at_ with h0 | ⟨b', off', ha, hl, _⟩
  · exact absurd (by show r.l.length = 0; rw [h0]; rfl) hn
  · rw [show a = some ⟨b, off, none⟩ from e] at ha
    cases ha
    exact hl
theorem Off.cons {L : List Nat} {rk : IntKind} {u : Rv} {r : Ro} {q : Nat} {w : World} (h : Off L u) (hv : RowV rk u.val r w) (hq : w.heap.size ≤ q) : Off (q :: L) u := fun hn b off e hb => by
  rcases List.mem_cons.1 hb with rfl | hb
  · have := hv.lt hn b off e; omega
  · exact h hn b off e hb
theorem RowV.keptB {rk : IntKind} {u : Rv} {r : Ro} {L : List Nat} {w w' : World} (h : RowV rk u.val r w) (ho : Off L u) (hk : KeepB L w w') : RowV rk u.val r w' := by
  by_cases hn : u.n = 0
  · obtain ⟨a, c, e1, hi, h3⟩ := h
    have := Rv.val_inj (v := ⟨a, r.l.length, c, r.wrapped⟩) e1
    subst this
    have h0 : r.l = [] := List.eq_nil_of_length_eq_zero hn
    exact ⟨a, c, rfl, ⟨rfl, .inl h0⟩, h3⟩
  · exact h.moved hk.size (fun b off e hl => hk.block b hl (ho hn b off e))
/-- rows, a slice of them, none of them in these blocks -/
structure RowsL (rk : IntKind) (L : List Nat) (a : Option Addr) (n c : Nat) (rs : List Ro) (w : World) : Prop where
  ex : ∃ vs, RvsIn a n c vs w ∧ RowsV rk vs rs w ∧ ∀ u ∈ vs, Off L u
  nil : a = none → c = 0
  off : n ≠ 0 → ∀ b off, a = some ⟨b, off, none⟩ → b ∉ L
theorem RowsL.len {rk : IntKind} {L : List Nat} {a : Option Addr} {n c : Nat} {rs : List Ro} {w : World} (h : RowsL rk L a n c rs w) : n = rs.length := by
  obtain ⟨vs, h1, h2, _⟩ := h.ex
  rw [h1.len, h2.1]
theorem RowsL.lt {rk : IntKind} {L : List Nat} {a : Option Addr} {n c : Nat} {rs : List Ro} {w : World} (h : RowsL rk L a n c rs w) (hn : n ≠ 0) : ∀ b off, a = some ⟨b, off, none⟩ → b < w.heap.size := fun b off e => by
  obtain ⟨vs, h1, _⟩ := h.ex
  rcases h1.at_ with h0 | ⟨b', off', ha, hl, _⟩
  · exact absurd (by rw [h1.len, h0]; rfl) hn
  · rw [e] at ha; cases ha; exact hl
theorem RowsL.keptB {rk : IntKind} {L : List Nat} {a : Option Addr} {n c : Nat} {rs : List Ro} {w w' : World} (h : RowsL rk L a n c rs w) (hk : KeepB L w w') : RowsL rk L a n c rs w' := by
  obtain ⟨vs, h1, h2, h3⟩ := h.ex
  refine ⟨⟨vs, ?_, ⟨h2.1, fun i u r hu hr => (h2.2 i u r hu hr).keptB (h3 u (List.mem_of_getElem? hu)) hk⟩, h3⟩, h.nil, h.off⟩
  by_cases hn : n = 0
  · exact ⟨h1.len, h1.fit, h1.top, .inl (List.eq_nil_of_length_eq_zero (by rw [← h1.len]; exact hn))⟩
  · exact h1.blocks hk.size (fun b off e hl => hk.block b hl (h.off hn b off e))
theorem RowsL.below {rk : IntKind} {L : List Nat} {a : Option Addr} {n c : Nat} {rs : List Ro} {w w' : World} (h : RowsL rk L a n c rs w) (hb : Below w.heap.size w w') : RowsL rk L a n c rs w' := h.keptB (KeepB.of_below hb)
theorem RowsL.cons {rk : IntKind} {L : List Nat} {a : Option Addr} {n c : Nat} {rs : List Ro} {w : World} (h : RowsL rk L a n c rs w) {q : Nat} (hq : w.heap.size ≤ q) : RowsL rk (q :: L) a n c rs w := by
  obtain ⟨vs, h1, h2, h3⟩ := h.ex
  refine ⟨⟨vs, h1, h2, fun u hu => ?_⟩, h.nil, fun hn b off e hb => ?_⟩
  · obtain ⟨i, hi, rfl⟩ := List.mem_iff_getElem.1 hu
    have hi' : i < rs.length := by rw [← h2.1]; exact hi
    exact (h3 _ hu).cons (h2.2 i _ _ (List.getElem?_eq_getElem hi) (List.getElem?_eq_getElem hi')) hq
  · rcases List.mem_cons.1 hb with rfl | hb
    · have := h.lt hn b off e; omega
    · exact h.off hn b off e hb
/-- the document's grid -/
def refV (W : Nat) (a : Option Addr) (n c : Nat) : Value := .agg #[.int .i64 (W : Int), .slice a n c]
def RefG (L : List Nat) (v : Value) (x : Gd) (w : World) : Prop := ∃ a n c, v = refV x.W a n c ∧ RowsL .i64 L a n c x.rs w
theorem RefG.keptB {L : List Nat} {v : Value} {x : Gd} {w w' : World} (h : RefG L v x w) (hk : KeepB L w w') : RefG L v x w' := by
  obtain ⟨a, n, c, e, h⟩ := h
  exact ⟨a, n, c, e, h.keptB hk⟩
theorem RefG.below {L : List Nat} {v : Value} {x : Gd} {w w' : World} (h : RefG L v x w) (hb : Below w.heap.size w w') : RefG L v x w' := h.keptB (KeepB.of_below hb)
theorem RefG.cons {L : List Nat} {v : Value} {x : Gd} {w : World} (h : RefG L v x w) {q : Nat} (hq : w.heap.size ≤ q) : RefG (q :: L) v x w := by
  obtain ⟨a, n, c, e, h⟩ := h
  exact ⟨a, n, c, e, h.cons hq⟩
/-- rows of our own, as they are answered -/
theorem OwnV.rowsL {rk : IntKind} {T : TypeId} {L : List Nat} {base : Nat} {a : Option Addr} {n c : Nat} {vs : List Rv} {rs : List Ro} {w : World} (h : OwnV T base (.slice a n c) vs w) (hr : RowsV rk vs rs w) (ho : ∀ u ∈ vs, Off L u) (hL : ∀ p ∈ L, p < base) : RowsL rk L a n c rs w := by
  obtain ⟨a', c', e, h1, h2, h3⟩ := h.shape
  cases e
  exact ⟨⟨vs, h1, hr, ho⟩, h3, fun _ b off e hb => by have := (h2 b off e).1; have := hL b hb; omega⟩
end Go.Proofs.Ytjlljkdlgkociaa.K

/- Rows that were handed in. -/
namespace Go.Proofs.Ytjlljkdlgkociaa.K
open Go.RowKit Go.ChangeShapes Go.WideShapes

theorem cRow : Try.prog.cellsOf 50 = 2 := by kernel_rfl
theorem cSl : Try.prog.cellsOf 48 = 1 := by kernel_rfl
theorem cBo : Try.prog.cellsOf 4 = 1 := by kernel_rfl
set_option maxRecDepth 100000 in
theorem trod_cells {H : Type} {enc : TypeId × Value → H} {W : World} {m : Nat} {v : Value} {x : DataW H × List MemPlace} (h : DataW.trod enc Try.prog W 0 (fun _ => true) true m 48 [v] = some x) :
    ∃ (a : Option Addr) (len cap : Nat) (l : List Cel), v = .slice a len cap ∧ CelsIn .i32 a len l W ∧ (a = none → cap = 0) ∧ len ≤ cap ∧ (cap : Int) ≤ 9223372036854775807 ∧ AllC Rng l := by
  rcases Deep.open_slice Try.underlying48 h with ⟨hc, _⟩ | ⟨a', len, cap, m', n', D, Pl, hc, _, hl, hcm, hmm, _, hx⟩
  · simp at hc
    subst hc
    exact ⟨none, 0, 0, [], rfl, ⟨rfl, .inl rfl⟩, fun _ => rfl, Nat.le_refl _, by omega, (fun _ h => by cases h)⟩
  · simp at hc
    subst hc
    simp only [if_true] at hmm
    subst hmm
    have hcap : (m' : Int) ≤ 9223372036854775807 := by unfold maxLen at hcm; omega
    have each : ∀ i, i < len → ∃ A : Cel, Rng A ∧ ∀ j u, [Value.int .i32 A.rune, .int .i64 A.style, .int .i64 A.part][j]? = some u → W.cell? (a'.add (i * 3 + j)) = some u := by
      intro i hi
      obtain ⟨cs', h1, h2⟩ := hx i (by omega)
      rw [cCell] at h1
      obtain ⟨_, hlen, hcell⟩ := World.cells?_some h1
      obtain ⟨A, he, hA⟩ := trod_cel h2 hlen
      refine ⟨A, hA, fun j u hj => ?_⟩
      have hj5 : j < 3 := by have := (List.getElem?_eq_some_iff.1 hj).1; simpa using this
      have f := hcell j (by omega)
      rw [Deep.add_add] at f
      rw [← he] at hj
      rw [f, hj]
    by_cases hl0 : len = 0
    · subst hl0
      exact ⟨some a', 0, m', [], rfl, ⟨rfl, .inl rfl⟩, (fun e => by cases e), by omega, hcap, (fun _ h => by cases h)⟩
    · obtain ⟨q, hq⟩ := Deep.choose_lt each
      obtain ⟨b, off, spot⟩ := a'
      have hc0 := (hq 0 (by omega)).2 0 _ rfl
      have hspot : spot = none := by simpa [Addr.add] using World.cell?_spot hc0
      subst hspot
      rw [addN] at hc0
      have hblt := World.block_lt_of_cell? W _ hc0
      refine ⟨some ⟨b, off, none⟩, len, m', (List.range len).map q, rfl, ⟨by simp, .inr ⟨b, off, rfl, hblt, fun i A hA => ?_⟩⟩, (fun e => by cases e), hl, hcap, fun A hA => ?_⟩
      · have hi : i < len := by have := (List.getElem?_eq_some_iff.1 hA).1; simpa using this
        have e : q i = A := by simpa [hi] using hA
        have f := (hq i hi).2
        rw [e] at f
        have fj := fun j u h => by have := f j u h; rw [addN, ← Nat.add_assoc] at this; exact this
        exact ⟨fj 0 _ rfl, fj 1 _ rfl, fj 2 _ rfl⟩
      · obtain ⟨i, hi, rfl⟩ := List.mem_map.1 hA
        exact (hq i (List.mem_range.1 hi)).1
set_option maxRecDepth 100000 in
theorem trod_row {H : Type} {enc : TypeId × Value → H} {W : World} {m : Nat} {cs : List Value} {x : DataW H × List MemPlace} (h : DataW.trod enc Try.prog W 0 (fun _ => true) true m 50 cs = some x) (hl : cs.length = 2) :
    ∃ (u : Rv) (r : Ro), cs = [.slice u.a u.n u.c, .bool u.b] ∧ RowV .i32 u.val r W ∧ AllC Rng r.l := by
  match cs, hl with
  | [v0, v1], _ =>
    obtain ⟨xs, n, hn, hxy, _, hxl, hf⟩ := DataW.trod_struct Try.underlying50 h
    match xs, hxl with
    | [y0, y1], _ =>
      have g0 := hf 0 _ rfl
      have g1 := hf 1 _ rfl
      simp [cSl, cBo] at g0 g1
      obtain ⟨a, len, cap, l, rfl, h1, h2, h3, h4, h5⟩ := trod_cells g0
      obtain ⟨b, e1, _⟩ := DataW.trod_bool Try.underlying4 g1
      simp at e1
      subst e1
      have hlen : len = l.length := h1.len
      subst hlen
      exact ⟨⟨a, l.length, cap, b⟩, ⟨l, b⟩, rfl, ⟨a, cap, rfl, h1, h2, h3, h4⟩, h5⟩
end Go.Proofs.Ytjlljkdlgkociaa.K

/- A region that draws its order, where the condition hangs on which operations came up already, and on the slots. -/
namespace Go.Proofs.Ytjlljkdlgkociaa.R
open Go

section
variable {P : Program} {ops : Array Oper} {Q : Exit → Act → World → Prop}
/-- EACH OPERATION's OWN STEP; what came up ahead of it is told. -/
def OpStepA (P : Program) (ops : Array Oper) (Q : Exit → Act → World → Prop) (base : Act) (C : (Nat → Bool) → Act → World → Prop) (R : World → World → Prop) (Ok : Nat → Value → World → Prop) (i : Nat) (o : Oper) : Prop :=
  ∀ (L : Nat → Bool) (a : Act) (w : World), L i = false → (∀ e ∈ o.after, Region.binds .any e = true → L e.on = true) → C L a w → Agree ops base a → (∀ e ∈ o.after, Region.binds .any e = true → ∀ oj d, ops[e.on]? = some oj → oj.dst = some d → Ok e.on (a.tmps.getD d undef) w) →
    (Region.wanted o (yielded ops a.tmps) = true ∧ ∀ K : Act → World → Prop, (∀ v w', R w w' → Ok i v w' → C (upd L i) (a.put o.dst v) w' → K (a.put o.dst v) w') → o.wp P a w K Q) ∨
    (Region.wanted o (yielded ops a.tmps) = false ∧ R w w ∧ Ok i undef w ∧ C (upd L i) (a.put o.dst undef) w)

theorem wp_region_relA {id : Nat} {base : Act} {w0 : World} (hm : P.follows .mixedOrders = true) (C : (Nat → Bool) → Act → World → Prop) (R : World → World → Prop) (Ok : Nat → Value → World → Prop)
    (hin : (ops.toList.all fun o => match o.dst with | some d => decide (d < base.tmps.size) | none => true) = true)
    (hdis : distinctB ops = true) (hordB : orderedN ops ops.size = true)
    (hOk : ∀ i v w w', Ok i v w → R w w' → Ok i v w')
    (hop : EachOp (OpStepA P ops Q base C R Ok) 0 ops.toList)
    (hdone : ∀ a w, C (fun k => decide (k < ops.size)) a w → Agree ops base a → (∀ (i : Nat) (o : Oper) (d : Nat), ops[i]? = some o → o.dst = some d → Ok i (a.tmps.getD d undef) w) → Q .normal a w)
    (h0 : C (fun _ => false) base w0.drew) : (Code.region id ops true).wp P Q base w0 := by
  have hinj := fun i j o o' d => distinctB_spec (ops := ops) hdis i j o o' d
  have hord : ∀ (i : Nat) (o : Oper), ops[i]? = some o → ∀ e ∈ o.after, Region.binds .any e = true → e.on < i := fun i o hi e he hb => orderedN_spec hordB i o (Array.getElem?_eq_some_iff.1 hi).1 hi e he hb
  have hin' : ∀ (i : Nat) (o : Oper) (d : Nat), ops[i]? = some o → o.dst = some d → d < base.tmps.size := fun i o d hi hd => by
    have := List.all_eq_true.1 hin o (by have := Array.mem_of_getElem? hi; simpa using this)
    rw [hd] at this
    simpa using this
  have main : ∀ (fuel : Nat) (listed : Array Bool) (a : Act) (w : World), listed.size = ops.size → C (fun k => listed.getD k false) a w → Agree ops base a → Held ops Ok listed a w →
      ((List.range ops.size).filter fun i => !listed.getD i true).length ≤ fuel → wpAny P .any ops Q fuel listed a w := by
    intro fuel
    induction fuel with
    | zero =>
      intro listed a w hsz hc ha hh hf
      have hall : ∀ i, i < ops.size → listed.getD i true = true := fun i hi => by
        have h1 : ((List.range ops.size).filter fun i => !listed.getD i true) = [] := List.length_eq_zero_iff.1 (by omega)
        have h2 := List.filter_eq_nil_iff.1 h1 i (List.mem_range.2 hi)
        simpa using h2
      refine ⟨?_, hdone a w (by rw [allL hsz (fun i hi => by have := hall i hi; rw [Array.getD_eq_getD_getElem?] at this ⊢; rw [Array.getElem?_eq_getElem (by omega)] at this ⊢; simpa using this)] at hc; exact hc) ha fun i o d hi hd => hh i o d hi hd ?_⟩
      · unfold Region.ready
        refine List.filter_eq_nil_iff.2 fun i hi => ?_
        rw [hall i (List.mem_range.1 hi)]
        simp
      · have hlt := (Array.getElem?_eq_some_iff.1 hi).1
        have := hall i hlt
        rw [Array.getD_eq_getD_getElem?] at this ⊢
        rw [Array.getElem?_eq_getElem (by omega)] at this ⊢
        simpa using this
    | succ fuel ih =>
      intro listed a w hsz hc ha hh hf
      refine ⟨fun hr => ?_, fun i hi => ?_⟩
      · -- nothing may come up: all have
        have hall : ∀ n i, i < n → i < ops.size → listed.getD i false = true := by
          intro n
          induction n with
          | zero => intro i hi _; omega
          | succ n ihn =>
            intro i hi hlt
            by_cases hin : i < n
            · exact ihn i hin hlt
            · obtain rfl : i = n := by omega
              cases hl : listed.getD i false with
              | true => rfl
              | false =>
                exfalso
                have hl' : listed.getD i true = false := by
                  rw [Array.getD_eq_getD_getElem?] at hl ⊢
                  rw [Array.getElem?_eq_getElem (by omega)] at hl ⊢
                  simpa using hl
                have hmem : i ∈ Region.ready .any ops listed := by
                  unfold Region.ready
                  refine List.mem_filter.2 ⟨List.mem_range.2 hlt, ?_⟩
                  rw [hl', Array.getElem?_eq_getElem hlt]
                  simp only [Bool.not_false, Bool.true_and, Option.map_some, Option.getD_some]
                  refine Array.all_eq_true_iff_forall_mem.2 fun e he => ?_
                  by_cases hb : Region.binds .any e = true
                  · have := ihn e.on (hord i _ (Array.getElem?_eq_getElem hlt) e he hb) (by have := hord i _ (Array.getElem?_eq_getElem hlt) e he hb; omega)
                    simp [this]
                  · simp [hb]
                rw [hr] at hmem
                cases hmem
        exact hdone a w (by rw [allL hsz (fun i hi => hall _ i (Nat.lt_succ_self i) hi)] at hc; exact hc) ha fun i o d hi hd => hh i o d hi hd (hall _ i (Nat.lt_succ_self i) (Array.getElem?_eq_some_iff.1 hi).1)
      · have hi' := hi
        unfold Region.ready at hi'
        obtain ⟨hlt, hcond⟩ := List.mem_filter.1 hi'
        have hlt := List.mem_range.1 hlt
        simp only [Bool.and_eq_true, Bool.not_eq_true'] at hcond
        obtain ⟨hun, hdeps⟩ := hcond
        obtain ⟨o, ho⟩ : ∃ o, ops[i]? = some o := ⟨_, Array.getElem?_eq_getElem hlt⟩
        rw [ho] at hdeps
        simp only [Option.map_some, Option.getD_some] at hdeps
        have hunL : listed.getD i false = false := by
          rw [Array.getD_eq_getD_getElem?] at hun ⊢
          rw [Array.getElem?_eq_getElem (by omega)] at hun ⊢
          simpa using hun
        have hstep := hop.at i o (by simpa using ho)
        rw [Nat.zero_add] at hstep
        have hd := hstep (fun k => listed.getD k false) a w hunL (fun e he hb => by
          have h1 := Array.all_eq_true_iff_forall_mem.1 hdeps e he
          rw [hb] at h1
          simp at h1
          rw [Array.getD_eq_getD_getElem?]
          exact h1) hc ha fun e he hb oj d hoj hdj => by
          have h1 := Array.all_eq_true_iff_forall_mem.1 hdeps e he
          rw [hb] at h1
          simp at h1
          refine hh e.on oj d hoj hdj ?_
          rw [Array.getD_eq_getD_getElem?]
          exact h1
        -- behind the operation
        have next : ∀ v w', R w w' → Ok i v w' → C (upd (fun k => listed.getD k false) i) (a.put o.dst v) w' → wpAny P .any ops Q fuel (listed.setIfInBounds i true) (a.put o.dst v) w' := by
          intro v w' hr hv hcc
          refine ih _ _ _ (by simpa using hsz) (by rw [updL listed i (by omega)]; exact hcc) ?_ ?_ ?_
          · obtain ⟨k1, k2, k3⟩ := ha
            cases hdst : o.dst with
            | none => exact ⟨k1, k2, k3⟩
            | some d =>
              have hds := hin' i o d ho hdst
              refine ⟨k1, by simpa [Act.put] using k2, fun t ht => ?_⟩
              rw [getD_put (by omega), if_neg ?_]
              · exact k3 t ht
              · intro e
                have := List.all_eq_true.1 ht o (by have := Array.mem_of_getElem? ho; simpa using this)
                rw [hdst, e] at this
                simp at this
          · intro j oj dj hj hdj hlj
            by_cases hji : j = i
            · subst hji
              rw [ho] at hj
              cases hj
              rw [hdj, getD_put (by have := hin' j o dj ho hdj; have := ha.2.1; omega), if_pos rfl]
              exact hv
            · have hlj' : listed.getD j false = true := by
                rw [Array.getD_eq_getD_getElem?, Array.getElem?_setIfInBounds, if_neg (Ne.symm hji), ← Array.getD_eq_getD_getElem?] at hlj
                exact hlj
              have hold := hOk _ _ _ _ (hh j oj dj hj hdj hlj') hr
              cases hdst : o.dst with
              | none => exact hold
              | some d =>
                rw [getD_put (by have := hin' i o d ho hdst; have := ha.2.1; omega), if_neg ?_]
                · exact hold
                · intro e
                  exact hji (hinj j i oj o dj hj ho hdj (by rw [hdst, e]))
          · have hcount : ((List.range ops.size).filter fun k => !(listed.setIfInBounds i true).getD k true).length < ((List.range ops.size).filter fun k => !listed.getD k true).length := by
              have hsub : ((List.range ops.size).filter fun k => !(listed.setIfInBounds i true).getD k true) = ((List.range ops.size).filter fun k => !listed.getD k true).filter fun k => k != i := by
                rw [List.filter_filter]
                refine List.filter_congr fun k hk => ?_
                rw [Array.getD_eq_getD_getElem?, Array.getElem?_setIfInBounds]
                by_cases hki : i = k
                · subst hki; rw [if_pos rfl, if_pos (by omega)]; simp
                · rw [if_neg hki, ← Array.getD_eq_getD_getElem?]
                  simp [Ne.symm hki]
              rw [hsub]
              refine List.length_filter_lt_length_iff_exists.2 ⟨i, List.mem_filter.2 ⟨List.mem_range.2 hlt, ?_⟩, ?_⟩
              · rw [Array.getD_eq_getD_getElem?]; simpa using hun
              · simp
            omega
        unfold wpOp
        rw [ho]
        simp only
        rcases hd with ⟨hw, hk⟩ | ⟨hw, hr, hv, hcc⟩
        · rw [if_pos hw]
          exact .inl (hk _ next)
        · rw [if_neg (by rw [hw]; decide)]
          exact next _ _ hr hv hcc
  refine wp_region_any hm (main ops.size (Array.replicate ops.size false) base w0.drew (by simp) (by rw [noneL]; exact h0) ⟨rfl, rfl, fun _ _ => rfl⟩ (fun i o d hi _ hl => ?_) ?_)
  · have hlt := (Array.getElem?_eq_some_iff.1 hi).1
    rw [Array.getD_eq_getD_getElem?] at hl
    simp [hlt] at hl
  · exact Nat.le_trans (List.length_filter_le _ _) (by simp)
end
end Go.Proofs.Ytjlljkdlgkociaa.R

/- A region that draws its order, some of whose operations come up one behind the other: what holds behind the k-th of these is told; the others may come up at any time. -/
namespace Go.Proofs.Ytjlljkdlgkociaa.R
open Go

section
variable {P : Program} {ops : Array Oper} {Q : Exit → Act → World → Prop}
/-- what a slot holds -/
def slot (a : Act) : Nat → Value := fun s => a.tmps.getD s undef
/-- the slots of the first k of these operations, and of those that they wait for -/
def slotsP (ops : Array Oper) (cs : List Nat) (k : Nat) : List Nat :=
  (cs.take k).flatMap fun c => match ops[c]? with
    | none => []
    | some o => (match o.dst with | some d => [d] | none => []) ++ (o.after.toList.filter (fun e => Region.binds .any e)).flatMap fun e => match ops[e.on]? with
      | none => []
      | some o' => match o'.dst with | some d => [d] | none => []
theorem mem_slots {ops : Array Oper} {cs : List Nat} {k s : Nat} (h : (slotsP ops cs k).contains s = true) : s ∈ slotsP ops cs k := by simpa using h
theorem slotsP_all {ops : Array Oper} {cs : List Nat} {k : Nat} (h : cs.length ≤ k) : slotsP ops cs k = slotsP ops cs cs.length := by
  unfold slotsP
  rw [List.take_of_length_le h, List.take_of_length_le (Nat.le_refl _)]
/-- these operations wait for one another -/
def chainB (ops : Array Oper) (cs : List Nat) : Bool :=
  (List.range cs.length).all fun j => match cs[j]? with
    | none => true
    | some c => (match ops[c]? with
      | none => false
      | some o => match j with
        | 0 => true
        | j' + 1 => match cs[j']? with
          | none => false
          | some c' => o.after.toList.any fun e => Region.binds .any e && e.on == c') && (List.range j).all fun i => cs[i]? != some c
theorem slot_put {a : Act} {d s : Nat} {v : Value} (h : s ≠ d) : slot (a.put (some d) v) s = slot a s := by
  unfold slot Act.put
  simp only [Array.getD_eq_getD_getElem?]
  rw [Array.getElem?_setIfInBounds, if_neg (fun e => h e.symm)]
theorem slot_same {a : Act} {d : Nat} {v : Value} (h : d < a.tmps.size) : slot (a.put (some d) v) d = v := by
  unfold slot
  rw [getD_put h, if_pos rfl]
theorem chainB_spec {cs : List Nat} (h : chainB ops cs = true) {j c : Nat} (hj : cs[j]? = some c) : (∃ o, ops[c]? = some o ∧ ∀ j', j = j' + 1 → ∃ c', cs[j']? = some c' ∧ ∃ e ∈ o.after, Region.binds .any e = true ∧ e.on = c') ∧ ∀ i, i < j → cs[i]? ≠ some c := by
  unfold chainB at h
  have hlt := (List.getElem?_eq_some_iff.1 hj).1
  have h1 := List.all_eq_true.1 h j (List.mem_range.2 hlt)
  rw [hj] at h1
  simp only [Bool.and_eq_true] at h1
  obtain ⟨h1, h2⟩ := h1
  refine ⟨?_, fun i hi e => ?_⟩
  · cases ho : ops[c]? with
    | none => rw [ho] at h1; cases h1
    | some o =>
      rw [ho] at h1
      refine ⟨o, rfl, fun j' e => ?_⟩
      subst e
      simp only at h1
      cases hc : cs[j']? with
      | none => rw [hc] at h1; cases h1
      | some c' =>
        rw [hc] at h1
        simp only at h1
        obtain ⟨e, he, hb⟩ := List.any_eq_true.1 h1
        simp only [Bool.and_eq_true, beq_iff_eq] at hb
        exact ⟨c', rfl, e, by simpa using he, hb.1, hb.2⟩
  · have := List.all_eq_true.1 h2 i (List.mem_range.2 hi)
    rw [e] at this
    simp at this

end
end Go.Proofs.Ytjlljkdlgkociaa.R
