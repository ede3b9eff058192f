/- A grid in memory, the program's and the document's; what a call keeps. -/
import Derived.Test.YtkggmcnocpgnbaaDoorMerged12
import Derived.Test.YtkggmcnocpgnbaaDoorMerged13
import Derived.Test.YtkggmcnocpgnbaaDoorJDo
import Derived.Test.YtkggmcnocpgnbaaDoorMerged5
namespace Go.Proofs.YtkggmcnocpgnbaaDoor.K
open Go.RowKit

/-- the program's grid: its block g, its rows' block q -/
structure GridAt (g q : Nat) (x : Gd) (us : List Rv) (cap : Nat) (w : World) : Prop where
  ok : GdOk x
  gb : w.heap[g]? = some (.cells #[.int .i64 (x.W : Int), .slice (some ⟨q, 0, none⟩) us.length cap] 130 (0, 0))
  own : OwnV 27 0 (.slice (some ⟨q, 0, none⟩) us.length cap) us w
  rv : RowsV .i32 us x.rs w
  ty : ∀ u ∈ us, TyC 0 u w
/-- it lies so, for some rows -/
def Gr (g q : Nat) (x : Gd) (w : World) : Prop := ∃ us cap, GridAt g q x us cap w
/-- but for these blocks all is kept -/
structure KeepB (L : List Nat) (w w' : World) : Prop where
  os : w'.os = w.os
  tape : w'.tape = w.tape
  output : w'.output = w.output
  size : w.heap.size ≤ w'.heap.size
  block : ∀ i, i < w.heap.size → i ∉ L → w'.heap[i]? = w.heap[i]?
theorem KeepB.refl (L : List Nat) (w : World) : KeepB L w w := ⟨rfl, rfl, rfl, Nat.le_refl _, fun _ _ _ => rfl⟩
theorem KeepB.trans {L : List Nat} {a b c : World} (h : KeepB L a b) (k : KeepB L b c) : KeepB L a c :=
  ⟨k.os.trans h.os, k.tape.trans h.tape, k.output.trans h.output, Nat.le_trans h.size k.size, fun i hi hl => (k.block i (Nat.lt_of_lt_of_le hi h.size) hl).trans (h.block i hi hl)⟩
theorem KeepB.of_below {L : List Nat} {w w' : World} (h : Below w.heap.size w w') : KeepB L w w' := ⟨h.os, h.tape, h.output, h.size, fun i hi _ => h.block i hi⟩
theorem KeepB.mono {L L' : List Nat} {w w' : World} (h : KeepB L w w') (hl : ∀ i ∈ L, i ∈ L') : KeepB L' w w' := ⟨h.os, h.tape, h.output, h.size, fun i hi hn => h.block i hi (fun e => hn (hl i e))⟩
theorem KeepB.below {L : List Nat} {base : Nat} {w0 w w' : World} (h : KeepB L w w') (hL : ∀ i ∈ L, base ≤ i) (hb : Below base w0 w) (hs : base ≤ w.heap.size) : Below base w0 w' :=
  hb.trans ⟨h.os, h.tape, h.output, h.size, fun i hi => h.block i (by omega) (fun e => by have := hL i e; omega)⟩
theorem KeepB.of_grown {w w' : World} {q : Nat} (h : w.grownBy w' (some q)) : KeepB [q] w w' := ⟨h.os, h.tape, h.output, h.size, fun i hi hn => h.block i hi (fun e => hn (by cases e; simp))⟩
theorem KeepB.setCell {w : World} {q o : Nat} (v : Value) : KeepB [q] w (w.setCell ⟨q, o, none⟩ v) := ⟨rfl, rfl, rfl, (KeepsWalks.setCell w _ v).size, fun i _ hn => Below.heap_setCell _ _ _ i (fun e => hn (by rw [show i = q from e]; simp))⟩
theorem KeepB.block1 {L : List Nat} {w w' : World} (h : KeepB L w w') {i : Nat} {o : Obj} (ho : w.heap[i]? = some o) (hn : i ∉ L) : w'.heap[i]? = some o := (h.block i (Array.getElem?_eq_some_iff.1 ho).1 hn).trans ho
theorem GridAt.below {g q : Nat} {x : Gd} {us : List Rv} {cap : Nat} {w w' : World} (h : GridAt g q x us cap w) (hb : Below w.heap.size w w') : GridAt g q x us cap w' :=
  ⟨h.ok, (hb.block g (Array.getElem?_eq_some_iff.1 h.gb).1).trans h.gb, h.own.belowAll hb, h.rv.belowAll hb, fun u hu => (h.ty u hu).moved (fun b _ _ hl => hb.block b hl)⟩
theorem Gr.below {g q : Nat} {x : Gd} {w w' : World} (h : Gr g q x w) (hb : Below w.heap.size w w') : Gr g q x w' := by
  obtain ⟨us, cap, h⟩ := h
  exact ⟨us, cap, h.below hb⟩
theorem GridAt.qb {g q : Nat} {x : Gd} {us : List Rv} {cap : Nat} {w : World} (h : GridAt g q x us cap w) : ∃ cs, w.heap[q]? = some (.cells cs 27 (0, 0)) := by
  obtain ⟨cs, hc, _⟩ := U.own_type h.own (g := q) rfl
  exact ⟨cs, hc⟩
theorem GridAt.gq {g q : Nat} {x : Gd} {us : List Rv} {cap : Nat} {w : World} (h : GridAt g q x us cap w) : g ≠ q := fun e => by
  obtain ⟨cs, hc⟩ := h.qb
  have hg := h.gb
  rw [e, hc] at hg
  injection hg with hg
  injection hg with hg h2
  exact absurd h2 (by decide)
theorem GridAt.lt {g q : Nat} {x : Gd} {us : List Rv} {cap : Nat} {w : World} (h : GridAt g q x us cap w) : g < w.heap.size ∧ q < w.heap.size := by
  obtain ⟨cs, hc⟩ := h.qb
  exact ⟨(Array.getElem?_eq_some_iff.1 h.gb).1, (Array.getElem?_eq_some_iff.1 hc).1⟩
theorem GridAt.ulen {g q : Nat} {x : Gd} {us : List Rv} {cap : Nat} {w : World} (h : GridAt g q x us cap w) : us.length = x.rs.length := h.rv.1
/-- cells lie in blocks of cells -/
theorem TyC.ne {base : Nat} {u : Rv} {w : World} (h : TyC base u w) {p : Nat} {cs : Array Value} {T : TypeId} (hp : w.heap[p]? = some (.cells cs T (0, 0))) (hT : T ≠ 105) : ∀ b off, u.a = some ⟨b, off, none⟩ → b ≠ p := fun b off e e' => by
  obtain ⟨_, cs', h5⟩ := h b off e
  rw [e', hp] at h5
  injection h5 with h5
  injection h5 with h5 h6
  exact hT h6
/-- a grid whose blocks aren't touched -/
theorem GridAt.kept {g q : Nat} {x : Gd} {us : List Rv} {cap : Nat} {w w' : World} {L : List Nat} (h : GridAt g q x us cap w) (hk : KeepB L w w') (hg : g ∉ L) (hq : q ∉ L) (hL : ∀ p ∈ L, p < w.heap.size → ∃ cs T, w.heap[p]? = some (.cells cs T (0, 0)) ∧ T ≠ 105) : GridAt g q x us cap w' := by
  have hne : ∀ u ∈ us, ∀ b off, u.a = some ⟨b, off, none⟩ → b < w.heap.size → w'.heap[b]? = w.heap[b]? := fun u hu b off e hl => hk.block b hl (fun hb => by
    obtain ⟨cs, T, hp, hT⟩ := hL b hb hl
    exact (h.ty u hu).ne hp hT b off e rfl)
  have hgr : w.grownBy w' (some w.heap.size) ∨ True := .inr trivial
  obtain ⟨cs, hqb, hb0⟩ := U.own_type h.own (g := q) rfl
  refine ⟨h.ok, (hk.block g h.lt.1 hg).trans h.gb, ?_, h.rv.moved hk.size hne, fun u hu => (h.ty u hu).moved (hne u hu)⟩
  have ho := h.own
  refine ⟨ho.1, ?_⟩
  rcases ho.2 with ⟨h0, _⟩ | ⟨g', cap', cur, he, hbase, hgb, hc, hmx, hsz, ht⟩
  · cases h0
  · cases he
    exact .inr ⟨_, _, cur, rfl, hbase, (hk.block q h.lt.2 hq).trans hgb, hc, hmx, hsz, ht⟩
/-- none of these blocks is the row's -/
def Off (L : List Nat) (u : Rv) : Prop := u.n ≠ 0 → ∀ b off, u.a = some ⟨b, off, none⟩ → b ∉ L
theorem Off.fresh {L : List Nat} {u : Rv} {m : Nat} (h : ∀ b off, u.a = some ⟨b, off, none⟩ → m ≤ b) (hL : ∀ p ∈ L, p < m) : Off L u := fun _ b off e hb => by have := h b off e; have := hL b hb; omega
theorem RowV.lt {rk : IntKind} {u : Rv} {r : Ro} {w : World} (h : RowV rk u.val r w) (hn : u.n ≠ 0) : ∀ b off, u.a = some ⟨b, off, none⟩ → b < w.heap.size := fun b off e => by
  obtain ⟨a, c, e1, hi, _⟩ := h
  have := Rv.val_inj (v := ⟨a, r.l.length, c, r.wrapped⟩) e1
  subst this
  rcases hi.at_ with h0 | ⟨b', off', ha, hl, _⟩
  · exact absurd (by show r.l.length = 0; rw [h0]; rfl) hn
  · rw [show a = some ⟨b, off, none⟩ from e] at ha
    cases ha
    exact hl
theorem Off.cons {L : List Nat} {rk : IntKind} {u : Rv} {r : Ro} {q : Nat} {w : World} (h : Off L u) (hv : RowV rk u.val r w) (hq : w.heap.size ≤ q) : Off (q :: L) u := fun hn b off e hb => by
  rcases List.mem_cons.1 hb with rfl | hb
  · have := hv.lt hn b off e; omega
  · exact h hn b off e hb
theorem RowV.keptB {rk : IntKind} {u : Rv} {r : Ro} {L : List Nat} {w w' : World} (h : RowV rk u.val r w) (ho : Off L u) (hk : KeepB L w w') : RowV rk u.val r w' := by
  by_cases hn : u.n = 0
  · obtain ⟨a, c, e1, hi, h3⟩ := h
    have := Rv.val_inj (v := ⟨a, r.l.length, c, r.wrapped⟩) e1
    subst this
    have h0 : r.l = [] := List.eq_nil_of_length_eq_zero hn
    exact ⟨a, c, rfl, ⟨rfl, .inl h0⟩, h3⟩
  · exact h.moved hk.size (fun b off e hl => hk.block b hl (ho hn b off e))
/-- rows, a slice of them, none of them in these blocks -/
structure RowsL (rk : IntKind) (L : List Nat) (a : Option Addr) (n c : Nat) (rs : List Ro) (w : World) : Prop where
  ex : ∃ vs, RvsIn a n c vs w ∧ RowsV rk vs rs w ∧ ∀ u ∈ vs, Off L u
  nil : a = none → c = 0
  off : n ≠ 0 → ∀ b off, a = some ⟨b, off, none⟩ → b ∉ L
theorem RowsL.len {rk : IntKind} {L : List Nat} {a : Option Addr} {n c : Nat} {rs : List Ro} {w : World} (h : RowsL rk L a n c rs w) : n = rs.length := by
  obtain ⟨vs, h1, h2, _⟩ := h.ex
  rw [h1.len, h2.1]
theorem RowsL.lt {rk : IntKind} {L : List Nat} {a : Option Addr} {n c : Nat} {rs : List Ro} {w : World} (h : RowsL rk L a n c rs w) (hn : n ≠ 0) : ∀ b off, a = some ⟨b, off, none⟩ → b < w.heap.size := fun b off e => by
  obtain ⟨vs, h1, _⟩ := h.ex
  rcases h1.at_ with h0 | ⟨b', off', ha, hl, _⟩
  · exact absurd (by rw [h1.len, h0]; rfl) hn
  · rw [e] at ha; cases ha; exact hl
theorem RowsL.keptB {rk : IntKind} {L : List Nat} {a : Option Addr} {n c : Nat} {rs : List Ro} {w w' : World} (h : RowsL rk L a n c rs w) (hk : KeepB L w w') : RowsL rk L a n c rs w' := by
  obtain ⟨vs, h1, h2, h3⟩ := h.ex
  refine ⟨⟨vs, ?_, ⟨h2.1, fun i u r hu hr => (h2.2 i u r hu hr).keptB (h3 u (List.mem_of_getElem? hu)) hk⟩, h3⟩, h.nil, h.off⟩
  by_cases hn : n = 0
  · exact ⟨h1.len, h1.fit, h1.top, .inl (List.eq_nil_of_length_eq_zero (by rw [← h1.len]; exact hn))⟩
  · exact h1.blocks hk.size (fun b off e hl => hk.block b hl (h.off hn b off e))
theorem RowsL.below {rk : IntKind} {L : List Nat} {a : Option Addr} {n c : Nat} {rs : List Ro} {w w' : World} (h : RowsL rk L a n c rs w) (hb : Below w.heap.size w w') : RowsL rk L a n c rs w' := h.keptB (KeepB.of_below hb)
theorem RowsL.cons {rk : IntKind} {L : List Nat} {a : Option Addr} {n c : Nat} {rs : List Ro} {w : World} (h : RowsL rk L a n c rs w) {q : Nat} (hq : w.heap.size ≤ q) : RowsL rk (q :: L) a n c rs w := by
  obtain ⟨vs, h1, h2, h3⟩ := h.ex
  refine ⟨⟨vs, h1, h2, fun u hu => ?_⟩, h.nil, fun hn b off e hb => ?_⟩
  · obtain ⟨i, hi, rfl⟩ := List.mem_iff_getElem.1 hu
    have hi' : i < rs.length := by rw [← h2.1]; exact hi
    exact (h3 _ hu).cons (h2.2 i _ _ (List.getElem?_eq_getElem hi) (List.getElem?_eq_getElem hi')) hq
  · rcases List.mem_cons.1 hb with rfl | hb
    · have := h.lt hn b off e; omega
    · exact h.off hn b off e hb
/-- the document's grid -/
def refV (W : Nat) (a : Option Addr) (n c : Nat) : Value := .agg #[.int .i64 (W : Int), .slice a n c]
def RefG (L : List Nat) (v : Value) (x : Gd) (w : World) : Prop := ∃ a n c, v = refV x.W a n c ∧ RowsL .i64 L a n c x.rs w
theorem RefG.keptB {L : List Nat} {v : Value} {x : Gd} {w w' : World} (h : RefG L v x w) (hk : KeepB L w w') : RefG L v x w' := by
  obtain ⟨a, n, c, e, h⟩ := h
  exact ⟨a, n, c, e, h.keptB hk⟩
theorem RefG.below {L : List Nat} {v : Value} {x : Gd} {w w' : World} (h : RefG L v x w) (hb : Below w.heap.size w w') : RefG L v x w' := h.keptB (KeepB.of_below hb)
theorem RefG.cons {L : List Nat} {v : Value} {x : Gd} {w : World} (h : RefG L v x w) {q : Nat} (hq : w.heap.size ≤ q) : RefG (q :: L) v x w := by
  obtain ⟨a, n, c, e, h⟩ := h
  exact ⟨a, n, c, e, h.cons hq⟩
/-- rows of our own, as they are answered -/
theorem OwnV.rowsL {rk : IntKind} {T : TypeId} {L : List Nat} {base : Nat} {a : Option Addr} {n c : Nat} {vs : List Rv} {rs : List Ro} {w : World} (h : OwnV T base (.slice a n c) vs w) (hr : RowsV rk vs rs w) (ho : ∀ u ∈ vs, Off L u) (hL : ∀ p ∈ L, p < base) : RowsL rk L a n c rs w := by
  obtain ⟨a', c', e, h1, h2, h3⟩ := h.shape
  cases e
  exact ⟨⟨vs, h1, hr, ho⟩, h3, fun _ b off e hb => by have := (h2 b off e).1; have := hL b hb; omega⟩
end Go.Proofs.YtkggmcnocpgnbaaDoor.K

/- The program's grid: how places count, which rows there are. -/
namespace Go.Proofs.YtkggmcnocpgnbaaDoor.K
open Go.RowKit

theorem gnear_any (n lo hi : Int) (w : World) : Calls Tryd.prog 91 #[.int .i64 n, .int .i64 lo, .int .i64 hi] w fun e w' => e = .returned (.int .i64 (nearG n lo hi)) ∧ w = w' := by
  unfold nearG
  obtain ⟨N, hN⟩ : ∃ N, max n lo = N := ⟨_, rfl⟩
  rw [hN]
  obtain ⟨M, hM⟩ : ∃ M, min N hi = M := ⟨_, rfl⟩
  rw [hM]
  go_enter Tryd.func91, Tryd.ntmps91
  go_wp2
  go_ret
  exact ⟨rfl, rfl⟩
theorem gsize_any (n : Int) (w : World) : Calls Tryd.prog 62 #[.int .i64 n] w fun e w' => e = .returned (.int .i64 (szN n : Int)) ∧ w = w' := by
  have hs : nearG n 1 1000 = (szN n : Int) := by unfold nearG szN; omega
  have HN := Lib.hid (gnear_any n 1 1000 w)
  rw [hs] at HN
  clear hs
  go_enter Tryd.func62, Tryd.ntmps62
  go_wp2_with (go_at_call 91; refine HN.out.mono ?_; rintro e w' ⟨rfl, rfl⟩)
  go_ret
  exact ⟨rfl, rfl⟩
theorem rsize_any (n : Int) (w : World) : Calls Tryd.prog 64 #[.int .i64 n] w fun e w' => e = .returned (.int .i64 (szN n : Int)) ∧ w = w' := by
  obtain ⟨N, hN⟩ : ∃ N, min n 1000 = N := ⟨_, rfl⟩
  obtain ⟨M, hM⟩ : ∃ M, max 1 N = M := ⟨_, rfl⟩
  have hs : (szN n : Int) = M := by rw [← hM, ← hN]; unfold szN; omega
  rw [hs]
  clear hs
  go_enter Tryd.func64, Tryd.ntmps64
  go_wp2
  go_ret
  exact ⟨rfl, rfl⟩
theorem GridAt.c0 {g q : Nat} {x : Gd} {us : List Rv} {cap : Nat} {w : World} (h : GridAt g q x us cap w) : w.cell? ⟨g, 0, none⟩ = some (.int .i64 (x.W : Int)) := by simp [World.cell?, h.gb]
theorem GridAt.c1 {g q : Nat} {x : Gd} {us : List Rv} {cap : Nat} {w : World} (h : GridAt g q x us cap w) : w.cell? ⟨g, 1, none⟩ = some (.slice (some ⟨q, 0, none⟩) us.length cap) := by simp [World.cell?, h.gb]
theorem GridAt.fr {g q : Nat} {x : Gd} {us : List Rv} {cap : Nat} {w : World} (h : GridAt g q x us cap w) (o : Nat) : w.frozen? ⟨g, o, none⟩ = false := by simp [World.frozen?, h.gb]
theorem GridAt.fit {g q : Nat} {x : Gd} {us : List Rv} {cap : Nat} {w : World} (h : GridAt g q x us cap w) : us.length ≤ cap ∧ (cap : Int) ≤ 9223372036854775807 := by
  obtain ⟨a, c, e, h1, _⟩ := h.own.shape
  cases e
  exact ⟨h1.fit, h1.top⟩
theorem GridAt.rin {g q : Nat} {x : Gd} {us : List Rv} {cap : Nat} {w : World} (h : GridAt g q x us cap w) : RvsIn (some ⟨q, 0, none⟩) us.length cap us w := by
  obtain ⟨a, c, e, h1, _⟩ := h.own.shape
  cases e
  exact h1
theorem GridAt.few {g q : Nat} {x : Gd} {us : List Rv} {cap : Nat} {w : World} (h : GridAt g q x us cap w) : 1 ≤ us.length ∧ us.length ≤ 1000 := by rw [h.ulen]; exact ⟨h.ok.h1, h.ok.h2⟩

set_option maxRecDepth 100000 in
theorem has_any {g q : Nat} {x : Gd} {us : List Rv} {cap : Nat} (y : Int) (w : World) (h : GridAt g q x us cap w) :
    Calls Tryd.prog 78 #[.pointer (some ⟨g, 0, none⟩), .int .i64 y] w fun e w' => e = .returned (.bool (decide (0 ≤ y ∧ y < (us.length : Int)))) ∧ w = w' := by
  obtain ⟨n, hn⟩ : ∃ n, us.length = n := ⟨_, rfl⟩
  have c1 := h.c1
  rw [hn] at c1 ⊢
  clear hn
  by_cases h1 : 0 ≤ y
  · have d1 : decide (0 ≤ y) = true := decide_eq_true h1
    obtain ⟨D, hD⟩ : ∃ D, decide (y < (n : Int)) = D := ⟨_, rfl⟩
    have hd : decide (0 ≤ y ∧ y < (n : Int)) = D := by rw [← hD]; simp [h1]
    rw [hd]
    clear hd h1
    go_enter Tryd.func78, Tryd.ntmps78
    go_wp2
    go_ret
    exact ⟨rfl, rfl⟩
  · have d1 : decide (0 ≤ y) = false := decide_eq_false h1
    have hd : decide (0 ≤ y ∧ y < (n : Int)) = false := decide_eq_false (fun e => h1 e.1)
    rw [hd]
    clear hd h1
    go_enter Tryd.func78, Tryd.ntmps78
    go_wp2
    go_ret
    exact ⟨rfl, rfl⟩
/-- what region answers -/
def regV (q cap : Nat) (len : Nat) (top bot : Int) : Value := if plN len bot < plN len top then .slice none 0 0 else .slice (some ⟨q, plN len top * 2, none⟩) (plN len bot + 1 - plN len top) (cap - plN len top)
def regK (len : Nat) (top bot n : Int) : Nat := if plN len bot < plN len top then 0 else cntN n (plN len bot + 1 - plN len top)
set_option maxRecDepth 100000 in
set_option maxHeartbeats 4000000 in
theorem region_any {g q : Nat} {x : Gd} {us : List Rv} {cap : Nat} (top bot n : Int) (w : World) (h : GridAt g q x us cap w) :
    Calls Tryd.prog 74 #[.pointer (some ⟨g, 0, none⟩), .int .i64 top, .int .i64 bot, .int .i64 n] w fun e w' => e = .returned (.tuple #[regV q cap us.length top bot, .int .i64 (regK us.length top bot n : Int)]) ∧ w = w' := by
  obtain ⟨len, hlen⟩ : ∃ len, us.length = len := ⟨_, rfl⟩
  have hf := h.few
  have hfit := h.fit
  have c1 := h.c1
  rw [hlen] at hf hfit c1 ⊢
  have H1 := Lib.hid (gnear_any top 0 ((len : Int) - 1) w)
  have H2 := Lib.hid (gnear_any bot 0 ((len : Int) - 1) w)
  rw [plN_near (by omega)] at H1 H2
  have hT := plN_lt (by omega : 0 < len) top
  have hB := plN_lt (by omega : 0 < len) bot
  unfold regV regK
  obtain ⟨T, hTe⟩ : ∃ T, plN len top = T := ⟨_, rfl⟩
  obtain ⟨B, hBe⟩ : ∃ B, plN len bot = B := ⟨_, rfl⟩
  rw [hTe] at H1 hT ⊢
  rw [hBe] at H2 hB ⊢
  have hl1 : (len : Int) ≤ 1000 := by omega
  have hcl : (len : Int) ≤ cap := by omega
  have hcm := hfit.2
  clear hTe hBe hlen hfit
  by_cases hc : B < T
  · rw [if_pos hc, if_pos hc]
    have d1 : decide (B < T) = true := decide_eq_true hc
    have d2 : decide ((B : Int) < (T : Int)) = true := decide_eq_true (by omega)
    go_enter Tryd.func74, Tryd.ntmps74
    go_upto_region 2 with fail
    go_wp2_with (first | (go_at_call 91; refine H1.out.mono ?_; rintro e w' ⟨rfl, rfl⟩; clear H1) | (go_at_call 91; refine H2.out.mono ?_; rintro e w' ⟨rfl, rfl⟩))
    exact bodyPost_ret (results_tmp2 rfl _ _ _) rfl ⟨rfl, rfl⟩
  · rw [if_neg hc, if_neg hc]
    have d1 : decide (B < T) = false := decide_eq_false hc
    have d2 : decide ((B : Int) < (T : Int)) = false := decide_eq_false (by omega)
    have H3 := Lib.hid (gnear_any n 0 ((B + 1 - T : Nat) : Int) w)
    have hk : nearG n 0 ((B + 1 - T : Nat) : Int) = (cntN n (B + 1 - T) : Int) := by unfold nearG cntN; omega
    rw [hk] at H3
    obtain ⟨m, hm⟩ : ∃ m, B + 1 - T = m := ⟨_, rfl⟩
    rw [hm] at H3 ⊢
    have hsub : B + 1 - T = m := hm
    have hTB : T ≤ B + 1 := by omega
    have hTB2 : (T : Int) ≤ (B : Int) + 1 := by omega
    have hcT : ¬ cap = T := by omega
    have hcB : B + 1 ≤ cap := by omega
    clear hk hc
    go_enter Tryd.func74, Tryd.ntmps74
    go_upto_region 2 with fail
    go_wp2_with (first | (go_at_call 91; refine H1.out.mono ?_; rintro e w' ⟨rfl, rfl⟩; clear H1) | (go_at_call 91; refine H2.out.mono ?_; rintro e w' ⟨rfl, rfl⟩; clear H2) | (go_at_call 91; refine H3.out.mono ?_; rintro e w' ⟨rfl, rfl⟩))
    exact bodyPost_ret (results_tmp2 rfl _ _ _) rfl ⟨rfl, rfl⟩
end Go.Proofs.YtkggmcnocpgnbaaDoor.K

/- The program's grid: rows that are answered; New. -/
namespace Go.Proofs.YtkggmcnocpgnbaaDoor.K
open Go.RowKit

/-- rows that are answered: a slice of them, in memory of its own -/
def RowsA (L : List Nat) (rs : List Ro) (w : World) (e : Ending) (w' : World) : Prop := ∃ a n c us, e = .returned (.slice a n c) ∧ RowsL .i32 L a n c rs w' ∧ OwnV 27 w.heap.size (.slice a n c) us w' ∧ RowsV .i32 us rs w' ∧ Below w.heap.size w w'
theorem rowsA_of {L : List Nat} {base : Nat} {rs : List Ro} {w w' : World} {v : Value} {us : List Rv} (hb : w.heap.size ≤ base) (hL : ∀ p ∈ L, p < w.heap.size) (ho : OwnV 27 base v us w') (hr : RowsV .i32 us rs w') (ht : ∀ u ∈ us, TyC base u w') (hB : Below w.heap.size w w') : RowsA L rs w (.returned v) w' := by
  obtain ⟨a, c, rfl, -⟩ := ho.shape
  exact ⟨a, _, c, us, rfl, (ho.weaken hb).rowsL hr (fun u hu => Off.fresh (m := base) (fun b off e => (ht u hu b off e).1) (fun p hp => by have := hL p hp; omega)) hL, ho.weaken hb, hr, hB⟩
theorem copyDown_any {L : List Nat} {a : Option Addr} {n c : Nat} {us : List Rv} {rs : List Ro} (w : World) (h : RvsIn a n c us w) (hr : RowsV .i32 us rs w) (hl : ∀ r ∈ rs, r.l.length ≤ 1000) (hn : us.length ≤ 1000) (hL : ∀ p ∈ L, p < w.heap.size) :
    Calls Tryd.prog 72 #[.func (.func 104) #[] #[.pointer (some ⟨w.heap.size, 0, none⟩)]] (w.alloc (.cells #[.slice a n c] 66)) (RowsA L rs w) := by
  obtain ⟨its, h1, h2⟩ := its_of hr hl
  have hb1 : Below w.heap.size w (w.alloc (.cells #[.slice a n c] 66)) := (Below.refl _ _).alloc (Nat.le_refl _) _
  have hlk := looksV_new h
  have hlen : its.length = us.length := by rw [← h1, List.length_map]
  refine (callsIn_wide (n := 10)).1 ((copied_in w 10 (by decide) _ _ (enters_of Tryd.func104 (by kernel_rfl) rfl) its (by omega) _ hb1 ?_).mono ?_)
  · refine down_own w 9 (by decide) _ w.heap.size a n c its (by omega) _ (by rw [h1]; exact hlk.below ((Below.refl _ _).alloc (Nat.le_refl _) _)) (fun b hb => ?_)
    have hall := hlk.all
    rw [← h1] at hall
    exact hall b (by
      unfold lookV at hb ⊢
      cases a <;> cases its <;> exact hb)
  · rintro e w' ⟨v, us', rfl, ho, hr', ht, hB⟩
    rw [h2] at hr'
    exact rowsA_of (by simp) hL ho hr' ht (hb1.trans (hB.mono (by simp)))
theorem copyUp_any {L : List Nat} {a : Option Addr} {n c : Nat} {us : List Rv} {rs : List Ro} (w : World) (h : RvsIn a n c us w) (hr : RowsV .i32 us rs w) (hl : ∀ r ∈ rs, r.l.length ≤ 1000) (hn : us.length ≤ 1000) (hL : ∀ p ∈ L, p < w.heap.size) :
    Calls Tryd.prog 72 #[.func (.func 105) #[] #[.pointer (some ⟨w.heap.size, 0, none⟩)]] (w.alloc (.cells #[.slice a n c] 66)) (RowsA L rs.reverse w) := by
  obtain ⟨its, h1, h2⟩ := its_of hr hl
  have hb1 : Below w.heap.size w (w.alloc (.cells #[.slice a n c] 66)) := (Below.refl _ _).alloc (Nat.le_refl _) _
  have hlk := looksV_new h
  have hlen : its.length = us.length := by rw [← h1, List.length_map]
  refine (callsIn_wide (n := 12)).1 ((copied_in w 12 (by decide) _ _ (enters_of Tryd.func105 (by kernel_rfl) rfl) its.reverse (by rw [List.length_reverse]; omega) _ hb1 ?_).mono ?_)
  · refine upw_own w 11 (by decide) _ w.heap.size a n c its (by omega) _ (by rw [h1]; exact hlk.below ((Below.refl _ _).alloc (Nat.le_refl _) _)) (fun b hb => ?_)
    have hall := hlk.all
    rw [← h1] at hall
    exact hall b (by
      unfold lookV at hb ⊢
      cases a <;> cases its <;> exact hb)
  · rintro e w' ⟨v, us', rfl, ho, hr', ht, hB⟩
    rw [List.map_reverse, h2] at hr'
    exact rowsA_of (by simp) hL ho hr' ht (hb1.trans (hB.mono (by simp)))

theorem RvsIn.sub {q n c : Nat} {us : List Rv} {w : World} (h : RvsIn (some ⟨q, 0, none⟩) n c us w) (t m : Nat) (hm : t + m ≤ n) : RvsIn (some ⟨q, t * 2, none⟩) m (c - t) ((us.take (t + m)).drop t) w := by
  have hl := h.len
  have hf := h.fit
  refine ⟨by rw [List.length_drop, List.length_take]; omega, by omega, by have := h.top; omega, ?_⟩
  rcases h.at_ with e | ⟨b, off, ha, hb, hi⟩
  · left; rw [e]; simp
  · cases ha
    refine .inr ⟨q, t * 2, rfl, hb, fun i u hu => ?_⟩
    rw [List.getElem?_drop, List.getElem?_take] at hu
    split at hu
    · have := hi (t + i) u hu
      rw [show t * 2 + i * 2 = 0 + (t + i) * 2 by omega]
      exact this
    · cases hu
/-- the row at a place, or none -/
def rowAt (rs : List Ro) (y : Int) : Ro := if 0 ≤ y ∧ y < (rs.length : Int) then rs.getD y.toNat ⟨[], false⟩ else ⟨[], false⟩
theorem rowV_nil (rk : IntKind) (w : World) : RowV rk Rv.nil.val ⟨[], false⟩ w := ⟨none, 0, rfl, ⟨rfl, .inl rfl⟩, fun _ => rfl, Nat.le_refl _, by decide⟩
def RowA (r : Ro) (w : World) (e : Ending) (w' : World) : Prop := ∃ p : Rv, e = .returned p.val ∧ RowV .i32 p.val r w' ∧ Below w.heap.size w w'
set_option maxRecDepth 100000 in
set_option maxHeartbeats 4000000 in
theorem row_any {g q : Nat} {x : Gd} {us : List Rv} {cap : Nat} (y : Int) (w : World) (h : GridAt g q x us cap w) :
    Calls Tryd.prog 60 #[.pointer (some ⟨g, 0, none⟩), .int .i64 y] w (RowA (rowAt x.rs y) w) := by
  obtain ⟨rb, hrb⟩ : ∃ rb, w.heap.size = rb := ⟨_, rfl⟩
  obtain ⟨w1, hw1⟩ : ∃ w1, w.alloc (.cells #[.slice none 0 0, .bool false] 27) = w1 := ⟨_, rfl⟩
  have hb1 : Below w.heap.size w w1 := by rw [← hw1]; exact (Below.refl _ _).alloc (Nat.le_refl _) _
  have hR1 : RoB 27 rb (.slice none 0 0) false w1 := by rw [← hw1, ← hrb]; exact RoB.new _ _ _ _
  have h1 := h.below hb1
  have HH := Lib.hid (has_any y w1 h1)
  have hn := h.few
  have hfit := h.fit
  have HB1 := Lib.hid hb1
  have HR1 := Lib.hid hR1
  have HW1 := Lib.hid hw1
  have HRb := Lib.hid hrb
  have H1 := Lib.hid h1
  have c1 := h1.c1
  have hul := h.ulen
  clear hb1 hR1 hw1 h1
  obtain ⟨n, hne⟩ : ∃ n, us.length = n := ⟨_, rfl⟩
  rw [hne] at hn hfit HH c1 hul
  by_cases hy : 0 ≤ y ∧ y < (n : Int)
  · obtain ⟨k, rfl⟩ : ∃ k : Nat, y = (k : Int) := ⟨y.toNat, by omega⟩
    have hkn : k < n := by omega
    have hr : rowAt x.rs (k : Int) = x.rs.getD k ⟨[], false⟩ := by unfold rowAt; rw [if_pos (by rw [← hul]; exact hy)]; rfl
    rw [hr]
    have d0 : decide (0 ≤ (k : Int) ∧ (k : Int) < (n : Int)) = true := decide_eq_true hy
    rw [d0] at HH
    have hgk : x.rs[k]? = some (x.rs.getD k ⟨[], false⟩) := by rw [List.getD_eq_getElem?_getD, List.getElem?_eq_getElem (by omega)]; rfl
    obtain ⟨r, hre⟩ : ∃ r, x.rs.getD k ⟨[], false⟩ = r := ⟨_, rfl⟩
    rw [hre] at hgk ⊢
    have hsub := H1.out.rin.sub k 1 (by rw [hne]; omega)
    have hrs : (x.rs.take (k + 1)).drop k = [r] := by
      rw [List.take_add_one, hgk, List.drop_append_of_le_length (by rw [List.length_take]; omega), List.drop_of_length_le (by rw [List.length_take]; omega)]; rfl
    have hrv := (H1.out.rv.take (k + 1)).drop k
    rw [hrs] at hrv
    have HC := Lib.hid (copyDown_any (L := []) w1 hsub hrv (fun q' hq' => by rw [List.mem_singleton.1 hq', h.ok.len r (List.mem_of_getElem? hgk)]; exact h.ok.w2) (by rw [hrv.1]; simp) (fun _ hp => by cases hp))
    have hkc : (k : Int) + 1 ≤ cap := by omega
    have hkc2 : k + 1 ≤ cap := by omega
    have hck : ¬ cap = k := by omega
    have hk1 : k ≤ k + 1 := by omega
    have hks : k + 1 - k = 1 := by omega
    have hk3 : (k : Int) ≤ 1000 := by omega
    have hcm := hfit.2
    clear hy d0 hr hgk hre hsub hrs hrv hul hfit hne
    go_enter Tryd.func60, Tryd.ntmps60
    go_upto_region 1 with fail
    first | rw [HW1.out, HRb.out] | rw [HW1.out]
    go_wp2_with (go_at_call 78; refine HH.out.mono ?_; rintro e w' ⟨rfl, rfl⟩)
    refine (down_any _ _ _ w1).mono ?_
    rintro e w' ⟨rfl, rfl⟩
    go_wp2_with fail
    refine HC.out.mono ?_
    rintro e w2 ⟨a, m, c, us', rfl, -, ho, hv, hb2⟩
    obtain ⟨a', c', hae, hin, -, -⟩ := ho.shape
    cases hae
    have hl1 : us'.length = 1 := hv.1
    match us', hl1, hv, hin, ho with
    | [u], _, hv, hin, ho =>
      obtain ⟨b, off, rfl, hbl, hi⟩ := hin.at_.resolve_left (by simp)
      obtain ⟨hc0, hc1⟩ := hi 0 u rfl
      have hru := hv.2 0 u r rfl rfl
      rw [Nat.zero_mul, Nat.add_zero] at hc0 hc1
      have hR2 := HR1.out.below hb2 HR1.out.lt
      have s0 := hR2.c0
      have s1 := hR2.c1
      have f0 := hR2.fr 0
      have f1 := hR2.fr 1
      have hbr : b ≠ rb := by
        have := (ho.ownBlock b rfl).1
        have := HR1.out.lt
        omega
      have HRu := Lib.hid hru
      have HB2 := Lib.hid hb2
      have HR2 := Lib.hid hR2
      obtain ⟨ua, un, uc, ub⟩ := u
      simp only at hc0 hc1
      clear hv hin ho hi hl1 HC hru hb2 hR2
      go_wp2_with fail
      refine bodyPost_ret (v := .agg #[.slice ua un uc, .bool ub]) (by rw [results_cell (fn := Tryd.f60) rfl]; go_simp <;> rfl) rfl ?_
      exact ⟨⟨ua, un, uc, ub⟩, rfl, (HRu.out.setAt HR2.out _).setAt (HR2.out.set0 (v' := .slice ua un uc)) _, below_set2 (HB1.out.trans (HB2.out.mono HB1.out.size)) (by rw [HRb.out]; exact Nat.le_refl _)⟩
  · have hr : rowAt x.rs y = ⟨[], false⟩ := by unfold rowAt; rw [if_neg (by rw [← hul]; exact hy)]
    rw [hr]
    have d0 : decide (0 ≤ y ∧ y < (n : Int)) = false := decide_eq_false hy
    rw [d0] at HH
    have s0 := HR1.out.c0
    have s1 := HR1.out.c1
    have f0 := HR1.out.fr 0
    have f1 := HR1.out.fr 1
    clear hy d0 hr
    go_enter Tryd.func60, Tryd.ntmps60
    go_upto_region 1 with fail
    first | rw [HW1.out, HRb.out] | rw [HW1.out]
    go_wp2_with (go_at_call 78; refine HH.out.mono ?_; rintro e w' ⟨rfl, rfl⟩)
    refine bodyPost_ret (v := .agg #[.slice none 0 0, .bool false]) (by rw [results_cell (fn := Tryd.f60) rfl]; go_simp <;> rfl) rfl ?_
    refine ⟨Rv.nil, rfl, rowV_nil _ _, below_set2 HB1.out (by rw [HRb.out]; exact Nat.le_refl _)⟩
set_option maxRecDepth 100000 in
set_option maxHeartbeats 4000000 in
theorem gnew_any (W0 H0 : Int) (w : World) :
    Calls Tryd.prog 35 #[.int .i64 W0, .int .i64 H0] w fun e w' => ∃ g q, e = .returned (.pointer (some ⟨g, 0, none⟩)) ∧ w.heap.size ≤ g ∧ w.heap.size ≤ q ∧ Gr g q (newG W0 H0) w' ∧ Below w.heap.size w w' := by
  have hok := newG_ok W0 H0
  unfold newG at hok ⊢
  have H1 := Lib.hid (gsize_any W0 w)
  have H2 := Lib.hid (fun v => gsize_any H0 v)
  have hW1 := szN_pos W0
  have hW2 := szN_le W0
  have hH1 := szN_pos H0
  have hH2 := szN_le H0
  obtain ⟨W, hW⟩ : ∃ W, szN W0 = W := ⟨_, rfl⟩
  obtain ⟨H, hH⟩ : ∃ H, szN H0 = H := ⟨_, rfl⟩
  rw [hW] at H1 hok hW1 hW2 ⊢
  rw [hH] at H2 hok hH1 hH2 ⊢
  have hnW : nearN (W : Int) = W := by unfold nearN; omega
  have H3 := Lib.hid (rowBlank_any (W : Int) 0 w)
  rw [hnW] at H3
  have HOk := Lib.hid hok
  clear hok hW hH hnW
  go_enter Tryd.func35, Tryd.ntmps35
  go_upto_region 2 with (go_at_call 62; refine H1.out.mono ?_; rintro e w' ⟨rfl, rfl⟩)
  go_wp2_with fail
  refine H3.out.mono ?_
  rintro e w1 ⟨v1, rfl, hO1, hb1⟩
  obtain ⟨a1, c1, rfl, -⟩ := hO1.shape
  have hl1 : (blanks W 0).length = W := blanks_length _ _
  rw [hl1] at hO1 ⊢
  obtain ⟨p, hp⟩ : ∃ p, w1.heap.size = p := ⟨_, rfl⟩
  obtain ⟨w2, hw2⟩ : ∃ w2, w1.alloc (.cells #[.slice a1 W c1, .bool false] 27) = w2 := ⟨_, rfl⟩
  have hb2 : Below w1.heap.size w1 w2 := by rw [← hw2]; exact (Below.refl _ _).alloc (Nat.le_refl _) _
  have hs2 : w2.heap.size = p + 1 := by rw [← hw2, World.size_alloc, hp]
  have hc2 : ∀ j u, (vCells ⟨a1, W, c1, false⟩)[j]? = some u → w2.cell? ((⟨p, 0, none⟩ : Addr).add j) = some u := by
    intro j u hj
    have hadd : ((⟨p, 0, none⟩ : Addr).add j) = ⟨p, 0 + j, none⟩ := by unfold Addr.add; split <;> simp_all
    rw [hadd, Nat.zero_add, ← hw2, ← hp, World.cell?_alloc_new]
    simpa [vCells] using hj
  have H4 := Lib.hid (repeat_rows p 0 1 H (vCells ⟨a1, W, c1, false⟩) w2 rfl hc2 (by omega) (fun u hu => flatV_one [⟨a1, W, c1, false⟩] u (by simpa [flatV] using hu)) (by omega))
  rw [hs2] at H4
  have HO1 := Lib.hid hO1
  have HB1 := Lib.hid hb1
  have HB2 := Lib.hid hb2
  have HW2 := Lib.hid hw2
  have HPp := Lib.hid hp
  have hpw : w.heap.size ≤ p := by rw [← hp]; exact hb1.size
  clear hO1 hb1 hl1 hb2 hs2 hc2 hw2 hp H1 H3
  go_wp2_with fail
  first | rw [HW2.out, HPp.out] | rw [HW2.out]
  go_wp2_with (go_at_call 62; refine (H2.out _).mono ?_; rintro e w' ⟨rfl, rfl⟩)
  refine H4.out.mono ?_
  rintro e w3 ⟨rfl, hO3, hb3⟩
  have HO3 := Lib.hid hO3
  have HB3 := Lib.hid hb3
  have hs3 := hb3.size
  clear hO3 hb3 H4 H2
  go_wp2_with fail
  go_ret
  have hlen : (List.replicate H (blankR W 0)).length = H := List.length_replicate ..
  have hB13 : Below w.heap.size w w3 := (HB1.out.trans (HB2.out.mono HB1.out.size)).trans (HB3.out.mono (by omega))
  have hal : Below w3.heap.size w3 (w3.alloc (.cells #[.int .i64 (W : Int), .slice (some ⟨p + 1, 0, none⟩) H H] 130)) := (Below.refl _ _).alloc (Nat.le_refl _) _
  have hO1' := HO1.out.belowAll HB2.out
  have hb3' : Below w2.heap.size w2 w3 := HB3.out.mono (by have := HB3.out.size; have := HW2.out; have := HPp.out; rw [← HW2.out, World.size_alloc, HPp.out]; omega)
  have hO1'' := (hO1'.belowAll hb3').belowAll hal
  have hrv : RowV .i32 (Rv.val ⟨a1, W, c1, false⟩) (blankR W 0) (w3.alloc (.cells #[.int .i64 (W : Int), .slice (some ⟨p + 1, 0, none⟩) H H] 130)) := by
    have h := hO1''.rowV (r := blankR W 0)
    exact h
  have hty : TyC 0 ⟨a1, W, c1, false⟩ (w3.alloc (.cells #[.int .i64 (W : Int), .slice (some ⟨p + 1, 0, none⟩) H H] 130)) := (fun b off e => ⟨Nat.zero_le _, (TyC.of (b := false) hO1'' b off e).2⟩)
  refine ⟨w3.heap.size, p + 1, rfl, hB13.size, by omega, ⟨List.replicate H ⟨a1, W, c1, false⟩, H, HOk.out, ?_, ?_, RowsV.rep hrv H, fun u hu => ?_⟩, hB13.trans (hal.mono (by have := hB13.size; omega))⟩
  · rw [List.length_replicate]; exact World.alloc_heap_new _ _
  · have h := HO3.out
    unfold OwnV
    rw [List.length_replicate, flatV_rep]
    exact (U.weaken (U.belowAll h hal) (Nat.zero_le _))
  · rw [(List.mem_replicate.1 hu).2]; exact hty
end Go.Proofs.YtkggmcnocpgnbaaDoor.K
