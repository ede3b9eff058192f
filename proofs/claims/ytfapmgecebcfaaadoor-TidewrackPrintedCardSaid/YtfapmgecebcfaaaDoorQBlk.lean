/- A parser in its block; what was said, in memory of our own. -/
import Derived.Test.YtfapmgecebcfaaaDoorQMath
import Derived.Test.YtfapmgecebcfaaaDoorMerged2
namespace Go.Proofs.YtfapmgecebcfaaaDoor.Q
open Go.RowKit
open Go.Proofs.YtfapmgecebcfaaaDoor.W (OwnI OwnR IntsIn RunesIn)

/-! ## The parser -/
def strV (t : List UInt8) : Value := .string ⟨⟨t⟩⟩
theorem str_eq (s : ByteArray) : Value.string s = strV s.data.toList := rfl
def pArr (p : PS) : Array Value := #[.int .i64 (p.state : Int), .int .u8 (p.dec.lead : Int), .int .i32 (p.dec.rune : Int), .int .i64 (p.dec.need : Int),
  .int .i64 (p.nums.getD 0 0), .int .i64 (p.nums.getD 1 0), .int .i64 (p.nums.getD 2 0), .int .i64 (p.nums.getD 3 0), .int .i64 (p.nums.getD 4 0), .int .i64 (p.nums.getD 5 0), .int .i64 (p.nums.getD 6 0), .int .i64 (p.nums.getD 7 0),
  .int .i64 (p.nums.getD 8 0), .int .i64 (p.nums.getD 9 0), .int .i64 (p.nums.getD 10 0), .int .i64 (p.nums.getD 11 0), .int .i64 (p.nums.getD 12 0), .int .i64 (p.nums.getD 13 0), .int .i64 (p.nums.getD 14 0), .int .i64 (p.nums.getD 15 0),
  .int .i64 (p.nums.length : Int), .int .i64 p.number, .bool p.begun, .bool p.numbered, .bool p.priv, .bool p.wrong, strV p.text]
def PBlk (k : Nat) (p : PS) (w : World) : Prop := w.heap[k]? = some (.cells (pArr p) 31 (0, 0))
theorem PBlk.lt {k : Nat} {p : PS} {w : World} (h : PBlk k p w) : k < w.heap.size := (Array.getElem?_eq_some_iff.1 h).1
theorem PBlk.cell {k : Nat} {p : PS} {w : World} (h : PBlk k p w) (i : Nat) : w.cell? ⟨k, i, none⟩ = (pArr p)[i]? := by simp [World.cell?, show w.heap[k]? = _ from h]
theorem PBlk.fr {k : Nat} {p : PS} {w : World} (h : PBlk k p w) (o : Nat) : w.frozen? ⟨k, o, none⟩ = false := by simp [World.frozen?, show w.heap[k]? = _ from h]
theorem PBlk.state {k : Nat} {p : PS} {w : World} (h : PBlk k p w) : w.cell? ⟨k, 0, none⟩ = some (.int .i64 (p.state : Int)) := h.cell 0
theorem PBlk.lead {k : Nat} {p : PS} {w : World} (h : PBlk k p w) : w.cell? ⟨k, 1, none⟩ = some (.int .u8 (p.dec.lead : Int)) := h.cell 1
theorem PBlk.rune {k : Nat} {p : PS} {w : World} (h : PBlk k p w) : w.cell? ⟨k, 2, none⟩ = some (.int .i32 (p.dec.rune : Int)) := h.cell 2
theorem PBlk.need {k : Nat} {p : PS} {w : World} (h : PBlk k p w) : w.cell? ⟨k, 3, none⟩ = some (.int .i64 (p.dec.need : Int)) := h.cell 3
theorem PBlk.count {k : Nat} {p : PS} {w : World} (h : PBlk k p w) : w.cell? ⟨k, 20, none⟩ = some (.int .i64 (p.nums.length : Int)) := h.cell 20
theorem PBlk.number {k : Nat} {p : PS} {w : World} (h : PBlk k p w) : w.cell? ⟨k, 21, none⟩ = some (.int .i64 p.number) := h.cell 21
theorem PBlk.begun {k : Nat} {p : PS} {w : World} (h : PBlk k p w) : w.cell? ⟨k, 22, none⟩ = some (.bool p.begun) := h.cell 22
theorem PBlk.numbered {k : Nat} {p : PS} {w : World} (h : PBlk k p w) : w.cell? ⟨k, 23, none⟩ = some (.bool p.numbered) := h.cell 23
theorem PBlk.priv {k : Nat} {p : PS} {w : World} (h : PBlk k p w) : w.cell? ⟨k, 24, none⟩ = some (.bool p.priv) := h.cell 24
theorem PBlk.wrong {k : Nat} {p : PS} {w : World} (h : PBlk k p w) : w.cell? ⟨k, 25, none⟩ = some (.bool p.wrong) := h.cell 25
theorem PBlk.text {k : Nat} {p : PS} {w : World} (h : PBlk k p w) : w.cell? ⟨k, 26, none⟩ = some (strV p.text) := h.cell 26
theorem PBlk.num {k : Nat} {p : PS} {w : World} (h : PBlk k p w) (i : Nat) (hi : i < 16) : w.cell? ⟨k, 4 + i, none⟩ = some (.int .i64 (p.nums.getD i 0)) := by
  rw [h.cell]
  match i, hi with
  | 0, _ => rfl
  | 1, _ => rfl
  | 2, _ => rfl
  | 3, _ => rfl
  | 4, _ => rfl
  | 5, _ => rfl
  | 6, _ => rfl
  | 7, _ => rfl
  | 8, _ => rfl
  | 9, _ => rfl
  | 10, _ => rfl
  | 11, _ => rfl
  | 12, _ => rfl
  | 13, _ => rfl
  | 14, _ => rfl
  | 15, _ => rfl
  | n + 16, h => exact absurd h (by omega)
theorem PBlk.setAt {k : Nat} {p q : PS} {w : World} (h : PBlk k p w) (i : Nat) (v : Value) (e : (pArr p).setIfInBounds i v = pArr q) : PBlk k q (w.setCell ⟨k, i, none⟩ v) := by
  unfold PBlk at *
  simp [World.setCell, Array.getElem?_modify, h, e]
theorem PBlk.setState {k : Nat} {p : PS} {w : World} (h : PBlk k p w) (s : Nat) : PBlk k { p with state := s } (w.setCell ⟨k, 0, none⟩ (.int .i64 (s : Int))) := h.setAt 0 _ rfl
theorem PBlk.setNumber {k : Nat} {p : PS} {w : World} (h : PBlk k p w) (n : Int) : PBlk k { p with number := n } (w.setCell ⟨k, 21, none⟩ (.int .i64 n)) := h.setAt 21 _ rfl
theorem PBlk.setBegun {k : Nat} {p : PS} {w : World} (h : PBlk k p w) (b : Bool) : PBlk k { p with begun := b } (w.setCell ⟨k, 22, none⟩ (.bool b)) := h.setAt 22 _ rfl
theorem PBlk.setNumbered {k : Nat} {p : PS} {w : World} (h : PBlk k p w) (b : Bool) : PBlk k { p with numbered := b } (w.setCell ⟨k, 23, none⟩ (.bool b)) := h.setAt 23 _ rfl
theorem PBlk.setPriv {k : Nat} {p : PS} {w : World} (h : PBlk k p w) (b : Bool) : PBlk k { p with priv := b } (w.setCell ⟨k, 24, none⟩ (.bool b)) := h.setAt 24 _ rfl
theorem PBlk.setWrong {k : Nat} {p : PS} {w : World} (h : PBlk k p w) (b : Bool) : PBlk k { p with wrong := b } (w.setCell ⟨k, 25, none⟩ (.bool b)) := h.setAt 25 _ rfl
theorem PBlk.setText {k : Nat} {p : PS} {w : World} (h : PBlk k p w) (t : List UInt8) : PBlk k { p with text := t } (w.setCell ⟨k, 26, none⟩ (strV t)) := h.setAt 26 _ rfl
theorem PBlk.setDec {k : Nat} {p : PS} {w : World} (h : PBlk k p w) (d : Y.St) : PBlk k { p with dec := d } (((w.setCell ⟨k, 1, none⟩ (.int .u8 (d.lead : Int))).setCell ⟨k, 2, none⟩ (.int .i32 (d.rune : Int))).setCell ⟨k, 3, none⟩ (.int .i64 (d.need : Int))) := by
  unfold PBlk at *
  simp [World.setCell, Array.getElem?_modify, h, pArr]
theorem getD_snoc (l : List Int) (x : Int) (i : Nat) : (l ++ [x]).getD i 0 = if i = l.length then x else l.getD i 0 := by
  rw [List.getD_eq_getElem?_getD, List.getD_eq_getElem?_getD]
  by_cases h : i < l.length
  · rw [List.getElem?_append_left h, if_neg (by omega)]
  · by_cases h2 : i = l.length
    · subst h2; simp
    · rw [if_neg h2, List.getElem?_eq_none (by simp; omega), List.getElem?_eq_none (by omega)]
theorem PBlk.setNum {k : Nat} {p : PS} {w : World} (h : PBlk k p w) (hl : p.nums.length < 16) (x : Int) : PBlk k { p with nums := p.nums ++ [x] } ((w.setCell ⟨k, 4 + p.nums.length, none⟩ (.int .i64 x)).setCell ⟨k, 20, none⟩ (.int .i64 ((p.nums.length : Int) + 1))) := by
  have e : ((pArr p).setIfInBounds (4 + p.nums.length) (.int .i64 x)).setIfInBounds 20 (.int .i64 ((p.nums.length : Int) + 1)) = pArr { p with nums := p.nums ++ [x] } := by
    obtain ⟨st, dec, nums, number, b1, b2, b3, b4, tx⟩ := p
    simp only at hl ⊢
    unfold pArr
    simp only [getD_snoc, List.length_append, List.length_cons, List.length_nil]
    obtain ⟨m, hm⟩ : ∃ m, nums.length = m := ⟨_, rfl⟩
    rw [hm] at hl ⊢
    match m, hl with
    | 0, _ => rfl
    | 1, _ => rfl
    | 2, _ => rfl
    | 3, _ => rfl
    | 4, _ => rfl
    | 5, _ => rfl
    | 6, _ => rfl
    | 7, _ => rfl
    | 8, _ => rfl
    | 9, _ => rfl
    | 10, _ => rfl
    | 11, _ => rfl
    | 12, _ => rfl
    | 13, _ => rfl
    | 14, _ => rfl
    | 15, _ => rfl
    | n + 16, h => exact absurd h (by omega)
  unfold PBlk at *
  simp [World.setCell, Array.getElem?_modify, h, e]
theorem PBlk.other {k b o : Nat} {p : PS} {w : World} (h : PBlk k p w) (hne : k ≠ b) (v : Value) : PBlk k p (w.setCell ⟨b, o, none⟩ v) := (Below.heap_setCell w ⟨b, o, none⟩ v k hne).trans h
theorem PBlk.below {k B : Nat} {p : PS} {w w' : World} (h : PBlk k p w) (hb : Below B w w') (hk : k < B) : PBlk k p w' := (hb.block k hk).trans h
theorem PBlk.belowAll {k : Nat} {p : PS} {w w' : World} (h : PBlk k p w) (hb : Below w.heap.size w w') : PBlk k p w' := h.below hb h.lt
theorem PBlk.alloc {k : Nat} {p : PS} {w : World} (h : PBlk k p w) (o : Obj) : PBlk k p (w.alloc o) := h.belowAll ((Below.refl _ _).alloc (Nat.le_refl _) o)
theorem PBlk.new (w : World) (p : PS) : PBlk w.heap.size p (w.alloc (.cells (pArr p) 31)) := World.alloc_heap_new w _

/-! ## What was said -/
def aCells (r : Say × Value) : List Value := [.int .i64 (r.1.kind : Int), .int .i32 (r.1.rune : Int), .int .u8 (r.1.byte : Int), .bool r.1.priv, r.2, strV r.1.text]
def aArr (s : Say) (nv : Value) : Array Value := #[.int .i64 (s.kind : Int), .int .i32 (s.rune : Int), .int .u8 (s.byte : Int), .bool s.priv, nv, strV s.text]
theorem infoAct : (Tryd.prog.info? 51).map (fun i => (i.zero, i.size, i.bytes)) = some (some (.agg #[.int .i64 0, .int .i32 0, .int .u8 0, .bool false, .slice none 0 0, .string ⟨#[]⟩]), 6, 56) := by kernel_rfl
def flat (rows : List (Say × Value)) : List Value := rows.flatMap aCells
theorem flat_len (rows : List (Say × Value)) : (flat rows).length = rows.length * 6 := by
  induction rows with
  | nil => rfl
  | cons r rows ih => simp [flat, List.flatMap_cons, aCells] at ih ⊢; omega
/-- A slice of actions of our own. -/
structure OwnA (base : Nat) (v : Value) (l : List Say) (w : World) : Prop where
  rows : ∃ rows : List (Say × Value), rows.map Prod.fst = l ∧ w.ownsRow base 51 6 v l.length (flat rows) ∧ ∀ r ∈ rows, OwnI base r.2 r.1.nums w
theorem OwnA.nil (base : Nat) (w : World) : OwnA base (.slice none 0 0) [] w := ⟨⟨[], rfl, World.ownsRow_nil _ _ _ _, fun _ h => by cases h⟩⟩
/-- Old blocks are kept, but for one. -/
structure Kept (base k : Nat) (w w' : World) : Prop where
  os : w'.os = w.os
  tape : w'.tape = w.tape
  output : w'.output = w.output
  size : w.heap.size ≤ w'.heap.size
  block : ∀ i, i < base → i ≠ k → w'.heap[i]? = w.heap[i]?
theorem Kept.refl (base k : Nat) (w : World) : Kept base k w w := ⟨rfl, rfl, rfl, Nat.le_refl _, fun _ _ _ => rfl⟩
theorem Kept.trans {base k : Nat} {w0 w1 w2 : World} (h : Kept base k w0 w1) (g : Kept base k w1 w2) : Kept base k w0 w2 :=
  ⟨g.os.trans h.os, g.tape.trans h.tape, g.output.trans h.output, Nat.le_trans h.size g.size, fun i hi hn => (g.block i hi hn).trans (h.block i hi hn)⟩
theorem Kept.of_below {base B k : Nat} {w w' : World} (h : Below B w w') (hB : base ≤ B) : Kept base k w w' := ⟨h.os, h.tape, h.output, h.size, fun i hi _ => h.block i (by omega)⟩
theorem Kept.setCell {base k : Nat} {w w' : World} (h : Kept base k w w') (o : Nat) (v : Value) : Kept base k w (w'.setCell ⟨k, o, none⟩ v) :=
  ⟨h.os, h.tape, h.output, Nat.le_trans h.size (KeepsWalks.setCell w' _ v).size, fun i hi hn => (Below.heap_setCell w' ⟨k, o, none⟩ v i hn).trans (h.block i hi hn)⟩
theorem OwnI.ownBlock_type {base : Nat} {v : Value} {zs : List Int} {w : World} (h : OwnI base v zs w) {g : Nat} (hg : v.ownBlock = some g) : ∃ cs, w.heap[g]? = some (.cells cs 3 (0, 0)) ∧ base ≤ g := by
  rcases h.2 with ⟨rfl, _⟩ | ⟨g', cap, cur, rfl, hb, hgb, _⟩
  · simp [Value.ownBlock] at hg
  · obtain rfl : g' = g := by simpa [Value.ownBlock] using hg
    exact ⟨cur, hgb, hb⟩
theorem own_type {base size : Nat} {e : TypeId} {v : Value} {n : Nat} {xs : List Value} {w : World} (h : w.ownsRow base e size v n xs) {g : Nat} (hg : v.ownBlock = some g) : ∃ cs, w.heap[g]? = some (.cells cs e (0, 0)) ∧ base ≤ g := by
  rcases h.2 with ⟨rfl, _⟩ | ⟨g', cap, cur, rfl, hb, hgb, _⟩
  · simp [Value.ownBlock] at hg
  · obtain rfl : g' = g := by simpa [Value.ownBlock] using hg
    exact ⟨cur, hgb, hb⟩
theorem types_ne {g : Nat} {w : World} {a b : Array Value} {e f : TypeId} (h : w.heap[g]? = some (.cells a e (0, 0))) (k : w.heap[g]? = some (.cells b f (0, 0))) : e = f := by
  rw [h] at k; injection k with k; injection k
/-- what is kept when all blocks from 'base' on are, but those of another type -/
theorem OwnA.kept {base : Nat} {v : Value} {l : List Say} {w w' : World} (h : OwnA base v l w) (row : Option Nat) (hg : w.grownBy w' row) (hne : ∀ g, row = some g → ∀ cs, w.heap[g]? ≠ some (.cells cs 51 (0, 0)) ∧ w.heap[g]? ≠ some (.cells cs 3 (0, 0))) : OwnA base v l w' := by
  obtain ⟨rows, h1, h2, h3⟩ := h.rows
  refine ⟨⟨rows, h1, World.ownsRow.kept h2 hg ?_, fun r hr => World.ownsRow.kept (h3 r hr) hg ?_⟩⟩
  · by_cases e : v.ownBlock = row
    · cases hv : v.ownBlock with
      | none => exact .inl rfl
      | some g =>
        obtain ⟨cs, hc, _⟩ := own_type h2 hv
        exact absurd hc (hne g (by rw [← e, hv]) cs).1
    · exact .inr e
  · by_cases e : r.2.ownBlock = row
    · cases hv : r.2.ownBlock with
      | none => exact .inl rfl
      | some g =>
        obtain ⟨cs, hc, _⟩ := own_type (h3 r hr) hv
        exact absurd hc (hne g (by rw [← e, hv]) cs).2
    · exact .inr e
theorem OwnA.belowAll {base : Nat} {v : Value} {l : List Say} {w w' : World} (h : OwnA base v l w) (hb : Below w.heap.size w w') : OwnA base v l w' := h.kept none (W.grownBy_of_below hb) (fun _ e => by cases e)
theorem OwnA.alloc {base : Nat} {v : Value} {l : List Say} {w : World} (h : OwnA base v l w) (o : Obj) : OwnA base v l (w.alloc o) := h.belowAll ((Below.refl _ _).alloc (Nat.le_refl _) o)
theorem grownBy_set (w : World) (k o : Nat) (v : Value) : w.grownBy (w.setCell ⟨k, o, none⟩ v) (some k) :=
  ⟨rfl, rfl, rfl, (KeepsWalks.setCell w _ v).size, fun i _ hi => Below.heap_setCell _ _ _ i (fun e => hi (by rw [e]))⟩
theorem OwnA.setP {base : Nat} {v : Value} {l : List Say} {w : World} (h : OwnA base v l w) {k : Nat} {p : PS} (hp : PBlk k p w) (o : Nat) (u : Value) : OwnA base v l (w.setCell ⟨k, o, none⟩ u) :=
  h.kept (some k) (grownBy_set w k o u) (fun g e cs => by
    obtain rfl : k = g := Option.some.inj e
    exact ⟨fun hc => absurd (types_ne hp hc) (by decide), fun hc => absurd (types_ne hp hc) (by decide)⟩)
theorem OwnA.ownBlock {base : Nat} {v : Value} {l : List Say} {w : World} (h : OwnA base v l w) : ∀ q, v.ownBlock = some q → base ≤ q := by
  obtain ⟨rows, _, h2, _⟩ := h.rows
  intro q hq
  exact (own_type h2 hq).choose_spec.2
end Go.Proofs.YtfapmgecebcfaaaDoor.Q
