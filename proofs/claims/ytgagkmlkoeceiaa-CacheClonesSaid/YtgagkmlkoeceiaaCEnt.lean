/- Slices of entries: the document's cache in memory. -/
import Derived.Test.YtgagkmlkoeceiaaCTold
import Derived.Test.YtgagkmlkoeceiaaHInt
namespace Go.Proofs.Ytgagkmlkoeceiaa.C
open Go.RowKit Go.Proofs.Ytgagkmlkoeceiaa.H

/-- an entry, as it lies in a block -/
structure Ev where
  i : Int
  a : Option Addr
  n : Nat
  c : Nat
def cellsE (e : Ev) : List Value := [.int .i64 e.i, .slice e.a e.n e.c]
def flatE (l : List Ev) : List Value := l.flatMap cellsE
theorem flatE_len : ∀ (l : List Ev), (flatE l).length = l.length * 2
  | [] => rfl
  | e :: l => by
    have h := flatE_len l
    unfold flatE at h ⊢
    rw [List.flatMap_cons, List.length_append, h]
    simp [cellsE]
    omega
theorem flatE_append (a b : List Ev) : flatE (a ++ b) = flatE a ++ flatE b := List.flatMap_append ..
theorem flatE_one (l : List Ev) : ∀ u ∈ flatE l, u.oneCell' = true := by
  intro u hu
  obtain ⟨e, _, he⟩ := List.mem_flatMap.1 hu
  unfold cellsE at he
  simp only [List.mem_cons, List.not_mem_nil, or_false] at he
  rcases he with rfl | rfl <;> rfl
theorem flatE_at : ∀ (l : List Ev) (i : Nat) (e : Ev), l[i]? = some e → (flatE l)[i * 2]? = some (.int .i64 e.i) ∧ (flatE l)[i * 2 + 1]? = some (.slice e.a e.n e.c)
  | [], i, e, h => by cases h
  | x :: l, 0, e, h => by
    obtain rfl : x = e := by simpa using h
    exact ⟨rfl, rfl⟩
  | x :: l, i + 1, e, h => by
    have ih := flatE_at l i e (by simpa using h)
    have e1 : flatE (x :: l) = .int .i64 x.i :: .slice x.a x.n x.c :: flatE l := rfl
    rw [e1, show (i + 1) * 2 = i * 2 + 2 by omega]
    exact ih
theorem flatE_cell : ∀ (l : List Ev) (j : Nat) (u : Value), (flatE l)[j]? = some u → ∃ (i : Nat) (e : Ev), l[i]? = some e ∧ ((j = i * 2 ∧ u = .int .i64 e.i) ∨ (j = i * 2 + 1 ∧ u = .slice e.a e.n e.c))
  | [], j, u, h => by cases h
  | x :: l, 0, u, h => ⟨0, x, rfl, .inl ⟨rfl, by have : some (Value.int .i64 x.i) = some u := h; injection this with this; exact this.symm⟩⟩
  | x :: l, 1, u, h => ⟨0, x, rfl, .inr ⟨rfl, by have : some (Value.slice x.a x.n x.c) = some u := h; injection this with this; exact this.symm⟩⟩
  | x :: l, j + 2, u, h => by
    obtain ⟨i, e, h1, h2⟩ := flatE_cell l j u h
    exact ⟨i + 1, e, by simpa using h1, h2.imp (fun h => ⟨by omega, h.2⟩) (fun h => ⟨by omega, h.2⟩)⟩
def OwnE (base : Nat) (v : Value) (l : List Ev) (w : World) : Prop := w.ownsRow base 63 2 v l.length (flatE l)
theorem OwnE.nil (base : Nat) (w : World) : OwnE base (.slice none 0 0) [] w := World.ownsRow_nil _ _ _ _
theorem OwnE.lit (w : World) (base : Nat) (hb : base ≤ w.heap.size) : OwnE base (.slice (some ⟨w.heap.size, 0, none⟩) 0 0) [] (w.alloc (.cells #[] 63)) := World.ownsRow_lit w #[] 0 hb (by decide) rfl
theorem OwnE.belowAll {base : Nat} {v : Value} {l : List Ev} {w w' : World} (h : OwnE base v l w) (hb : Below w.heap.size w w') : OwnE base v l w' := U.belowAll h hb
theorem OwnE.ownBlock {base : Nat} {v : Value} {l : List Ev} {w : World} (h : OwnE base v l w) : ∀ q, v.ownBlock = some q → base ≤ q ∧ q < w.heap.size := fun q hq => ⟨(U.own_type h hq).choose_spec.2.1, (U.own_type h hq).choose_spec.2.2⟩
/-- a slice of entries -/
structure EvsIn (a : Option Addr) (n c : Nat) (es : List Ev) (w : World) : Prop where
  len : n = es.length
  fit : n ≤ c
  top : (c : Int) ≤ 9223372036854775807
  nil : a = none → c = 0
  at_ : es = [] ∨ ∃ b off, a = some ⟨b, off, none⟩ ∧ b < w.heap.size ∧ ∀ i e, es[i]? = some e → w.cell? ⟨b, off + i * 2, none⟩ = some (.int .i64 e.i) ∧ w.cell? ⟨b, off + i * 2 + 1, none⟩ = some (.slice e.a e.n e.c)
theorem EvsIn.blocks {a : Option Addr} {n c : Nat} {es : List Ev} {w w' : World} (h : EvsIn a n c es w) (hs : w.heap.size ≤ w'.heap.size) (hk : ∀ b off, a = some ⟨b, off, none⟩ → b < w.heap.size → w'.heap[b]? = w.heap[b]?) : EvsIn a n c es w' := by
  refine ⟨h.len, h.fit, h.top, h.nil, h.at_.imp id ?_⟩
  rintro ⟨b, off, ha, hl, hi⟩
  have hb := hk b off ha hl
  exact ⟨b, off, ha, Nat.lt_of_lt_of_le hl hs, fun i u hu => ⟨(World.cell?_of_block (a := ⟨b, off + i * 2, none⟩) hb).trans (hi i u hu).1, (World.cell?_of_block (a := ⟨b, off + i * 2 + 1, none⟩) hb).trans (hi i u hu).2⟩⟩
theorem EvsIn.belowAll {a : Option Addr} {n c : Nat} {es : List Ev} {w w' : World} (h : EvsIn a n c es w) (hb : Below w.heap.size w w') : EvsIn a n c es w' := h.blocks hb.size (fun b _ _ hl => hb.block b hl)
theorem OwnE.shape {base : Nat} {v : Value} {l : List Ev} {w : World} (h : OwnE base v l w) : ∃ a c, v = .slice a l.length c ∧ EvsIn a l.length c l w ∧ (∀ b off, a = some ⟨b, off, none⟩ → base ≤ b ∧ b < w.heap.size) := by
  rcases h.2 with ⟨rfl, h0⟩ | ⟨g, cap, cur, rfl, hbase, hg, hc, hm, hs, ht⟩
  · exact ⟨none, 0, by rw [h0], ⟨rfl, by omega, by decide, fun _ => rfl, .inl (List.length_eq_zero_iff.1 h0)⟩, (fun _ _ e => by cases e)⟩
  · have hlt := (Array.getElem?_eq_some_iff.1 hg).1
    refine ⟨some ⟨g, 0, none⟩, cap, rfl, ⟨rfl, hc, by unfold maxLen at hm; omega, (fun e => by cases e), .inr ⟨g, 0, rfl, hlt, fun i e hi => ?_⟩⟩, (fun b off e => by cases e; exact ⟨hbase, hlt⟩)⟩
    have hil : i < l.length := (List.getElem?_eq_some_iff.1 hi).1
    obtain ⟨h1, h2⟩ := flatE_at l i e hi
    rw [Nat.zero_add, World.ownsRow.cellAt h (i * 2) (by omega), World.ownsRow.cellAt h (i * 2 + 1) (by omega)]
    exact ⟨h1, h2⟩
theorem EvsIn.news {b off n c : Nat} {l : List Ev} {w : World} (h : EvsIn (some ⟨b, off, none⟩) n c l w) : ∀ j u, (flatE l)[j]? = some u → w.cell? ((⟨b, off, none⟩ : Addr).add j) = some u := by
  intro j u hj
  have hadd : ((⟨b, off, none⟩ : Addr).add j) = ⟨b, off + j, none⟩ := by unfold Addr.add; split <;> simp_all
  rw [hadd]
  obtain ⟨i, e, he, hc⟩ := flatE_cell l j u hj
  rcases h.at_ with e0 | ⟨b', off', ha, hb, hi⟩
  · rw [e0] at he; cases he
  · cases ha
    rcases hc with ⟨rfl, rfl⟩ | ⟨rfl, rfl⟩
    · exact (hi i e he).1
    · exact (hi i e he).2
theorem entInfo : (Try.prog.info? 63).map (fun i => (i.zero, i.size, i.bytes)) = some (some (.agg #[.int .i64 0, .slice none 0 0]), 2, 32) := by kernel_rfl
theorem entSl : Try.prog.underlying 26 = some (.slice 63) := Try.underlying26
theorem run_append_evs (base : Nat) (v : Value) (l : List Ev) (a : Option Addr) (m c : Nat) (l2 : List Ev) (w : World) (hown : OwnE base v l w) (h : EvsIn a m c l2 w) (h1 : l.length ≤ 1000000) (h2 : l2.length ≤ 1000000) (hbase : base ≤ w.heap.size) :
    ∃ v' w', (Builtin.append_ #[26, 26] 26 #[v, .slice a m c]).run Try.prog w = .ok v' w' ∧ OwnE base v' (l ++ l2) w' ∧ w.grownBy w' v.ownBlock := by
  obtain ⟨i0, hi, hz0, hz1, hz2⟩ := info_parts entInfo
  have hl := h.len
  have hmul : (l.length + m) * 32 ≤ 140737488355328 := Nat.le_trans (Nat.mul_le_mul (show l.length + m ≤ 2000000 by omega) (Nat.le_refl 32)) (by decide)
  have done : ∀ v' w', U.Grew base 63 2 v (l.length + m) (flatE l ++ flatE l2) w v' w' → OwnE base v' (l ++ l2) w' := fun v' w' g => by
    unfold OwnE
    rw [List.length_append, flatE_append, ← hl]
    exact g.own
  cases a with
  | none =>
    have hc := h.nil rfl
    have h0 : l2 = [] := by
      rcases h.at_ with h0 | ⟨b, off, e, _⟩
      · exact h0
      · cases e
    subst h0
    obtain rfl : m = 0 := hl
    obtain ⟨hr, g⟩ := U.append_none (P := Try.prog) w 26 26 63 i0 2 c entSl hi base v l.length (flatE l) hown hc
    have g' : U.Grew base 63 2 v (l.length + 0) (flatE l ++ flatE []) w v w := by simpa [flatE] using g
    exact ⟨v, w, hr, done _ _ g', g'.grown⟩
  | some ad =>
    have hnews : ∀ j u, (flatE l2)[j]? = some u → w.cell? (ad.add j) = some u := fun j u hj => by
      rcases h.at_ with h0 | ⟨b, off, e, _⟩
      · rw [h0] at hj; simp [flatE] at hj
      · cases e
        exact h.news j u hj
    obtain ⟨v', w', hr, g⟩ := U.append_grew (P := Try.prog) w 26 26 63 i0 _ 2 32 entSl hi hz0 hz1 hz2 rfl (by decide) base v l.length (flatE l) hown ad m c (flatE l2) (by rw [flatE_len, hl]) hnews (flatE_one l2) (by unfold maxLen; omega) hmul hbase
    exact ⟨v', w', hr, done _ _ g, g.grown⟩
theorem wpList_append_evs {ops : Array Oper} {rest : List Oper} {o : Oper} {z : Act} {w : World} {Q : Exit → Act → World → Prop} (hgd : o.guard = none) (s x : Operand)
    (ho : o.op = .call { callee := .builtin .append, args := #[s, x], argTypes := #[26, 26] }) (hty : o.type = 26)
    (base : Nat) (v : Value) (l : List Ev) (a : Option Addr) (m c : Nat) (l2 : List Ev) (hs : z.eval s = v) (hxv : z.eval x = .slice a m c) (hown : OwnE base v l w) (h : EvsIn a m c l2 w) (h1 : l.length ≤ 1000000) (h2 : l2.length ≤ 1000000) (hbase : base ≤ w.heap.size)
    (hK : ∀ v' w', OwnE base v' (l ++ l2) w' → w.grownBy w' v.ownBlock → wpList Try.prog ops Q rest (z.put o.dst v') w') : wpList Try.prog ops Q (o :: rest) z w :=
  wpList_plain hgd fun _ hK' => by
    obtain ⟨v', w', hr, k1, k2⟩ := run_append_evs base v l a m c l2 w hown h h1 h2 hbase
    unfold Oper.wp execOp
    simp only [ho, hty, resolve, invoke, builtin, Sem.run_bind, Sem.run_pure, Result.andThen_ok, List.map_toArray, List.map_cons, List.map_nil, hs, hxv, hr]
    exact hK' _ _ (hK v' w' k1 k2)
theorem evs_one (w : World) (e : Ev) : EvsIn (some ⟨w.heap.size, 0, none⟩) 1 1 [e] (w.alloc (.cells #[.int .i64 e.i, .slice e.a e.n e.c] 63)) :=
  ⟨rfl, Nat.le_refl _, by decide, (fun e => by cases e), .inr ⟨w.heap.size, 0, rfl, by simp, fun i d hi => by
    have h0 : i = 0 := by have := (List.getElem?_eq_some_iff.1 hi).1; simp at this; omega
    subst h0
    obtain rfl : e = d := by simpa using hi
    have h := heap_alloc_new w (.cells #[.int .i64 e.i, .slice e.a e.n e.c] 63)
    exact ⟨by rw [cell_block h]; rfl, by rw [cell_block h]; rfl⟩⟩⟩
/-- an entry tells of a line, apart from blocks -/
def EvOf (M : List Nat) (e : Ev) (x : Int × List (Int × Int)) (w : World) : Prop := e.i = x.1 ∧ PairsIn .i64 e.a e.n e.c x.2 w ∧ ∀ p o, e.a = some ⟨p, o, none⟩ → p ∉ M ∧ p < w.heap.size
theorem EvOf.moved {M M' : List Nat} {e : Ev} {x : Int × List (Int × Int)} {w w' : World} (h : EvOf M e x w) (hs : w.heap.size ≤ w'.heap.size) (hk : ∀ p, p ∉ M → p < w.heap.size → w'.heap[p]? = w.heap[p]?) (hM : ∀ p, p ∉ M → p < w.heap.size → p ∉ M') : EvOf M' e x w' :=
  ⟨h.1, PairsIn.blocks h.2.1 hs (fun b off ha _ => hk b (h.2.2 b off ha).1 (h.2.2 b off ha).2), fun p o ha => ⟨hM p (h.2.2 p o ha).1 (h.2.2 p o ha).2, Nat.lt_of_lt_of_le (h.2.2 p o ha).2 hs⟩⟩
/-- entries tell of lines -/
inductive EvsOf (M : List Nat) (w : World) : List Ev → List (Int × List (Int × Int)) → Prop
  | nil : EvsOf M w [] []
  | cons {e : Ev} {x : Int × List (Int × Int)} {es : List Ev} {L : List (Int × List (Int × Int))} : EvOf M e x w → EvsOf M w es L → EvsOf M w (e :: es) (x :: L)
theorem EvsOf.moved {M M' : List Nat} {w w' : World} (hs : w.heap.size ≤ w'.heap.size) (hk : ∀ p, p ∉ M → p < w.heap.size → w'.heap[p]? = w.heap[p]?) (hM : ∀ p, p ∉ M → p < w.heap.size → p ∉ M') : ∀ {es : List Ev} {L : List (Int × List (Int × Int))}, EvsOf M w es L → EvsOf M' w' es L
  | _, _, .nil => .nil
  | _, _, .cons h t => .cons (h.moved hs hk hM) (EvsOf.moved hs hk hM t)
theorem EvsOf.belowAll {M : List Nat} {w w' : World} {es : List Ev} {L : List (Int × List (Int × Int))} (h : EvsOf M w es L) (hb : Below w.heap.size w w') : EvsOf M w' es L := h.moved hb.size (fun p _ hp => hb.block p hp) (fun _ h _ => h)
theorem EvsOf.len {M : List Nat} {w : World} : ∀ {es : List Ev} {L : List (Int × List (Int × Int))}, EvsOf M w es L → es.length = L.length
  | _, _, .nil => rfl
  | _, _, .cons _ t => by simp [EvsOf.len t]
theorem EvsOf.append {M : List Nat} {w : World} : ∀ {es : List Ev} {L : List (Int × List (Int × Int))} {es2 : List Ev} {L2 : List (Int × List (Int × Int))}, EvsOf M w es L → EvsOf M w es2 L2 → EvsOf M w (es ++ es2) (L ++ L2)
  | _, _, _, _, .nil, h => h
  | _, _, _, _, .cons h t, h2 => .cons h (EvsOf.append t h2)
theorem EvsOf.at {M : List Nat} {w : World} : ∀ {es : List Ev} {L : List (Int × List (Int × Int))} {i : Nat} {x : Int × List (Int × Int)}, EvsOf M w es L → L[i]? = some x → ∃ e, es[i]? = some e ∧ EvOf M e x w
  | _, _, i, x, .nil, h => by cases h
  | _, _, 0, x, .cons (e := e) h t, hx => ⟨e, rfl, by obtain rfl := (by simpa using hx : _ = x); exact h⟩
  | _, _, i + 1, x, .cons h t, hx => by
    obtain ⟨e, h1, h2⟩ := EvsOf.at t (i := i) (by simpa using hx)
    exact ⟨e, by simpa using h1, h2⟩
theorem EvsOf.tail {M : List Nat} {w : World} : ∀ {es : List Ev} {L : List (Int × List (Int × Int))}, EvsOf M w es L → EvsOf M w es.tail L.tail
  | _, _, .nil => .nil
  | _, _, .cons _ t => t
/-- the document's cache -/
def RefC (M : List Nat) (X : Value) (x : Ca) (w : World) : Prop := ∃ a n c es, X = .agg #[.int .i64 (x.most : Int), .slice a n c] ∧ EvsIn a n c es w ∧ EvsOf M w es x.L ∧ ∀ p o, a = some ⟨p, o, none⟩ → p ∉ M ∧ p < w.heap.size
theorem RefC.moved {M M' : List Nat} {X : Value} {x : Ca} {w w' : World} (h : RefC M X x w) (hs : w.heap.size ≤ w'.heap.size) (hk : ∀ p, p ∉ M → p < w.heap.size → w'.heap[p]? = w.heap[p]?) (hM : ∀ p, p ∉ M → p < w.heap.size → p ∉ M') : RefC M' X x w' := by
  obtain ⟨a, n, c, es, rfl, h1, h2, h3⟩ := h
  exact ⟨a, n, c, es, rfl, h1.blocks hs (fun b off ha hb => hk b (h3 b off ha).1 hb), h2.moved hs hk hM, fun p o ha => ⟨hM p (h3 p o ha).1 (h3 p o ha).2, Nat.lt_of_lt_of_le (h3 p o ha).2 hs⟩⟩
theorem RefC.below {M : List Nat} {X : Value} {x : Ca} {w w' : World} (h : RefC M X x w) (hb : Below w.heap.size w w') : RefC M X x w' := h.moved hb.size (fun p _ hp => hb.block p hp) (fun _ h _ => h)
/-- behind a call of the program's cache -/
theorem RefC.turned {M M' : List Nat} {X : Value} {x : Ca} {w w' : World} (h : RefC M X x w) (hk : KeepB M w w') (hM : ∀ p ∈ M', p ∈ M ∨ w.heap.size ≤ p) : RefC M' X x w' := h.moved hk.size (fun p h1 h2 => hk.block p h2 h1) (fun p h1 h2 h3 => (hM p h3).elim h1 (fun h => by omega))
end Go.Proofs.Ytgagkmlkoeceiaa.C
