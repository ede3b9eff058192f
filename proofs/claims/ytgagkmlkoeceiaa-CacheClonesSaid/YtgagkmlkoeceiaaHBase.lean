/- Pairs of numbers in memory: slices of our own, and such as were handed in; append; what is kept. -/
import Derived.Test.YtgagkmlkoeceiaaMerged0
import Derived.Deep.AppendSrc
import Derived.Deep.Upon
import Derived.Laws.Rows
import Derived.Laws.ResultCell
import Derived.RangeFuncBox
import Derived.Deep.Cut
import Derived.Deep.CutBlock
import Derived.Deep.DeepCutAuto
import Derived.Lib.MinMax
namespace Go.Proofs.Ytgagkmlkoeceiaa.H
open Go.RowKit

def pCells (rk : IntKind) (g : Int × Int) : List Value := [.int rk g.1, .int .i64 g.2]
def flatP (rk : IntKind) (l : List (Int × Int)) : List Value := l.flatMap (pCells rk)
theorem flatP_len (rk : IntKind) (l : List (Int × Int)) : (flatP rk l).length = l.length * 2 := by
  induction l with
  | nil => rfl
  | cons c l ih => simp [flatP, List.flatMap_cons, pCells] at ih ⊢; omega
theorem flatP_append (rk : IntKind) (a b : List (Int × Int)) : flatP rk (a ++ b) = flatP rk a ++ flatP rk b := List.flatMap_append ..
theorem flatP_get (rk : IntKind) : ∀ (l : List (Int × Int)) (i j : Nat) (c : Int × Int), l[i]? = some c → j < 2 → (flatP rk l)[i * 2 + j]? = (pCells rk c)[j]?
  | [], _, _, _, h, _ => by cases h
  | d :: l, 0, j, c, h, hj => by
    obtain rfl : d = c := by simpa using h
    show (pCells rk d ++ flatP rk l)[0 * 2 + j]? = _
    rw [List.getElem?_append_left (by simp [pCells]; omega)]
    simp
  | d :: l, i + 1, j, c, h, hj => by
    show (pCells rk d ++ flatP rk l)[(i + 1) * 2 + j]? = _
    rw [List.getElem?_append_right (by simp [pCells]; omega)]
    have e : (i + 1) * 2 + j - (pCells rk d).length = i * 2 + j := by simp [pCells]; omega
    rw [e]
    exact flatP_get rk l i j c (by simpa using h) hj
theorem flatP_one (rk : IntKind) (l : List (Int × Int)) : ∀ u ∈ flatP rk l, u.oneCell' = true := by
  intro u hu
  obtain ⟨c, _, hu⟩ := List.mem_flatMap.1 hu
  simp only [pCells, List.mem_cons, List.not_mem_nil, or_false] at hu
  rcases hu with rfl | rfl <;> rfl
/-- pairs of our own -/
def OwnP (rk : IntKind) (T : TypeId) (base : Nat) (v : Value) (l : List (Int × Int)) (w : World) : Prop := w.ownsRow base T 2 v l.length (flatP rk l)
theorem OwnP.nil (rk : IntKind) (T : TypeId) (base : Nat) (w : World) : OwnP rk T base (.slice none 0 0) [] w := World.ownsRow_nil _ _ _ _
theorem OwnP.belowAll {rk : IntKind} {T : TypeId} {base : Nat} {v : Value} {l : List (Int × Int)} {w w' : World} (h : OwnP rk T base v l w) (hb : Below w.heap.size w w') : OwnP rk T base v l w' := U.belowAll h hb
theorem OwnP.alloc {rk : IntKind} {T : TypeId} {base : Nat} {v : Value} {l : List (Int × Int)} {w : World} (h : OwnP rk T base v l w) (o : Obj) : OwnP rk T base v l (w.alloc o) := h.belowAll ((Below.refl _ _).alloc (Nat.le_refl _) o)
theorem OwnP.weaken {rk : IntKind} {T : TypeId} {base base' : Nat} {v : Value} {l : List (Int × Int)} {w : World} (h : OwnP rk T base v l w) (hb : base' ≤ base) : OwnP rk T base' v l w := U.weaken h hb
theorem OwnP.ownBlock {rk : IntKind} {T : TypeId} {base : Nat} {v : Value} {l : List (Int × Int)} {w : World} (h : OwnP rk T base v l w) : ∀ q, v.ownBlock = some q → base ≤ q ∧ q < w.heap.size := fun q hq => ⟨(U.own_type h hq).choose_spec.2.1, (U.own_type h hq).choose_spec.2.2⟩
theorem OwnP.lit (rk : IntKind) (T : TypeId) (w : World) (base : Nat) (hb : base ≤ w.heap.size) : OwnP rk T base (.slice (some ⟨w.heap.size, 0, none⟩) 0 0) [] (w.alloc (.cells #[] T)) := World.ownsRow_lit w #[] 0 hb (by decide) rfl
/-- a slice of pairs -/
structure PairsIn (rk : IntKind) (a : Option Addr) (n c : Nat) (gs : List (Int × Int)) (w : World) : Prop where
  len : n = gs.length
  fit : n ≤ c
  top : (c : Int) ≤ 9223372036854775807
  at_ : gs = [] ∨ ∃ b off, a = some ⟨b, off, none⟩ ∧ b < w.heap.size ∧ ∀ i g, gs[i]? = some g → w.cell? ⟨b, off + i * 2, none⟩ = some (.int rk g.1) ∧ w.cell? ⟨b, off + i * 2 + 1, none⟩ = some (.int .i64 g.2)
theorem PairsIn.belowAll {rk : IntKind} {a : Option Addr} {n c : Nat} {gs : List (Int × Int)} {w w' : World} (h : PairsIn rk a n c gs w) (hb : Below w.heap.size w w') : PairsIn rk a n c gs w' := by
  refine ⟨h.len, h.fit, h.top, h.at_.imp id ?_⟩
  rintro ⟨b, off, ha, hl, hi⟩
  exact ⟨b, off, ha, Nat.lt_of_lt_of_le hl hb.size, fun i g hg => ⟨(hb.cell (p := ⟨b, off + i * 2, none⟩) hl).trans (hi i g hg).1, (hb.cell (p := ⟨b, off + i * 2 + 1, none⟩) hl).trans (hi i g hg).2⟩⟩
theorem OwnP.shape {rk : IntKind} {T : TypeId} {base : Nat} {v : Value} {l : List (Int × Int)} {w : World} (h : OwnP rk T base v l w) : ∃ a c, v = .slice a l.length c ∧ PairsIn rk a l.length c l w ∧ (∀ b off, a = some ⟨b, off, none⟩ → base ≤ b ∧ b < w.heap.size ∧ off = 0) ∧ (a = none → c = 0) := by
  rcases h.2 with ⟨rfl, h0⟩ | ⟨g, cap, cur, rfl, hbase, hg, hc, hm, hs, ht⟩
  · exact ⟨none, 0, by rw [h0], ⟨rfl, by omega, by decide, .inl (List.length_eq_zero_iff.1 h0)⟩, (fun _ _ e => by cases e), fun _ => rfl⟩
  · have hlt := (Array.getElem?_eq_some_iff.1 hg).1
    refine ⟨some ⟨g, 0, none⟩, cap, rfl, ⟨rfl, hc, by unfold maxLen at hm; omega, .inr ⟨g, 0, rfl, hlt, fun i c hi => ?_⟩⟩, (fun b off e => by cases e; exact ⟨hbase, hlt, rfl⟩), (fun e => by cases e)⟩
    have hil : i < l.length := (List.getElem?_eq_some_iff.1 hi).1
    have hcell : ∀ j, j < 2 → w.cell? ⟨g, 0 + i * 2 + j, none⟩ = (pCells rk c)[j]? := fun j hj => by
      rw [Nat.zero_add, World.ownsRow.cellAt h (i * 2 + j) (by omega), flatP_get rk l i j c hi hj]
    exact ⟨hcell 0 (by decide), hcell 1 (by decide)⟩
theorem OwnP.kept {rk : IntKind} {T : TypeId} {base : Nat} {v : Value} {l : List (Int × Int)} {w w' : World} {row : Option Nat} (h : OwnP rk T base v l w) (hg : w.grownBy w' row) (hne : ∀ q, v.ownBlock = some q → row ≠ some q) : OwnP rk T base v l w' := U.kept_apart h hg hne
/-- t is a slice of the pairs T -/
structure PairT (rk : IntKind) (t T : TypeId) (bytes : Nat) : Prop where
  slice : Try.prog.underlying t = some (.slice T)
  info : (Try.prog.info? T).map (fun i => (i.zero, i.size, i.bytes)) = some (some (.agg #[.int rk 0, .int .i64 0]), 2, bytes)
  small : bytes ≤ 24
/-- append of a slice of one pair -/
theorem wpList_append_pair {rk : IntKind} {t T : TypeId} {bytes : Nat} (hI : PairT rk t T bytes) {ops : Array Oper} {rest : List Oper} {o : Oper} {z : Act} {w : World} {Q : Exit → Act → World → Prop} (hgd : o.guard = none) (s x : Operand)
    (ho : o.op = .call { callee := .builtin .append, args := #[s, x], argTypes := #[t, t] }) (hty : o.type = t)
    (base : Nat) (v : Value) (l : List (Int × Int)) (c : Int × Int) (p : Nat) (hs : z.eval s = v) (hxv : z.eval x = .slice (some ⟨p, 0, none⟩) 1 1) (hown : OwnP rk T base v l w)
    (h0 : w.cell? ⟨p, 0, none⟩ = some (.int rk c.1)) (h1 : w.cell? ⟨p, 1, none⟩ = some (.int .i64 c.2)) (hl : (l.length : Int) ≤ 1000000) (hbase : base ≤ w.heap.size)
    (hK : ∀ v' w', OwnP rk T base v' (l ++ [c]) w' → w.grownBy w' v.ownBlock → wpList Try.prog ops Q rest (z.put o.dst v') w') : wpList Try.prog ops Q (o :: rest) z w :=
  wpList_plain hgd fun _ hK' => by
    obtain ⟨i0, hi, hz0, hz1, hz2⟩ := info_parts hI.info
    have hb := hI.small
    have hmul : (l.length + 1) * bytes ≤ 140737488355328 := Nat.le_trans (Nat.mul_le_mul (show l.length + 1 ≤ 2000000 by omega) hb) (by decide)
    have hnews : ∀ j u, (pCells rk c)[j]? = some u → w.cell? ((⟨p, 0, none⟩ : Addr).add j) = some u := fun j u hj => by
      have hadd : ((⟨p, 0, none⟩ : Addr).add j) = ⟨p, 0 + j, none⟩ := by unfold Addr.add; split <;> simp_all
      rw [hadd, Nat.zero_add]
      match j, hj with
      | 0, hj => rw [show u = .int rk c.1 by simpa [pCells] using hj.symm]; exact h0
      | 1, hj => rw [show u = .int .i64 c.2 by simpa [pCells] using hj.symm]; exact h1
      | n + 2, hj => simp [pCells] at hj
    obtain ⟨v', w', hr, g⟩ := U.append_grew (P := Try.prog) w t t T i0 _ 2 bytes hI.slice hi hz0 hz1 hz2 rfl (by decide) base v l.length (flatP rk l) hown ⟨p, 0, none⟩ 1 1 (pCells rk c) rfl hnews (fun u hu => flatP_one rk [c] u (by simpa [flatP] using hu)) (by unfold maxLen; omega) hmul hbase
    unfold Oper.wp execOp
    simp only [ho, hty, resolve, invoke, builtin, Sem.run_bind, Sem.run_pure, Result.andThen_ok, List.map_toArray, List.map_cons, List.map_nil, hs, hxv, hr]
    refine hK' _ _ (hK v' w' ?_ g.grown)
    have e : flatP rk (l ++ [c]) = flatP rk l ++ pCells rk c := by rw [flatP_append]; simp [flatP]
    unfold OwnP
    rw [e, List.length_append]
    exact g.own
/-- but for these blocks all is kept -/
structure KeepB (L : List Nat) (w w' : World) : Prop where
  os : w'.os = w.os
  tape : w'.tape = w.tape
  output : w'.output = w.output
  size : w.heap.size ≤ w'.heap.size
  block : ∀ i, i < w.heap.size → i ∉ L → w'.heap[i]? = w.heap[i]?
theorem KeepB.refl (L : List Nat) (w : World) : KeepB L w w := ⟨rfl, rfl, rfl, Nat.le_refl _, fun _ _ _ => rfl⟩
theorem KeepB.trans {L : List Nat} {a b c : World} (h : KeepB L a b) (k : KeepB L b c) : KeepB L a c :=
  ⟨k.os.trans h.os, k.tape.trans h.tape, k.output.trans h.output, Nat.le_trans h.size k.size, fun i hi hl => (k.block i (Nat.lt_of_lt_of_le hi h.size) hl).trans (h.block i hi hl)⟩
theorem KeepB.of_below {L : List Nat} {w w' : World} (h : Below w.heap.size w w') : KeepB L w w' := ⟨h.os, h.tape, h.output, h.size, fun i hi _ => h.block i hi⟩
theorem KeepB.mono {L L' : List Nat} {w w' : World} (h : KeepB L w w') (hl : ∀ i ∈ L, i ∈ L') : KeepB L' w w' := ⟨h.os, h.tape, h.output, h.size, fun i hi hn => h.block i hi (fun e => hn (hl i e))⟩
/-- a block that is not there yet may be struck -/
theorem KeepB.strike {L : List Nat} {q : Nat} {w w' : World} (h : KeepB (q :: L) w w') (hq : w.heap.size ≤ q) : KeepB L w w' := ⟨h.os, h.tape, h.output, h.size, fun i hi hn => h.block i hi (fun e => by
  rcases List.mem_cons.1 e with rfl | e
  · omega
  · exact hn e)⟩
theorem KeepB.below {L : List Nat} {base : Nat} {w0 w w' : World} (h : KeepB L w w') (hL : ∀ i ∈ L, base ≤ i) (hb : Below base w0 w) (hs : base ≤ w.heap.size) : Below base w0 w' :=
  hb.trans ⟨h.os, h.tape, h.output, h.size, fun i hi => h.block i (by omega) (fun e => by have := hL i e; omega)⟩
theorem KeepB.of_grown {w w' : World} {q : Nat} (h : w.grownBy w' (some q)) : KeepB [q] w w' := ⟨h.os, h.tape, h.output, h.size, fun i hi hn => h.block i hi (fun e => hn (by cases e; simp))⟩
theorem KeepB.setCell {w : World} {q o : Nat} (v : Value) : KeepB [q] w (w.setCell ⟨q, o, none⟩ v) := ⟨rfl, rfl, rfl, (KeepsWalks.setCell w _ v).size, fun i _ hn => Below.heap_setCell _ _ _ i (fun e => hn (by rw [show i = q from e]; simp))⟩
/-- pairs of our own, from anywhere in their block on -/
def OwnQ (rk : IntKind) (T : TypeId) (base : Nat) (v : Value) (l : List (Int × Int)) (w : World) : Prop :=
  (v = .slice none 0 0 ∧ l = []) ∨ ∃ g off cap cs, v = .slice (some ⟨g, off, none⟩) l.length cap ∧ base ≤ g ∧ w.heap[g]? = some (.cells cs T (0, 0)) ∧ l.length ≤ cap ∧ cap ≤ maxLen ∧ off + cap * 2 ≤ cs.size ∧
    ∀ j u, (flatP rk l)[j]? = some u → w.cell? ⟨g, off + j, none⟩ = some u
theorem OwnQ.nil (rk : IntKind) (T : TypeId) (base : Nat) (w : World) : OwnQ rk T base (.slice none 0 0) [] w := .inl ⟨rfl, rfl⟩
theorem OwnQ.own {rk : IntKind} {T : TypeId} {base : Nat} {v : Value} {l : List (Int × Int)} {w : World} (h : OwnQ rk T base v l w) : ∀ q, v.ownBlock = some q → base ≤ q ∧ q < w.heap.size ∧ ∃ cs, w.heap[q]? = some (.cells cs T (0, 0)) := fun q hq => by
  rcases h with ⟨rfl, -⟩ | ⟨g, off, cap, cs, rfl, h1, h2, -⟩
  · cases hq
  · obtain rfl : g = q := by simpa [Value.ownBlock] using hq
    exact ⟨h1, (Array.getElem?_eq_some_iff.1 h2).1, cs, h2⟩
theorem OwnQ.moved {rk : IntKind} {T : TypeId} {base : Nat} {v : Value} {l : List (Int × Int)} {w w' : World} (h : OwnQ rk T base v l w) (hv : ∀ q, v.ownBlock = some q → w'.heap[q]? = w.heap[q]?) : OwnQ rk T base v l w' := by
  rcases h with h | ⟨g, off, cap, cs, rfl, h1, h2, h3, h4, h5, h6⟩
  · exact .inl h
  · have e := hv g rfl
    exact .inr ⟨g, off, cap, cs, rfl, h1, e.trans h2, h3, h4, h5, fun j u hj => (World.cell?_of_block (a := ⟨g, off + j, none⟩) e).trans (h6 j u hj)⟩
theorem OwnQ.keptB {rk : IntKind} {T : TypeId} {base : Nat} {v : Value} {l : List (Int × Int)} {M : List Nat} {w w' : World} (h : OwnQ rk T base v l w) (hk : KeepB M w w') (hv : ∀ q, v.ownBlock = some q → q ∉ M) : OwnQ rk T base v l w' :=
  h.moved (fun q hq => hk.block q (h.own q hq).2.1 (hv q hq))
theorem OwnQ.below {rk : IntKind} {T : TypeId} {base : Nat} {v : Value} {l : List (Int × Int)} {w w' : World} (h : OwnQ rk T base v l w) (hb : Below w.heap.size w w') : OwnQ rk T base v l w' :=
  h.moved (fun q hq => hb.block q (h.own q hq).2.1)
theorem OwnQ.weaken {rk : IntKind} {T : TypeId} {base base' : Nat} {v : Value} {l : List (Int × Int)} {w : World} (h : OwnQ rk T base v l w) (hb : base' ≤ base) : OwnQ rk T base' v l w := by
  rcases h with h | ⟨g, off, cap, cs, rfl, h1, h2⟩
  · exact .inl h
  · exact .inr ⟨g, off, cap, cs, rfl, Nat.le_trans hb h1, h2⟩
theorem OwnQ.shape {rk : IntKind} {T : TypeId} {base : Nat} {v : Value} {l : List (Int × Int)} {w : World} (h : OwnQ rk T base v l w) : ∃ a c, v = .slice a l.length c ∧ PairsIn rk a l.length c l w ∧ (a = none → c = 0) ∧ (∀ b off, a = some ⟨b, off, none⟩ → v.ownBlock = some b) := by
  rcases h with ⟨rfl, rfl⟩ | ⟨g, off, cap, cs, rfl, h1, h2, h3, h4, h5, h6⟩
  · exact ⟨none, 0, rfl, ⟨rfl, Nat.le_refl _, by decide, .inl rfl⟩, fun _ => rfl, fun b off e => by cases e⟩
  · refine ⟨_, cap, rfl, ⟨rfl, h3, by unfold maxLen at h4; omega, .inr ⟨g, off, rfl, (Array.getElem?_eq_some_iff.1 h2).1, fun i c hi => ?_⟩⟩, (fun e => by cases e), (fun b o e => by cases e; rfl)⟩
    have hc : ∀ j, j < 2 → w.cell? ⟨g, off + i * 2 + j, none⟩ = (pCells rk c)[j]? := fun j hj => by
      obtain ⟨u, hu⟩ : ∃ u, (pCells rk c)[j]? = some u := ⟨_, List.getElem?_eq_getElem (by simp [pCells]; omega)⟩
      rw [hu, Nat.add_assoc, h6 (i * 2 + j) u (by rw [flatP_get rk l i j c hi hj, hu])]
    exact ⟨hc 0 (by decide), hc 1 (by decide)⟩
theorem OwnP.toQ {rk : IntKind} {T : TypeId} {base : Nat} {v : Value} {l : List (Int × Int)} {w : World} (h : OwnP rk T base v l w) : OwnQ rk T base v l w := by
  rcases h.2 with ⟨rfl, h0⟩ | ⟨g, cap, cur, rfl, hbase, hg, hc, hm, hs, ht⟩
  · exact .inl ⟨rfl, List.length_eq_zero_iff.1 h0⟩
  · refine .inr ⟨g, 0, cap, cur, rfl, hbase, hg, hc, hm, by omega, fun j u hj => ?_⟩
    have hjl : j < (flatP rk l).length := (List.getElem?_eq_some_iff.1 hj).1
    rw [Nat.zero_add, World.ownsRow.cellAt h j (by rw [flatP_len] at hjl; exact hjl), hj]
theorem grown_setCells (g : Nat) : ∀ (vs : List Value) (o : Nat) (w : World), w.grownBy (w.setCells g o vs) (some g)
  | [], _, w => ⟨rfl, rfl, rfl, Nat.le_refl _, fun _ _ _ => rfl⟩
  | v :: r, o, w => by
    have h : w.grownBy (w.setCell ⟨g, o, none⟩ v) (some g) := ⟨rfl, rfl, rfl, (KeepsWalks.setCell w _ v).size, fun k _ hk => Below.heap_setCell w ⟨g, o, none⟩ v k (fun e => hk (by rw [e]))⟩
    have k := grown_setCells g r (o + 1) (w.setCell ⟨g, o, none⟩ v)
    exact ⟨k.os.trans h.os, k.tape.trans h.tape, k.output.trans h.output, Nat.le_trans h.size k.size, fun i hi hn => (k.block i (Nat.lt_of_lt_of_le hi h.size) hn).trans (h.block i hi hn)⟩
theorem heap_setCells (g : Nat) : ∀ (vs : List Value) (o : Nat) (w : World) (cs : Array Value) (T : TypeId) (fr : Nat × Nat), w.heap[g]? = some (.cells cs T fr) → ∃ cs', (w.setCells g o vs).heap[g]? = some (.cells cs' T fr) ∧ cs'.size = cs.size
  | [], _, _, cs, _, _, h => ⟨cs, h, rfl⟩
  | v :: r, o, w, cs, T, fr, h => by
    have h1 : (w.setCell ⟨g, o, none⟩ v).heap[g]? = some (.cells (cs.setIfInBounds o v) T fr) := by simp [World.setCell, Array.getElem?_modify, h]
    obtain ⟨cs', h2, h3⟩ := heap_setCells g r (o + 1) _ _ _ _ h1
    exact ⟨cs', h2, by simpa using h3⟩
theorem cell_block {w : World} {g : Nat} {cs : Array Value} {T : TypeId} {fr : Nat × Nat} (h : w.heap[g]? = some (.cells cs T fr)) (j : Nat) : w.cell? ⟨g, j, none⟩ = cs[j]? := by simp [World.cell?, h]
theorem frozen_block {w : World} {g : Nat} {cs : Array Value} {T : TypeId} (h : w.heap[g]? = some (.cells cs T (0, 0))) (j : Nat) : w.frozen? ⟨g, j, none⟩ = false := by simp [World.frozen?, h]
theorem PairsIn.news {rk : IntKind} {b off n c : Nat} {gs : List (Int × Int)} {w : World} (h : PairsIn rk (some ⟨b, off, none⟩) n c gs w) : ∀ j u, (flatP rk gs)[j]? = some u → w.cell? ((⟨b, off, none⟩ : Addr).add j) = some u := fun j u hj => by
  have hadd : ((⟨b, off, none⟩ : Addr).add j) = ⟨b, off + j, none⟩ := by unfold Addr.add; split <;> simp_all
  rw [hadd]
  have hjl : j < (flatP rk gs).length := (List.getElem?_eq_some_iff.1 hj).1
  rw [flatP_len] at hjl
  rcases h.at_ with rfl | ⟨b', off', e, -, hi⟩
  · simp at hjl
  · obtain ⟨rfl, rfl⟩ : b = b' ∧ off = off' := by injection e with e; injection e with e1 e2; exact ⟨e1, e2⟩
    obtain ⟨i, k, rfl, hk⟩ : ∃ i k, j = i * 2 + k ∧ k < 2 := ⟨j / 2, j % 2, by omega, by omega⟩
    have hil : i < gs.length := by omega
    have hg := flatP_get rk gs i k gs[i] (List.getElem?_eq_getElem hil) hk
    rw [hj] at hg
    have h2 := hi i gs[i] (List.getElem?_eq_getElem hil)
    match k, hk with
    | 0, _ => rw [show u = .int rk gs[i].1 by simpa [pCells] using hg]; exact h2.1
    | 1, _ => rw [show u = .int .i64 gs[i].2 by simpa [pCells] using hg]; exact h2.2
    | k + 2, hk => omega
theorem PairsIn.src {rk : IntKind} {t T : TypeId} (hs : Try.prog.underlying t = some (.slice T)) {a : Option Addr} {n c : Nat} {gs : List (Int × Int)} {w : World} (h : PairsIn rk a n c gs w) : Src Try.prog 2 t (.slice a n c) n (flatP rk gs) w := by
  cases a with
  | none =>
    have h0 : gs = [] := h.at_.resolve_right (by rintro ⟨b, off, e, -⟩; cases e)
    subst h0
    obtain rfl : n = 0 := h.len
    exact Src.ofNil w hs c
  | some ad =>
    obtain ⟨b, off, sp⟩ := ad
    rcases h.at_ with rfl | ⟨b', off', e, h2⟩
    · exact Src.ofSlice w hs _ n c _ (by rw [flatP_len, h.len]) (fun j u hj => by simp [flatP] at hj) (flatP_one rk _)
    · obtain ⟨rfl, rfl, rfl⟩ : b = b' ∧ off = off' ∧ sp = none := by injection e with e; injection e with e1 e2 e3; exact ⟨e1, e2, e3⟩
      exact Src.ofSlice w hs _ n c _ (by rw [flatP_len, h.len]) h.news (flatP_one rk _)
/-- what an append of pairs leaves -/
structure GrewQ (rk : IntKind) (T : TypeId) (base : Nat) (v : Value) (l : List (Int × Int)) (w : World) (v' : Value) (w' : World) : Prop where
  own : OwnQ rk T base v' l w'
  grown : w.grownBy w' v.ownBlock
  block : ∀ q, v'.ownBlock = some q → v.ownBlock = some q ∨ w.heap.size ≤ q
  ty : ∀ q, v.ownBlock = some q → ∃ cs, w'.heap[q]? = some (.cells cs T (0, 0))
theorem run_append_q {rk : IntKind} {t T : TypeId} {bytes : Nat} (hI : PairT rk t T bytes) (base : Nat) (v : Value) (l : List (Int × Int)) (a : Option Addr) (m c : Nat) (l2 : List (Int × Int)) (w : World) (hown : OwnQ rk T base v l w) (h : PairsIn rk a m c l2 w) (h1 : (l.length : Int) ≤ 1000000) (h2 : (l2.length : Int) ≤ 1000000) (hbase : base ≤ w.heap.size) :
    ∃ v' w', (Builtin.append_ #[t, t] t #[v, .slice a m c]).run Try.prog w = .ok v' w' ∧ GrewQ rk T base v (l ++ l2) w v' w' := by
  obtain ⟨i0, hi, hz0, hz1, hz2⟩ := info_parts hI.info
  have hown0 := hown
  have hl := h.len
  have hb := hI.small
  have hsrc := h.src hI.slice
  have hsrc' : Src Try.prog i0.size t (.slice a m c) m (flatP rk l2) w := by rw [hz1]; exact hsrc
  have hmul : (l.length + m) * i0.bytes ≤ 140737488355328 := by rw [hz2]; exact Nat.le_trans (Nat.mul_le_mul (show l.length + m ≤ 2000000 by omega) hb) (by decide)
  have hmx : l.length + m ≤ maxLen := by unfold maxLen; omega
  -- a new block
  have grow : ∀ (bs : Option Addr) (sc : Nat), v = .slice bs l.length sc → sc < l.length + m → (Builtin.firstCells i0.size l.length (.slice bs l.length sc)).run Try.prog w.drew = .ok (flatP rk l).toArray w.drew →
      ∃ v' w', (Builtin.append_ #[t, t] t #[v, .slice a m c]).run Try.prog w = .ok v' w' ∧ GrewQ rk T base v (l ++ l2) w v' w' := by
    rintro bs sc rfl hg hold
    have hrun := run_append_grow_src (P := Try.prog) w t t t T i0 _ hI.slice hi hz0 bs l.length sc (flatP rk l) hold (.slice a m c) m (flatP rk l2) hsrc' hg (by unfold maxLen at hmx; omega) (growslice_fits hg hmul)
    have hge := grownCap_ge w (l.length + m) sc T
    have hcm := grownCap_le_maxLen w (l.length + m) sc T hmx
    refine ⟨_, _, hrun, .inr ⟨w.heap.size, 0, _, _, by rw [List.length_append, ← hl], hbase, heap_alloc_new w.drew _, by rw [List.length_append, ← hl]; omega, hcm, ?_, fun j u hj => ?_⟩, ⟨rfl, rfl, rfl, by simp, fun k hk _ => Below.heap_alloc w.drew _ k hk⟩, fun q hq => .inr ?_, fun q hq => by
      obtain ⟨-, h8, cs, h9⟩ := hown0.own q hq
      exact ⟨cs, (Below.heap_alloc w.drew _ q h8).trans h9⟩⟩
    · simp only [Array.size_append, List.size_toArray, List.length_append, size_zeroCells, flatP_len, show (Value.agg #[.int rk 0, .int .i64 0]).cells.size = 2 from rfl]
      omega
    · have e1 : (w.drew.alloc (.cells ((flatP rk l ++ flatP rk l2).toArray ++ Builtin.zeroCells (Value.agg #[.int rk 0, .int .i64 0]).cells (grownCap w (l.length + m) sc T - (l.length + m))) T)).cell? ⟨w.heap.size, 0 + j, none⟩ = _ := World.cell?_alloc_new w.drew _ _ (0 + j)
      rw [flatP_append] at hj
      rw [e1, Nat.zero_add, Array.getElem?_append_left (by simp only [List.size_toArray]; exact (List.getElem?_eq_some_iff.1 hj).1), List.getElem?_toArray, hj]
    · have : q = w.heap.size := by simpa [Value.ownBlock] using hq.symm
      omega
  rcases hown with ⟨rfl, rfl⟩ | ⟨g, off, cap, cs, rfl, k1, k2, k3, k4, k5, k6⟩
  · by_cases hm : m = 0
    · subst hm
      have h0 : l2 = [] := List.length_eq_zero_iff.1 hl.symm
      subst h0
      exact ⟨_, _, run_append_nothing (P := Try.prog) w t t t T i0 hI.slice hi none 0 0 (Nat.le_refl _) _ hsrc', .inl ⟨rfl, rfl⟩, ⟨rfl, rfl, rfl, Nat.le_refl _, fun _ _ _ => rfl⟩, (fun q hq => by cases hq), fun q hq => by cases hq⟩
    · exact grow none 0 rfl (by simp; omega) (by
        have := run_firstCells_none (P := Try.prog) w.drew i0.size 0 0 0
        simpa [flatP] using this)
  · by_cases hroom : l.length + m ≤ cap
    · have hrun := run_append_room_src (P := Try.prog) w t t t T i0 hI.slice hi g off l.length cap (.slice a m c) m (flatP rk l2) hsrc' hroom (fun j hj => by
        rw [flatP_len, ← hl] at hj
        rw [cell_block k2, Array.getElem?_eq_getElem (by rw [hz1]; omega)]
        rfl) (fun j _ => frozen_block k2 _)
      rw [hz1] at hrun
      obtain ⟨cs', e1, e2⟩ := heap_setCells g (flatP rk l2) (off + l.length * 2) w cs T (0, 0) k2
      refine ⟨_, _, hrun, .inr ⟨g, off, cap, cs', by rw [List.length_append, ← hl], k1, e1, by rw [List.length_append, ← hl]; exact hroom, k4, by rw [e2]; exact k5, fun j u hj => ?_⟩, grown_setCells g _ _ w, (fun q hq => .inl hq), fun q hq => by
        obtain rfl : g = q := by simpa [Value.ownBlock] using hq
        exact ⟨cs', e1⟩⟩
      rw [flatP_append] at hj
      by_cases hjl : j < (flatP rk l).length
      · rw [List.getElem?_append_left hjl] at hj
        rw [World.cell?_setCells_out g _ _ _ _ (fun _ _ => Or.inl (by show off + j < off + l.length * 2; rw [flatP_len] at hjl; omega))]
        exact k6 j u hj
      · rw [List.getElem?_append_right (by omega)] at hj
        have hj2 : j - (flatP rk l).length < (flatP rk l2).length := (List.getElem?_eq_some_iff.1 hj).1
        have h9 := World.cell?_setCells_in g (flatP rk l2) (off + l.length * 2) w (fun j hj => by
          rw [flatP_len, ← hl] at hj
          rw [cell_block k2, Array.getElem?_eq_getElem (by omega)]
          rfl) (j - (flatP rk l).length) hj2
        rw [List.getElem?_eq_getElem hj2] at hj
        rw [hj] at h9
        rw [show off + l.length * 2 + (j - (flatP rk l).length) = off + j by rw [flatP_len] at hjl ⊢; omega] at h9
        exact h9
    · refine grow (some ⟨g, off, none⟩) cap rfl (by omega) ?_
      refine run_firstCells_some (P := Try.prog) w.drew i0.size l.length ⟨g, off, none⟩ l.length cap (flatP rk l) (by rw [flatP_len, hz1]) (fun j u hj => ?_)
      have hadd : ((⟨g, off, none⟩ : Addr).add j) = ⟨g, off + j, none⟩ := by unfold Addr.add; split <;> simp_all
      rw [hadd]
      exact k6 j u hj
theorem wpList_append_q {rk : IntKind} {t T : TypeId} {bytes : Nat} (hI : PairT rk t T bytes) {ops : Array Oper} {rest : List Oper} {o : Oper} {z : Act} {w : World} {Q : Exit → Act → World → Prop} (hgd : o.guard = none) (s x : Operand)
    (ho : o.op = .call { callee := .builtin .append, args := #[s, x], argTypes := #[t, t] }) (hty : o.type = t)
    (base : Nat) (v : Value) (l : List (Int × Int)) (a : Option Addr) (m c : Nat) (l2 : List (Int × Int)) (hs : z.eval s = v) (hxv : z.eval x = .slice a m c) (hown : OwnQ rk T base v l w) (h : PairsIn rk a m c l2 w) (h1 : (l.length : Int) ≤ 1000000) (h2 : (l2.length : Int) ≤ 1000000) (hbase : base ≤ w.heap.size)
    (hK : ∀ v' w', GrewQ rk T base v (l ++ l2) w v' w' → wpList Try.prog ops Q rest (z.put o.dst v') w') : wpList Try.prog ops Q (o :: rest) z w :=
  wpList_plain hgd fun _ hK' => by
    obtain ⟨v', w', hr, k1⟩ := run_append_q hI base v l a m c l2 w hown h h1 h2 hbase
    unfold Oper.wp execOp
    simp only [ho, hty, resolve, invoke, builtin, Sem.run_bind, Sem.run_pure, Result.andThen_ok, List.map_toArray, List.map_cons, List.map_nil, hs, hxv, hr]
    exact hK' _ _ (hK v' w' k1)
theorem PairsIn.take {rk : IntKind} {a : Option Addr} {n c : Nat} {gs : List (Int × Int)} {w : World} (h : PairsIn rk a n c gs w) (m : Nat) (hm : m ≤ n) : PairsIn rk a m c (gs.take m) w := by
  refine ⟨by rw [List.length_take, ← h.len]; omega, Nat.le_trans hm h.fit, h.top, h.at_.imp (fun e => by rw [e]; simp) ?_⟩
  rintro ⟨b, off, ha, hl, hi⟩
  refine ⟨b, off, ha, hl, fun i g hg => hi i g ?_⟩
  rw [List.getElem?_take] at hg
  split at hg
  · exact hg
  · cases hg
/-- what stands behind the first ones -/
theorem OwnQ.drop {rk : IntKind} {T : TypeId} {base g off n cap : Nat} {l : List (Int × Int)} {w : World} (h : OwnQ rk T base (.slice (some ⟨g, off, none⟩) n cap) l w) (m : Nat) (hm : m ≤ n) : OwnQ rk T base (.slice (some ⟨g, off + m * 2, none⟩) (n - m) (cap - m)) (l.drop m) w := by
  rcases h with ⟨e, -⟩ | ⟨g', off', cap', cs, e, h1, h2, h3, h4, h5, h6⟩
  · cases e
  · obtain ⟨rfl, rfl, rfl, rfl⟩ : g = g' ∧ off = off' ∧ n = l.length ∧ cap = cap' := by injection e with e e2 e3; injection e with e; injection e with e4 e5; exact ⟨e4, e5, e2, e3⟩
    refine .inr ⟨g, _, _, cs, by rw [List.length_drop], h1, h2, by rw [List.length_drop]; omega, by omega, by omega, fun j u hj => ?_⟩
    have hfd : flatP rk (l.drop m) = (flatP rk l).drop (m * 2) := by
      have e1 : flatP rk l = flatP rk (l.take m) ++ flatP rk (l.drop m) := by rw [← flatP_append, List.take_append_drop]
      rw [e1, List.drop_left' (by rw [flatP_len, List.length_take, Nat.min_eq_left hm])]
    rw [hfd, List.getElem?_drop] at hj
    rw [Nat.add_assoc]
    exact h6 _ u hj
theorem spanT : PairT .i64 67 81 16 := ⟨Try.underlying67, by kernel_rfl, by decide⟩
theorem sl_span : Try.prog.underlying 67 = some (.slice 81) := Try.underlying67
end Go.Proofs.Ytgagkmlkoeceiaa.H
