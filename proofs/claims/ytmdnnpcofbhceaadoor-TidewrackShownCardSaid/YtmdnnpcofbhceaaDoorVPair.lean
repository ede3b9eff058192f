/- Pairs of numbers (a rune, and how it looks) in memory; append of one. -/
import Derived.Test.YtmdnnpcofbhceaaDoorKRow
namespace Go.Proofs.YtmdnnpcofbhceaaDoor.K
open Go.RowKit

def pCells (rk : IntKind) (g : Int × Int) : List Value := [.int rk g.1, .int .i64 g.2]
def pArr (rk : IntKind) (g : Int × Int) : Array Value := #[.int rk g.1, .int .i64 g.2]
def flatP (rk : IntKind) (l : List (Int × Int)) : List Value := l.flatMap (pCells rk)
theorem flatP_len (rk : IntKind) (l : List (Int × Int)) : (flatP rk l).length = l.length * 2 := by
  induction l with
  | nil => rfl
  | cons c l ih => simp [flatP, List.flatMap_cons, pCells] at ih ⊢; omega
theorem flatP_append (rk : IntKind) (a b : List (Int × Int)) : flatP rk (a ++ b) = flatP rk a ++ flatP rk b := List.flatMap_append ..
theorem flatP_get (rk : IntKind) : ∀ (l : List (Int × Int)) (i j : Nat) (c : Int × Int), l[i]? = some c → j < 2 → (flatP rk l)[i * 2 + j]? = (pCells rk c)[j]?
  | [], _, _, _, h, _ => by cases h
  | d :: l, 0, j, c, h, hj => by
    obtain rfl : d = c := by simpa using h
    show (pCells rk d ++ flatP rk l)[0 * 2 + j]? = _
    rw [List.getElem?_append_left (by simp [pCells]; omega)]
    simp
  | d :: l, i + 1, j, c, h, hj => by
    show (pCells rk d ++ flatP rk l)[(i + 1) * 2 + j]? = _
    rw [List.getElem?_append_right (by simp [pCells]; omega)]
    have e : (i + 1) * 2 + j - (pCells rk d).length = i * 2 + j := by simp [pCells]; omega
    rw [e]
    exact flatP_get rk l i j c (by simpa using h) hj
theorem flatP_one (rk : IntKind) (l : List (Int × Int)) : ∀ u ∈ flatP rk l, u.oneCell' = true := by
  intro u hu
  obtain ⟨c, _, hu⟩ := List.mem_flatMap.1 hu
  simp only [pCells, List.mem_cons, List.not_mem_nil, or_false] at hu
  rcases hu with rfl | rfl <;> rfl
/-- pairs of our own -/
def OwnP (rk : IntKind) (T : TypeId) (base : Nat) (v : Value) (l : List (Int × Int)) (w : World) : Prop := w.ownsRow base T 2 v l.length (flatP rk l)
theorem OwnP.nil (rk : IntKind) (T : TypeId) (base : Nat) (w : World) : OwnP rk T base (.slice none 0 0) [] w := World.ownsRow_nil _ _ _ _
theorem OwnP.belowAll {rk : IntKind} {T : TypeId} {base : Nat} {v : Value} {l : List (Int × Int)} {w w' : World} (h : OwnP rk T base v l w) (hb : Below w.heap.size w w') : OwnP rk T base v l w' := U.belowAll h hb
theorem OwnP.alloc {rk : IntKind} {T : TypeId} {base : Nat} {v : Value} {l : List (Int × Int)} {w : World} (h : OwnP rk T base v l w) (o : Obj) : OwnP rk T base v l (w.alloc o) := h.belowAll ((Below.refl _ _).alloc (Nat.le_refl _) o)
theorem OwnP.weaken {rk : IntKind} {T : TypeId} {base base' : Nat} {v : Value} {l : List (Int × Int)} {w : World} (h : OwnP rk T base v l w) (hb : base' ≤ base) : OwnP rk T base' v l w := U.weaken h hb
theorem OwnP.ownBlock {rk : IntKind} {T : TypeId} {base : Nat} {v : Value} {l : List (Int × Int)} {w : World} (h : OwnP rk T base v l w) : ∀ q, v.ownBlock = some q → base ≤ q ∧ q < w.heap.size := fun q hq => ⟨(U.own_type h hq).choose_spec.2.1, (U.own_type h hq).choose_spec.2.2⟩
theorem OwnP.lit (rk : IntKind) (T : TypeId) (w : World) (base : Nat) (hb : base ≤ w.heap.size) : OwnP rk T base (.slice (some ⟨w.heap.size, 0, none⟩) 0 0) [] (w.alloc (.cells #[] T)) := World.ownsRow_lit w #[] 0 hb (by decide) rfl
/-- a slice of pairs -/
structure PairsIn (rk : IntKind) (a : Option Addr) (n c : Nat) (gs : List (Int × Int)) (w : World) : Prop where
  len : n = gs.length
  fit : n ≤ c
  top : (c : Int) ≤ 9223372036854775807
  at_ : gs = [] ∨ ∃ b off, a = some ⟨b, off, none⟩ ∧ b < w.heap.size ∧ ∀ i g, gs[i]? = some g → w.cell? ⟨b, off + i * 2, none⟩ = some (.int rk g.1) ∧ w.cell? ⟨b, off + i * 2 + 1, none⟩ = some (.int .i64 g.2)
theorem PairsIn.belowAll {rk : IntKind} {a : Option Addr} {n c : Nat} {gs : List (Int × Int)} {w w' : World} (h : PairsIn rk a n c gs w) (hb : Below w.heap.size w w') : PairsIn rk a n c gs w' := by
  refine ⟨h.len, h.fit, h.top, h.at_.imp id ?_⟩
  rintro ⟨b, off, ha, hl, hi⟩
  exact ⟨b, off, ha, Nat.lt_of_lt_of_le hl hb.size, fun i g hg => ⟨(hb.cell (p := ⟨b, off + i * 2, none⟩) hl).trans (hi i g hg).1, (hb.cell (p := ⟨b, off + i * 2 + 1, none⟩) hl).trans (hi i g hg).2⟩⟩
theorem OwnP.shape {rk : IntKind} {T : TypeId} {base : Nat} {v : Value} {l : List (Int × Int)} {w : World} (h : OwnP rk T base v l w) : ∃ a c, v = .slice a l.length c ∧ PairsIn rk a l.length c l w ∧ (∀ b off, a = some ⟨b, off, none⟩ → base ≤ b ∧ b < w.heap.size ∧ off = 0) ∧ (a = none → c = 0) := by
  rcases h.2 with ⟨rfl, h0⟩ | ⟨g, cap, cur, rfl, hbase, hg, hc, hm, hs, ht⟩
  · exact ⟨none, 0, by rw [h0], ⟨rfl, by omega, by decide, .inl (List.length_eq_zero_iff.1 h0)⟩, (fun _ _ e => by cases e), fun _ => rfl⟩
  · have hlt := (Array.getElem?_eq_some_iff.1 hg).1
    refine ⟨some ⟨g, 0, none⟩, cap, rfl, ⟨rfl, hc, by unfold maxLen at hm; omega, .inr ⟨g, 0, rfl, hlt, fun i c hi => ?_⟩⟩, (fun b off e => by cases e; exact ⟨hbase, hlt, rfl⟩), (fun e => by cases e)⟩
    have hil : i < l.length := (List.getElem?_eq_some_iff.1 hi).1
    have hcell : ∀ j, j < 2 → w.cell? ⟨g, 0 + i * 2 + j, none⟩ = (pCells rk c)[j]? := fun j hj => by
      rw [Nat.zero_add, World.ownsRow.cellAt h (i * 2 + j) (by omega), flatP_get rk l i j c hi hj]
    exact ⟨hcell 0 (by decide), hcell 1 (by decide)⟩
theorem OwnP.kept {rk : IntKind} {T : TypeId} {base : Nat} {v : Value} {l : List (Int × Int)} {w w' : World} {row : Option Nat} (h : OwnP rk T base v l w) (hg : w.grownBy w' row) (hne : ∀ q, v.ownBlock = some q → row ≠ some q) : OwnP rk T base v l w' := U.kept_apart h hg hne
/-- t is a slice of the pairs T -/
structure PairT (rk : IntKind) (t T : TypeId) (bytes : Nat) : Prop where
  slice : Tryd.prog.underlying t = some (.slice T)
  info : (Tryd.prog.info? T).map (fun i => (i.zero, i.size, i.bytes)) = some (some (.agg #[.int rk 0, .int .i64 0]), 2, bytes)
  small : bytes ≤ 24
theorem gluT : PairT .i32 47 50 16 := ⟨Tryd.underlying47, by kernel_rfl, by decide⟩
theorem refGluT : PairT .i64 130 133 16 := ⟨Tryd.underlying130, by kernel_rfl, by decide⟩
set_option maxRecDepth 100000 in
theorem run_slice_pair {rk : IntKind} {t T : TypeId} {bytes : Nat} (hI : PairT rk t T bytes) (w : World) (c : Int × Int) : (Instr.buildSlice t 1 #[(0, .agg (pArr rk c))]).run Tryd.prog w = .ok (.slice (some ⟨w.heap.size, 0, none⟩) 1 1) (w.alloc (.cells (pArr rk c) T)) := by
  obtain ⟨i0, hi, hz0, hz1, hz2⟩ := info_parts hI.info
  unfold pArr
  have hsz : ∀ w, (sizeOf T).run Tryd.prog w = .ok 2 w := fun w => by simp [sizeOf, typeInfo, hi, hz1]
  have hz : ∀ w, (zeroValue T).run Tryd.prog w = .ok (.agg #[.int rk 0, .int .i64 0]) w := fun w => by simp [zeroValue, typeInfo, hi, hz0]
  simp only [Instr.buildSlice, Sem.run_bind, run_underlying hI.slice, Result.andThen_ok, hsz, Nat.one_mul, Sem.run_pure, hz, show ¬ (2 > 2 ^ 24) by decide, if_false, show ¬ (2 = 0) by decide]
  simp [Instr.fill, newRow, show Array.range 2 = #[0, 1] by decide, List.zipIdx, Value.cells]
set_option maxRecDepth 100000 in
/-- a pair that is built, boxed and put behind others: in one step -/
theorem wpList_add_pair {rk : IntKind} {t T : TypeId} {bytes : Nat} (hI : PairT rk t T bytes) {ops : Array Oper} {rest : List Oper} {z : Act} {w : World} {Q : Exit → Act → World → Prop} {d1 d2 : Option Tmp} {x a y : Operand} {t1 : TypeId} {p1 p2 : String} {f1 f2 : Array Edge}
    (base : Nat) (v : Value) (l : List (Int × Int)) (c : Int × Int) (hx : z.eval x = .agg (pArr rk c))
    (ha : (z.put d1 (.slice (some ⟨w.heap.size, 0, none⟩) 1 1)).eval a = v) (hy : (z.put d1 (.slice (some ⟨w.heap.size, 0, none⟩) 1 1)).eval y = .slice (some ⟨w.heap.size, 0, none⟩) 1 1)
    (hown : OwnP rk T base v l w) (hl : (l.length : Int) ≤ 1000000) (hbase : base ≤ w.heap.size)
    (hK : ∀ v' w', OwnP rk T base v' (l ++ [c]) w' → (∀ w0, Below base w0 w → Below base w0 w') → base ≤ w'.heap.size → (w.alloc (.cells (pArr rk c) T)).grownBy w' v.ownBlock → wpList Tryd.prog ops Q rest ((z.put d1 (.slice (some ⟨w.heap.size, 0, none⟩) 1 1)).put d2 v') w') :
    wpList Tryd.prog ops Q (⟨d1, .buildSlice t 1 #[(0, x)], t1, p1, f1, none⟩ :: ⟨d2, .call { callee := .builtin .append, args := #[a, y], argTypes := #[t, t] }, t, p2, f2, none⟩ :: rest) z w :=
  wpList_plain rfl fun _ hK' => by
    obtain ⟨i0, hi, hz0, hz1, hz2⟩ := info_parts hI.info
    have hb := hI.small
    unfold Oper.wp execOp
    simp only [List.map_toArray, List.map_cons, List.map_nil, hx, run_slice_pair hI, Sem.run_bind, Result.andThen_ok, Sem.run_pure]
    refine hK' _ _ ?_
    have hmul : (l.length + 1) * bytes ≤ 140737488355328 := Nat.le_trans (Nat.mul_le_mul (show l.length + 1 ≤ 2000000 by omega) hb) (by decide)
    have hbs : base ≤ (w.alloc (.cells (pArr rk c) T)).heap.size := by rw [World.size_alloc]; omega
    have hnews : ∀ j u, (pCells rk c)[j]? = some u → (w.alloc (.cells (pArr rk c) T)).cell? ((⟨w.heap.size, 0, none⟩ : Addr).add j) = some u := fun j u hj => by
      have hadd : ((⟨w.heap.size, 0, none⟩ : Addr).add j) = ⟨w.heap.size, 0 + j, none⟩ := by unfold Addr.add; split <;> simp_all
      rw [hadd, Nat.zero_add, World.cell?_alloc_new]
      simpa [pArr, pCells] using hj
    obtain ⟨v', w', hr, g⟩ := U.append_grew (P := Tryd.prog) (w.alloc (.cells (pArr rk c) T)) t t T i0 _ 2 bytes hI.slice hi hz0 hz1 hz2 rfl (by decide) base v l.length (flatP rk l) (hown.alloc _) ⟨w.heap.size, 0, none⟩ 1 1 (pCells rk c) rfl hnews (fun u hu => flatP_one rk [c] u (by simpa [flatP] using hu)) (by unfold maxLen; omega) hmul hbs
    refine wpList_plain rfl fun _ hK2 => ?_
    unfold Oper.wp execOp
    simp only [resolve, invoke, builtin, Sem.run_bind, Sem.run_pure, Result.andThen_ok, List.map_toArray, List.map_cons, List.map_nil, ha, hy, hr]
    refine hK2 _ _ (hK v' w' ?_ (fun w0 hb => (hb.alloc hbase _).grown g.grown hbs (fun q hq => (hown.ownBlock q hq).1)) (by have := g.grown.size; omega) g.grown)
    have e : flatP rk (l ++ [c]) = flatP rk l ++ pCells rk c := by rw [flatP_append]; simp [flatP]
    unfold OwnP
    rw [e, List.length_append]
    exact g.own
/-- append of a slice of one pair -/
theorem wpList_append_pair {rk : IntKind} {t T : TypeId} {bytes : Nat} (hI : PairT rk t T bytes) {ops : Array Oper} {rest : List Oper} {o : Oper} {z : Act} {w : World} {Q : Exit → Act → World → Prop} (hgd : o.guard = none) (s x : Operand)
    (ho : o.op = .call { callee := .builtin .append, args := #[s, x], argTypes := #[t, t] }) (hty : o.type = t)
    (base : Nat) (v : Value) (l : List (Int × Int)) (c : Int × Int) (p : Nat) (hs : z.eval s = v) (hxv : z.eval x = .slice (some ⟨p, 0, none⟩) 1 1) (hown : OwnP rk T base v l w)
    (h0 : w.cell? ⟨p, 0, none⟩ = some (.int rk c.1)) (h1 : w.cell? ⟨p, 1, none⟩ = some (.int .i64 c.2)) (hl : (l.length : Int) ≤ 1000000) (hbase : base ≤ w.heap.size)
    (hK : ∀ v' w', OwnP rk T base v' (l ++ [c]) w' → w.grownBy w' v.ownBlock → wpList Tryd.prog ops Q rest (z.put o.dst v') w') : wpList Tryd.prog ops Q (o :: rest) z w :=
  wpList_plain hgd fun _ hK' => by
    obtain ⟨i0, hi, hz0, hz1, hz2⟩ := info_parts hI.info
    have hb := hI.small
    have hmul : (l.length + 1) * bytes ≤ 140737488355328 := Nat.le_trans (Nat.mul_le_mul (show l.length + 1 ≤ 2000000 by omega) hb) (by decide)
    have hnews : ∀ j u, (pCells rk c)[j]? = some u → w.cell? ((⟨p, 0, none⟩ : Addr).add j) = some u := fun j u hj => by
      have hadd : ((⟨p, 0, none⟩ : Addr).add j) = ⟨p, 0 + j, none⟩ := by unfold Addr.add; split <;> simp_all
      rw [hadd, Nat.zero_add]
      match j, hj with
      | 0, hj => rw [show u = .int rk c.1 by simpa [pCells] using hj.symm]; exact h0
      | 1, hj => rw [show u = .int .i64 c.2 by simpa [pCells] using hj.symm]; exact h1
      | n + 2, hj => simp [pCells] at hj
    obtain ⟨v', w', hr, g⟩ := U.append_grew (P := Tryd.prog) w t t T i0 _ 2 bytes hI.slice hi hz0 hz1 hz2 rfl (by decide) base v l.length (flatP rk l) hown ⟨p, 0, none⟩ 1 1 (pCells rk c) rfl hnews (fun u hu => flatP_one rk [c] u (by simpa [flatP] using hu)) (by unfold maxLen; omega) hmul hbase
    unfold Oper.wp execOp
    simp only [ho, hty, resolve, invoke, builtin, Sem.run_bind, Sem.run_pure, Result.andThen_ok, List.map_toArray, List.map_cons, List.map_nil, hs, hxv, hr]
    refine hK' _ _ (hK v' w' ?_ g.grown)
    have e : flatP rk (l ++ [c]) = flatP rk l ++ pCells rk c := by rw [flatP_append]; simp [flatP]
    unfold OwnP
    rw [e, List.length_append]
    exact g.own
end Go.Proofs.YtmdnnpcofbhceaaDoor.K
