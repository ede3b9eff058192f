/- append of cells upon cells of our own; a cell that is stored. -/
import Derived.Test.YtkggmcnocpgnbaaDoorMerged0
namespace Go.Proofs.YtkggmcnocpgnbaaDoor.K
open Go.RowKit

/-- t is a slice of the cells T -/
structure CelT (rk : IntKind) (t T : TypeId) (bytes : Nat) : Prop where
  slice : Tryd.prog.underlying t = some (.slice T)
  info : (Tryd.prog.info? T).map (fun i => (i.zero, i.size, i.bytes)) = some (some (.agg #[.int rk 0, .int .i64 0, .int .i64 0]), 3, bytes)
  small : bytes ≤ 24
theorem run_append_cells {rk : IntKind} {t T : TypeId} {bytes : Nat} (hI : CelT rk t T bytes) (base : Nat) (v : Value) (l : List Cel) (a : Option Addr) (m c : Nat) (l2 : List Cel) (w : World) (hown : OwnC rk T base v l w) (h : CelsIn rk a m l2 w) (hnil : a = none → c = 0) (h1 : (l.length : Int) ≤ 1000000) (h2 : (l2.length : Int) ≤ 1000000) (hbase : base ≤ w.heap.size) :
    ∃ v' w', (Builtin.append_ #[t, t] t #[v, .slice a m c]).run Tryd.prog w = .ok v' w' ∧ OwnC rk T base v' (l ++ l2) w' ∧ U.Grew base T 3 v (l.length + m) (flatC rk l ++ flatC rk l2) w v' w' := by
  obtain ⟨i0, hi, hz0, hz1, hz2⟩ := info_parts hI.info
  have hl := h.len
  have hb := hI.small
  have hmul : (l.length + m) * bytes ≤ 140737488355328 := Nat.le_trans (Nat.mul_le_mul (show l.length + m ≤ 2000000 by omega) hb) (by decide)
  have done : ∀ v' w', U.Grew base T 3 v (l.length + m) (flatC rk l ++ flatC rk l2) w v' w' → OwnC rk T base v' (l ++ l2) w' := fun v' w' g => by
    unfold OwnC
    rw [List.length_append, flatC_append, ← hl]
    exact g.own
  cases a with
  | none =>
    have hc := hnil rfl
    have h0 : l2 = [] := by
      rcases h.at_ with h0 | ⟨b, off, e, _⟩
      · exact h0
      · cases e
    subst h0
    obtain rfl : m = 0 := hl
    obtain ⟨hr, g⟩ := U.append_none (P := Tryd.prog) w t t T i0 3 c hI.slice hi base v l.length (flatC rk l) hown hc
    have g' : U.Grew base T 3 v (l.length + 0) (flatC rk l ++ flatC rk []) w v w := by simpa [flatC] using g
    exact ⟨v, w, hr, done _ _ g', g'⟩
  | some ad =>
    have hnews : ∀ j u, (flatC rk l2)[j]? = some u → w.cell? (ad.add j) = some u := fun j u hj => by
      rcases h.at_ with h0 | ⟨b, off, e, _⟩
      · rw [h0] at hj; simp [flatC] at hj
      · cases e
        exact h.news j u hj
    obtain ⟨v', w', hr, g⟩ := U.append_grew (P := Tryd.prog) w t t T i0 _ 3 bytes hI.slice hi hz0 hz1 hz2 rfl (by decide) base v l.length (flatC rk l) hown ad m c (flatC rk l2) (by rw [flatC_len, hl]) hnews (flatC_one rk l2) (by unfold maxLen; omega) hmul hbase
    exact ⟨v', w', hr, done _ _ g, g⟩
theorem wpList_append_cells {rk : IntKind} {t T : TypeId} {bytes : Nat} (hI : CelT rk t T bytes) {ops : Array Oper} {rest : List Oper} {o : Oper} {z : Act} {w : World} {Q : Exit → Act → World → Prop} (hgd : o.guard = none) (s x : Operand)
    (ho : o.op = .call { callee := .builtin .append, args := #[s, x], argTypes := #[t, t] }) (hty : o.type = t)
    (base : Nat) (v : Value) (l : List Cel) (a : Option Addr) (m c : Nat) (l2 : List Cel) (hs : z.eval s = v) (hxv : z.eval x = .slice a m c) (hown : OwnC rk T base v l w) (h : CelsIn rk a m l2 w) (hnil : a = none → c = 0) (h1 : (l.length : Int) ≤ 1000000) (h2 : (l2.length : Int) ≤ 1000000) (hbase : base ≤ w.heap.size)
    (hK : ∀ v' w', OwnC rk T base v' (l ++ l2) w' → U.Grew base T 3 v (l.length + m) (flatC rk l ++ flatC rk l2) w v' w' → wpList Tryd.prog ops Q rest (z.put o.dst v') w') : wpList Tryd.prog ops Q (o :: rest) z w :=
  wpList_plain hgd fun _ hK' => by
    obtain ⟨v', w', hr, k1, k2⟩ := run_append_cells hI base v l a m c l2 w hown h hnil h1 h2 hbase
    unfold Oper.wp execOp
    simp only [ho, hty, resolve, invoke, builtin, Sem.run_bind, Sem.run_pure, Result.andThen_ok, List.map_toArray, List.map_cons, List.map_nil, hs, hxv, hr]
    exact hK' _ _ (hK v' w' k1 k2)
/-- a slice of one cell, just built -/
theorem run_slice_cell {rk : IntKind} {t T : TypeId} {bytes : Nat} (hI : CelT rk t T bytes) (w : World) (c : Cel) : (Instr.buildSlice t 1 #[(0, .agg (cArr rk c))]).run Tryd.prog w = .ok (.slice (some ⟨w.heap.size, 0, none⟩) 1 1) (w.alloc (.cells (cArr rk c) T)) := by
  obtain ⟨i0, hi, hz0, hz1, hz2⟩ := info_parts hI.info
  unfold cArr
  have hsz : ∀ w, (sizeOf T).run Tryd.prog w = .ok 3 w := fun w => by simp [sizeOf, typeInfo, hi, hz1]
  have hz : ∀ w, (zeroValue T).run Tryd.prog w = .ok (.agg #[.int rk 0, .int .i64 0, .int .i64 0]) w := fun w => by simp [zeroValue, typeInfo, hi, hz0]
  simp only [Instr.buildSlice, Sem.run_bind, run_underlying hI.slice, Result.andThen_ok, hsz, Nat.one_mul, Sem.run_pure, hz, show ¬ (3 > 2 ^ 24) by decide, if_false, show ¬ (3 = 0) by decide]
  simp [Instr.fill, newRow, show Array.range 3 = #[0, 1, 2] by decide, List.zipIdx, Value.cells]
theorem cels_one {rk : IntKind} (w : World) (c : Cel) (T : TypeId) : CelsIn rk (some ⟨w.heap.size, 0, none⟩) 1 [c] (w.alloc (.cells (cArr rk c) T)) :=
  ⟨rfl, .inr ⟨w.heap.size, 0, rfl, by simp, fun i d hi => by
    have h0 : i = 0 := by have := (List.getElem?_eq_some_iff.1 hi).1; simp at this; omega
    subst h0
    obtain rfl : c = d := by simpa using hi
    exact ⟨by rw [World.cell?_alloc_new]; rfl, by rw [World.cell?_alloc_new]; rfl, by rw [World.cell?_alloc_new]; rfl⟩⟩⟩
/-- a cell that is built, boxed and put behind others: in one step -/
theorem wpList_add_cell {rk : IntKind} {t T : TypeId} {bytes : Nat} (hI : CelT rk t T bytes) {ops : Array Oper} {rest : List Oper} {z : Act} {w : World} {Q : Exit → Act → World → Prop} {d1 d2 : Option Tmp} {x a y : Operand} {t1 : TypeId} {p1 p2 : String} {f1 f2 : Array Edge}
    (base : Nat) (v : Value) (l : List Cel) (c : Cel) (hx : z.eval x = .agg (cArr rk c))
    (ha : (z.put d1 (.slice (some ⟨w.heap.size, 0, none⟩) 1 1)).eval a = v) (hy : (z.put d1 (.slice (some ⟨w.heap.size, 0, none⟩) 1 1)).eval y = .slice (some ⟨w.heap.size, 0, none⟩) 1 1)
    (hown : OwnC rk T base v l w) (hl : (l.length : Int) ≤ 1000000) (hbase : base ≤ w.heap.size)
    (hK : ∀ v' w', OwnC rk T base v' (l ++ [c]) w' → (∀ w0, Below base w0 w → Below base w0 w') → base ≤ w'.heap.size → wpList Tryd.prog ops Q rest ((z.put d1 (.slice (some ⟨w.heap.size, 0, none⟩) 1 1)).put d2 v') w') :
    wpList Tryd.prog ops Q (⟨d1, .buildSlice t 1 #[(0, x)], t1, p1, f1, none⟩ :: ⟨d2, .call { callee := .builtin .append, args := #[a, y], argTypes := #[t, t] }, t, p2, f2, none⟩ :: rest) z w :=
  wpList_plain rfl fun _ hK' => by
    unfold Oper.wp execOp
    simp only [List.map_toArray, List.map_cons, List.map_nil, hx, run_slice_cell hI, Sem.run_bind, Result.andThen_ok, Sem.run_pure]
    refine hK' _ _ ?_
    refine wpList_append_cells hI rfl a y rfl rfl base v l (some ⟨w.heap.size, 0, none⟩) 1 1 [c] ha hy (hown.alloc _) (cels_one w c T) (fun e => by cases e) hl (by simp) (by simp; omega) ?_
    intro v' w' h1 h2
    exact hK v' w' h1 (fun w0 hb => (hb.alloc hbase _).grown h2.grown (by simp; omega) (fun q hq => (hown.ownBlock q hq).1)) (by have := h2.grown.size; simp at this; omega)
/-! ## a cell that is stored -/
theorem flatC_drop (rk : IntKind) : ∀ (l : List Cel) (n : Nat), flatC rk (l.drop n) = (flatC rk l).drop (n * 3)
  | [], n => by simp [flatC]
  | c :: l, 0 => by simp [flatC]
  | c :: l, n + 1 => by
    show flatC rk (l.drop n) = (cCells rk c ++ flatC rk l).drop ((n + 1) * 3)
    have h3 : (cCells rk c).length = 3 := rfl
    rw [flatC_drop rk l n, List.drop_append, h3, show (n + 1) * 3 - 3 = n * 3 by omega, List.drop_of_length_le (l := cCells rk c) (by rw [h3]; omega), List.nil_append]
theorem flatC_set (rk : IntKind) (l : List Cel) (i : Nat) (c : Cel) (h : i < l.length) : flatC rk (l.set i c) = (flatC rk l).take (i * 3) ++ cCells rk c ++ (flatC rk l).drop (i * 3 + 3) := by
  have e : l.set i c = l.take i ++ [c] ++ l.drop (i + 1) := by
    rw [List.set_eq_take_append_cons_drop, if_pos h]; simp
  have h1 : flatC rk [c] = cCells rk c := List.append_nil _
  rw [e, flatC_append, flatC_append, flatC_take, flatC_drop, h1, show (i + 1) * 3 = i * 3 + 3 by omega]
theorem run_store_cell {rk : IntKind} {t T : TypeId} {bytes : Nat} (hI : CelT rk t T bytes) (base g cap : Nat) (l : List Cel) (i : Nat) (c : Cel) (w : World) (hown : OwnC rk T base (.slice (some ⟨g, 0, none⟩) l.length cap) l w) (hi : i < l.length) :
    ∃ w', (storeVar T ⟨g, i * 3, none⟩ (.agg (cArr rk c))).run Tryd.prog w = .ok () w' ∧ OwnC rk T base (.slice (some ⟨g, 0, none⟩) l.length cap) (l.set i c) w' ∧ w.grownBy w' (some g) := by
  obtain ⟨i0, hin, hz0, hz1, hz2⟩ := info_parts hI.info
  have hsz : ∀ w, (sizeOf T).run Tryd.prog w = .ok 3 w := fun w => by simp [sizeOf, typeInfo, hin, hz1]
  rcases hown.2 with ⟨h0, _⟩ | ⟨g', cap', cur, he, hbase, hg, hc, hm, hs, ht⟩
  · cases h0
  · obtain ⟨rfl, rfl⟩ : g = g' ∧ cap = cap' := by injection he with h1 h2 h3; injection h1 with h1; injection h1 with h1; exact ⟨h1, h3⟩
    have hcur : cur.toList.length = cap * 3 := by simpa using hs
    have hst := run_storeCells_at (P := Tryd.prog) g (i * 3) T (cCells rk c) 0 cur w hg (by simp [cCells, hs]; omega) (fun u hu => by simp only [cCells, List.mem_cons, List.not_mem_nil, or_false] at hu; rcases hu with rfl | rfl | rfl <;> rfl)
    simp only [Nat.add_zero] at hst
    have h3 : (cCells rk c).length = 3 := rfl
    rw [h3] at hst
    obtain ⟨C2, hC2⟩ : ∃ C2, (cur.toList.take (i * 3) ++ cCells rk c ++ cur.toList.drop (i * 3 + 3)) = C2 := ⟨_, rfl⟩
    rw [hC2] at hst
    refine ⟨w.setRow g C2.toArray, ?_, ⟨by rw [flatC_len, List.length_set], .inr ⟨g, cap, C2.toArray, by rw [List.length_set], hbase, setRow_heap w g cur C2.toArray T (0, 0) hg, by rw [List.length_set]; exact hc, hm, ?_, ?_⟩⟩, ⟨rfl, rfl, rfl, by simp [World.setRow], fun k _ hn => setRow_other w g k _ (fun e => hn (by rw [e]))⟩⟩
    · unfold storeVar
      simp only [Sem.run_bind, hsz, Result.andThen_ok, Value.cells, show (cArr rk c).size = 3 from rfl, ne_eq, not_true_eq_false, if_false, Sem.run_pure]
      exact hst
    · simp only [List.size_toArray]
      rw [← hC2]
      simp only [List.length_append, List.length_take, List.length_drop, hcur, h3]
      omega
    · show C2.take ((l.set i c).length * 3) = _
      rw [List.length_set, flatC_set rk l i c hi, ← hC2, ← ht]
      have ha : (cur.toList.take (i * 3)).length = i * 3 := by rw [List.length_take]; omega
      rw [List.take_append, List.take_append, List.length_append, ha, h3, List.take_of_length_le (l := cur.toList.take (i * 3)) (by rw [ha]; omega), List.take_of_length_le (l := cCells rk c) (by rw [h3]; omega), List.take_take, Nat.min_eq_left (by omega), List.drop_take]
theorem wpList_store_cell {rk : IntKind} {t T : TypeId} {bytes : Nat} (hI : CelT rk t T bytes) {ops : Array Oper} {rest : List Oper} {o : Oper} {z : Act} {w : World} {Q : Exit → Act → World → Prop} (hgd : o.guard = none) (hd : o.dst = none) (pa pv : Operand) (ho : o.op = .store T pa pv)
    (base g cap : Nat) (l : List Cel) (i : Nat) (c : Cel) (hpa : z.eval pa = .pointer (some ⟨g, i * 3, none⟩)) (hpv : z.eval pv = .agg (cArr rk c)) (hown : OwnC rk T base (.slice (some ⟨g, 0, none⟩) l.length cap) l w) (hi : i < l.length)
    (hK : ∀ w', OwnC rk T base (.slice (some ⟨g, 0, none⟩) l.length cap) (l.set i c) w' → w.grownBy w' (some g) → wpList Tryd.prog ops Q rest z w') : wpList Tryd.prog ops Q (o :: rest) z w :=
  wpList_plain hgd fun _ hK' => by
    obtain ⟨w', hr, h1, h2⟩ := run_store_cell hI base g cap l i c w hown hi
    unfold Oper.wp execOp
    simp only [ho, hpa, hpv, Instr.storeAt, Instr.sureAddr, asAddr, Sem.run_bind, Sem.run_pure, Result.andThen_ok, hr]
    exact hK' _ _ (by rw [hd]; exact hK w' h1 h2)
end Go.Proofs.YtkggmcnocpgnbaaDoor.K
