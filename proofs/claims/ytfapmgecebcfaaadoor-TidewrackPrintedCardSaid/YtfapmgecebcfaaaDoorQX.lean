/- What the document says, in memory of our own. -/
import Derived.Test.YtfapmgecebcfaaaDoorMerged4
namespace Go.Proofs.YtfapmgecebcfaaaDoor.Q
open Go.RowKit
open Go.Proofs.YtfapmgecebcfaaaDoor.W (OwnI OwnR IntsIn RunesIn)

def xCells (r : Say × Value) : List Value := [.int .i64 (r.1.kind : Int), .int .i64 (r.1.rune : Int), .int .i64 (r.1.byte : Int), .bool r.1.priv, r.2, strV r.1.text]
def xArr (s : Say) (nv : Value) : Array Value := #[.int .i64 (s.kind : Int), .int .i64 (s.rune : Int), .int .i64 (s.byte : Int), .bool s.priv, nv, strV s.text]
theorem infoX : (Tryd.prog.info? 47).map (fun i => (i.zero, i.size, i.bytes)) = some (some (.agg #[.int .i64 0, .int .i64 0, .int .i64 0, .bool false, .slice none 0 0, .string ⟨#[]⟩]), 6, 72) := by kernel_rfl
def flatX (rows : List (Say × Value)) : List Value := rows.flatMap xCells
theorem flatX_len (rows : List (Say × Value)) : (flatX rows).length = rows.length * 6 := by
  induction rows with
  | nil => rfl
  | cons r rows ih => simp [flatX, List.flatMap_cons, xCells] at ih ⊢; omega
/-- A slice of actions of our own. -/
structure OwnX (base : Nat) (v : Value) (l : List Say) (w : World) : Prop where
  rows : ∃ rows : List (Say × Value), rows.map Prod.fst = l ∧ w.ownsRow base 47 6 v l.length (flatX rows) ∧ ∀ r ∈ rows, OwnI base r.2 r.1.nums w
theorem OwnX.nil (base : Nat) (w : World) : OwnX base (.slice none 0 0) [] w := ⟨⟨[], rfl, World.ownsRow_nil _ _ _ _, fun _ h => by cases h⟩⟩
/-- kept where a block that grows is of another type -/
theorem OwnX.kept {base : Nat} {v : Value} {l : List Say} {w w' : World} (h : OwnX base v l w) (row : Option Nat) (hg : w.grownBy w' row) (hne : ∀ g, row = some g → ∀ cs, w.heap[g]? ≠ some (.cells cs 47 (0, 0)) ∧ w.heap[g]? ≠ some (.cells cs 3 (0, 0))) : OwnX base v l w' := by
  obtain ⟨rows, h1, h2, h3⟩ := h.rows
  refine ⟨⟨rows, h1, World.ownsRow.kept h2 hg ?_, fun r hr => World.ownsRow.kept (h3 r hr) hg ?_⟩⟩
  · by_cases e : v.ownBlock = row
    · cases hv : v.ownBlock with
      | none => exact .inl rfl
      | some g =>
        obtain ⟨cs, hc, _⟩ := own_type h2 hv
        exact absurd hc (hne g (by rw [← e, hv]) cs).1
    · exact .inr e
  · by_cases e : r.2.ownBlock = row
    · cases hv : r.2.ownBlock with
      | none => exact .inl rfl
      | some g =>
        obtain ⟨cs, hc, _⟩ := own_type (h3 r hr) hv
        exact absurd hc (hne g (by rw [← e, hv]) cs).2
    · exact .inr e
theorem OwnX.belowAll {base : Nat} {v : Value} {l : List Say} {w w' : World} (h : OwnX base v l w) (hb : Below w.heap.size w w') : OwnX base v l w' := h.kept none (W.grownBy_of_below hb) (fun _ e => by cases e)
theorem OwnX.alloc {base : Nat} {v : Value} {l : List Say} {w : World} (h : OwnX base v l w) (o : Obj) : OwnX base v l (w.alloc o) := h.belowAll ((Below.refl _ _).alloc (Nat.le_refl _) o)
theorem OwnX.ownBlock {base : Nat} {v : Value} {l : List Say} {w : World} (h : OwnX base v l w) : ∀ q, v.ownBlock = some q → base ≤ q := by
  obtain ⟨rows, _, h2, _⟩ := h.rows
  intro q hq
  exact (own_type h2 hq).choose_spec.2
theorem append_x_run (base : Nat) (v : Value) (l : List Say) (g : Nat) (r : Say × Value) (w : World) (hown : OwnX base v l w) (hc : ∀ j u, (xCells r)[j]? = some u → w.cell? ⟨g, j, none⟩ = some u) (hn : OwnI base r.2 r.1.nums w) (hl : (l.length : Int) ≤ 1000000) (hbase : base ≤ w.heap.size) :
    ∃ v' w', (Builtin.append_ #[35, 35] 35 #[v, .slice (some ⟨g, 0, none⟩) 1 1]).run Tryd.prog w = .ok v' w' ∧ OwnX base v' (l ++ [r.1]) w' ∧ w.grownBy w' v.ownBlock := by
  obtain ⟨i0, hi, hz0, hz1, hz2⟩ := info_parts infoX
  obtain ⟨rows, h1, h2, h3⟩ := hown.rows
  obtain ⟨v', w', hr, hw', h4, _⟩ := run_append_own w base 35 35 47 i0 (.agg #[.int .i64 0, .int .i64 0, .int .i64 0, .bool false, .slice none 0 0, .string ⟨#[]⟩]) 6 72 Tryd.underlying35 hi hz0 hz1 hz2 rfl (by decide) v l.length (flatX rows) h2 ⟨g, 0, none⟩ 1 1 (xCells r) rfl
    (fun j u hj => by
      have hadd : ((⟨g, 0, none⟩ : Addr).add j) = ⟨g, j, none⟩ := by unfold Addr.add; split <;> simp_all
      rw [hadd]; exact hc j u hj)
    (fun u hu => by
      simp only [xCells, List.mem_cons, List.not_mem_nil, or_false] at hu
      rcases hu with rfl | rfl | rfl | rfl | rfl | rfl
      · rfl
      · rfl
      · rfl
      · rfl
      · rcases hn.2 with ⟨h, _⟩ | ⟨_, _, _, h, _⟩ <;> rw [h] <;> rfl
      · rfl)
    (by unfold maxLen; omega) (by omega) hbase
  refine ⟨v', w', hr, ⟨⟨rows ++ [r], by rw [List.map_append, h1]; rfl, ?_, ?_⟩⟩, h4⟩
  · rw [List.length_append]
    show w'.ownsRow base _ 6 v' (l.length + 1) (flatX (rows ++ [r]))
    unfold flatX
    rw [List.flatMap_append, List.flatMap_singleton]
    exact hw'
  · have keep : ∀ (q : Value) (zs : List Int), OwnI base q zs w → OwnI base q zs w' := fun q zs hq => World.ownsRow.kept hq h4 (by
      cases hv : q.ownBlock with
      | none => exact .inl rfl
      | some k =>
        refine .inr (fun e => ?_)
        obtain ⟨cs, hcs, _⟩ := own_type hq hv
        obtain ⟨ds, hds, _⟩ := own_type h2 e.symm
        exact absurd (types_ne hcs hds) (by decide))
    intro q hq
    rcases List.mem_append.1 hq with hq | hq
    · exact keep _ _ (h3 q hq)
    · obtain rfl : q = r := by simpa using hq
      exact keep _ _ hn
theorem wpList_append_x {ops : Array Oper} {rest : List Oper} {o : Oper} {z : Act} {w : World} {Q : Exit → Act → World → Prop} (hgd : o.guard = none) (s x : Operand)
    (ho : o.op = .call { callee := .builtin .append, args := #[s, x], argTypes := #[35, 35] }) (hty : o.type = 35)
    (base : Nat) (v : Value) (l : List Say) (g : Nat) (r : Say × Value) (hs : z.eval s = v) (hxv : z.eval x = .slice (some ⟨g, 0, none⟩) 1 1) (hown : OwnX base v l w) (hc : ∀ j u, (xCells r)[j]? = some u → w.cell? ⟨g, j, none⟩ = some u) (hn : OwnI base r.2 r.1.nums w) (hl : (l.length : Int) ≤ 1000000) (hbase : base ≤ w.heap.size)
    (hK : ∀ v' w', OwnX base v' (l ++ [r.1]) w' → w.grownBy w' v.ownBlock → wpList Tryd.prog ops Q rest (z.put o.dst v') w') : wpList Tryd.prog ops Q (o :: rest) z w :=
  wpList_plain hgd fun _ hK' => by
    obtain ⟨v', w', hr, h1, h2⟩ := append_x_run base v l g r w hown hc hn hl hbase
    unfold Oper.wp execOp
    simp only [ho, hty, resolve, invoke, builtin, Sem.run_bind, Sem.run_pure, Result.andThen_ok, List.map_toArray, List.map_cons, List.map_nil, hs, hxv, hr]
    exact hK' _ _ (hK v' w' h1 h2)
theorem x_one (w : World) (s : Say) (nv : Value) (t : TypeId) (j : Nat) (u : Value) (h : (xCells (s, nv))[j]? = some u) : (w.alloc (.cells (xArr s nv) t)).cell? ⟨w.heap.size, j, none⟩ = some u := by
  rw [World.cell?_alloc_new]
  simp only [xArr, xCells] at h ⊢
  simpa using h
/-- An action in a row. -/
structure XAt (w : World) (g o : Nat) (s : Say) (nv : Value) : Prop where
  c0 : w.cell? ⟨g, o, none⟩ = some (.int .i64 (s.kind : Int))
  c1 : w.cell? ⟨g, o + 1, none⟩ = some (.int .i64 (s.rune : Int))
  c2 : w.cell? ⟨g, o + 2, none⟩ = some (.int .i64 (s.byte : Int))
  c3 : w.cell? ⟨g, o + 3, none⟩ = some (.bool s.priv)
  c4 : w.cell? ⟨g, o + 4, none⟩ = some nv
  c5 : w.cell? ⟨g, o + 5, none⟩ = some (strV s.text)
theorem XAt.below {w w' : World} {g o B : Nat} {s : Say} {nv : Value} (h : XAt w g o s nv) (hb : Below B w w') (hg : g < B) : XAt w' g o s nv :=
  ⟨(hb.cell (p := ⟨g, o, none⟩) hg).trans h.c0, (hb.cell (p := ⟨g, o + 1, none⟩) hg).trans h.c1, (hb.cell (p := ⟨g, o + 2, none⟩) hg).trans h.c2, (hb.cell (p := ⟨g, o + 3, none⟩) hg).trans h.c3, (hb.cell (p := ⟨g, o + 4, none⟩) hg).trans h.c4, (hb.cell (p := ⟨g, o + 5, none⟩) hg).trans h.c5⟩
theorem flatX_get : ∀ (rows : List (Say × Value)) (i c : Nat) (r : Say × Value), rows[i]? = some r → c < 6 → (flatX rows)[i * 6 + c]? = (xCells r)[c]?
  | [], i, c, r, h, _ => by simp at h
  | x :: rows, 0, c, r, h, hc => by
    simp at h
    subst h
    unfold flatX
    rw [List.flatMap_cons, Nat.zero_mul, Nat.zero_add, List.getElem?_append_left (by simp [xCells]; omega)]
  | x :: rows, i + 1, c, r, h, hc => by
    have ih := flatX_get rows i c r (by simpa using h) hc
    unfold flatX at ih ⊢
    rw [List.flatMap_cons, List.getElem?_append_right (by simp [xCells]; omega)]
    rw [← ih]
    congr 1
    simp [xCells]
    omega
/-- the slice of what was said, where something was -/
theorem OwnX.shape {base : Nat} {v : Value} {l : List Say} {w : World} (h : OwnX base v l w) :
    (l = [] ∧ ∃ a c, v = .slice a 0 c ∧ (a = none → c = 0)) ∨ ∃ g cap, v = .slice (some ⟨g, 0, none⟩) l.length cap ∧ l ≠ [] ∧ base ≤ g ∧ g < w.heap.size ∧ l.length ≤ cap ∧ (cap : Int) ≤ 9223372036854775807 ∧ ∀ i s, l[i]? = some s → ∃ nv, XAt w g (i * 6) s nv ∧ OwnI base nv s.nums w := by
  obtain ⟨rows, h1, h2, h3⟩ := h.rows
  rcases h2.2 with ⟨rfl, h0⟩ | ⟨g, cap, cur, rfl, hbase, hg, hc, hm, hs, ht⟩
  · exact .inl ⟨List.length_eq_zero_iff.1 h0, none, 0, rfl, fun _ => rfl⟩
  · by_cases hl : l = []
    · subst hl
      exact .inl ⟨rfl, _, _, rfl, fun e => by cases e⟩
    · refine .inr ⟨g, cap, rfl, hl, hbase, (Array.getElem?_eq_some_iff.1 hg).1, hc, by unfold maxLen at hm; omega, fun i s hi => ?_⟩
      have hlr : rows.length = l.length := by rw [← h1, List.length_map]
      obtain ⟨r, hr, rfl⟩ : ∃ r, rows[i]? = some r ∧ r.1 = s := by
        rw [← h1, List.getElem?_map] at hi
        obtain ⟨r, hr, e⟩ := Option.map_eq_some_iff.1 hi
        exact ⟨r, hr, e⟩
      have hil : i < l.length := by have := (List.getElem?_eq_some_iff.1 hr).1; omega
      have hcell : ∀ c, c < 6 → w.cell? ⟨g, i * 6 + c, none⟩ = (xCells r)[c]? := fun c hc6 => by
        rw [World.ownsRow.cellAt h2 (i * 6 + c) (by omega), flatX_get rows i c r hr hc6]
      exact ⟨r.2, ⟨hcell 0 (by decide), hcell 1 (by decide), hcell 2 (by decide), hcell 3 (by decide), hcell 4 (by decide), hcell 5 (by decide)⟩, h3 r (List.mem_of_getElem? hr)⟩
end Go.Proofs.YtfapmgecebcfaaaDoor.Q
