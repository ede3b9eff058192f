/- Rows in memory: a block of slices of cells, each with its mark. -/
import Derived.Test.YtkggmcnocpgnbaaDoorVDo
namespace Go.Proofs.YtkggmcnocpgnbaaDoor.K
open Go.RowKit

/-- a row, as it lies in a block -/
structure Rv where
  a : Option Addr
  n : Nat
  c : Nat
  b : Bool
def Rv.val (u : Rv) : Value := .agg #[.slice u.a u.n u.c, .bool u.b]
theorem Rv.val_inj {u v : Rv} (h : u.val = v.val) : u = v := by
  obtain ⟨a, n, c, b⟩ := u
  obtain ⟨a', n', c', b'⟩ := v
  have e1 : #[Value.slice a n c, Value.bool b] = #[Value.slice a' n' c', Value.bool b'] := by injection h
  simp only [Array.mk.injEq, List.cons.injEq, Value.slice.injEq, Value.bool.injEq, and_true] at e1
  obtain ⟨⟨rfl, rfl, rfl⟩, rfl⟩ := e1
  rfl
def Rv.nil : Rv := ⟨none, 0, 0, false⟩
def vCells (u : Rv) : List Value := [.slice u.a u.n u.c, .bool u.b]
def vArr (u : Rv) : Array Value := #[.slice u.a u.n u.c, .bool u.b]
def flatV (l : List Rv) : List Value := l.flatMap vCells
theorem flatV_len (l : List Rv) : (flatV l).length = l.length * 2 := by
  induction l with
  | nil => rfl
  | cons c l ih => simp [flatV, List.flatMap_cons, vCells] at ih ⊢; omega
theorem flatV_get : ∀ (l : List Rv) (i j : Nat) (c : Rv), l[i]? = some c → j < 2 → (flatV l)[i * 2 + j]? = (vCells c)[j]?
  | [], _, _, _, h, _ => by cases h
  | d :: l, 0, j, c, h, hj => by
    obtain rfl : d = c := by simpa using h
    show (vCells d ++ flatV l)[0 * 2 + j]? = _
    rw [List.getElem?_append_left (by simp [vCells]; omega)]
    simp
  | d :: l, i + 1, j, c, h, hj => by
    show (vCells d ++ flatV l)[(i + 1) * 2 + j]? = _
    rw [List.getElem?_append_right (by simp [vCells]; omega)]
    have e : (i + 1) * 2 + j - (vCells d).length = i * 2 + j := by simp [vCells]; omega
    rw [e]
    exact flatV_get l i j c (by simpa using h) hj
/-- rows of our own -/
def OwnV (T : TypeId) (base : Nat) (v : Value) (l : List Rv) (w : World) : Prop := w.ownsRow base T 2 v l.length (flatV l)
theorem OwnV.nil (T : TypeId) (base : Nat) (w : World) : OwnV T base (.slice none 0 0) [] w := World.ownsRow_nil _ _ _ _
theorem OwnV.belowAll {T : TypeId} {base : Nat} {v : Value} {l : List Rv} {w w' : World} (h : OwnV T base v l w) (hb : Below w.heap.size w w') : OwnV T base v l w' := U.belowAll h hb
theorem OwnV.alloc {T : TypeId} {base : Nat} {v : Value} {l : List Rv} {w : World} (h : OwnV T base v l w) (o : Obj) : OwnV T base v l (w.alloc o) := h.belowAll ((Below.refl _ _).alloc (Nat.le_refl _) o)
theorem OwnV.weaken {T : TypeId} {base base' : Nat} {v : Value} {l : List Rv} {w : World} (h : OwnV T base v l w) (hb : base' ≤ base) : OwnV T base' v l w := U.weaken h hb
theorem OwnV.ownBlock {T : TypeId} {base : Nat} {v : Value} {l : List Rv} {w : World} (h : OwnV T base v l w) : ∀ q, v.ownBlock = some q → base ≤ q ∧ q < w.heap.size := fun q hq => ⟨(U.own_type h hq).choose_spec.2.1, (U.own_type h hq).choose_spec.2.2⟩
theorem OwnV.lit (T : TypeId) (w : World) (base : Nat) (hb : base ≤ w.heap.size) : OwnV T base (.slice (some ⟨w.heap.size, 0, none⟩) 0 0) [] (w.alloc (.cells #[] T)) := World.ownsRow_lit w #[] 0 hb (by decide) rfl
theorem OwnV.kept {T : TypeId} {base : Nat} {v : Value} {l : List Rv} {w w' : World} {row : Option Nat} (h : OwnV T base v l w) (hg : w.grownBy w' row) (hne : ∀ q, v.ownBlock = some q → row ≠ some q) : OwnV T base v l w' := U.kept_apart h hg hne
/-- a slice of rows -/
structure RvsIn (a : Option Addr) (n c : Nat) (us : List Rv) (w : World) : Prop where
  len : n = us.length
  fit : n ≤ c
  top : (c : Int) ≤ 9223372036854775807
  at_ : us = [] ∨ ∃ b off, a = some ⟨b, off, none⟩ ∧ b < w.heap.size ∧ ∀ i u, us[i]? = some u → w.cell? ⟨b, off + i * 2, none⟩ = some (.slice u.a u.n u.c) ∧ w.cell? ⟨b, off + i * 2 + 1, none⟩ = some (.bool u.b)
theorem RvsIn.blocks {a : Option Addr} {n c : Nat} {us : List Rv} {w w' : World} (h : RvsIn a n c us w) (hs : w.heap.size ≤ w'.heap.size) (hk : ∀ b off, a = some ⟨b, off, none⟩ → b < w.heap.size → w'.heap[b]? = w.heap[b]?) : RvsIn a n c us w' := by
  refine ⟨h.len, h.fit, h.top, h.at_.imp id ?_⟩
  rintro ⟨b, off, ha, hl, hi⟩
  have hk' := hk b off ha hl
  exact ⟨b, off, ha, Nat.lt_of_lt_of_le hl hs, fun i u hu => ⟨(World.cell?_of_block (a := ⟨b, off + i * 2, none⟩) hk').trans (hi i u hu).1, (World.cell?_of_block (a := ⟨b, off + i * 2 + 1, none⟩) hk').trans (hi i u hu).2⟩⟩
theorem RvsIn.belowAll {a : Option Addr} {n c : Nat} {us : List Rv} {w w' : World} (h : RvsIn a n c us w) (hb : Below w.heap.size w w') : RvsIn a n c us w' := h.blocks hb.size (fun b _ _ hl => hb.block b hl)
theorem OwnV.shape {T : TypeId} {base : Nat} {v : Value} {l : List Rv} {w : World} (h : OwnV T base v l w) : ∃ a c, v = .slice a l.length c ∧ RvsIn a l.length c l w ∧ (∀ b off, a = some ⟨b, off, none⟩ → base ≤ b ∧ b < w.heap.size ∧ off = 0) ∧ (a = none → c = 0) := by
  rcases h.2 with ⟨rfl, h0⟩ | ⟨g, cap, cur, rfl, hbase, hg, hc, hm, hs, ht⟩
  · exact ⟨none, 0, by rw [h0], ⟨rfl, by omega, by decide, .inl (List.length_eq_zero_iff.1 h0)⟩, (fun _ _ e => by cases e), fun _ => rfl⟩
  · have hlt := (Array.getElem?_eq_some_iff.1 hg).1
    refine ⟨some ⟨g, 0, none⟩, cap, rfl, ⟨rfl, hc, by unfold maxLen at hm; omega, .inr ⟨g, 0, rfl, hlt, fun i c hi => ?_⟩⟩, (fun b off e => by cases e; exact ⟨hbase, hlt, rfl⟩), (fun e => by cases e)⟩
    have hil : i < l.length := (List.getElem?_eq_some_iff.1 hi).1
    have hcell : ∀ j, j < 2 → w.cell? ⟨g, 0 + i * 2 + j, none⟩ = (vCells c)[j]? := fun j hj => by
      rw [Nat.zero_add, World.ownsRow.cellAt h (i * 2 + j) (by omega), flatV_get l i j c hi hj]
    exact ⟨hcell 0 (by decide), hcell 1 (by decide)⟩
theorem RvsIn.news {b off n c : Nat} {l : List Rv} {w : World} (h : RvsIn (some ⟨b, off, none⟩) n c l w) : ∀ j u, (flatV l)[j]? = some u → w.cell? ((⟨b, off, none⟩ : Addr).add j) = some u := by
  intro j u hj
  have hadd : ((⟨b, off, none⟩ : Addr).add j) = ⟨b, off + j, none⟩ := by unfold Addr.add; split <;> simp_all
  rw [hadd]
  have hlt : j < l.length * 2 := by have := (List.getElem?_eq_some_iff.1 hj).1; rw [flatV_len] at this; exact this
  rcases h.at_ with e | ⟨b', off', ha, hb, hi⟩
  · rw [e] at hlt; simp at hlt
  · cases ha
    have hjl : j / 2 < l.length := by omega
    have h1 := hi (j / 2) l[j / 2] (List.getElem?_eq_getElem hjl)
    have h2 := flatV_get l (j / 2) (j % 2) l[j / 2] (List.getElem?_eq_getElem hjl) (by omega)
    rw [show j / 2 * 2 + j % 2 = j by omega, hj] at h2
    rcases Nat.mod_two_eq_zero_or_one j with hm | hm
    · rw [hm] at h2
      rw [show u = _ from (Option.some.inj h2), show off + j = off + j / 2 * 2 by omega]
      exact h1.1
    · rw [hm] at h2
      rw [show u = _ from (Option.some.inj h2), show off + j = off + j / 2 * 2 + 1 by omega]
      exact h1.2
theorem rvs_one (w : World) (u : Rv) (T : TypeId) : RvsIn (some ⟨w.heap.size, 0, none⟩) 1 1 [u] (w.alloc (.cells (vArr u) T)) :=
  ⟨rfl, Nat.le_refl _, by decide, .inr ⟨w.heap.size, 0, rfl, by simp, fun i d hi => by
    have h0 : i = 0 := by have := (List.getElem?_eq_some_iff.1 hi).1; simp at this; omega
    subst h0
    obtain rfl : u = d := by simpa using hi
    exact ⟨by rw [World.cell?_alloc_new]; rfl, by rw [World.cell?_alloc_new]; rfl⟩⟩⟩
/-- what the rows' cells are -/
def RowsV (rk : IntKind) (us : List Rv) (rs : List Ro) (w : World) : Prop := us.length = rs.length ∧ ∀ (i : Nat) (u : Rv) (r : Ro), us[i]? = some u → rs[i]? = some r → RowV rk u.val r w
theorem RowsV.nil (rk : IntKind) (w : World) : RowsV rk [] [] w := ⟨rfl, fun i u r h => by cases h⟩
theorem RowsV.belowAll {rk : IntKind} {us : List Rv} {rs : List Ro} {w w' : World} (h : RowsV rk us rs w) (hb : Below w.heap.size w w') : RowsV rk us rs w' := ⟨h.1, fun i u r h1 h2 => (h.2 i u r h1 h2).belowAll hb⟩
theorem RowsV.snoc {rk : IntKind} {us : List Rv} {rs : List Ro} {u : Rv} {r : Ro} {w : World} (h : RowsV rk us rs w) (hu : RowV rk u.val r w) : RowsV rk (us ++ [u]) (rs ++ [r]) w := by
  refine ⟨by rw [List.length_append, List.length_append, h.1]; rfl, fun i v q hv hq => ?_⟩
  rcases Nat.lt_or_ge i us.length with hi | hi
  · rw [List.getElem?_append_left hi] at hv
    rw [List.getElem?_append_left (by rw [← h.1]; exact hi)] at hq
    exact h.2 i v q hv hq
  · rw [List.getElem?_append_right hi] at hv
    rw [List.getElem?_append_right (by rw [← h.1]; exact hi), ← h.1] at hq
    match i - us.length, hv, hq with
    | 0, hv, hq =>
      obtain rfl : u = v := by simpa using hv
      obtain rfl : r = q := by simpa using hq
      exact hu
theorem RowsV.get {rk : IntKind} {us : List Rv} {rs : List Ro} {w : World} (h : RowsV rk us rs w) {i : Nat} {r : Ro} (hr : rs[i]? = some r) : ∃ u, us[i]? = some u ∧ RowV rk u.val r w := by
  have hlt : i < us.length := by rw [h.1]; exact (List.getElem?_eq_some_iff.1 hr).1
  exact ⟨us[i], List.getElem?_eq_getElem hlt, h.2 i _ r (List.getElem?_eq_getElem hlt) hr⟩
theorem RowsV.take {rk : IntKind} {us : List Rv} {rs : List Ro} {w : World} (h : RowsV rk us rs w) (k : Nat) : RowsV rk (us.take k) (rs.take k) w := by
  refine ⟨by rw [List.length_take, List.length_take, h.1], fun i u r hu hr => ?_⟩
  rw [List.getElem?_take] at hu hr
  split at hu
  · rename_i hi
    rw [if_pos hi] at hr
    exact h.2 i u r hu hr
  · cases hu
theorem RowsV.drop {rk : IntKind} {us : List Rv} {rs : List Ro} {w : World} (h : RowsV rk us rs w) (k : Nat) : RowsV rk (us.drop k) (rs.drop k) w :=
  ⟨by rw [List.length_drop, List.length_drop, h.1], fun i u r hu hr => by rw [List.getElem?_drop] at hu hr; exact h.2 _ u r hu hr⟩
theorem RowsV.append {rk : IntKind} {us vs : List Rv} {rs qs : List Ro} {w : World} (h : RowsV rk us rs w) (h' : RowsV rk vs qs w) : RowsV rk (us ++ vs) (rs ++ qs) w := by
  refine ⟨by rw [List.length_append, List.length_append, h.1, h'.1], fun i u r hu hr => ?_⟩
  rcases Nat.lt_or_ge i us.length with hi | hi
  · rw [List.getElem?_append_left hi] at hu
    rw [List.getElem?_append_left (by rw [← h.1]; exact hi)] at hr
    exact h.2 i u r hu hr
  · rw [List.getElem?_append_right hi] at hu
    rw [List.getElem?_append_right (by rw [← h.1]; exact hi), ← h.1] at hr
    exact h'.2 _ u r hu hr
theorem RowsV.rep {rk : IntKind} {u : Rv} {r : Ro} {w : World} (h : RowV rk u.val r w) (n : Nat) : RowsV rk (List.replicate n u) (List.replicate n r) w := by
  refine ⟨by rw [List.length_replicate, List.length_replicate], fun i v q hv hq => ?_⟩
  rw [List.getElem?_replicate] at hv hq
  split at hv
  · rename_i hi
    rw [if_pos hi] at hq
    rw [← Option.some.inj hv, ← Option.some.inj hq]
    exact h
  · cases hv
theorem RowsV.set {rk : IntKind} {us : List Rv} {rs : List Ro} {w : World} (h : RowsV rk us rs w) {u : Rv} {r : Ro} (hu : RowV rk u.val r w) (k : Nat) : RowsV rk (us.set k u) (rs.set k r) w := by
  refine ⟨by rw [List.length_set, List.length_set, h.1], fun i v q hv hq => ?_⟩
  rw [List.getElem?_set] at hv hq
  by_cases hk : k = i
  · rw [if_pos hk] at hv hq
    split at hv
    · rename_i hl
      rw [if_pos (by rw [← h.1]; exact hl)] at hq
      rw [← Option.some.inj hv, ← Option.some.inj hq]
      exact hu
    · cases hv
  · rw [if_neg hk] at hv hq
    exact h.2 i v q hv hq
end Go.Proofs.YtkggmcnocpgnbaaDoor.K
