/- Cells in memory: of the program's rows (runes of 32 bits) and of the document's. -/
import Derived.Test.YtkggmcnocpgnbaaDoorMerged0
namespace Go.Proofs.YtkggmcnocpgnbaaDoor.K
open Go.RowKit

def cCells (rk : IntKind) (c : Cel) : List Value := [.int rk c.rune, .int .i64 c.style, .int .i64 c.part]
def cArr (rk : IntKind) (c : Cel) : Array Value := #[.int rk c.rune, .int .i64 c.style, .int .i64 c.part]
def flatC (rk : IntKind) (l : List Cel) : List Value := l.flatMap (cCells rk)
theorem flatC_len (rk : IntKind) (l : List Cel) : (flatC rk l).length = l.length * 3 := by
  induction l with
  | nil => rfl
  | cons c l ih => simp [flatC, List.flatMap_cons, cCells] at ih ⊢; omega
theorem flatC_append (rk : IntKind) (a b : List Cel) : flatC rk (a ++ b) = flatC rk a ++ flatC rk b := List.flatMap_append ..
theorem flatC_get (rk : IntKind) : ∀ (l : List Cel) (i j : Nat) (c : Cel), l[i]? = some c → j < 3 → (flatC rk l)[i * 3 + j]? = (cCells rk c)[j]?
  | [], _, _, _, h, _ => by cases h
  | d :: l, 0, j, c, h, hj => by
    obtain rfl : d = c := by simpa using h
    show (cCells rk d ++ flatC rk l)[0 * 3 + j]? = _
    rw [List.getElem?_append_left (by simp [cCells]; omega)]
    simp
  | d :: l, i + 1, j, c, h, hj => by
    show (cCells rk d ++ flatC rk l)[(i + 1) * 3 + j]? = _
    rw [List.getElem?_append_right (by simp [cCells]; omega)]
    have e : (i + 1) * 3 + j - (cCells rk d).length = i * 3 + j := by simp [cCells]; omega
    rw [e]
    exact flatC_get rk l i j c (by simpa using h) hj
theorem flatC_one (rk : IntKind) (l : List Cel) : ∀ u ∈ flatC rk l, u.oneCell' = true := by
  intro u hu
  obtain ⟨c, _, hu⟩ := List.mem_flatMap.1 hu
  simp only [cCells, List.mem_cons, List.not_mem_nil, or_false] at hu
  rcases hu with rfl | rfl | rfl <;> rfl
theorem flatC_take (rk : IntKind) : ∀ (l : List Cel) (n : Nat), flatC rk (l.take n) = (flatC rk l).take (n * 3)
  | [], n => by simp [flatC]
  | c :: l, 0 => by simp [flatC]
  | c :: l, n + 1 => by
    show cCells rk c ++ flatC rk (l.take n) = (cCells rk c ++ flatC rk l).take ((n + 1) * 3)
    have h3 : (cCells rk c).length = 3 := rfl
    rw [flatC_take rk l n, List.take_append, h3, show (n + 1) * 3 - 3 = n * 3 by omega, List.take_of_length_le (l := cCells rk c) (by rw [h3]; omega)]
/-- one cell in memory -/
structure CelAt (rk : IntKind) (w : World) (b o : Nat) (c : Cel) : Prop where
  c0 : w.cell? ⟨b, o, none⟩ = some (.int rk c.rune)
  c1 : w.cell? ⟨b, o + 1, none⟩ = some (.int .i64 c.style)
  c2 : w.cell? ⟨b, o + 2, none⟩ = some (.int .i64 c.part)
theorem CelAt.block {rk : IntKind} {w w' : World} {b o : Nat} {c : Cel} (h : CelAt rk w b o c) (hb : w'.heap[b]? = w.heap[b]?) : CelAt rk w' b o c :=
  ⟨(World.cell?_of_block (a := ⟨b, o, none⟩) hb).trans h.c0, (World.cell?_of_block (a := ⟨b, o + 1, none⟩) hb).trans h.c1, (World.cell?_of_block (a := ⟨b, o + 2, none⟩) hb).trans h.c2⟩
theorem CelAt.get {rk : IntKind} {w : World} {b o : Nat} {c : Cel} (h : CelAt rk w b o c) (j : Nat) (u : Value) (hj : (cCells rk c)[j]? = some u) : w.cell? ⟨b, o + j, none⟩ = some u := by
  match j, hj with
  | 0, hj => rw [show u = .int rk c.rune by simpa [cCells] using hj.symm]; exact h.c0
  | 1, hj => rw [show u = .int .i64 c.style by simpa [cCells] using hj.symm]; exact h.c1
  | 2, hj => rw [show u = .int .i64 c.part by simpa [cCells] using hj.symm]; exact h.c2
  | n + 3, hj => simp [cCells] at hj
/-- a slice of cells -/
structure CelsIn (rk : IntKind) (a : Option Addr) (n : Nat) (l : List Cel) (w : World) : Prop where
  len : n = l.length
  at_ : l = [] ∨ ∃ b off, a = some ⟨b, off, none⟩ ∧ b < w.heap.size ∧ ∀ i c, l[i]? = some c → CelAt rk w b (off + i * 3) c
theorem CelsIn.blocks {rk : IntKind} {a : Option Addr} {n : Nat} {l : List Cel} {w w' : World} (h : CelsIn rk a n l w) (hs : w.heap.size ≤ w'.heap.size) (hk : ∀ b off, a = some ⟨b, off, none⟩ → b < w.heap.size → w'.heap[b]? = w.heap[b]?) : CelsIn rk a n l w' := by
  refine ⟨h.len, h.at_.imp id ?_⟩
  rintro ⟨b, off, ha, hl, hi⟩
  exact ⟨b, off, ha, Nat.lt_of_lt_of_le hl hs, fun i c hc => (hi i c hc).block (hk b off ha hl)⟩
theorem CelsIn.belowAll {rk : IntKind} {a : Option Addr} {n : Nat} {l : List Cel} {w w' : World} (h : CelsIn rk a n l w) (hb : Below w.heap.size w w') : CelsIn rk a n l w' := h.blocks hb.size (fun b _ _ hl => hb.block b hl)
theorem CelsIn.take {rk : IntKind} {a : Option Addr} {n : Nat} {l : List Cel} {w : World} (h : CelsIn rk a n l w) {k : Nat} (hk : k ≤ n) : CelsIn rk a k (l.take k) w := by
  have hl := h.len
  refine ⟨by rw [List.length_take]; omega, ?_⟩
  rcases h.at_ with e | ⟨b, off, ha, hb, hi⟩
  · left; rw [e]; simp
  · exact .inr ⟨b, off, ha, hb, fun i c hc => hi i c (by rw [List.getElem?_take] at hc; split at hc; exact hc; cases hc)⟩
theorem CelsIn.drop {rk : IntKind} {b off n : Nat} {l : List Cel} {w : World} (h : CelsIn rk (some ⟨b, off, none⟩) n l w) {k : Nat} (hk : k ≤ n) : CelsIn rk (some ⟨b, off + k * 3, none⟩) (n - k) (l.drop k) w := by
  have hl := h.len
  refine ⟨by rw [List.length_drop]; omega, ?_⟩
  rcases h.at_ with e | ⟨b', off', ha, hb, hi⟩
  · left; rw [e]; simp
  · cases ha
    refine .inr ⟨b, off + k * 3, rfl, hb, fun i c hc => ?_⟩
    rw [List.getElem?_drop] at hc
    have := hi (k + i) c hc
    rw [show off + k * 3 + i * 3 = off + (k + i) * 3 by omega]
    exact this
/-- nothing is left, wherever it starts -/
theorem CelsIn.empty (rk : IntKind) (a : Option Addr) (w : World) : CelsIn rk a 0 [] w := ⟨rfl, .inl rfl⟩
theorem CelsIn.news {rk : IntKind} {b off n : Nat} {l : List Cel} {w : World} (h : CelsIn rk (some ⟨b, off, none⟩) n l w) : ∀ j u, (flatC rk l)[j]? = some u → w.cell? ((⟨b, off, none⟩ : Addr).add j) = some u := by
  intro j u hj
  have hadd : ((⟨b, off, none⟩ : Addr).add j) = ⟨b, off + j, none⟩ := by unfold Addr.add; split <;> simp_all
  rw [hadd]
  have hlt : j < l.length * 3 := by have := (List.getElem?_eq_some_iff.1 hj).1; rw [flatC_len] at this; exact this
  rcases h.at_ with e | ⟨b', off', ha, hb, hi⟩
  · rw [e] at hlt; simp at hlt
  · cases ha
    have hjl : j / 3 < l.length := by omega
    have h1 := hi (j / 3) l[j / 3] (List.getElem?_eq_getElem hjl)
    have h2 := flatC_get rk l (j / 3) (j % 3) l[j / 3] (List.getElem?_eq_getElem hjl) (by omega)
    rw [show j / 3 * 3 + j % 3 = j by omega, hj] at h2
    have h3 := h1.get (j % 3) u h2.symm
    rw [show off + j = off + j / 3 * 3 + j % 3 by omega]
    exact h3
/-- cells of our own -/
def OwnC (rk : IntKind) (T : TypeId) (base : Nat) (v : Value) (l : List Cel) (w : World) : Prop := w.ownsRow base T 3 v l.length (flatC rk l)
theorem OwnC.nil (rk : IntKind) (T : TypeId) (base : Nat) (w : World) : OwnC rk T base (.slice none 0 0) [] w := World.ownsRow_nil _ _ _ _
theorem OwnC.belowAll {rk : IntKind} {T : TypeId} {base : Nat} {v : Value} {l : List Cel} {w w' : World} (h : OwnC rk T base v l w) (hb : Below w.heap.size w w') : OwnC rk T base v l w' := U.belowAll h hb
theorem OwnC.alloc {rk : IntKind} {T : TypeId} {base : Nat} {v : Value} {l : List Cel} {w : World} (h : OwnC rk T base v l w) (o : Obj) : OwnC rk T base v l (w.alloc o) := h.belowAll ((Below.refl _ _).alloc (Nat.le_refl _) o)
theorem OwnC.weaken {rk : IntKind} {T : TypeId} {base base' : Nat} {v : Value} {l : List Cel} {w : World} (h : OwnC rk T base v l w) (hb : base' ≤ base) : OwnC rk T base' v l w := U.weaken h hb
theorem OwnC.ownBlock {rk : IntKind} {T : TypeId} {base : Nat} {v : Value} {l : List Cel} {w : World} (h : OwnC rk T base v l w) : ∀ q, v.ownBlock = some q → base ≤ q ∧ q < w.heap.size := fun q hq => ⟨(U.own_type h hq).choose_spec.2.1, (U.own_type h hq).choose_spec.2.2⟩
theorem OwnC.shape {rk : IntKind} {T : TypeId} {base : Nat} {v : Value} {l : List Cel} {w : World} (h : OwnC rk T base v l w) : ∃ a c, v = .slice a l.length c ∧ CelsIn rk a l.length l w ∧ (∀ b off, a = some ⟨b, off, none⟩ → base ≤ b ∧ b < w.heap.size ∧ off = 0) ∧ (a = none → c = 0) ∧ l.length ≤ c ∧ (c : Int) ≤ 9223372036854775807 := by
  rcases h.2 with ⟨rfl, h0⟩ | ⟨g, cap, cur, rfl, hbase, hg, hc, hm, hs, ht⟩
  · refine ⟨none, 0, by rw [h0], ⟨rfl, .inl (List.length_eq_zero_iff.1 h0)⟩, (fun _ _ e => by cases e), fun _ => rfl, by omega, by omega⟩
  · have hlt := (Array.getElem?_eq_some_iff.1 hg).1
    refine ⟨some ⟨g, 0, none⟩, cap, rfl, ⟨rfl, .inr ⟨g, 0, rfl, hlt, fun i c hi => ?_⟩⟩, (fun b off e => by cases e; exact ⟨hbase, hlt, rfl⟩), (fun e => by cases e), hc, by unfold maxLen at hm; omega⟩
    have hil : i < l.length := (List.getElem?_eq_some_iff.1 hi).1
    have hcell : ∀ j, j < 3 → w.cell? ⟨g, 0 + i * 3 + j, none⟩ = (cCells rk c)[j]? := fun j hj => by
      rw [Nat.zero_add, World.ownsRow.cellAt h (i * 3 + j) (by omega), flatC_get rk l i j c hi hj]
    exact ⟨hcell 0 (by decide), hcell 1 (by decide), hcell 2 (by decide)⟩
theorem OwnC.kept {rk : IntKind} {T : TypeId} {base : Nat} {v : Value} {l : List Cel} {w w' : World} {row : Option Nat} (h : OwnC rk T base v l w) (hg : w.grownBy w' row) (hne : ∀ q, v.ownBlock = some q → row ≠ some q) : OwnC rk T base v l w' := U.kept_apart h hg hne
end Go.Proofs.YtkggmcnocpgnbaaDoor.K
