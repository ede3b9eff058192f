/- The contract of the statements' Rows (layer 12): rows, cut. -/
import Derived.Test.YtjlljkdlgkociaaMerged13
import Derived.Test.YtjlljkdlgkociaaMerged9
import Derived.Test.YtjlljkdlgkociaaMerged22
import Derived.Test.YtjlljkdlgkociaaMerged14
namespace Go.Proofs.Ytjlljkdlgkociaa.K
open Go.RowKit

theorem RowV.apart9 {rk : IntKind} {u : Rv} {r : Ro} {w w' : World} {row : Option Nat} (h : RowV rk u.val r w) (hg : w.grownBy w' row) (hne : u.n ≠ 0 → ∀ b off, u.a = some ⟨b, off, none⟩ → row ≠ some b) : RowV rk u.val r w' := by
  by_cases hn : u.n = 0
  · obtain ⟨a, c, e, hi, h3⟩ := h
    have e2 := Rv.val_inj (v := ⟨a, r.l.length, c, r.wrapped⟩) e
    subst e2
    exact ⟨a, c, rfl, ⟨rfl, .inl (List.eq_nil_of_length_eq_zero hn)⟩, h3⟩
  · exact h.moved hg.size (fun b off e hl => hg.block b hl (fun e' => hne hn b off e e'.symm))
def cutR (r : Ro) : Ro := ⟨r.l.take 40, r.wrapped⟩
theorem cutR_len40 (r : Ro) : (cutR r).l.length ≤ 40 := by show (r.l.take 40).length ≤ 40; rw [List.length_take]; omega
/-- rows of our own, one behind the other; their cells lie apart, in our own -/
structure GatR (base : Nat) (v : Value) (rs : List Ro) (w : World) : Prop where
  ex : ∃ us, OwnV 50 base v us w ∧ RowsV .i32 us rs w ∧ ∀ u ∈ us, ∀ b o, u.a = some ⟨b, o, none⟩ → (∀ q, v.ownBlock = some q → b ≠ q) ∧ base ≤ b ∧ b < w.heap.size
theorem GatR.nil (base : Nat) (w : World) : GatR base (.slice none 0 0) [] w := ⟨[], OwnV.nil _ _ _, RowsV.nil _ _, fun u hu => by cases hu⟩
theorem GatR.below {base : Nat} {v : Value} {rs : List Ro} {w w' : World} (h : GatR base v rs w) (hb : Below w.heap.size w w') : GatR base v rs w' := by
  obtain ⟨us, h1, h2, h3⟩ := h
  exact ⟨us, h1.belowAll hb, h2.belowAll hb, fun u hu b o e => ⟨(h3 u hu b o e).1, (h3 u hu b o e).2.1, Nat.lt_of_lt_of_le (h3 u hu b o e).2.2 hb.size⟩⟩
theorem GatR.own {base : Nat} {v : Value} {rs : List Ro} {w : World} (h : GatR base v rs w) : ∀ q, v.ownBlock = some q → base ≤ q ∧ q < w.heap.size := fun q hq => by
  obtain ⟨us, h1, -⟩ := h.ex
  exact h1.ownBlock q hq
theorem GatR.shape {base : Nat} {v : Value} {rs : List Ro} {w : World} (h : GatR base v rs w) : ∃ a c, v = .slice a rs.length c := by
  obtain ⟨us, h1, h2, -⟩ := h.ex
  obtain ⟨a, c, e, -⟩ := h1.shape
  rw [h2.1] at e
  exact ⟨a, c, e⟩
/-- as others take it: apart from what lies below the base, and from what is newer -/
theorem GatR.rowsL {base n c : Nat} {a : Option Addr} {rs : List Ro} {w : World} {M : List Nat} (h : GatR base (.slice a n c) rs w) (hM : ∀ p ∈ M, p < base ∨ w.heap.size ≤ p) : RowsL .i32 M a n c rs w := by
  obtain ⟨us, h1, h2, h3⟩ := h
  obtain ⟨a', c', e, h4, h5, h6⟩ := h1.shape
  injection e with e1 e2 e3
  subst e1 e2 e3
  refine ⟨⟨us, h4, h2, fun u hu _ b o e hm => ?_⟩, h6, fun _ b o e hm => ?_⟩
  · have := (h3 u hu b o e).2
    rcases hM b hm with h | h <;> omega
  · have := h5 b o e
    rcases hM b hm with h | h <;> omega
theorem wp_append_row {bytes : Nat} (hI : RvT 24 50 bytes) {o : Oper} {z : Act} {w : World} {K : Act → World → Prop} {Q : Exit → Act → World → Prop} (s x : Operand)
    (ho : o.op = .call { callee := .builtin .append, args := #[s, x], argTypes := #[24, 24] }) (hty : o.type = 24)
    (base : Nat) (v : Value) (rs : List Ro) (p : Nat) (a : Option Addr) (n c : Nat) (b : Bool) (r : Ro) (hs : z.eval s = v) (hxv : z.eval x = .slice (some ⟨p, 0, none⟩) 1 1) (hG : GatR base v rs w)
    (hp : w.heap[p]? = some (.cells #[.slice a n c, .bool b] 50 (0, 0))) (hr : RowV .i32 (.agg #[.slice a n c, .bool b]) r w) (hlt : ∀ b' o', a = some ⟨b', o', none⟩ → (∀ q, v.ownBlock = some q → b' ≠ q) ∧ base ≤ b' ∧ b' < w.heap.size)
    (h1 : rs.length ≤ 1000) (hbase : base ≤ w.heap.size)
    (hK : ∀ v' w', GatR base v' (rs ++ [r]) w' → w.grownBy w' v.ownBlock → K (z.put o.dst v') w') : o.wp Try.prog z w K Q := by
  obtain ⟨us, g2, g3, g4⟩ := hG.ex
  have hin : RvsIn (some ⟨p, 0, none⟩) 1 1 [⟨a, n, c, b⟩] w := ⟨rfl, Nat.le_refl _, by decide, .inr ⟨p, 0, rfl, (Array.getElem?_eq_some_iff.1 hp).1, fun i u hu => by
    match i, hu with
    | 0, hu => cases hu; exact ⟨by simp [World.cell?, hp], by simp [World.cell?, hp]⟩
    | i + 1, hu => simp at hu⟩⟩
  obtain ⟨v', w', hrun, k1, k2⟩ := run_append_rows hI base v us (some ⟨p, 0, none⟩) 1 1 [⟨a, n, c, b⟩] w g2 hin (fun e => by cases e) (by have := g3.1; omega) (by simp) hbase
  have hs2 := k2.grown.size
  have hapart : ∀ d : Rv, (∀ q, v.ownBlock = some q → ∀ b' o', d.a = some ⟨b', o', none⟩ → b' ≠ q) → ∀ (q0 : Ro), RowV .i32 d.val q0 w → RowV .i32 d.val q0 w' := fun d hd q0 hq0 => hq0.apart9 k2.grown (fun hn b off e e' => hd b e' b off e rfl)
  have hrv : RowsV .i32 us rs w' := ⟨g3.1, fun i d q hd hq => hapart d (fun q' hq' b' o' e => (g4 d (List.mem_of_getElem? hd) b' o' e).1 q' hq') q (g3.2 i d q hd hq)⟩
  have hr' : RowV .i32 (Rv.val ⟨a, n, c, b⟩) r w' := hapart ⟨a, n, c, b⟩ (fun q hq b' o' e => (hlt b' o' e).1 q hq) r hr
  have hG' : GatR base v' (rs ++ [r]) w' := by
    refine ⟨us ++ [⟨a, n, c, b⟩], k1, hrv.append ⟨rfl, fun i d q hd hq => ?_⟩, fun d hd b' o' e => ?_⟩
    · match i, hd, hq with
      | 0, hd, hq => cases hd; cases hq; exact hr'
      | i + 1, hd, _ => simp at hd
    · have hnew : ∀ q, v'.ownBlock = some q → v.ownBlock = some q ∨ w.heap.size ≤ q := k2.block
      rcases List.mem_append.1 hd with hd | hd
      · obtain ⟨e1, e2, e3⟩ := g4 d hd b' o' e
        refine ⟨fun q hq => ?_, e2, Nat.lt_of_lt_of_le e3 hs2⟩
        rcases hnew q hq with h | h
        · exact e1 q h
        · omega
      · obtain rfl : d = ⟨a, n, c, b⟩ := by simpa using hd
        obtain ⟨e1, e2, e3⟩ := hlt b' o' e
        refine ⟨fun q hq => ?_, e2, Nat.lt_of_lt_of_le e3 hs2⟩
        rcases hnew q hq with h | h
        · exact e1 q h
        · omega
  unfold Oper.wp execOp
  simp only [ho, hty, resolve, invoke, builtin, Sem.run_bind, Sem.run_pure, Result.andThen_ok, List.map_toArray, List.map_cons, List.map_nil, hs, hxv, hrun]
  exact hK v' w' hG' k2.grown
/-- while it is gathered -/
structure Rw0 (rb : Nat) (v : Value) (rs : List Ro) (w u : World) : Prop where
  g : GatR rb v rs u
  b : Below rb w u
  m : rb ≤ u.heap.size
section
variable {rb : Nat} {v v' : Value} {rs : List Ro} {r : Ro} {w u u' : World}
theorem Rw0.below (h : Rw0 rb v rs w u) (hb : Below u.heap.size u u') : Rw0 rb v rs w u' := ⟨h.g.below hb, h.b.trans (hb.mono h.m), Nat.le_trans h.m hb.size⟩
theorem Rw0.own (h : Rw0 rb v rs w u) : ∀ q, v.ownBlock = some q → rb ≤ q ∧ q < u.heap.size := h.g.own
theorem Rw0.cell (h : Rw0 rb v rs w u) {ab o : Nat} (hab : ab < rb) : u.cell? ⟨ab, o, none⟩ = w.cell? ⟨ab, o, none⟩ := h.b.cell (p := ⟨ab, o, none⟩) hab
theorem Rw0.cell1 (h : Rw0 rb v rs w u) {ab o : Nat} (hab : ab < rb) : u.cell? ⟨ab, o, none⟩ = w.cell? ⟨ab, o, none⟩ := h.b.cell (p := ⟨ab, o, none⟩) hab
theorem Rw0.grows (h : Rw0 rb v rs w u) (hg : GatR rb v' (rs ++ [r]) u') (hgr : u.grownBy u' v.ownBlock) : Rw0 rb v' (rs ++ [r]) w u' := ⟨hg, h.b.grown hgr h.m (fun q hq => (h.own q hq).1), Nat.le_trans h.m hgr.size⟩
end
/-- the region's state -/
def RwS (rb : Nat) (v0 : Value) (rs : List Ro) (r : Ro) (xb : Bool) (w : World) : Nat → (Nat → Value) → World → Prop
  | 0, _, u => Rw0 rb v0 rs w u
  | 1, f, u => Rw0 rb v0 rs w u ∧ ∃ a c, f 29 = .agg #[.slice a (r.l.take 40).length c, .bool xb] ∧ RowV .i32 (.agg #[.slice a (r.l.take 40).length c, .bool xb]) (cutR r) u ∧ ∀ b o, a = some ⟨b, o, none⟩ → (∀ q, v0.ownBlock = some q → b ≠ q) ∧ rb ≤ b ∧ b < u.heap.size
  | 2, f, u => Rw0 rb v0 rs w u ∧ ∃ q, f 30 = .slice (some ⟨q, 0, none⟩) 1 1 ∧ ∃ a n c b, u.heap[q]? = some (.cells #[.slice a n c, .bool b] 50 (0, 0)) ∧ RowV .i32 (.agg #[.slice a n c, .bool b]) (cutR r) u ∧ ∀ b o, a = some ⟨b, o, none⟩ → (∀ q, v0.ownBlock = some q → b ≠ q) ∧ rb ≤ b ∧ b < u.heap.size
  | 3, f, u => ∃ v, f 31 = v ∧ Rw0 rb v (rs ++ [cutR r]) w u
  | _, f, u => ∃ v, f 5 = v ∧ Rw0 rb v (rs ++ [cutR r]) w u
section
variable {rb : Nat} {v0 : Value} {rs : List Ro} {r : Ro} {xb : Bool} {w u : World} {k : Nat} {f f2 : Nat → Value}
theorem RwS.base (hk : k ≤ 2) (h : RwS rb v0 rs r xb w k f u) : Rw0 rb v0 rs w u := by
  match k, hk, h with
  | 0, _, h => exact h
  | 1, _, h => exact h.1
  | 2, _, h => exact h.1
theorem RwS.cong (e1 : k = 1 → f 29 = f2 29) (e2 : k = 2 → f 30 = f2 30) (e3 : k = 3 → f 31 = f2 31) (e4 : 4 ≤ k → f 5 = f2 5) (h : RwS rb v0 rs r xb w k f u) : RwS rb v0 rs r xb w k f2 u := by
  match k, h, e1, e2, e3, e4 with
  | 0, h, _, _, _, _ => exact h
  | 1, ⟨h, a, c, e, h2⟩, e1, _, _, _ => exact ⟨h, a, c, by rw [← e1 rfl]; exact e, h2⟩
  | 2, ⟨h, q, e, h2⟩, _, e2, _, _ => exact ⟨h, q, by rw [← e2 rfl]; exact e, h2⟩
  | 3, ⟨v, e, h⟩, _, _, e3, _ => exact ⟨v, by rw [← e3 rfl]; exact e, h⟩
  | _ + 4, ⟨v, e, h⟩, _, _, _, e4 => exact ⟨v, by rw [← e4 (by omega)]; exact e, h⟩
end
end Go.Proofs.Ytjlljkdlgkociaa.K
