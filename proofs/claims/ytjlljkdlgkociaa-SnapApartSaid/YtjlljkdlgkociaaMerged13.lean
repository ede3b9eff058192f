/- The contract of the statements' Rows (layer 12): rows, cut. -/
import Derived.Test.YtjlljkdlgkociaaMerged10
import Derived.Test.YtjlljkdlgkociaaMerged5
import Derived.Test.YtjlljkdlgkociaaMerged11
import Derived.Test.YtjlljkdlgkociaaMerged12
import Derived.Laws.BitsLemmas
import Derived.Test.YtjlljkdlgkociaaRows
import Derived.WalkKit
import Derived.WalkLawsBesides
import Derived.WalkSpells
import Derived.Outline
import Derived.Lib.Hide
import Derived.Below
import Derived.IntWalk
import Derived.OwnWalk
namespace Go.Proofs.Ytjlljkdlgkociaa.K
open Go.RowKit

theorem RowV.apart9 {rk : IntKind} {u : Rv} {r : Ro} {w w' : World} {row : Option Nat} (h : RowV rk u.val r w) (hg : w.grownBy w' row) (hne : u.n ≠ 0 → ∀ b off, u.a = some ⟨b, off, none⟩ → row ≠ some b) : RowV rk u.val r w' := by
  by_cases hn : u.n = 0
  · obtain ⟨a, c, e, hi, h3⟩ := h
    have e2 := Rv.val_inj (v := ⟨a, r.l.length, c, r.wrapped⟩) e
    subst e2
    exact ⟨a, c, rfl, ⟨rfl, .inl (List.eq_nil_of_length_eq_zero hn)⟩, h3⟩
  · exact h.moved hg.size (fun b off e hl => hg.block b hl (fun e' => hne hn b off e e'.symm))
def cutR (r : Ro) : Ro := ⟨r.l.take 40, r.wrapped⟩
theorem cutR_len40 (r : Ro) : (cutR r).l.length ≤ 40 := by show (r.l.take 40).length ≤ 40; rw [List.length_take]; omega
/-- rows of our own, one behind the other; their cells lie apart, in our own -/
structure GatR (base : Nat) (v : Value) (rs : List Ro) (w : World) : Prop where
  ex : ∃ us, OwnV 50 base v us w ∧ RowsV .i32 us rs w ∧ ∀ u ∈ us, ∀ b o, u.a = some ⟨b, o, none⟩ → (∀ q, v.ownBlock = some q → b ≠ q) ∧ base ≤ b ∧ b < w.heap.size
theorem GatR.nil (base : Nat) (w : World) : GatR base (.slice none 0 0) [] w := ⟨[], OwnV.nil _ _ _, RowsV.nil _ _, fun u hu => by cases hu⟩
theorem GatR.below {base : Nat} {v : Value} {rs : List Ro} {w w' : World} (h : GatR base v rs w) (hb : Below w.heap.size w w') : GatR base v rs w' := by
  obtain ⟨us, h1, h2, h3⟩ := h
  exact ⟨us, h1.belowAll hb, h2.belowAll hb, fun u hu b o e => ⟨(h3 u hu b o e).1, (h3 u hu b o e).2.1, Nat.lt_of_lt_of_le (h3 u hu b o e).2.2 hb.size⟩⟩
theorem GatR.own {base : Nat} {v : Value} {rs : List Ro} {w : World} (h : GatR base v rs w) : ∀ q, v.ownBlock = some q → base ≤ q ∧ q < w.heap.size := fun q hq => by
  obtain ⟨us, h1, -⟩ := h.ex
  exact h1.ownBlock q hq
theorem GatR.shape {base : Nat} {v : Value} {rs : List Ro} {w : World} (h : GatR base v rs w) : ∃ a c, v = .slice a rs.length c := by
  obtain ⟨us, h1, h2, -⟩ := h.ex
  obtain ⟨a, c, e, -⟩ := h1.shape
  rw [h2.1] at e
  exact ⟨a, c, e⟩
/-- as others take it: apart from what lies below the base, and from what is newer -/
theorem GatR.rowsL {base n c : Nat} {a : Option Addr} {rs : List Ro} {w : World} {M : List Nat} (h : GatR base (.slice a n c) rs w) (hM : ∀ p ∈ M, p < base ∨ w.heap.size ≤ p) : RowsL .i32 M a n c rs w := by
  obtain ⟨us, h1, h2, h3⟩ := h
  obtain ⟨a', c', e, h4, h5, h6⟩ := h1.shape
  injection e with e1 e2 e3
  subst e1 e2 e3
  refine ⟨⟨us, h4, h2, fun u hu _ b o e hm => ?_⟩, h6, fun _ b o e hm => ?_⟩
  · have := (h3 u hu b o e).2
    rcases hM b hm with h | h <;> omega
  · have := h5 b o e
    rcases hM b hm with h | h <;> omega
theorem wp_append_row {bytes : Nat} (hI : RvT 24 50 bytes) {o : Oper} {z : Act} {w : World} {K : Act → World → Prop} {Q : Exit → Act → World → Prop} (s x : Operand)
    (ho : o.op = .call { callee := .builtin .append, args := #[s, x], argTypes := #[24, 24] }) (hty : o.type = 24)
    (base : Nat) (v : Value) (rs : List Ro) (p : Nat) (a : Option Addr) (n c : Nat) (b : Bool) (r : Ro) (hs : z.eval s = v) (hxv : z.eval x = .slice (some ⟨p, 0, none⟩) 1 1) (hG : GatR base v rs w)
    (hp : w.heap[p]? = some (.cells #[.slice a n c, .bool b] 50 (0, 0))) (hr : RowV .i32 (.agg #[.slice a n c, .bool b]) r w) (hlt : ∀ b' o', a = some ⟨b', o', none⟩ → (∀ q, v.ownBlock = some q → b' ≠ q) ∧ base ≤ b' ∧ b' < w.heap.size)
    (h1 : rs.length ≤ 1000) (hbase : base ≤ w.heap.size)
    (hK : ∀ v' w', GatR base v' (rs ++ [r]) w' → w.grownBy w' v.ownBlock → K (z.put o.dst v') w') : o.wp Try.prog z w K Q := by
  obtain ⟨us, g2, g3, g4⟩ := hG.ex
  have hin : RvsIn (some ⟨p, 0, none⟩) 1 1 [⟨a, n, c, b⟩] w := ⟨rfl, Nat.le_refl _, by decide, .inr ⟨p, 0, rfl, (Array.getElem?_eq_some_iff.1 hp).1, fun i u hu => by
    match i, hu with
    | 0, hu => cases hu; exact ⟨by simp [World.cell?, hp], by simp [World.cell?, hp]⟩
    | i + 1, hu => simp at hu⟩⟩
  obtain ⟨v', w', hrun, k1, k2⟩ := run_append_rows hI base v us (some ⟨p, 0, none⟩) 1 1 [⟨a, n, c, b⟩] w g2 hin (fun e => by cases e) (by have := g3.1; omega) (by simp) hbase
  have hs2 := k2.grown.size
  have hapart : ∀ d : Rv, (∀ q, v.ownBlock = some q → ∀ b' o', d.a = some ⟨b', o', none⟩ → b' ≠ q) → ∀ (q0 : Ro), RowV .i32 d.val q0 w → RowV .i32 d.val q0 w' := fun d hd q0 hq0 => hq0.apart9 k2.grown (fun hn b off e e' => hd b e' b off e rfl)
  have hrv : RowsV .i32 us rs w' := ⟨g3.1, fun i d q hd hq => hapart d (fun q' hq' b' o' e => (g4 d (List.mem_of_getElem? hd) b' o' e).1 q' hq') q (g3.2 i d q hd hq)⟩
  have hr' : RowV .i32 (Rv.val ⟨a, n, c, b⟩) r w' := hapart ⟨a, n, c, b⟩ (fun q hq b' o' e => (hlt b' o' e).1 q hq) r hr
  have hG' : GatR base v' (rs ++ [r]) w' := by
    refine ⟨us ++ [⟨a, n, c, b⟩], k1, hrv.append ⟨rfl, fun i d q hd hq => ?_⟩, fun d hd b' o' e => ?_⟩
    · match i, hd, hq with
      | 0, hd, hq => cases hd; cases hq; exact hr'
      | i + 1, hd, _ => simp at hd
    · have hnew : ∀ q, v'.ownBlock = some q → v.ownBlock = some q ∨ w.heap.size ≤ q := k2.block
      rcases List.mem_append.1 hd with hd | hd
      · obtain ⟨e1, e2, e3⟩ := g4 d hd b' o' e
        refine ⟨fun q hq => ?_, e2, Nat.lt_of_lt_of_le e3 hs2⟩
        rcases hnew q hq with h | h
        · exact e1 q h
        · omega
      · obtain rfl : d = ⟨a, n, c, b⟩ := by simpa using hd
        obtain ⟨e1, e2, e3⟩ := hlt b' o' e
        refine ⟨fun q hq => ?_, e2, Nat.lt_of_lt_of_le e3 hs2⟩
        rcases hnew q hq with h | h
        · exact e1 q h
        · omega
  unfold Oper.wp execOp
  simp only [ho, hty, resolve, invoke, builtin, Sem.run_bind, Sem.run_pure, Result.andThen_ok, List.map_toArray, List.map_cons, List.map_nil, hs, hxv, hrun]
  exact hK v' w' hG' k2.grown
/-- while it is gathered -/
structure Rw0 (rb : Nat) (v : Value) (rs : List Ro) (w u : World) : Prop where
  g : GatR rb v rs u
  b : Below rb w u
  m : rb ≤ u.heap.size
section
variable {rb : Nat} {v v' : Value} {rs : List Ro} {r : Ro} {w u u' : World}
theorem Rw0.below (h : Rw0 rb v rs w u) (hb : Below u.heap.size u u') : Rw0 rb v rs w u' := ⟨h.g.below hb, h.b.trans (hb.mono h.m), Nat.le_trans h.m hb.size⟩
theorem Rw0.own (h : Rw0 rb v rs w u) : ∀ q, v.ownBlock = some q → rb ≤ q ∧ q < u.heap.size := h.g.own
theorem Rw0.cell (h : Rw0 rb v rs w u) {ab o : Nat} (hab : ab < rb) : u.cell? ⟨ab, o, none⟩ = w.cell? ⟨ab, o, none⟩ := h.b.cell (p := ⟨ab, o, none⟩) hab
theorem Rw0.cell1 (h : Rw0 rb v rs w u) {ab o : Nat} (hab : ab < rb) : u.cell? ⟨ab, o, none⟩ = w.cell? ⟨ab, o, none⟩ := h.b.cell (p := ⟨ab, o, none⟩) hab
theorem Rw0.grows (h : Rw0 rb v rs w u) (hg : GatR rb v' (rs ++ [r]) u') (hgr : u.grownBy u' v.ownBlock) : Rw0 rb v' (rs ++ [r]) w u' := ⟨hg, h.b.grown hgr h.m (fun q hq => (h.own q hq).1), Nat.le_trans h.m hgr.size⟩
end
/-- the region's state -/
def RwS (rb : Nat) (v0 : Value) (rs : List Ro) (r : Ro) (xb : Bool) (w : World) : Nat → (Nat → Value) → World → Prop
  | 0, _, u => Rw0 rb v0 rs w u
  | 1, f, u => Rw0 rb v0 rs w u ∧ ∃ a c, f 29 = .agg #[.slice a (r.l.take 40).length c, .bool xb] ∧ RowV .i32 (.agg #[.slice a (r.l.take 40).length c, .bool xb]) (cutR r) u ∧ ∀ b o, a = some ⟨b, o, none⟩ → (∀ q, v0.ownBlock = some q → b ≠ q) ∧ rb ≤ b ∧ b < u.heap.size
  | 2, f, u => Rw0 rb v0 rs w u ∧ ∃ q, f 30 = .slice (some ⟨q, 0, none⟩) 1 1 ∧ ∃ a n c b, u.heap[q]? = some (.cells #[.slice a n c, .bool b] 50 (0, 0)) ∧ RowV .i32 (.agg #[.slice a n c, .bool b]) (cutR r) u ∧ ∀ b o, a = some ⟨b, o, none⟩ → (∀ q, v0.ownBlock = some q → b ≠ q) ∧ rb ≤ b ∧ b < u.heap.size
  | 3, f, u => ∃ v, f 31 = v ∧ Rw0 rb v (rs ++ [cutR r]) w u
  | _, f, u => ∃ v, f 5 = v ∧ Rw0 rb v (rs ++ [cutR r]) w u
section
variable {rb : Nat} {v0 : Value} {rs : List Ro} {r : Ro} {xb : Bool} {w u : World} {k : Nat} {f f2 : Nat → Value}
theorem RwS.base (hk : k ≤ 2) (h : RwS rb v0 rs r xb w k f u) : Rw0 rb v0 rs w u := by
  match k, hk, h with
  | 0, _, h => exact h
  | 1, _, h => exact h.1
  | 2, _, h => exact h.1
theorem RwS.cong (e1 : k = 1 → f 29 = f2 29) (e2 : k = 2 → f 30 = f2 30) (e3 : k = 3 → f 31 = f2 31) (e4 : 4 ≤ k → f 5 = f2 5) (h : RwS rb v0 rs r xb w k f u) : RwS rb v0 rs r xb w k f2 u := by
  match k, h, e1, e2, e3, e4 with
  | 0, h, _, _, _, _ => exact h
  | 1, ⟨h, a, c, e, h2⟩, e1, _, _, _ => exact ⟨h, a, c, by rw [← e1 rfl]; exact e, h2⟩
  | 2, ⟨h, q, e, h2⟩, _, e2, _, _ => exact ⟨h, q, by rw [← e2 rfl]; exact e, h2⟩
  | 3, ⟨v, e, h⟩, _, _, e3, _ => exact ⟨v, by rw [← e3 rfl]; exact e, h⟩
  | _ + 4, ⟨v, e, h⟩, _, _, _, e4 => exact ⟨v, by rw [← e4 (by omega)]; exact e, h⟩
end
end Go.Proofs.Ytjlljkdlgkociaa.K

/- Plain facts on reading a number: what was written is read, and what is read was written so. No Go here. -/
namespace Go.Proofs.Ytjlljkdlgkociaa.I

/-- A number's bytes, read from place i on, n having come: the number, how many bytes it has, the error (1: the form; 2: the end). -/
def scan : List UInt8 → Nat → Nat → Nat × Nat × Nat
  | [], i, _ => if 9 ≤ i then (0, 0, 1) else (0, 0, 2)
  | b :: r, i, n => if 9 ≤ i then (0, 0, 1) else if 128 ≤ b.toNat then scan r (i + 1) (n + b.toNat % 128 * 128 ^ i)
      else if (0 < i ∧ b.toNat = 0) ∨ top < n + b.toNat % 128 * 128 ^ i then (0, 0, 1) else (n + b.toNat % 128 * 128 ^ i, i + 1, 0)
def firstS (l : List UInt8) : Nat × Nat × Nat := scan l 0 0

theorem scan_digs : ∀ (m i n : Nat) (r : List UInt8), n + m * 128 ^ i ≤ top → i + (digs m).length ≤ 9 → (i = 0 ∨ 0 < m) → scan (digs m ++ r) i n = (n + m * 128 ^ i, i + (digs m).length, 0) := by
  intro m
  induction m using Nat.strongRecOn with
  | ind m ih =>
    intro i n r h9 hl h0
    have hp := digs_pos m
    by_cases hb : m < 128
    · rw [digs_small hb]
      have e : (UInt8.ofNat m).toNat = m := by simp; omega
      simp only [List.cons_append, List.nil_append, scan, e]
      rw [if_neg (by omega), if_neg (by omega), Nat.mod_eq_of_lt hb, if_neg (by omega)]
      simp
    · rw [digs_big hb]
      have e : (UInt8.ofNat (m % 128 + 128)).toNat = m % 128 + 128 := by simp; omega
      have hl2 : (digs m).length = (digs (m / 128)).length + 1 := by rw [digs_big hb]; simp
      have key : n + m % 128 * 128 ^ i + m / 128 * 128 ^ (i + 1) = n + m * 128 ^ i := by
        have : m / 128 * 128 ^ (i + 1) = (m / 128 * 128) * 128 ^ i := by rw [Nat.pow_succ, Nat.mul_comm (128 ^ i) 128, Nat.mul_assoc]
        rw [this, Nat.add_assoc, ← Nat.add_mul]
        congr 2
        omega
      simp only [List.cons_append, scan, e]
      rw [if_neg (by omega), if_pos (by omega), show (m % 128 + 128) % 128 = m % 128 from by omega, ih (m / 128) (by omega) (i + 1) _ r (by omega) (by omega) (.inr (by omega)), key]
      simp
      omega
theorem first_digs (m : Nat) (r : List UInt8) (h : m ≤ top) : firstS (digs m ++ r) = (m, (digs m).length, 0) := by
  have := scan_digs m 0 0 r (by simpa using h) (by have := digs_nine m h; omega) (.inl rfl)
  simpa [firstS] using this
theorem scan_only : ∀ (l : List UInt8) (i n v sz : Nat), scan l i n = (v, sz, 0) → ∃ m, v = n + m * 128 ^ i ∧ l.take (sz - i) = digs m ∧ (0 < m ∨ i = 0) ∧ v ≤ top ∧ i < sz ∧ sz - i ≤ l.length
  | [], i, n, v, sz, h => by
    unfold scan at h
    split at h <;> cases h
  | b :: r, i, n, v, sz, h => by
    unfold scan at h
    split at h
    · cases h
    · split at h
      · rename_i h9 h128
        obtain ⟨m, hv, ht, hm, htop, hlt, hle⟩ := scan_only r (i + 1) _ v sz h
        have hb := b.toNat_lt
        have hm0 : 0 < m := hm.resolve_right (by omega)
        have hbig : ¬ m * 128 + b.toNat % 128 < 128 := by omega
        refine ⟨m * 128 + b.toNat % 128, ?_, ?_, .inl (by omega), htop, by omega, by simp; omega⟩
        · rw [hv, Nat.pow_succ, Nat.add_mul, Nat.mul_assoc m 128, Nat.mul_comm 128 (128 ^ i)]
          omega
        · rw [digs_big hbig, show sz - i = (sz - (i + 1)) + 1 from by omega, List.take_succ_cons, ht]
          congr 1
          · have e : (m * 128 + b.toNat % 128) % 128 + 128 = b.toNat := by omega
            rw [e]; simp
          · congr 1; omega
      · split at h
        · cases h
        · rename_i h9 h128 hf
          cases h
          have hb := b.toNat_lt
          refine ⟨b.toNat, by rw [Nat.mod_eq_of_lt (by omega)], ?_, ?_, by omega, by omega, by simp⟩
          · rw [digs_small (by omega), show i + 1 - i = 1 from by omega]; simp
          · omega
theorem first_only {l : List UInt8} {v sz : Nat} (h : firstS l = (v, sz, 0)) : l.take sz = digs v ∧ v ≤ top ∧ 0 < sz ∧ sz ≤ l.length := by
  obtain ⟨m, hv, ht, _, htop, hlt, hle⟩ := scan_only l 0 0 v sz h
  have : m = v := by simpa using hv.symm
  subst this
  exact ⟨by simpa using ht, htop, hlt, by simpa using hle⟩
/-- seven bits more -/
theorem or_seven (N x k : Nat) (hN : N < 128 ^ k) (hk : k < 9) (hx : x < 128) : bits .or .i64 (N : Int) (((x * 128 ^ k : Nat)) : Int) = ((N + x * 128 ^ k : Nat) : Int) := by
  have e : 128 ^ k = 2 ^ (7 * k) := by rw [show (128 : Nat) = 2 ^ 7 from rfl, ← Nat.pow_mul]
  have h63 : 128 ^ k * 128 ≤ 2 ^ 63 := by
    rw [e, show (128 : Nat) = 2 ^ 7 from rfl, ← Nat.pow_add]
    exact Nat.pow_le_pow_right (by decide) (by omega)
  have hb : x * 128 ^ k < 2 ^ 63 := Nat.lt_of_lt_of_le (Nat.mul_lt_mul_of_pos_right hx (Nat.pow_pos (by decide))) (by rw [Nat.mul_comm]; exact h63)
  have ha : N < 2 ^ 63 := by
    have : 128 ^ k ≤ 128 ^ k * 128 := Nat.le_mul_of_pos_right _ (by decide)
    omega
  have h := (bits_nat .i64 63 (by decide) (fun n h0 h1 => by
    simp [IntKind.wrap, IntKind.bits, IntKind.signed]
    omega) N (x * 128 ^ k) ha hb).2
  rw [h]
  congr 1
  rw [e, Nat.mul_comm x, Nat.or_comm, Nat.add_comm]
  exact (Nat.two_pow_add_eq_or_of_lt (by rw [← e]; exact hN) x).symm
end Go.Proofs.Ytjlljkdlgkociaa.I

/- The contracts of num.first and of In's methods. -/
namespace Go.Proofs.Ytjlljkdlgkociaa.I
open Go.RowKit

theorem drop_cons (s : ByteArray) (k : Nat) (h : k < s.size) : s.data.toList.drop k = s[k] :: s.data.toList.drop (k + 1) := by
  rw [List.drop_eq_getElem_cons (by show k < s.size; exact h)]; rfl
theorem or_shift (N x k : Nat) (hN : N < 128 ^ k) (hk : k < 9) (hx : x < 128) : ∃ Z : Nat, bits .or .i64 (N : Int) (wrap64 ((x : Int) * 2 ^ (7 * k))) = (Z : Int) ∧ (Z : Int) ≤ 9223372036854775807 ∧ Hid (Z = N + x * 128 ^ k ∧ Z < 128 ^ (k + 1)) := by
  have e : 128 ^ k = 2 ^ (7 * k) := by rw [show (128 : Nat) = 2 ^ 7 from rfl, ← Nat.pow_mul]
  have h63 : 128 ^ k * 128 ≤ 2 ^ 63 := by
    rw [e, show (128 : Nat) = 2 ^ 7 from rfl, ← Nat.pow_add]
    exact Nat.pow_le_pow_right (by decide) (by omega)
  have hmul : x * 128 ^ k ≤ 127 * 128 ^ k := Nat.mul_le_mul_right _ (by omega)
  have hlt : N + x * 128 ^ k < 128 ^ (k + 1) := by rw [Nat.pow_succ]; omega
  have hs : N + x * 128 ^ k < 2 ^ 63 := by rw [Nat.pow_succ] at hlt; omega
  refine ⟨N + x * 128 ^ k, ?_, by omega, Lib.hid ⟨rfl, hlt⟩⟩
  rw [← or_seven N x k hN hk hx]
  congr 1
  have hc : ((x : Int) * 2 ^ (7 * k)) = ((x * 128 ^ k : Nat) : Int) := by rw [e, Int.natCast_mul, Int.natCast_pow]; rfl
  rw [hc]
  exact IntWalk.wrap64_in _ ⟨by omega, by omega⟩

set_option maxRecDepth 100000 in
set_option maxHeartbeats 1000000 in
theorem first_any (s : ByteArray) (hs : (s.size : Int) ≤ 1000000) (v sz e : Nat) (hsc : firstS s.data.toList = (v, sz, e)) (w : World) :
    Calls Try.prog 82 #[.string s] w fun en w' => en = .returned (.tuple #[.int .i64 v, .int .i64 sz, .int .i64 e]) ∧ w = w' := by
  have HS := Lib.hid hsc
  clear hsc
  obtain ⟨M, hM⟩ : ∃ M : Nat, (M : Int) = min (s.size : Int) 9 := ⟨min s.size 9, by omega⟩
  have hM9 : (M : Int) ≤ 9 := by omega
  have hMs : (M : Int) ≤ s.size := by omega
  have HM := Lib.hid hM
  have hmn : (if (9 : Int) < s.size then (9 : Int) else s.size) = (M : Int) := by by_cases h : (9 : Int) < s.size <;> simp [h] <;> omega
  clear hM
  go_enter Try.func82, Try.ntmps82
  go_wp2
  go_loop [5, 11] (fun c i => ∃ k N : Nat, k ≤ M ∧ i = .int .i64 k ∧ c = .int .i64 N ∧ (N : Int) ≤ 9223372036854775807 ∧ Hid (N < 128 ^ k ∧ scan (s.data.toList.drop k) k N = (v, sz, e))) (fun _ i => M - (intOf i).toNat)
  case atStart => exact ⟨0, 0, by omega, rfl, rfl, by omega, Lib.hid ⟨by decide, by have := HS.out; simpa [firstS] using this⟩⟩
  case round =>
    obtain ⟨k, N, hk, rfl, rfl, hN, hF⟩ := hrel
    by_cases hlt : k < M
    · have hks : k < s.size := by omega
      have hb : (s[k].toNat : Int) < 256 := by have := s[k].toNat_lt; omega
      have e1 : bits .and .u8 (s[k].toNat : Int) 127 = ((s[k].toNat % 128 : Nat) : Int) := by
        have := bits_mask .u8 8 (by decide) wraps_u8 7 (by decide) (s[k].toNat : Int) (by omega) (by omega)
        simpa using this
      obtain ⟨x, hx⟩ : ∃ x : Nat, s[k].toNat % 128 = x := ⟨_, rfl⟩
      rw [hx] at e1
      have hx128 : (x : Int) < 128 := by omega
      have HX := Lib.hid hx
      clear hx
      obtain ⟨Z, e2, hZ63, hZ⟩ := or_shift N x k hF.out.1 (by omega) (by omega)
      have hstep : scan (s[k] :: s.data.toList.drop (k + 1)) k N = (v, sz, e) := by
        have h := hF.out.2
        rwa [drop_cons s k hks] at h
      simp only [scan] at hstep
      rw [if_neg (by omega), HX.out, ← hZ.out.1] at hstep
      have HSt := Lib.hid hstep
      clear hstep
      by_cases h128 : 128 ≤ (s[k].toNat : Int)
      · have h2 := HSt.out
        rw [if_pos (by omega)] at h2
        have H2 := Lib.hid h2
        clear h2
        go_wp2
        go_round
        case rel => exact ⟨k + 1, Z, by omega, by go_num, rfl, hZ63, Lib.hid ⟨hZ.out.2, H2.out⟩⟩
        case measure => simp [intOf]; omega
      · have h2 := HSt.out
        rw [if_neg (by omega)] at h2
        by_cases hbad : 0 < k ∧ s[k].toNat = 0
        · rw [if_pos (.inl hbad)] at h2
          obtain ⟨hk0, hb0⟩ := hbad
          have hb0' : ((s[k].toNat : Int) == 0) = true := by rw [beq_iff_eq]; omega
          have H2 := Lib.hid h2
          clear h2 hb0
          go_wp2
          all_goals go_ret3
          all_goals (have h := H2.out; cases h; exact ⟨rfl, rfl⟩)
        · by_cases htop : top < Z
          · rw [if_pos (.inr htop)] at h2
            have H2 := Lib.hid h2
            have htop' : (4611686018427387904 : Int) < Z := by unfold top at htop; omega
            clear h2 htop
            by_cases hk0 : 0 < k
            · have hb0' : ((s[k].toNat : Int) == 0) = false := by rw [beq_eq_false_iff_ne]; omega
              clear hbad
              go_wp2
              all_goals go_ret3
              all_goals (have h := H2.out; cases h; exact ⟨rfl, rfl⟩)
            · clear hbad
              go_wp2
              all_goals go_ret3
              all_goals (have h := H2.out; cases h; exact ⟨rfl, rfl⟩)
          · rw [if_neg (by omega)] at h2
            have H2 := Lib.hid h2
            have htop' : (Z : Int) ≤ 4611686018427387904 := by unfold top at htop; omega
            clear h2 htop
            by_cases hk0 : 0 < k
            · have hb0' : ((s[k].toNat : Int) == 0) = false := by rw [beq_eq_false_iff_ne]; omega
              clear hbad
              go_wp2
              all_goals go_ret3
              all_goals (have h := H2.out; cases h; exact ⟨by simp, rfl⟩)
            · clear hbad
              go_wp2
              all_goals go_ret3
              all_goals (have h := H2.out; cases h; exact ⟨by simp, rfl⟩)
    · obtain rfl : k = M := by omega
      have hend := hF.out.2
      by_cases h9 : 9 ≤ (s.size : Int)
      · have hk9 : k = 9 := by have := HM.out; omega
        have hres : (0, 0, 1) = (v, sz, e) := by
          rw [← hend, hk9]
          cases s.data.toList.drop 9 <;> simp [scan]
        have HR := Lib.hid hres
        clear hres hk9 hend
        go_wp2
        all_goals go_ret3
        all_goals (have h := HR.out; cases h; exact ⟨rfl, rfl⟩)
      · have hks : k = s.size := by have := HM.out; omega
        have hres : (0, 0, 2) = (v, sz, e) := by
          rw [← hend, List.drop_of_length_le (by show s.size ≤ k; omega)]
          simp [scan]
          omega
        have HR := Lib.hid hres
        clear hres hks hend
        go_wp2
        all_goals go_ret3
        all_goals (have h := HR.out; cases h; exact ⟨rfl, rfl⟩)
end Go.Proofs.Ytjlljkdlgkociaa.I
