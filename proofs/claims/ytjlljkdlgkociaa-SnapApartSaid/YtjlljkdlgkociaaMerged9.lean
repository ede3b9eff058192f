/- The iterator of rows from the lowest one: slices.Backward, and grid.upwards over it. -/
import Derived.Test.YtjlljkdlgkociaaMerged7
import Derived.Test.YtjlljkdlgkociaaMerged0
import Derived.Test.YtjlljkdlgkociaaMerged4
import Derived.Test.YtjlljkdlgkociaaMerged6
import Derived.Test.YtjlljkdlgkociaaMerged5
namespace Go.Proofs.Ytjlljkdlgkociaa.K
open Go.RowKit Go.Shelf

attribute [local go_sem] Oper.semAt_some

end Go.Proofs.Ytjlljkdlgkociaa.K

/- Rows that go up and down within a region of a list. -/
namespace Go.Proofs.Ytjlljkdlgkociaa.D
variable {α : Type}

/-- k of a region's go up: the others go up, so many b stand below -/
def upR (R : List α) (k : Nat) (b : α) : List α := R.drop k ++ List.replicate (min k R.length) b
def downR (R : List α) (k : Nat) (b : α) : List α := List.replicate (min k R.length) b ++ R.take (R.length - k)
/-- a list with a region -/
def inL (l : List α) (top bot : Nat) (f : List α → List α) : List α := l.take top ++ f ((l.take (bot + 1)).drop top) ++ l.drop (bot + 1)
end Go.Proofs.Ytjlljkdlgkociaa.D

/- Rows of a screen, one above the other: what each call makes of them. -/
namespace Go.Proofs.Ytjlljkdlgkociaa.K

/-- how a size counts -/
def szN (n : Int) : Nat := (min (max n 1) 1000).toNat
theorem szN_pos (n : Int) : 1 ≤ szN n := by unfold szN; omega
theorem szN_le (n : Int) : szN n ≤ 1000 := by unfold szN; omega
def nearG (n lo hi : Int) : Int := min (max n lo) hi
/-- a grid -/
structure Gd where
  W : Nat
  rs : List Ro
def blankR (W : Nat) (s : Int) : Ro := ⟨blanks W s, false⟩
def newG (w h : Int) : Gd := ⟨szN w, List.replicate (szN h) (blankR (szN w) 0)⟩
def setG (x : Gd) (y : Int) (r : Ro) : Gd := if 0 ≤ y ∧ y < x.rs.length then ⟨x.W, x.rs.set y.toNat (resizeS r x.W)⟩ else x
/-- a grid as it may be -/
structure GdOk (x : Gd) : Prop where
  w1 : 1 ≤ x.W
  w2 : x.W ≤ 1000
  h1 : 1 ≤ x.rs.length
  h2 : x.rs.length ≤ 1000
  len : ∀ r ∈ x.rs, r.l.length = x.W
  rng : ∀ r ∈ x.rs, AllC Rng r.l
theorem blankR_len (W : Nat) (s : Int) : (blankR W s).l.length = W := blanks_length W s
theorem blankR_rng (W : Nat) (s : Int) : AllC Rng (blankR W s).l := all_blanks rng_blk W s
theorem resize_len (r : Ro) (W : Nat) (h : W ≤ 1000) : (resizeS r W).l.length = W := by
  have hn : nearN (W : Int) = W := by unfold nearN; omega
  unfold resizeS
  rw [hn]
  split
  · rename_i h'; exact h'.symm
  · simp only
    rw [mend_length, List.length_append, List.length_take, blanks_length]
    omega
theorem newG_ok (w h : Int) : GdOk (newG w h) := by
  refine ⟨szN_pos w, szN_le w, ?_, ?_, fun r hr => ?_, fun r hr => ?_⟩
  · show 1 ≤ (List.replicate _ _).length; rw [List.length_replicate]; exact szN_pos h
  · show (List.replicate _ _).length ≤ 1000; rw [List.length_replicate]; exact szN_le h
  · rw [(List.mem_replicate.1 hr).2]; exact blankR_len _ _
  · rw [(List.mem_replicate.1 hr).2]; exact blankR_rng _ _
theorem setG_ok {x : Gd} (hx : GdOk x) (y : Int) {r : Ro} (hr : AllC Rng r.l) : GdOk (setG x y r) := by
  unfold setG
  split
  · refine ⟨hx.w1, hx.w2, by show 1 ≤ (x.rs.set _ _).length; rw [List.length_set]; exact hx.h1, by show (x.rs.set _ _).length ≤ 1000; rw [List.length_set]; exact hx.h2, fun q hq => ?_, fun q hq => ?_⟩
    · rcases List.mem_or_eq_of_mem_set hq with hq | rfl
      · exact hx.len q hq
      · exact resize_len r x.W hx.w2
    · rcases List.mem_or_eq_of_mem_set hq with hq | rfl
      · exact hx.rng q hq
      · exact all_resize rng_blk hr _
  · exact hx
end Go.Proofs.Ytjlljkdlgkociaa.K

/- The contract of the statements' Do: what it makes is new, or what came in. -/
namespace Go.Proofs.Ytjlljkdlgkociaa.J
open Go.RowKit Go.Proofs.Ytjlljkdlgkociaa Go.Proofs.Ytjlljkdlgkociaa.K

/-- a row whose cells aren't in the blocks that Do lays -/
def Fresh (rb : Nat) (a : Option Addr) : Prop := ∀ b off, a = some ⟨b, off, none⟩ → rb ≤ b
def RowN (rk : IntKind) (rb : Nat) (a0 : Option Addr) (n0 : Nat) (u : Value) (r : Ro) (w : World) : Prop := ∃ a c, u = .agg #[.slice a r.l.length c, .bool r.wrapped] ∧ CelsIn rk a r.l.length r.l w ∧ (a = none → c = 0) ∧ r.l.length ≤ c ∧ (c : Int) ≤ 9223372036854775807 ∧ (∀ b off, r.l ≠ [] → a = some ⟨b, off, none⟩ → b < rb ∨ rb + 5 ≤ b) ∧ ((a = a0 ∧ r.l.length = n0) ∨ Fresh rb a)
theorem RowN.belowAll {rk : IntKind} {rb n0 : Nat} {a0 : Option Addr} {u : Value} {r : Ro} {w w' : World} (h : RowN rk rb a0 n0 u r w) (hb : Below w.heap.size w w') : RowN rk rb a0 n0 u r w' := by
  obtain ⟨a, c, h1, h2, h3⟩ := h
  exact ⟨a, c, h1, h2.belowAll hb, h3⟩
theorem RowN.own {rk : IntKind} {T : TypeId} {rb base n0 : Nat} {a0 : Option Addr} {v : Value} {l : List Cel} {b : Bool} {q : Ro} {w : World} (hb : rb + 5 ≤ base) (hl : q.l = l) (hw : q.wrapped = b) (h : OwnC rk T base v l w) : RowN rk rb a0 n0 (.agg #[v, .bool b]) q w := by
  obtain ⟨a, c, rfl, h1, h2, h3, h4, h5⟩ := h.shape
  obtain ⟨l', b'⟩ := q
  simp only at hl hw
  subst hl hw
  exact ⟨a, c, rfl, h1, h3, h4, h5, fun g off _ e => .inr (Nat.le_trans hb (h2 g off e).1), .inr fun g off e => by have := (h2 g off e).1; omega⟩
theorem RowN.ret {rk : IntKind} {rb base n0 : Nat} {a a0 : Option Addr} {c : Nat} {l l0 : List Cel} {b : Bool} {q : Ro} {w w0 : World} (hb : rb + 5 ≤ base) (hl : q.l = l) (hw : q.wrapped = b) (h0 : CelsIn rk a0 n0 l0 w0 ∧ w0.heap.size ≤ rb) (h1 : CelsIn rk a l.length l w) (h3 : a = none → c = 0) (h4 : l.length ≤ c) (h5 : (c : Int) ≤ 9223372036854775807) (h6 : (a = a0 ∧ l.length = n0) ∨ ∀ b off, a = some ⟨b, off, none⟩ → base ≤ b) : RowN rk rb a0 n0 (.agg #[.slice a l.length c, .bool b]) q w := by
  obtain ⟨l', b'⟩ := q
  simp only at hl hw
  subst hl hw
  refine ⟨a, c, rfl, h1, h3, h4, h5, fun g off hne e => ?_, ?_⟩
  · rcases h6 with ⟨h6, h9⟩ | h6
    · left
      rcases h0.1.at_ with h | ⟨b1, o1, h7, h8, _⟩
      · have := h0.1.len
        rw [h] at this
        exact absurd (List.eq_nil_of_length_eq_zero (by rw [h9, this]; rfl)) hne
      · rw [← h6, e] at h7
        cases h7
        exact Nat.lt_of_lt_of_le h8 h0.2
    · exact .inr (Nat.le_trans hb (h6 g off e))
  · rcases h6 with h6 | h6
    · exact .inl h6
    · exact .inr fun g off e => by have := h6 g off e; omega
theorem RowN.set {rk : IntKind} {rb n0 : Nat} {a0 : Option Addr} {u : Value} {r : Ro} {w : World} (h : RowN rk rb a0 n0 u r w) {p o : Nat} (x : Value) (h1 : rb ≤ p) (h2 : p < rb + 5) : RowN rk rb a0 n0 u r (w.setCell ⟨p, o, none⟩ x) := by
  obtain ⟨a, c, e, hi, h3, h4, h5, h6, h7⟩ := h
  refine ⟨a, c, e, ?_, h3, h4, h5, h6, h7⟩
  rcases hi.at_ with h0 | ⟨b, off, ha, hb, hc⟩
  · exact ⟨rfl, .inl h0⟩
  · by_cases h0 : r.l = []
    · exact ⟨rfl, .inl h0⟩
    · have hne : b ≠ p := by have := h6 b off h0 ha; omega
      exact ⟨rfl, .inr ⟨b, off, ha, Nat.lt_of_lt_of_le hb (KeepsWalks.setCell w _ x).size, fun i d hd => (hc i d hd).block (Below.heap_setCell _ _ _ b (fun e => hne e))⟩⟩
/-- a row, and where its cells lie -/
def RowF (rk : IntKind) (rb : Nat) (a0 : Option Addr) (n0 : Nat) (u : Value) (r : Ro) (w : World) : Prop := ∃ p : Rv, u = p.val ∧ RowV rk p.val r w ∧ ((p.a = a0 ∧ p.n = n0) ∨ Fresh rb p.a)
theorem RowN.v {rk : IntKind} {rb n0 : Nat} {a0 : Option Addr} {u : Value} {r : Ro} {w : World} (h : RowN rk rb a0 n0 u r w) : RowF rk rb a0 n0 u r w := by
  obtain ⟨a, c, e, hi, h3, h4, h5, h6, h7⟩ := h
  exact ⟨⟨a, r.l.length, c, r.wrapped⟩, e, ⟨a, c, rfl, hi, h3, h4, h5⟩, h7⟩
/-- what Do answers -/
def DoPost (rb : Nat) (a1 a2 : Option Addr) (n1 n2 : Nat) (q1 q2 : Ro) (w : World) (e : Ending) (w' : World) : Prop := ∃ v1 v2, e = .returned (.tuple #[v1, v2]) ∧ RowF .i32 rb a1 n1 v1 q1 w' ∧ RowF .i64 rb a2 n2 v2 q2 w' ∧ Below rb w w'
theorem do_end {rb n1 n2 : Nat} {a1 a2 : Option Addr} {q1 q2 : Ro} {w w5 u : World} {v1 v2 : Value} {s0 s1 s2 s3 : Value} (hu : Below w5.heap.size w5 u) (hb : Below rb w w5) (hs : rb + 5 ≤ w5.heap.size) (h1 : RowN .i32 rb a1 n1 v1 q1 u) (h2 : RowN .i64 rb a2 n2 v2 q2 u) :
    DoPost rb a1 a2 n1 n2 q1 q2 w (.returned (.tuple #[v1, v2])) ((((u.setCell ⟨rb + 3, 0, none⟩ s0).setCell ⟨rb + 3, 1, none⟩ s1).setCell ⟨rb + 4, 0, none⟩ s2).setCell ⟨rb + 4, 1, none⟩ s3) := by
  have hbu : Below rb w u := hb.trans (hu.mono (by omega))
  refine ⟨v1, v2, rfl, ((((h1.set s0 (by omega) (by omega)).set s1 (by omega) (by omega)).set s2 (by omega) (by omega)).set s3 (by omega) (by omega)).v, ((((h2.set s0 (by omega) (by omega)).set s1 (by omega) (by omega)).set s2 (by omega) (by omega)).set s3 (by omega) (by omega)).v, ?_⟩
  exact (((hbu.setCell (p := ⟨rb + 3, 0, none⟩) (by show rb ≤ rb + 3; omega) _).setCell (p := ⟨rb + 3, 1, none⟩) (by show rb ≤ rb + 3; omega) _).setCell (p := ⟨rb + 4, 0, none⟩) (by show rb ≤ rb + 4; omega) _).setCell (p := ⟨rb + 4, 1, none⟩) (by show rb ≤ rb + 4; omega) _
def Do0 (rb : Nat) (a1 a2 : Option Addr) (n1 c1 n2 c2 : Nat) (b1 b2 : Bool) (K AT N S X : Int) (q1 q2 : Ro) : Nat → Value → World → Prop
  | 0, u, _ => u = .agg #[.slice a1 n1 c1, .bool b1]
  | 1, u, _ => u = .pointer (some ⟨rb + 2, 1, none⟩)
  | 2, u, _ => u = .int .i64 AT
  | 3, u, _ => u = .pointer (some ⟨rb + 2, 4, none⟩)
  | 4, u, _ => u = .int .i32 X
  | 5, u, _ => u = .pointer (some ⟨rb + 2, 3, none⟩)
  | 6, u, _ => u = .int .i64 S
  | 7, u, w => RowN .i32 rb a1 n1 u q1 w
  | 8, u, _ => u = .agg #[.slice a2 n2 c2, .bool b2]
  | 9, u, _ => u = .pointer (some ⟨rb + 2, 1, none⟩)
  | 10, u, _ => u = .int .i64 AT
  | 11, u, _ => u = .pointer (some ⟨rb + 2, 4, none⟩)
  | 12, u, _ => u = .int .i32 X
  | 13, u, _ => u = .int .i64 X
  | 14, u, _ => u = .pointer (some ⟨rb + 2, 3, none⟩)
  | 15, u, _ => u = .int .i64 S
  | 16, u, w => RowN .i64 rb a2 n2 u q2 w
  | _, _, _ => True
def Do1 (rb : Nat) (a1 a2 : Option Addr) (n1 c1 n2 c2 : Nat) (b1 b2 : Bool) (K AT N S X : Int) (q1 q2 : Ro) : Nat → Value → World → Prop
  | 0, u, _ => u = .agg #[.slice a1 n1 c1, .bool b1]
  | 1, u, _ => u = .pointer (some ⟨rb + 2, 1, none⟩)
  | 2, u, _ => u = .int .i64 AT
  | 3, u, _ => u = .pointer (some ⟨rb + 2, 2, none⟩)
  | 4, u, _ => u = .int .i64 N
  | 5, u, _ => u = .pointer (some ⟨rb + 2, 3, none⟩)
  | 6, u, _ => u = .int .i64 S
  | 7, u, w => RowN .i32 rb a1 n1 u q1 w
  | 8, u, _ => u = .agg #[.slice a2 n2 c2, .bool b2]
  | 9, u, _ => u = .pointer (some ⟨rb + 2, 1, none⟩)
  | 10, u, _ => u = .int .i64 AT
  | 11, u, _ => u = .pointer (some ⟨rb + 2, 2, none⟩)
  | 12, u, _ => u = .int .i64 N
  | 13, u, _ => u = .pointer (some ⟨rb + 2, 3, none⟩)
  | 14, u, _ => u = .int .i64 S
  | 15, u, w => RowN .i64 rb a2 n2 u q2 w
  | _, _, _ => True
def Do2 (rb : Nat) (a1 a2 : Option Addr) (n1 c1 n2 c2 : Nat) (b1 b2 : Bool) (K AT N S X : Int) (q1 q2 : Ro) : Nat → Value → World → Prop
  | 0, u, _ => u = .agg #[.slice a1 n1 c1, .bool b1]
  | 1, u, _ => u = .pointer (some ⟨rb + 2, 1, none⟩)
  | 2, u, _ => u = .int .i64 AT
  | 3, u, _ => u = .pointer (some ⟨rb + 2, 2, none⟩)
  | 4, u, _ => u = .int .i64 N
  | 5, u, _ => u = .pointer (some ⟨rb + 2, 3, none⟩)
  | 6, u, _ => u = .int .i64 S
  | 7, u, w => RowN .i32 rb a1 n1 u q1 w
  | 8, u, _ => u = .agg #[.slice a2 n2 c2, .bool b2]
  | 9, u, _ => u = .pointer (some ⟨rb + 2, 1, none⟩)
  | 10, u, _ => u = .int .i64 AT
  | 11, u, _ => u = .pointer (some ⟨rb + 2, 2, none⟩)
  | 12, u, _ => u = .int .i64 N
  | 13, u, _ => u = .pointer (some ⟨rb + 2, 3, none⟩)
  | 14, u, _ => u = .int .i64 S
  | 15, u, w => RowN .i64 rb a2 n2 u q2 w
  | _, _, _ => True
def Do3 (rb : Nat) (a1 a2 : Option Addr) (n1 c1 n2 c2 : Nat) (b1 b2 : Bool) (K AT N S X : Int) (q1 q2 : Ro) : Nat → Value → World → Prop
  | 0, u, _ => u = .agg #[.slice a1 n1 c1, .bool b1]
  | 1, u, _ => u = .pointer (some ⟨rb + 2, 1, none⟩)
  | 2, u, _ => u = .int .i64 AT
  | 3, u, _ => u = .pointer (some ⟨rb + 2, 2, none⟩)
  | 4, u, _ => u = .int .i64 N
  | 5, u, _ => u = .pointer (some ⟨rb + 2, 3, none⟩)
  | 6, u, _ => u = .int .i64 S
  | 7, u, w => RowN .i32 rb a1 n1 u q1 w
  | 8, u, _ => u = .agg #[.slice a2 n2 c2, .bool b2]
  | 9, u, _ => u = .pointer (some ⟨rb + 2, 1, none⟩)
  | 10, u, _ => u = .int .i64 AT
  | 11, u, _ => u = .pointer (some ⟨rb + 2, 2, none⟩)
  | 12, u, _ => u = .int .i64 N
  | 13, u, _ => u = .pointer (some ⟨rb + 2, 3, none⟩)
  | 14, u, _ => u = .int .i64 S
  | 15, u, w => RowN .i64 rb a2 n2 u q2 w
  | _, _, _ => True
def Do4 (rb : Nat) (a1 a2 : Option Addr) (n1 c1 n2 c2 : Nat) (b1 b2 : Bool) (K AT N S X : Int) (q1 q2 : Ro) : Nat → Value → World → Prop
  | 0, u, _ => u = .agg #[.slice a1 n1 c1, .bool b1]
  | 1, u, _ => u = .pointer (some ⟨rb + 2, 3, none⟩)
  | 2, u, _ => u = .int .i64 S
  | 3, u, w => RowN .i32 rb a1 n1 u q1 w
  | 4, u, _ => u = .agg #[.slice a2 n2 c2, .bool b2]
  | 5, u, _ => u = .pointer (some ⟨rb + 2, 3, none⟩)
  | 6, u, _ => u = .int .i64 S
  | 7, u, w => RowN .i64 rb a2 n2 u q2 w
  | _, _, _ => True
def Do5 (rb : Nat) (a1 a2 : Option Addr) (n1 c1 n2 c2 : Nat) (b1 b2 : Bool) (K AT N S X WN : Int) (q1 q2 : Ro) : Nat → Value → World → Prop
  | 0, u, _ => u = .agg #[.slice a1 n1 c1, .bool b1]
  | 1, u, _ => u = .int .i64 WN
  | 2, u, w => RowN .i32 rb a1 n1 u q1 w
  | 3, u, _ => u = .agg #[.slice a2 n2 c2, .bool b2]
  | 4, u, _ => u = .int .i64 WN
  | 5, u, w => RowN .i64 rb a2 n2 u q2 w
  | _, _, _ => True

end Go.Proofs.Ytjlljkdlgkociaa.J
