/- The contract of the statements' Do: what it makes is new, or what came in. -/
import Derived.Test.YtkggmcnocpgnbaaDoorJRow
import Derived.Test.YtkggmcnocpgnbaaDoorMerged5
import Derived.Test.YtkggmcnocpgnbaaDoorVIns
import Derived.Test.YtkggmcnocpgnbaaDoorMerged7
import Derived.Test.YtkggmcnocpgnbaaDoorMerged8
import Derived.Test.YtkggmcnocpgnbaaDoorKPut
import Derived.Test.YtkggmcnocpgnbaaDoorKFill
namespace Go.Proofs.YtkggmcnocpgnbaaDoor.J
open Go.RowKit Go.Proofs.YtkggmcnocpgnbaaDoor Go.Proofs.YtkggmcnocpgnbaaDoor.K

/-- a row whose cells aren't in the blocks that Do lays -/
def Fresh (rb : Nat) (a : Option Addr) : Prop := ∀ b off, a = some ⟨b, off, none⟩ → rb ≤ b
def RowN (rk : IntKind) (rb : Nat) (a0 : Option Addr) (n0 : Nat) (u : Value) (r : Ro) (w : World) : Prop := ∃ a c, u = .agg #[.slice a r.l.length c, .bool r.wrapped] ∧ CelsIn rk a r.l.length r.l w ∧ (a = none → c = 0) ∧ r.l.length ≤ c ∧ (c : Int) ≤ 9223372036854775807 ∧ (∀ b off, r.l ≠ [] → a = some ⟨b, off, none⟩ → b < rb ∨ rb + 5 ≤ b) ∧ ((a = a0 ∧ r.l.length = n0) ∨ Fresh rb a)
theorem RowN.belowAll {rk : IntKind} {rb n0 : Nat} {a0 : Option Addr} {u : Value} {r : Ro} {w w' : World} (h : RowN rk rb a0 n0 u r w) (hb : Below w.heap.size w w') : RowN rk rb a0 n0 u r w' := by
  obtain ⟨a, c, h1, h2, h3⟩ := h
  exact ⟨a, c, h1, h2.belowAll hb, h3⟩
theorem RowN.own {rk : IntKind} {T : TypeId} {rb base n0 : Nat} {a0 : Option Addr} {v : Value} {l : List Cel} {b : Bool} {q : Ro} {w : World} (hb : rb + 5 ≤ base) (hl : q.l = l) (hw : q.wrapped = b) (h : OwnC rk T base v l w) : RowN rk rb a0 n0 (.agg #[v, .bool b]) q w := by
  obtain ⟨a, c, rfl, h1, h2, h3, h4, h5⟩ := h.shape
  obtain ⟨l', b'⟩ := q
  simp only at hl hw
  subst hl hw
  exact ⟨a, c, rfl, h1, h3, h4, h5, fun g off _ e => .inr (Nat.le_trans hb (h2 g off e).1), .inr fun g off e => by have := (h2 g off e).1; omega⟩
theorem RowN.ret {rk : IntKind} {rb base n0 : Nat} {a a0 : Option Addr} {c : Nat} {l l0 : List Cel} {b : Bool} {q : Ro} {w w0 : World} (hb : rb + 5 ≤ base) (hl : q.l = l) (hw : q.wrapped = b) (h0 : CelsIn rk a0 n0 l0 w0 ∧ w0.heap.size ≤ rb) (h1 : CelsIn rk a l.length l w) (h3 : a = none → c = 0) (h4 : l.length ≤ c) (h5 : (c : Int) ≤ 9223372036854775807) (h6 : (a = a0 ∧ l.length = n0) ∨ ∀ b off, a = some ⟨b, off, none⟩ → base ≤ b) : RowN rk rb a0 n0 (.agg #[.slice a l.length c, .bool b]) q w := by
  obtain ⟨l', b'⟩ := q
  simp only at hl hw
  subst hl hw
  refine ⟨a, c, rfl, h1, h3, h4, h5, fun g off hne e => ?_, ?_⟩
  · rcases h6 with ⟨h6, h9⟩ | h6
    · left
      rcases h0.1.at_ with h | ⟨b1, o1, h7, h8, _⟩
      · have := h0.1.len
        rw [h] at this
        exact absurd (List.eq_nil_of_length_eq_zero (by rw [h9, this]; rfl)) hne
      · rw [← h6, e] at h7
        cases h7
        exact Nat.lt_of_lt_of_le h8 h0.2
    · exact .inr (Nat.le_trans hb (h6 g off e))
  · rcases h6 with h6 | h6
    · exact .inl h6
    · exact .inr fun g off e => by have := h6 g off e; omega
theorem RowN.set {rk : IntKind} {rb n0 : Nat} {a0 : Option Addr} {u : Value} {r : Ro} {w : World} (h : RowN rk rb a0 n0 u r w) {p o : Nat} (x : Value) (h1 : rb ≤ p) (h2 : p < rb + 5) : RowN rk rb a0 n0 u r (w.setCell ⟨p, o, none⟩ x) := by
  obtain ⟨a, c, e, hi, h3, h4, h5, h6, h7⟩ := h
  refine ⟨a, c, e, ?_, h3, h4, h5, h6, h7⟩
  rcases hi.at_ with h0 | ⟨b, off, ha, hb, hc⟩
  · exact ⟨rfl, .inl h0⟩
  · by_cases h0 : r.l = []
    · exact ⟨rfl, .inl h0⟩
    · have hne : b ≠ p := by have := h6 b off h0 ha; omega
      exact ⟨rfl, .inr ⟨b, off, ha, Nat.lt_of_lt_of_le hb (KeepsWalks.setCell w _ x).size, fun i d hd => (hc i d hd).block (Below.heap_setCell _ _ _ b (fun e => hne e))⟩⟩
/-- a row, and where its cells lie -/
def RowF (rk : IntKind) (rb : Nat) (a0 : Option Addr) (n0 : Nat) (u : Value) (r : Ro) (w : World) : Prop := ∃ p : Rv, u = p.val ∧ RowV rk p.val r w ∧ ((p.a = a0 ∧ p.n = n0) ∨ Fresh rb p.a)
theorem RowN.v {rk : IntKind} {rb n0 : Nat} {a0 : Option Addr} {u : Value} {r : Ro} {w : World} (h : RowN rk rb a0 n0 u r w) : RowF rk rb a0 n0 u r w := by
  obtain ⟨a, c, e, hi, h3, h4, h5, h6, h7⟩ := h
  exact ⟨⟨a, r.l.length, c, r.wrapped⟩, e, ⟨a, c, rfl, hi, h3, h4, h5⟩, h7⟩
/-- what Do answers -/
def DoPost (rb : Nat) (a1 a2 : Option Addr) (n1 n2 : Nat) (q1 q2 : Ro) (w : World) (e : Ending) (w' : World) : Prop := ∃ v1 v2, e = .returned (.tuple #[v1, v2]) ∧ RowF .i32 rb a1 n1 v1 q1 w' ∧ RowF .i64 rb a2 n2 v2 q2 w' ∧ Below rb w w'
theorem do_end {rb n1 n2 : Nat} {a1 a2 : Option Addr} {q1 q2 : Ro} {w w5 u : World} {v1 v2 : Value} {s0 s1 s2 s3 : Value} (hu : Below w5.heap.size w5 u) (hb : Below rb w w5) (hs : rb + 5 ≤ w5.heap.size) (h1 : RowN .i32 rb a1 n1 v1 q1 u) (h2 : RowN .i64 rb a2 n2 v2 q2 u) :
    DoPost rb a1 a2 n1 n2 q1 q2 w (.returned (.tuple #[v1, v2])) ((((u.setCell ⟨rb + 3, 0, none⟩ s0).setCell ⟨rb + 3, 1, none⟩ s1).setCell ⟨rb + 4, 0, none⟩ s2).setCell ⟨rb + 4, 1, none⟩ s3) := by
  have hbu : Below rb w u := hb.trans (hu.mono (by omega))
  refine ⟨v1, v2, rfl, ((((h1.set s0 (by omega) (by omega)).set s1 (by omega) (by omega)).set s2 (by omega) (by omega)).set s3 (by omega) (by omega)).v, ((((h2.set s0 (by omega) (by omega)).set s1 (by omega) (by omega)).set s2 (by omega) (by omega)).set s3 (by omega) (by omega)).v, ?_⟩
  exact (((hbu.setCell (p := ⟨rb + 3, 0, none⟩) (by show rb ≤ rb + 3; omega) _).setCell (p := ⟨rb + 3, 1, none⟩) (by show rb ≤ rb + 3; omega) _).setCell (p := ⟨rb + 4, 0, none⟩) (by show rb ≤ rb + 4; omega) _).setCell (p := ⟨rb + 4, 1, none⟩) (by show rb ≤ rb + 4; omega) _
def Do0 (rb : Nat) (a1 a2 : Option Addr) (n1 c1 n2 c2 : Nat) (b1 b2 : Bool) (K AT N S X : Int) (q1 q2 : Ro) : Nat → Value → World → Prop
  | 0, u, _ => u = .agg #[.slice a1 n1 c1, .bool b1]
  | 1, u, _ => u = .pointer (some ⟨rb + 2, 1, none⟩)
  | 2, u, _ => u = .int .i64 AT
  | 3, u, _ => u = .pointer (some ⟨rb + 2, 4, none⟩)
  | 4, u, _ => u = .int .i32 X
  | 5, u, _ => u = .pointer (some ⟨rb + 2, 3, none⟩)
  | 6, u, _ => u = .int .i64 S
  | 7, u, w => RowN .i32 rb a1 n1 u q1 w
  | 8, u, _ => u = .agg #[.slice a2 n2 c2, .bool b2]
  | 9, u, _ => u = .pointer (some ⟨rb + 2, 1, none⟩)
  | 10, u, _ => u = .int .i64 AT
  | 11, u, _ => u = .pointer (some ⟨rb + 2, 4, none⟩)
  | 12, u, _ => u = .int .i32 X
  | 13, u, _ => u = .int .i64 X
  | 14, u, _ => u = .pointer (some ⟨rb + 2, 3, none⟩)
  | 15, u, _ => u = .int .i64 S
  | 16, u, w => RowN .i64 rb a2 n2 u q2 w
  | _, _, _ => True
def Do1 (rb : Nat) (a1 a2 : Option Addr) (n1 c1 n2 c2 : Nat) (b1 b2 : Bool) (K AT N S X : Int) (q1 q2 : Ro) : Nat → Value → World → Prop
  | 0, u, _ => u = .agg #[.slice a1 n1 c1, .bool b1]
  | 1, u, _ => u = .pointer (some ⟨rb + 2, 1, none⟩)
  | 2, u, _ => u = .int .i64 AT
  | 3, u, _ => u = .pointer (some ⟨rb + 2, 2, none⟩)
  | 4, u, _ => u = .int .i64 N
  | 5, u, _ => u = .pointer (some ⟨rb + 2, 3, none⟩)
  | 6, u, _ => u = .int .i64 S
  | 7, u, w => RowN .i32 rb a1 n1 u q1 w
  | 8, u, _ => u = .agg #[.slice a2 n2 c2, .bool b2]
  | 9, u, _ => u = .pointer (some ⟨rb + 2, 1, none⟩)
  | 10, u, _ => u = .int .i64 AT
  | 11, u, _ => u = .pointer (some ⟨rb + 2, 2, none⟩)
  | 12, u, _ => u = .int .i64 N
  | 13, u, _ => u = .pointer (some ⟨rb + 2, 3, none⟩)
  | 14, u, _ => u = .int .i64 S
  | 15, u, w => RowN .i64 rb a2 n2 u q2 w
  | _, _, _ => True
def Do2 (rb : Nat) (a1 a2 : Option Addr) (n1 c1 n2 c2 : Nat) (b1 b2 : Bool) (K AT N S X : Int) (q1 q2 : Ro) : Nat → Value → World → Prop
  | 0, u, _ => u = .agg #[.slice a1 n1 c1, .bool b1]
  | 1, u, _ => u = .pointer (some ⟨rb + 2, 1, none⟩)
  | 2, u, _ => u = .int .i64 AT
  | 3, u, _ => u = .pointer (some ⟨rb + 2, 2, none⟩)
  | 4, u, _ => u = .int .i64 N
  | 5, u, _ => u = .pointer (some ⟨rb + 2, 3, none⟩)
  | 6, u, _ => u = .int .i64 S
  | 7, u, w => RowN .i32 rb a1 n1 u q1 w
  | 8, u, _ => u = .agg #[.slice a2 n2 c2, .bool b2]
  | 9, u, _ => u = .pointer (some ⟨rb + 2, 1, none⟩)
  | 10, u, _ => u = .int .i64 AT
  | 11, u, _ => u = .pointer (some ⟨rb + 2, 2, none⟩)
  | 12, u, _ => u = .int .i64 N
  | 13, u, _ => u = .pointer (some ⟨rb + 2, 3, none⟩)
  | 14, u, _ => u = .int .i64 S
  | 15, u, w => RowN .i64 rb a2 n2 u q2 w
  | _, _, _ => True
def Do3 (rb : Nat) (a1 a2 : Option Addr) (n1 c1 n2 c2 : Nat) (b1 b2 : Bool) (K AT N S X : Int) (q1 q2 : Ro) : Nat → Value → World → Prop
  | 0, u, _ => u = .agg #[.slice a1 n1 c1, .bool b1]
  | 1, u, _ => u = .pointer (some ⟨rb + 2, 1, none⟩)
  | 2, u, _ => u = .int .i64 AT
  | 3, u, _ => u = .pointer (some ⟨rb + 2, 2, none⟩)
  | 4, u, _ => u = .int .i64 N
  | 5, u, _ => u = .pointer (some ⟨rb + 2, 3, none⟩)
  | 6, u, _ => u = .int .i64 S
  | 7, u, w => RowN .i32 rb a1 n1 u q1 w
  | 8, u, _ => u = .agg #[.slice a2 n2 c2, .bool b2]
  | 9, u, _ => u = .pointer (some ⟨rb + 2, 1, none⟩)
  | 10, u, _ => u = .int .i64 AT
  | 11, u, _ => u = .pointer (some ⟨rb + 2, 2, none⟩)
  | 12, u, _ => u = .int .i64 N
  | 13, u, _ => u = .pointer (some ⟨rb + 2, 3, none⟩)
  | 14, u, _ => u = .int .i64 S
  | 15, u, w => RowN .i64 rb a2 n2 u q2 w
  | _, _, _ => True
def Do4 (rb : Nat) (a1 a2 : Option Addr) (n1 c1 n2 c2 : Nat) (b1 b2 : Bool) (K AT N S X : Int) (q1 q2 : Ro) : Nat → Value → World → Prop
  | 0, u, _ => u = .agg #[.slice a1 n1 c1, .bool b1]
  | 1, u, _ => u = .pointer (some ⟨rb + 2, 3, none⟩)
  | 2, u, _ => u = .int .i64 S
  | 3, u, w => RowN .i32 rb a1 n1 u q1 w
  | 4, u, _ => u = .agg #[.slice a2 n2 c2, .bool b2]
  | 5, u, _ => u = .pointer (some ⟨rb + 2, 3, none⟩)
  | 6, u, _ => u = .int .i64 S
  | 7, u, w => RowN .i64 rb a2 n2 u q2 w
  | _, _, _ => True
def Do5 (rb : Nat) (a1 a2 : Option Addr) (n1 c1 n2 c2 : Nat) (b1 b2 : Bool) (K AT N S X WN : Int) (q1 q2 : Ro) : Nat → Value → World → Prop
  | 0, u, _ => u = .agg #[.slice a1 n1 c1, .bool b1]
  | 1, u, _ => u = .int .i64 WN
  | 2, u, w => RowN .i32 rb a1 n1 u q1 w
  | 3, u, _ => u = .agg #[.slice a2 n2 c2, .bool b2]
  | 4, u, _ => u = .int .i64 WN
  | 5, u, w => RowN .i64 rb a2 n2 u q2 w
  | _, _, _ => True

set_option maxRecDepth 100000 in
set_option maxHeartbeats 16000000 in
theorem do_any (p1 p2 : Rv) (r1 r2 : Ro) (A : ActR) (w : World) (hT : W.Tab w) (h1 : RowV .i32 p1.val r1 w) (h2 : RowV .i64 p2.val r2 w) (hn1 : r1.l.length ≤ 1000) (hn2 : r2.l.length ≤ 1000) (hA : -2147483648 ≤ A.rune ∧ A.rune ≤ 2147483647) :
    Calls Tryd.prog 66 #[p1.val, p2.val, actV A] w (DoPost w.heap.size p1.a p2.a p1.n p2.n (doS W.ofS r1 A) (doS W.ofS r2 A) w) := by
  obtain ⟨rb, hrb⟩ : ∃ rb, w.heap.size = rb := ⟨_, rfl⟩
  rw [hrb]
  obtain ⟨P, hP⟩ : ∃ P, DoPost rb p1.a p2.a p1.n p2.n (doS W.ofS r1 A) (doS W.ofS r2 A) w = P := ⟨_, rfl⟩
  rw [hP]
  have HP0 := Lib.hid hP
  obtain ⟨a1, c1, he1, hi1, hnil1, hcap1, hmx1⟩ := h1
  obtain ⟨a2, c2, he2, hi2, hnil2, hcap2, hmx2⟩ := h2
  obtain rfl : p1 = ⟨a1, r1.l.length, c1, r1.wrapped⟩ := Rv.val_inj he1
  obtain rfl : p2 = ⟨a2, r2.l.length, c2, r2.wrapped⟩ := Rv.val_inj he2
  clear he1 he2
  unfold Rv.val
  obtain ⟨K, AT, N, S, X⟩ := A
  obtain ⟨l1, b1⟩ := r1
  obtain ⟨l2, b2⟩ := r2
  simp only at hi1 hcap1 hi2 hcap2 hn1 hn2 hA ⊢
  obtain ⟨n1, hl1⟩ : ∃ n, l1.length = n := ⟨_, rfl⟩
  obtain ⟨n2, hl2⟩ : ∃ n, l2.length = n := ⟨_, rfl⟩
  have hof : W.refOf X = W.ofS X := (W.ofS_ref X hA.1 hA.2).symm
  have HWr : Hid (IntKind.i64.wrap X = X) := Lib.hid (by rw [IntKind.wrap_i64]; omega)
  rw [hl1] at hi1 hcap1 hn1 ⊢
  rw [hl2] at hi2 hcap2 hn2 ⊢
  unfold actV
  simp only
  obtain ⟨w1, hw1⟩ : ∃ w1, w.alloc (.cells #[.slice a1 n1 c1, .bool b1] 27) = w1 := ⟨_, rfl⟩
  obtain ⟨w2, hw2⟩ : ∃ w2, w1.alloc (.cells #[.slice a2 n2 c2, .bool b2] 38) = w2 := ⟨_, rfl⟩
  obtain ⟨w3, hw3⟩ : ∃ w3, w2.alloc (.cells #[.int .i64 K, .int .i64 AT, .int .i64 N, .int .i64 S, .int .i32 X] 75) = w3 := ⟨_, rfl⟩
  obtain ⟨w4, hw4⟩ : ∃ w4, w3.alloc (.cells #[.slice none 0 0, .bool false] 27) = w4 := ⟨_, rfl⟩
  obtain ⟨w5, hw5⟩ : ∃ w5, w4.alloc (.cells #[.slice none 0 0, .bool false] 38) = w5 := ⟨_, rfl⟩
  have hs1 : w1.heap.size = rb + 1 := by rw [← hw1, World.size_alloc, hrb]
  have hs2 : w2.heap.size = rb + 2 := by rw [← hw2, World.size_alloc, hs1]
  have hs3 : w3.heap.size = rb + 3 := by rw [← hw3, World.size_alloc, hs2]
  have hs4 : w4.heap.size = rb + 4 := by rw [← hw4, World.size_alloc, hs3]
  have hs5 : w5.heap.size = rb + 5 := by rw [← hw5, World.size_alloc, hs4]
  have k45 : Below w4.heap.size w4 w5 := by rw [← hw5]; exact (Below.refl _ _).alloc (Nat.le_refl _) _
  have k35 : Below w3.heap.size w3 w5 := ((by rw [← hw4]; exact (Below.refl _ _).alloc (Nat.le_refl _) _ : Below w3.heap.size w3 w4)).trans (k45.mono (by omega))
  have k25 : Below w2.heap.size w2 w5 := ((by rw [← hw3]; exact (Below.refl _ _).alloc (Nat.le_refl _) _ : Below w2.heap.size w2 w3)).trans (k35.mono (by omega))
  have k15 : Below w1.heap.size w1 w5 := ((by rw [← hw2]; exact (Below.refl _ _).alloc (Nat.le_refl _) _ : Below w1.heap.size w1 w2)).trans (k25.mono (by omega))
  have k05 : Below rb w w5 := ((by rw [← hw1, ← hrb]; exact (Below.refl _ _).alloc (Nat.le_refl _) _ : Below rb w w1)).trans (k15.mono (by omega))
  have o1 : RoB 27 rb (.slice a1 n1 c1) b1 w5 := by
    have h := RoB.new 27 w (.slice a1 n1 c1) b1
    rw [hw1, hrb] at h
    exact h.belowAll k15
  have o2 : RoB 38 (rb + 1) (.slice a2 n2 c2) b2 w5 := by
    have h := RoB.new 38 w1 (.slice a2 n2 c2) b2
    rw [hw2, hs1] at h
    exact h.belowAll k25
  have o3 : w5.heap[rb + 2]? = some (.cells #[.int .i64 K, .int .i64 AT, .int .i64 N, .int .i64 S, .int .i32 X] 75 (0, 0)) := by
    have h := World.alloc_heap_new w2 (.cells #[.int .i64 K, .int .i64 AT, .int .i64 N, .int .i64 S, .int .i32 X] 75)
    rw [hw3, hs2] at h
    exact (k35.block (rb + 2) (by omega)).trans h
  have HQ1 : Hid (RoB 27 (rb + 3) (.slice none 0 0) false w5) := Lib.hid (by
    have h := RoB.new 27 w3 (.slice none 0 0) false
    rw [hw4, hs3] at h
    exact h.belowAll k45)
  have HQ2 : Hid (RoB 38 (rb + 4) (.slice none 0 0) false w5) := Lib.hid (by
    have h := RoB.new 38 w4 (.slice none 0 0) false
    rw [hw5, hs4] at h
    exact h)
  have HR0 := Lib.hid o1.c0
  have HR1 := Lib.hid o1.c1
  have HX0 := Lib.hid o2.c0
  have HX1 := Lib.hid o2.c1
  have HA0 : Hid (w5.cell? ⟨rb + 2, 0, none⟩ = some (.int .i64 K)) := Lib.hid (by simp [World.cell?, o3])
  have HA1 : Hid (w5.cell? ⟨rb + 2, 1, none⟩ = some (.int .i64 AT)) := Lib.hid (by simp [World.cell?, o3])
  have HA2 : Hid (w5.cell? ⟨rb + 2, 2, none⟩ = some (.int .i64 N)) := Lib.hid (by simp [World.cell?, o3])
  have HA3 : Hid (w5.cell? ⟨rb + 2, 3, none⟩ = some (.int .i64 S)) := Lib.hid (by simp [World.cell?, o3])
  have HA4 : Hid (w5.cell? ⟨rb + 2, 4, none⟩ = some (.int .i32 X)) := Lib.hid (by simp [World.cell?, o3])
  have HZ0 : Hid (rb < w5.heap.size) := Lib.hid (by omega)
  have HZ1 : Hid (rb + 1 < w5.heap.size) := Lib.hid (by omega)
  have HZ2 : Hid (rb + 2 < w5.heap.size) := Lib.hid (by omega)
  have HZ3 : Hid (rb + 3 < w5.heap.size) := Lib.hid (by omega)
  have HZ4 : Hid (rb + 4 < w5.heap.size) := Lib.hid (by omega)
  have HZL : Hid (rb + 5 ≤ w5.heap.size) := Lib.hid (by omega)
  have HB := Lib.hid k05
  have HT : Hid (W.Tab w5) := Lib.hid (hT.belowAll (by rw [hrb]; exact k05))
  have HI1 : Hid (CelsIn .i32 a1 n1 l1 w5) := Lib.hid (hi1.belowAll (by rw [hrb]; exact k05))
  have HI2 : Hid (CelsIn .i64 a2 n2 l2 w5) := Lib.hid (hi2.belowAll (by rw [hrb]; exact k05))
  have HOld : Hid (CelsIn .i64 a2 n2 l2 w ∧ w.heap.size ≤ rb) := Lib.hid ⟨hi2, by omega⟩
  have HN1 := Lib.hid hnil1
  have HN2 := Lib.hid hnil2
  have HC1 := Lib.hid hcap1
  have HC2 := Lib.hid hcap2
  have HM1 := Lib.hid hmx1
  have HM2 := Lib.hid hmx2
  have HL1 := Lib.hid hl1
  have HL2 := Lib.hid hl2
  have HOf := Lib.hid hof
  have HW1 := Lib.hid hw1
  have HW2 := Lib.hid hw2
  have HW3 := Lib.hid hw3
  have HW4 := Lib.hid hw4
  have HW5 := Lib.hid hw5
  have HRb := Lib.hid hrb
  have HS1 := Lib.hid hs1
  have HS2 := Lib.hid hs2
  have HS3 := Lib.hid hs3
  have HS4 := Lib.hid hs4
  have cK := HA0.out
  clear hP hT hi1 hi2 hnil1 hnil2 hcap1 hcap2 hmx1 hmx2 hl1 hl2 hof hw1 hw2 hw3 hw4 hw5 hs1 hs2 hs3 hs4 hs5 k45 k35 k25 k15 k05 o1 o2 o3 hrb
  go_enter Tryd.func66, Tryd.ntmps66
  go_upto_region 1 with fail
  rw [HW1.out, HRb.out, HW2.out, HW3.out, HW4.out, HW5.out, show rb + 1 + 1 + 1 + 1 = rb + 4 from rfl, show rb + 1 + 1 + 1 = rb + 3 from rfl, show rb + 1 + 1 = rb + 2 from rfl]
  by_cases hk0 : K = 0
  · subst hk0
    obtain ⟨q1, hq1⟩ : ∃ q1 : Ro, q1 = ⟨putS (W.ofS X) l1 AT X S, false⟩ := ⟨_, rfl⟩
    obtain ⟨q2, hq2⟩ : ∃ q2 : Ro, q2 = ⟨putS (W.refOf X) l2 AT X S, false⟩ := ⟨_, rfl⟩
    have HE1 : Hid (q1.l = putS (W.ofS X) l1 AT X S) := Lib.hid (by rw [hq1])
    have HE2 : Hid (q2.l = putS (W.refOf X) l2 AT X S) := Lib.hid (by rw [hq2])
    have HV1 : Hid (q1.wrapped = false) := Lib.hid (by rw [hq1])
    have HV2 : Hid (q2.wrapped = false) := Lib.hid (by rw [hq2])
    have HP : Hid (DoPost rb a1 a2 n1 n2 q1 q2 w = P) := Lib.hid (by
      rw [← HP0.out, hq1, hq2, ← HL1.out, ← HL2.out, HOf.out]
      rfl)
    clear hq1 hq2
    go_upto_region 3 with fail
    refine Go.Proofs.YtkggmcnocpgnbaaDoor.R.wp_region_tailV 17 (by kernel_rfl) (fun u => Below w5.heap.size w5 u) (fun u v => Below u.heap.size u v) (Do0 rb a1 a2 n1 c1 n2 c2 b1 b2 0 AT N S X q1 q2) (by rfl) (by kernel_rfl) (by decide) (by kernel_rfl) (by kernel_rfl) (by kernel_rfl) ?hC ?hOk ?hop ?hdone ((Below.refl _ _).drew)
    case hC => exact fun u v hu huv => hu.trans (huv.mono hu.size)
    case hOk =>
      intro i x u u' hv huu
      unfold Do0 at hv ⊢
      split at hv
      all_goals first | exact hv | exact RowN.belowAll hv huu | trivial
    case hop =>
      refine ⟨?_, ?_, ?_, ?_, ?_, ?_, ?_, ?_, ?_, ?_, ?_, ?_, ?_, ?_, ?_, ?_, ?_, trivial⟩
      · intro z v hz hag hdep
        refine .inl ⟨rfl, fun K hK => ?_⟩
        have d3 : z.tmps.getD 3 undef = .pointer (some ⟨rb, 0, none⟩) := hag.2.2 3 (by kernel_rfl)
        have e3 := d3
        rw [Array.getD_eq_getD_getElem?] at e3
        have l0 := (hz.cell (p := ⟨rb, 0, none⟩) HZ0.out).trans HR0.out
        have l1 := (hz.cell (p := ⟨rb, 1, none⟩) HZ0.out).trans HR1.out
        clear hz
        clear hdep hag 
        go_simp
        exact hK _ _ (Below.refl _ _) rfl
      · intro z v hz hag hdep
        refine .inl ⟨rfl, fun K hK => ?_⟩
        have d5 : z.tmps.getD 5 undef = .pointer (some ⟨rb + 2, 0, none⟩) := hag.2.2 5 (by kernel_rfl)
        have e5 := d5
        rw [Array.getD_eq_getD_getElem?] at e5
        clear hdep hag 
        go_simp
        exact hK _ _ (Below.refl _ _) rfl
      · intro z v hz hag hdep
        refine .inl ⟨rfl, fun K hK => ?_⟩
        have d14 : z.tmps.getD 14 undef = .pointer (some ⟨rb + 2, 1, none⟩) := hdep { on := 1, ground := .data } (by simp) rfl _ _ rfl rfl
        have e14 := d14
        rw [Array.getD_eq_getD_getElem?] at e14
        have l0 := (hz.cell (p := ⟨rb + 2, 1, none⟩) HZ2.out).trans HA1.out
        clear hz
        clear hdep hag 
        go_simp
        exact hK _ _ (Below.refl _ _) rfl
      · intro z v hz hag hdep
        refine .inl ⟨rfl, fun K hK => ?_⟩
        have d5 : z.tmps.getD 5 undef = .pointer (some ⟨rb + 2, 0, none⟩) := hag.2.2 5 (by kernel_rfl)
        have e5 := d5
        rw [Array.getD_eq_getD_getElem?] at e5
        clear hdep hag 
        go_simp
        exact hK _ _ (Below.refl _ _) rfl
      · intro z v hz hag hdep
        refine .inl ⟨rfl, fun K hK => ?_⟩
        have d16 : z.tmps.getD 16 undef = .pointer (some ⟨rb + 2, 4, none⟩) := hdep { on := 3, ground := .data } (by simp) rfl _ _ rfl rfl
        have e16 := d16
        rw [Array.getD_eq_getD_getElem?] at e16
        have l0 := (hz.cell (p := ⟨rb + 2, 4, none⟩) HZ2.out).trans HA4.out
        clear hz
        clear hdep hag 
        go_simp
        exact hK _ _ (Below.refl _ _) rfl
      · intro z v hz hag hdep
        refine .inl ⟨rfl, fun K hK => ?_⟩
        have d5 : z.tmps.getD 5 undef = .pointer (some ⟨rb + 2, 0, none⟩) := hag.2.2 5 (by kernel_rfl)
        have e5 := d5
        rw [Array.getD_eq_getD_getElem?] at e5
        clear hdep hag 
        go_simp
        exact hK _ _ (Below.refl _ _) rfl
      · intro z v hz hag hdep
        refine .inl ⟨rfl, fun K hK => ?_⟩
        have d18 : z.tmps.getD 18 undef = .pointer (some ⟨rb + 2, 3, none⟩) := hdep { on := 5, ground := .data } (by simp) rfl _ _ rfl rfl
        have e18 := d18
        rw [Array.getD_eq_getD_getElem?] at e18
        have l0 := (hz.cell (p := ⟨rb + 2, 3, none⟩) HZ2.out).trans HA3.out
        clear hz
        clear hdep hag 
        go_simp
        exact hK _ _ (Below.refl _ _) rfl
      · intro z v hz hag hdep
        refine .inl ⟨rfl, fun K hK => ?_⟩
        have d13 : z.tmps.getD 13 undef = .agg #[.slice a1 n1 c1, .bool b1] := hdep { on := 0, ground := .data } (by simp) rfl _ _ rfl rfl
        have e13 := d13
        rw [Array.getD_eq_getD_getElem?] at e13
        have d15 : z.tmps.getD 15 undef = .int .i64 AT := hdep { on := 2, ground := .data } (by simp) rfl _ _ rfl rfl
        have e15 := d15
        rw [Array.getD_eq_getD_getElem?] at e15
        have d17 : z.tmps.getD 17 undef = .int .i32 X := hdep { on := 4, ground := .data } (by simp) rfl _ _ rfl rfl
        have e17 := d17
        rw [Array.getD_eq_getD_getElem?] at e17
        have d19 : z.tmps.getD 19 undef = .int .i64 S := hdep { on := 6, ground := .data } (by simp) rfl _ _ rfl rfl
        have e19 := d19
        rw [Array.getD_eq_getD_getElem?] at e19
        have HC := Lib.hid (rowPut_any a1 n1 c1 b1 l1 AT X S v (HT.out.belowAll hz) (HI1.out.belowAll hz) HN1.out (by omega))
        have HZs := Lib.hid hz.size
        clear hdep hag hz
        go_simp
        refine HC.out.mono ?_
        rintro e w' ⟨v', rfl, h1, h2⟩
        have hsz := Nat.le_trans HZL.out HZs.out
        exact hK _ _ h2 (RowN.own hsz HE1.out HV1.out h1)
      · intro z v hz hag hdep
        refine .inl ⟨rfl, fun K hK => ?_⟩
        have d4 : z.tmps.getD 4 undef = .pointer (some ⟨rb + 1, 0, none⟩) := hag.2.2 4 (by kernel_rfl)
        have e4 := d4
        rw [Array.getD_eq_getD_getElem?] at e4
        have l0 := (hz.cell (p := ⟨rb + 1, 0, none⟩) HZ1.out).trans HX0.out
        have l1 := (hz.cell (p := ⟨rb + 1, 1, none⟩) HZ1.out).trans HX1.out
        clear hz
        clear hdep hag 
        go_simp
        exact hK _ _ (Below.refl _ _) rfl
      · intro z v hz hag hdep
        refine .inl ⟨rfl, fun K hK => ?_⟩
        have d5 : z.tmps.getD 5 undef = .pointer (some ⟨rb + 2, 0, none⟩) := hag.2.2 5 (by kernel_rfl)
        have e5 := d5
        rw [Array.getD_eq_getD_getElem?] at e5
        clear hdep hag 
        go_simp
        exact hK _ _ (Below.refl _ _) rfl
      · intro z v hz hag hdep
        refine .inl ⟨rfl, fun K hK => ?_⟩
        have d22 : z.tmps.getD 22 undef = .pointer (some ⟨rb + 2, 1, none⟩) := hdep { on := 9, ground := .data } (by simp) rfl _ _ rfl rfl
        have e22 := d22
        rw [Array.getD_eq_getD_getElem?] at e22
        have l0 := (hz.cell (p := ⟨rb + 2, 1, none⟩) HZ2.out).trans HA1.out
        clear hz
        clear hdep hag 
        go_simp
        exact hK _ _ (Below.refl _ _) rfl
      · intro z v hz hag hdep
        refine .inl ⟨rfl, fun K hK => ?_⟩
        have d5 : z.tmps.getD 5 undef = .pointer (some ⟨rb + 2, 0, none⟩) := hag.2.2 5 (by kernel_rfl)
        have e5 := d5
        rw [Array.getD_eq_getD_getElem?] at e5
        clear hdep hag 
        go_simp
        exact hK _ _ (Below.refl _ _) rfl
      · intro z v hz hag hdep
        refine .inl ⟨rfl, fun K hK => ?_⟩
        have d24 : z.tmps.getD 24 undef = .pointer (some ⟨rb + 2, 4, none⟩) := hdep { on := 11, ground := .data } (by simp) rfl _ _ rfl rfl
        have e24 := d24
        rw [Array.getD_eq_getD_getElem?] at e24
        have l0 := (hz.cell (p := ⟨rb + 2, 4, none⟩) HZ2.out).trans HA4.out
        clear hz
        clear hdep hag 
        go_simp
        exact hK _ _ (Below.refl _ _) rfl
      · intro z v hz hag hdep
        refine .inl ⟨rfl, fun K hK => ?_⟩
        have d25 : z.tmps.getD 25 undef = .int .i32 X := hdep { on := 12, ground := .data } (by simp) rfl _ _ rfl rfl
        have e25 := d25
        rw [Array.getD_eq_getD_getElem?] at e25
        have hwr := HWr.out
        clear hz
        clear hdep hag 
        go_simp
        exact hK _ _ (Below.refl _ _) rfl
      · intro z v hz hag hdep
        refine .inl ⟨rfl, fun K hK => ?_⟩
        have d5 : z.tmps.getD 5 undef = .pointer (some ⟨rb + 2, 0, none⟩) := hag.2.2 5 (by kernel_rfl)
        have e5 := d5
        rw [Array.getD_eq_getD_getElem?] at e5
        clear hdep hag 
        go_simp
        exact hK _ _ (Below.refl _ _) rfl
      · intro z v hz hag hdep
        refine .inl ⟨rfl, fun K hK => ?_⟩
        have d27 : z.tmps.getD 27 undef = .pointer (some ⟨rb + 2, 3, none⟩) := hdep { on := 14, ground := .data } (by simp) rfl _ _ rfl rfl
        have e27 := d27
        rw [Array.getD_eq_getD_getElem?] at e27
        have l0 := (hz.cell (p := ⟨rb + 2, 3, none⟩) HZ2.out).trans HA3.out
        clear hz
        clear hdep hag 
        go_simp
        exact hK _ _ (Below.refl _ _) rfl
      · intro z v hz hag hdep
        refine .inl ⟨rfl, fun K hK => ?_⟩
        have d21 : z.tmps.getD 21 undef = .agg #[.slice a2 n2 c2, .bool b2] := hdep { on := 8, ground := .data } (by simp) rfl _ _ rfl rfl
        have e21 := d21
        rw [Array.getD_eq_getD_getElem?] at e21
        have d23 : z.tmps.getD 23 undef = .int .i64 AT := hdep { on := 10, ground := .data } (by simp) rfl _ _ rfl rfl
        have e23 := d23
        rw [Array.getD_eq_getD_getElem?] at e23
        have d26 : z.tmps.getD 26 undef = .int .i64 X := hdep { on := 13, ground := .data } (by simp) rfl _ _ rfl rfl
        have e26 := d26
        rw [Array.getD_eq_getD_getElem?] at e26
        have d28 : z.tmps.getD 28 undef = .int .i64 S := hdep { on := 15, ground := .data } (by simp) rfl _ _ rfl rfl
        have e28 := d28
        rw [Array.getD_eq_getD_getElem?] at e28
        have HC := Lib.hid (refPut_any a2 n2 c2 b2 l2 AT X S v (HI2.out.belowAll hz) HN2.out (by omega))
        have HZs := Lib.hid hz.size
        clear hdep hag hz
        go_simp
        refine HC.out.mono ?_
        rintro e w' ⟨v', rfl, h1, h2⟩
        have hsz := Nat.le_trans HZL.out HZs.out
        exact hK _ _ h2 (RowN.own hsz HE2.out HV2.out h1)
    case hdone =>
      intro z u hu hag hok hno
      clear hno
      have d1 : RowN .i32 rb a1 n1 (z.tmps.getD 20 undef) q1 u := hok 7 _ 20 (by decide) rfl rfl
      have d2 : RowN .i64 rb a2 n2 (z.tmps.getD 29 undef) q2 u := hok 16 _ 29 (by decide) rfl rfl
      obtain ⟨uu, huu, hzz⟩ := Go.Proofs.YtkggmcnocpgnbaaDoor.R.agree_frame [13, 14, 15, 16, 17, 18, 19, 20, 21, 22, 23, 24, 25, 26, 27, 28, 29] rfl hag
      obtain ⟨v1, hv1⟩ : ∃ v, z.tmps.getD 20 undef = v := ⟨_, rfl⟩
      obtain ⟨v2, hv2⟩ : ∃ v, z.tmps.getD 29 undef = v := ⟨_, rfl⟩
      rw [hv1] at d1
      rw [hv2] at d2
      have e1 := (huu 20).trans hv1
      have e2 := (huu 29).trans hv2
      subst hzz
      have HU := Lib.hid hu
      have HD1 := Lib.hid d1
      have HD2 := Lib.hid d2
      obtain ⟨x1, y1, he1, -⟩ := d1
      obtain ⟨x2, y2, he2, -⟩ := d2
      obtain ⟨m1, hm1⟩ : ∃ m, q1.l.length = m := ⟨_, rfl⟩
      obtain ⟨m2, hm2⟩ : ∃ m, q2.l.length = m := ⟨_, rfl⟩
      obtain ⟨g1, hg1⟩ : ∃ g, q1.wrapped = g := ⟨_, rfl⟩
      obtain ⟨g2, hg2⟩ : ∃ g, q2.wrapped = g := ⟨_, rfl⟩
      rw [hm1, hg1] at he1
      rw [hm2, hg2] at he2
      subst he1 he2
      have s0 := (hu.cell (p := ⟨rb + 3, 0, none⟩) HZ3.out).trans HQ1.out.c0
      have s1 := (hu.cell (p := ⟨rb + 3, 1, none⟩) HZ3.out).trans HQ1.out.c1
      have s2 := (hu.cell (p := ⟨rb + 4, 0, none⟩) HZ4.out).trans HQ2.out.c0
      have s3 := (hu.cell (p := ⟨rb + 4, 1, none⟩) HZ4.out).trans HQ2.out.c1
      have f0 := (HQ1.out.below hu HZ3.out).fr 0
      have f1 := (HQ1.out.below hu HZ3.out).fr 1
      have f2 := (HQ2.out.below hu HZ4.out).fr 0
      have f3 := (HQ2.out.below hu HZ4.out).fr 1
      clear hag hok huu hv1 hv2 hm1 hm2 hg1 hg2 hu
      simp only [List.foldl_cons, List.foldl_nil]
      rw [e1, e2]
      clear e1 e2
      dsimp only [List.drop]
      go_wp2_with fail
      refine bodyPost_ret (v := .tuple #[.agg #[.slice x1 m1 y1, .bool g1], .agg #[.slice x2 m2 y2, .bool g2]]) (by rw [results_cell_cell (fn := Tryd.f66) rfl]; go_simp <;> rfl) rfl ?_
      rw [← HP.out]
      exact do_end HU.out HB.out HZL.out HD1.out HD2.out
  · have p0 : (K == 0) = false := by rw [beq_eq_false_iff_ne]; exact hk0
    by_cases hk1 : K = 1
    · subst hk1
      obtain ⟨q1, hq1⟩ : ∃ q1 : Ro, q1 = ⟨eraseS l1 AT N S, false⟩ := ⟨_, rfl⟩
      obtain ⟨q2, hq2⟩ : ∃ q2 : Ro, q2 = ⟨eraseS l2 AT N S, false⟩ := ⟨_, rfl⟩
      have HE1 : Hid (q1.l = eraseS l1 AT N S) := Lib.hid (by rw [hq1])
      have HE2 : Hid (q2.l = eraseS l2 AT N S) := Lib.hid (by rw [hq2])
      have HV1 : Hid (q1.wrapped = false) := Lib.hid (by rw [hq1])
      have HV2 : Hid (q2.wrapped = false) := Lib.hid (by rw [hq2])
      have HP : Hid (DoPost rb a1 a2 n1 n2 q1 q2 w = P) := Lib.hid (by
        rw [← HP0.out, hq1, hq2, ← HL1.out, ← HL2.out]
        rfl)
      clear hq1 hq2
      clear hk0 p0
      go_upto_region 5 with fail
      refine Go.Proofs.YtkggmcnocpgnbaaDoor.R.wp_region_tailV 16 (by kernel_rfl) (fun u => Below w5.heap.size w5 u) (fun u v => Below u.heap.size u v) (Do1 rb a1 a2 n1 c1 n2 c2 b1 b2 1 AT N S X q1 q2) (by rfl) (by kernel_rfl) (by decide) (by kernel_rfl) (by kernel_rfl) (by kernel_rfl) ?hC ?hOk ?hop ?hdone ((Below.refl _ _).drew)
      case hC => exact fun u v hu huv => hu.trans (huv.mono hu.size)
      case hOk =>
        intro i x u u' hv huu
        unfold Do1 at hv ⊢
        split at hv
        all_goals first | exact hv | exact RowN.belowAll hv huu | trivial
      case hop =>
        refine ⟨?_, ?_, ?_, ?_, ?_, ?_, ?_, ?_, ?_, ?_, ?_, ?_, ?_, ?_, ?_, ?_, trivial⟩
        · intro z v hz hag hdep
          refine .inl ⟨rfl, fun K hK => ?_⟩
          have d3 : z.tmps.getD 3 undef = .pointer (some ⟨rb, 0, none⟩) := hag.2.2 3 (by kernel_rfl)
          have e3 := d3
          rw [Array.getD_eq_getD_getElem?] at e3
          have l0 := (hz.cell (p := ⟨rb, 0, none⟩) HZ0.out).trans HR0.out
          have l1 := (hz.cell (p := ⟨rb, 1, none⟩) HZ0.out).trans HR1.out
          clear hz
          clear hdep hag 
          go_simp
          exact hK _ _ (Below.refl _ _) rfl
        · intro z v hz hag hdep
          refine .inl ⟨rfl, fun K hK => ?_⟩
          have d5 : z.tmps.getD 5 undef = .pointer (some ⟨rb + 2, 0, none⟩) := hag.2.2 5 (by kernel_rfl)
          have e5 := d5
          rw [Array.getD_eq_getD_getElem?] at e5
          clear hdep hag 
          go_simp
          exact hK _ _ (Below.refl _ _) rfl
        · intro z v hz hag hdep
          refine .inl ⟨rfl, fun K hK => ?_⟩
          have d33 : z.tmps.getD 33 undef = .pointer (some ⟨rb + 2, 1, none⟩) := hdep { on := 1, ground := .data } (by simp) rfl _ _ rfl rfl
          have e33 := d33
          rw [Array.getD_eq_getD_getElem?] at e33
          have l0 := (hz.cell (p := ⟨rb + 2, 1, none⟩) HZ2.out).trans HA1.out
          clear hz
          clear hdep hag 
          go_simp
          exact hK _ _ (Below.refl _ _) rfl
        · intro z v hz hag hdep
          refine .inl ⟨rfl, fun K hK => ?_⟩
          have d5 : z.tmps.getD 5 undef = .pointer (some ⟨rb + 2, 0, none⟩) := hag.2.2 5 (by kernel_rfl)
          have e5 := d5
          rw [Array.getD_eq_getD_getElem?] at e5
          clear hdep hag 
          go_simp
          exact hK _ _ (Below.refl _ _) rfl
        · intro z v hz hag hdep
          refine .inl ⟨rfl, fun K hK => ?_⟩
          have d35 : z.tmps.getD 35 undef = .pointer (some ⟨rb + 2, 2, none⟩) := hdep { on := 3, ground := .data } (by simp) rfl _ _ rfl rfl
          have e35 := d35
          rw [Array.getD_eq_getD_getElem?] at e35
          have l0 := (hz.cell (p := ⟨rb + 2, 2, none⟩) HZ2.out).trans HA2.out
          clear hz
          clear hdep hag 
          go_simp
          exact hK _ _ (Below.refl _ _) rfl
        · intro z v hz hag hdep
          refine .inl ⟨rfl, fun K hK => ?_⟩
          have d5 : z.tmps.getD 5 undef = .pointer (some ⟨rb + 2, 0, none⟩) := hag.2.2 5 (by kernel_rfl)
          have e5 := d5
          rw [Array.getD_eq_getD_getElem?] at e5
          clear hdep hag 
          go_simp
          exact hK _ _ (Below.refl _ _) rfl
        · intro z v hz hag hdep
          refine .inl ⟨rfl, fun K hK => ?_⟩
          have d37 : z.tmps.getD 37 undef = .pointer (some ⟨rb + 2, 3, none⟩) := hdep { on := 5, ground := .data } (by simp) rfl _ _ rfl rfl
          have e37 := d37
          rw [Array.getD_eq_getD_getElem?] at e37
          have l0 := (hz.cell (p := ⟨rb + 2, 3, none⟩) HZ2.out).trans HA3.out
          clear hz
          clear hdep hag 
          go_simp
          exact hK _ _ (Below.refl _ _) rfl
        · intro z v hz hag hdep
          refine .inl ⟨rfl, fun K hK => ?_⟩
          have d32 : z.tmps.getD 32 undef = .agg #[.slice a1 n1 c1, .bool b1] := hdep { on := 0, ground := .data } (by simp) rfl _ _ rfl rfl
          have e32 := d32
          rw [Array.getD_eq_getD_getElem?] at e32
          have d34 : z.tmps.getD 34 undef = .int .i64 AT := hdep { on := 2, ground := .data } (by simp) rfl _ _ rfl rfl
          have e34 := d34
          rw [Array.getD_eq_getD_getElem?] at e34
          have d36 : z.tmps.getD 36 undef = .int .i64 N := hdep { on := 4, ground := .data } (by simp) rfl _ _ rfl rfl
          have e36 := d36
          rw [Array.getD_eq_getD_getElem?] at e36
          have d38 : z.tmps.getD 38 undef = .int .i64 S := hdep { on := 6, ground := .data } (by simp) rfl _ _ rfl rfl
          have e38 := d38
          rw [Array.getD_eq_getD_getElem?] at e38
          have HC := Lib.hid (rowErase_any a1 n1 c1 b1 l1 AT N S v (HI1.out.belowAll hz) HN1.out (by omega))
          have HZs := Lib.hid hz.size
          clear hdep hag hz
          go_simp
          refine HC.out.mono ?_
          rintro e w' ⟨v', rfl, h1, h2⟩
          have hsz := Nat.le_trans HZL.out HZs.out
          exact hK _ _ h2 (RowN.own hsz HE1.out HV1.out h1)
        · intro z v hz hag hdep
          refine .inl ⟨rfl, fun K hK => ?_⟩
          have d4 : z.tmps.getD 4 undef = .pointer (some ⟨rb + 1, 0, none⟩) := hag.2.2 4 (by kernel_rfl)
          have e4 := d4
          rw [Array.getD_eq_getD_getElem?] at e4
          have l0 := (hz.cell (p := ⟨rb + 1, 0, none⟩) HZ1.out).trans HX0.out
          have l1 := (hz.cell (p := ⟨rb + 1, 1, none⟩) HZ1.out).trans HX1.out
          clear hz
          clear hdep hag 
          go_simp
          exact hK _ _ (Below.refl _ _) rfl
        · intro z v hz hag hdep
          refine .inl ⟨rfl, fun K hK => ?_⟩
          have d5 : z.tmps.getD 5 undef = .pointer (some ⟨rb + 2, 0, none⟩) := hag.2.2 5 (by kernel_rfl)
          have e5 := d5
          rw [Array.getD_eq_getD_getElem?] at e5
          clear hdep hag 
          go_simp
          exact hK _ _ (Below.refl _ _) rfl
        · intro z v hz hag hdep
          refine .inl ⟨rfl, fun K hK => ?_⟩
          have d41 : z.tmps.getD 41 undef = .pointer (some ⟨rb + 2, 1, none⟩) := hdep { on := 9, ground := .data } (by simp) rfl _ _ rfl rfl
          have e41 := d41
          rw [Array.getD_eq_getD_getElem?] at e41
          have l0 := (hz.cell (p := ⟨rb + 2, 1, none⟩) HZ2.out).trans HA1.out
          clear hz
          clear hdep hag 
          go_simp
          exact hK _ _ (Below.refl _ _) rfl
        · intro z v hz hag hdep
          refine .inl ⟨rfl, fun K hK => ?_⟩
          have d5 : z.tmps.getD 5 undef = .pointer (some ⟨rb + 2, 0, none⟩) := hag.2.2 5 (by kernel_rfl)
          have e5 := d5
          rw [Array.getD_eq_getD_getElem?] at e5
          clear hdep hag 
          go_simp
          exact hK _ _ (Below.refl _ _) rfl
        · intro z v hz hag hdep
          refine .inl ⟨rfl, fun K hK => ?_⟩
          have d43 : z.tmps.getD 43 undef = .pointer (some ⟨rb + 2, 2, none⟩) := hdep { on := 11, ground := .data } (by simp) rfl _ _ rfl rfl
          have e43 := d43
          rw [Array.getD_eq_getD_getElem?] at e43
          have l0 := (hz.cell (p := ⟨rb + 2, 2, none⟩) HZ2.out).trans HA2.out
          clear hz
          clear hdep hag 
          go_simp
          exact hK _ _ (Below.refl _ _) rfl
        · intro z v hz hag hdep
          refine .inl ⟨rfl, fun K hK => ?_⟩
          have d5 : z.tmps.getD 5 undef = .pointer (some ⟨rb + 2, 0, none⟩) := hag.2.2 5 (by kernel_rfl)
          have e5 := d5
          rw [Array.getD_eq_getD_getElem?] at e5
          clear hdep hag 
          go_simp
          exact hK _ _ (Below.refl _ _) rfl
        · intro z v hz hag hdep
          refine .inl ⟨rfl, fun K hK => ?_⟩
          have d45 : z.tmps.getD 45 undef = .pointer (some ⟨rb + 2, 3, none⟩) := hdep { on := 13, ground := .data } (by simp) rfl _ _ rfl rfl
          have e45 := d45
          rw [Array.getD_eq_getD_getElem?] at e45
          have l0 := (hz.cell (p := ⟨rb + 2, 3, none⟩) HZ2.out).trans HA3.out
          clear hz
          clear hdep hag 
          go_simp
          exact hK _ _ (Below.refl _ _) rfl
        · intro z v hz hag hdep
          refine .inl ⟨rfl, fun K hK => ?_⟩
          have d40 : z.tmps.getD 40 undef = .agg #[.slice a2 n2 c2, .bool b2] := hdep { on := 8, ground := .data } (by simp) rfl _ _ rfl rfl
          have e40 := d40
          rw [Array.getD_eq_getD_getElem?] at e40
          have d42 : z.tmps.getD 42 undef = .int .i64 AT := hdep { on := 10, ground := .data } (by simp) rfl _ _ rfl rfl
          have e42 := d42
          rw [Array.getD_eq_getD_getElem?] at e42
          have d44 : z.tmps.getD 44 undef = .int .i64 N := hdep { on := 12, ground := .data } (by simp) rfl _ _ rfl rfl
          have e44 := d44
          rw [Array.getD_eq_getD_getElem?] at e44
          have d46 : z.tmps.getD 46 undef = .int .i64 S := hdep { on := 14, ground := .data } (by simp) rfl _ _ rfl rfl
          have e46 := d46
          rw [Array.getD_eq_getD_getElem?] at e46
          have HC := Lib.hid (refErase_any a2 n2 c2 b2 l2 AT N S v (HI2.out.belowAll hz) HN2.out (by omega))
          have HZs := Lib.hid hz.size
          clear hdep hag hz
          go_simp
          refine HC.out.mono ?_
          rintro e w' ⟨v', rfl, h1, h2⟩
          have hsz := Nat.le_trans HZL.out HZs.out
          exact hK _ _ h2 (RowN.own hsz HE2.out HV2.out h1)
      case hdone =>
        intro z u hu hag hok hno
        clear hno
        have d1 : RowN .i32 rb a1 n1 (z.tmps.getD 39 undef) q1 u := hok 7 _ 39 (by decide) rfl rfl
        have d2 : RowN .i64 rb a2 n2 (z.tmps.getD 47 undef) q2 u := hok 15 _ 47 (by decide) rfl rfl
        obtain ⟨uu, huu, hzz⟩ := Go.Proofs.YtkggmcnocpgnbaaDoor.R.agree_frame [32, 33, 34, 35, 36, 37, 38, 39, 40, 41, 42, 43, 44, 45, 46, 47] rfl hag
        obtain ⟨v1, hv1⟩ : ∃ v, z.tmps.getD 39 undef = v := ⟨_, rfl⟩
        obtain ⟨v2, hv2⟩ : ∃ v, z.tmps.getD 47 undef = v := ⟨_, rfl⟩
        rw [hv1] at d1
        rw [hv2] at d2
        have e1 := (huu 39).trans hv1
        have e2 := (huu 47).trans hv2
        subst hzz
        have HU := Lib.hid hu
        have HD1 := Lib.hid d1
        have HD2 := Lib.hid d2
        obtain ⟨x1, y1, he1, -⟩ := d1
        obtain ⟨x2, y2, he2, -⟩ := d2
        obtain ⟨m1, hm1⟩ : ∃ m, q1.l.length = m := ⟨_, rfl⟩
        obtain ⟨m2, hm2⟩ : ∃ m, q2.l.length = m := ⟨_, rfl⟩
        obtain ⟨g1, hg1⟩ : ∃ g, q1.wrapped = g := ⟨_, rfl⟩
        obtain ⟨g2, hg2⟩ : ∃ g, q2.wrapped = g := ⟨_, rfl⟩
        rw [hm1, hg1] at he1
        rw [hm2, hg2] at he2
        subst he1 he2
        have s0 := (hu.cell (p := ⟨rb + 3, 0, none⟩) HZ3.out).trans HQ1.out.c0
        have s1 := (hu.cell (p := ⟨rb + 3, 1, none⟩) HZ3.out).trans HQ1.out.c1
        have s2 := (hu.cell (p := ⟨rb + 4, 0, none⟩) HZ4.out).trans HQ2.out.c0
        have s3 := (hu.cell (p := ⟨rb + 4, 1, none⟩) HZ4.out).trans HQ2.out.c1
        have f0 := (HQ1.out.below hu HZ3.out).fr 0
        have f1 := (HQ1.out.below hu HZ3.out).fr 1
        have f2 := (HQ2.out.below hu HZ4.out).fr 0
        have f3 := (HQ2.out.below hu HZ4.out).fr 1
        clear hag hok huu hv1 hv2 hm1 hm2 hg1 hg2 hu
        simp only [List.foldl_cons, List.foldl_nil]
        rw [e1, e2]
        clear e1 e2
        dsimp only [List.drop]
        go_wp2_with fail
        refine bodyPost_ret (v := .tuple #[.agg #[.slice x1 m1 y1, .bool g1], .agg #[.slice x2 m2 y2, .bool g2]]) (by rw [results_cell_cell (fn := Tryd.f66) rfl]; go_simp <;> rfl) rfl ?_
        rw [← HP.out]
        exact do_end HU.out HB.out HZL.out HD1.out HD2.out
    · have p1 : (K == 1) = false := by rw [beq_eq_false_iff_ne]; exact hk1
      by_cases hk2 : K = 2
      · subst hk2
        obtain ⟨q1, hq1⟩ : ∃ q1 : Ro, q1 = ⟨insertS l1 AT N S, false⟩ := ⟨_, rfl⟩
        obtain ⟨q2, hq2⟩ : ∃ q2 : Ro, q2 = ⟨insertS l2 AT N S, false⟩ := ⟨_, rfl⟩
        have HE1 : Hid (q1.l = insertS l1 AT N S) := Lib.hid (by rw [hq1])
        have HE2 : Hid (q2.l = insertS l2 AT N S) := Lib.hid (by rw [hq2])
        have HV1 : Hid (q1.wrapped = false) := Lib.hid (by rw [hq1])
        have HV2 : Hid (q2.wrapped = false) := Lib.hid (by rw [hq2])
        have HP : Hid (DoPost rb a1 a2 n1 n2 q1 q2 w = P) := Lib.hid (by
          rw [← HP0.out, hq1, hq2, ← HL1.out, ← HL2.out]
          rfl)
        clear hq1 hq2
        clear hk0 hk1 p0 p1
        go_upto_region 7 with fail
        refine Go.Proofs.YtkggmcnocpgnbaaDoor.R.wp_region_tailV 16 (by kernel_rfl) (fun u => Below w5.heap.size w5 u) (fun u v => Below u.heap.size u v) (Do2 rb a1 a2 n1 c1 n2 c2 b1 b2 2 AT N S X q1 q2) (by rfl) (by kernel_rfl) (by decide) (by kernel_rfl) (by kernel_rfl) (by kernel_rfl) ?hC ?hOk ?hop ?hdone ((Below.refl _ _).drew)
        case hC => exact fun u v hu huv => hu.trans (huv.mono hu.size)
        case hOk =>
          intro i x u u' hv huu
          unfold Do2 at hv ⊢
          split at hv
          all_goals first | exact hv | exact RowN.belowAll hv huu | trivial
        case hop =>
          refine ⟨?_, ?_, ?_, ?_, ?_, ?_, ?_, ?_, ?_, ?_, ?_, ?_, ?_, ?_, ?_, ?_, trivial⟩
          · intro z v hz hag hdep
            refine .inl ⟨rfl, fun K hK => ?_⟩
            have d3 : z.tmps.getD 3 undef = .pointer (some ⟨rb, 0, none⟩) := hag.2.2 3 (by kernel_rfl)
            have e3 := d3
            rw [Array.getD_eq_getD_getElem?] at e3
            have l0 := (hz.cell (p := ⟨rb, 0, none⟩) HZ0.out).trans HR0.out
            have l1 := (hz.cell (p := ⟨rb, 1, none⟩) HZ0.out).trans HR1.out
            clear hz
            clear hdep hag 
            go_simp
            exact hK _ _ (Below.refl _ _) rfl
          · intro z v hz hag hdep
            refine .inl ⟨rfl, fun K hK => ?_⟩
            have d5 : z.tmps.getD 5 undef = .pointer (some ⟨rb + 2, 0, none⟩) := hag.2.2 5 (by kernel_rfl)
            have e5 := d5
            rw [Array.getD_eq_getD_getElem?] at e5
            clear hdep hag 
            go_simp
            exact hK _ _ (Below.refl _ _) rfl
          · intro z v hz hag hdep
            refine .inl ⟨rfl, fun K hK => ?_⟩
            have d51 : z.tmps.getD 51 undef = .pointer (some ⟨rb + 2, 1, none⟩) := hdep { on := 1, ground := .data } (by simp) rfl _ _ rfl rfl
            have e51 := d51
            rw [Array.getD_eq_getD_getElem?] at e51
            have l0 := (hz.cell (p := ⟨rb + 2, 1, none⟩) HZ2.out).trans HA1.out
            clear hz
            clear hdep hag 
            go_simp
            exact hK _ _ (Below.refl _ _) rfl
          · intro z v hz hag hdep
            refine .inl ⟨rfl, fun K hK => ?_⟩
            have d5 : z.tmps.getD 5 undef = .pointer (some ⟨rb + 2, 0, none⟩) := hag.2.2 5 (by kernel_rfl)
            have e5 := d5
            rw [Array.getD_eq_getD_getElem?] at e5
            clear hdep hag 
            go_simp
            exact hK _ _ (Below.refl _ _) rfl
          · intro z v hz hag hdep
            refine .inl ⟨rfl, fun K hK => ?_⟩
            have d53 : z.tmps.getD 53 undef = .pointer (some ⟨rb + 2, 2, none⟩) := hdep { on := 3, ground := .data } (by simp) rfl _ _ rfl rfl
            have e53 := d53
            rw [Array.getD_eq_getD_getElem?] at e53
            have l0 := (hz.cell (p := ⟨rb + 2, 2, none⟩) HZ2.out).trans HA2.out
            clear hz
            clear hdep hag 
            go_simp
            exact hK _ _ (Below.refl _ _) rfl
          · intro z v hz hag hdep
            refine .inl ⟨rfl, fun K hK => ?_⟩
            have d5 : z.tmps.getD 5 undef = .pointer (some ⟨rb + 2, 0, none⟩) := hag.2.2 5 (by kernel_rfl)
            have e5 := d5
            rw [Array.getD_eq_getD_getElem?] at e5
            clear hdep hag 
            go_simp
            exact hK _ _ (Below.refl _ _) rfl
          · intro z v hz hag hdep
            refine .inl ⟨rfl, fun K hK => ?_⟩
            have d55 : z.tmps.getD 55 undef = .pointer (some ⟨rb + 2, 3, none⟩) := hdep { on := 5, ground := .data } (by simp) rfl _ _ rfl rfl
            have e55 := d55
            rw [Array.getD_eq_getD_getElem?] at e55
            have l0 := (hz.cell (p := ⟨rb + 2, 3, none⟩) HZ2.out).trans HA3.out
            clear hz
            clear hdep hag 
            go_simp
            exact hK _ _ (Below.refl _ _) rfl
          · intro z v hz hag hdep
            refine .inl ⟨rfl, fun K hK => ?_⟩
            have d50 : z.tmps.getD 50 undef = .agg #[.slice a1 n1 c1, .bool b1] := hdep { on := 0, ground := .data } (by simp) rfl _ _ rfl rfl
            have e50 := d50
            rw [Array.getD_eq_getD_getElem?] at e50
            have d52 : z.tmps.getD 52 undef = .int .i64 AT := hdep { on := 2, ground := .data } (by simp) rfl _ _ rfl rfl
            have e52 := d52
            rw [Array.getD_eq_getD_getElem?] at e52
            have d54 : z.tmps.getD 54 undef = .int .i64 N := hdep { on := 4, ground := .data } (by simp) rfl _ _ rfl rfl
            have e54 := d54
            rw [Array.getD_eq_getD_getElem?] at e54
            have d56 : z.tmps.getD 56 undef = .int .i64 S := hdep { on := 6, ground := .data } (by simp) rfl _ _ rfl rfl
            have e56 := d56
            rw [Array.getD_eq_getD_getElem?] at e56
            have HC := Lib.hid (rowInsert_any a1 n1 c1 b1 l1 AT N S v (HI1.out.belowAll hz) HN1.out HC1.out HM1.out (by omega))
            have HZs := Lib.hid hz.size
            clear hdep hag hz
            go_simp
            refine HC.out.mono ?_
            rintro e w' ⟨v', rfl, h1, h2⟩
            have hsz := Nat.le_trans HZL.out HZs.out
            exact hK _ _ h2 (RowN.own hsz HE1.out HV1.out h1)
          · intro z v hz hag hdep
            refine .inl ⟨rfl, fun K hK => ?_⟩
            have d4 : z.tmps.getD 4 undef = .pointer (some ⟨rb + 1, 0, none⟩) := hag.2.2 4 (by kernel_rfl)
            have e4 := d4
            rw [Array.getD_eq_getD_getElem?] at e4
            have l0 := (hz.cell (p := ⟨rb + 1, 0, none⟩) HZ1.out).trans HX0.out
            have l1 := (hz.cell (p := ⟨rb + 1, 1, none⟩) HZ1.out).trans HX1.out
            clear hz
            clear hdep hag 
            go_simp
            exact hK _ _ (Below.refl _ _) rfl
          · intro z v hz hag hdep
            refine .inl ⟨rfl, fun K hK => ?_⟩
            have d5 : z.tmps.getD 5 undef = .pointer (some ⟨rb + 2, 0, none⟩) := hag.2.2 5 (by kernel_rfl)
            have e5 := d5
            rw [Array.getD_eq_getD_getElem?] at e5
            clear hdep hag 
            go_simp
            exact hK _ _ (Below.refl _ _) rfl
          · intro z v hz hag hdep
            refine .inl ⟨rfl, fun K hK => ?_⟩
            have d59 : z.tmps.getD 59 undef = .pointer (some ⟨rb + 2, 1, none⟩) := hdep { on := 9, ground := .data } (by simp) rfl _ _ rfl rfl
            have e59 := d59
            rw [Array.getD_eq_getD_getElem?] at e59
            have l0 := (hz.cell (p := ⟨rb + 2, 1, none⟩) HZ2.out).trans HA1.out
            clear hz
            clear hdep hag 
            go_simp
            exact hK _ _ (Below.refl _ _) rfl
          · intro z v hz hag hdep
            refine .inl ⟨rfl, fun K hK => ?_⟩
            have d5 : z.tmps.getD 5 undef = .pointer (some ⟨rb + 2, 0, none⟩) := hag.2.2 5 (by kernel_rfl)
            have e5 := d5
            rw [Array.getD_eq_getD_getElem?] at e5
            clear hdep hag 
            go_simp
            exact hK _ _ (Below.refl _ _) rfl
          · intro z v hz hag hdep
            refine .inl ⟨rfl, fun K hK => ?_⟩
            have d61 : z.tmps.getD 61 undef = .pointer (some ⟨rb + 2, 2, none⟩) := hdep { on := 11, ground := .data } (by simp) rfl _ _ rfl rfl
            have e61 := d61
            rw [Array.getD_eq_getD_getElem?] at e61
            have l0 := (hz.cell (p := ⟨rb + 2, 2, none⟩) HZ2.out).trans HA2.out
            clear hz
            clear hdep hag 
            go_simp
            exact hK _ _ (Below.refl _ _) rfl
          · intro z v hz hag hdep
            refine .inl ⟨rfl, fun K hK => ?_⟩
            have d5 : z.tmps.getD 5 undef = .pointer (some ⟨rb + 2, 0, none⟩) := hag.2.2 5 (by kernel_rfl)
            have e5 := d5
            rw [Array.getD_eq_getD_getElem?] at e5
            clear hdep hag 
            go_simp
            exact hK _ _ (Below.refl _ _) rfl
          · intro z v hz hag hdep
            refine .inl ⟨rfl, fun K hK => ?_⟩
            have d63 : z.tmps.getD 63 undef = .pointer (some ⟨rb + 2, 3, none⟩) := hdep { on := 13, ground := .data } (by simp) rfl _ _ rfl rfl
            have e63 := d63
            rw [Array.getD_eq_getD_getElem?] at e63
            have l0 := (hz.cell (p := ⟨rb + 2, 3, none⟩) HZ2.out).trans HA3.out
            clear hz
            clear hdep hag 
            go_simp
            exact hK _ _ (Below.refl _ _) rfl
          · intro z v hz hag hdep
            refine .inl ⟨rfl, fun K hK => ?_⟩
            have d58 : z.tmps.getD 58 undef = .agg #[.slice a2 n2 c2, .bool b2] := hdep { on := 8, ground := .data } (by simp) rfl _ _ rfl rfl
            have e58 := d58
            rw [Array.getD_eq_getD_getElem?] at e58
            have d60 : z.tmps.getD 60 undef = .int .i64 AT := hdep { on := 10, ground := .data } (by simp) rfl _ _ rfl rfl
            have e60 := d60
            rw [Array.getD_eq_getD_getElem?] at e60
            have d62 : z.tmps.getD 62 undef = .int .i64 N := hdep { on := 12, ground := .data } (by simp) rfl _ _ rfl rfl
            have e62 := d62
            rw [Array.getD_eq_getD_getElem?] at e62
            have d64 : z.tmps.getD 64 undef = .int .i64 S := hdep { on := 14, ground := .data } (by simp) rfl _ _ rfl rfl
            have e64 := d64
            rw [Array.getD_eq_getD_getElem?] at e64
            have HC := Lib.hid (refInsert_any a2 n2 c2 b2 l2 AT N S v (HI2.out.belowAll hz) HN2.out HC2.out HM2.out (by omega))
            have HZs := Lib.hid hz.size
            clear hdep hag hz
            go_simp
            refine HC.out.mono ?_
            rintro e w' ⟨v', rfl, h1, h2⟩
            have hsz := Nat.le_trans HZL.out HZs.out
            exact hK _ _ h2 (RowN.own hsz HE2.out HV2.out h1)
        case hdone =>
          intro z u hu hag hok hno
          clear hno
          have d1 : RowN .i32 rb a1 n1 (z.tmps.getD 57 undef) q1 u := hok 7 _ 57 (by decide) rfl rfl
          have d2 : RowN .i64 rb a2 n2 (z.tmps.getD 65 undef) q2 u := hok 15 _ 65 (by decide) rfl rfl
          obtain ⟨uu, huu, hzz⟩ := Go.Proofs.YtkggmcnocpgnbaaDoor.R.agree_frame [50, 51, 52, 53, 54, 55, 56, 57, 58, 59, 60, 61, 62, 63, 64, 65] rfl hag
          obtain ⟨v1, hv1⟩ : ∃ v, z.tmps.getD 57 undef = v := ⟨_, rfl⟩
          obtain ⟨v2, hv2⟩ : ∃ v, z.tmps.getD 65 undef = v := ⟨_, rfl⟩
          rw [hv1] at d1
          rw [hv2] at d2
          have e1 := (huu 57).trans hv1
          have e2 := (huu 65).trans hv2
          subst hzz
          have HU := Lib.hid hu
          have HD1 := Lib.hid d1
          have HD2 := Lib.hid d2
          obtain ⟨x1, y1, he1, -⟩ := d1
          obtain ⟨x2, y2, he2, -⟩ := d2
          obtain ⟨m1, hm1⟩ : ∃ m, q1.l.length = m := ⟨_, rfl⟩
          obtain ⟨m2, hm2⟩ : ∃ m, q2.l.length = m := ⟨_, rfl⟩
          obtain ⟨g1, hg1⟩ : ∃ g, q1.wrapped = g := ⟨_, rfl⟩
          obtain ⟨g2, hg2⟩ : ∃ g, q2.wrapped = g := ⟨_, rfl⟩
          rw [hm1, hg1] at he1
          rw [hm2, hg2] at he2
          subst he1 he2
          have s0 := (hu.cell (p := ⟨rb + 3, 0, none⟩) HZ3.out).trans HQ1.out.c0
          have s1 := (hu.cell (p := ⟨rb + 3, 1, none⟩) HZ3.out).trans HQ1.out.c1
          have s2 := (hu.cell (p := ⟨rb + 4, 0, none⟩) HZ4.out).trans HQ2.out.c0
          have s3 := (hu.cell (p := ⟨rb + 4, 1, none⟩) HZ4.out).trans HQ2.out.c1
          have f0 := (HQ1.out.below hu HZ3.out).fr 0
          have f1 := (HQ1.out.below hu HZ3.out).fr 1
          have f2 := (HQ2.out.below hu HZ4.out).fr 0
          have f3 := (HQ2.out.below hu HZ4.out).fr 1
          clear hag hok huu hv1 hv2 hm1 hm2 hg1 hg2 hu
          simp only [List.foldl_cons, List.foldl_nil]
          rw [e1, e2]
          clear e1 e2
          dsimp only [List.drop]
          go_wp2_with fail
          refine bodyPost_ret (v := .tuple #[.agg #[.slice x1 m1 y1, .bool g1], .agg #[.slice x2 m2 y2, .bool g2]]) (by rw [results_cell_cell (fn := Tryd.f66) rfl]; go_simp <;> rfl) rfl ?_
          rw [← HP.out]
          exact do_end HU.out HB.out HZL.out HD1.out HD2.out
      · have p2 : (K == 2) = false := by rw [beq_eq_false_iff_ne]; exact hk2
        by_cases hk3 : K = 3
        · subst hk3
          obtain ⟨q1, hq1⟩ : ∃ q1 : Ro, q1 = ⟨deleteS l1 AT N S, false⟩ := ⟨_, rfl⟩
          obtain ⟨q2, hq2⟩ : ∃ q2 : Ro, q2 = ⟨deleteS l2 AT N S, false⟩ := ⟨_, rfl⟩
          have HE1 : Hid (q1.l = deleteS l1 AT N S) := Lib.hid (by rw [hq1])
          have HE2 : Hid (q2.l = deleteS l2 AT N S) := Lib.hid (by rw [hq2])
          have HV1 : Hid (q1.wrapped = false) := Lib.hid (by rw [hq1])
          have HV2 : Hid (q2.wrapped = false) := Lib.hid (by rw [hq2])
          have HP : Hid (DoPost rb a1 a2 n1 n2 q1 q2 w = P) := Lib.hid (by
            rw [← HP0.out, hq1, hq2, ← HL1.out, ← HL2.out]
            rfl)
          clear hq1 hq2
          clear hk0 hk1 hk2 p0 p1 p2
          go_upto_region 9 with fail
          refine Go.Proofs.YtkggmcnocpgnbaaDoor.R.wp_region_tailV 16 (by kernel_rfl) (fun u => Below w5.heap.size w5 u) (fun u v => Below u.heap.size u v) (Do3 rb a1 a2 n1 c1 n2 c2 b1 b2 3 AT N S X q1 q2) (by rfl) (by kernel_rfl) (by decide) (by kernel_rfl) (by kernel_rfl) (by kernel_rfl) ?hC ?hOk ?hop ?hdone ((Below.refl _ _).drew)
          case hC => exact fun u v hu huv => hu.trans (huv.mono hu.size)
          case hOk =>
            intro i x u u' hv huu
            unfold Do3 at hv ⊢
            split at hv
            all_goals first | exact hv | exact RowN.belowAll hv huu | trivial
          case hop =>
            refine ⟨?_, ?_, ?_, ?_, ?_, ?_, ?_, ?_, ?_, ?_, ?_, ?_, ?_, ?_, ?_, ?_, trivial⟩
            · intro z v hz hag hdep
              refine .inl ⟨rfl, fun K hK => ?_⟩
              have d3 : z.tmps.getD 3 undef = .pointer (some ⟨rb, 0, none⟩) := hag.2.2 3 (by kernel_rfl)
              have e3 := d3
              rw [Array.getD_eq_getD_getElem?] at e3
              have l0 := (hz.cell (p := ⟨rb, 0, none⟩) HZ0.out).trans HR0.out
              have l1 := (hz.cell (p := ⟨rb, 1, none⟩) HZ0.out).trans HR1.out
              clear hz
              clear hdep hag 
              go_simp
              exact hK _ _ (Below.refl _ _) rfl
            · intro z v hz hag hdep
              refine .inl ⟨rfl, fun K hK => ?_⟩
              have d5 : z.tmps.getD 5 undef = .pointer (some ⟨rb + 2, 0, none⟩) := hag.2.2 5 (by kernel_rfl)
              have e5 := d5
              rw [Array.getD_eq_getD_getElem?] at e5
              clear hdep hag 
              go_simp
              exact hK _ _ (Below.refl _ _) rfl
            · intro z v hz hag hdep
              refine .inl ⟨rfl, fun K hK => ?_⟩
              have d69 : z.tmps.getD 69 undef = .pointer (some ⟨rb + 2, 1, none⟩) := hdep { on := 1, ground := .data } (by simp) rfl _ _ rfl rfl
              have e69 := d69
              rw [Array.getD_eq_getD_getElem?] at e69
              have l0 := (hz.cell (p := ⟨rb + 2, 1, none⟩) HZ2.out).trans HA1.out
              clear hz
              clear hdep hag 
              go_simp
              exact hK _ _ (Below.refl _ _) rfl
            · intro z v hz hag hdep
              refine .inl ⟨rfl, fun K hK => ?_⟩
              have d5 : z.tmps.getD 5 undef = .pointer (some ⟨rb + 2, 0, none⟩) := hag.2.2 5 (by kernel_rfl)
              have e5 := d5
              rw [Array.getD_eq_getD_getElem?] at e5
              clear hdep hag 
              go_simp
              exact hK _ _ (Below.refl _ _) rfl
            · intro z v hz hag hdep
              refine .inl ⟨rfl, fun K hK => ?_⟩
              have d71 : z.tmps.getD 71 undef = .pointer (some ⟨rb + 2, 2, none⟩) := hdep { on := 3, ground := .data } (by simp) rfl _ _ rfl rfl
              have e71 := d71
              rw [Array.getD_eq_getD_getElem?] at e71
              have l0 := (hz.cell (p := ⟨rb + 2, 2, none⟩) HZ2.out).trans HA2.out
              clear hz
              clear hdep hag 
              go_simp
              exact hK _ _ (Below.refl _ _) rfl
            · intro z v hz hag hdep
              refine .inl ⟨rfl, fun K hK => ?_⟩
              have d5 : z.tmps.getD 5 undef = .pointer (some ⟨rb + 2, 0, none⟩) := hag.2.2 5 (by kernel_rfl)
              have e5 := d5
              rw [Array.getD_eq_getD_getElem?] at e5
              clear hdep hag 
              go_simp
              exact hK _ _ (Below.refl _ _) rfl
            · intro z v hz hag hdep
              refine .inl ⟨rfl, fun K hK => ?_⟩
              have d73 : z.tmps.getD 73 undef = .pointer (some ⟨rb + 2, 3, none⟩) := hdep { on := 5, ground := .data } (by simp) rfl _ _ rfl rfl
              have e73 := d73
              rw [Array.getD_eq_getD_getElem?] at e73
              have l0 := (hz.cell (p := ⟨rb + 2, 3, none⟩) HZ2.out).trans HA3.out
              clear hz
              clear hdep hag 
              go_simp
              exact hK _ _ (Below.refl _ _) rfl
            · intro z v hz hag hdep
              refine .inl ⟨rfl, fun K hK => ?_⟩
              have d68 : z.tmps.getD 68 undef = .agg #[.slice a1 n1 c1, .bool b1] := hdep { on := 0, ground := .data } (by simp) rfl _ _ rfl rfl
              have e68 := d68
              rw [Array.getD_eq_getD_getElem?] at e68
              have d70 : z.tmps.getD 70 undef = .int .i64 AT := hdep { on := 2, ground := .data } (by simp) rfl _ _ rfl rfl
              have e70 := d70
              rw [Array.getD_eq_getD_getElem?] at e70
              have d72 : z.tmps.getD 72 undef = .int .i64 N := hdep { on := 4, ground := .data } (by simp) rfl _ _ rfl rfl
              have e72 := d72
              rw [Array.getD_eq_getD_getElem?] at e72
              have d74 : z.tmps.getD 74 undef = .int .i64 S := hdep { on := 6, ground := .data } (by simp) rfl _ _ rfl rfl
              have e74 := d74
              rw [Array.getD_eq_getD_getElem?] at e74
              have HC := Lib.hid (rowDelete_any a1 n1 c1 b1 l1 AT N S v (HI1.out.belowAll hz) HN1.out HC1.out HM1.out (by omega))
              have HZs := Lib.hid hz.size
              clear hdep hag hz
              go_simp
              refine HC.out.mono ?_
              rintro e w' ⟨v', rfl, h1, h2⟩
              have hsz := Nat.le_trans HZL.out HZs.out
              exact hK _ _ h2 (RowN.own hsz HE1.out HV1.out h1)
            · intro z v hz hag hdep
              refine .inl ⟨rfl, fun K hK => ?_⟩
              have d4 : z.tmps.getD 4 undef = .pointer (some ⟨rb + 1, 0, none⟩) := hag.2.2 4 (by kernel_rfl)
              have e4 := d4
              rw [Array.getD_eq_getD_getElem?] at e4
              have l0 := (hz.cell (p := ⟨rb + 1, 0, none⟩) HZ1.out).trans HX0.out
              have l1 := (hz.cell (p := ⟨rb + 1, 1, none⟩) HZ1.out).trans HX1.out
              clear hz
              clear hdep hag 
              go_simp
              exact hK _ _ (Below.refl _ _) rfl
            · intro z v hz hag hdep
              refine .inl ⟨rfl, fun K hK => ?_⟩
              have d5 : z.tmps.getD 5 undef = .pointer (some ⟨rb + 2, 0, none⟩) := hag.2.2 5 (by kernel_rfl)
              have e5 := d5
              rw [Array.getD_eq_getD_getElem?] at e5
              clear hdep hag 
              go_simp
              exact hK _ _ (Below.refl _ _) rfl
            · intro z v hz hag hdep
              refine .inl ⟨rfl, fun K hK => ?_⟩
              have d77 : z.tmps.getD 77 undef = .pointer (some ⟨rb + 2, 1, none⟩) := hdep { on := 9, ground := .data } (by simp) rfl _ _ rfl rfl
              have e77 := d77
              rw [Array.getD_eq_getD_getElem?] at e77
              have l0 := (hz.cell (p := ⟨rb + 2, 1, none⟩) HZ2.out).trans HA1.out
              clear hz
              clear hdep hag 
              go_simp
              exact hK _ _ (Below.refl _ _) rfl
            · intro z v hz hag hdep
              refine .inl ⟨rfl, fun K hK => ?_⟩
              have d5 : z.tmps.getD 5 undef = .pointer (some ⟨rb + 2, 0, none⟩) := hag.2.2 5 (by kernel_rfl)
              have e5 := d5
              rw [Array.getD_eq_getD_getElem?] at e5
              clear hdep hag 
              go_simp
              exact hK _ _ (Below.refl _ _) rfl
            · intro z v hz hag hdep
              refine .inl ⟨rfl, fun K hK => ?_⟩
              have d79 : z.tmps.getD 79 undef = .pointer (some ⟨rb + 2, 2, none⟩) := hdep { on := 11, ground := .data } (by simp) rfl _ _ rfl rfl
              have e79 := d79
              rw [Array.getD_eq_getD_getElem?] at e79
              have l0 := (hz.cell (p := ⟨rb + 2, 2, none⟩) HZ2.out).trans HA2.out
              clear hz
              clear hdep hag 
              go_simp
              exact hK _ _ (Below.refl _ _) rfl
            · intro z v hz hag hdep
              refine .inl ⟨rfl, fun K hK => ?_⟩
              have d5 : z.tmps.getD 5 undef = .pointer (some ⟨rb + 2, 0, none⟩) := hag.2.2 5 (by kernel_rfl)
              have e5 := d5
              rw [Array.getD_eq_getD_getElem?] at e5
              clear hdep hag 
              go_simp
              exact hK _ _ (Below.refl _ _) rfl
            · intro z v hz hag hdep
              refine .inl ⟨rfl, fun K hK => ?_⟩
              have d81 : z.tmps.getD 81 undef = .pointer (some ⟨rb + 2, 3, none⟩) := hdep { on := 13, ground := .data } (by simp) rfl _ _ rfl rfl
              have e81 := d81
              rw [Array.getD_eq_getD_getElem?] at e81
              have l0 := (hz.cell (p := ⟨rb + 2, 3, none⟩) HZ2.out).trans HA3.out
              clear hz
              clear hdep hag 
              go_simp
              exact hK _ _ (Below.refl _ _) rfl
            · intro z v hz hag hdep
              refine .inl ⟨rfl, fun K hK => ?_⟩
              have d76 : z.tmps.getD 76 undef = .agg #[.slice a2 n2 c2, .bool b2] := hdep { on := 8, ground := .data } (by simp) rfl _ _ rfl rfl
              have e76 := d76
              rw [Array.getD_eq_getD_getElem?] at e76
              have d78 : z.tmps.getD 78 undef = .int .i64 AT := hdep { on := 10, ground := .data } (by simp) rfl _ _ rfl rfl
              have e78 := d78
              rw [Array.getD_eq_getD_getElem?] at e78
              have d80 : z.tmps.getD 80 undef = .int .i64 N := hdep { on := 12, ground := .data } (by simp) rfl _ _ rfl rfl
              have e80 := d80
              rw [Array.getD_eq_getD_getElem?] at e80
              have d82 : z.tmps.getD 82 undef = .int .i64 S := hdep { on := 14, ground := .data } (by simp) rfl _ _ rfl rfl
              have e82 := d82
              rw [Array.getD_eq_getD_getElem?] at e82
              have HC := Lib.hid (refDelete_any a2 n2 c2 b2 l2 AT N S v (HI2.out.belowAll hz) HN2.out HC2.out HM2.out (by omega))
              have HZs := Lib.hid hz.size
              clear hdep hag hz
              go_simp
              refine HC.out.mono ?_
              rintro e w' ⟨v', rfl, h1, h2⟩
              have hsz := Nat.le_trans HZL.out HZs.out
              exact hK _ _ h2 (RowN.own hsz HE2.out HV2.out h1)
          case hdone =>
            intro z u hu hag hok hno
            clear hno
            have d1 : RowN .i32 rb a1 n1 (z.tmps.getD 75 undef) q1 u := hok 7 _ 75 (by decide) rfl rfl
            have d2 : RowN .i64 rb a2 n2 (z.tmps.getD 83 undef) q2 u := hok 15 _ 83 (by decide) rfl rfl
            obtain ⟨uu, huu, hzz⟩ := Go.Proofs.YtkggmcnocpgnbaaDoor.R.agree_frame [68, 69, 70, 71, 72, 73, 74, 75, 76, 77, 78, 79, 80, 81, 82, 83] rfl hag
            obtain ⟨v1, hv1⟩ : ∃ v, z.tmps.getD 75 undef = v := ⟨_, rfl⟩
            obtain ⟨v2, hv2⟩ : ∃ v, z.tmps.getD 83 undef = v := ⟨_, rfl⟩
            rw [hv1] at d1
            rw [hv2] at d2
            have e1 := (huu 75).trans hv1
            have e2 := (huu 83).trans hv2
            subst hzz
            have HU := Lib.hid hu
            have HD1 := Lib.hid d1
            have HD2 := Lib.hid d2
            obtain ⟨x1, y1, he1, -⟩ := d1
            obtain ⟨x2, y2, he2, -⟩ := d2
            obtain ⟨m1, hm1⟩ : ∃ m, q1.l.length = m := ⟨_, rfl⟩
            obtain ⟨m2, hm2⟩ : ∃ m, q2.l.length = m := ⟨_, rfl⟩
            obtain ⟨g1, hg1⟩ : ∃ g, q1.wrapped = g := ⟨_, rfl⟩
            obtain ⟨g2, hg2⟩ : ∃ g, q2.wrapped = g := ⟨_, rfl⟩
            rw [hm1, hg1] at he1
            rw [hm2, hg2] at he2
            subst he1 he2
            have s0 := (hu.cell (p := ⟨rb + 3, 0, none⟩) HZ3.out).trans HQ1.out.c0
            have s1 := (hu.cell (p := ⟨rb + 3, 1, none⟩) HZ3.out).trans HQ1.out.c1
            have s2 := (hu.cell (p := ⟨rb + 4, 0, none⟩) HZ4.out).trans HQ2.out.c0
            have s3 := (hu.cell (p := ⟨rb + 4, 1, none⟩) HZ4.out).trans HQ2.out.c1
            have f0 := (HQ1.out.below hu HZ3.out).fr 0
            have f1 := (HQ1.out.below hu HZ3.out).fr 1
            have f2 := (HQ2.out.below hu HZ4.out).fr 0
            have f3 := (HQ2.out.below hu HZ4.out).fr 1
            clear hag hok huu hv1 hv2 hm1 hm2 hg1 hg2 hu
            simp only [List.foldl_cons, List.foldl_nil]
            rw [e1, e2]
            clear e1 e2
            dsimp only [List.drop]
            go_wp2_with fail
            refine bodyPost_ret (v := .tuple #[.agg #[.slice x1 m1 y1, .bool g1], .agg #[.slice x2 m2 y2, .bool g2]]) (by rw [results_cell_cell (fn := Tryd.f66) rfl]; go_simp <;> rfl) rfl ?_
            rw [← HP.out]
            exact do_end HU.out HB.out HZL.out HD1.out HD2.out
        · have p3 : (K == 3) = false := by rw [beq_eq_false_iff_ne]; exact hk3
          by_cases hk4 : K = 4
          · subst hk4
            obtain ⟨q1, hq1⟩ : ∃ q1 : Ro, q1 = ⟨fillS l1 S, true⟩ := ⟨_, rfl⟩
            obtain ⟨q2, hq2⟩ : ∃ q2 : Ro, q2 = ⟨fillS l2 S, true⟩ := ⟨_, rfl⟩
            have HE1 : Hid (q1.l = fillS l1 S) := Lib.hid (by rw [hq1])
            have HE2 : Hid (q2.l = fillS l2 S) := Lib.hid (by rw [hq2])
            have HV1 : Hid (q1.wrapped = true) := Lib.hid (by rw [hq1])
            have HV2 : Hid (q2.wrapped = true) := Lib.hid (by rw [hq2])
            have HP : Hid (DoPost rb a1 a2 n1 n2 q1 q2 w = P) := Lib.hid (by
              rw [← HP0.out, hq1, hq2, ← HL1.out, ← HL2.out]
              rfl)
            clear hq1 hq2
            clear hk0 hk1 hk2 hk3 p0 p1 p2 p3
            go_upto_region 11 with fail
            refine Go.Proofs.YtkggmcnocpgnbaaDoor.R.wp_region_tailV 8 (by kernel_rfl) (fun u => Below w5.heap.size w5 u) (fun u v => Below u.heap.size u v) (Do4 rb a1 a2 n1 c1 n2 c2 b1 b2 4 AT N S X q1 q2) (by rfl) (by kernel_rfl) (by decide) (by kernel_rfl) (by kernel_rfl) (by kernel_rfl) ?hC ?hOk ?hop ?hdone ((Below.refl _ _).drew)
            case hC => exact fun u v hu huv => hu.trans (huv.mono hu.size)
            case hOk =>
              intro i x u u' hv huu
              unfold Do4 at hv ⊢
              split at hv
              all_goals first | exact hv | exact RowN.belowAll hv huu | trivial
            case hop =>
              refine ⟨?_, ?_, ?_, ?_, ?_, ?_, ?_, ?_, trivial⟩
              · intro z v hz hag hdep
                refine .inl ⟨rfl, fun K hK => ?_⟩
                have d3 : z.tmps.getD 3 undef = .pointer (some ⟨rb, 0, none⟩) := hag.2.2 3 (by kernel_rfl)
                have e3 := d3
                rw [Array.getD_eq_getD_getElem?] at e3
                have l0 := (hz.cell (p := ⟨rb, 0, none⟩) HZ0.out).trans HR0.out
                have l1 := (hz.cell (p := ⟨rb, 1, none⟩) HZ0.out).trans HR1.out
                clear hz
                clear hdep hag 
                go_simp
                exact hK _ _ (Below.refl _ _) rfl
              · intro z v hz hag hdep
                refine .inl ⟨rfl, fun K hK => ?_⟩
                have d5 : z.tmps.getD 5 undef = .pointer (some ⟨rb + 2, 0, none⟩) := hag.2.2 5 (by kernel_rfl)
                have e5 := d5
                rw [Array.getD_eq_getD_getElem?] at e5
                clear hdep hag 
                go_simp
                exact hK _ _ (Below.refl _ _) rfl
              · intro z v hz hag hdep
                refine .inl ⟨rfl, fun K hK => ?_⟩
                have d87 : z.tmps.getD 87 undef = .pointer (some ⟨rb + 2, 3, none⟩) := hdep { on := 1, ground := .data } (by simp) rfl _ _ rfl rfl
                have e87 := d87
                rw [Array.getD_eq_getD_getElem?] at e87
                have l0 := (hz.cell (p := ⟨rb + 2, 3, none⟩) HZ2.out).trans HA3.out
                clear hz
                clear hdep hag 
                go_simp
                exact hK _ _ (Below.refl _ _) rfl
              · intro z v hz hag hdep
                refine .inl ⟨rfl, fun K hK => ?_⟩
                have d86 : z.tmps.getD 86 undef = .agg #[.slice a1 n1 c1, .bool b1] := hdep { on := 0, ground := .data } (by simp) rfl _ _ rfl rfl
                have e86 := d86
                rw [Array.getD_eq_getD_getElem?] at e86
                have d88 : z.tmps.getD 88 undef = .int .i64 S := hdep { on := 2, ground := .data } (by simp) rfl _ _ rfl rfl
                have e88 := d88
                rw [Array.getD_eq_getD_getElem?] at e88
                have HC := Lib.hid (rowFill_any a1 n1 c1 b1 l1 S v (HI1.out.belowAll hz) HN1.out (by omega))
                have HZs := Lib.hid hz.size
                clear hdep hag hz
                go_simp
                refine HC.out.mono ?_
                rintro e w' ⟨v', rfl, h1, h2⟩
                have hsz := Nat.le_trans HZL.out HZs.out
                exact hK _ _ h2 (RowN.own hsz HE1.out HV1.out h1)
              · intro z v hz hag hdep
                refine .inl ⟨rfl, fun K hK => ?_⟩
                have d4 : z.tmps.getD 4 undef = .pointer (some ⟨rb + 1, 0, none⟩) := hag.2.2 4 (by kernel_rfl)
                have e4 := d4
                rw [Array.getD_eq_getD_getElem?] at e4
                have l0 := (hz.cell (p := ⟨rb + 1, 0, none⟩) HZ1.out).trans HX0.out
                have l1 := (hz.cell (p := ⟨rb + 1, 1, none⟩) HZ1.out).trans HX1.out
                clear hz
                clear hdep hag 
                go_simp
                exact hK _ _ (Below.refl _ _) rfl
              · intro z v hz hag hdep
                refine .inl ⟨rfl, fun K hK => ?_⟩
                have d5 : z.tmps.getD 5 undef = .pointer (some ⟨rb + 2, 0, none⟩) := hag.2.2 5 (by kernel_rfl)
                have e5 := d5
                rw [Array.getD_eq_getD_getElem?] at e5
                clear hdep hag 
                go_simp
                exact hK _ _ (Below.refl _ _) rfl
              · intro z v hz hag hdep
                refine .inl ⟨rfl, fun K hK => ?_⟩
                have d91 : z.tmps.getD 91 undef = .pointer (some ⟨rb + 2, 3, none⟩) := hdep { on := 5, ground := .data } (by simp) rfl _ _ rfl rfl
                have e91 := d91
                rw [Array.getD_eq_getD_getElem?] at e91
                have l0 := (hz.cell (p := ⟨rb + 2, 3, none⟩) HZ2.out).trans HA3.out
                clear hz
                clear hdep hag 
                go_simp
                exact hK _ _ (Below.refl _ _) rfl
              · intro z v hz hag hdep
                refine .inl ⟨rfl, fun K hK => ?_⟩
                have d90 : z.tmps.getD 90 undef = .agg #[.slice a2 n2 c2, .bool b2] := hdep { on := 4, ground := .data } (by simp) rfl _ _ rfl rfl
                have e90 := d90
                rw [Array.getD_eq_getD_getElem?] at e90
                have d92 : z.tmps.getD 92 undef = .int .i64 S := hdep { on := 6, ground := .data } (by simp) rfl _ _ rfl rfl
                have e92 := d92
                rw [Array.getD_eq_getD_getElem?] at e92
                have HC := Lib.hid (refFill_any a2 n2 c2 b2 l2 S v (HI2.out.belowAll hz) HN2.out HC2.out HM2.out (by omega))
                have HZs := Lib.hid hz.size
                clear hdep hag hz
                go_simp
                refine HC.out.mono ?_
                rintro e w' ⟨v', rfl, h1, h2⟩
                have hsz := Nat.le_trans HZL.out HZs.out
                exact hK _ _ h2 (RowN.own hsz HE2.out HV2.out h1)
            case hdone =>
              intro z u hu hag hok hno
              clear hno
              have d1 : RowN .i32 rb a1 n1 (z.tmps.getD 89 undef) q1 u := hok 3 _ 89 (by decide) rfl rfl
              have d2 : RowN .i64 rb a2 n2 (z.tmps.getD 93 undef) q2 u := hok 7 _ 93 (by decide) rfl rfl
              obtain ⟨uu, huu, hzz⟩ := Go.Proofs.YtkggmcnocpgnbaaDoor.R.agree_frame [86, 87, 88, 89, 90, 91, 92, 93] rfl hag
              obtain ⟨v1, hv1⟩ : ∃ v, z.tmps.getD 89 undef = v := ⟨_, rfl⟩
              obtain ⟨v2, hv2⟩ : ∃ v, z.tmps.getD 93 undef = v := ⟨_, rfl⟩
              rw [hv1] at d1
              rw [hv2] at d2
              have e1 := (huu 89).trans hv1
              have e2 := (huu 93).trans hv2
              subst hzz
              have HU := Lib.hid hu
              have HD1 := Lib.hid d1
              have HD2 := Lib.hid d2
              obtain ⟨x1, y1, he1, -⟩ := d1
              obtain ⟨x2, y2, he2, -⟩ := d2
              obtain ⟨m1, hm1⟩ : ∃ m, q1.l.length = m := ⟨_, rfl⟩
              obtain ⟨m2, hm2⟩ : ∃ m, q2.l.length = m := ⟨_, rfl⟩
              obtain ⟨g1, hg1⟩ : ∃ g, q1.wrapped = g := ⟨_, rfl⟩
              obtain ⟨g2, hg2⟩ : ∃ g, q2.wrapped = g := ⟨_, rfl⟩
              rw [hm1, hg1] at he1
              rw [hm2, hg2] at he2
              subst he1 he2
              have s0 := (hu.cell (p := ⟨rb + 3, 0, none⟩) HZ3.out).trans HQ1.out.c0
              have s1 := (hu.cell (p := ⟨rb + 3, 1, none⟩) HZ3.out).trans HQ1.out.c1
              have s2 := (hu.cell (p := ⟨rb + 4, 0, none⟩) HZ4.out).trans HQ2.out.c0
              have s3 := (hu.cell (p := ⟨rb + 4, 1, none⟩) HZ4.out).trans HQ2.out.c1
              have f0 := (HQ1.out.below hu HZ3.out).fr 0
              have f1 := (HQ1.out.below hu HZ3.out).fr 1
              have f2 := (HQ2.out.below hu HZ4.out).fr 0
              have f3 := (HQ2.out.below hu HZ4.out).fr 1
              clear hag hok huu hv1 hv2 hm1 hm2 hg1 hg2 hu
              simp only [List.foldl_cons, List.foldl_nil]
              rw [e1, e2]
              clear e1 e2
              dsimp only [List.drop]
              go_wp2_with fail
              refine bodyPost_ret (v := .tuple #[.agg #[.slice x1 m1 y1, .bool g1], .agg #[.slice x2 m2 y2, .bool g2]]) (by rw [results_cell_cell (fn := Tryd.f66) rfl]; go_simp <;> rfl) rfl ?_
              rw [← HP.out]
              exact do_end HU.out HB.out HZL.out HD1.out HD2.out
          · have p4 : (K == 4) = false := by rw [beq_eq_false_iff_ne]; exact hk4
            obtain ⟨q1, hq1⟩ : ∃ q1 : Ro, q1 = resizeS ⟨l1, b1⟩ (wideN N) := ⟨_, rfl⟩
            obtain ⟨q2, hq2⟩ : ∃ q2 : Ro, q2 = resizeS ⟨l2, b2⟩ (wideN N) := ⟨_, rfl⟩
            obtain ⟨WN, hWN⟩ : ∃ WN, wideN N = WN := ⟨_, rfl⟩
            have HE1 : Hid (q1.l = (resizeS ⟨l1, b1⟩ WN).l) := Lib.hid (by rw [hq1, hWN])
            have HE2 : Hid (q2.l = (resizeS ⟨l2, b2⟩ WN).l) := Lib.hid (by rw [hq2, hWN])
            have HV1 : Hid (q1.wrapped = (resizeS ⟨l1, b1⟩ WN).wrapped) := Lib.hid (by rw [hq1, hWN])
            have HV2 : Hid (q2.wrapped = (resizeS ⟨l2, b2⟩ WN).wrapped) := Lib.hid (by rw [hq2, hWN])
            have HP : Hid (DoPost rb a1 a2 n1 n2 q1 q2 w = P) := Lib.hid (by
              rw [← HP0.out, hq1, hq2, ← HL1.out, ← HL2.out]
              unfold doS
              simp only [if_neg hk0, if_neg hk1, if_neg hk2, if_neg hk3, if_neg hk4])
            have hway : (decide (N > 60) = false ∧ WN = N) ∨ (decide (N > 60) = true ∧ decide (N < 1000) = false ∧ WN = N) ∨ (decide (N > 60) = true ∧ decide (N < 1000) = true ∧ WN = 60) := by
              rw [← hWN]; unfold wideN
              by_cases h1 : 60 < N
              · right
                by_cases h2 : N < 1000
                · right; exact ⟨decide_eq_true h1, decide_eq_true h2, by rw [if_pos ⟨h1, h2⟩]⟩
                · left; exact ⟨decide_eq_true h1, decide_eq_false h2, by rw [if_neg (fun h => h2 h.2)]⟩
              · left; exact ⟨decide_eq_false h1, by rw [if_neg (fun h => h1 h.1)]⟩
            clear hq1 hq2 hWN hk0 hk1 hk2 hk3 hk4
            have cN := HA2.out
            rcases hway with ⟨d1, hw⟩ | ⟨d1, d2, hw⟩ | ⟨d1, d2, hw⟩
            all_goals
              have HWN := Lib.hid hw
              clear hw
              go_upto_region 15 with fail
              rw [← HWN.out]
              refine Go.Proofs.YtkggmcnocpgnbaaDoor.R.wp_region_tailV 6 (by kernel_rfl) (fun u => Below w5.heap.size w5 u) (fun u v => Below u.heap.size u v) (Do5 rb a1 a2 n1 c1 n2 c2 b1 b2 K AT N S X WN q1 q2) (by rfl) (by kernel_rfl) (by decide) (by kernel_rfl) (by kernel_rfl) (by kernel_rfl) ?hC ?hOk ?hop ?hdone ((Below.refl _ _).drew)
              case hC => exact fun u v hu huv => hu.trans (huv.mono hu.size)
              case hOk =>
                intro i x u u' hv huu
                unfold Do5 at hv ⊢
                split at hv
                all_goals first | exact hv | exact RowN.belowAll hv huu | trivial
              case hop =>
                refine ⟨?_, ?_, ?_, ?_, ?_, ?_, trivial⟩
                · intro z v hz hag hdep
                  refine .inl ⟨rfl, fun K hK => ?_⟩
                  have d3 : z.tmps.getD 3 undef = .pointer (some ⟨rb, 0, none⟩) := hag.2.2 3 (by kernel_rfl)
                  have e3 := d3
                  rw [Array.getD_eq_getD_getElem?] at e3
                  have l0 := (hz.cell (p := ⟨rb, 0, none⟩) HZ0.out).trans HR0.out
                  have l1 := (hz.cell (p := ⟨rb, 1, none⟩) HZ0.out).trans HR1.out
                  clear hz
                  clear hdep hag 
                  go_simp
                  exact hK _ _ (Below.refl _ _) rfl
                · intro z v hz hag hdep
                  refine .inl ⟨rfl, fun K hK => ?_⟩
                  have d8 : z.tmps.getD 8 undef = .int .i64 WN := hag.2.2 8 (by kernel_rfl)
                  have e8 := d8
                  rw [Array.getD_eq_getD_getElem?] at e8
                  clear hz
                  clear hdep hag 
                  go_simp
                  exact hK _ _ (Below.refl _ _) rfl
                · intro z v hz hag hdep
                  refine .inl ⟨rfl, fun K hK => ?_⟩
                  have d102 : z.tmps.getD 102 undef = .agg #[.slice a1 n1 c1, .bool b1] := hdep { on := 0, ground := .data } (by simp) rfl _ _ rfl rfl
                  have e102 := d102
                  rw [Array.getD_eq_getD_getElem?] at e102
                  have d103 : z.tmps.getD 103 undef = .int .i64 WN := hdep { on := 1, ground := .data } (by simp) rfl _ _ rfl rfl
                  have e103 := d103
                  rw [Array.getD_eq_getD_getElem?] at e103
                  have HC := Lib.hid (rowResize_any a1 n1 c1 b1 l1 WN v (HI1.out.belowAll hz) HN1.out HC1.out HM1.out (by omega))
                  have HZs := Lib.hid hz.size
                  clear hdep hag hz
                  go_simp
                  refine HC.out.mono ?_
                  rintro e w' ⟨v', rfl, h1, h2⟩
                  have hsz := Nat.le_trans HZL.out HZs.out
                  exact hK _ _ h2 (RowN.own hsz HE1.out HV1.out h1)
                · intro z v hz hag hdep
                  refine .inl ⟨rfl, fun K hK => ?_⟩
                  have d4 : z.tmps.getD 4 undef = .pointer (some ⟨rb + 1, 0, none⟩) := hag.2.2 4 (by kernel_rfl)
                  have e4 := d4
                  rw [Array.getD_eq_getD_getElem?] at e4
                  have l0 := (hz.cell (p := ⟨rb + 1, 0, none⟩) HZ1.out).trans HX0.out
                  have l1 := (hz.cell (p := ⟨rb + 1, 1, none⟩) HZ1.out).trans HX1.out
                  clear hz
                  clear hdep hag 
                  go_simp
                  exact hK _ _ (Below.refl _ _) rfl
                · intro z v hz hag hdep
                  refine .inl ⟨rfl, fun K hK => ?_⟩
                  have d8 : z.tmps.getD 8 undef = .int .i64 WN := hag.2.2 8 (by kernel_rfl)
                  have e8 := d8
                  rw [Array.getD_eq_getD_getElem?] at e8
                  clear hz
                  clear hdep hag 
                  go_simp
                  exact hK _ _ (Below.refl _ _) rfl
                · intro z v hz hag hdep
                  refine .inl ⟨rfl, fun K hK => ?_⟩
                  have d105 : z.tmps.getD 105 undef = .agg #[.slice a2 n2 c2, .bool b2] := hdep { on := 3, ground := .data } (by simp) rfl _ _ rfl rfl
                  have e105 := d105
                  rw [Array.getD_eq_getD_getElem?] at e105
                  have d106 : z.tmps.getD 106 undef = .int .i64 WN := hdep { on := 4, ground := .data } (by simp) rfl _ _ rfl rfl
                  have e106 := d106
                  rw [Array.getD_eq_getD_getElem?] at e106
                  have HC := Lib.hid (refResize_any a2 n2 c2 b2 l2 WN v (HI2.out.belowAll hz) HN2.out HC2.out HM2.out (by omega))
                  have HZs := Lib.hid hz.size
                  clear hdep hag hz
                  go_simp
                  refine HC.out.mono ?_
                  rintro e w' ⟨a', c', rfl, k1, k2, k3, k4, k5, k6⟩
                  have hsz := Nat.le_trans HZL.out HZs.out
                  exact hK _ _ k5 (RowN.ret hsz HE2.out HV2.out HOld.out k1 k2 k3 k4 k6)
              case hdone =>
                intro z u hu hag hok hno
                clear hno
                have d1 : RowN .i32 rb a1 n1 (z.tmps.getD 104 undef) q1 u := hok 2 _ 104 (by decide) rfl rfl
                have d2 : RowN .i64 rb a2 n2 (z.tmps.getD 107 undef) q2 u := hok 5 _ 107 (by decide) rfl rfl
                obtain ⟨uu, huu, hzz⟩ := Go.Proofs.YtkggmcnocpgnbaaDoor.R.agree_frame [102, 103, 104, 105, 106, 107] rfl hag
                obtain ⟨v1, hv1⟩ : ∃ v, z.tmps.getD 104 undef = v := ⟨_, rfl⟩
                obtain ⟨v2, hv2⟩ : ∃ v, z.tmps.getD 107 undef = v := ⟨_, rfl⟩
                rw [hv1] at d1
                rw [hv2] at d2
                have e1 := (huu 104).trans hv1
                have e2 := (huu 107).trans hv2
                subst hzz
                have HU := Lib.hid hu
                have HD1 := Lib.hid d1
                have HD2 := Lib.hid d2
                obtain ⟨x1, y1, he1, -⟩ := d1
                obtain ⟨x2, y2, he2, -⟩ := d2
                obtain ⟨m1, hm1⟩ : ∃ m, q1.l.length = m := ⟨_, rfl⟩
                obtain ⟨m2, hm2⟩ : ∃ m, q2.l.length = m := ⟨_, rfl⟩
                obtain ⟨g1, hg1⟩ : ∃ g, q1.wrapped = g := ⟨_, rfl⟩
                obtain ⟨g2, hg2⟩ : ∃ g, q2.wrapped = g := ⟨_, rfl⟩
                rw [hm1, hg1] at he1
                rw [hm2, hg2] at he2
                subst he1 he2
                have s0 := (hu.cell (p := ⟨rb + 3, 0, none⟩) HZ3.out).trans HQ1.out.c0
                have s1 := (hu.cell (p := ⟨rb + 3, 1, none⟩) HZ3.out).trans HQ1.out.c1
                have s2 := (hu.cell (p := ⟨rb + 4, 0, none⟩) HZ4.out).trans HQ2.out.c0
                have s3 := (hu.cell (p := ⟨rb + 4, 1, none⟩) HZ4.out).trans HQ2.out.c1
                have f0 := (HQ1.out.below hu HZ3.out).fr 0
                have f1 := (HQ1.out.below hu HZ3.out).fr 1
                have f2 := (HQ2.out.below hu HZ4.out).fr 0
                have f3 := (HQ2.out.below hu HZ4.out).fr 1
                clear hag hok huu hv1 hv2 hm1 hm2 hg1 hg2 hu
                simp only [List.foldl_cons, List.foldl_nil]
                rw [e1, e2]
                clear e1 e2
                dsimp only [List.drop]
                go_wp2_with fail
                refine bodyPost_ret (v := .tuple #[.agg #[.slice x1 m1 y1, .bool g1], .agg #[.slice x2 m2 y2, .bool g2]]) (by rw [results_cell_cell (fn := Tryd.f66) rfl]; go_simp <;> rfl) rfl ?_
                rw [← HP.out]
                exact do_end HU.out HB.out HZL.out HD1.out HD2.out
end Go.Proofs.YtkggmcnocpgnbaaDoor.J
