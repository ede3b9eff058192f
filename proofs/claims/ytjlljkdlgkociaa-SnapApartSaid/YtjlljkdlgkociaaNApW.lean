/- SnapApart's walk. -/
import Derived.Test.YtjlljkdlgkociaaMerged25
import Derived.Test.YtjlljkdlgkociaaMerged27
import Derived.Test.YtjlljkdlgkociaaNPack
import Derived.Test.YtjlljkdlgkociaaMerged28
import Derived.Test.YtjlljkdlgkociaaMerged3
import Derived.Test.YtjlljkdlgkociaaNTolS
import Derived.Test.YtjlljkdlgkociaaRelS
namespace Go.Proofs.Ytjlljkdlgkociaa.K
open Go.RowKit Go.Proofs.Ytjlljkdlgkociaa.I

theorem set10 {v : World} {p : Nat} {T : TypeId} {o0 o1 o2 o3 o4 o5 o6 o7 o8 o9 : Value} (h : v.heap[p]? = some (.cells #[o0, o1, o2, o3, o4, o5, o6, o7, o8, o9] T (0, 0))) (x0 x1 x2 x3 x4 x5 x6 x7 x8 x9 : Value) : v.grownBy ((((((((((v.setCell ⟨p, 0, none⟩ (x0)).setCell ⟨p, 1, none⟩ (x1)).setCell ⟨p, 2, none⟩ (x2)).setCell ⟨p, 3, none⟩ (x3)).setCell ⟨p, 4, none⟩ (x4)).setCell ⟨p, 5, none⟩ (x5)).setCell ⟨p, 6, none⟩ (x6)).setCell ⟨p, 7, none⟩ (x7)).setCell ⟨p, 8, none⟩ (x8)).setCell ⟨p, 9, none⟩ (x9)) (some p) ∧ ((((((((((v.setCell ⟨p, 0, none⟩ (x0)).setCell ⟨p, 1, none⟩ (x1)).setCell ⟨p, 2, none⟩ (x2)).setCell ⟨p, 3, none⟩ (x3)).setCell ⟨p, 4, none⟩ (x4)).setCell ⟨p, 5, none⟩ (x5)).setCell ⟨p, 6, none⟩ (x6)).setCell ⟨p, 7, none⟩ (x7)).setCell ⟨p, 8, none⟩ (x8)).setCell ⟨p, 9, none⟩ (x9)).heap[p]? = some (.cells #[x0, x1, x2, x3, x4, x5, x6, x7, x8, x9] T (0, 0)) := by
  have hg : ∀ (u : World) (o : Nat) (x : Value), u.grownBy (u.setCell ⟨p, o, none⟩ x) (some p) := fun u o x => grown_set u p o x
  refine ⟨grown_trans (grown_trans (grown_trans (grown_trans (grown_trans (grown_trans (grown_trans (grown_trans (grown_trans (hg v 0 _) (hg _ 1 _)) (hg _ 2 _)) (hg _ 3 _)) (hg _ 4 _)) (hg _ 5 _)) (hg _ 6 _)) (hg _ 7 _)) (hg _ 8 _)) (hg _ 9 _), ?_⟩
  simp [World.setCell, Array.getElem?_modify, h]
theorem cutN_b {s : Sn} (hr : ∀ r ∈ s.R, AllC Rng r.l) (hg : ∀ g ∈ s.B, -2147483648 ≤ g.1 ∧ g.1 ≤ 2147483647) : SnB (cutN s) := by
  unfold cutN
  refine ⟨?_, fun r hm => ?_, fun r hm => ?_, ?_, fun g hm => hg g (List.mem_of_mem_take hm)⟩
  · show ((s.R.take 8).map cutR).length ≤ 1000
    rw [List.length_map, List.length_take]
    omega
  all_goals first
    | (obtain ⟨q, hq, rfl⟩ := List.mem_map.1 hm
       first
       | (have := cutR_len40 q; omega)
       | exact fun c hc => hr q (List.mem_of_mem_take hq) c (List.mem_of_mem_take hc))
    | (show (s.B.take 30).length ≤ _
       rw [List.length_take]
       omega)
/-- a snap of ours in a block, or in a value -/
def AO (m p : Nat) (s : Sn) (u : World) : Prop := ∃ xa xn xc ya yn yc, u.heap[p]? = some (.cells (snA s xa xn xc ya yn yc) 27 (0, 0)) ∧ SnO m xa xn xc ya yn yc s u
def AV (m : Nat) (v : Value) (s : Sn) (u : World) : Prop := ∃ xa xn xc ya yn yc, v = .agg (snA s xa xn xc ya yn yc) ∧ SnO m xa xn xc ya yn yc s u
theorem AV.below {m : Nat} {v : Value} {s : Sn} {u u' : World} (h : AV m v s u) (hb : Below u.heap.size u u') : AV m v s u' := by
  obtain ⟨xa, xn, xc, ya, yn, yc, e, h⟩ := h
  exact ⟨xa, xn, xc, ya, yn, yc, e, h.below hb⟩
theorem AV.grown {m p : Nat} {v : Value} {s : Sn} {u u' : World} (h : AV m v s u) (hg : u.grownBy u' (some p)) (hp : p < m) : AV m v s u' := by
  obtain ⟨xa, xn, xc, ya, yn, yc, e, h⟩ := h
  exact ⟨xa, xn, xc, ya, yn, yc, e, h.grown hg hp⟩
theorem AO.grown {m p q : Nat} {s : Sn} {u u' : World} (h : AO m p s u) (hg : u.grownBy u' (some q)) (hp : q < m) (hne : p ≠ q) : AO m p s u' := by
  obtain ⟨xa, xn, xc, ya, yn, yc, e, h⟩ := h
  exact ⟨xa, xn, xc, ya, yn, yc, (hg.block p (Array.getElem?_eq_some_iff.1 e).1 (fun e2 => hne (Option.some.inj e2))).trans e, h.grown hg hp⟩
theorem AO.below {m p : Nat} {s : Sn} {u u' : World} (h : AO m p s u) (hb : Below u.heap.size u u') : AO m p s u' := by
  obtain ⟨xa, xn, xc, ya, yn, yc, e, h⟩ := h
  exact ⟨xa, xn, xc, ya, yn, yc, (hb.block p (Array.getElem?_eq_some_iff.1 e).1).trans e, h.below hb⟩
/-- region 3's state -/
def A3 (rb m : Nat) (S1 S2 : Sn) (w wB : World) : Nat → (Nat → Value) → World → Prop
  | 0, _, u => Below m wB u
  | 1, f, u => Below m wB u ∧ AV m (f 10) S1 u
  | 2, f, u => Below m wB u ∧ AV m (f 10) S1 u ∧ AV m (f 12) S2 u
  | 3, f, u => Below rb w u ∧ AO m rb S1 u ∧ u.heap[rb + 1]? = wB.heap[rb + 1]? ∧ AV m (f 12) S2 u
  | _, _, u => Below rb w u ∧ AO m rb S1 u ∧ AO m (rb + 1) S2 u
theorem A3.base {rb m k : Nat} {S1 S2 : Sn} {w wB u : World} {f : Nat → Value} (hk : k ≤ 1) (h : A3 rb m S1 S2 w wB k f u) : Below m wB u := by
  match k, hk, h with
  | 0, _, h => exact h
  | 1, _, h => exact h.1
theorem A3.cong {rb m k : Nat} {S1 S2 : Sn} {w wB u : World} {f f2 : Nat → Value} (e1 : k = 1 ∨ k = 2 → f 10 = f2 10) (e2 : k = 2 ∨ k = 3 → f 12 = f2 12) (h : A3 rb m S1 S2 w wB k f u) : A3 rb m S1 S2 w wB k f2 u := by
  match k, h, e1, e2 with
  | 0, h, _, _ => exact h
  | 1, ⟨h, h1⟩, e1, _ => exact ⟨h, by rw [← e1 (.inl rfl)]; exact h1⟩
  | 2, ⟨h, h1, h2⟩, e1, e2 => exact ⟨h, by rw [← e1 (.inr rfl)]; exact h1, by rw [← e2 (.inl rfl)]; exact h2⟩
  | 3, ⟨h, h1, h2, h3⟩, _, e2 => exact ⟨h, h1, h2, by rw [← e2 (.inr rfl)]; exact h3⟩
  | _ + 4, h, _, _ => exact h
/-- the document's in a value, or in a block -/
def TV (v : Value) (s : Sn) (u : World) : Prop := ∃ xa xn xc ya yn yc, v = .agg (snA s xa xn xc ya yn yc) ∧ SnT xa xn xc ya yn yc s u
def TO (p : Nat) (s : Sn) (u : World) : Prop := ∃ xa xn xc ya yn yc, u.heap[p]? = some (.cells (snA s xa xn xc ya yn yc) 35 (0, 0)) ∧ SnT xa xn xc ya yn yc s u
theorem TV.below {v : Value} {s : Sn} {u u' : World} (h : TV v s u) (hb : Below u.heap.size u u') : TV v s u' := by
  obtain ⟨xa, xn, xc, ya, yn, yc, e, h⟩ := h
  exact ⟨xa, xn, xc, ya, yn, yc, e, h.below hb⟩
theorem TV.wrote {v : Value} {s : Sn} {u u' : World} {p : Nat} {cs : Array Value} (h : TV v s u) (hg : u.grownBy u' (some p)) (hp : u.heap[p]? = some (.cells cs 35 (0, 0))) : TV v s u' := by
  obtain ⟨xa, xn, xc, ya, yn, yc, e, h⟩ := h
  exact ⟨xa, xn, xc, ya, yn, yc, e, h.wrote hg hp⟩
theorem TO.below {p : Nat} {s : Sn} {u u' : World} (h : TO p s u) (hb : Below u.heap.size u u') : TO p s u' := by
  obtain ⟨xa, xn, xc, ya, yn, yc, e, h⟩ := h
  exact ⟨xa, xn, xc, ya, yn, yc, (hb.block p (Array.getElem?_eq_some_iff.1 e).1).trans e, h.below hb⟩
theorem TO.wrote {p q : Nat} {s : Sn} {u u' : World} {cs : Array Value} (h : TO p s u) (hg : u.grownBy u' (some q)) (hq : u.heap[q]? = some (.cells cs 35 (0, 0))) (hne : p ≠ q) : TO p s u' := by
  obtain ⟨xa, xn, xc, ya, yn, yc, e, h⟩ := h
  exact ⟨xa, xn, xc, ya, yn, yc, (hg.block p (Array.getElem?_eq_some_iff.1 e).1 (fun e2 => hne (Option.some.inj e2))).trans e, h.wrote hg hq⟩
/-- region 4: what was made -/
structure Al (m : Nat) (L : Nat → Bool) (f : Nat → Value) (u : World) : Prop where
  a : L 4 = true → ∃ p, f 5 = .pointer (some ⟨p, 0, none⟩) ∧ m ≤ p ∧ u.heap[p]? = some (.cells #[.int .i64 0, .int .i64 0, .int .i64 0, .int .i64 0, .int .i64 0, .string ⟨#[]⟩, .slice none 0 0, .int .i64 0, .int .i64 0, .slice none 0 0] 35 (0, 0))
  b : L 5 = true → ∃ p, f 6 = .pointer (some ⟨p, 0, none⟩) ∧ m ≤ p ∧ u.heap[p]? = some (.cells #[.int .i64 0, .int .i64 0, .int .i64 0, .int .i64 0, .int .i64 0, .string ⟨#[]⟩, .slice none 0 0, .int .i64 0, .int .i64 0, .slice none 0 0] 35 (0, 0))
  n : L 4 = true → L 5 = true → f 5 ≠ f 6
theorem Al.below {m : Nat} {L : Nat → Bool} {f : Nat → Value} {u u' : World} (h : Al m L f u) (hb : Below u.heap.size u u') : Al m L f u' :=
  ⟨fun e => by obtain ⟨p, h1, h2, h3⟩ := h.a e; exact ⟨p, h1, h2, (hb.block p (Array.getElem?_eq_some_iff.1 h3).1).trans h3⟩, fun e => by obtain ⟨p, h1, h2, h3⟩ := h.b e; exact ⟨p, h1, h2, (hb.block p (Array.getElem?_eq_some_iff.1 h3).1).trans h3⟩, h.n⟩
def B4 (m : Nat) (S1 S2 : Sn) (wD : World) : Nat → (Nat → Bool) → (Nat → Value) → World → Prop
  | 0, L, f, u => Below m wD u ∧ Al m L f u
  | 1, L, f, u => Below m wD u ∧ Al m L f u ∧ TV (f 14) S1 u
  | 2, L, f, u => Below m wD u ∧ Al m L f u ∧ TV (f 14) S1 u ∧ TV (f 16) S2 u
  | 3, _, f, u => Below m wD u ∧ ∃ p5 p6, f 5 = .pointer (some ⟨p5, 0, none⟩) ∧ f 6 = .pointer (some ⟨p6, 0, none⟩) ∧ m ≤ p6 ∧ p5 ≠ p6 ∧ TO p5 S1 u ∧ u.heap[p6]? = some (.cells #[.int .i64 0, .int .i64 0, .int .i64 0, .int .i64 0, .int .i64 0, .string ⟨#[]⟩, .slice none 0 0, .int .i64 0, .int .i64 0, .slice none 0 0] 35 (0, 0)) ∧ TV (f 16) S2 u
  | _, _, f, u => Below m wD u ∧ ∃ p5 p6, f 5 = .pointer (some ⟨p5, 0, none⟩) ∧ f 6 = .pointer (some ⟨p6, 0, none⟩) ∧ TO p5 S1 u ∧ TO p6 S2 u
theorem B4.base {m k : Nat} {S1 S2 : Sn} {wD u : World} {L : Nat → Bool} {f : Nat → Value} (h : B4 m S1 S2 wD k L f u) : Below m wD u := by
  match k, h with
  | 0, h => exact h.1
  | 1, h => exact h.1
  | 2, h => exact h.1
  | 3, h => exact h.1
  | _ + 4, h => exact h.1
theorem B4.al {m k : Nat} {S1 S2 : Sn} {wD u : World} {L : Nat → Bool} {f : Nat → Value} (hk : k ≤ 2) (h : B4 m S1 S2 wD k L f u) : Al m L f u := by
  match k, hk, h with
  | 0, _, h => exact h.2
  | 1, _, h => exact h.2.1
  | 2, _, h => exact h.2.1
theorem B4.cong {m k : Nat} {S1 S2 : Sn} {wD u : World} {L L2 : Nat → Bool} {f f2 : Nat → Value} (hk : k ≤ 2) (hb : Al m L2 f2 u) (e14 : f 14 = f2 14) (e16 : f 16 = f2 16) (h : B4 m S1 S2 wD k L f u) : B4 m S1 S2 wD k L2 f2 u := by
  match k, hk, h with
  | 0, _, h => exact ⟨h.1, hb⟩
  | 1, _, h => exact ⟨h.1, hb, by rw [← e14]; exact h.2.2⟩
  | 2, _, h => exact ⟨h.1, hb, by rw [← e14]; exact h.2.2.1, by rw [← e16]; exact h.2.2.2⟩
theorem B4.more {m k : Nat} {S1 S2 : Sn} {wD u u' : World} {L : Nat → Bool} {f : Nat → Value} (hm : m ≤ wD.heap.size) (hk : k ≤ 2) (h : B4 m S1 S2 wD k L f u) (hb : Below u.heap.size u u') : B4 m S1 S2 wD k L f u' := by
  have h0 : Below m wD u' := h.base.trans (hb.mono (Nat.le_trans hm h.base.size))
  have hA := (h.al hk).below hb
  match k, hk, h with
  | 0, _, h => exact ⟨h0, hA⟩
  | 1, _, h => exact ⟨h0, hA, h.2.2.below hb⟩
  | 2, _, h => exact ⟨h0, hA, h.2.2.1.below hb, h.2.2.2.below hb⟩
theorem Al.keep {m : Nat} {L L2 : Nat → Bool} {f f2 : Nat → Value} {u : World} (e4 : L2 4 = L 4) (e5 : L2 5 = L 5) (g5 : f2 5 = f 5) (g6 : f2 6 = f 6) (h : Al m L f u) : Al m L2 f2 u :=
  ⟨fun e => by rw [g5]; exact h.a (by rw [← e4]; exact e), fun e => by rw [g6]; exact h.b (by rw [← e5]; exact e), fun e e' => by rw [g5, g6]; exact h.n (by rw [← e4]; exact e) (by rw [← e5]; exact e')⟩
def ApOk3 (s1 s2 : Sn) (a1 : Option Addr) (a2 a3 : Nat) (a4 : Option Addr) (a5 a6 : Nat) (b1 : Option Addr) (b2 b3 : Nat) (b4 : Option Addr) (b5 b6 : Nat) : Nat → Value → World → Prop
  | 0, u, _ => u = .agg #[.int .i64 s1.k, .int .i64 s1.w, .int .i64 s1.h, .int .i64 s1.x, .int .i64 s1.y, .string s1.t, .slice a1 a2 a3, .int .i64 s1.n, .int .i64 s1.c, .slice a4 a5 a6]
  | 1, _, _ => True
  | 2, u, _ => u = .agg #[.int .i64 s2.k, .int .i64 s2.w, .int .i64 s2.h, .int .i64 s2.x, .int .i64 s2.y, .string s2.t, .slice b1 b2 b3, .int .i64 s2.n, .int .i64 s2.c, .slice b4 b5 b6]
  | 3, _, _ => True
  | 4, _, _ => True
  | 5, _, _ => True
  | _, _, _ => True
def ApOk4 (S1 S2 : Sn) (c1 : Option Addr) (c2 c3 : Nat) (c4 : Option Addr) (c5 c6 : Nat) (g1 : Option Addr) (g2 g3 : Nat) (g4 : Option Addr) (g5 g6 : Nat) : Nat → Value → World → Prop
  | 0, u, _ => u = .agg #[.int .i64 S1.k, .int .i64 S1.w, .int .i64 S1.h, .int .i64 S1.x, .int .i64 S1.y, .string S1.t, .slice c1 c2 c3, .int .i64 S1.n, .int .i64 S1.c, .slice c4 c5 c6]
  | 2, u, _ => u = .agg #[.int .i64 S2.k, .int .i64 S2.w, .int .i64 S2.h, .int .i64 S2.x, .int .i64 S2.y, .string S2.t, .slice g1 g2 g3, .int .i64 S2.n, .int .i64 S2.c, .slice g4 g5 g6]
  | _, _, _ => True
def ApOk6ff (S1 S2 : Sn) (c1 : Option Addr) (c2 c3 : Nat) (c4 : Option Addr) (c5 c6 : Nat) (g1 : Option Addr) (g2 g3 : Nat) (g4 : Option Addr) (g5 g6 : Nat) (x1 : Option Addr) (x2 x3 : Nat) (x4 : Option Addr) (x5 x6 : Nat) (y1 : Option Addr) (y2 y3 : Nat) (y4 : Option Addr) (y5 y6 : Nat) (D : Bool) (s1p s2p : ByteArray) : Nat → Value → World → Prop
  | 0, u, _ => u = .agg #[.int .i64 S1.k, .int .i64 S1.w, .int .i64 S1.h, .int .i64 S1.x, .int .i64 S1.y, .string S1.t, .slice c1 c2 c3, .int .i64 S1.n, .int .i64 S1.c, .slice c4 c5 c6]
  | 1, u, _ => u = .int .i64 1
  | 2, u, _ => u = .bool true
  | 3, u, _ => u = .agg #[.int .i64 S1.k, .int .i64 S1.w, .int .i64 S1.h, .int .i64 S1.x, .int .i64 S1.y, .string S1.t, .slice x1 x2 x3, .int .i64 S1.n, .int .i64 S1.c, .slice x4 x5 x6]
  | 4, u, _ => u = .bool false
  | 5, u, _ => u = .bool true
  | 6, u, _ => u = .bool true
  | 7, u, _ => u = .bool true
  | 8, u, _ => u = .agg #[.int .i64 S2.k, .int .i64 S2.w, .int .i64 S2.h, .int .i64 S2.x, .int .i64 S2.y, .string S2.t, .slice g1 g2 g3, .int .i64 S2.n, .int .i64 S2.c, .slice g4 g5 g6]
  | 9, u, _ => u = .int .i64 1
  | 10, u, _ => u = .bool true
  | 11, u, _ => u = .agg #[.int .i64 S2.k, .int .i64 S2.w, .int .i64 S2.h, .int .i64 S2.x, .int .i64 S2.y, .string S2.t, .slice y1 y2 y3, .int .i64 S2.n, .int .i64 S2.c, .slice y4 y5 y6]
  | 12, u, _ => u = .bool false
  | 13, u, _ => u = .bool true
  | 14, u, _ => u = .bool true
  | 15, u, _ => u = .bool true
  | 16, u, _ => u = .bool true
  | _, _, _ => True
def ApOk6ft (S1 S2 : Sn) (c1 : Option Addr) (c2 c3 : Nat) (c4 : Option Addr) (c5 c6 : Nat) (g1 : Option Addr) (g2 g3 : Nat) (g4 : Option Addr) (g5 g6 : Nat) (x1 : Option Addr) (x2 x3 : Nat) (x4 : Option Addr) (x5 x6 : Nat) (y1 : Option Addr) (y2 y3 : Nat) (y4 : Option Addr) (y5 y6 : Nat) (D : Bool) (s1p s2p : ByteArray) : Nat → Value → World → Prop
  | 0, u, _ => u = .agg #[.int .i64 S1.k, .int .i64 S1.w, .int .i64 S1.h, .int .i64 S1.x, .int .i64 S1.y, .string S1.t, .slice c1 c2 c3, .int .i64 S1.n, .int .i64 S1.c, .slice c4 c5 c6]
  | 1, u, _ => u = .int .i64 1
  | 2, u, _ => u = .bool true
  | 3, u, _ => u = .agg #[.int .i64 S1.k, .int .i64 S1.w, .int .i64 S1.h, .int .i64 S1.x, .int .i64 S1.y, .string S1.t, .slice x1 x2 x3, .int .i64 S1.n, .int .i64 S1.c, .slice x4 x5 x6]
  | 4, u, _ => u = .bool false
  | 5, u, _ => u = .bool true
  | 6, u, _ => u = .bool true
  | 7, u, _ => u = .bool true
  | 8, u, _ => u = .agg #[.int .i64 S2.k, .int .i64 S2.w, .int .i64 S2.h, .int .i64 S2.x, .int .i64 S2.y, .string S2.t, .slice g1 g2 g3, .int .i64 S2.n, .int .i64 S2.c, .slice g4 g5 g6]
  | 9, u, _ => u = .int .i64 0
  | 10, u, _ => u = .bool false
  | 11, u, _ => u = .agg #[.int .i64 S2.k, .int .i64 S2.w, .int .i64 S2.h, .int .i64 S2.x, .int .i64 S2.y, .string S2.t, .slice y1 y2 y3, .int .i64 S2.n, .int .i64 S2.c, .slice y4 y5 y6]
  | 12, u, _ => u = .bool true
  | 13, u, _ => u = .bool false
  | 14, u, _ => u = .bool true
  | 15, u, _ => u = .bool true
  | 16, u, _ => u = .bool true
  | _, _, _ => True
def ApOk6tf (S1 S2 : Sn) (c1 : Option Addr) (c2 c3 : Nat) (c4 : Option Addr) (c5 c6 : Nat) (g1 : Option Addr) (g2 g3 : Nat) (g4 : Option Addr) (g5 g6 : Nat) (x1 : Option Addr) (x2 x3 : Nat) (x4 : Option Addr) (x5 x6 : Nat) (y1 : Option Addr) (y2 y3 : Nat) (y4 : Option Addr) (y5 y6 : Nat) (D : Bool) (s1p s2p : ByteArray) : Nat → Value → World → Prop
  | 0, u, _ => u = .agg #[.int .i64 S1.k, .int .i64 S1.w, .int .i64 S1.h, .int .i64 S1.x, .int .i64 S1.y, .string S1.t, .slice c1 c2 c3, .int .i64 S1.n, .int .i64 S1.c, .slice c4 c5 c6]
  | 1, u, _ => u = .int .i64 0
  | 2, u, _ => u = .bool false
  | 3, u, _ => u = .agg #[.int .i64 S1.k, .int .i64 S1.w, .int .i64 S1.h, .int .i64 S1.x, .int .i64 S1.y, .string S1.t, .slice x1 x2 x3, .int .i64 S1.n, .int .i64 S1.c, .slice x4 x5 x6]
  | 4, u, _ => u = .bool true
  | 5, u, _ => u = .bool false
  | 6, u, _ => u = .bool true
  | 7, u, _ => u = .bool true
  | 8, u, _ => u = .agg #[.int .i64 S2.k, .int .i64 S2.w, .int .i64 S2.h, .int .i64 S2.x, .int .i64 S2.y, .string S2.t, .slice g1 g2 g3, .int .i64 S2.n, .int .i64 S2.c, .slice g4 g5 g6]
  | 9, u, _ => u = .int .i64 1
  | 10, u, _ => u = .bool true
  | 11, u, _ => u = .agg #[.int .i64 S2.k, .int .i64 S2.w, .int .i64 S2.h, .int .i64 S2.x, .int .i64 S2.y, .string S2.t, .slice y1 y2 y3, .int .i64 S2.n, .int .i64 S2.c, .slice y4 y5 y6]
  | 12, u, _ => u = .bool false
  | 13, u, _ => u = .bool true
  | 14, u, _ => u = .bool true
  | 15, u, _ => u = .bool true
  | 16, u, _ => u = .bool true
  | _, _, _ => True
def ApOk7tt (S1 S2 : Sn) (c1 : Option Addr) (c2 c3 : Nat) (c4 : Option Addr) (c5 c6 : Nat) (g1 : Option Addr) (g2 g3 : Nat) (g4 : Option Addr) (g5 g6 : Nat) (x1 : Option Addr) (x2 x3 : Nat) (x4 : Option Addr) (x5 x6 : Nat) (y1 : Option Addr) (y2 y3 : Nat) (y4 : Option Addr) (y5 y6 : Nat) (D : Bool) (s1p s2p : ByteArray) : Nat → Value → World → Prop
  | 0, u, _ => u = .agg #[.int .i64 S1.k, .int .i64 S1.w, .int .i64 S1.h, .int .i64 S1.x, .int .i64 S1.y, .string S1.t, .slice c1 c2 c3, .int .i64 S1.n, .int .i64 S1.c, .slice c4 c5 c6]
  | 1, u, _ => u = .agg #[.int .i64 S2.k, .int .i64 S2.w, .int .i64 S2.h, .int .i64 S2.x, .int .i64 S2.y, .string S2.t, .slice g1 g2 g3, .int .i64 S2.n, .int .i64 S2.c, .slice g4 g5 g6]
  | 2, u, _ => u = .bool D
  | 3, u, _ => u = .agg #[.int .i64 S1.k, .int .i64 S1.w, .int .i64 S1.h, .int .i64 S1.x, .int .i64 S1.y, .string S1.t, .slice c1 c2 c3, .int .i64 S1.n, .int .i64 S1.c, .slice c4 c5 c6]
  | 4, u, _ => u = .agg #[.int .i64 S2.k, .int .i64 S2.w, .int .i64 S2.h, .int .i64 S2.x, .int .i64 S2.y, .string S2.t, .slice y1 y2 y3, .int .i64 S2.n, .int .i64 S2.c, .slice y4 y5 y6]
  | 5, u, _ => u = .bool D
  | 6, u, _ => u = .bool true
  | 7, u, _ => u = .bool true
  | 8, u, _ => u = .agg #[.int .i64 S1.k, .int .i64 S1.w, .int .i64 S1.h, .int .i64 S1.x, .int .i64 S1.y, .string S1.t, .slice c1 c2 c3, .int .i64 S1.n, .int .i64 S1.c, .slice c4 c5 c6]
  | 9, u, _ => u = .string s1p
  | 10, u, _ => u = .agg #[.int .i64 S2.k, .int .i64 S2.w, .int .i64 S2.h, .int .i64 S2.x, .int .i64 S2.y, .string S2.t, .slice g1 g2 g3, .int .i64 S2.n, .int .i64 S2.c, .slice g4 g5 g6]
  | 11, u, _ => u = .string s2p
  | 12, u, _ => u = .bool D
  | 13, u, _ => u = .agg #[.int .i64 S1.k, .int .i64 S1.w, .int .i64 S1.h, .int .i64 S1.x, .int .i64 S1.y, .string S1.t, .slice c1 c2 c3, .int .i64 S1.n, .int .i64 S1.c, .slice c4 c5 c6]
  | 14, u, _ => u = .agg #[.int .i64 S2.k, .int .i64 S2.w, .int .i64 S2.h, .int .i64 S2.x, .int .i64 S2.y, .string S2.t, .slice g1 g2 g3, .int .i64 S2.n, .int .i64 S2.c, .slice g4 g5 g6]
  | 15, u, _ => u = .bool D
  | 16, u, _ => u = .bool true
  | 17, u, _ => u = .bool true
  | 18, u, _ => u = .bool true
  | _, _, _ => True
set_option maxRecDepth 100000 in
set_option maxHeartbeats 16000000 in
theorem snapApart_walk (s1 : Sn) (a1 : Option Addr) (a2 a3 : Nat) (a4 : Option Addr) (a5 a6 : Nat) (s2 : Sn) (b1 : Option Addr) (b2 b3 : Nat) (b4 : Option Addr) (b5 b6 : Nat) (w : World)
    (hI1 : SnIn .i32 a1 a2 a3 a4 a5 a6 s1 w) (hr1 : ∀ r ∈ s1.R, AllC Rng r.l) (hg1 : ∀ g ∈ s1.B, -2147483648 ≤ g.1 ∧ g.1 ≤ 2147483647) (ht1 : (s1.t.size : Int) ≤ 9223372036854775807)
    (hI2 : SnIn .i32 b1 b2 b3 b4 b5 b6 s2 w) (hr2 : ∀ r ∈ s2.R, AllC Rng r.l) (hg2 : ∀ g ∈ s2.B, -2147483648 ≤ g.1 ∧ g.1 ≤ 2147483647) (ht2 : (s2.t.size : Int) ≤ 9223372036854775807) :
    Calls Try.prog 4 #[.agg (snA s1 a1 a2 a3 a4 a5 a6), .agg (snA s2 b1 b2 b3 b4 b5 b6)] w fun e w' => e = .returned (.bool true) ∧ Below w.heap.size w w' := by
  obtain ⟨rb, hrb⟩ : ∃ rb, w.heap.size = rb := ⟨_, rfl⟩
  obtain ⟨P, hP⟩ : ∃ P : Ending → World → Prop, (fun e w' => e = .returned (.bool true) ∧ Below w.heap.size w w') = P := ⟨_, rfl⟩
  rw [hP]
  have HEnd : Hid (∀ v, Below rb w v → P (.returned (.bool true)) v) := Lib.hid (fun v hb => by rw [← hP, hrb]; exact ⟨rfl, hb⟩)
  obtain ⟨w1, hw1⟩ : ∃ w1, (w.alloc (.cells (snA s1 a1 a2 a3 a4 a5 a6) 27)).alloc (.cells (snA s2 b1 b2 b3 b4 b5 b6) 27) = w1 := ⟨_, rfl⟩
  have bb1 : Below w.heap.size w (w.alloc (.cells (snA s1 a1 a2 a3 a4 a5 a6) 27)) := (Below.refl _ _).alloc (Nat.le_refl _) _
  have hb1 : Below rb w w1 := by rw [← hw1, ← hrb]; exact bb1.alloc (by rw [World.size_alloc]; omega) _
  have hz1 : w1.heap[rb]? = some (.cells (snA s1 a1 a2 a3 a4 a5 a6) 27 (0, 0)) := by
    rw [← hw1, ← hrb, Below.heap_alloc _ _ _ (by rw [World.size_alloc]; omega)]
    exact heap_alloc_new w _
  have hy1 : w1.heap[rb + 1]? = some (.cells (snA s2 b1 b2 b3 b4 b5 b6) 27 (0, 0)) := by
    have h := heap_alloc_new (w.alloc (.cells (snA s1 a1 a2 a3 a4 a5 a6) 27)) (.cells (snA s2 b1 b2 b3 b4 b5 b6) 27)
    rw [World.size_alloc, hrb, hw1] at h
    exact h
  obtain ⟨S1, hS1⟩ : ∃ S, cutN s1 = S := ⟨_, rfl⟩
  obtain ⟨S2, hS2⟩ : ∃ S, cutN s2 = S := ⟨_, rfl⟩
  have HS1 := Lib.hid hS1
  have HS2 := Lib.hid hS2
  have HO1b : Hid (SnB S1) := Lib.hid (by rw [← hS1]; exact cutN_b hr1 hg1)
  have HO2b : Hid (SnB S2) := Lib.hid (by rw [← hS2]; exact cutN_b hr2 hg2)
  have HT1 := Lib.hid ht1
  have HT2 := Lib.hid ht2
  have HA := Lib.hid (nawake_any w1)
  have HI1w := Lib.hid hI1
  have HI2w := Lib.hid hI2
  have HW1 := Lib.hid hw1
  have HRb := Lib.hid hrb
  have HB1 := Lib.hid hb1
  have HZ1w := Lib.hid hz1
  have HY1w := Lib.hid hy1
  clear hP hrb hw1 bb1 hb1 hz1 hy1 hS1 hS2 hr1 hr2 hg1 hg2 ht1 ht2 hI1 hI2
  unfold snA at HW1
  unfold snA
  go_enter Try.func4, Try.ntmps4
  go_upto_region 1 with fail
  rw [HW1.out, HRb.out]
  go_wp2_with fail
  refine HA.out.mono ?_
  rintro e wB ⟨rfl, hbB⟩
  obtain ⟨m, hm⟩ : ∃ m, wB.heap.size = m := ⟨_, rfl⟩
  have HM := Lib.hid hm
  have hz1l := (Array.getElem?_eq_some_iff.1 HZ1w.out).1
  have hy1l := (Array.getElem?_eq_some_iff.1 HY1w.out).1
  have HZa := Lib.hid ((hbB.block rb hz1l).trans HZ1w.out)
  have HZb := Lib.hid ((hbB.block (rb + 1) hy1l).trans HY1w.out)
  have HBw : Hid (Below rb w wB) := Lib.hid (HB1.out.trans (hbB.mono (by omega)))
  have HLt : Hid (rb < m ∧ rb + 1 < m) := Lib.hid (by have := hbB.size; omega)
  have HLt2 : Hid (rb ≤ m) := Lib.hid (by have := hbB.size; omega)
  have HI1 := Lib.hid (HI1w.out.belowAll (show Below w.heap.size w wB from by rw [HRb.out]; exact HBw.out))
  have HI2 := Lib.hid (HI2w.out.belowAll (show Below w.heap.size w wB from by rw [HRb.out]; exact HBw.out))
  clear hm hbB hz1l hy1l HA
  go_upto_region 3 with fail
  refine Go.Proofs.Ytjlljkdlgkociaa.R.wp_region_due [1, 3, 4, 5] [0, 1, 1, 2, 3, 4] (by kernel_rfl) (A3 rb m S1 S2 w wB) (fun _ _ => True) (ApOk3 s1 s2 a1 a2 a3 a4 a5 a6 b1 b2 b3 b4 b5 b6) (by rfl) (by kernel_rfl) (by kernel_rfl) (by kernel_rfl) (by kernel_rfl) ?hcong ?hOk ?hop ?hdone ?h0
  case hcong => exact fun k f f2 u hs hst => A3.cong (fun hk => by rcases hk with hk | hk; exact hs 10 (Go.Proofs.Ytjlljkdlgkociaa.R.mem_slots (by subst hk; kernel_rfl)); exact hs 10 (Go.Proofs.Ytjlljkdlgkociaa.R.mem_slots (by subst hk; kernel_rfl))) (fun hk => by rcases hk with hk | hk; exact hs 12 (Go.Proofs.Ytjlljkdlgkociaa.R.mem_slots (by subst hk; kernel_rfl)); exact hs 12 (Go.Proofs.Ytjlljkdlgkociaa.R.mem_slots (by subst hk; kernel_rfl))) hst
  case hOk => intro i u w1 w2 h hr; unfold ApOk3 at h ⊢; split <;> first | exact True.intro | exact h
  case h0 => exact (Below.refl _ _).drew
  case hop =>
    refine ⟨?_, ?_, ?_, ?_, ?_, ?_, trivial⟩
    · intro k z v hk hst hag hdep
      refine .inl ⟨rfl, fun K hK => ?_⟩
      have d2 : z.tmps.getD 2 undef = .pointer (some ⟨rb, 0, none⟩) := hag.2.2 2 (by kernel_rfl)
      have e2 := d2
      rw [Array.getD_eq_getD_getElem?] at e2
      have hb := A3.base (Nat.le_trans hk (by decide)) hst
      have hz := (hb.block rb HLt.out.1).trans HZa.out
      unfold snA at hz
      have lc0 : v.cell? ⟨rb, 0, none⟩ = some (.int .i64 s1.k) := by rw [cell_block hz]; rfl
      have lc1 : v.cell? ⟨rb, 1, none⟩ = some (.int .i64 s1.w) := by rw [cell_block hz]; rfl
      have lc2 : v.cell? ⟨rb, 2, none⟩ = some (.int .i64 s1.h) := by rw [cell_block hz]; rfl
      have lc3 : v.cell? ⟨rb, 3, none⟩ = some (.int .i64 s1.x) := by rw [cell_block hz]; rfl
      have lc4 : v.cell? ⟨rb, 4, none⟩ = some (.int .i64 s1.y) := by rw [cell_block hz]; rfl
      have lc5 : v.cell? ⟨rb, 5, none⟩ = some (.string s1.t) := by rw [cell_block hz]; rfl
      have lc6 : v.cell? ⟨rb, 6, none⟩ = some (.slice a1 a2 a3) := by rw [cell_block hz]; rfl
      have lc7 : v.cell? ⟨rb, 7, none⟩ = some (.int .i64 s1.n) := by rw [cell_block hz]; rfl
      have lc8 : v.cell? ⟨rb, 8, none⟩ = some (.int .i64 s1.c) := by rw [cell_block hz]; rfl
      have lc9 : v.cell? ⟨rb, 9, none⟩ = some (.slice a4 a5 a6) := by rw [cell_block hz]; rfl
      have HSt := Lib.hid hst
      clear hdep hag hst
      go_simp
      exact hK _ _ trivial rfl HSt.out
    · intro z v hst hag hdep
      refine ⟨rfl, fun K hK => ?_⟩
      have d9 : z.tmps.getD 9 undef = .agg #[.int .i64 s1.k, .int .i64 s1.w, .int .i64 s1.h, .int .i64 s1.x, .int .i64 s1.y, .string s1.t, .slice a1 a2 a3, .int .i64 s1.n, .int .i64 s1.c, .slice a4 a5 a6] := hdep { on := 0, ground := .data } (by simp) rfl _ _ rfl rfl
      have e9 := d9
      rw [Array.getD_eq_getD_getElem?] at e9
      have hb : Below m wB v := hst
      have hca := ncut_any s1 a1 a2 a3 a4 a5 a6 v (HI1.out.belowAll (by rw [HM.out]; exact hb)) HT1.out
      unfold CutPost at hca
      rw [HS1.out] at hca
      have HCa := Lib.hid hca
      clear hca
      have HBv := Lib.hid hb
      have hsz : 10 < z.tmps.size := by rw [hag.2.1]; show 10 < 59; decide
      unfold snA at HCa
      clear hdep hag hst hb
      go_simp
      refine HCa.out.mono ?_
      rintro e w' ⟨xa, xn, xc, ya, yn, yc, rfl, hO, hb2⟩
      exact hK _ _ trivial True.intro ⟨HBv.out.trans (hb2.mono (by have := HBv.out.size; have := HM.out; omega)), xa, xn, xc, ya, yn, yc, Go.Proofs.Ytjlljkdlgkociaa.R.slot_same hsz, hO.weaken (by have := HBv.out.size; have := HM.out; omega)⟩
    · intro k z v hk hst hag hdep
      refine .inl ⟨rfl, fun K hK => ?_⟩
      have d3 : z.tmps.getD 3 undef = .pointer (some ⟨rb + 1, 0, none⟩) := hag.2.2 3 (by kernel_rfl)
      have e3 := d3
      rw [Array.getD_eq_getD_getElem?] at e3
      have hb := A3.base (Nat.le_trans hk (by decide)) hst
      have hz := (hb.block (rb + 1) HLt.out.2).trans HZb.out
      unfold snA at hz
      have lc0 : v.cell? ⟨rb + 1, 0, none⟩ = some (.int .i64 s2.k) := by rw [cell_block hz]; rfl
      have lc1 : v.cell? ⟨rb + 1, 1, none⟩ = some (.int .i64 s2.w) := by rw [cell_block hz]; rfl
      have lc2 : v.cell? ⟨rb + 1, 2, none⟩ = some (.int .i64 s2.h) := by rw [cell_block hz]; rfl
      have lc3 : v.cell? ⟨rb + 1, 3, none⟩ = some (.int .i64 s2.x) := by rw [cell_block hz]; rfl
      have lc4 : v.cell? ⟨rb + 1, 4, none⟩ = some (.int .i64 s2.y) := by rw [cell_block hz]; rfl
      have lc5 : v.cell? ⟨rb + 1, 5, none⟩ = some (.string s2.t) := by rw [cell_block hz]; rfl
      have lc6 : v.cell? ⟨rb + 1, 6, none⟩ = some (.slice b1 b2 b3) := by rw [cell_block hz]; rfl
      have lc7 : v.cell? ⟨rb + 1, 7, none⟩ = some (.int .i64 s2.n) := by rw [cell_block hz]; rfl
      have lc8 : v.cell? ⟨rb + 1, 8, none⟩ = some (.int .i64 s2.c) := by rw [cell_block hz]; rfl
      have lc9 : v.cell? ⟨rb + 1, 9, none⟩ = some (.slice b4 b5 b6) := by rw [cell_block hz]; rfl
      have HSt := Lib.hid hst
      clear hdep hag hst
      go_simp
      exact hK _ _ trivial rfl HSt.out
    · intro z v hst hag hdep
      refine ⟨rfl, fun K hK => ?_⟩
      have d11 : z.tmps.getD 11 undef = .agg #[.int .i64 s2.k, .int .i64 s2.w, .int .i64 s2.h, .int .i64 s2.x, .int .i64 s2.y, .string s2.t, .slice b1 b2 b3, .int .i64 s2.n, .int .i64 s2.c, .slice b4 b5 b6] := hdep { on := 2, ground := .data } (by simp) rfl _ _ rfl rfl
      have e11 := d11
      rw [Array.getD_eq_getD_getElem?] at e11
      obtain ⟨hb, hv⟩ : Below m wB v ∧ AV m (z.tmps.getD 10 undef) S1 v := hst
      have hca := ncut_any s2 b1 b2 b3 b4 b5 b6 v (HI2.out.belowAll (by rw [HM.out]; exact hb)) HT2.out
      unfold CutPost at hca
      rw [HS2.out] at hca
      have HCa := Lib.hid hca
      clear hca
      have HBv := Lib.hid hb
      have HV := Lib.hid hv
      have hsz : 12 < z.tmps.size := by rw [hag.2.1]; show 12 < 59; decide
      unfold snA at HCa
      clear hdep hag hb hv
      go_simp
      refine HCa.out.mono ?_
      rintro e w' ⟨xa, xn, xc, ya, yn, yc, rfl, hO, hb2⟩
      exact hK _ _ trivial True.intro ⟨HBv.out.trans (hb2.mono (by have := HBv.out.size; have := HM.out; omega)), by rw [Go.Proofs.Ytjlljkdlgkociaa.R.slot_put (by decide)]; exact HV.out.below hb2, xa, xn, xc, ya, yn, yc, Go.Proofs.Ytjlljkdlgkociaa.R.slot_same hsz, hO.weaken (by have := HBv.out.size; have := HM.out; omega)⟩
    · intro z v hst hag hdep
      refine ⟨rfl, fun K hK => ?_⟩
      have d2 : z.tmps.getD 2 undef = .pointer (some ⟨rb, 0, none⟩) := hag.2.2 2 (by kernel_rfl)
      have e2 := d2
      rw [Array.getD_eq_getD_getElem?] at e2
      obtain ⟨hb, ⟨c1, c2, c3, c4, c5, c6, e10v, hO⟩, hv⟩ : Below m wB v ∧ AV m (z.tmps.getD 10 undef) S1 v ∧ AV m (z.tmps.getD 12 undef) S2 v := hst
      unfold snA at e10v
      have d10 := e10v
      have e10 := d10
      rw [Array.getD_eq_getD_getElem?] at e10
      have hz := (hb.block rb HLt.out.1).trans HZa.out
      unfold snA at hz
      have lc0 : v.cell? ⟨rb, 0, none⟩ = some (.int .i64 s1.k) := by rw [cell_block hz]; rfl
      have lc1 : v.cell? ⟨rb, 1, none⟩ = some (.int .i64 s1.w) := by rw [cell_block hz]; rfl
      have lc2 : v.cell? ⟨rb, 2, none⟩ = some (.int .i64 s1.h) := by rw [cell_block hz]; rfl
      have lc3 : v.cell? ⟨rb, 3, none⟩ = some (.int .i64 s1.x) := by rw [cell_block hz]; rfl
      have lc4 : v.cell? ⟨rb, 4, none⟩ = some (.int .i64 s1.y) := by rw [cell_block hz]; rfl
      have lc5 : v.cell? ⟨rb, 5, none⟩ = some (.string s1.t) := by rw [cell_block hz]; rfl
      have lc6 : v.cell? ⟨rb, 6, none⟩ = some (.slice a1 a2 a3) := by rw [cell_block hz]; rfl
      have lc7 : v.cell? ⟨rb, 7, none⟩ = some (.int .i64 s1.n) := by rw [cell_block hz]; rfl
      have lc8 : v.cell? ⟨rb, 8, none⟩ = some (.int .i64 s1.c) := by rw [cell_block hz]; rfl
      have lc9 : v.cell? ⟨rb, 9, none⟩ = some (.slice a4 a5 a6) := by rw [cell_block hz]; rfl
      have f0 := frozen_block hz 0
      have f1 := frozen_block hz 1
      have f2 := frozen_block hz 2
      have f3 := frozen_block hz 3
      have f4 := frozen_block hz 4
      have f5 := frozen_block hz 5
      have f6 := frozen_block hz 6
      have f7 := frozen_block hz 7
      have f8 := frozen_block hz 8
      have f9 := frozen_block hz 9
      obtain ⟨gg, hx⟩ := set10 hz (.int .i64 S1.k) (.int .i64 S1.w) (.int .i64 S1.h) (.int .i64 S1.x) (.int .i64 S1.y) (.string S1.t) (.slice c1 c2 c3) (.int .i64 S1.n) (.int .i64 S1.c) (.slice c4 c5 c6)
      have HGg := Lib.hid gg
      have HXx := Lib.hid hx
      have HO := Lib.hid hO
      have HV := Lib.hid hv
      have HBv := Lib.hid hb
      clear hdep hag hb hz hO hv gg hx e10v
      go_simp
      exact hK undef _ trivial True.intro ⟨(HBw.out.trans (HBv.out.mono HLt2.out)).trans ((Below.refl rb v).grown HGg.out (by have := HBv.out.size; have := HLt2.out; have := HM.out; omega) (fun q e => by have := Option.some.inj e; omega)), ⟨c1, c2, c3, c4, c5, c6, HXx.out, HO.out.grown HGg.out HLt.out.1⟩, (HGg.out.block (rb + 1) (by have := HBv.out.size; have := HLt.out.2; have := HM.out; omega) (fun e => by have := Option.some.inj e; omega)).trans (HBv.out.block (rb + 1) HLt.out.2), HV.out.grown HGg.out HLt.out.1⟩
    · intro z v hst hag hdep
      refine ⟨rfl, fun K hK => ?_⟩
      have d3 : z.tmps.getD 3 undef = .pointer (some ⟨rb + 1, 0, none⟩) := hag.2.2 3 (by kernel_rfl)
      have e3 := d3
      rw [Array.getD_eq_getD_getElem?] at e3
      obtain ⟨hb, ha, hz0, c1, c2, c3, c4, c5, c6, e12v, hO⟩ : Below rb w v ∧ AO m rb S1 v ∧ v.heap[rb + 1]? = wB.heap[rb + 1]? ∧ AV m (z.tmps.getD 12 undef) S2 v := hst
      unfold snA at e12v
      have d12 := e12v
      have e12 := d12
      rw [Array.getD_eq_getD_getElem?] at e12
      have hz := hz0.trans HZb.out
      unfold snA at hz
      have lc0 : v.cell? ⟨rb + 1, 0, none⟩ = some (.int .i64 s2.k) := by rw [cell_block hz]; rfl
      have lc1 : v.cell? ⟨rb + 1, 1, none⟩ = some (.int .i64 s2.w) := by rw [cell_block hz]; rfl
      have lc2 : v.cell? ⟨rb + 1, 2, none⟩ = some (.int .i64 s2.h) := by rw [cell_block hz]; rfl
      have lc3 : v.cell? ⟨rb + 1, 3, none⟩ = some (.int .i64 s2.x) := by rw [cell_block hz]; rfl
      have lc4 : v.cell? ⟨rb + 1, 4, none⟩ = some (.int .i64 s2.y) := by rw [cell_block hz]; rfl
      have lc5 : v.cell? ⟨rb + 1, 5, none⟩ = some (.string s2.t) := by rw [cell_block hz]; rfl
      have lc6 : v.cell? ⟨rb + 1, 6, none⟩ = some (.slice b1 b2 b3) := by rw [cell_block hz]; rfl
      have lc7 : v.cell? ⟨rb + 1, 7, none⟩ = some (.int .i64 s2.n) := by rw [cell_block hz]; rfl
      have lc8 : v.cell? ⟨rb + 1, 8, none⟩ = some (.int .i64 s2.c) := by rw [cell_block hz]; rfl
      have lc9 : v.cell? ⟨rb + 1, 9, none⟩ = some (.slice b4 b5 b6) := by rw [cell_block hz]; rfl
      have f0 := frozen_block hz 0
      have f1 := frozen_block hz 1
      have f2 := frozen_block hz 2
      have f3 := frozen_block hz 3
      have f4 := frozen_block hz 4
      have f5 := frozen_block hz 5
      have f6 := frozen_block hz 6
      have f7 := frozen_block hz 7
      have f8 := frozen_block hz 8
      have f9 := frozen_block hz 9
      obtain ⟨gg, hx⟩ := set10 hz (.int .i64 S2.k) (.int .i64 S2.w) (.int .i64 S2.h) (.int .i64 S2.x) (.int .i64 S2.y) (.string S2.t) (.slice c1 c2 c3) (.int .i64 S2.n) (.int .i64 S2.c) (.slice c4 c5 c6)
      have HGg := Lib.hid gg
      have HXx := Lib.hid hx
      have HO := Lib.hid hO
      have HAo := Lib.hid ha
      have HBv := Lib.hid hb
      have hlz := (Array.getElem?_eq_some_iff.1 hz).1
      clear hdep hag hb hz hz0 hO ha gg hx e12v
      go_simp
      exact hK undef _ trivial True.intro ⟨HBv.out.trans ((Below.refl rb v).grown HGg.out (by omega) (fun q e => by have := Option.some.inj e; omega)), HAo.out.grown HGg.out HLt.out.2 (by omega), ⟨c1, c2, c3, c4, c5, c6, HXx.out, HO.out.grown HGg.out HLt.out.2⟩⟩
  case hdone =>
    intro z v hst hag hok
    obtain ⟨hb3, ha3, hb3'⟩ : Below rb w v ∧ AO m rb S1 v ∧ AO m (rb + 1) S2 v := hst
    have HB3 := Lib.hid hb3
    have HA3 := Lib.hid ha3
    have HAb3 := Lib.hid hb3'
    clear hb3 ha3 hb3'
    obtain ⟨uu, hu, hzz⟩ := Go.Proofs.Ytjlljkdlgkociaa.R.agree_frame [9, 10, 11, 12] rfl hag

    subst hzz
    simp only [List.foldl_cons, List.foldl_nil]
    rw []
    clear  hu hag hok
    try dsimp only [Exit.then]
    simp only [List.setIfInBounds_toArray, List.set_cons_succ, List.set_cons_zero]
    generalize uu 9 = u9', uu 10 = u10', uu 11 = u11', uu 12 = u12'
    clear uu
    rename_i K3 hK3
    refine hK3 _ _ ?_
    obtain ⟨wD, hwD⟩ : ∃ wD, v = wD := ⟨_, rfl⟩
    rw [hwD] at HB3 HA3 HAb3 ⊢
    clear hwD
    obtain ⟨c1, c2, c3, c4, c5, c6, hz4, hO1⟩ := HA3.out
    obtain ⟨g1, g2, g3, g4, g5, g6, hy4, hO2⟩ := HAb3.out
    obtain ⟨m4, hm4⟩ : ∃ m, wD.heap.size = m := ⟨_, rfl⟩
    have HM4 := Lib.hid hm4
    have HZ1 := Lib.hid hz4
    have HZ2 := Lib.hid hy4
    have HO1 := Lib.hid hO1
    have HO2 := Lib.hid hO2
    have HLt4 : Hid (rb < m4 ∧ rb + 1 < m4) := Lib.hid (by have := (Array.getElem?_eq_some_iff.1 hy4).1; omega)
    clear hz4 hy4 hm4 hO1 hO2
    go_upto_region 4 with fail
    refine Go.Proofs.Ytjlljkdlgkociaa.R.wp_region_seen [1, 3, 6, 7] [0, 1, 1, 2, 2, 2, 3, 4] (by kernel_rfl) (B4 m4 S1 S2 wD) (fun _ _ => True) (ApOk4 S1 S2 c1 c2 c3 c4 c5 c6 g1 g2 g3 g4 g5 g6) (by rfl) (by kernel_rfl) (by kernel_rfl) (by kernel_rfl) (by kernel_rfl) ?hOk ?hop ?hdone ?h0
    case hOk => intro i u w1 w2 h hr; unfold ApOk4 at h ⊢; split <;> first | exact True.intro | exact h
    case h0 => exact (And.intro ((Below.refl _ _).drew) (Al.mk (fun e => by cases e) (fun e => by cases e) (fun e => by cases e)))
    case hop =>
      refine ⟨?_, ?_, ?_, ?_, ?_, ?_, ?_, ?_, trivial⟩
      · intro k L z v hk hL hst hag hpre hdep
        have hk2 : k ≤ 2 := Nat.le_trans hk (by decide)
        refine .inl ⟨rfl, fun K hK => ?_⟩
        have d2 : z.tmps.getD 2 undef = .pointer (some ⟨rb, 0, none⟩) := hag.2.2 2 (by kernel_rfl)
        have e2 := d2
        rw [Array.getD_eq_getD_getElem?] at e2
        have hb := hst.base
        have hz := (hb.block (rb) HLt4.out.1).trans HZ1.out
        unfold snA at hz
        have lc0 : v.cell? ⟨rb, 0, none⟩ = some (.int .i64 S1.k) := by rw [cell_block hz]; rfl
        have lc1 : v.cell? ⟨rb, 1, none⟩ = some (.int .i64 S1.w) := by rw [cell_block hz]; rfl
        have lc2 : v.cell? ⟨rb, 2, none⟩ = some (.int .i64 S1.h) := by rw [cell_block hz]; rfl
        have lc3 : v.cell? ⟨rb, 3, none⟩ = some (.int .i64 S1.x) := by rw [cell_block hz]; rfl
        have lc4 : v.cell? ⟨rb, 4, none⟩ = some (.int .i64 S1.y) := by rw [cell_block hz]; rfl
        have lc5 : v.cell? ⟨rb, 5, none⟩ = some (.string S1.t) := by rw [cell_block hz]; rfl
        have lc6 : v.cell? ⟨rb, 6, none⟩ = some (.slice c1 c2 c3) := by rw [cell_block hz]; rfl
        have lc7 : v.cell? ⟨rb, 7, none⟩ = some (.int .i64 S1.n) := by rw [cell_block hz]; rfl
        have lc8 : v.cell? ⟨rb, 8, none⟩ = some (.int .i64 S1.c) := by rw [cell_block hz]; rfl
        have lc9 : v.cell? ⟨rb, 9, none⟩ = some (.slice c4 c5 c6) := by rw [cell_block hz]; rfl
        have HSt := Lib.hid hst
        clear hdep hag hst hb hz
        go_simp
        exact hK _ _ trivial rfl (B4.cong hk2 (Al.keep (L := L) rfl rfl (Go.Proofs.Ytjlljkdlgkociaa.R.slot_put (by decide)) (Go.Proofs.Ytjlljkdlgkociaa.R.slot_put (by decide)) (HSt.out.al hk2)) (Go.Proofs.Ytjlljkdlgkociaa.R.slot_put (by decide)).symm (Go.Proofs.Ytjlljkdlgkociaa.R.slot_put (by decide)).symm HSt.out)
      · intro L z v hL hst hag hpre hdep
        refine ⟨rfl, fun K hK => ?_⟩
        have d13 : z.tmps.getD 13 undef = .agg #[.int .i64 S1.k, .int .i64 S1.w, .int .i64 S1.h, .int .i64 S1.x, .int .i64 S1.y, .string S1.t, .slice c1 c2 c3, .int .i64 S1.n, .int .i64 S1.c, .slice c4 c5 c6] := hdep { on := 0, ground := .data } (by simp) rfl _ _ rfl rfl
        have e13 := d13
        rw [Array.getD_eq_getD_getElem?] at e13
        have hb := hst.base
        have HCa := Lib.hid (ntold_any S1 c1 c2 c3 c4 c5 c6 v ((HO1.out.below (by rw [HM4.out]; exact hb)).snIn) HO1b.out)
        have hsz : 14 < z.tmps.size := by rw [hag.2.1]; show 14 < 59; decide
        have HSt := Lib.hid hst
        have HBv := Lib.hid hb
        unfold snA at HCa
        clear hdep hag hst hb
        go_simp
        refine HCa.out.mono ?_
        rintro e w' ⟨xa, xn, xc, ya, yn, yc, rfl, hT, hb2⟩
        have hmr := B4.more (by rw [HM4.out]; exact Nat.le_refl _) (by decide) HSt.out hb2
        exact hK _ _ trivial True.intro ⟨hmr.1, (Al.keep (L := L) rfl rfl (Go.Proofs.Ytjlljkdlgkociaa.R.slot_put (by decide)) (Go.Proofs.Ytjlljkdlgkociaa.R.slot_put (by decide)) hmr.2), ⟨xa, xn, xc, ya, yn, yc, Go.Proofs.Ytjlljkdlgkociaa.R.slot_same hsz, hT⟩⟩
      · intro k L z v hk hL hst hag hpre hdep
        have hk2 : k ≤ 2 := Nat.le_trans hk (by decide)
        refine .inl ⟨rfl, fun K hK => ?_⟩
        have d3 : z.tmps.getD 3 undef = .pointer (some ⟨rb + 1, 0, none⟩) := hag.2.2 3 (by kernel_rfl)
        have e3 := d3
        rw [Array.getD_eq_getD_getElem?] at e3
        have hb := hst.base
        have hz := (hb.block (rb + 1) HLt4.out.2).trans HZ2.out
        unfold snA at hz
        have lc0 : v.cell? ⟨rb + 1, 0, none⟩ = some (.int .i64 S2.k) := by rw [cell_block hz]; rfl
        have lc1 : v.cell? ⟨rb + 1, 1, none⟩ = some (.int .i64 S2.w) := by rw [cell_block hz]; rfl
        have lc2 : v.cell? ⟨rb + 1, 2, none⟩ = some (.int .i64 S2.h) := by rw [cell_block hz]; rfl
        have lc3 : v.cell? ⟨rb + 1, 3, none⟩ = some (.int .i64 S2.x) := by rw [cell_block hz]; rfl
        have lc4 : v.cell? ⟨rb + 1, 4, none⟩ = some (.int .i64 S2.y) := by rw [cell_block hz]; rfl
        have lc5 : v.cell? ⟨rb + 1, 5, none⟩ = some (.string S2.t) := by rw [cell_block hz]; rfl
        have lc6 : v.cell? ⟨rb + 1, 6, none⟩ = some (.slice g1 g2 g3) := by rw [cell_block hz]; rfl
        have lc7 : v.cell? ⟨rb + 1, 7, none⟩ = some (.int .i64 S2.n) := by rw [cell_block hz]; rfl
        have lc8 : v.cell? ⟨rb + 1, 8, none⟩ = some (.int .i64 S2.c) := by rw [cell_block hz]; rfl
        have lc9 : v.cell? ⟨rb + 1, 9, none⟩ = some (.slice g4 g5 g6) := by rw [cell_block hz]; rfl
        have HSt := Lib.hid hst
        clear hdep hag hst hb hz
        go_simp
        exact hK _ _ trivial rfl (B4.cong hk2 (Al.keep (L := L) rfl rfl (Go.Proofs.Ytjlljkdlgkociaa.R.slot_put (by decide)) (Go.Proofs.Ytjlljkdlgkociaa.R.slot_put (by decide)) (HSt.out.al hk2)) (Go.Proofs.Ytjlljkdlgkociaa.R.slot_put (by decide)).symm (Go.Proofs.Ytjlljkdlgkociaa.R.slot_put (by decide)).symm HSt.out)
      · intro L z v hL hst hag hpre hdep
        refine ⟨rfl, fun K hK => ?_⟩
        have d15 : z.tmps.getD 15 undef = .agg #[.int .i64 S2.k, .int .i64 S2.w, .int .i64 S2.h, .int .i64 S2.x, .int .i64 S2.y, .string S2.t, .slice g1 g2 g3, .int .i64 S2.n, .int .i64 S2.c, .slice g4 g5 g6] := hdep { on := 2, ground := .data } (by simp) rfl _ _ rfl rfl
        have e15 := d15
        rw [Array.getD_eq_getD_getElem?] at e15
        have hb := hst.base
        have HCa := Lib.hid (ntold_any S2 g1 g2 g3 g4 g5 g6 v ((HO2.out.below (by rw [HM4.out]; exact hb)).snIn) HO2b.out)
        have hsz : 16 < z.tmps.size := by rw [hag.2.1]; show 16 < 59; decide
        have HSt := Lib.hid hst
        have HBv := Lib.hid hb
        unfold snA at HCa
        clear hdep hag hst hb
        go_simp
        refine HCa.out.mono ?_
        rintro e w' ⟨xa, xn, xc, ya, yn, yc, rfl, hT, hb2⟩
        have hmr := B4.more (by rw [HM4.out]; exact Nat.le_refl _) (by decide) HSt.out hb2
        exact hK _ _ trivial True.intro ⟨hmr.1, (Al.keep (L := L) rfl rfl (Go.Proofs.Ytjlljkdlgkociaa.R.slot_put (by decide)) (Go.Proofs.Ytjlljkdlgkociaa.R.slot_put (by decide)) hmr.2.1), by rw [Go.Proofs.Ytjlljkdlgkociaa.R.slot_put (by decide)]; exact hmr.2.2, ⟨xa, xn, xc, ya, yn, yc, Go.Proofs.Ytjlljkdlgkociaa.R.slot_same hsz, hT⟩⟩
      · intro k L z v hk hL hst hag hpre hdep
        have hk2 : k ≤ 2 := Nat.le_trans hk (by decide)
        refine .inl ⟨rfl, fun K hK => ?_⟩
        have hsz : 5 < z.tmps.size := by rw [hag.2.1]; show 5 < 59; decide
        have HBv := Lib.hid hst.base
        have HAl := Lib.hid (hst.al hk2)
        have HSt := Lib.hid hst
        clear hdep hag hst
        go_simp
        have hb2 : Below v.heap.size v (v.alloc (.cells #[.int .i64 0, .int .i64 0, .int .i64 0, .int .i64 0, .int .i64 0, .string ⟨#[]⟩, .slice none 0 0, .int .i64 0, .int .i64 0, .slice none 0 0] 35)) := (Below.refl _ _).alloc (Nat.le_refl _) _
        have hmr := B4.more (by rw [HM4.out]; exact Nat.le_refl _) hk2 HSt.out hb2
        have hA2 := HAl.out.below hb2
        exact hK _ _ trivial True.intro (B4.cong hk2 ⟨fun _ => ⟨v.heap.size, Go.Proofs.Ytjlljkdlgkociaa.R.slot_same hsz, by have := HBv.out.size; have := HM4.out; omega, heap_alloc_new v _⟩, fun e => by rw [Go.Proofs.Ytjlljkdlgkociaa.R.slot_put (by decide)]; exact hA2.b e, fun _ e h => by rw [Go.Proofs.Ytjlljkdlgkociaa.R.slot_same hsz, Go.Proofs.Ytjlljkdlgkociaa.R.slot_put (by decide)] at h; obtain ⟨p, h1, -, h3⟩ := HAl.out.b e; rw [h1] at h; injection h with h; injection h with h; injection h with h; have := (Array.getElem?_eq_some_iff.1 h3).1; omega⟩ (Go.Proofs.Ytjlljkdlgkociaa.R.slot_put (by decide)).symm (Go.Proofs.Ytjlljkdlgkociaa.R.slot_put (by decide)).symm hmr)
      · intro k L z v hk hL hst hag hpre hdep
        have hk2 : k ≤ 2 := Nat.le_trans hk (by decide)
        refine .inl ⟨rfl, fun K hK => ?_⟩
        have hsz : 6 < z.tmps.size := by rw [hag.2.1]; show 6 < 59; decide
        have HBv := Lib.hid hst.base
        have HAl := Lib.hid (hst.al hk2)
        have HSt := Lib.hid hst
        clear hdep hag hst
        go_simp
        have hb2 : Below v.heap.size v (v.alloc (.cells #[.int .i64 0, .int .i64 0, .int .i64 0, .int .i64 0, .int .i64 0, .string ⟨#[]⟩, .slice none 0 0, .int .i64 0, .int .i64 0, .slice none 0 0] 35)) := (Below.refl _ _).alloc (Nat.le_refl _) _
        have hmr := B4.more (by rw [HM4.out]; exact Nat.le_refl _) hk2 HSt.out hb2
        have hA2 := HAl.out.below hb2
        exact hK _ _ trivial True.intro (B4.cong hk2 ⟨fun e => by rw [Go.Proofs.Ytjlljkdlgkociaa.R.slot_put (by decide)]; exact hA2.a e, fun _ => ⟨v.heap.size, Go.Proofs.Ytjlljkdlgkociaa.R.slot_same hsz, by have := HBv.out.size; have := HM4.out; omega, heap_alloc_new v _⟩, fun e _ h => by rw [Go.Proofs.Ytjlljkdlgkociaa.R.slot_same hsz, Go.Proofs.Ytjlljkdlgkociaa.R.slot_put (by decide)] at h; obtain ⟨p, h1, -, h3⟩ := HAl.out.a e; rw [h1] at h; injection h with h; injection h with h; injection h with h; have := (Array.getElem?_eq_some_iff.1 h3).1; omega⟩ (Go.Proofs.Ytjlljkdlgkociaa.R.slot_put (by decide)).symm (Go.Proofs.Ytjlljkdlgkociaa.R.slot_put (by decide)).symm hmr)
      · intro L z v hL hst hag hpre hdep
        refine ⟨rfl, fun K hK => ?_⟩
        have h4 : L 4 = true := hpre { on := 4, ground := .data } (by simp) rfl
        have h5 : L 5 = true := hpre { on := 5, ground := .phase } (by simp) rfl
        obtain ⟨hb, hA, ⟨xa, xn, xc, ya, yn, yc, ev, hT⟩, hv⟩ : Below m4 wD v ∧ Al m4 L (Go.Proofs.Ytjlljkdlgkociaa.R.slot z) v ∧ TV (z.tmps.getD 14 undef) S1 v ∧ TV (z.tmps.getD 16 undef) S2 v := hst
        obtain ⟨p5, ep, hp5, hz⟩ := hA.a h4
        obtain ⟨p6, eq, hp6, hz6⟩ := hA.b h5
        have hne : p5 ≠ p6 := fun e => hA.n h4 h5 (by rw [ep, eq, e])
        unfold snA at ev
        have d14 : z.tmps.getD 14 undef = .agg #[.int .i64 S1.k, .int .i64 S1.w, .int .i64 S1.h, .int .i64 S1.x, .int .i64 S1.y, .string S1.t, .slice xa xn xc, .int .i64 S1.n, .int .i64 S1.c, .slice ya yn yc] := ev
        have e14 := d14
        rw [Array.getD_eq_getD_getElem?] at e14
        have d5 : z.tmps.getD 5 undef = .pointer (some ⟨p5, 0, none⟩) := ep
        have e5 := d5
        rw [Array.getD_eq_getD_getElem?] at e5
        have lc0 : v.cell? ⟨p5, 0, none⟩ = some (.int .i64 0) := by rw [cell_block hz]; rfl
        have lc1 : v.cell? ⟨p5, 1, none⟩ = some (.int .i64 0) := by rw [cell_block hz]; rfl
        have lc2 : v.cell? ⟨p5, 2, none⟩ = some (.int .i64 0) := by rw [cell_block hz]; rfl
        have lc3 : v.cell? ⟨p5, 3, none⟩ = some (.int .i64 0) := by rw [cell_block hz]; rfl
        have lc4 : v.cell? ⟨p5, 4, none⟩ = some (.int .i64 0) := by rw [cell_block hz]; rfl
        have lc5 : v.cell? ⟨p5, 5, none⟩ = some (.string ⟨#[]⟩) := by rw [cell_block hz]; rfl
        have lc6 : v.cell? ⟨p5, 6, none⟩ = some (.slice none 0 0) := by rw [cell_block hz]; rfl
        have lc7 : v.cell? ⟨p5, 7, none⟩ = some (.int .i64 0) := by rw [cell_block hz]; rfl
        have lc8 : v.cell? ⟨p5, 8, none⟩ = some (.int .i64 0) := by rw [cell_block hz]; rfl
        have lc9 : v.cell? ⟨p5, 9, none⟩ = some (.slice none 0 0) := by rw [cell_block hz]; rfl
        have f0 := frozen_block hz 0
        have f1 := frozen_block hz 1
        have f2 := frozen_block hz 2
        have f3 := frozen_block hz 3
        have f4 := frozen_block hz 4
        have f5 := frozen_block hz 5
        have f6 := frozen_block hz 6
        have f7 := frozen_block hz 7
        have f8 := frozen_block hz 8
        have f9 := frozen_block hz 9
        obtain ⟨gg, hx⟩ := set10 hz (.int .i64 S1.k) (.int .i64 S1.w) (.int .i64 S1.h) (.int .i64 S1.x) (.int .i64 S1.y) (.string S1.t) (.slice xa xn xc) (.int .i64 S1.n) (.int .i64 S1.c) (.slice ya yn yc)
        have HGg := Lib.hid gg
        have HXx := Lib.hid hx
        have HZz := Lib.hid hz
        have HTt := Lib.hid hT
        have HBv := Lib.hid hb
        have HV := Lib.hid hv
        have HP6 := Lib.hid hz6
        have HEp : Hid (Go.Proofs.Ytjlljkdlgkociaa.R.slot z 5 = .pointer (some ⟨p5, 0, none⟩)) := Lib.hid ep
        have HEq : Hid (Go.Proofs.Ytjlljkdlgkociaa.R.slot z 6 = .pointer (some ⟨p6, 0, none⟩)) := Lib.hid eq
        have HNe := Lib.hid hne
        have HPm := Lib.hid (And.intro hp5 hp6)
        clear hdep hag hb hz hT hv gg hx ev ep eq hA hpre hz6 hne hp5 hp6
        go_simp
        exact hK undef _ trivial True.intro ⟨HBv.out.trans ((Below.refl m4 v).grown HGg.out (by have := HBv.out.size; have := HM4.out; omega) (fun q e => by have := Option.some.inj e; have := HPm.out.1; omega)), p5, p6, HEp.out, HEq.out, HPm.out.2, HNe.out, ⟨xa, xn, xc, ya, yn, yc, HXx.out, HTt.out.wrote HGg.out HZz.out⟩, (HGg.out.block p6 (Array.getElem?_eq_some_iff.1 HP6.out).1 (fun e => HNe.out (Option.some.inj e).symm)).trans HP6.out, HV.out.wrote HGg.out HZz.out⟩
      · intro L z v hL hst hag hpre hdep
        refine ⟨rfl, fun K hK => ?_⟩
        obtain ⟨hb, p5, p6, ep5, ep, hp6, hne, hto, hz, ⟨xa, xn, xc, ya, yn, yc, ev, hT⟩⟩ : Below m4 wD v ∧ ∃ p5 p6, z.tmps.getD 5 undef = .pointer (some ⟨p5, 0, none⟩) ∧ z.tmps.getD 6 undef = .pointer (some ⟨p6, 0, none⟩) ∧ m4 ≤ p6 ∧ p5 ≠ p6 ∧ TO p5 S1 v ∧ v.heap[p6]? = some (.cells #[.int .i64 0, .int .i64 0, .int .i64 0, .int .i64 0, .int .i64 0, .string ⟨#[]⟩, .slice none 0 0, .int .i64 0, .int .i64 0, .slice none 0 0] 35 (0, 0)) ∧ TV (z.tmps.getD 16 undef) S2 v := hst
        unfold snA at ev
        have d16 : z.tmps.getD 16 undef = .agg #[.int .i64 S2.k, .int .i64 S2.w, .int .i64 S2.h, .int .i64 S2.x, .int .i64 S2.y, .string S2.t, .slice xa xn xc, .int .i64 S2.n, .int .i64 S2.c, .slice ya yn yc] := ev
        have e16 := d16
        rw [Array.getD_eq_getD_getElem?] at e16
        have d6 : z.tmps.getD 6 undef = .pointer (some ⟨p6, 0, none⟩) := ep
        have e6 := d6
        rw [Array.getD_eq_getD_getElem?] at e6
        have lc0 : v.cell? ⟨p6, 0, none⟩ = some (.int .i64 0) := by rw [cell_block hz]; rfl
        have lc1 : v.cell? ⟨p6, 1, none⟩ = some (.int .i64 0) := by rw [cell_block hz]; rfl
        have lc2 : v.cell? ⟨p6, 2, none⟩ = some (.int .i64 0) := by rw [cell_block hz]; rfl
        have lc3 : v.cell? ⟨p6, 3, none⟩ = some (.int .i64 0) := by rw [cell_block hz]; rfl
        have lc4 : v.cell? ⟨p6, 4, none⟩ = some (.int .i64 0) := by rw [cell_block hz]; rfl
        have lc5 : v.cell? ⟨p6, 5, none⟩ = some (.string ⟨#[]⟩) := by rw [cell_block hz]; rfl
        have lc6 : v.cell? ⟨p6, 6, none⟩ = some (.slice none 0 0) := by rw [cell_block hz]; rfl
        have lc7 : v.cell? ⟨p6, 7, none⟩ = some (.int .i64 0) := by rw [cell_block hz]; rfl
        have lc8 : v.cell? ⟨p6, 8, none⟩ = some (.int .i64 0) := by rw [cell_block hz]; rfl
        have lc9 : v.cell? ⟨p6, 9, none⟩ = some (.slice none 0 0) := by rw [cell_block hz]; rfl
        have f0 := frozen_block hz 0
        have f1 := frozen_block hz 1
        have f2 := frozen_block hz 2
        have f3 := frozen_block hz 3
        have f4 := frozen_block hz 4
        have f5 := frozen_block hz 5
        have f6 := frozen_block hz 6
        have f7 := frozen_block hz 7
        have f8 := frozen_block hz 8
        have f9 := frozen_block hz 9
        obtain ⟨gg, hx⟩ := set10 hz (.int .i64 S2.k) (.int .i64 S2.w) (.int .i64 S2.h) (.int .i64 S2.x) (.int .i64 S2.y) (.string S2.t) (.slice xa xn xc) (.int .i64 S2.n) (.int .i64 S2.c) (.slice ya yn yc)
        have HGg := Lib.hid gg
        have HXx := Lib.hid hx
        have HZz := Lib.hid hz
        have HTt := Lib.hid hT
        have HBv := Lib.hid hb
        have HTo := Lib.hid hto
        have HEp : Hid (Go.Proofs.Ytjlljkdlgkociaa.R.slot z 5 = .pointer (some ⟨p5, 0, none⟩)) := Lib.hid ep5
        have HEq : Hid (Go.Proofs.Ytjlljkdlgkociaa.R.slot z 6 = .pointer (some ⟨p6, 0, none⟩)) := Lib.hid ep
        have HNe := Lib.hid hne
        have HPm := Lib.hid hp6
        clear hdep hag hb hz hT hto gg hx ev ep ep5 hpre hne hp6
        go_simp
        exact hK undef _ trivial True.intro ⟨HBv.out.trans ((Below.refl m4 v).grown HGg.out (by have := HBv.out.size; have := HM4.out; omega) (fun q e => by have := Option.some.inj e; have := HPm.out; omega)), p5, p6, HEp.out, HEq.out, HTo.out.wrote HGg.out HZz.out HNe.out, ⟨xa, xn, xc, ya, yn, yc, HXx.out, HTt.out.wrote HGg.out HZz.out⟩⟩

    case hdone =>
      intro z v L hall hst hag hok
      obtain ⟨hb4, p5, p6, f5, f6, hx5, hx6⟩ : Below m4 wD v ∧ ∃ p5 p6, z.tmps.getD 5 undef = .pointer (some ⟨p5, 0, none⟩) ∧ z.tmps.getD 6 undef = .pointer (some ⟨p6, 0, none⟩) ∧ TO p5 S1 v ∧ TO p6 S2 v := hst
      have d5 : z.tmps.getD 5 undef = .pointer (some ⟨p5, 0, none⟩) := f5
      have d6 : z.tmps.getD 6 undef = .pointer (some ⟨p6, 0, none⟩) := f6
      have HB4 := Lib.hid hb4
      have HX5 := Lib.hid hx5
      have HX6 := Lib.hid hx6
      clear f5 f6 hb4 hx5 hx6
      obtain ⟨uu, hu, hzz⟩ := Go.Proofs.Ytjlljkdlgkociaa.R.agree_frame [13, 14, 15, 16, 5, 6] rfl hag
      have e5 := (hu 5).trans d5
      have e6 := (hu 6).trans d6
      subst hzz
      simp only [List.foldl_cons, List.foldl_nil]
      rw [e5, e6]
      clear e5 d5 e6 d6 hu hag hok
      try dsimp only [Exit.then]
      simp only [List.setIfInBounds_toArray, List.set_cons_succ, List.set_cons_zero]
      generalize uu 13 = u13', uu 14 = u14', uu 15 = u15', uu 16 = u16'
      clear uu
      rename_i K4 hK4
      refine hK4 _ _ ?_
      obtain ⟨wE, hwE⟩ : ∃ wE, v = wE := ⟨_, rfl⟩
      rw [hwE] at HB4 HX5 HX6 ⊢
      clear hwE
      obtain ⟨x1, x2, x3, x4, x5, x6, hx5, hT1⟩ := HX5.out
      obtain ⟨y1, y2, y3, y4, y5, y6, hx6, hT2⟩ := HX6.out
      have hE1 := (HB4.out.block rb HLt4.out.1).trans HZ1.out
      have hE2 := (HB4.out.block (rb + 1) HLt4.out.2).trans HZ2.out
      have hbE : Below wD.heap.size wD wE := by rw [HM4.out]; exact HB4.out
      have hO1 := HO1.out.below hbE
      have hO2 := HO2.out.below hbE
      have HBE : Hid (Below rb w wE) := Lib.hid (HB3.out.trans (HB4.out.mono (by have := HLt4.out.1; omega)))
      have HZE : Hid (∀ v, Below wE.heap.size wE v → v.heap[rb]? = some (.cells #[.int .i64 S1.k, .int .i64 S1.w, .int .i64 S1.h, .int .i64 S1.x, .int .i64 S1.y, .string S1.t, .slice c1 c2 c3, .int .i64 S1.n, .int .i64 S1.c, .slice c4 c5 c6] 27 (0, 0)) ∧ v.heap[rb + 1]? = some (.cells #[.int .i64 S2.k, .int .i64 S2.w, .int .i64 S2.h, .int .i64 S2.x, .int .i64 S2.y, .string S2.t, .slice g1 g2 g3, .int .i64 S2.n, .int .i64 S2.c, .slice g4 g5 g6] 27 (0, 0)) ∧ v.heap[p5]? = some (.cells #[.int .i64 S1.k, .int .i64 S1.w, .int .i64 S1.h, .int .i64 S1.x, .int .i64 S1.y, .string S1.t, .slice x1 x2 x3, .int .i64 S1.n, .int .i64 S1.c, .slice x4 x5 x6] 35 (0, 0)) ∧ v.heap[p6]? = some (.cells #[.int .i64 S2.k, .int .i64 S2.w, .int .i64 S2.h, .int .i64 S2.x, .int .i64 S2.y, .string S2.t, .slice y1 y2 y3, .int .i64 S2.n, .int .i64 S2.c, .slice y4 y5 y6] 35 (0, 0))) := Lib.hid (fun v hb => ⟨(hb.block _ (Array.getElem?_eq_some_iff.1 hE1).1).trans hE1, (hb.block _ (Array.getElem?_eq_some_iff.1 hE2).1).trans hE2, (hb.block _ (Array.getElem?_eq_some_iff.1 hx5).1).trans hx5, (hb.block _ (Array.getElem?_eq_some_iff.1 hx6).1).trans hx6⟩)
      have HCk1 : Hid (∀ v, Below wE.heap.size wE v → Calls Try.prog 15 #[.agg #[.int .i64 S1.k, .int .i64 S1.w, .int .i64 S1.h, .int .i64 S1.x, .int .i64 S1.y, .string S1.t, .slice c1 c2 c3, .int .i64 S1.n, .int .i64 S1.c, .slice c4 c5 c6]] v fun e w' => e = .returned (.int .i64 (chkN S1 : Int)) ∧ Below v.heap.size v w') := Lib.hid (fun v hb => ncheck_any S1 c1 c2 c3 c4 c5 c6 v ((hO1.below hb).snIn) HO1b.out)
      have HCk2 : Hid (∀ v, Below wE.heap.size wE v → Calls Try.prog 15 #[.agg #[.int .i64 S2.k, .int .i64 S2.w, .int .i64 S2.h, .int .i64 S2.x, .int .i64 S2.y, .string S2.t, .slice g1 g2 g3, .int .i64 S2.n, .int .i64 S2.c, .slice g4 g5 g6]] v fun e w' => e = .returned (.int .i64 (chkN S2 : Int)) ∧ Below v.heap.size v w') := Lib.hid (fun v hb => ncheck_any S2 g1 g2 g3 g4 g5 g6 v ((hO2.below hb).snIn) HO2b.out)
      have HMy1 : Hid (∀ v, Below wE.heap.size wE v → Calls Try.prog 14 #[.agg #[.int .i64 S1.k, .int .i64 S1.w, .int .i64 S1.h, .int .i64 S1.x, .int .i64 S1.y, .string S1.t, .slice x1 x2 x3, .int .i64 S1.n, .int .i64 S1.c, .slice x4 x5 x6]] v fun e w' => e = .returned (.bool (decide (MayN S1))) ∧ Below v.heap.size v w') := Lib.hid (fun v hb => nrfmay_any S1 x1 x2 x3 x4 x5 x6 v ((hT1.below hb).snIn) HO1b.out)
      have HMy2 : Hid (∀ v, Below wE.heap.size wE v → Calls Try.prog 14 #[.agg #[.int .i64 S2.k, .int .i64 S2.w, .int .i64 S2.h, .int .i64 S2.x, .int .i64 S2.y, .string S2.t, .slice y1 y2 y3, .int .i64 S2.n, .int .i64 S2.c, .slice y4 y5 y6]] v fun e w' => e = .returned (.bool (decide (MayN S2))) ∧ Below v.heap.size v w') := Lib.hid (fun v hb => nrfmay_any S2 y1 y2 y3 y4 y5 y6 v ((hT2.below hb).snIn) HO2b.out)
      have HSm : Hid (∀ v, Below wE.heap.size wE v → Calls Try.prog 16 #[.agg #[.int .i64 S1.k, .int .i64 S1.w, .int .i64 S1.h, .int .i64 S1.x, .int .i64 S1.y, .string S1.t, .slice c1 c2 c3, .int .i64 S1.n, .int .i64 S1.c, .slice c4 c5 c6], .agg #[.int .i64 S2.k, .int .i64 S2.w, .int .i64 S2.h, .int .i64 S2.x, .int .i64 S2.y, .string S2.t, .slice g1 g2 g3, .int .i64 S2.n, .int .i64 S2.c, .slice g4 g5 g6]] v fun e w' => e = .returned (.bool (decide (S1 = S2))) ∧ Below v.heap.size v w') := Lib.hid (fun v hb => nsame_any S1 S2 c1 c2 c3 c4 c5 c6 g1 g2 g3 g4 g5 g6 v ((hO1.below hb).snIn) ((hO2.below hb).snIn) HO1b.out HO2b.out)
      have HIs : Hid (∀ v, Below wE.heap.size wE v → Calls Try.prog 10 #[.agg #[.int .i64 S1.k, .int .i64 S1.w, .int .i64 S1.h, .int .i64 S1.x, .int .i64 S1.y, .string S1.t, .slice c1 c2 c3, .int .i64 S1.n, .int .i64 S1.c, .slice c4 c5 c6], .agg #[.int .i64 S2.k, .int .i64 S2.w, .int .i64 S2.h, .int .i64 S2.x, .int .i64 S2.y, .string S2.t, .slice y1 y2 y3, .int .i64 S2.n, .int .i64 S2.c, .slice y4 y5 y6]] v fun e w' => e = .returned (.bool (decide (S1 = S2))) ∧ Below v.heap.size v w') := Lib.hid (fun v hb => nis_any S1 S2 c1 c2 c3 c4 c5 c6 y1 y2 y3 y4 y5 y6 v ((hO1.below hb).snIn) ((hT2.below hb).snIn) HO1b.out HO2b.out)
      have HPk1 : Hid (∀ v, Below wE.heap.size wE v → Calls Try.prog 11 #[.agg #[.int .i64 S1.k, .int .i64 S1.w, .int .i64 S1.h, .int .i64 S1.x, .int .i64 S1.y, .string S1.t, .slice c1 c2 c3, .int .i64 S1.n, .int .i64 S1.c, .slice c4 c5 c6]] v fun e w' => e = .returned (.string ⟨(packN S1).toArray⟩) ∧ Below v.heap.size v w') := Lib.hid (fun v hb => npack_any S1 c1 c2 c3 c4 c5 c6 v ((hO1.below hb).snIn) HO1b.out)
      have HPk2 : Hid (∀ v, Below wE.heap.size wE v → Calls Try.prog 11 #[.agg #[.int .i64 S2.k, .int .i64 S2.w, .int .i64 S2.h, .int .i64 S2.x, .int .i64 S2.y, .string S2.t, .slice g1 g2 g3, .int .i64 S2.n, .int .i64 S2.c, .slice g4 g5 g6]] v fun e w' => e = .returned (.string ⟨(packN S2).toArray⟩) ∧ Below v.heap.size v w') := Lib.hid (fun v hb => npack_any S2 g1 g2 g3 g4 g5 g6 v ((hO2.below hb).snIn) HO2b.out)
      obtain ⟨k1, hk1⟩ : ∃ k, chkN S1 = k := ⟨_, rfl⟩
      obtain ⟨k2, hk2⟩ : ∃ k, chkN S2 = k := ⟨_, rfl⟩
      obtain ⟨b1, hb1⟩ : ∃ b, decide (MayN S1) = b := ⟨_, rfl⟩
      obtain ⟨b2, hb2⟩ : ∃ b, decide (MayN S2) = b := ⟨_, rfl⟩
      obtain ⟨D, hD⟩ : ∃ b, decide (S1 = S2) = b := ⟨_, rfl⟩
      obtain ⟨s1p, hs1p⟩ : ∃ b : ByteArray, (⟨(packN S1).toArray⟩ : ByteArray) = b := ⟨_, rfl⟩
      obtain ⟨s2p, hs2p⟩ : ∃ b : ByteArray, (⟨(packN S2).toArray⟩ : ByteArray) = b := ⟨_, rfl⟩
      have HPq : Hid (b1 = true → b2 = true → (s1p.toList == s2p.toList) = D) := Lib.hid (fun h1 h2 => by
        have m1 : MayN S1 := of_decide_eq_true (by rw [hb1]; exact h1)
        have m2 : MayN S2 := of_decide_eq_true (by rw [hb2]; exact h2)
        rw [← hD, ByteArray.toList_eq, ByteArray.toList_eq, ← hs1p, ← hs2p]
        show (packN S1 == packN S2) = _
        by_cases h : S1 = S2
        · rw [h]; simp
        · rw [decide_eq_false h, beq_eq_false_iff_ne]
          exact fun e => h (pack_inj m1 m2 e))
      have hkb1 : k1 = if b1 = true then 0 else 1 := by
        rw [← hk1, ← hb1]
        unfold chkN
        by_cases h : MayN S1
        · rw [if_pos h, decide_eq_true h]; rfl
        · rw [if_neg h, decide_eq_false h]; rfl
      have hkb2 : k2 = if b2 = true then 0 else 1 := by
        rw [← hk2, ← hb2]
        unfold chkN
        by_cases h : MayN S2
        · rw [if_pos h, decide_eq_true h]; rfl
        · rw [if_neg h, decide_eq_false h]; rfl
      have HKb1 := Lib.hid hkb1
      have HKb2 := Lib.hid hkb2
      clear hkb1 hkb2
      rw [hk1] at HCk1
      rw [hk2] at HCk2
      rw [hb1] at HMy1
      rw [hb2] at HMy2
      rw [hD] at HSm HIs
      rw [hs1p] at HPk1
      rw [hs2p] at HPk2
      have hzE := HZE.out wE (Below.refl _ _)
      have HMy1E := Lib.hid (HMy1.out wE (Below.refl _ _))
      have u0 : wE.cell? ⟨p5, 0, none⟩ = some (.int .i64 S1.k) := by rw [cell_block hzE.2.2.1]; rfl
      have u1 : wE.cell? ⟨p5, 1, none⟩ = some (.int .i64 S1.w) := by rw [cell_block hzE.2.2.1]; rfl
      have u2 : wE.cell? ⟨p5, 2, none⟩ = some (.int .i64 S1.h) := by rw [cell_block hzE.2.2.1]; rfl
      have u3 : wE.cell? ⟨p5, 3, none⟩ = some (.int .i64 S1.x) := by rw [cell_block hzE.2.2.1]; rfl
      have u4 : wE.cell? ⟨p5, 4, none⟩ = some (.int .i64 S1.y) := by rw [cell_block hzE.2.2.1]; rfl
      have u5 : wE.cell? ⟨p5, 5, none⟩ = some (.string S1.t) := by rw [cell_block hzE.2.2.1]; rfl
      have u6 : wE.cell? ⟨p5, 6, none⟩ = some (.slice x1 x2 x3) := by rw [cell_block hzE.2.2.1]; rfl
      have u7 : wE.cell? ⟨p5, 7, none⟩ = some (.int .i64 S1.n) := by rw [cell_block hzE.2.2.1]; rfl
      have u8 : wE.cell? ⟨p5, 8, none⟩ = some (.int .i64 S1.c) := by rw [cell_block hzE.2.2.1]; rfl
      have u9 : wE.cell? ⟨p5, 9, none⟩ = some (.slice x4 x5 x6) := by rw [cell_block hzE.2.2.1]; rfl
      clear hx5 hT1 hx6 hT2 hE1 hE2 hbE hO1 hO2 hk1 hk2 hb1 hb2 hD hs1p hs2p hzE
      go_upto_region 5 with fail
      go_wp2_with fail
      refine HMy1E.out.mono ?_
      rintro e wF ⟨rfl, hbF⟩
      have HEF := Lib.hid hbF
      clear u0 u1 u2 u3 u4 u5 u6 u7 u8 u9 hbF HMy1E
      cases b1
      · obtain rfl : k1 = 1 := HKb1.out
        have HEg := HEF
        obtain ⟨wg, hwg⟩ : ∃ wg, wF = wg := ⟨_, rfl⟩
        rw [hwg] at HEg ⊢
        clear hwg HEF HKb1
        cases b2
        · obtain rfl : k2 = 1 := HKb2.out
          clear HKb2
          go_upto_region 6 with fail
          refine Go.Proofs.Ytjlljkdlgkociaa.R.wp_region_due [] [0, 0, 0, 0, 0, 0, 0, 0, 0, 0, 0, 0, 0, 0, 0, 0, 0] (by kernel_rfl) (fun _ _ u => Below wg.heap.size wg u) (fun u u2 => Below u.heap.size u u2) (ApOk6ff S1 S2 c1 c2 c3 c4 c5 c6 g1 g2 g3 g4 g5 g6 x1 x2 x3 x4 x5 x6 y1 y2 y3 y4 y5 y6 D s1p s2p) (by rfl) (by kernel_rfl) (by kernel_rfl) (by kernel_rfl) (by kernel_rfl) ?hcong ?hOk ?hop ?hdone ?h0
          case hcong => exact fun k f f2 u hs hst => hst
          case hOk => intro i u w1 w2 h hr; unfold ApOk6ff at h ⊢; split <;> first | exact True.intro | exact h
          case h0 => exact (Below.refl _ _).drew
          case hop =>
            refine ⟨?_, ?_, ?_, ?_, ?_, ?_, ?_, ?_, ?_, ?_, ?_, ?_, ?_, ?_, ?_, ?_, ?_, trivial⟩
            · intro k z v hk hst hag hdep
              refine .inl ⟨rfl, fun K hK => ?_⟩
              have d2 : z.tmps.getD 2 undef = .pointer (some ⟨rb, 0, none⟩) := hag.2.2 2 (by kernel_rfl)
              have e2 := d2
              rw [Array.getD_eq_getD_getElem?] at e2
              have hb : Below wg.heap.size wg v := hst
              have hz := (HZE.out v (HEg.out.trans (hb.mono HEg.out.size))).1
              have lc0 : v.cell? ⟨rb, 0, none⟩ = some (.int .i64 S1.k) := by rw [cell_block hz]; rfl
              have lc1 : v.cell? ⟨rb, 1, none⟩ = some (.int .i64 S1.w) := by rw [cell_block hz]; rfl
              have lc2 : v.cell? ⟨rb, 2, none⟩ = some (.int .i64 S1.h) := by rw [cell_block hz]; rfl
              have lc3 : v.cell? ⟨rb, 3, none⟩ = some (.int .i64 S1.x) := by rw [cell_block hz]; rfl
              have lc4 : v.cell? ⟨rb, 4, none⟩ = some (.int .i64 S1.y) := by rw [cell_block hz]; rfl
              have lc5 : v.cell? ⟨rb, 5, none⟩ = some (.string S1.t) := by rw [cell_block hz]; rfl
              have lc6 : v.cell? ⟨rb, 6, none⟩ = some (.slice c1 c2 c3) := by rw [cell_block hz]; rfl
              have lc7 : v.cell? ⟨rb, 7, none⟩ = some (.int .i64 S1.n) := by rw [cell_block hz]; rfl
              have lc8 : v.cell? ⟨rb, 8, none⟩ = some (.int .i64 S1.c) := by rw [cell_block hz]; rfl
              have lc9 : v.cell? ⟨rb, 9, none⟩ = some (.slice c4 c5 c6) := by rw [cell_block hz]; rfl
              clear hb hz
              have HSt := Lib.hid hst
              clear hdep hag hst
              go_simp
              exact hK _ _ (Below.refl _ _) rfl HSt.out
            · intro k z v hk hst hag hdep
              refine .inl ⟨rfl, fun K hK => ?_⟩
              have d25 : z.tmps.getD 25 undef = .agg #[.int .i64 S1.k, .int .i64 S1.w, .int .i64 S1.h, .int .i64 S1.x, .int .i64 S1.y, .string S1.t, .slice c1 c2 c3, .int .i64 S1.n, .int .i64 S1.c, .slice c4 c5 c6] := hdep { on := 0, ground := .data } (by simp) rfl _ _ rfl rfl
              have e25 := d25
              rw [Array.getD_eq_getD_getElem?] at e25
              have hb : Below wg.heap.size wg v := hst
              have HC := Lib.hid (HCk1.out v (HEg.out.trans (hb.mono HEg.out.size)))
              have HBv := Lib.hid hb
              clear hdep hag hst hb
              go_simp
              refine HC.out.mono ?_
              rintro e w' ⟨rfl, h9⟩
              exact hK _ _ h9 rfl (HBv.out.trans (h9.mono HBv.out.size))
            · intro k z v hk hst hag hdep
              refine .inl ⟨rfl, fun K hK => ?_⟩
              have d26 : z.tmps.getD 26 undef = .int .i64 1 := hdep { on := 1, ground := .data } (by simp) rfl _ _ rfl rfl
              have e26 := d26
              rw [Array.getD_eq_getD_getElem?] at e26
              have HSt := Lib.hid hst
              clear hdep hag hst
              go_simp
              exact hK _ _ (Below.refl _ _) rfl HSt.out
            · intro k z v hk hst hag hdep
              refine .inl ⟨rfl, fun K hK => ?_⟩
              have d5 : z.tmps.getD 5 undef = .pointer (some ⟨p5, 0, none⟩) := hag.2.2 5 (by kernel_rfl)
              have e5 := d5
              rw [Array.getD_eq_getD_getElem?] at e5
              have hb : Below wg.heap.size wg v := hst
              have hz := (HZE.out v (HEg.out.trans (hb.mono HEg.out.size))).2.2.1
              have lc0 : v.cell? ⟨p5, 0, none⟩ = some (.int .i64 S1.k) := by rw [cell_block hz]; rfl
              have lc1 : v.cell? ⟨p5, 1, none⟩ = some (.int .i64 S1.w) := by rw [cell_block hz]; rfl
              have lc2 : v.cell? ⟨p5, 2, none⟩ = some (.int .i64 S1.h) := by rw [cell_block hz]; rfl
              have lc3 : v.cell? ⟨p5, 3, none⟩ = some (.int .i64 S1.x) := by rw [cell_block hz]; rfl
              have lc4 : v.cell? ⟨p5, 4, none⟩ = some (.int .i64 S1.y) := by rw [cell_block hz]; rfl
              have lc5 : v.cell? ⟨p5, 5, none⟩ = some (.string S1.t) := by rw [cell_block hz]; rfl
              have lc6 : v.cell? ⟨p5, 6, none⟩ = some (.slice x1 x2 x3) := by rw [cell_block hz]; rfl
              have lc7 : v.cell? ⟨p5, 7, none⟩ = some (.int .i64 S1.n) := by rw [cell_block hz]; rfl
              have lc8 : v.cell? ⟨p5, 8, none⟩ = some (.int .i64 S1.c) := by rw [cell_block hz]; rfl
              have lc9 : v.cell? ⟨p5, 9, none⟩ = some (.slice x4 x5 x6) := by rw [cell_block hz]; rfl
              clear hb hz
              have HSt := Lib.hid hst
              clear hdep hag hst
              go_simp
              exact hK _ _ (Below.refl _ _) rfl HSt.out
            · intro k z v hk hst hag hdep
              refine .inl ⟨rfl, fun K hK => ?_⟩
              have d28 : z.tmps.getD 28 undef = .agg #[.int .i64 S1.k, .int .i64 S1.w, .int .i64 S1.h, .int .i64 S1.x, .int .i64 S1.y, .string S1.t, .slice x1 x2 x3, .int .i64 S1.n, .int .i64 S1.c, .slice x4 x5 x6] := hdep { on := 3, ground := .data } (by simp) rfl _ _ rfl rfl
              have e28 := d28
              rw [Array.getD_eq_getD_getElem?] at e28
              have hb : Below wg.heap.size wg v := hst
              have HC := Lib.hid (HMy1.out v (HEg.out.trans (hb.mono HEg.out.size)))
              have HBv := Lib.hid hb
              clear hdep hag hst hb
              go_simp
              refine HC.out.mono ?_
              rintro e w' ⟨rfl, h9⟩
              exact hK _ _ h9 rfl (HBv.out.trans (h9.mono HBv.out.size))
            · intro k z v hk hst hag hdep
              refine .inl ⟨rfl, fun K hK => ?_⟩
              have d29 : z.tmps.getD 29 undef = .bool false := hdep { on := 4, ground := .data } (by simp) rfl _ _ rfl rfl
              have e29 := d29
              rw [Array.getD_eq_getD_getElem?] at e29
              have HSt := Lib.hid hst
              clear hdep hag hst
              go_simp
              exact hK _ _ (Below.refl _ _) rfl HSt.out
            · intro k z v hk hst hag hdep
              refine .inl ⟨rfl, fun K hK => ?_⟩
              have d27 : z.tmps.getD 27 undef = .bool true := hdep { on := 2, ground := .data } (by simp) rfl _ _ rfl rfl
              have e27 := d27
              rw [Array.getD_eq_getD_getElem?] at e27
              have d30 : z.tmps.getD 30 undef = .bool true := hdep { on := 5, ground := .data } (by simp) rfl _ _ rfl rfl
              have e30 := d30
              rw [Array.getD_eq_getD_getElem?] at e30
              have HSt := Lib.hid hst
              clear hdep hag hst
              go_simp
              exact hK _ _ (Below.refl _ _) rfl HSt.out
            · intro k z v hk hst hag hdep
              refine .inl ⟨rfl, fun K hK => ?_⟩
              have d31 : z.tmps.getD 31 undef = .bool true := hdep { on := 6, ground := .data } (by simp) rfl _ _ rfl rfl
              have e31 := d31
              rw [Array.getD_eq_getD_getElem?] at e31
              have HSt := Lib.hid hst
              clear hdep hag hst
              go_simp
              exact hK _ _ (Below.refl _ _) rfl HSt.out
            · intro k z v hk hst hag hdep
              have dg : ApOk6ff S1 S2 c1 c2 c3 c4 c5 c6 g1 g2 g3 g4 g5 g6 x1 x2 x3 x4 x5 x6 y1 y2 y3 y4 y5 y6 D s1p s2p 7 (z.tmps.getD 32 undef) v := hdep { on := 7, ground := .guard } (by simp) rfl _ _ rfl rfl
              simp only [ApOk6ff] at dg
              refine .inl ⟨Go.Proofs.Ytjlljkdlgkociaa.R.wanted_of (j := 7) rfl rfl rfl dg (by rw [hag.2.1]; show 32 < 59; decide), fun K hK => ?_⟩
              have d3 : z.tmps.getD 3 undef = .pointer (some ⟨rb + 1, 0, none⟩) := hag.2.2 3 (by kernel_rfl)
              have e3 := d3
              rw [Array.getD_eq_getD_getElem?] at e3
              have hb : Below wg.heap.size wg v := hst
              have hz := (HZE.out v (HEg.out.trans (hb.mono HEg.out.size))).2.1
              have lc0 : v.cell? ⟨rb + 1, 0, none⟩ = some (.int .i64 S2.k) := by rw [cell_block hz]; rfl
              have lc1 : v.cell? ⟨rb + 1, 1, none⟩ = some (.int .i64 S2.w) := by rw [cell_block hz]; rfl
              have lc2 : v.cell? ⟨rb + 1, 2, none⟩ = some (.int .i64 S2.h) := by rw [cell_block hz]; rfl
              have lc3 : v.cell? ⟨rb + 1, 3, none⟩ = some (.int .i64 S2.x) := by rw [cell_block hz]; rfl
              have lc4 : v.cell? ⟨rb + 1, 4, none⟩ = some (.int .i64 S2.y) := by rw [cell_block hz]; rfl
              have lc5 : v.cell? ⟨rb + 1, 5, none⟩ = some (.string S2.t) := by rw [cell_block hz]; rfl
              have lc6 : v.cell? ⟨rb + 1, 6, none⟩ = some (.slice g1 g2 g3) := by rw [cell_block hz]; rfl
              have lc7 : v.cell? ⟨rb + 1, 7, none⟩ = some (.int .i64 S2.n) := by rw [cell_block hz]; rfl
              have lc8 : v.cell? ⟨rb + 1, 8, none⟩ = some (.int .i64 S2.c) := by rw [cell_block hz]; rfl
              have lc9 : v.cell? ⟨rb + 1, 9, none⟩ = some (.slice g4 g5 g6) := by rw [cell_block hz]; rfl
              clear hb hz
              have HSt := Lib.hid hst
              clear hdep hag hst
              go_simp
              exact hK _ _ (Below.refl _ _) rfl HSt.out
            · intro k z v hk hst hag hdep
              have dg : ApOk6ff S1 S2 c1 c2 c3 c4 c5 c6 g1 g2 g3 g4 g5 g6 x1 x2 x3 x4 x5 x6 y1 y2 y3 y4 y5 y6 D s1p s2p 7 (z.tmps.getD 32 undef) v := hdep { on := 7, ground := .guard } (by simp) rfl _ _ rfl rfl
              simp only [ApOk6ff] at dg
              refine .inl ⟨Go.Proofs.Ytjlljkdlgkociaa.R.wanted_of (j := 7) rfl rfl rfl dg (by rw [hag.2.1]; show 32 < 59; decide), fun K hK => ?_⟩
              have d33 : z.tmps.getD 33 undef = .agg #[.int .i64 S2.k, .int .i64 S2.w, .int .i64 S2.h, .int .i64 S2.x, .int .i64 S2.y, .string S2.t, .slice g1 g2 g3, .int .i64 S2.n, .int .i64 S2.c, .slice g4 g5 g6] := hdep { on := 8, ground := .data } (by simp) rfl _ _ rfl rfl
              have e33 := d33
              rw [Array.getD_eq_getD_getElem?] at e33
              have hb : Below wg.heap.size wg v := hst
              have HC := Lib.hid (HCk2.out v (HEg.out.trans (hb.mono HEg.out.size)))
              have HBv := Lib.hid hb
              clear hdep hag hst hb
              go_simp
              refine HC.out.mono ?_
              rintro e w' ⟨rfl, h9⟩
              exact hK _ _ h9 rfl (HBv.out.trans (h9.mono HBv.out.size))
            · intro k z v hk hst hag hdep
              have dg : ApOk6ff S1 S2 c1 c2 c3 c4 c5 c6 g1 g2 g3 g4 g5 g6 x1 x2 x3 x4 x5 x6 y1 y2 y3 y4 y5 y6 D s1p s2p 7 (z.tmps.getD 32 undef) v := hdep { on := 7, ground := .guard } (by simp) rfl _ _ rfl rfl
              simp only [ApOk6ff] at dg
              refine .inl ⟨Go.Proofs.Ytjlljkdlgkociaa.R.wanted_of (j := 7) rfl rfl rfl dg (by rw [hag.2.1]; show 32 < 59; decide), fun K hK => ?_⟩
              have d34 : z.tmps.getD 34 undef = .int .i64 1 := hdep { on := 9, ground := .data } (by simp) rfl _ _ rfl rfl
              have e34 := d34
              rw [Array.getD_eq_getD_getElem?] at e34
              have HSt := Lib.hid hst
              clear hdep hag hst
              go_simp
              exact hK _ _ (Below.refl _ _) rfl HSt.out
            · intro k z v hk hst hag hdep
              have dg : ApOk6ff S1 S2 c1 c2 c3 c4 c5 c6 g1 g2 g3 g4 g5 g6 x1 x2 x3 x4 x5 x6 y1 y2 y3 y4 y5 y6 D s1p s2p 7 (z.tmps.getD 32 undef) v := hdep { on := 7, ground := .guard } (by simp) rfl _ _ rfl rfl
              simp only [ApOk6ff] at dg
              refine .inl ⟨Go.Proofs.Ytjlljkdlgkociaa.R.wanted_of (j := 7) rfl rfl rfl dg (by rw [hag.2.1]; show 32 < 59; decide), fun K hK => ?_⟩
              have d6 : z.tmps.getD 6 undef = .pointer (some ⟨p6, 0, none⟩) := hag.2.2 6 (by kernel_rfl)
              have e6 := d6
              rw [Array.getD_eq_getD_getElem?] at e6
              have hb : Below wg.heap.size wg v := hst
              have hz := (HZE.out v (HEg.out.trans (hb.mono HEg.out.size))).2.2.2
              have lc0 : v.cell? ⟨p6, 0, none⟩ = some (.int .i64 S2.k) := by rw [cell_block hz]; rfl
              have lc1 : v.cell? ⟨p6, 1, none⟩ = some (.int .i64 S2.w) := by rw [cell_block hz]; rfl
              have lc2 : v.cell? ⟨p6, 2, none⟩ = some (.int .i64 S2.h) := by rw [cell_block hz]; rfl
              have lc3 : v.cell? ⟨p6, 3, none⟩ = some (.int .i64 S2.x) := by rw [cell_block hz]; rfl
              have lc4 : v.cell? ⟨p6, 4, none⟩ = some (.int .i64 S2.y) := by rw [cell_block hz]; rfl
              have lc5 : v.cell? ⟨p6, 5, none⟩ = some (.string S2.t) := by rw [cell_block hz]; rfl
              have lc6 : v.cell? ⟨p6, 6, none⟩ = some (.slice y1 y2 y3) := by rw [cell_block hz]; rfl
              have lc7 : v.cell? ⟨p6, 7, none⟩ = some (.int .i64 S2.n) := by rw [cell_block hz]; rfl
              have lc8 : v.cell? ⟨p6, 8, none⟩ = some (.int .i64 S2.c) := by rw [cell_block hz]; rfl
              have lc9 : v.cell? ⟨p6, 9, none⟩ = some (.slice y4 y5 y6) := by rw [cell_block hz]; rfl
              clear hb hz
              have HSt := Lib.hid hst
              clear hdep hag hst
              go_simp
              exact hK _ _ (Below.refl _ _) rfl HSt.out
            · intro k z v hk hst hag hdep
              have dg : ApOk6ff S1 S2 c1 c2 c3 c4 c5 c6 g1 g2 g3 g4 g5 g6 x1 x2 x3 x4 x5 x6 y1 y2 y3 y4 y5 y6 D s1p s2p 7 (z.tmps.getD 32 undef) v := hdep { on := 7, ground := .guard } (by simp) rfl _ _ rfl rfl
              simp only [ApOk6ff] at dg
              refine .inl ⟨Go.Proofs.Ytjlljkdlgkociaa.R.wanted_of (j := 7) rfl rfl rfl dg (by rw [hag.2.1]; show 32 < 59; decide), fun K hK => ?_⟩
              have d36 : z.tmps.getD 36 undef = .agg #[.int .i64 S2.k, .int .i64 S2.w, .int .i64 S2.h, .int .i64 S2.x, .int .i64 S2.y, .string S2.t, .slice y1 y2 y3, .int .i64 S2.n, .int .i64 S2.c, .slice y4 y5 y6] := hdep { on := 11, ground := .data } (by simp) rfl _ _ rfl rfl
              have e36 := d36
              rw [Array.getD_eq_getD_getElem?] at e36
              have hb : Below wg.heap.size wg v := hst
              have HC := Lib.hid (HMy2.out v (HEg.out.trans (hb.mono HEg.out.size)))
              have HBv := Lib.hid hb
              clear hdep hag hst hb
              go_simp
              refine HC.out.mono ?_
              rintro e w' ⟨rfl, h9⟩
              exact hK _ _ h9 rfl (HBv.out.trans (h9.mono HBv.out.size))
            · intro k z v hk hst hag hdep
              have dg : ApOk6ff S1 S2 c1 c2 c3 c4 c5 c6 g1 g2 g3 g4 g5 g6 x1 x2 x3 x4 x5 x6 y1 y2 y3 y4 y5 y6 D s1p s2p 7 (z.tmps.getD 32 undef) v := hdep { on := 7, ground := .guard } (by simp) rfl _ _ rfl rfl
              simp only [ApOk6ff] at dg
              refine .inl ⟨Go.Proofs.Ytjlljkdlgkociaa.R.wanted_of (j := 7) rfl rfl rfl dg (by rw [hag.2.1]; show 32 < 59; decide), fun K hK => ?_⟩
              have d37 : z.tmps.getD 37 undef = .bool false := hdep { on := 12, ground := .data } (by simp) rfl _ _ rfl rfl
              have e37 := d37
              rw [Array.getD_eq_getD_getElem?] at e37
              have HSt := Lib.hid hst
              clear hdep hag hst
              go_simp
              exact hK _ _ (Below.refl _ _) rfl HSt.out
            · intro k z v hk hst hag hdep
              have dg : ApOk6ff S1 S2 c1 c2 c3 c4 c5 c6 g1 g2 g3 g4 g5 g6 x1 x2 x3 x4 x5 x6 y1 y2 y3 y4 y5 y6 D s1p s2p 7 (z.tmps.getD 32 undef) v := hdep { on := 7, ground := .guard } (by simp) rfl _ _ rfl rfl
              simp only [ApOk6ff] at dg
              refine .inl ⟨Go.Proofs.Ytjlljkdlgkociaa.R.wanted_of (j := 7) rfl rfl rfl dg (by rw [hag.2.1]; show 32 < 59; decide), fun K hK => ?_⟩
              have d35 : z.tmps.getD 35 undef = .bool true := hdep { on := 10, ground := .data } (by simp) rfl _ _ rfl rfl
              have e35 := d35
              rw [Array.getD_eq_getD_getElem?] at e35
              have d38 : z.tmps.getD 38 undef = .bool true := hdep { on := 13, ground := .data } (by simp) rfl _ _ rfl rfl
              have e38 := d38
              rw [Array.getD_eq_getD_getElem?] at e38
              have HSt := Lib.hid hst
              clear hdep hag hst
              go_simp
              exact hK _ _ (Below.refl _ _) rfl HSt.out
            · intro k z v hk hst hag hdep
              refine .inl ⟨rfl, fun K hK => ?_⟩
              have d32 : z.tmps.getD 32 undef = .bool true := hdep { on := 7, ground := .data } (by simp) rfl _ _ rfl rfl
              have e32 := d32
              rw [Array.getD_eq_getD_getElem?] at e32
              have d39 : z.tmps.getD 39 undef = .bool true := hdep { on := 14, ground := .data } (by simp) rfl _ _ rfl rfl
              have e39 := d39
              rw [Array.getD_eq_getD_getElem?] at e39
              have HSt := Lib.hid hst
              clear hdep hag hst
              go_simp
              exact hK _ _ (Below.refl _ _) rfl HSt.out
            · intro k z v hk hst hag hdep
              refine .inl ⟨rfl, fun K hK => ?_⟩
              have d40 : z.tmps.getD 40 undef = .bool true := hdep { on := 15, ground := .data } (by simp) rfl _ _ rfl rfl
              have e40 := d40
              rw [Array.getD_eq_getD_getElem?] at e40
              have HSt := Lib.hid hst
              clear hdep hag hst
              go_simp
              exact hK _ _ (Below.refl _ _) rfl HSt.out
          case hdone =>
            intro z v hst hag hok
            have d4 : z.tmps.getD 4 undef = .bool true := hok 16 _ 4 rfl rfl
            have HEv : Hid (P (.returned (.bool true)) v) := Lib.hid (HEnd.out v (HBE.out.trans ((HEg.out.trans (Below.mono hst HEg.out.size)).mono (by have := HBE.out.size; have := HRb.out; omega))))
            clear hst
            obtain ⟨uu, hu, hzz⟩ := Go.Proofs.Ytjlljkdlgkociaa.R.agree_frame [25, 26, 27, 28, 29, 30, 31, 32, 33, 34, 35, 36, 37, 38, 39, 40, 4] rfl hag
            have e4 := (hu 4).trans d4
            subst hzz
            simp only [List.foldl_cons, List.foldl_nil]
            rw [e4]
            clear e4 d4 hu hag hok
            try dsimp only [Exit.then]
            simp only [List.setIfInBounds_toArray, List.set_cons_succ, List.set_cons_zero]
            generalize uu 25 = u25', uu 26 = u26', uu 27 = u27', uu 28 = u28', uu 29 = u29', uu 30 = u30', uu 31 = u31', uu 32 = u32', uu 33 = u33', uu 34 = u34', uu 35 = u35', uu 36 = u36', uu 37 = u37', uu 38 = u38', uu 39 = u39', uu 40 = u40'
            clear uu
            go_wp2_with fail
            exact HEv.out
        · obtain rfl : k2 = 0 := HKb2.out
          clear HKb2
          go_upto_region 6 with fail
          refine Go.Proofs.Ytjlljkdlgkociaa.R.wp_region_due [] [0, 0, 0, 0, 0, 0, 0, 0, 0, 0, 0, 0, 0, 0, 0, 0, 0] (by kernel_rfl) (fun _ _ u => Below wg.heap.size wg u) (fun u u2 => Below u.heap.size u u2) (ApOk6ft S1 S2 c1 c2 c3 c4 c5 c6 g1 g2 g3 g4 g5 g6 x1 x2 x3 x4 x5 x6 y1 y2 y3 y4 y5 y6 D s1p s2p) (by rfl) (by kernel_rfl) (by kernel_rfl) (by kernel_rfl) (by kernel_rfl) ?hcong ?hOk ?hop ?hdone ?h0
          case hcong => exact fun k f f2 u hs hst => hst
          case hOk => intro i u w1 w2 h hr; unfold ApOk6ft at h ⊢; split <;> first | exact True.intro | exact h
          case h0 => exact (Below.refl _ _).drew
          case hop =>
            refine ⟨?_, ?_, ?_, ?_, ?_, ?_, ?_, ?_, ?_, ?_, ?_, ?_, ?_, ?_, ?_, ?_, ?_, trivial⟩
            · intro k z v hk hst hag hdep
              refine .inl ⟨rfl, fun K hK => ?_⟩
              have d2 : z.tmps.getD 2 undef = .pointer (some ⟨rb, 0, none⟩) := hag.2.2 2 (by kernel_rfl)
              have e2 := d2
              rw [Array.getD_eq_getD_getElem?] at e2
              have hb : Below wg.heap.size wg v := hst
              have hz := (HZE.out v (HEg.out.trans (hb.mono HEg.out.size))).1
              have lc0 : v.cell? ⟨rb, 0, none⟩ = some (.int .i64 S1.k) := by rw [cell_block hz]; rfl
              have lc1 : v.cell? ⟨rb, 1, none⟩ = some (.int .i64 S1.w) := by rw [cell_block hz]; rfl
              have lc2 : v.cell? ⟨rb, 2, none⟩ = some (.int .i64 S1.h) := by rw [cell_block hz]; rfl
              have lc3 : v.cell? ⟨rb, 3, none⟩ = some (.int .i64 S1.x) := by rw [cell_block hz]; rfl
              have lc4 : v.cell? ⟨rb, 4, none⟩ = some (.int .i64 S1.y) := by rw [cell_block hz]; rfl
              have lc5 : v.cell? ⟨rb, 5, none⟩ = some (.string S1.t) := by rw [cell_block hz]; rfl
              have lc6 : v.cell? ⟨rb, 6, none⟩ = some (.slice c1 c2 c3) := by rw [cell_block hz]; rfl
              have lc7 : v.cell? ⟨rb, 7, none⟩ = some (.int .i64 S1.n) := by rw [cell_block hz]; rfl
              have lc8 : v.cell? ⟨rb, 8, none⟩ = some (.int .i64 S1.c) := by rw [cell_block hz]; rfl
              have lc9 : v.cell? ⟨rb, 9, none⟩ = some (.slice c4 c5 c6) := by rw [cell_block hz]; rfl
              clear hb hz
              have HSt := Lib.hid hst
              clear hdep hag hst
              go_simp
              exact hK _ _ (Below.refl _ _) rfl HSt.out
            · intro k z v hk hst hag hdep
              refine .inl ⟨rfl, fun K hK => ?_⟩
              have d25 : z.tmps.getD 25 undef = .agg #[.int .i64 S1.k, .int .i64 S1.w, .int .i64 S1.h, .int .i64 S1.x, .int .i64 S1.y, .string S1.t, .slice c1 c2 c3, .int .i64 S1.n, .int .i64 S1.c, .slice c4 c5 c6] := hdep { on := 0, ground := .data } (by simp) rfl _ _ rfl rfl
              have e25 := d25
              rw [Array.getD_eq_getD_getElem?] at e25
              have hb : Below wg.heap.size wg v := hst
              have HC := Lib.hid (HCk1.out v (HEg.out.trans (hb.mono HEg.out.size)))
              have HBv := Lib.hid hb
              clear hdep hag hst hb
              go_simp
              refine HC.out.mono ?_
              rintro e w' ⟨rfl, h9⟩
              exact hK _ _ h9 rfl (HBv.out.trans (h9.mono HBv.out.size))
            · intro k z v hk hst hag hdep
              refine .inl ⟨rfl, fun K hK => ?_⟩
              have d26 : z.tmps.getD 26 undef = .int .i64 1 := hdep { on := 1, ground := .data } (by simp) rfl _ _ rfl rfl
              have e26 := d26
              rw [Array.getD_eq_getD_getElem?] at e26
              have HSt := Lib.hid hst
              clear hdep hag hst
              go_simp
              exact hK _ _ (Below.refl _ _) rfl HSt.out
            · intro k z v hk hst hag hdep
              refine .inl ⟨rfl, fun K hK => ?_⟩
              have d5 : z.tmps.getD 5 undef = .pointer (some ⟨p5, 0, none⟩) := hag.2.2 5 (by kernel_rfl)
              have e5 := d5
              rw [Array.getD_eq_getD_getElem?] at e5
              have hb : Below wg.heap.size wg v := hst
              have hz := (HZE.out v (HEg.out.trans (hb.mono HEg.out.size))).2.2.1
              have lc0 : v.cell? ⟨p5, 0, none⟩ = some (.int .i64 S1.k) := by rw [cell_block hz]; rfl
              have lc1 : v.cell? ⟨p5, 1, none⟩ = some (.int .i64 S1.w) := by rw [cell_block hz]; rfl
              have lc2 : v.cell? ⟨p5, 2, none⟩ = some (.int .i64 S1.h) := by rw [cell_block hz]; rfl
              have lc3 : v.cell? ⟨p5, 3, none⟩ = some (.int .i64 S1.x) := by rw [cell_block hz]; rfl
              have lc4 : v.cell? ⟨p5, 4, none⟩ = some (.int .i64 S1.y) := by rw [cell_block hz]; rfl
              have lc5 : v.cell? ⟨p5, 5, none⟩ = some (.string S1.t) := by rw [cell_block hz]; rfl
              have lc6 : v.cell? ⟨p5, 6, none⟩ = some (.slice x1 x2 x3) := by rw [cell_block hz]; rfl
              have lc7 : v.cell? ⟨p5, 7, none⟩ = some (.int .i64 S1.n) := by rw [cell_block hz]; rfl
              have lc8 : v.cell? ⟨p5, 8, none⟩ = some (.int .i64 S1.c) := by rw [cell_block hz]; rfl
              have lc9 : v.cell? ⟨p5, 9, none⟩ = some (.slice x4 x5 x6) := by rw [cell_block hz]; rfl
              clear hb hz
              have HSt := Lib.hid hst
              clear hdep hag hst
              go_simp
              exact hK _ _ (Below.refl _ _) rfl HSt.out
            · intro k z v hk hst hag hdep
              refine .inl ⟨rfl, fun K hK => ?_⟩
              have d28 : z.tmps.getD 28 undef = .agg #[.int .i64 S1.k, .int .i64 S1.w, .int .i64 S1.h, .int .i64 S1.x, .int .i64 S1.y, .string S1.t, .slice x1 x2 x3, .int .i64 S1.n, .int .i64 S1.c, .slice x4 x5 x6] := hdep { on := 3, ground := .data } (by simp) rfl _ _ rfl rfl
              have e28 := d28
              rw [Array.getD_eq_getD_getElem?] at e28
              have hb : Below wg.heap.size wg v := hst
              have HC := Lib.hid (HMy1.out v (HEg.out.trans (hb.mono HEg.out.size)))
              have HBv := Lib.hid hb
              clear hdep hag hst hb
              go_simp
              refine HC.out.mono ?_
              rintro e w' ⟨rfl, h9⟩
              exact hK _ _ h9 rfl (HBv.out.trans (h9.mono HBv.out.size))
            · intro k z v hk hst hag hdep
              refine .inl ⟨rfl, fun K hK => ?_⟩
              have d29 : z.tmps.getD 29 undef = .bool false := hdep { on := 4, ground := .data } (by simp) rfl _ _ rfl rfl
              have e29 := d29
              rw [Array.getD_eq_getD_getElem?] at e29
              have HSt := Lib.hid hst
              clear hdep hag hst
              go_simp
              exact hK _ _ (Below.refl _ _) rfl HSt.out
            · intro k z v hk hst hag hdep
              refine .inl ⟨rfl, fun K hK => ?_⟩
              have d27 : z.tmps.getD 27 undef = .bool true := hdep { on := 2, ground := .data } (by simp) rfl _ _ rfl rfl
              have e27 := d27
              rw [Array.getD_eq_getD_getElem?] at e27
              have d30 : z.tmps.getD 30 undef = .bool true := hdep { on := 5, ground := .data } (by simp) rfl _ _ rfl rfl
              have e30 := d30
              rw [Array.getD_eq_getD_getElem?] at e30
              have HSt := Lib.hid hst
              clear hdep hag hst
              go_simp
              exact hK _ _ (Below.refl _ _) rfl HSt.out
            · intro k z v hk hst hag hdep
              refine .inl ⟨rfl, fun K hK => ?_⟩
              have d31 : z.tmps.getD 31 undef = .bool true := hdep { on := 6, ground := .data } (by simp) rfl _ _ rfl rfl
              have e31 := d31
              rw [Array.getD_eq_getD_getElem?] at e31
              have HSt := Lib.hid hst
              clear hdep hag hst
              go_simp
              exact hK _ _ (Below.refl _ _) rfl HSt.out
            · intro k z v hk hst hag hdep
              have dg : ApOk6ft S1 S2 c1 c2 c3 c4 c5 c6 g1 g2 g3 g4 g5 g6 x1 x2 x3 x4 x5 x6 y1 y2 y3 y4 y5 y6 D s1p s2p 7 (z.tmps.getD 32 undef) v := hdep { on := 7, ground := .guard } (by simp) rfl _ _ rfl rfl
              simp only [ApOk6ft] at dg
              refine .inl ⟨Go.Proofs.Ytjlljkdlgkociaa.R.wanted_of (j := 7) rfl rfl rfl dg (by rw [hag.2.1]; show 32 < 59; decide), fun K hK => ?_⟩
              have d3 : z.tmps.getD 3 undef = .pointer (some ⟨rb + 1, 0, none⟩) := hag.2.2 3 (by kernel_rfl)
              have e3 := d3
              rw [Array.getD_eq_getD_getElem?] at e3
              have hb : Below wg.heap.size wg v := hst
              have hz := (HZE.out v (HEg.out.trans (hb.mono HEg.out.size))).2.1
              have lc0 : v.cell? ⟨rb + 1, 0, none⟩ = some (.int .i64 S2.k) := by rw [cell_block hz]; rfl
              have lc1 : v.cell? ⟨rb + 1, 1, none⟩ = some (.int .i64 S2.w) := by rw [cell_block hz]; rfl
              have lc2 : v.cell? ⟨rb + 1, 2, none⟩ = some (.int .i64 S2.h) := by rw [cell_block hz]; rfl
              have lc3 : v.cell? ⟨rb + 1, 3, none⟩ = some (.int .i64 S2.x) := by rw [cell_block hz]; rfl
              have lc4 : v.cell? ⟨rb + 1, 4, none⟩ = some (.int .i64 S2.y) := by rw [cell_block hz]; rfl
              have lc5 : v.cell? ⟨rb + 1, 5, none⟩ = some (.string S2.t) := by rw [cell_block hz]; rfl
              have lc6 : v.cell? ⟨rb + 1, 6, none⟩ = some (.slice g1 g2 g3) := by rw [cell_block hz]; rfl
              have lc7 : v.cell? ⟨rb + 1, 7, none⟩ = some (.int .i64 S2.n) := by rw [cell_block hz]; rfl
              have lc8 : v.cell? ⟨rb + 1, 8, none⟩ = some (.int .i64 S2.c) := by rw [cell_block hz]; rfl
              have lc9 : v.cell? ⟨rb + 1, 9, none⟩ = some (.slice g4 g5 g6) := by rw [cell_block hz]; rfl
              clear hb hz
              have HSt := Lib.hid hst
              clear hdep hag hst
              go_simp
              exact hK _ _ (Below.refl _ _) rfl HSt.out
            · intro k z v hk hst hag hdep
              have dg : ApOk6ft S1 S2 c1 c2 c3 c4 c5 c6 g1 g2 g3 g4 g5 g6 x1 x2 x3 x4 x5 x6 y1 y2 y3 y4 y5 y6 D s1p s2p 7 (z.tmps.getD 32 undef) v := hdep { on := 7, ground := .guard } (by simp) rfl _ _ rfl rfl
              simp only [ApOk6ft] at dg
              refine .inl ⟨Go.Proofs.Ytjlljkdlgkociaa.R.wanted_of (j := 7) rfl rfl rfl dg (by rw [hag.2.1]; show 32 < 59; decide), fun K hK => ?_⟩
              have d33 : z.tmps.getD 33 undef = .agg #[.int .i64 S2.k, .int .i64 S2.w, .int .i64 S2.h, .int .i64 S2.x, .int .i64 S2.y, .string S2.t, .slice g1 g2 g3, .int .i64 S2.n, .int .i64 S2.c, .slice g4 g5 g6] := hdep { on := 8, ground := .data } (by simp) rfl _ _ rfl rfl
              have e33 := d33
              rw [Array.getD_eq_getD_getElem?] at e33
              have hb : Below wg.heap.size wg v := hst
              have HC := Lib.hid (HCk2.out v (HEg.out.trans (hb.mono HEg.out.size)))
              have HBv := Lib.hid hb
              clear hdep hag hst hb
              go_simp
              refine HC.out.mono ?_
              rintro e w' ⟨rfl, h9⟩
              exact hK _ _ h9 rfl (HBv.out.trans (h9.mono HBv.out.size))
            · intro k z v hk hst hag hdep
              have dg : ApOk6ft S1 S2 c1 c2 c3 c4 c5 c6 g1 g2 g3 g4 g5 g6 x1 x2 x3 x4 x5 x6 y1 y2 y3 y4 y5 y6 D s1p s2p 7 (z.tmps.getD 32 undef) v := hdep { on := 7, ground := .guard } (by simp) rfl _ _ rfl rfl
              simp only [ApOk6ft] at dg
              refine .inl ⟨Go.Proofs.Ytjlljkdlgkociaa.R.wanted_of (j := 7) rfl rfl rfl dg (by rw [hag.2.1]; show 32 < 59; decide), fun K hK => ?_⟩
              have d34 : z.tmps.getD 34 undef = .int .i64 0 := hdep { on := 9, ground := .data } (by simp) rfl _ _ rfl rfl
              have e34 := d34
              rw [Array.getD_eq_getD_getElem?] at e34
              have HSt := Lib.hid hst
              clear hdep hag hst
              go_simp
              exact hK _ _ (Below.refl _ _) rfl HSt.out
            · intro k z v hk hst hag hdep
              have dg : ApOk6ft S1 S2 c1 c2 c3 c4 c5 c6 g1 g2 g3 g4 g5 g6 x1 x2 x3 x4 x5 x6 y1 y2 y3 y4 y5 y6 D s1p s2p 7 (z.tmps.getD 32 undef) v := hdep { on := 7, ground := .guard } (by simp) rfl _ _ rfl rfl
              simp only [ApOk6ft] at dg
              refine .inl ⟨Go.Proofs.Ytjlljkdlgkociaa.R.wanted_of (j := 7) rfl rfl rfl dg (by rw [hag.2.1]; show 32 < 59; decide), fun K hK => ?_⟩
              have d6 : z.tmps.getD 6 undef = .pointer (some ⟨p6, 0, none⟩) := hag.2.2 6 (by kernel_rfl)
              have e6 := d6
              rw [Array.getD_eq_getD_getElem?] at e6
              have hb : Below wg.heap.size wg v := hst
              have hz := (HZE.out v (HEg.out.trans (hb.mono HEg.out.size))).2.2.2
              have lc0 : v.cell? ⟨p6, 0, none⟩ = some (.int .i64 S2.k) := by rw [cell_block hz]; rfl
              have lc1 : v.cell? ⟨p6, 1, none⟩ = some (.int .i64 S2.w) := by rw [cell_block hz]; rfl
              have lc2 : v.cell? ⟨p6, 2, none⟩ = some (.int .i64 S2.h) := by rw [cell_block hz]; rfl
              have lc3 : v.cell? ⟨p6, 3, none⟩ = some (.int .i64 S2.x) := by rw [cell_block hz]; rfl
              have lc4 : v.cell? ⟨p6, 4, none⟩ = some (.int .i64 S2.y) := by rw [cell_block hz]; rfl
              have lc5 : v.cell? ⟨p6, 5, none⟩ = some (.string S2.t) := by rw [cell_block hz]; rfl
              have lc6 : v.cell? ⟨p6, 6, none⟩ = some (.slice y1 y2 y3) := by rw [cell_block hz]; rfl
              have lc7 : v.cell? ⟨p6, 7, none⟩ = some (.int .i64 S2.n) := by rw [cell_block hz]; rfl
              have lc8 : v.cell? ⟨p6, 8, none⟩ = some (.int .i64 S2.c) := by rw [cell_block hz]; rfl
              have lc9 : v.cell? ⟨p6, 9, none⟩ = some (.slice y4 y5 y6) := by rw [cell_block hz]; rfl
              clear hb hz
              have HSt := Lib.hid hst
              clear hdep hag hst
              go_simp
              exact hK _ _ (Below.refl _ _) rfl HSt.out
            · intro k z v hk hst hag hdep
              have dg : ApOk6ft S1 S2 c1 c2 c3 c4 c5 c6 g1 g2 g3 g4 g5 g6 x1 x2 x3 x4 x5 x6 y1 y2 y3 y4 y5 y6 D s1p s2p 7 (z.tmps.getD 32 undef) v := hdep { on := 7, ground := .guard } (by simp) rfl _ _ rfl rfl
              simp only [ApOk6ft] at dg
              refine .inl ⟨Go.Proofs.Ytjlljkdlgkociaa.R.wanted_of (j := 7) rfl rfl rfl dg (by rw [hag.2.1]; show 32 < 59; decide), fun K hK => ?_⟩
              have d36 : z.tmps.getD 36 undef = .agg #[.int .i64 S2.k, .int .i64 S2.w, .int .i64 S2.h, .int .i64 S2.x, .int .i64 S2.y, .string S2.t, .slice y1 y2 y3, .int .i64 S2.n, .int .i64 S2.c, .slice y4 y5 y6] := hdep { on := 11, ground := .data } (by simp) rfl _ _ rfl rfl
              have e36 := d36
              rw [Array.getD_eq_getD_getElem?] at e36
              have hb : Below wg.heap.size wg v := hst
              have HC := Lib.hid (HMy2.out v (HEg.out.trans (hb.mono HEg.out.size)))
              have HBv := Lib.hid hb
              clear hdep hag hst hb
              go_simp
              refine HC.out.mono ?_
              rintro e w' ⟨rfl, h9⟩
              exact hK _ _ h9 rfl (HBv.out.trans (h9.mono HBv.out.size))
            · intro k z v hk hst hag hdep
              have dg : ApOk6ft S1 S2 c1 c2 c3 c4 c5 c6 g1 g2 g3 g4 g5 g6 x1 x2 x3 x4 x5 x6 y1 y2 y3 y4 y5 y6 D s1p s2p 7 (z.tmps.getD 32 undef) v := hdep { on := 7, ground := .guard } (by simp) rfl _ _ rfl rfl
              simp only [ApOk6ft] at dg
              refine .inl ⟨Go.Proofs.Ytjlljkdlgkociaa.R.wanted_of (j := 7) rfl rfl rfl dg (by rw [hag.2.1]; show 32 < 59; decide), fun K hK => ?_⟩
              have d37 : z.tmps.getD 37 undef = .bool true := hdep { on := 12, ground := .data } (by simp) rfl _ _ rfl rfl
              have e37 := d37
              rw [Array.getD_eq_getD_getElem?] at e37
              have HSt := Lib.hid hst
              clear hdep hag hst
              go_simp
              exact hK _ _ (Below.refl _ _) rfl HSt.out
            · intro k z v hk hst hag hdep
              have dg : ApOk6ft S1 S2 c1 c2 c3 c4 c5 c6 g1 g2 g3 g4 g5 g6 x1 x2 x3 x4 x5 x6 y1 y2 y3 y4 y5 y6 D s1p s2p 7 (z.tmps.getD 32 undef) v := hdep { on := 7, ground := .guard } (by simp) rfl _ _ rfl rfl
              simp only [ApOk6ft] at dg
              refine .inl ⟨Go.Proofs.Ytjlljkdlgkociaa.R.wanted_of (j := 7) rfl rfl rfl dg (by rw [hag.2.1]; show 32 < 59; decide), fun K hK => ?_⟩
              have d35 : z.tmps.getD 35 undef = .bool false := hdep { on := 10, ground := .data } (by simp) rfl _ _ rfl rfl
              have e35 := d35
              rw [Array.getD_eq_getD_getElem?] at e35
              have d38 : z.tmps.getD 38 undef = .bool false := hdep { on := 13, ground := .data } (by simp) rfl _ _ rfl rfl
              have e38 := d38
              rw [Array.getD_eq_getD_getElem?] at e38
              have HSt := Lib.hid hst
              clear hdep hag hst
              go_simp
              exact hK _ _ (Below.refl _ _) rfl HSt.out
            · intro k z v hk hst hag hdep
              refine .inl ⟨rfl, fun K hK => ?_⟩
              have d32 : z.tmps.getD 32 undef = .bool true := hdep { on := 7, ground := .data } (by simp) rfl _ _ rfl rfl
              have e32 := d32
              rw [Array.getD_eq_getD_getElem?] at e32
              have d39 : z.tmps.getD 39 undef = .bool true := hdep { on := 14, ground := .data } (by simp) rfl _ _ rfl rfl
              have e39 := d39
              rw [Array.getD_eq_getD_getElem?] at e39
              have HSt := Lib.hid hst
              clear hdep hag hst
              go_simp
              exact hK _ _ (Below.refl _ _) rfl HSt.out
            · intro k z v hk hst hag hdep
              refine .inl ⟨rfl, fun K hK => ?_⟩
              have d40 : z.tmps.getD 40 undef = .bool true := hdep { on := 15, ground := .data } (by simp) rfl _ _ rfl rfl
              have e40 := d40
              rw [Array.getD_eq_getD_getElem?] at e40
              have HSt := Lib.hid hst
              clear hdep hag hst
              go_simp
              exact hK _ _ (Below.refl _ _) rfl HSt.out
          case hdone =>
            intro z v hst hag hok
            have d4 : z.tmps.getD 4 undef = .bool true := hok 16 _ 4 rfl rfl
            have HEv : Hid (P (.returned (.bool true)) v) := Lib.hid (HEnd.out v (HBE.out.trans ((HEg.out.trans (Below.mono hst HEg.out.size)).mono (by have := HBE.out.size; have := HRb.out; omega))))
            clear hst
            obtain ⟨uu, hu, hzz⟩ := Go.Proofs.Ytjlljkdlgkociaa.R.agree_frame [25, 26, 27, 28, 29, 30, 31, 32, 33, 34, 35, 36, 37, 38, 39, 40, 4] rfl hag
            have e4 := (hu 4).trans d4
            subst hzz
            simp only [List.foldl_cons, List.foldl_nil]
            rw [e4]
            clear e4 d4 hu hag hok
            try dsimp only [Exit.then]
            simp only [List.setIfInBounds_toArray, List.set_cons_succ, List.set_cons_zero]
            generalize uu 25 = u25', uu 26 = u26', uu 27 = u27', uu 28 = u28', uu 29 = u29', uu 30 = u30', uu 31 = u31', uu 32 = u32', uu 33 = u33', uu 34 = u34', uu 35 = u35', uu 36 = u36', uu 37 = u37', uu 38 = u38', uu 39 = u39', uu 40 = u40'
            clear uu
            go_wp2_with fail
            exact HEv.out
      · obtain rfl : k1 = 0 := HKb1.out
        have hzF := HZE.out wF HEF.out
        have HMy2F := Lib.hid (HMy2.out wF HEF.out)
        have u0 : wF.cell? ⟨p6, 0, none⟩ = some (.int .i64 S2.k) := by rw [cell_block hzF.2.2.2]; rfl
        have u1 : wF.cell? ⟨p6, 1, none⟩ = some (.int .i64 S2.w) := by rw [cell_block hzF.2.2.2]; rfl
        have u2 : wF.cell? ⟨p6, 2, none⟩ = some (.int .i64 S2.h) := by rw [cell_block hzF.2.2.2]; rfl
        have u3 : wF.cell? ⟨p6, 3, none⟩ = some (.int .i64 S2.x) := by rw [cell_block hzF.2.2.2]; rfl
        have u4 : wF.cell? ⟨p6, 4, none⟩ = some (.int .i64 S2.y) := by rw [cell_block hzF.2.2.2]; rfl
        have u5 : wF.cell? ⟨p6, 5, none⟩ = some (.string S2.t) := by rw [cell_block hzF.2.2.2]; rfl
        have u6 : wF.cell? ⟨p6, 6, none⟩ = some (.slice y1 y2 y3) := by rw [cell_block hzF.2.2.2]; rfl
        have u7 : wF.cell? ⟨p6, 7, none⟩ = some (.int .i64 S2.n) := by rw [cell_block hzF.2.2.2]; rfl
        have u8 : wF.cell? ⟨p6, 8, none⟩ = some (.int .i64 S2.c) := by rw [cell_block hzF.2.2.2]; rfl
        have u9 : wF.cell? ⟨p6, 9, none⟩ = some (.slice y4 y5 y6) := by rw [cell_block hzF.2.2.2]; rfl
        clear hzF HKb1
        go_wp2_with fail
        refine HMy2F.out.mono ?_
        rintro e wg ⟨rfl, hbg⟩
        have HEg : Hid (Below wE.heap.size wE wg) := Lib.hid (HEF.out.trans (hbg.mono HEF.out.size))
        clear hbg HMy2F u0 u1 u2 u3 u4 u5 u6 u7 u8 u9
        cases b2
        · obtain rfl : k2 = 1 := HKb2.out
          clear HKb2
          go_upto_region 6 with fail
          refine Go.Proofs.Ytjlljkdlgkociaa.R.wp_region_due [] [0, 0, 0, 0, 0, 0, 0, 0, 0, 0, 0, 0, 0, 0, 0, 0, 0] (by kernel_rfl) (fun _ _ u => Below wg.heap.size wg u) (fun u u2 => Below u.heap.size u u2) (ApOk6tf S1 S2 c1 c2 c3 c4 c5 c6 g1 g2 g3 g4 g5 g6 x1 x2 x3 x4 x5 x6 y1 y2 y3 y4 y5 y6 D s1p s2p) (by rfl) (by kernel_rfl) (by kernel_rfl) (by kernel_rfl) (by kernel_rfl) ?hcong ?hOk ?hop ?hdone ?h0
          case hcong => exact fun k f f2 u hs hst => hst
          case hOk => intro i u w1 w2 h hr; unfold ApOk6tf at h ⊢; split <;> first | exact True.intro | exact h
          case h0 => exact (Below.refl _ _).drew
          case hop =>
            refine ⟨?_, ?_, ?_, ?_, ?_, ?_, ?_, ?_, ?_, ?_, ?_, ?_, ?_, ?_, ?_, ?_, ?_, trivial⟩
            · intro k z v hk hst hag hdep
              refine .inl ⟨rfl, fun K hK => ?_⟩
              have d2 : z.tmps.getD 2 undef = .pointer (some ⟨rb, 0, none⟩) := hag.2.2 2 (by kernel_rfl)
              have e2 := d2
              rw [Array.getD_eq_getD_getElem?] at e2
              have hb : Below wg.heap.size wg v := hst
              have hz := (HZE.out v (HEg.out.trans (hb.mono HEg.out.size))).1
              have lc0 : v.cell? ⟨rb, 0, none⟩ = some (.int .i64 S1.k) := by rw [cell_block hz]; rfl
              have lc1 : v.cell? ⟨rb, 1, none⟩ = some (.int .i64 S1.w) := by rw [cell_block hz]; rfl
              have lc2 : v.cell? ⟨rb, 2, none⟩ = some (.int .i64 S1.h) := by rw [cell_block hz]; rfl
              have lc3 : v.cell? ⟨rb, 3, none⟩ = some (.int .i64 S1.x) := by rw [cell_block hz]; rfl
              have lc4 : v.cell? ⟨rb, 4, none⟩ = some (.int .i64 S1.y) := by rw [cell_block hz]; rfl
              have lc5 : v.cell? ⟨rb, 5, none⟩ = some (.string S1.t) := by rw [cell_block hz]; rfl
              have lc6 : v.cell? ⟨rb, 6, none⟩ = some (.slice c1 c2 c3) := by rw [cell_block hz]; rfl
              have lc7 : v.cell? ⟨rb, 7, none⟩ = some (.int .i64 S1.n) := by rw [cell_block hz]; rfl
              have lc8 : v.cell? ⟨rb, 8, none⟩ = some (.int .i64 S1.c) := by rw [cell_block hz]; rfl
              have lc9 : v.cell? ⟨rb, 9, none⟩ = some (.slice c4 c5 c6) := by rw [cell_block hz]; rfl
              clear hb hz
              have HSt := Lib.hid hst
              clear hdep hag hst
              go_simp
              exact hK _ _ (Below.refl _ _) rfl HSt.out
            · intro k z v hk hst hag hdep
              refine .inl ⟨rfl, fun K hK => ?_⟩
              have d25 : z.tmps.getD 25 undef = .agg #[.int .i64 S1.k, .int .i64 S1.w, .int .i64 S1.h, .int .i64 S1.x, .int .i64 S1.y, .string S1.t, .slice c1 c2 c3, .int .i64 S1.n, .int .i64 S1.c, .slice c4 c5 c6] := hdep { on := 0, ground := .data } (by simp) rfl _ _ rfl rfl
              have e25 := d25
              rw [Array.getD_eq_getD_getElem?] at e25
              have hb : Below wg.heap.size wg v := hst
              have HC := Lib.hid (HCk1.out v (HEg.out.trans (hb.mono HEg.out.size)))
              have HBv := Lib.hid hb
              clear hdep hag hst hb
              go_simp
              refine HC.out.mono ?_
              rintro e w' ⟨rfl, h9⟩
              exact hK _ _ h9 rfl (HBv.out.trans (h9.mono HBv.out.size))
            · intro k z v hk hst hag hdep
              refine .inl ⟨rfl, fun K hK => ?_⟩
              have d26 : z.tmps.getD 26 undef = .int .i64 0 := hdep { on := 1, ground := .data } (by simp) rfl _ _ rfl rfl
              have e26 := d26
              rw [Array.getD_eq_getD_getElem?] at e26
              have HSt := Lib.hid hst
              clear hdep hag hst
              go_simp
              exact hK _ _ (Below.refl _ _) rfl HSt.out
            · intro k z v hk hst hag hdep
              refine .inl ⟨rfl, fun K hK => ?_⟩
              have d5 : z.tmps.getD 5 undef = .pointer (some ⟨p5, 0, none⟩) := hag.2.2 5 (by kernel_rfl)
              have e5 := d5
              rw [Array.getD_eq_getD_getElem?] at e5
              have hb : Below wg.heap.size wg v := hst
              have hz := (HZE.out v (HEg.out.trans (hb.mono HEg.out.size))).2.2.1
              have lc0 : v.cell? ⟨p5, 0, none⟩ = some (.int .i64 S1.k) := by rw [cell_block hz]; rfl
              have lc1 : v.cell? ⟨p5, 1, none⟩ = some (.int .i64 S1.w) := by rw [cell_block hz]; rfl
              have lc2 : v.cell? ⟨p5, 2, none⟩ = some (.int .i64 S1.h) := by rw [cell_block hz]; rfl
              have lc3 : v.cell? ⟨p5, 3, none⟩ = some (.int .i64 S1.x) := by rw [cell_block hz]; rfl
              have lc4 : v.cell? ⟨p5, 4, none⟩ = some (.int .i64 S1.y) := by rw [cell_block hz]; rfl
              have lc5 : v.cell? ⟨p5, 5, none⟩ = some (.string S1.t) := by rw [cell_block hz]; rfl
              have lc6 : v.cell? ⟨p5, 6, none⟩ = some (.slice x1 x2 x3) := by rw [cell_block hz]; rfl
              have lc7 : v.cell? ⟨p5, 7, none⟩ = some (.int .i64 S1.n) := by rw [cell_block hz]; rfl
              have lc8 : v.cell? ⟨p5, 8, none⟩ = some (.int .i64 S1.c) := by rw [cell_block hz]; rfl
              have lc9 : v.cell? ⟨p5, 9, none⟩ = some (.slice x4 x5 x6) := by rw [cell_block hz]; rfl
              clear hb hz
              have HSt := Lib.hid hst
              clear hdep hag hst
              go_simp
              exact hK _ _ (Below.refl _ _) rfl HSt.out
            · intro k z v hk hst hag hdep
              refine .inl ⟨rfl, fun K hK => ?_⟩
              have d28 : z.tmps.getD 28 undef = .agg #[.int .i64 S1.k, .int .i64 S1.w, .int .i64 S1.h, .int .i64 S1.x, .int .i64 S1.y, .string S1.t, .slice x1 x2 x3, .int .i64 S1.n, .int .i64 S1.c, .slice x4 x5 x6] := hdep { on := 3, ground := .data } (by simp) rfl _ _ rfl rfl
              have e28 := d28
              rw [Array.getD_eq_getD_getElem?] at e28
              have hb : Below wg.heap.size wg v := hst
              have HC := Lib.hid (HMy1.out v (HEg.out.trans (hb.mono HEg.out.size)))
              have HBv := Lib.hid hb
              clear hdep hag hst hb
              go_simp
              refine HC.out.mono ?_
              rintro e w' ⟨rfl, h9⟩
              exact hK _ _ h9 rfl (HBv.out.trans (h9.mono HBv.out.size))
            · intro k z v hk hst hag hdep
              refine .inl ⟨rfl, fun K hK => ?_⟩
              have d29 : z.tmps.getD 29 undef = .bool true := hdep { on := 4, ground := .data } (by simp) rfl _ _ rfl rfl
              have e29 := d29
              rw [Array.getD_eq_getD_getElem?] at e29
              have HSt := Lib.hid hst
              clear hdep hag hst
              go_simp
              exact hK _ _ (Below.refl _ _) rfl HSt.out
            · intro k z v hk hst hag hdep
              refine .inl ⟨rfl, fun K hK => ?_⟩
              have d27 : z.tmps.getD 27 undef = .bool false := hdep { on := 2, ground := .data } (by simp) rfl _ _ rfl rfl
              have e27 := d27
              rw [Array.getD_eq_getD_getElem?] at e27
              have d30 : z.tmps.getD 30 undef = .bool false := hdep { on := 5, ground := .data } (by simp) rfl _ _ rfl rfl
              have e30 := d30
              rw [Array.getD_eq_getD_getElem?] at e30
              have HSt := Lib.hid hst
              clear hdep hag hst
              go_simp
              exact hK _ _ (Below.refl _ _) rfl HSt.out
            · intro k z v hk hst hag hdep
              refine .inl ⟨rfl, fun K hK => ?_⟩
              have d31 : z.tmps.getD 31 undef = .bool true := hdep { on := 6, ground := .data } (by simp) rfl _ _ rfl rfl
              have e31 := d31
              rw [Array.getD_eq_getD_getElem?] at e31
              have HSt := Lib.hid hst
              clear hdep hag hst
              go_simp
              exact hK _ _ (Below.refl _ _) rfl HSt.out
            · intro k z v hk hst hag hdep
              have dg : ApOk6tf S1 S2 c1 c2 c3 c4 c5 c6 g1 g2 g3 g4 g5 g6 x1 x2 x3 x4 x5 x6 y1 y2 y3 y4 y5 y6 D s1p s2p 7 (z.tmps.getD 32 undef) v := hdep { on := 7, ground := .guard } (by simp) rfl _ _ rfl rfl
              simp only [ApOk6tf] at dg
              refine .inl ⟨Go.Proofs.Ytjlljkdlgkociaa.R.wanted_of (j := 7) rfl rfl rfl dg (by rw [hag.2.1]; show 32 < 59; decide), fun K hK => ?_⟩
              have d3 : z.tmps.getD 3 undef = .pointer (some ⟨rb + 1, 0, none⟩) := hag.2.2 3 (by kernel_rfl)
              have e3 := d3
              rw [Array.getD_eq_getD_getElem?] at e3
              have hb : Below wg.heap.size wg v := hst
              have hz := (HZE.out v (HEg.out.trans (hb.mono HEg.out.size))).2.1
              have lc0 : v.cell? ⟨rb + 1, 0, none⟩ = some (.int .i64 S2.k) := by rw [cell_block hz]; rfl
              have lc1 : v.cell? ⟨rb + 1, 1, none⟩ = some (.int .i64 S2.w) := by rw [cell_block hz]; rfl
              have lc2 : v.cell? ⟨rb + 1, 2, none⟩ = some (.int .i64 S2.h) := by rw [cell_block hz]; rfl
              have lc3 : v.cell? ⟨rb + 1, 3, none⟩ = some (.int .i64 S2.x) := by rw [cell_block hz]; rfl
              have lc4 : v.cell? ⟨rb + 1, 4, none⟩ = some (.int .i64 S2.y) := by rw [cell_block hz]; rfl
              have lc5 : v.cell? ⟨rb + 1, 5, none⟩ = some (.string S2.t) := by rw [cell_block hz]; rfl
              have lc6 : v.cell? ⟨rb + 1, 6, none⟩ = some (.slice g1 g2 g3) := by rw [cell_block hz]; rfl
              have lc7 : v.cell? ⟨rb + 1, 7, none⟩ = some (.int .i64 S2.n) := by rw [cell_block hz]; rfl
              have lc8 : v.cell? ⟨rb + 1, 8, none⟩ = some (.int .i64 S2.c) := by rw [cell_block hz]; rfl
              have lc9 : v.cell? ⟨rb + 1, 9, none⟩ = some (.slice g4 g5 g6) := by rw [cell_block hz]; rfl
              clear hb hz
              have HSt := Lib.hid hst
              clear hdep hag hst
              go_simp
              exact hK _ _ (Below.refl _ _) rfl HSt.out
            · intro k z v hk hst hag hdep
              have dg : ApOk6tf S1 S2 c1 c2 c3 c4 c5 c6 g1 g2 g3 g4 g5 g6 x1 x2 x3 x4 x5 x6 y1 y2 y3 y4 y5 y6 D s1p s2p 7 (z.tmps.getD 32 undef) v := hdep { on := 7, ground := .guard } (by simp) rfl _ _ rfl rfl
              simp only [ApOk6tf] at dg
              refine .inl ⟨Go.Proofs.Ytjlljkdlgkociaa.R.wanted_of (j := 7) rfl rfl rfl dg (by rw [hag.2.1]; show 32 < 59; decide), fun K hK => ?_⟩
              have d33 : z.tmps.getD 33 undef = .agg #[.int .i64 S2.k, .int .i64 S2.w, .int .i64 S2.h, .int .i64 S2.x, .int .i64 S2.y, .string S2.t, .slice g1 g2 g3, .int .i64 S2.n, .int .i64 S2.c, .slice g4 g5 g6] := hdep { on := 8, ground := .data } (by simp) rfl _ _ rfl rfl
              have e33 := d33
              rw [Array.getD_eq_getD_getElem?] at e33
              have hb : Below wg.heap.size wg v := hst
              have HC := Lib.hid (HCk2.out v (HEg.out.trans (hb.mono HEg.out.size)))
              have HBv := Lib.hid hb
              clear hdep hag hst hb
              go_simp
              refine HC.out.mono ?_
              rintro e w' ⟨rfl, h9⟩
              exact hK _ _ h9 rfl (HBv.out.trans (h9.mono HBv.out.size))
            · intro k z v hk hst hag hdep
              have dg : ApOk6tf S1 S2 c1 c2 c3 c4 c5 c6 g1 g2 g3 g4 g5 g6 x1 x2 x3 x4 x5 x6 y1 y2 y3 y4 y5 y6 D s1p s2p 7 (z.tmps.getD 32 undef) v := hdep { on := 7, ground := .guard } (by simp) rfl _ _ rfl rfl
              simp only [ApOk6tf] at dg
              refine .inl ⟨Go.Proofs.Ytjlljkdlgkociaa.R.wanted_of (j := 7) rfl rfl rfl dg (by rw [hag.2.1]; show 32 < 59; decide), fun K hK => ?_⟩
              have d34 : z.tmps.getD 34 undef = .int .i64 1 := hdep { on := 9, ground := .data } (by simp) rfl _ _ rfl rfl
              have e34 := d34
              rw [Array.getD_eq_getD_getElem?] at e34
              have HSt := Lib.hid hst
              clear hdep hag hst
              go_simp
              exact hK _ _ (Below.refl _ _) rfl HSt.out
            · intro k z v hk hst hag hdep
              have dg : ApOk6tf S1 S2 c1 c2 c3 c4 c5 c6 g1 g2 g3 g4 g5 g6 x1 x2 x3 x4 x5 x6 y1 y2 y3 y4 y5 y6 D s1p s2p 7 (z.tmps.getD 32 undef) v := hdep { on := 7, ground := .guard } (by simp) rfl _ _ rfl rfl
              simp only [ApOk6tf] at dg
              refine .inl ⟨Go.Proofs.Ytjlljkdlgkociaa.R.wanted_of (j := 7) rfl rfl rfl dg (by rw [hag.2.1]; show 32 < 59; decide), fun K hK => ?_⟩
              have d6 : z.tmps.getD 6 undef = .pointer (some ⟨p6, 0, none⟩) := hag.2.2 6 (by kernel_rfl)
              have e6 := d6
              rw [Array.getD_eq_getD_getElem?] at e6
              have hb : Below wg.heap.size wg v := hst
              have hz := (HZE.out v (HEg.out.trans (hb.mono HEg.out.size))).2.2.2
              have lc0 : v.cell? ⟨p6, 0, none⟩ = some (.int .i64 S2.k) := by rw [cell_block hz]; rfl
              have lc1 : v.cell? ⟨p6, 1, none⟩ = some (.int .i64 S2.w) := by rw [cell_block hz]; rfl
              have lc2 : v.cell? ⟨p6, 2, none⟩ = some (.int .i64 S2.h) := by rw [cell_block hz]; rfl
              have lc3 : v.cell? ⟨p6, 3, none⟩ = some (.int .i64 S2.x) := by rw [cell_block hz]; rfl
              have lc4 : v.cell? ⟨p6, 4, none⟩ = some (.int .i64 S2.y) := by rw [cell_block hz]; rfl
              have lc5 : v.cell? ⟨p6, 5, none⟩ = some (.string S2.t) := by rw [cell_block hz]; rfl
              have lc6 : v.cell? ⟨p6, 6, none⟩ = some (.slice y1 y2 y3) := by rw [cell_block hz]; rfl
              have lc7 : v.cell? ⟨p6, 7, none⟩ = some (.int .i64 S2.n) := by rw [cell_block hz]; rfl
              have lc8 : v.cell? ⟨p6, 8, none⟩ = some (.int .i64 S2.c) := by rw [cell_block hz]; rfl
              have lc9 : v.cell? ⟨p6, 9, none⟩ = some (.slice y4 y5 y6) := by rw [cell_block hz]; rfl
              clear hb hz
              have HSt := Lib.hid hst
              clear hdep hag hst
              go_simp
              exact hK _ _ (Below.refl _ _) rfl HSt.out
            · intro k z v hk hst hag hdep
              have dg : ApOk6tf S1 S2 c1 c2 c3 c4 c5 c6 g1 g2 g3 g4 g5 g6 x1 x2 x3 x4 x5 x6 y1 y2 y3 y4 y5 y6 D s1p s2p 7 (z.tmps.getD 32 undef) v := hdep { on := 7, ground := .guard } (by simp) rfl _ _ rfl rfl
              simp only [ApOk6tf] at dg
              refine .inl ⟨Go.Proofs.Ytjlljkdlgkociaa.R.wanted_of (j := 7) rfl rfl rfl dg (by rw [hag.2.1]; show 32 < 59; decide), fun K hK => ?_⟩
              have d36 : z.tmps.getD 36 undef = .agg #[.int .i64 S2.k, .int .i64 S2.w, .int .i64 S2.h, .int .i64 S2.x, .int .i64 S2.y, .string S2.t, .slice y1 y2 y3, .int .i64 S2.n, .int .i64 S2.c, .slice y4 y5 y6] := hdep { on := 11, ground := .data } (by simp) rfl _ _ rfl rfl
              have e36 := d36
              rw [Array.getD_eq_getD_getElem?] at e36
              have hb : Below wg.heap.size wg v := hst
              have HC := Lib.hid (HMy2.out v (HEg.out.trans (hb.mono HEg.out.size)))
              have HBv := Lib.hid hb
              clear hdep hag hst hb
              go_simp
              refine HC.out.mono ?_
              rintro e w' ⟨rfl, h9⟩
              exact hK _ _ h9 rfl (HBv.out.trans (h9.mono HBv.out.size))
            · intro k z v hk hst hag hdep
              have dg : ApOk6tf S1 S2 c1 c2 c3 c4 c5 c6 g1 g2 g3 g4 g5 g6 x1 x2 x3 x4 x5 x6 y1 y2 y3 y4 y5 y6 D s1p s2p 7 (z.tmps.getD 32 undef) v := hdep { on := 7, ground := .guard } (by simp) rfl _ _ rfl rfl
              simp only [ApOk6tf] at dg
              refine .inl ⟨Go.Proofs.Ytjlljkdlgkociaa.R.wanted_of (j := 7) rfl rfl rfl dg (by rw [hag.2.1]; show 32 < 59; decide), fun K hK => ?_⟩
              have d37 : z.tmps.getD 37 undef = .bool false := hdep { on := 12, ground := .data } (by simp) rfl _ _ rfl rfl
              have e37 := d37
              rw [Array.getD_eq_getD_getElem?] at e37
              have HSt := Lib.hid hst
              clear hdep hag hst
              go_simp
              exact hK _ _ (Below.refl _ _) rfl HSt.out
            · intro k z v hk hst hag hdep
              have dg : ApOk6tf S1 S2 c1 c2 c3 c4 c5 c6 g1 g2 g3 g4 g5 g6 x1 x2 x3 x4 x5 x6 y1 y2 y3 y4 y5 y6 D s1p s2p 7 (z.tmps.getD 32 undef) v := hdep { on := 7, ground := .guard } (by simp) rfl _ _ rfl rfl
              simp only [ApOk6tf] at dg
              refine .inl ⟨Go.Proofs.Ytjlljkdlgkociaa.R.wanted_of (j := 7) rfl rfl rfl dg (by rw [hag.2.1]; show 32 < 59; decide), fun K hK => ?_⟩
              have d35 : z.tmps.getD 35 undef = .bool true := hdep { on := 10, ground := .data } (by simp) rfl _ _ rfl rfl
              have e35 := d35
              rw [Array.getD_eq_getD_getElem?] at e35
              have d38 : z.tmps.getD 38 undef = .bool true := hdep { on := 13, ground := .data } (by simp) rfl _ _ rfl rfl
              have e38 := d38
              rw [Array.getD_eq_getD_getElem?] at e38
              have HSt := Lib.hid hst
              clear hdep hag hst
              go_simp
              exact hK _ _ (Below.refl _ _) rfl HSt.out
            · intro k z v hk hst hag hdep
              refine .inl ⟨rfl, fun K hK => ?_⟩
              have d32 : z.tmps.getD 32 undef = .bool true := hdep { on := 7, ground := .data } (by simp) rfl _ _ rfl rfl
              have e32 := d32
              rw [Array.getD_eq_getD_getElem?] at e32
              have d39 : z.tmps.getD 39 undef = .bool true := hdep { on := 14, ground := .data } (by simp) rfl _ _ rfl rfl
              have e39 := d39
              rw [Array.getD_eq_getD_getElem?] at e39
              have HSt := Lib.hid hst
              clear hdep hag hst
              go_simp
              exact hK _ _ (Below.refl _ _) rfl HSt.out
            · intro k z v hk hst hag hdep
              refine .inl ⟨rfl, fun K hK => ?_⟩
              have d40 : z.tmps.getD 40 undef = .bool true := hdep { on := 15, ground := .data } (by simp) rfl _ _ rfl rfl
              have e40 := d40
              rw [Array.getD_eq_getD_getElem?] at e40
              have HSt := Lib.hid hst
              clear hdep hag hst
              go_simp
              exact hK _ _ (Below.refl _ _) rfl HSt.out
          case hdone =>
            intro z v hst hag hok
            have d4 : z.tmps.getD 4 undef = .bool true := hok 16 _ 4 rfl rfl
            have HEv : Hid (P (.returned (.bool true)) v) := Lib.hid (HEnd.out v (HBE.out.trans ((HEg.out.trans (Below.mono hst HEg.out.size)).mono (by have := HBE.out.size; have := HRb.out; omega))))
            clear hst
            obtain ⟨uu, hu, hzz⟩ := Go.Proofs.Ytjlljkdlgkociaa.R.agree_frame [25, 26, 27, 28, 29, 30, 31, 32, 33, 34, 35, 36, 37, 38, 39, 40, 4] rfl hag
            have e4 := (hu 4).trans d4
            subst hzz
            simp only [List.foldl_cons, List.foldl_nil]
            rw [e4]
            clear e4 d4 hu hag hok
            try dsimp only [Exit.then]
            simp only [List.setIfInBounds_toArray, List.set_cons_succ, List.set_cons_zero]
            generalize uu 25 = u25', uu 26 = u26', uu 27 = u27', uu 28 = u28', uu 29 = u29', uu 30 = u30', uu 31 = u31', uu 32 = u32', uu 33 = u33', uu 34 = u34', uu 35 = u35', uu 36 = u36', uu 37 = u37', uu 38 = u38', uu 39 = u39', uu 40 = u40'
            clear uu
            go_wp2_with fail
            exact HEv.out
        · have HPq2 : Hid ((s1p.toList == s2p.toList) = D) := Lib.hid (HPq.out (by simp) (by simp))
          clear HKb2
          go_upto_region 7 with fail
          refine Go.Proofs.Ytjlljkdlgkociaa.R.wp_region_due [] [0, 0, 0, 0, 0, 0, 0, 0, 0, 0, 0, 0, 0, 0, 0, 0, 0, 0, 0] (by kernel_rfl) (fun _ _ u => Below wg.heap.size wg u) (fun u u2 => Below u.heap.size u u2) (ApOk7tt S1 S2 c1 c2 c3 c4 c5 c6 g1 g2 g3 g4 g5 g6 x1 x2 x3 x4 x5 x6 y1 y2 y3 y4 y5 y6 D s1p s2p) (by rfl) (by kernel_rfl) (by kernel_rfl) (by kernel_rfl) (by kernel_rfl) ?hcong ?hOk ?hop ?hdone ?h0
          case hcong => exact fun k f f2 u hs hst => hst
          case hOk => intro i u w1 w2 h hr; unfold ApOk7tt at h ⊢; split <;> first | exact True.intro | exact h
          case h0 => exact (Below.refl _ _).drew
          case hop =>
            refine ⟨?_, ?_, ?_, ?_, ?_, ?_, ?_, ?_, ?_, ?_, ?_, ?_, ?_, ?_, ?_, ?_, ?_, ?_, ?_, trivial⟩
            · intro k z v hk hst hag hdep
              refine .inl ⟨rfl, fun K hK => ?_⟩
              have d2 : z.tmps.getD 2 undef = .pointer (some ⟨rb, 0, none⟩) := hag.2.2 2 (by kernel_rfl)
              have e2 := d2
              rw [Array.getD_eq_getD_getElem?] at e2
              have hb : Below wg.heap.size wg v := hst
              have hz := (HZE.out v (HEg.out.trans (hb.mono HEg.out.size))).1
              have lc0 : v.cell? ⟨rb, 0, none⟩ = some (.int .i64 S1.k) := by rw [cell_block hz]; rfl
              have lc1 : v.cell? ⟨rb, 1, none⟩ = some (.int .i64 S1.w) := by rw [cell_block hz]; rfl
              have lc2 : v.cell? ⟨rb, 2, none⟩ = some (.int .i64 S1.h) := by rw [cell_block hz]; rfl
              have lc3 : v.cell? ⟨rb, 3, none⟩ = some (.int .i64 S1.x) := by rw [cell_block hz]; rfl
              have lc4 : v.cell? ⟨rb, 4, none⟩ = some (.int .i64 S1.y) := by rw [cell_block hz]; rfl
              have lc5 : v.cell? ⟨rb, 5, none⟩ = some (.string S1.t) := by rw [cell_block hz]; rfl
              have lc6 : v.cell? ⟨rb, 6, none⟩ = some (.slice c1 c2 c3) := by rw [cell_block hz]; rfl
              have lc7 : v.cell? ⟨rb, 7, none⟩ = some (.int .i64 S1.n) := by rw [cell_block hz]; rfl
              have lc8 : v.cell? ⟨rb, 8, none⟩ = some (.int .i64 S1.c) := by rw [cell_block hz]; rfl
              have lc9 : v.cell? ⟨rb, 9, none⟩ = some (.slice c4 c5 c6) := by rw [cell_block hz]; rfl
              clear hb hz
              have HSt := Lib.hid hst
              clear hdep hag hst
              go_simp
              exact hK _ _ (Below.refl _ _) rfl HSt.out
            · intro k z v hk hst hag hdep
              refine .inl ⟨rfl, fun K hK => ?_⟩
              have d3 : z.tmps.getD 3 undef = .pointer (some ⟨rb + 1, 0, none⟩) := hag.2.2 3 (by kernel_rfl)
              have e3 := d3
              rw [Array.getD_eq_getD_getElem?] at e3
              have hb : Below wg.heap.size wg v := hst
              have hz := (HZE.out v (HEg.out.trans (hb.mono HEg.out.size))).2.1
              have lc0 : v.cell? ⟨rb + 1, 0, none⟩ = some (.int .i64 S2.k) := by rw [cell_block hz]; rfl
              have lc1 : v.cell? ⟨rb + 1, 1, none⟩ = some (.int .i64 S2.w) := by rw [cell_block hz]; rfl
              have lc2 : v.cell? ⟨rb + 1, 2, none⟩ = some (.int .i64 S2.h) := by rw [cell_block hz]; rfl
              have lc3 : v.cell? ⟨rb + 1, 3, none⟩ = some (.int .i64 S2.x) := by rw [cell_block hz]; rfl
              have lc4 : v.cell? ⟨rb + 1, 4, none⟩ = some (.int .i64 S2.y) := by rw [cell_block hz]; rfl
              have lc5 : v.cell? ⟨rb + 1, 5, none⟩ = some (.string S2.t) := by rw [cell_block hz]; rfl
              have lc6 : v.cell? ⟨rb + 1, 6, none⟩ = some (.slice g1 g2 g3) := by rw [cell_block hz]; rfl
              have lc7 : v.cell? ⟨rb + 1, 7, none⟩ = some (.int .i64 S2.n) := by rw [cell_block hz]; rfl
              have lc8 : v.cell? ⟨rb + 1, 8, none⟩ = some (.int .i64 S2.c) := by rw [cell_block hz]; rfl
              have lc9 : v.cell? ⟨rb + 1, 9, none⟩ = some (.slice g4 g5 g6) := by rw [cell_block hz]; rfl
              clear hb hz
              have HSt := Lib.hid hst
              clear hdep hag hst
              go_simp
              exact hK _ _ (Below.refl _ _) rfl HSt.out
            · intro k z v hk hst hag hdep
              refine .inl ⟨rfl, fun K hK => ?_⟩
              have d41 : z.tmps.getD 41 undef = .agg #[.int .i64 S1.k, .int .i64 S1.w, .int .i64 S1.h, .int .i64 S1.x, .int .i64 S1.y, .string S1.t, .slice c1 c2 c3, .int .i64 S1.n, .int .i64 S1.c, .slice c4 c5 c6] := hdep { on := 0, ground := .data } (by simp) rfl _ _ rfl rfl
              have e41 := d41
              rw [Array.getD_eq_getD_getElem?] at e41
              have d42 : z.tmps.getD 42 undef = .agg #[.int .i64 S2.k, .int .i64 S2.w, .int .i64 S2.h, .int .i64 S2.x, .int .i64 S2.y, .string S2.t, .slice g1 g2 g3, .int .i64 S2.n, .int .i64 S2.c, .slice g4 g5 g6] := hdep { on := 1, ground := .data } (by simp) rfl _ _ rfl rfl
              have e42 := d42
              rw [Array.getD_eq_getD_getElem?] at e42
              have hb : Below wg.heap.size wg v := hst
              have HC := Lib.hid (HSm.out v (HEg.out.trans (hb.mono HEg.out.size)))
              have HBv := Lib.hid hb
              clear hdep hag hst hb
              go_simp
              refine HC.out.mono ?_
              rintro e w' ⟨rfl, h9⟩
              exact hK _ _ h9 rfl (HBv.out.trans (h9.mono HBv.out.size))
            · intro k z v hk hst hag hdep
              refine .inl ⟨rfl, fun K hK => ?_⟩
              have d2 : z.tmps.getD 2 undef = .pointer (some ⟨rb, 0, none⟩) := hag.2.2 2 (by kernel_rfl)
              have e2 := d2
              rw [Array.getD_eq_getD_getElem?] at e2
              have hb : Below wg.heap.size wg v := hst
              have hz := (HZE.out v (HEg.out.trans (hb.mono HEg.out.size))).1
              have lc0 : v.cell? ⟨rb, 0, none⟩ = some (.int .i64 S1.k) := by rw [cell_block hz]; rfl
              have lc1 : v.cell? ⟨rb, 1, none⟩ = some (.int .i64 S1.w) := by rw [cell_block hz]; rfl
              have lc2 : v.cell? ⟨rb, 2, none⟩ = some (.int .i64 S1.h) := by rw [cell_block hz]; rfl
              have lc3 : v.cell? ⟨rb, 3, none⟩ = some (.int .i64 S1.x) := by rw [cell_block hz]; rfl
              have lc4 : v.cell? ⟨rb, 4, none⟩ = some (.int .i64 S1.y) := by rw [cell_block hz]; rfl
              have lc5 : v.cell? ⟨rb, 5, none⟩ = some (.string S1.t) := by rw [cell_block hz]; rfl
              have lc6 : v.cell? ⟨rb, 6, none⟩ = some (.slice c1 c2 c3) := by rw [cell_block hz]; rfl
              have lc7 : v.cell? ⟨rb, 7, none⟩ = some (.int .i64 S1.n) := by rw [cell_block hz]; rfl
              have lc8 : v.cell? ⟨rb, 8, none⟩ = some (.int .i64 S1.c) := by rw [cell_block hz]; rfl
              have lc9 : v.cell? ⟨rb, 9, none⟩ = some (.slice c4 c5 c6) := by rw [cell_block hz]; rfl
              clear hb hz
              have HSt := Lib.hid hst
              clear hdep hag hst
              go_simp
              exact hK _ _ (Below.refl _ _) rfl HSt.out
            · intro k z v hk hst hag hdep
              refine .inl ⟨rfl, fun K hK => ?_⟩
              have d6 : z.tmps.getD 6 undef = .pointer (some ⟨p6, 0, none⟩) := hag.2.2 6 (by kernel_rfl)
              have e6 := d6
              rw [Array.getD_eq_getD_getElem?] at e6
              have hb : Below wg.heap.size wg v := hst
              have hz := (HZE.out v (HEg.out.trans (hb.mono HEg.out.size))).2.2.2
              have lc0 : v.cell? ⟨p6, 0, none⟩ = some (.int .i64 S2.k) := by rw [cell_block hz]; rfl
              have lc1 : v.cell? ⟨p6, 1, none⟩ = some (.int .i64 S2.w) := by rw [cell_block hz]; rfl
              have lc2 : v.cell? ⟨p6, 2, none⟩ = some (.int .i64 S2.h) := by rw [cell_block hz]; rfl
              have lc3 : v.cell? ⟨p6, 3, none⟩ = some (.int .i64 S2.x) := by rw [cell_block hz]; rfl
              have lc4 : v.cell? ⟨p6, 4, none⟩ = some (.int .i64 S2.y) := by rw [cell_block hz]; rfl
              have lc5 : v.cell? ⟨p6, 5, none⟩ = some (.string S2.t) := by rw [cell_block hz]; rfl
              have lc6 : v.cell? ⟨p6, 6, none⟩ = some (.slice y1 y2 y3) := by rw [cell_block hz]; rfl
              have lc7 : v.cell? ⟨p6, 7, none⟩ = some (.int .i64 S2.n) := by rw [cell_block hz]; rfl
              have lc8 : v.cell? ⟨p6, 8, none⟩ = some (.int .i64 S2.c) := by rw [cell_block hz]; rfl
              have lc9 : v.cell? ⟨p6, 9, none⟩ = some (.slice y4 y5 y6) := by rw [cell_block hz]; rfl
              clear hb hz
              have HSt := Lib.hid hst
              clear hdep hag hst
              go_simp
              exact hK _ _ (Below.refl _ _) rfl HSt.out
            · intro k z v hk hst hag hdep
              refine .inl ⟨rfl, fun K hK => ?_⟩
              have d44 : z.tmps.getD 44 undef = .agg #[.int .i64 S1.k, .int .i64 S1.w, .int .i64 S1.h, .int .i64 S1.x, .int .i64 S1.y, .string S1.t, .slice c1 c2 c3, .int .i64 S1.n, .int .i64 S1.c, .slice c4 c5 c6] := hdep { on := 3, ground := .data } (by simp) rfl _ _ rfl rfl
              have e44 := d44
              rw [Array.getD_eq_getD_getElem?] at e44
              have d45 : z.tmps.getD 45 undef = .agg #[.int .i64 S2.k, .int .i64 S2.w, .int .i64 S2.h, .int .i64 S2.x, .int .i64 S2.y, .string S2.t, .slice y1 y2 y3, .int .i64 S2.n, .int .i64 S2.c, .slice y4 y5 y6] := hdep { on := 4, ground := .data } (by simp) rfl _ _ rfl rfl
              have e45 := d45
              rw [Array.getD_eq_getD_getElem?] at e45
              have hb : Below wg.heap.size wg v := hst
              have HC := Lib.hid (HIs.out v (HEg.out.trans (hb.mono HEg.out.size)))
              have HBv := Lib.hid hb
              clear hdep hag hst hb
              go_simp
              refine HC.out.mono ?_
              rintro e w' ⟨rfl, h9⟩
              exact hK _ _ h9 rfl (HBv.out.trans (h9.mono HBv.out.size))
            · intro k z v hk hst hag hdep
              refine .inl ⟨rfl, fun K hK => ?_⟩
              have d43 : z.tmps.getD 43 undef = .bool D := hdep { on := 2, ground := .data } (by simp) rfl _ _ rfl rfl
              have e43 := d43
              rw [Array.getD_eq_getD_getElem?] at e43
              have d46 : z.tmps.getD 46 undef = .bool D := hdep { on := 5, ground := .data } (by simp) rfl _ _ rfl rfl
              have e46 := d46
              rw [Array.getD_eq_getD_getElem?] at e46
              have HSt := Lib.hid hst
              clear hdep hag hst
              go_simp
              exact hK _ _ (Below.refl _ _) rfl HSt.out
            · intro k z v hk hst hag hdep
              refine .inl ⟨rfl, fun K hK => ?_⟩
              have d47 : z.tmps.getD 47 undef = .bool true := hdep { on := 6, ground := .data } (by simp) rfl _ _ rfl rfl
              have e47 := d47
              rw [Array.getD_eq_getD_getElem?] at e47
              have HSt := Lib.hid hst
              clear hdep hag hst
              go_simp
              exact hK _ _ (Below.refl _ _) rfl HSt.out
            · intro k z v hk hst hag hdep
              have dg : ApOk7tt S1 S2 c1 c2 c3 c4 c5 c6 g1 g2 g3 g4 g5 g6 x1 x2 x3 x4 x5 x6 y1 y2 y3 y4 y5 y6 D s1p s2p 7 (z.tmps.getD 48 undef) v := hdep { on := 7, ground := .guard } (by simp) rfl _ _ rfl rfl
              simp only [ApOk7tt] at dg
              refine .inl ⟨Go.Proofs.Ytjlljkdlgkociaa.R.wanted_of (j := 7) rfl rfl rfl dg (by rw [hag.2.1]; show 48 < 59; decide), fun K hK => ?_⟩
              have d2 : z.tmps.getD 2 undef = .pointer (some ⟨rb, 0, none⟩) := hag.2.2 2 (by kernel_rfl)
              have e2 := d2
              rw [Array.getD_eq_getD_getElem?] at e2
              have hb : Below wg.heap.size wg v := hst
              have hz := (HZE.out v (HEg.out.trans (hb.mono HEg.out.size))).1
              have lc0 : v.cell? ⟨rb, 0, none⟩ = some (.int .i64 S1.k) := by rw [cell_block hz]; rfl
              have lc1 : v.cell? ⟨rb, 1, none⟩ = some (.int .i64 S1.w) := by rw [cell_block hz]; rfl
              have lc2 : v.cell? ⟨rb, 2, none⟩ = some (.int .i64 S1.h) := by rw [cell_block hz]; rfl
              have lc3 : v.cell? ⟨rb, 3, none⟩ = some (.int .i64 S1.x) := by rw [cell_block hz]; rfl
              have lc4 : v.cell? ⟨rb, 4, none⟩ = some (.int .i64 S1.y) := by rw [cell_block hz]; rfl
              have lc5 : v.cell? ⟨rb, 5, none⟩ = some (.string S1.t) := by rw [cell_block hz]; rfl
              have lc6 : v.cell? ⟨rb, 6, none⟩ = some (.slice c1 c2 c3) := by rw [cell_block hz]; rfl
              have lc7 : v.cell? ⟨rb, 7, none⟩ = some (.int .i64 S1.n) := by rw [cell_block hz]; rfl
              have lc8 : v.cell? ⟨rb, 8, none⟩ = some (.int .i64 S1.c) := by rw [cell_block hz]; rfl
              have lc9 : v.cell? ⟨rb, 9, none⟩ = some (.slice c4 c5 c6) := by rw [cell_block hz]; rfl
              clear hb hz
              have HSt := Lib.hid hst
              clear hdep hag hst
              go_simp
              exact hK _ _ (Below.refl _ _) rfl HSt.out
            · intro k z v hk hst hag hdep
              have dg : ApOk7tt S1 S2 c1 c2 c3 c4 c5 c6 g1 g2 g3 g4 g5 g6 x1 x2 x3 x4 x5 x6 y1 y2 y3 y4 y5 y6 D s1p s2p 7 (z.tmps.getD 48 undef) v := hdep { on := 7, ground := .guard } (by simp) rfl _ _ rfl rfl
              simp only [ApOk7tt] at dg
              refine .inl ⟨Go.Proofs.Ytjlljkdlgkociaa.R.wanted_of (j := 7) rfl rfl rfl dg (by rw [hag.2.1]; show 48 < 59; decide), fun K hK => ?_⟩
              have d49 : z.tmps.getD 49 undef = .agg #[.int .i64 S1.k, .int .i64 S1.w, .int .i64 S1.h, .int .i64 S1.x, .int .i64 S1.y, .string S1.t, .slice c1 c2 c3, .int .i64 S1.n, .int .i64 S1.c, .slice c4 c5 c6] := hdep { on := 8, ground := .data } (by simp) rfl _ _ rfl rfl
              have e49 := d49
              rw [Array.getD_eq_getD_getElem?] at e49
              have hb : Below wg.heap.size wg v := hst
              have HC := Lib.hid (HPk1.out v (HEg.out.trans (hb.mono HEg.out.size)))
              have HBv := Lib.hid hb
              clear hdep hag hst hb
              go_simp
              refine HC.out.mono ?_
              rintro e w' ⟨rfl, h9⟩
              exact hK _ _ h9 rfl (HBv.out.trans (h9.mono HBv.out.size))
            · intro k z v hk hst hag hdep
              have dg : ApOk7tt S1 S2 c1 c2 c3 c4 c5 c6 g1 g2 g3 g4 g5 g6 x1 x2 x3 x4 x5 x6 y1 y2 y3 y4 y5 y6 D s1p s2p 7 (z.tmps.getD 48 undef) v := hdep { on := 7, ground := .guard } (by simp) rfl _ _ rfl rfl
              simp only [ApOk7tt] at dg
              refine .inl ⟨Go.Proofs.Ytjlljkdlgkociaa.R.wanted_of (j := 7) rfl rfl rfl dg (by rw [hag.2.1]; show 48 < 59; decide), fun K hK => ?_⟩
              have d3 : z.tmps.getD 3 undef = .pointer (some ⟨rb + 1, 0, none⟩) := hag.2.2 3 (by kernel_rfl)
              have e3 := d3
              rw [Array.getD_eq_getD_getElem?] at e3
              have hb : Below wg.heap.size wg v := hst
              have hz := (HZE.out v (HEg.out.trans (hb.mono HEg.out.size))).2.1
              have lc0 : v.cell? ⟨rb + 1, 0, none⟩ = some (.int .i64 S2.k) := by rw [cell_block hz]; rfl
              have lc1 : v.cell? ⟨rb + 1, 1, none⟩ = some (.int .i64 S2.w) := by rw [cell_block hz]; rfl
              have lc2 : v.cell? ⟨rb + 1, 2, none⟩ = some (.int .i64 S2.h) := by rw [cell_block hz]; rfl
              have lc3 : v.cell? ⟨rb + 1, 3, none⟩ = some (.int .i64 S2.x) := by rw [cell_block hz]; rfl
              have lc4 : v.cell? ⟨rb + 1, 4, none⟩ = some (.int .i64 S2.y) := by rw [cell_block hz]; rfl
              have lc5 : v.cell? ⟨rb + 1, 5, none⟩ = some (.string S2.t) := by rw [cell_block hz]; rfl
              have lc6 : v.cell? ⟨rb + 1, 6, none⟩ = some (.slice g1 g2 g3) := by rw [cell_block hz]; rfl
              have lc7 : v.cell? ⟨rb + 1, 7, none⟩ = some (.int .i64 S2.n) := by rw [cell_block hz]; rfl
              have lc8 : v.cell? ⟨rb + 1, 8, none⟩ = some (.int .i64 S2.c) := by rw [cell_block hz]; rfl
              have lc9 : v.cell? ⟨rb + 1, 9, none⟩ = some (.slice g4 g5 g6) := by rw [cell_block hz]; rfl
              clear hb hz
              have HSt := Lib.hid hst
              clear hdep hag hst
              go_simp
              exact hK _ _ (Below.refl _ _) rfl HSt.out
            · intro k z v hk hst hag hdep
              have dg : ApOk7tt S1 S2 c1 c2 c3 c4 c5 c6 g1 g2 g3 g4 g5 g6 x1 x2 x3 x4 x5 x6 y1 y2 y3 y4 y5 y6 D s1p s2p 7 (z.tmps.getD 48 undef) v := hdep { on := 7, ground := .guard } (by simp) rfl _ _ rfl rfl
              simp only [ApOk7tt] at dg
              refine .inl ⟨Go.Proofs.Ytjlljkdlgkociaa.R.wanted_of (j := 7) rfl rfl rfl dg (by rw [hag.2.1]; show 48 < 59; decide), fun K hK => ?_⟩
              have d51 : z.tmps.getD 51 undef = .agg #[.int .i64 S2.k, .int .i64 S2.w, .int .i64 S2.h, .int .i64 S2.x, .int .i64 S2.y, .string S2.t, .slice g1 g2 g3, .int .i64 S2.n, .int .i64 S2.c, .slice g4 g5 g6] := hdep { on := 10, ground := .data } (by simp) rfl _ _ rfl rfl
              have e51 := d51
              rw [Array.getD_eq_getD_getElem?] at e51
              have hb : Below wg.heap.size wg v := hst
              have HC := Lib.hid (HPk2.out v (HEg.out.trans (hb.mono HEg.out.size)))
              have HBv := Lib.hid hb
              clear hdep hag hst hb
              go_simp
              refine HC.out.mono ?_
              rintro e w' ⟨rfl, h9⟩
              exact hK _ _ h9 rfl (HBv.out.trans (h9.mono HBv.out.size))
            · intro k z v hk hst hag hdep
              have dg : ApOk7tt S1 S2 c1 c2 c3 c4 c5 c6 g1 g2 g3 g4 g5 g6 x1 x2 x3 x4 x5 x6 y1 y2 y3 y4 y5 y6 D s1p s2p 7 (z.tmps.getD 48 undef) v := hdep { on := 7, ground := .guard } (by simp) rfl _ _ rfl rfl
              simp only [ApOk7tt] at dg
              refine .inl ⟨Go.Proofs.Ytjlljkdlgkociaa.R.wanted_of (j := 7) rfl rfl rfl dg (by rw [hag.2.1]; show 48 < 59; decide), fun K hK => ?_⟩
              have d50 : z.tmps.getD 50 undef = .string s1p := hdep { on := 9, ground := .data } (by simp) rfl _ _ rfl rfl
              have e50 := d50
              rw [Array.getD_eq_getD_getElem?] at e50
              have d52 : z.tmps.getD 52 undef = .string s2p := hdep { on := 11, ground := .data } (by simp) rfl _ _ rfl rfl
              have e52 := d52
              rw [Array.getD_eq_getD_getElem?] at e52
              have hpq := HPq2.out
              have HSt := Lib.hid hst
              clear hdep hag hst
              go_simp
              exact hK _ _ (Below.refl _ _) rfl HSt.out
            · intro k z v hk hst hag hdep
              have dg : ApOk7tt S1 S2 c1 c2 c3 c4 c5 c6 g1 g2 g3 g4 g5 g6 x1 x2 x3 x4 x5 x6 y1 y2 y3 y4 y5 y6 D s1p s2p 7 (z.tmps.getD 48 undef) v := hdep { on := 7, ground := .guard } (by simp) rfl _ _ rfl rfl
              simp only [ApOk7tt] at dg
              refine .inl ⟨Go.Proofs.Ytjlljkdlgkociaa.R.wanted_of (j := 7) rfl rfl rfl dg (by rw [hag.2.1]; show 48 < 59; decide), fun K hK => ?_⟩
              have d2 : z.tmps.getD 2 undef = .pointer (some ⟨rb, 0, none⟩) := hag.2.2 2 (by kernel_rfl)
              have e2 := d2
              rw [Array.getD_eq_getD_getElem?] at e2
              have hb : Below wg.heap.size wg v := hst
              have hz := (HZE.out v (HEg.out.trans (hb.mono HEg.out.size))).1
              have lc0 : v.cell? ⟨rb, 0, none⟩ = some (.int .i64 S1.k) := by rw [cell_block hz]; rfl
              have lc1 : v.cell? ⟨rb, 1, none⟩ = some (.int .i64 S1.w) := by rw [cell_block hz]; rfl
              have lc2 : v.cell? ⟨rb, 2, none⟩ = some (.int .i64 S1.h) := by rw [cell_block hz]; rfl
              have lc3 : v.cell? ⟨rb, 3, none⟩ = some (.int .i64 S1.x) := by rw [cell_block hz]; rfl
              have lc4 : v.cell? ⟨rb, 4, none⟩ = some (.int .i64 S1.y) := by rw [cell_block hz]; rfl
              have lc5 : v.cell? ⟨rb, 5, none⟩ = some (.string S1.t) := by rw [cell_block hz]; rfl
              have lc6 : v.cell? ⟨rb, 6, none⟩ = some (.slice c1 c2 c3) := by rw [cell_block hz]; rfl
              have lc7 : v.cell? ⟨rb, 7, none⟩ = some (.int .i64 S1.n) := by rw [cell_block hz]; rfl
              have lc8 : v.cell? ⟨rb, 8, none⟩ = some (.int .i64 S1.c) := by rw [cell_block hz]; rfl
              have lc9 : v.cell? ⟨rb, 9, none⟩ = some (.slice c4 c5 c6) := by rw [cell_block hz]; rfl
              clear hb hz
              have HSt := Lib.hid hst
              clear hdep hag hst
              go_simp
              exact hK _ _ (Below.refl _ _) rfl HSt.out
            · intro k z v hk hst hag hdep
              have dg : ApOk7tt S1 S2 c1 c2 c3 c4 c5 c6 g1 g2 g3 g4 g5 g6 x1 x2 x3 x4 x5 x6 y1 y2 y3 y4 y5 y6 D s1p s2p 7 (z.tmps.getD 48 undef) v := hdep { on := 7, ground := .guard } (by simp) rfl _ _ rfl rfl
              simp only [ApOk7tt] at dg
              refine .inl ⟨Go.Proofs.Ytjlljkdlgkociaa.R.wanted_of (j := 7) rfl rfl rfl dg (by rw [hag.2.1]; show 48 < 59; decide), fun K hK => ?_⟩
              have d3 : z.tmps.getD 3 undef = .pointer (some ⟨rb + 1, 0, none⟩) := hag.2.2 3 (by kernel_rfl)
              have e3 := d3
              rw [Array.getD_eq_getD_getElem?] at e3
              have hb : Below wg.heap.size wg v := hst
              have hz := (HZE.out v (HEg.out.trans (hb.mono HEg.out.size))).2.1
              have lc0 : v.cell? ⟨rb + 1, 0, none⟩ = some (.int .i64 S2.k) := by rw [cell_block hz]; rfl
              have lc1 : v.cell? ⟨rb + 1, 1, none⟩ = some (.int .i64 S2.w) := by rw [cell_block hz]; rfl
              have lc2 : v.cell? ⟨rb + 1, 2, none⟩ = some (.int .i64 S2.h) := by rw [cell_block hz]; rfl
              have lc3 : v.cell? ⟨rb + 1, 3, none⟩ = some (.int .i64 S2.x) := by rw [cell_block hz]; rfl
              have lc4 : v.cell? ⟨rb + 1, 4, none⟩ = some (.int .i64 S2.y) := by rw [cell_block hz]; rfl
              have lc5 : v.cell? ⟨rb + 1, 5, none⟩ = some (.string S2.t) := by rw [cell_block hz]; rfl
              have lc6 : v.cell? ⟨rb + 1, 6, none⟩ = some (.slice g1 g2 g3) := by rw [cell_block hz]; rfl
              have lc7 : v.cell? ⟨rb + 1, 7, none⟩ = some (.int .i64 S2.n) := by rw [cell_block hz]; rfl
              have lc8 : v.cell? ⟨rb + 1, 8, none⟩ = some (.int .i64 S2.c) := by rw [cell_block hz]; rfl
              have lc9 : v.cell? ⟨rb + 1, 9, none⟩ = some (.slice g4 g5 g6) := by rw [cell_block hz]; rfl
              clear hb hz
              have HSt := Lib.hid hst
              clear hdep hag hst
              go_simp
              exact hK _ _ (Below.refl _ _) rfl HSt.out
            · intro k z v hk hst hag hdep
              have dg : ApOk7tt S1 S2 c1 c2 c3 c4 c5 c6 g1 g2 g3 g4 g5 g6 x1 x2 x3 x4 x5 x6 y1 y2 y3 y4 y5 y6 D s1p s2p 7 (z.tmps.getD 48 undef) v := hdep { on := 7, ground := .guard } (by simp) rfl _ _ rfl rfl
              simp only [ApOk7tt] at dg
              refine .inl ⟨Go.Proofs.Ytjlljkdlgkociaa.R.wanted_of (j := 7) rfl rfl rfl dg (by rw [hag.2.1]; show 48 < 59; decide), fun K hK => ?_⟩
              have d54 : z.tmps.getD 54 undef = .agg #[.int .i64 S1.k, .int .i64 S1.w, .int .i64 S1.h, .int .i64 S1.x, .int .i64 S1.y, .string S1.t, .slice c1 c2 c3, .int .i64 S1.n, .int .i64 S1.c, .slice c4 c5 c6] := hdep { on := 13, ground := .data } (by simp) rfl _ _ rfl rfl
              have e54 := d54
              rw [Array.getD_eq_getD_getElem?] at e54
              have d55 : z.tmps.getD 55 undef = .agg #[.int .i64 S2.k, .int .i64 S2.w, .int .i64 S2.h, .int .i64 S2.x, .int .i64 S2.y, .string S2.t, .slice g1 g2 g3, .int .i64 S2.n, .int .i64 S2.c, .slice g4 g5 g6] := hdep { on := 14, ground := .data } (by simp) rfl _ _ rfl rfl
              have e55 := d55
              rw [Array.getD_eq_getD_getElem?] at e55
              have hb : Below wg.heap.size wg v := hst
              have HC := Lib.hid (HSm.out v (HEg.out.trans (hb.mono HEg.out.size)))
              have HBv := Lib.hid hb
              clear hdep hag hst hb
              go_simp
              refine HC.out.mono ?_
              rintro e w' ⟨rfl, h9⟩
              exact hK _ _ h9 rfl (HBv.out.trans (h9.mono HBv.out.size))
            · intro k z v hk hst hag hdep
              have dg : ApOk7tt S1 S2 c1 c2 c3 c4 c5 c6 g1 g2 g3 g4 g5 g6 x1 x2 x3 x4 x5 x6 y1 y2 y3 y4 y5 y6 D s1p s2p 7 (z.tmps.getD 48 undef) v := hdep { on := 7, ground := .guard } (by simp) rfl _ _ rfl rfl
              simp only [ApOk7tt] at dg
              refine .inl ⟨Go.Proofs.Ytjlljkdlgkociaa.R.wanted_of (j := 7) rfl rfl rfl dg (by rw [hag.2.1]; show 48 < 59; decide), fun K hK => ?_⟩
              have d53 : z.tmps.getD 53 undef = .bool D := hdep { on := 12, ground := .data } (by simp) rfl _ _ rfl rfl
              have e53 := d53
              rw [Array.getD_eq_getD_getElem?] at e53
              have d56 : z.tmps.getD 56 undef = .bool D := hdep { on := 15, ground := .data } (by simp) rfl _ _ rfl rfl
              have e56 := d56
              rw [Array.getD_eq_getD_getElem?] at e56
              have HSt := Lib.hid hst
              clear hdep hag hst
              go_simp
              exact hK _ _ (Below.refl _ _) rfl HSt.out
            · intro k z v hk hst hag hdep
              refine .inl ⟨rfl, fun K hK => ?_⟩
              have d48 : z.tmps.getD 48 undef = .bool true := hdep { on := 7, ground := .data } (by simp) rfl _ _ rfl rfl
              have e48 := d48
              rw [Array.getD_eq_getD_getElem?] at e48
              have d57 : z.tmps.getD 57 undef = .bool true := hdep { on := 16, ground := .data } (by simp) rfl _ _ rfl rfl
              have e57 := d57
              rw [Array.getD_eq_getD_getElem?] at e57
              have HSt := Lib.hid hst
              clear hdep hag hst
              go_simp
              exact hK _ _ (Below.refl _ _) rfl HSt.out
            · intro k z v hk hst hag hdep
              refine .inl ⟨rfl, fun K hK => ?_⟩
              have d58 : z.tmps.getD 58 undef = .bool true := hdep { on := 17, ground := .data } (by simp) rfl _ _ rfl rfl
              have e58 := d58
              rw [Array.getD_eq_getD_getElem?] at e58
              have HSt := Lib.hid hst
              clear hdep hag hst
              go_simp
              exact hK _ _ (Below.refl _ _) rfl HSt.out
          case hdone =>
            intro z v hst hag hok
            have d4 : z.tmps.getD 4 undef = .bool true := hok 18 _ 4 rfl rfl
            have HEv : Hid (P (.returned (.bool true)) v) := Lib.hid (HEnd.out v (HBE.out.trans ((HEg.out.trans (Below.mono hst HEg.out.size)).mono (by have := HBE.out.size; have := HRb.out; omega))))
            clear hst
            obtain ⟨uu, hu, hzz⟩ := Go.Proofs.Ytjlljkdlgkociaa.R.agree_frame [41, 42, 43, 44, 45, 46, 47, 48, 49, 50, 51, 52, 53, 54, 55, 56, 57, 58, 4] rfl hag
            have e4 := (hu 4).trans d4
            subst hzz
            simp only [List.foldl_cons, List.foldl_nil]
            rw [e4]
            clear e4 d4 hu hag hok
            try dsimp only [Exit.then]
            simp only [List.setIfInBounds_toArray, List.set_cons_succ, List.set_cons_zero]
            generalize uu 41 = u41', uu 42 = u42', uu 43 = u43', uu 44 = u44', uu 45 = u45', uu 46 = u46', uu 47 = u47', uu 48 = u48', uu 49 = u49', uu 50 = u50', uu 51 = u51', uu 52 = u52', uu 53 = u53', uu 54 = u54', uu 55 = u55', uu 56 = u56', uu 57 = u57', uu 58 = u58'
            clear uu
            go_wp2_with fail
            exact HEv.out
end Go.Proofs.Ytjlljkdlgkociaa.K
