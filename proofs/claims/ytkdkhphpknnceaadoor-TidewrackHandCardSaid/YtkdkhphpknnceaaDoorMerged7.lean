/- A cache that a law has made; the law's awake. -/
import Derived.Test.YtkdkhphpknnceaaDoorCSpn
import Derived.Test.YtkdkhphpknnceaaDoorHAdd
import Derived.Test.YtkdkhphpknnceaaDoorRelP
import Derived.Deep.Slices
import Derived.ProofKit
namespace Go.Proofs.YtkdkhphpknnceaaDoor.C
open Go.RowKit Go.Maps Go.Proofs.YtkdkhphpknnceaaDoor.H

def OneC (c : Nat) (x : Ca) (W w : World) : Prop := ∃ M G, Ch c M G x w ∧ (∀ p ∈ M, W.heap.size ≤ p) ∧ Below W.heap.size W w
theorem OneC.below {c : Nat} {x : Ca} {W w w' : World} (h : OneC c x W w) (hb : Below w.heap.size w w') : OneC c x W w' := by
  obtain ⟨M, G, h1, h2, h3⟩ := h
  exact ⟨M, G, h1.below hb, h2, h3.trans (hb.mono h3.size)⟩
theorem OneC.bel {c : Nat} {x : Ca} {W w : World} (h : OneC c x W w) : Below W.heap.size W w := h.choose_spec.choose_spec.2.2
theorem OneC.new (z : Int) (hz : -9223372036854775808 ≤ z ∧ z ≤ 9223372036854775807) (W w : World) (hb : Below W.heap.size W w) : Calls Tryd.prog 4 #[.int .i64 z] w fun r w' => ∃ c, r = .returned (.pointer (some ⟨c, 0, none⟩)) ∧ OneC c ⟨mostN z, []⟩ W w' :=
  (new_any z hz w).mono fun r w' h => by
    obtain ⟨c, M, rfl, h1, h2, h3⟩ := h
    exact ⟨c, rfl, M, [], h1, fun p hp => Nat.le_trans hb.size (h3 p hp), hb.trans (h2.mono hb.size)⟩
theorem OneC.put {c : Nat} {x : Ca} {W w w1 : World} (h : OneC c x W w) (hb1 : Below w.heap.size w w1) (i : Int) (hi : -9223372036854775808 ≤ i ∧ i ≤ 9223372036854775807) (a : Option Addr) (n cc : Nat) (g : List (Int × Int)) (hg : PairsIn .i32 a n cc g w1) (hnl : a = none → cc = 0) (hgl : g.length ≤ 1000000)
    (hga : g ≠ [] → ∀ p o, a = some ⟨p, o, none⟩ → p < W.heap.size ∨ w.heap.size ≤ p) :
    Calls Tryd.prog 6 #[.pointer (some ⟨c, 0, none⟩), .int .i64 i, .slice a n cc] w1 fun r w' => r = .returned (.tuple #[.int .i64 (putC x i g).2.1, .bool (putC x i g).2.2]) ∧ OneC c (putC x i g).1 W w' := by
  obtain ⟨M, G, h1, h2, h3⟩ := h
  refine (put_any i hi a n cc g w1 (h1.below hb1) hg hnl hgl (fun hg0 p o e hm => ?_)).mono ?_
  · rcases hga hg0 p o e with h9 | h9
    · have := h2 p hm; omega
    · have := h1.lt.1 p hm; omega
  · rintro r w' ⟨M', G', rfl, h5, h6, h7, h8⟩
    have hbw : Below W.heap.size W w1 := h3.trans (hb1.mono h3.size)
    exact ⟨rfl, M', G', h5, fun p hp => (h7 p hp).elim (h2 p) (fun h => Nat.le_trans hbw.size h), h6.below h2 hbw hbw.size⟩
theorem OneC.get {c : Nat} {x : Ca} {W w : World} (h : OneC c x W w) (i : Int) (hi : -9223372036854775808 ≤ i ∧ i ≤ 9223372036854775807) :
    Calls Tryd.prog 10 #[.pointer (some ⟨c, 0, none⟩), .int .i64 i] w fun r w' => ∃ a cc, r = .returned (.tuple #[.slice a ((findC x.L i).getD []).length cc, .bool (findC x.L i).isSome]) ∧ PairsIn .i32 a ((findC x.L i).getD []).length cc ((findC x.L i).getD []) w' ∧ OneC c (getC x i) W w' ∧ ∀ p o, a = some ⟨p, o, none⟩ → w.heap.size ≤ p := by
  obtain ⟨M, G, h1, h2, h3⟩ := h
  refine (get_any i hi w h1).mono ?_
  rintro r w' ⟨v, rfl, h4, h5, h6⟩
  obtain ⟨a, cc, rfl, h7, -, h8⟩ := h4.shape
  exact ⟨a, cc, rfl, h7, ⟨M, G, h5, h2, h6.below h2 h3 h3.size⟩, fun p o e => (h4.own p (h8 p o e)).1⟩
theorem OneC.peek {c : Nat} {x : Ca} {W w : World} (h : OneC c x W w) (i : Int) (hi : -9223372036854775808 ≤ i ∧ i ≤ 9223372036854775807) :
    Calls Tryd.prog 28 #[.pointer (some ⟨c, 0, none⟩), .int .i64 i] w fun r w' => ∃ a cc, r = .returned (.tuple #[.slice a ((findC x.L i).getD []).length cc, .bool (findC x.L i).isSome]) ∧ PairsIn .i32 a ((findC x.L i).getD []).length cc ((findC x.L i).getD []) w' ∧ Below w.heap.size w w' ∧ OneC c x W w' := by
  obtain ⟨M, G, h1, h2, h3⟩ := h
  refine (peek_any i hi w h1).mono ?_
  rintro r w' ⟨v, rfl, h4, h5⟩
  obtain ⟨a, cc, rfl, h7, -, h8⟩ := h4.shape
  exact ⟨a, cc, rfl, h7, h5, ⟨M, G, h1.below h5, h2, h3.trans (h5.mono h3.size)⟩⟩
theorem OneC.len {c : Nat} {x : Ca} {W w : World} (h : OneC c x W w) : Calls Tryd.prog 12 #[.pointer (some ⟨c, 0, none⟩)] w fun r w' => r = .returned (.int .i64 (x.L.length : Int)) ∧ w' = w := by
  obtain ⟨M, G, h1, -⟩ := h
  exact len_any w h1
theorem OneC.spans {c : Nat} {x : Ca} {W w : World} (h : OneC c x W w) : Calls Tryd.prog 8 #[.pointer (some ⟨c, 0, none⟩)] w (SpPost (spansC x.L) w) := by
  obtain ⟨M, G, h1, -⟩ := h
  exact cspans_any w h1
theorem no_pairs (rk : IntKind) (w : World) : PairsIn rk none 0 0 [] w := ⟨rfl, Nat.le_refl _, by decide, .inl rfl⟩
def AwkPost (w : World) (r : Ending) (w' : World) : Prop := r = .returned (.bool true) ∧ Below w.heap.size w w'
end Go.Proofs.YtkdkhphpknnceaaDoor.C

/- Cut of a set, of one span. -/
namespace Go.Proofs.YtkdkhphpknnceaaDoor.H
open Go.RowKit Go.Shelf

attribute [local go_sem] Oper.semAt_some

/-- the states of a drawn region with two loud operations -/
def DuoS (C0 : World → Prop) (C2 : Value → World → Prop) (C3 : World → Prop) (s2 : Nat) : Nat → (Nat → Value) → World → Prop
  | 0, _, u => C0 u
  | 1, f, u => C2 (f s2) u
  | _, _, u => C3 u
theorem DuoS.cong {C0 : World → Prop} {C2 : Value → World → Prop} {C3 : World → Prop} {s2 k : Nat} {f f2 : Nat → Value} {u : World} (e2 : k = 1 → f s2 = f2 s2) (h : DuoS C0 C2 C3 s2 k f u) : DuoS C0 C2 C3 s2 k f2 u := by
  match k, h, e2 with
  | 0, h, _ => exact h
  | 1, h, e2 => show C2 (f2 s2) u; rw [← e2 rfl]; exact h
  | _ + 2, h, _ => exact h
theorem DuoS.base {w6 : World} {C2 : Value → World → Prop} {C3 : World → Prop} {s2 k : Nat} {f : Nat → Value} {u : World} (hk : k = 0) (h : DuoS (fun u => Below w6.heap.size w6 u) C2 C3 s2 k f u) : Below w6.heap.size w6 u := by
  subst hk
  exact h
/-- what stands when a span is cut -/
def CutE (b : Nat) (M : List Nat) (out : List Sp) (w : World) (D : Nat) (u : World) : Prop := (∃ M', St b M' out u ∧ KeepB M w u ∧ (∀ p ∈ M', p ∈ M ∨ w.heap.size ≤ p) ∧ ∀ p ∈ M', p ≠ D) ∧ u.heap[D]? = some (.deferred (some []))
theorem CutE.post {b : Nat} {M : List Nat} {out : List Sp} {w W : World} {D : Nat} (h : CutE b M out w D W) (hD : w.heap.size ≤ D) : ChPost b M out w (.returned (.tuple #[])) (W.putObj D (.deferred none)) := by
  obtain ⟨⟨M', ⟨vl, h1⟩, h2, h3, hne⟩, h4⟩ := h
  refine ⟨rfl, M', ⟨vl, h1.moved (by simp) (fun p hp => World.putObj_heap_other (hne p hp))⟩, ?_, h3⟩
  exact h2.two (L := [D]) ⟨rfl, rfl, rfl, by simp, fun i hi hn => World.putObj_heap_other (fun e => hn (by simp [e]))⟩ (fun p hp => .inr (by rw [show p = D by simpa using hp]; exact hD))
end Go.Proofs.YtkdkhphpknnceaaDoor.H

/- Same: are spans alike, pair by pair? -/
namespace Go.Proofs.YtkdkhphpknnceaaDoor.H
open Go.RowKit

end Go.Proofs.YtkdkhphpknnceaaDoor.H

/- The law's awake of spans. -/
namespace Go.Proofs.YtkdkhphpknnceaaDoor.H
open Go.RowKit

theorem ChPost.wide {b : Nat} {M : List Nat} {out : List Sp} {w w1 w' : World} {e : Ending} (h : ChPost b M out w1 e w') (hb : Below w.heap.size w w1) : ChPost b M out w e w' := by
  obtain ⟨he, M', h1, h2, h3⟩ := h
  exact ⟨he, M', h1, (KeepB.of_below hb).trans h2, fun p hp => (h3 p hp).imp id (fun h => Nat.le_trans hb.size h)⟩
theorem alloc_below (w : World) (o : Obj) : Below w.heap.size w (w.alloc o) := (Below.refl _ _).alloc (Nat.le_refl _) _
end Go.Proofs.YtkdkhphpknnceaaDoor.H

/- Spans and acts that were handed in. -/
namespace Go.Proofs.YtkdkhphpknnceaaDoor.H
open Go.RowKit Go.ChangeShapes Go.WideShapes

theorem cI : Tryd.prog.cellsOf 3 = 1 := by kernel_rfl
theorem addN (b off j : Nat) : (⟨b, off, none⟩ : Addr).add j = ⟨b, off + j, none⟩ := by unfold Addr.add; split <;> simp_all
end Go.Proofs.YtkdkhphpknnceaaDoor.H

/- One set, and two sets beside each other, that a law has made. -/
namespace Go.Proofs.YtkdkhphpknnceaaDoor.R
end Go.Proofs.YtkdkhphpknnceaaDoor.R
namespace Go.Proofs.YtkdkhphpknnceaaDoor.H
open Go.RowKit

def One (b : Nat) (l : List Sp) (W w : World) : Prop := ∃ M, St b M l w ∧ (∀ p ∈ M, W.heap.size ≤ p) ∧ Below W.heap.size W w
theorem One.below {b : Nat} {l : List Sp} {W w w' : World} (h : One b l W w) (hb : Below w.heap.size w w') : One b l W w' := by
  obtain ⟨M, h1, h2, h3⟩ := h
  exact ⟨M, h1.below hb, h2, h3.trans (hb.mono h3.size)⟩
theorem One.bel {b : Nat} {l : List Sp} {W w : World} (h : One b l W w) : Below W.heap.size W w := h.choose_spec.2.2
theorem One.act {b : Nat} {l out : List Sp} {W w w1 : World} {f : FuncId} {args : Array Value} (h : One b l W w) (H : ∀ M, St b M l w → Calls Tryd.prog f args w1 (ChPost b M out w)) :
    Calls Tryd.prog f args w1 fun e w' => e = .returned (.tuple #[]) ∧ One b out W w' := by
  obtain ⟨M, hs, hg, hb⟩ := h
  refine (H M hs).mono ?_
  rintro e w' ⟨rfl, M', h1, hk, hM⟩
  exact ⟨rfl, M', h1, fun p hp => (hM p hp).elim (hg p) (fun h => Nat.le_trans hb.size h), hk.below hg hb hb.size⟩
theorem One.see {b : Nat} {l : List Sp} {W w : World} {f : FuncId} {args : Array Value} {Q : Ending → World → Prop} (h : One b l W w) (H : ∀ M, St b M l w → Calls Tryd.prog f args w Q) : Calls Tryd.prog f args w Q := by
  obtain ⟨M, hs, -, -⟩ := h
  exact H M hs
theorem One.new (W : World) : One W.heap.size [] W (W.alloc (.cells #[.slice none 0 0] 34)) :=
  ⟨_, St.new W, (fun p hp => by rw [List.mem_singleton.1 hp]; exact Nat.le_refl _), alloc_below W _⟩
def Two (b d : Nat) (l m : List Sp) (W w : World) : Prop := ∃ M N, St b M l w ∧ St d N m w ∧ (∀ p ∈ M, p ∉ N) ∧ (∀ p ∈ M, W.heap.size ≤ p) ∧ (∀ p ∈ N, W.heap.size ≤ p) ∧ Below W.heap.size W w
theorem Two.swap {b d : Nat} {l m : List Sp} {W w : World} (h : Two b d l m W w) : Two d b m l W w := by
  obtain ⟨M, N, h1, h2, h3, h4, h5, h6⟩ := h
  exact ⟨N, M, h2, h1, fun p hp hm => h3 p hm hp, h5, h4, h6⟩
theorem Two.bel {b d : Nat} {l m : List Sp} {W w : World} (h : Two b d l m W w) : Below W.heap.size W w := by
  obtain ⟨M, N, h1, h2, h3, h4, h5, h6⟩ := h
  exact h6
theorem Two.below {b d : Nat} {l m : List Sp} {W w w' : World} (h : Two b d l m W w) (hb : Below w.heap.size w w') : Two b d l m W w' := by
  obtain ⟨M, N, h1, h2, h3, h4, h5, h6⟩ := h
  exact ⟨M, N, h1.below hb, h2.below hb, h3, h4, h5, h6.trans (hb.mono h6.size)⟩
theorem Two.act {b d : Nat} {l m out : List Sp} {W w w1 : World} {f : FuncId} {args : Array Value} (h : Two b d l m W w) (H : ∀ M, St b M l w → Calls Tryd.prog f args w1 (ChPost b M out w)) :
    Calls Tryd.prog f args w1 fun e w' => e = .returned (.tuple #[]) ∧ Two b d out m W w' := by
  obtain ⟨M, N, hs, ht, hd, hg, hn, hb⟩ := h
  refine (H M hs).mono ?_
  rintro e w' ⟨rfl, M', h1, hk, hM⟩
  refine ⟨rfl, M', N, h1, ht.kept hk (fun p hp hm => hd p hm hp), fun p hp hm => ?_, fun p hp => (hM p hp).elim (hg p) (fun h => Nat.le_trans hb.size h), hn, hk.below hg hb hb.size⟩
  rcases hM p hp with h | h
  · exact hd p h hm
  · exact absurd (ht.lt p hm) (by omega)
theorem Two.see {b d : Nat} {l m : List Sp} {W w : World} {f : FuncId} {args : Array Value} {Q : Ending → World → Prop} (h : Two b d l m W w) (H : ∀ M, St b M l w → Calls Tryd.prog f args w Q) : Calls Tryd.prog f args w Q := by
  obtain ⟨M, N, hs, -⟩ := h
  exact H M hs
theorem St.new' (w : World) (s : Nat) (hs : w.heap.size = s) : St s [s] [] (w.alloc (.cells #[.slice none 0 0] 34)) := by
  subst hs
  exact St.new w
theorem Two.new (W : World) (s : Nat) (hs : W.heap.size = s) : Two s (s + 1) [] [] W ((W.alloc (.cells #[.slice none 0 0] 34)).alloc (.cells #[.slice none 0 0] 34)) := by
  subst hs
  exact ⟨_, _, (St.new W).below (alloc_below _ _), St.new' _ _ (by simp), (by intro p hp hm; rw [List.mem_singleton] at hp hm; omega), (by intro p hp; rw [List.mem_singleton] at hp; omega), (by intro p hp; rw [List.mem_singleton] at hp; omega), (alloc_below W _).alloc (by simp) _⟩
/-- pairs of the first l -/
theorem PairsIn.one {rk : IntKind} {a : Option Addr} {n c : Nat} {l : List Sp} {w : World} (h : PairsIn rk a n c l w) {k : Nat} (hk : k < n) : ∃ g off x, a = some ⟨g, off, none⟩ ∧ g < w.heap.size ∧ l[k]? = some x ∧ w.cell? ⟨g, off + k * 2, none⟩ = some (.int rk x.1) ∧ w.cell? ⟨g, off + k * 2 + 1, none⟩ = some (.int .i64 x.2) := by
  obtain ⟨x, hx⟩ : ∃ x, l[k]? = some x := ⟨_, List.getElem?_eq_getElem (by rw [← h.len]; exact hk)⟩
  obtain ⟨g, off, ha, hg, hi⟩ := h.at_.resolve_left (by intro e; rw [e] at hx; cases hx)
  exact ⟨g, off, x, ha, hg, hx, (hi k x hx).1, (hi k x hx).2⟩
theorem PairsIn.front {rk : IntKind} {a : Option Addr} {n c : Nat} {l : List Sp} {w : World} (h : PairsIn rk a n c l w) {k : Nat} (hk : k ≤ n) : PairsIn rk a k c (l.take k) w := by
  refine ⟨by rw [List.length_take, ← h.len]; omega, Nat.le_trans hk h.fit, h.top, ?_⟩
  rcases h.at_ with e | ⟨b, off, ha, hb, hi⟩
  · exact .inl (by rw [e]; simp)
  · refine .inr ⟨b, off, ha, hb, fun i g hg => ?_⟩
    rw [List.getElem?_take] at hg
    split at hg
    · exact hi i g hg
    · cases hg
theorem addsS_mem (n : Int) : ∀ (xs l : List Sp), Nm l → (mem n (addsS l xs) ↔ mem n l ∨ ∃ x ∈ xs, inx n (cnt x))
  | [], l, _ => by simp [addsS]
  | x :: xs, l, h => by
    show mem n (addsS (addS l x) xs) ↔ _
    rw [addsS_mem n xs (addS l x) (h.add x), addS_mem n h x]
    simp only [List.mem_cons, exists_eq_or_imp]
    constructor
    · rintro ((h | h) | h)
      · exact .inr (.inl h)
      · exact .inl h
      · exact .inr (.inr h)
    · rintro (h | h | h)
      · exact .inl (.inr h)
      · exact .inl (.inl h)
      · exact .inr h
end Go.Proofs.YtkdkhphpknnceaaDoor.H
