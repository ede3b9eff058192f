/- The law's awake of spans. -/
import Derived.Test.YtgagkmlkoeceiaaMerged7
import Derived.Deep.Slices
import Derived.ProofKit
namespace Go.Proofs.Ytgagkmlkoeceiaa.H
open Go.RowKit

theorem alloc_below (w : World) (o : Obj) : Below w.heap.size w (w.alloc o) := (Below.refl _ _).alloc (Nat.le_refl _) _
end Go.Proofs.Ytgagkmlkoeceiaa.H

/- Spans and acts that were handed in. -/
namespace Go.Proofs.Ytgagkmlkoeceiaa.H
open Go.RowKit Go.ChangeShapes Go.WideShapes

theorem cI : Try.prog.cellsOf 3 = 1 := by kernel_rfl
theorem addN (b off j : Nat) : (⟨b, off, none⟩ : Addr).add j = ⟨b, off + j, none⟩ := by unfold Addr.add; split <;> simp_all
end Go.Proofs.Ytgagkmlkoeceiaa.H

/- One set, and two sets beside each other, that a law has made. -/
namespace Go.Proofs.Ytgagkmlkoeceiaa.R
end Go.Proofs.Ytgagkmlkoeceiaa.R
namespace Go.Proofs.Ytgagkmlkoeceiaa.H
open Go.RowKit

def One (b : Nat) (l : List Sp) (W w : World) : Prop := ∃ M, St b M l w ∧ (∀ p ∈ M, W.heap.size ≤ p) ∧ Below W.heap.size W w
theorem One.below {b : Nat} {l : List Sp} {W w w' : World} (h : One b l W w) (hb : Below w.heap.size w w') : One b l W w' := by
  obtain ⟨M, h1, h2, h3⟩ := h
  exact ⟨M, h1.below hb, h2, h3.trans (hb.mono h3.size)⟩
theorem One.bel {b : Nat} {l : List Sp} {W w : World} (h : One b l W w) : Below W.heap.size W w := h.choose_spec.2.2
theorem One.act {b : Nat} {l out : List Sp} {W w w1 : World} {f : FuncId} {args : Array Value} (h : One b l W w) (H : ∀ M, St b M l w → Calls Try.prog f args w1 (ChPost b M out w)) :
    Calls Try.prog f args w1 fun e w' => e = .returned (.tuple #[]) ∧ One b out W w' := by
  obtain ⟨M, hs, hg, hb⟩ := h
  refine (H M hs).mono ?_
  rintro e w' ⟨rfl, M', h1, hk, hM⟩
  exact ⟨rfl, M', h1, fun p hp => (hM p hp).elim (hg p) (fun h => Nat.le_trans hb.size h), hk.below hg hb hb.size⟩
theorem One.see {b : Nat} {l : List Sp} {W w : World} {f : FuncId} {args : Array Value} {Q : Ending → World → Prop} (h : One b l W w) (H : ∀ M, St b M l w → Calls Try.prog f args w Q) : Calls Try.prog f args w Q := by
  obtain ⟨M, hs, -, -⟩ := h
  exact H M hs
theorem One.new (W : World) : One W.heap.size [] W (W.alloc (.cells #[.slice none 0 0] 84)) :=
  ⟨_, St.new W, (fun p hp => by rw [List.mem_singleton.1 hp]; exact Nat.le_refl _), alloc_below W _⟩
def Two (b d : Nat) (l m : List Sp) (W w : World) : Prop := ∃ M N, St b M l w ∧ St d N m w ∧ (∀ p ∈ M, p ∉ N) ∧ (∀ p ∈ M, W.heap.size ≤ p) ∧ (∀ p ∈ N, W.heap.size ≤ p) ∧ Below W.heap.size W w
theorem Two.swap {b d : Nat} {l m : List Sp} {W w : World} (h : Two b d l m W w) : Two d b m l W w := by
  obtain ⟨M, N, h1, h2, h3, h4, h5, h6⟩ := h
  exact ⟨N, M, h2, h1, fun p hp hm => h3 p hm hp, h5, h4, h6⟩
theorem Two.bel {b d : Nat} {l m : List Sp} {W w : World} (h : Two b d l m W w) : Below W.heap.size W w := by
  obtain ⟨M, N, h1, h2, h3, h4, h5, h6⟩ := h
  exact h6
theorem Two.below {b d : Nat} {l m : List Sp} {W w w' : World} (h : Two b d l m W w) (hb : Below w.heap.size w w') : Two b d l m W w' := by
  obtain ⟨M, N, h1, h2, h3, h4, h5, h6⟩ := h
  exact ⟨M, N, h1.below hb, h2.below hb, h3, h4, h5, h6.trans (hb.mono h6.size)⟩
theorem Two.act {b d : Nat} {l m out : List Sp} {W w w1 : World} {f : FuncId} {args : Array Value} (h : Two b d l m W w) (H : ∀ M, St b M l w → Calls Try.prog f args w1 (ChPost b M out w)) :
    Calls Try.prog f args w1 fun e w' => e = .returned (.tuple #[]) ∧ Two b d out m W w' := by
  obtain ⟨M, N, hs, ht, hd, hg, hn, hb⟩ := h
  refine (H M hs).mono ?_
  rintro e w' ⟨rfl, M', h1, hk, hM⟩
  refine ⟨rfl, M', N, h1, ht.kept hk (fun p hp hm => hd p hm hp), fun p hp hm => ?_, fun p hp => (hM p hp).elim (hg p) (fun h => Nat.le_trans hb.size h), hn, hk.below hg hb hb.size⟩
  rcases hM p hp with h | h
  · exact hd p h hm
  · exact absurd (ht.lt p hm) (by omega)
theorem Two.see {b d : Nat} {l m : List Sp} {W w : World} {f : FuncId} {args : Array Value} {Q : Ending → World → Prop} (h : Two b d l m W w) (H : ∀ M, St b M l w → Calls Try.prog f args w Q) : Calls Try.prog f args w Q := by
  obtain ⟨M, N, hs, -⟩ := h
  exact H M hs
theorem St.new' (w : World) (s : Nat) (hs : w.heap.size = s) : St s [s] [] (w.alloc (.cells #[.slice none 0 0] 84)) := by
  subst hs
  exact St.new w
theorem Two.new (W : World) (s : Nat) (hs : W.heap.size = s) : Two s (s + 1) [] [] W ((W.alloc (.cells #[.slice none 0 0] 84)).alloc (.cells #[.slice none 0 0] 84)) := by
  subst hs
  exact ⟨_, _, (St.new W).below (alloc_below _ _), St.new' _ _ (by simp), (by intro p hp hm; rw [List.mem_singleton] at hp hm; omega), (by intro p hp; rw [List.mem_singleton] at hp; omega), (by intro p hp; rw [List.mem_singleton] at hp; omega), (alloc_below W _).alloc (by simp) _⟩
/-- pairs of the first l -/
theorem PairsIn.one {rk : IntKind} {a : Option Addr} {n c : Nat} {l : List Sp} {w : World} (h : PairsIn rk a n c l w) {k : Nat} (hk : k < n) : ∃ g off x, a = some ⟨g, off, none⟩ ∧ g < w.heap.size ∧ l[k]? = some x ∧ w.cell? ⟨g, off + k * 2, none⟩ = some (.int rk x.1) ∧ w.cell? ⟨g, off + k * 2 + 1, none⟩ = some (.int .i64 x.2) := by
  obtain ⟨x, hx⟩ : ∃ x, l[k]? = some x := ⟨_, List.getElem?_eq_getElem (by rw [← h.len]; exact hk)⟩
  obtain ⟨g, off, ha, hg, hi⟩ := h.at_.resolve_left (by intro e; rw [e] at hx; cases hx)
  exact ⟨g, off, x, ha, hg, hx, (hi k x hx).1, (hi k x hx).2⟩
theorem PairsIn.front {rk : IntKind} {a : Option Addr} {n c : Nat} {l : List Sp} {w : World} (h : PairsIn rk a n c l w) {k : Nat} (hk : k ≤ n) : PairsIn rk a k c (l.take k) w := by
  refine ⟨by rw [List.length_take, ← h.len]; omega, Nat.le_trans hk h.fit, h.top, ?_⟩
  rcases h.at_ with e | ⟨b, off, ha, hb, hi⟩
  · exact .inl (by rw [e]; simp)
  · refine .inr ⟨b, off, ha, hb, fun i g hg => ?_⟩
    rw [List.getElem?_take] at hg
    split at hg
    · exact hi i g hg
    · cases hg
theorem addsS_mem (n : Int) : ∀ (xs l : List Sp), Nm l → (mem n (addsS l xs) ↔ mem n l ∨ ∃ x ∈ xs, inx n (cnt x))
  | [], l, _ => by simp [addsS]
  | x :: xs, l, h => by
    show mem n (addsS (addS l x) xs) ↔ _
    rw [addsS_mem n xs (addS l x) (h.add x), addS_mem n h x]
    simp only [List.mem_cons, exists_eq_or_imp]
    constructor
    · rintro ((h | h) | h)
      · exact .inr (.inl h)
      · exact .inl h
      · exact .inr (.inr h)
    · rintro (h | h | h)
      · exact .inl (.inr h)
      · exact .inl (.inl h)
      · exact .inr h
end Go.Proofs.Ytgagkmlkoeceiaa.H

/- Counting the numbers of spans; sets and slices beside each other. -/
namespace Go.Proofs.Ytgagkmlkoeceiaa.H
open Go.RowKit

open Classical in
/-- of k numbers from b on: how many are as p says -/
noncomputable def num (p : Int → Prop) (b : Int) : Nat → Int
  | 0 => 0
  | k + 1 => num p b k + if p (b + k) then 1 else 0
theorem mem_iff (n : Int) : ∀ (l : List Sp), mem n l ↔ ∃ x ∈ l, inx n x
  | [] => by simp [mem]
  | x :: l => by simp only [mem, mem_iff n l, List.mem_cons, exists_eq_or_imp]
theorem heap_moved {W w : World} {b : Nat} {o : Obj} (h : W.heap[b]? = some o) (hb : Below W.heap.size W w) : w.heap[b]? = some o := (hb.block b (Array.getElem?_eq_some_iff.1 h).1).trans h
/-- two sets, and slices that neither of them changes -/
def TwoV (b d : Nat) (l m : List Sp) (vs : List (Value × List Sp)) (W w : World) : Prop := ∃ M N, St b M l w ∧ St d N m w ∧ (∀ p ∈ M, p ∉ N) ∧ (∀ p ∈ M, W.heap.size ≤ p) ∧ (∀ p ∈ N, W.heap.size ≤ p) ∧ Below W.heap.size W w ∧ ∀ e ∈ vs, OwnP .i64 81 0 e.1 e.2 w ∧ ∀ q, e.1.ownBlock = some q → q ∉ M ∧ q ∉ N
theorem Two.v {b d : Nat} {l m : List Sp} {W w : World} (h : Two b d l m W w) : TwoV b d l m [] W w := by
  obtain ⟨M, N, h1, h2, h3, h4, h5, h6⟩ := h
  exact ⟨M, N, h1, h2, h3, h4, h5, h6, fun e he => by cases he⟩
theorem TwoV.two {b d : Nat} {l m : List Sp} {vs : List (Value × List Sp)} {W w : World} (h : TwoV b d l m vs W w) : Two b d l m W w := by
  obtain ⟨M, N, h1, h2, h3, h4, h5, h6, -⟩ := h
  exact ⟨M, N, h1, h2, h3, h4, h5, h6⟩
theorem TwoV.swap {b d : Nat} {l m : List Sp} {vs : List (Value × List Sp)} {W w : World} (h : TwoV b d l m vs W w) : TwoV d b m l vs W w := by
  obtain ⟨M, N, h1, h2, h3, h4, h5, h6, h7⟩ := h
  exact ⟨N, M, h2, h1, fun p hp hm => h3 p hm hp, h5, h4, h6, fun e he => ⟨(h7 e he).1, fun q hq => ((h7 e he).2 q hq).symm⟩⟩
theorem TwoV.below {b d : Nat} {l m : List Sp} {vs : List (Value × List Sp)} {W w w' : World} (h : TwoV b d l m vs W w) (hb : Below w.heap.size w w') : TwoV b d l m vs W w' := by
  obtain ⟨M, N, h1, h2, h3, h4, h5, h6, h7⟩ := h
  exact ⟨M, N, h1.below hb, h2.below hb, h3, h4, h5, h6.trans (hb.mono h6.size), fun e he => ⟨(h7 e he).1.belowAll hb, (h7 e he).2⟩⟩
theorem TwoV.act {b d : Nat} {l m out : List Sp} {vs : List (Value × List Sp)} {W w w1 : World} {f : FuncId} {args : Array Value} (h : TwoV b d l m vs W w) (H : ∀ M, St b M l w → (∀ e ∈ vs, OwnP .i64 81 0 e.1 e.2 w ∧ ∀ q, e.1.ownBlock = some q → q ∉ M) → Calls Try.prog f args w1 (ChPost b M out w)) :
    Calls Try.prog f args w1 fun e w' => e = .returned (.tuple #[]) ∧ TwoV b d out m vs W w' := by
  obtain ⟨M, N, hs, ht, hd, hg, hn, hb, hv⟩ := h
  refine (H M hs (fun e he => ⟨(hv e he).1, fun q hq => ((hv e he).2 q hq).1⟩)).mono ?_
  rintro e w' ⟨rfl, M', h1, hk, hM⟩
  refine ⟨rfl, M', N, h1, ht.kept hk (fun p hp hm => hd p hm hp), fun p hp hm => ?_, fun p hp => (hM p hp).elim (hg p) (fun h => Nat.le_trans hb.size h), hn, hk.below hg hb hb.size, fun e he => ?_⟩
  · rcases hM p hp with h | h
    · exact hd p h hm
    · exact absurd (ht.lt p hm) (by omega)
  · have ho := hv e he
    refine ⟨ho.1.moved (fun q hq => hk.block q (ho.1.ownBlock q hq).2 (ho.2 q hq).1), fun q hq => ⟨fun hm => ?_, (ho.2 q hq).2⟩⟩
    rcases hM q hm with h | h
    · exact (ho.2 q hq).1 h
    · exact absurd (ho.1.ownBlock q hq).2 (by omega)
theorem TwoV.see {b d : Nat} {l m : List Sp} {vs : List (Value × List Sp)} {W w : World} {f : FuncId} {args : Array Value} {Q : Ending → World → Prop} (h : TwoV b d l m vs W w) (H : ∀ M, St b M l w → Calls Try.prog f args w Q) : Calls Try.prog f args w Q := by
  obtain ⟨M, N, hs, -⟩ := h
  exact H M hs
end Go.Proofs.Ytgagkmlkoeceiaa.H
