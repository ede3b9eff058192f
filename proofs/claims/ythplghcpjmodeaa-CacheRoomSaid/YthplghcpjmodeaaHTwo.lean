/- One set, and two sets beside each other, that a law has made. -/
import Derived.Test.YthplghcpjmodeaaHArg
namespace Go.Proofs.Ythplghcpjmodeaa.R
end Go.Proofs.Ythplghcpjmodeaa.R
namespace Go.Proofs.Ythplghcpjmodeaa.H
open Go.RowKit

def One (b : Nat) (l : List Sp) (W w : World) : Prop := ∃ M, St b M l w ∧ (∀ p ∈ M, W.heap.size ≤ p) ∧ Below W.heap.size W w
theorem One.below {b : Nat} {l : List Sp} {W w w' : World} (h : One b l W w) (hb : Below w.heap.size w w') : One b l W w' := by
  obtain ⟨M, h1, h2, h3⟩ := h
  exact ⟨M, h1.below hb, h2, h3.trans (hb.mono h3.size)⟩
theorem One.bel {b : Nat} {l : List Sp} {W w : World} (h : One b l W w) : Below W.heap.size W w := h.choose_spec.2.2
theorem One.act {b : Nat} {l out : List Sp} {W w w1 : World} {f : FuncId} {args : Array Value} (h : One b l W w) (H : ∀ M, St b M l w → Calls Try.prog f args w1 (ChPost b M out w)) :
    Calls Try.prog f args w1 fun e w' => e = .returned (.tuple #[]) ∧ One b out W w' := by
  obtain ⟨M, hs, hg, hb⟩ := h
  refine (H M hs).mono ?_
  rintro e w' ⟨rfl, M', h1, hk, hM⟩
  exact ⟨rfl, M', h1, fun p hp => (hM p hp).elim (hg p) (fun h => Nat.le_trans hb.size h), hk.below hg hb hb.size⟩
theorem One.see {b : Nat} {l : List Sp} {W w : World} {f : FuncId} {args : Array Value} {Q : Ending → World → Prop} (h : One b l W w) (H : ∀ M, St b M l w → Calls Try.prog f args w Q) : Calls Try.prog f args w Q := by
  obtain ⟨M, hs, -, -⟩ := h
  exact H M hs
theorem One.new (W : World) : One W.heap.size [] W (W.alloc (.cells #[.slice none 0 0] 60)) :=
  ⟨_, St.new W, (fun p hp => by rw [List.mem_singleton.1 hp]; exact Nat.le_refl _), alloc_below W _⟩
def Two (b d : Nat) (l m : List Sp) (W w : World) : Prop := ∃ M N, St b M l w ∧ St d N m w ∧ (∀ p ∈ M, p ∉ N) ∧ (∀ p ∈ M, W.heap.size ≤ p) ∧ (∀ p ∈ N, W.heap.size ≤ p) ∧ Below W.heap.size W w
theorem Two.swap {b d : Nat} {l m : List Sp} {W w : World} (h : Two b d l m W w) : Two d b m l W w := by
  obtain ⟨M, N, h1, h2, h3, h4, h5, h6⟩ := h
  exact ⟨N, M, h2, h1, fun p hp hm => h3 p hm hp, h5, h4, h6⟩
theorem Two.bel {b d : Nat} {l m : List Sp} {W w : World} (h : Two b d l m W w) : Below W.heap.size W w := by
  obtain ⟨M, N, h1, h2, h3, h4, h5, h6⟩ := h
  exact h6
theorem Two.below {b d : Nat} {l m : List Sp} {W w w' : World} (h : Two b d l m W w) (hb : Below w.heap.size w w') : Two b d l m W w' := by
  obtain ⟨M, N, h1, h2, h3, h4, h5, h6⟩ := h
  exact ⟨M, N, h1.below hb, h2.below hb, h3, h4, h5, h6.trans (hb.mono h6.size)⟩
theorem Two.act {b d : Nat} {l m out : List Sp} {W w w1 : World} {f : FuncId} {args : Array Value} (h : Two b d l m W w) (H : ∀ M, St b M l w → Calls Try.prog f args w1 (ChPost b M out w)) :
    Calls Try.prog f args w1 fun e w' => e = .returned (.tuple #[]) ∧ Two b d out m W w' := by
  obtain ⟨M, N, hs, ht, hd, hg, hn, hb⟩ := h
  refine (H M hs).mono ?_
  rintro e w' ⟨rfl, M', h1, hk, hM⟩
  refine ⟨rfl, M', N, h1, ht.kept hk (fun p hp hm => hd p hm hp), fun p hp hm => ?_, fun p hp => (hM p hp).elim (hg p) (fun h => Nat.le_trans hb.size h), hn, hk.below hg hb hb.size⟩
  rcases hM p hp with h | h
  · exact hd p h hm
  · exact absurd (ht.lt p hm) (by omega)
theorem Two.see {b d : Nat} {l m : List Sp} {W w : World} {f : FuncId} {args : Array Value} {Q : Ending → World → Prop} (h : Two b d l m W w) (H : ∀ M, St b M l w → Calls Try.prog f args w Q) : Calls Try.prog f args w Q := by
  obtain ⟨M, N, hs, -⟩ := h
  exact H M hs
theorem St.new' (w : World) (s : Nat) (hs : w.heap.size = s) : St s [s] [] (w.alloc (.cells #[.slice none 0 0] 60)) := by
  subst hs
  exact St.new w
theorem Two.new (W : World) (s : Nat) (hs : W.heap.size = s) : Two s (s + 1) [] [] W ((W.alloc (.cells #[.slice none 0 0] 60)).alloc (.cells #[.slice none 0 0] 60)) := by
  subst hs
  exact ⟨_, _, (St.new W).below (alloc_below _ _), St.new' _ _ (by simp), (by intro p hp hm; rw [List.mem_singleton] at hp hm; omega), (by intro p hp; rw [List.mem_singleton] at hp; omega), (by intro p hp; rw [List.mem_singleton] at hp; omega), (alloc_below W _).alloc (by simp) _⟩
/-- pairs of the first l -/
theorem PairsIn.one {rk : IntKind} {a : Option Addr} {n c : Nat} {l : List Sp} {w : World} (h : PairsIn rk a n c l w) {k : Nat} (hk : k < n) : ∃ g off x, a = some ⟨g, off, none⟩ ∧ g < w.heap.size ∧ l[k]? = some x ∧ w.cell? ⟨g, off + k * 2, none⟩ = some (.int rk x.1) ∧ w.cell? ⟨g, off + k * 2 + 1, none⟩ = some (.int .i64 x.2) := by
  obtain ⟨x, hx⟩ : ∃ x, l[k]? = some x := ⟨_, List.getElem?_eq_getElem (by rw [← h.len]; exact hk)⟩
  obtain ⟨g, off, ha, hg, hi⟩ := h.at_.resolve_left (by intro e; rw [e] at hx; cases hx)
  exact ⟨g, off, x, ha, hg, hx, (hi k x hx).1, (hi k x hx).2⟩
theorem PairsIn.front {rk : IntKind} {a : Option Addr} {n c : Nat} {l : List Sp} {w : World} (h : PairsIn rk a n c l w) {k : Nat} (hk : k ≤ n) : PairsIn rk a k c (l.take k) w := by
  refine ⟨by rw [List.length_take, ← h.len]; omega, Nat.le_trans hk h.fit, h.top, ?_⟩
  rcases h.at_ with e | ⟨b, off, ha, hb, hi⟩
  · exact .inl (by rw [e]; simp)
  · refine .inr ⟨b, off, ha, hb, fun i g hg => ?_⟩
    rw [List.getElem?_take] at hg
    split at hg
    · exact hi i g hg
    · cases hg
theorem addsS_mem (n : Int) : ∀ (xs l : List Sp), Nm l → (mem n (addsS l xs) ↔ mem n l ∨ ∃ x ∈ xs, inx n (cnt x))
  | [], l, _ => by simp [addsS]
  | x :: xs, l, h => by
    show mem n (addsS (addS l x) xs) ↔ _
    rw [addsS_mem n xs (addS l x) (h.add x), addS_mem n h x]
    simp only [List.mem_cons, exists_eq_or_imp]
    constructor
    · rintro ((h | h) | h)
      · exact .inr (.inl h)
      · exact .inl h
      · exact .inr (.inr h)
    · rintro (h | h | h)
      · exact .inl (.inr h)
      · exact .inl (.inl h)
      · exact .inr h
end Go.Proofs.Ythplghcpjmodeaa.H
