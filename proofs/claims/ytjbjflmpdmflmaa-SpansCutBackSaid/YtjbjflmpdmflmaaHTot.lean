/- Counting the numbers of spans; sets and slices beside each other. -/
import Derived.Test.YtjbjflmpdmflmaaHTwo
namespace Go.Proofs.Ytjbjflmpdmflmaa.H
open Go.RowKit

open Classical in
theorem mem_iff (n : Int) : ∀ (l : List Sp), mem n l ↔ ∃ x ∈ l, inx n x
  | [] => by simp [mem]
  | x :: l => by simp only [mem, mem_iff n l, List.mem_cons, exists_eq_or_imp]
theorem Nm.cnt_id {l : List Sp} (h : Nm l) {x : Sp} (hx : x ∈ l) : cnt x = x := by
  have h1 := h.1.begins x hx
  have h2 := h.1.ends x hx
  have h3 := h.2 x hx
  obtain ⟨i, hi⟩ := List.mem_iff_getElem?.1 hx
  have h4 := h.1.full i x hi
  obtain ⟨x1, x2⟩ := x
  unfold cnt
  simp only at h1 h2 h3 h4 ⊢
  rw [near_id h1 (by omega), near_id (by omega) h3]
theorem addsN_mem (n : Int) {l m : List Sp} (hl : Nm l) (hm : Nm m) : mem n (addsS l m) ↔ mem n l ∨ mem n m := by
  rw [addsS_mem n _ _ hl, mem_iff n m]
  constructor
  · rintro (h | ⟨x, hx, h⟩)
    · exact .inl h
    · exact .inr ⟨x, hx, by rw [hm.cnt_id hx] at h; exact h⟩
  · rintro (h | ⟨x, hx, h⟩)
    · exact .inl h
    · exact .inr ⟨x, hx, by rw [hm.cnt_id hx]; exact h⟩
theorem cut_back {O : List Sp} (h : Nm O) (x : Sp) : addsS (cutS O x) (inS O x) = O :=
  Nm.ext ((h.cut x).adds _) h fun n => by
    rw [addsN_mem n (h.cut x) (h.in_ x), cutS_mem n h, inS_mem n h]
    by_cases hi : inx n (cnt x) <;> simp [hi]
theorem cut_in {O : List Sp} (h : Nm O) (x : Sp) : inS (cutS O x) x = [] :=
  Nm.ext ((h.cut x).in_ x) Nm.nil fun n => by
    rw [inS_mem n (h.cut x), cutS_mem n h]
    simp only [mem, iff_false]
    rintro ⟨h1, -, h2⟩
    exact h2 h1
theorem in_len (l : List Sp) (x : Sp) : (inS l x).length ≤ l.length + 2 := by
  unfold inS missS
  have h1 := goLeft_len (goLeft (cnt x) l) (cnt x)
  have h2 := goLeft_len l (cnt x)
  omega
theorem heap_moved {W w : World} {b : Nat} {o : Obj} (h : W.heap[b]? = some o) (hb : Below W.heap.size W w) : w.heap[b]? = some o := (hb.block b (Array.getElem?_eq_some_iff.1 h).1).trans h
/-- two sets, and slices that neither of them changes -/
def TwoV (b d : Nat) (l m : List Sp) (vs : List (Value × List Sp)) (W w : World) : Prop := ∃ M N, St b M l w ∧ St d N m w ∧ (∀ p ∈ M, p ∉ N) ∧ (∀ p ∈ M, W.heap.size ≤ p) ∧ (∀ p ∈ N, W.heap.size ≤ p) ∧ Below W.heap.size W w ∧ ∀ e ∈ vs, OwnP .i64 38 0 e.1 e.2 w ∧ ∀ q, e.1.ownBlock = some q → q ∉ M ∧ q ∉ N
theorem Two.v {b d : Nat} {l m : List Sp} {W w : World} (h : Two b d l m W w) : TwoV b d l m [] W w := by
  obtain ⟨M, N, h1, h2, h3, h4, h5, h6⟩ := h
  exact ⟨M, N, h1, h2, h3, h4, h5, h6, fun e he => by cases he⟩
theorem TwoV.two {b d : Nat} {l m : List Sp} {vs : List (Value × List Sp)} {W w : World} (h : TwoV b d l m vs W w) : Two b d l m W w := by
  obtain ⟨M, N, h1, h2, h3, h4, h5, h6, -⟩ := h
  exact ⟨M, N, h1, h2, h3, h4, h5, h6⟩
theorem TwoV.swap {b d : Nat} {l m : List Sp} {vs : List (Value × List Sp)} {W w : World} (h : TwoV b d l m vs W w) : TwoV d b m l vs W w := by
  obtain ⟨M, N, h1, h2, h3, h4, h5, h6, h7⟩ := h
  exact ⟨N, M, h2, h1, fun p hp hm => h3 p hm hp, h5, h4, h6, fun e he => ⟨(h7 e he).1, fun q hq => ((h7 e he).2 q hq).symm⟩⟩
theorem TwoV.below {b d : Nat} {l m : List Sp} {vs : List (Value × List Sp)} {W w w' : World} (h : TwoV b d l m vs W w) (hb : Below w.heap.size w w') : TwoV b d l m vs W w' := by
  obtain ⟨M, N, h1, h2, h3, h4, h5, h6, h7⟩ := h
  exact ⟨M, N, h1.below hb, h2.below hb, h3, h4, h5, h6.trans (hb.mono h6.size), fun e he => ⟨(h7 e he).1.belowAll hb, (h7 e he).2⟩⟩
theorem TwoV.got {b d : Nat} {l m L : List Sp} {vs : List (Value × List Sp)} {v : Value} {W w w' : World} (h : TwoV b d l m vs W w) (hv : OwnP .i64 38 w.heap.size v L w') (hb : Below w.heap.size w w') : TwoV b d l m ((v, L) :: vs) W w' := by
  obtain ⟨M, N, h1, h2, h3, h4, h5, h6, h7⟩ := h
  refine ⟨M, N, h1.below hb, h2.below hb, h3, h4, h5, h6.trans (hb.mono h6.size), fun e he => ?_⟩
  rcases List.mem_cons.1 he with rfl | he
  · exact ⟨hv.weaken (Nat.zero_le _), fun q hq => ⟨fun hm => absurd (h1.lt q hm) (by have := (hv.ownBlock q hq).1; omega), fun hm => absurd (h2.lt q hm) (by have := (hv.ownBlock q hq).1; omega)⟩⟩
  · exact ⟨(h7 e he).1.belowAll hb, (h7 e he).2⟩
theorem TwoV.act {b d : Nat} {l m out : List Sp} {vs : List (Value × List Sp)} {W w w1 : World} {f : FuncId} {args : Array Value} (h : TwoV b d l m vs W w) (H : ∀ M, St b M l w → (∀ e ∈ vs, OwnP .i64 38 0 e.1 e.2 w ∧ ∀ q, e.1.ownBlock = some q → q ∉ M) → Calls Try.prog f args w1 (ChPost b M out w)) :
    Calls Try.prog f args w1 fun e w' => e = .returned (.tuple #[]) ∧ TwoV b d out m vs W w' := by
  obtain ⟨M, N, hs, ht, hd, hg, hn, hb, hv⟩ := h
  refine (H M hs (fun e he => ⟨(hv e he).1, fun q hq => ((hv e he).2 q hq).1⟩)).mono ?_
  rintro e w' ⟨rfl, M', h1, hk, hM⟩
  refine ⟨rfl, M', N, h1, ht.kept hk (fun p hp hm => hd p hm hp), fun p hp hm => ?_, fun p hp => (hM p hp).elim (hg p) (fun h => Nat.le_trans hb.size h), hn, hk.below hg hb hb.size, fun e he => ?_⟩
  · rcases hM p hp with h | h
    · exact hd p h hm
    · exact absurd (ht.lt p hm) (by omega)
  · have ho := hv e he
    refine ⟨ho.1.moved (fun q hq => hk.block q (ho.1.ownBlock q hq).2 (ho.2 q hq).1), fun q hq => ⟨fun hm => ?_, (ho.2 q hq).2⟩⟩
    rcases hM q hm with h | h
    · exact (ho.2 q hq).1 h
    · exact absurd (ho.1.ownBlock q hq).2 (by omega)
theorem TwoV.see {b d : Nat} {l m : List Sp} {vs : List (Value × List Sp)} {W w : World} {f : FuncId} {args : Array Value} {Q : Ending → World → Prop} (h : TwoV b d l m vs W w) (H : ∀ M, St b M l w → Calls Try.prog f args w Q) : Calls Try.prog f args w Q := by
  obtain ⟨M, N, hs, -⟩ := h
  exact H M hs
/-- a slice of the sets' program's own is put into a set -/
theorem add_own {b : Nat} {M : List Nat} {l L : List Sp} {v : Value} {w : World} (h : St b M l w) (hn : Nm l) (hl : l.length + L.length ≤ 100000) (hv : OwnP .i64 38 0 v L w) (hq : ∀ q, v.ownBlock = some q → q ∉ M) :
    Calls Try.prog 21 #[.pointer (some ⟨b, 0, none⟩), v] w (ChPost b M (addsS l L) w) := by
  obtain ⟨a, c, rfl, hI, -, -⟩ := hv.shape
  refine add_any a L.length c L w h hn (by omega) hI ?_
  intro g off e
  subst e
  exact hq g rfl
end Go.Proofs.Ytjbjflmpdmflmaa.H
