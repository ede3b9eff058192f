/- Counting the numbers of spans; sets and slices beside each other. -/
import Derived.Test.YthplghcpjmodeaaHTwo
namespace Go.Proofs.Ythplghcpjmodeaa.H
open Go.RowKit

open Classical in
/-- of k numbers from b on: how many are as p says -/
noncomputable def num (p : Int → Prop) (b : Int) : Nat → Int
  | 0 => 0
  | k + 1 => num p b k + if p (b + k) then 1 else 0
theorem mem_iff (n : Int) : ∀ (l : List Sp), mem n l ↔ ∃ x ∈ l, inx n x
  | [] => by simp [mem]
  | x :: l => by simp only [mem, mem_iff n l, List.mem_cons, exists_eq_or_imp]
/-- two sets, and slices that neither of them changes -/
def TwoV (b d : Nat) (l m : List Sp) (vs : List (Value × List Sp)) (W w : World) : Prop := ∃ M N, St b M l w ∧ St d N m w ∧ (∀ p ∈ M, p ∉ N) ∧ (∀ p ∈ M, W.heap.size ≤ p) ∧ (∀ p ∈ N, W.heap.size ≤ p) ∧ Below W.heap.size W w ∧ ∀ e ∈ vs, OwnP .i64 56 0 e.1 e.2 w ∧ ∀ q, e.1.ownBlock = some q → q ∉ M ∧ q ∉ N
theorem Two.v {b d : Nat} {l m : List Sp} {W w : World} (h : Two b d l m W w) : TwoV b d l m [] W w := by
  obtain ⟨M, N, h1, h2, h3, h4, h5, h6⟩ := h
  exact ⟨M, N, h1, h2, h3, h4, h5, h6, fun e he => by cases he⟩
theorem TwoV.two {b d : Nat} {l m : List Sp} {vs : List (Value × List Sp)} {W w : World} (h : TwoV b d l m vs W w) : Two b d l m W w := by
  obtain ⟨M, N, h1, h2, h3, h4, h5, h6, -⟩ := h
  exact ⟨M, N, h1, h2, h3, h4, h5, h6⟩
theorem TwoV.swap {b d : Nat} {l m : List Sp} {vs : List (Value × List Sp)} {W w : World} (h : TwoV b d l m vs W w) : TwoV d b m l vs W w := by
  obtain ⟨M, N, h1, h2, h3, h4, h5, h6, h7⟩ := h
  exact ⟨N, M, h2, h1, fun p hp hm => h3 p hm hp, h5, h4, h6, fun e he => ⟨(h7 e he).1, fun q hq => ((h7 e he).2 q hq).symm⟩⟩
theorem TwoV.below {b d : Nat} {l m : List Sp} {vs : List (Value × List Sp)} {W w w' : World} (h : TwoV b d l m vs W w) (hb : Below w.heap.size w w') : TwoV b d l m vs W w' := by
  obtain ⟨M, N, h1, h2, h3, h4, h5, h6, h7⟩ := h
  exact ⟨M, N, h1.below hb, h2.below hb, h3, h4, h5, h6.trans (hb.mono h6.size), fun e he => ⟨(h7 e he).1.belowAll hb, (h7 e he).2⟩⟩
theorem TwoV.act {b d : Nat} {l m out : List Sp} {vs : List (Value × List Sp)} {W w w1 : World} {f : FuncId} {args : Array Value} (h : TwoV b d l m vs W w) (H : ∀ M, St b M l w → (∀ e ∈ vs, OwnP .i64 56 0 e.1 e.2 w ∧ ∀ q, e.1.ownBlock = some q → q ∉ M) → Calls Try.prog f args w1 (ChPost b M out w)) :
    Calls Try.prog f args w1 fun e w' => e = .returned (.tuple #[]) ∧ TwoV b d out m vs W w' := by
  obtain ⟨M, N, hs, ht, hd, hg, hn, hb, hv⟩ := h
  refine (H M hs (fun e he => ⟨(hv e he).1, fun q hq => ((hv e he).2 q hq).1⟩)).mono ?_
  rintro e w' ⟨rfl, M', h1, hk, hM⟩
  refine ⟨rfl, M', N, h1, ht.kept hk (fun p hp hm => hd p hm hp), fun p hp hm => ?_, fun p hp => (hM p hp).elim (hg p) (fun h => Nat.le_trans hb.size h), hn, hk.below hg hb hb.size, fun e he => ?_⟩
  · rcases hM p hp with h | h
    · exact hd p h hm
    · exact absurd (ht.lt p hm) (by omega)
  · have ho := hv e he
    refine ⟨ho.1.moved (fun q hq => hk.block q (ho.1.ownBlock q hq).2 (ho.2 q hq).1), fun q hq => ⟨fun hm => ?_, (ho.2 q hq).2⟩⟩
    rcases hM q hm with h | h
    · exact (ho.2 q hq).1 h
    · exact absurd (ho.1.ownBlock q hq).2 (by omega)
theorem TwoV.see {b d : Nat} {l m : List Sp} {vs : List (Value × List Sp)} {W w : World} {f : FuncId} {args : Array Value} {Q : Ending → World → Prop} (h : TwoV b d l m vs W w) (H : ∀ M, St b M l w → Calls Try.prog f args w Q) : Calls Try.prog f args w Q := by
  obtain ⟨M, N, hs, -⟩ := h
  exact H M hs
end Go.Proofs.Ythplghcpjmodeaa.H
