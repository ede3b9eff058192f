/- Counting the numbers of spans; sets and slices beside each other. -/
import Derived.Test.YthplghcpjmodeaaHTwo
namespace Go.Proofs.Ythplghcpjmodeaa.H
open Go.RowKit

open Classical in
/-- of k numbers from b on: how many are as p says -/
noncomputable def num (p : Int → Prop) (b : Int) : Nat → Int
  | 0 => 0
  | k + 1 => num p b k + if p (b + k) then 1 else 0
theorem num_congr {p q : Int → Prop} {b : Int} : ∀ {k : Nat}, (∀ n, b ≤ n → n < b + k → (p n ↔ q n)) → num p b k = num q b k
  | 0, _ => rfl
  | k + 1, h => by
    simp only [num]
    rw [num_congr (k := k) (fun n h1 h2 => h n h1 (by omega))]
    have := h (b + k) (by omega) (by omega)
    by_cases hp : p (b + k)
    · rw [if_pos hp, if_pos (this.1 hp)]
    · rw [if_neg hp, if_neg (fun hq => hp (this.2 hq))]
theorem num_none {p : Int → Prop} {b : Int} : ∀ {k : Nat}, (∀ n, b ≤ n → n < b + k → ¬ p n) → num p b k = 0
  | 0, _ => rfl
  | k + 1, h => by
    simp only [num]
    rw [num_none (k := k) (fun n h1 h2 => h n h1 (by omega)), if_neg (h _ (by omega) (by omega))]
    rfl
theorem num_all {p : Int → Prop} {b : Int} : ∀ {k : Nat}, (∀ n, b ≤ n → n < b + k → p n) → num p b k = k
  | 0, _ => rfl
  | k + 1, h => by
    simp only [num]
    rw [num_all (k := k) (fun n h1 h2 => h n h1 (by omega)), if_pos (h _ (by omega) (by omega))]
    omega
theorem num_split (p : Int → Prop) (b : Int) (k : Nat) : ∀ (m : Nat), num p b (k + m) = num p b k + num p (b + k) m
  | 0 => by simp [num]
  | m + 1 => by
    rw [show k + (m + 1) = (k + m) + 1 from rfl]
    simp only [num]
    rw [num_split p b k m, show b + ((k + m : Nat) : Int) = b + k + m by omega]
    omega
theorem num_or {p q : Int → Prop} (h : ∀ n, ¬ (p n ∧ q n)) (b : Int) : ∀ (k : Nat), num (fun n => p n ∨ q n) b k = num p b k + num q b k
  | 0 => rfl
  | k + 1 => by
    simp only [num]
    rw [num_or h b k]
    have := h (b + k)
    by_cases hp : p (b + k)
    · have hq : ¬ q (b + k) := fun hq => this ⟨hp, hq⟩
      rw [if_pos (.inl hp), if_pos hp, if_neg hq]; omega
    · by_cases hq : q (b + k)
      · rw [if_pos (.inr hq), if_neg hp, if_pos hq]; omega
      · rw [if_neg (by rintro (h | h) <;> contradiction), if_neg hp, if_neg hq]; omega
theorem tot_num : ∀ {l : List Sp} {b : Int} {k : Nat}, Norm b l → Top (b + k) l → num (fun n => mem n l) b k = tot l
  | [], b, k, _, _ => num_none fun n _ _ h => h
  | x :: l, b, k, hn, ht => by
    have h1 := hn.1
    have h2 := hn.2.1
    have h3 := ht.cons.1
    obtain ⟨k1, hk1⟩ : ∃ k1 : Nat, b + k1 = x.1 := ⟨(x.1 - b).toNat, by omega⟩
    obtain ⟨k2, hk2⟩ : ∃ k2 : Nat, x.1 + k2 = x.2 := ⟨(x.2 - x.1).toNat, by omega⟩
    obtain ⟨k3, hk3⟩ : ∃ k3 : Nat, k = k1 + k2 + k3 := ⟨k - k1 - k2, by omega⟩
    subst hk3
    rw [num_split, num_split, show b + ((k1 + k2 : Nat) : Int) = x.2 by omega, hk1]
    rw [num_none (k := k1), num_all (k := k2), num_congr (k := k3) (q := fun n => mem n l), tot_num (l := l) (b := x.2) (k := k3) (hn.2.2.mono (by omega))]
    · simp only [tot]; omega
    · have := ht.cons.2
      intro y hy
      have := this y hy
      omega
    · intro n hn1 _
      exact ⟨fun h => h.elim (fun h => by have := h.2; omega) id, .inr⟩
    · intro n hn1 hn2
      exact .inl ⟨hn1, by omega⟩
    · rintro n hn1 hn2 (h | h)
      · have := h.1; omega
      · have := hn.2.2.low h; omega
theorem tot_sum {a b c : List Sp} (ha : Nm a) (hb : Nm b) (hc : Nm c) (hd : ∀ n, ¬ (mem n a ∧ mem n b)) (hu : ∀ n, mem n c ↔ mem n a ∨ mem n b) : tot a + tot b = tot c := by
  have e : lo + ((2305843009213693952 : Nat) : Int) = hi := by decide
  rw [← tot_num (k := 2305843009213693952) ha.1 (by rw [e]; exact ha.2), ← tot_num (k := 2305843009213693952) hb.1 (by rw [e]; exact hb.2), ← tot_num (k := 2305843009213693952) hc.1 (by rw [e]; exact hc.2), ← num_or hd]
  exact num_congr fun n _ _ => (hu n).symm
theorem mem_iff (n : Int) : ∀ (l : List Sp), mem n l ↔ ∃ x ∈ l, inx n x
  | [] => by simp [mem]
  | x :: l => by simp only [mem, mem_iff n l, List.mem_cons, exists_eq_or_imp]
/-- two sets, and slices that neither of them changes -/
def TwoV (b d : Nat) (l m : List Sp) (vs : List (Value × List Sp)) (W w : World) : Prop := ∃ M N, St b M l w ∧ St d N m w ∧ (∀ p ∈ M, p ∉ N) ∧ (∀ p ∈ M, W.heap.size ≤ p) ∧ (∀ p ∈ N, W.heap.size ≤ p) ∧ Below W.heap.size W w ∧ ∀ e ∈ vs, OwnP .i64 56 0 e.1 e.2 w ∧ ∀ q, e.1.ownBlock = some q → q ∉ M ∧ q ∉ N
theorem Two.v {b d : Nat} {l m : List Sp} {W w : World} (h : Two b d l m W w) : TwoV b d l m [] W w := by
  obtain ⟨M, N, h1, h2, h3, h4, h5, h6⟩ := h
  exact ⟨M, N, h1, h2, h3, h4, h5, h6, fun e he => by cases he⟩
theorem TwoV.two {b d : Nat} {l m : List Sp} {vs : List (Value × List Sp)} {W w : World} (h : TwoV b d l m vs W w) : Two b d l m W w := by
  obtain ⟨M, N, h1, h2, h3, h4, h5, h6, -⟩ := h
  exact ⟨M, N, h1, h2, h3, h4, h5, h6⟩
theorem TwoV.swap {b d : Nat} {l m : List Sp} {vs : List (Value × List Sp)} {W w : World} (h : TwoV b d l m vs W w) : TwoV d b m l vs W w := by
  obtain ⟨M, N, h1, h2, h3, h4, h5, h6, h7⟩ := h
  exact ⟨N, M, h2, h1, fun p hp hm => h3 p hm hp, h5, h4, h6, fun e he => ⟨(h7 e he).1, fun q hq => ((h7 e he).2 q hq).symm⟩⟩
theorem TwoV.below {b d : Nat} {l m : List Sp} {vs : List (Value × List Sp)} {W w w' : World} (h : TwoV b d l m vs W w) (hb : Below w.heap.size w w') : TwoV b d l m vs W w' := by
  obtain ⟨M, N, h1, h2, h3, h4, h5, h6, h7⟩ := h
  exact ⟨M, N, h1.below hb, h2.below hb, h3, h4, h5, h6.trans (hb.mono h6.size), fun e he => ⟨(h7 e he).1.belowAll hb, (h7 e he).2⟩⟩
theorem TwoV.act {b d : Nat} {l m out : List Sp} {vs : List (Value × List Sp)} {W w w1 : World} {f : FuncId} {args : Array Value} (h : TwoV b d l m vs W w) (H : ∀ M, St b M l w → (∀ e ∈ vs, OwnP .i64 56 0 e.1 e.2 w ∧ ∀ q, e.1.ownBlock = some q → q ∉ M) → Calls Try.prog f args w1 (ChPost b M out w)) :
    Calls Try.prog f args w1 fun e w' => e = .returned (.tuple #[]) ∧ TwoV b d out m vs W w' := by
  obtain ⟨M, N, hs, ht, hd, hg, hn, hb, hv⟩ := h
  refine (H M hs (fun e he => ⟨(hv e he).1, fun q hq => ((hv e he).2 q hq).1⟩)).mono ?_
  rintro e w' ⟨rfl, M', h1, hk, hM⟩
  refine ⟨rfl, M', N, h1, ht.kept hk (fun p hp hm => hd p hm hp), fun p hp hm => ?_, fun p hp => (hM p hp).elim (hg p) (fun h => Nat.le_trans hb.size h), hn, hk.below hg hb hb.size, fun e he => ?_⟩
  · rcases hM p hp with h | h
    · exact hd p h hm
    · exact absurd (ht.lt p hm) (by omega)
  · have ho := hv e he
    refine ⟨ho.1.moved (fun q hq => hk.block q (ho.1.ownBlock q hq).2 (ho.2 q hq).1), fun q hq => ⟨fun hm => ?_, (ho.2 q hq).2⟩⟩
    rcases hM q hm with h | h
    · exact (ho.2 q hq).1 h
    · exact absurd (ho.1.ownBlock q hq).2 (by omega)
theorem TwoV.see {b d : Nat} {l m : List Sp} {vs : List (Value × List Sp)} {W w : World} {f : FuncId} {args : Array Value} {Q : Ending → World → Prop} (h : TwoV b d l m vs W w) (H : ∀ M, St b M l w → Calls Try.prog f args w Q) : Calls Try.prog f args w Q := by
  obtain ⟨M, N, hs, -⟩ := h
  exact H M hs
end Go.Proofs.Ythplghcpjmodeaa.H
