/- Counting the numbers of spans; sets and slices beside each other. -/
import Derived.Test.YtkdkhphpknnceaaDoorMerged7
namespace Go.Proofs.YtkdkhphpknnceaaDoor.H
open Go.RowKit

open Classical in
/-- of k numbers from b on: how many are as p says -/
noncomputable def num (p : Int → Prop) (b : Int) : Nat → Int
  | 0 => 0
  | k + 1 => num p b k + if p (b + k) then 1 else 0
theorem mem_iff (n : Int) : ∀ (l : List Sp), mem n l ↔ ∃ x ∈ l, inx n x
  | [] => by simp [mem]
  | x :: l => by simp only [mem, mem_iff n l, List.mem_cons, exists_eq_or_imp]
theorem cut_in {O : List Sp} (h : Nm O) (x : Sp) : inS (cutS O x) x = [] :=
  Nm.ext ((h.cut x).in_ x) Nm.nil fun n => by
    rw [inS_mem n (h.cut x), cutS_mem n h]
    simp only [mem, iff_false]
    rintro ⟨h1, -, h2⟩
    exact h2 h1
/-- two sets, and slices that neither of them changes -/
def TwoV (b d : Nat) (l m : List Sp) (vs : List (Value × List Sp)) (W w : World) : Prop := ∃ M N, St b M l w ∧ St d N m w ∧ (∀ p ∈ M, p ∉ N) ∧ (∀ p ∈ M, W.heap.size ≤ p) ∧ (∀ p ∈ N, W.heap.size ≤ p) ∧ Below W.heap.size W w ∧ ∀ e ∈ vs, OwnP .i64 38 0 e.1 e.2 w ∧ ∀ q, e.1.ownBlock = some q → q ∉ M ∧ q ∉ N
theorem Two.v {b d : Nat} {l m : List Sp} {W w : World} (h : Two b d l m W w) : TwoV b d l m [] W w := by
  obtain ⟨M, N, h1, h2, h3, h4, h5, h6⟩ := h
  exact ⟨M, N, h1, h2, h3, h4, h5, h6, fun e he => by cases he⟩
theorem TwoV.two {b d : Nat} {l m : List Sp} {vs : List (Value × List Sp)} {W w : World} (h : TwoV b d l m vs W w) : Two b d l m W w := by
  obtain ⟨M, N, h1, h2, h3, h4, h5, h6, -⟩ := h
  exact ⟨M, N, h1, h2, h3, h4, h5, h6⟩
theorem TwoV.swap {b d : Nat} {l m : List Sp} {vs : List (Value × List Sp)} {W w : World} (h : TwoV b d l m vs W w) : TwoV d b m l vs W w := by
  obtain ⟨M, N, h1, h2, h3, h4, h5, h6, h7⟩ := h
  exact ⟨N, M, h2, h1, fun p hp hm => h3 p hm hp, h5, h4, h6, fun e he => ⟨(h7 e he).1, fun q hq => ((h7 e he).2 q hq).symm⟩⟩
theorem TwoV.below {b d : Nat} {l m : List Sp} {vs : List (Value × List Sp)} {W w w' : World} (h : TwoV b d l m vs W w) (hb : Below w.heap.size w w') : TwoV b d l m vs W w' := by
  obtain ⟨M, N, h1, h2, h3, h4, h5, h6, h7⟩ := h
  exact ⟨M, N, h1.below hb, h2.below hb, h3, h4, h5, h6.trans (hb.mono h6.size), fun e he => ⟨(h7 e he).1.belowAll hb, (h7 e he).2⟩⟩
theorem TwoV.act {b d : Nat} {l m out : List Sp} {vs : List (Value × List Sp)} {W w w1 : World} {f : FuncId} {args : Array Value} (h : TwoV b d l m vs W w) (H : ∀ M, St b M l w → (∀ e ∈ vs, OwnP .i64 38 0 e.1 e.2 w ∧ ∀ q, e.1.ownBlock = some q → q ∉ M) → Calls Tryd.prog f args w1 (ChPost b M out w)) :
    Calls Tryd.prog f args w1 fun e w' => e = .returned (.tuple #[]) ∧ TwoV b d out m vs W w' := by
  obtain ⟨M, N, hs, ht, hd, hg, hn, hb, hv⟩ := h
  refine (H M hs (fun e he => ⟨(hv e he).1, fun q hq => ((hv e he).2 q hq).1⟩)).mono ?_
  rintro e w' ⟨rfl, M', h1, hk, hM⟩
  refine ⟨rfl, M', N, h1, ht.kept hk (fun p hp hm => hd p hm hp), fun p hp hm => ?_, fun p hp => (hM p hp).elim (hg p) (fun h => Nat.le_trans hb.size h), hn, hk.below hg hb hb.size, fun e he => ?_⟩
  · rcases hM p hp with h | h
    · exact hd p h hm
    · exact absurd (ht.lt p hm) (by omega)
  · have ho := hv e he
    refine ⟨ho.1.moved (fun q hq => hk.block q (ho.1.ownBlock q hq).2 (ho.2 q hq).1), fun q hq => ⟨fun hm => ?_, (ho.2 q hq).2⟩⟩
    rcases hM q hm with h | h
    · exact (ho.2 q hq).1 h
    · exact absurd (ho.1.ownBlock q hq).2 (by omega)
theorem TwoV.see {b d : Nat} {l m : List Sp} {vs : List (Value × List Sp)} {W w : World} {f : FuncId} {args : Array Value} {Q : Ending → World → Prop} (h : TwoV b d l m vs W w) (H : ∀ M, St b M l w → Calls Tryd.prog f args w Q) : Calls Tryd.prog f args w Q := by
  obtain ⟨M, N, hs, -⟩ := h
  exact H M hs
end Go.Proofs.YtkdkhphpknnceaaDoor.H

/- A cache's spans: how many numbers they have, and which; which line is the last. -/
namespace Go.Proofs.YtkdkhphpknnceaaDoor.C
open Go.RowKit Go.Maps Go.Proofs.YtkdkhphpknnceaaDoor.H

abbrev nums (x : Ca) : List Int := x.L.map (·.1)
def Within (zs : List Int) : Prop := ∀ z ∈ zs, 0 ≤ z ∧ z < 1152921504606846976
theorem cnt_one {z : Int} (h : 0 ≤ z ∧ z < 1152921504606846976) : cnt (z, z + 1) = (z, z + 1) := by
  unfold cnt near lo hi
  have e1 : min (max z (-1152921504606846976)) 1152921504606846976 = z := by omega
  have e2 : min (max (z + 1) (-1152921504606846976)) 1152921504606846976 = z + 1 := by omega
  rw [e1, e2]
theorem inx_one {n z : Int} (h : 0 ≤ z ∧ z < 1152921504606846976) : inx n (cnt (z, z + 1)) ↔ n = z := by
  rw [cnt_one h]
  unfold inx
  omega
theorem mem_spI (n : Int) {zs : List Int} (h : Within zs) : mem n (addsS [] (spI zs)) ↔ n ∈ zs := by
  rw [addsS_mem n _ _ Nm.nil]
  simp only [mem, false_or]
  constructor
  · rintro ⟨x, hx, h2⟩
    obtain ⟨z, hz, rfl⟩ := List.mem_map.1 hx
    rw [(inx_one (h z hz)).1 h2]
    exact hz
  · intro hn
    exact ⟨(n, n + 1), List.mem_map.2 ⟨n, hn, rfl⟩, (inx_one (h n hn)).2 rfl⟩
theorem mem_spansC (n : Int) {x : Ca} (h : Within (nums x)) : mem n (spansC x.L) ↔ n ∈ nums x := by
  unfold spansC
  rw [mem_spI n (fun z hz => h z ((List.mergeSort_perm _ _).mem_iff.1 hz))]
  exact (List.mergeSort_perm _ _).mem_iff
theorem Nm.spansC (x : Ca) : Nm (spansC x.L) := Nm.nil.adds _
theorem spansC_len (x : Ca) : (spansC x.L).length ≤ x.L.length := by
  have h7 := addsS_len [] (spI (sortI (nums x)))
  have h8 : (spI (sortI (nums x))).length = x.L.length := by unfold spI; rw [List.length_map, List.length_mergeSort, List.length_map]
  simp only [List.length_nil] at h7
  show (addsS [] (spI (sortI (nums x)))).length ≤ x.L.length
  omega
/-- the cache's own numbers -/
theorem OneC.nodup {c : Nat} {x : Ca} {W w : World} (h : OneC c x W w) : (nums x).Nodup ∧ x.L.length ≤ x.most ∧ 1 ≤ x.most ∧ x.most ≤ 65536 := by
  obtain ⟨M, G, ⟨m, e, ns, h1, h2, h3⟩, -⟩ := h
  refine ⟨?_, h3⟩
  unfold nums
  rw [← h2, List.map_map]
  exact h1.num
theorem nums_drop {x : Ca} {i z : Int} (h : z ∈ (dropC x.L i).map (·.1)) : z ∈ nums x := by
  obtain ⟨y, hy, rfl⟩ := List.mem_map.1 h
  exact List.mem_map.2 ⟨y, (List.mem_filter.1 hy).1, rfl⟩
theorem nums_put {x : Ca} {i z : Int} {g : List (Int × Int)} (h : z ∈ nums (putC x i g).1) : z ∈ nums x ∨ z = i := by
  unfold putC at h
  split at h
  · exact .inl h
  · have key : ∀ y ∈ dropC x.L i ++ [(i, g)], y.1 ∈ nums x ∨ y.1 = i := fun y hy => by
      rcases List.mem_append.1 hy with hy | hy
      · exact .inl (nums_drop (List.mem_map.2 ⟨y, hy, rfl⟩))
      · rw [show y = (i, g) by simpa using hy]; exact .inr rfl
    split at h
    · obtain ⟨y, hy, rfl⟩ := List.mem_map.1 h
      exact key y hy
    · obtain ⟨y, hy, rfl⟩ := List.mem_map.1 h
      exact key y (List.mem_of_mem_tail hy)
theorem nums_get {x : Ca} {i z : Int} (h : z ∈ nums (getC x i)) : z ∈ nums x ∨ z = i := by
  cases hf : findC x.L i with
  | none =>
    have e : getC x i = x := by unfold getC; rw [hf]
    rw [e] at h
    exact .inl h
  | some g =>
    have e : getC x i = ⟨x.most, dropC x.L i ++ [(i, g)]⟩ := by unfold getC; rw [hf]
    rw [e] at h
    obtain ⟨y, hy, rfl⟩ := List.mem_map.1 h
    rcases List.mem_append.1 hy with hy | hy
    · exact .inl (nums_drop (List.mem_map.2 ⟨y, hy, rfl⟩))
    · rw [show y = (i, g) by simpa using hy]; exact .inr rfl
theorem put_last {x : Ca} {i : Int} {g : List (Int × Int)} (hi : 0 ≤ i ∧ i ≤ 1152921504606846976) (hm : 1 ≤ x.most) : ∃ ys, nums (putC x i g).1 = ys ++ [i] := by
  unfold putC
  rw [if_neg (by omega)]
  split
  · exact ⟨(dropC x.L i).map (·.1), by unfold nums; simp⟩
  · rename_i hl
    cases hd : dropC x.L i with
    | nil => rw [hd] at hl; simp at hl; omega
    | cons y ys => exact ⟨ys.map (·.1), by unfold nums; simp⟩
theorem get_last {x : Ca} {i : Int} (h : (findC x.L i).isSome = true) : ∃ ys, nums (getC x i) = ys ++ [i] := by
  unfold getC
  cases hf : findC x.L i with
  | none => rw [hf] at h; cases h
  | some g => exact ⟨(dropC x.L i).map (·.1), by unfold nums; simp⟩
end Go.Proofs.YtkdkhphpknnceaaDoor.C
