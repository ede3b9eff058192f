/- A cache's spans: how many numbers they have, and which; which line is the last. -/
import Derived.Test.YthplghcpjmodeaaCAwk
import Derived.Test.YthplghcpjmodeaaHTot
namespace Go.Proofs.Ythplghcpjmodeaa.C
open Go.RowKit Go.Maps Go.Proofs.Ythplghcpjmodeaa.H

abbrev nums (x : Ca) : List Int := x.L.map (·.1)
def Within (zs : List Int) : Prop := ∀ z ∈ zs, 0 ≤ z ∧ z < 1152921504606846976
theorem cnt_one {z : Int} (h : 0 ≤ z ∧ z < 1152921504606846976) : cnt (z, z + 1) = (z, z + 1) := by
  unfold cnt near lo hi
  have e1 : min (max z (-1152921504606846976)) 1152921504606846976 = z := by omega
  have e2 : min (max (z + 1) (-1152921504606846976)) 1152921504606846976 = z + 1 := by omega
  rw [e1, e2]
theorem inx_one {n z : Int} (h : 0 ≤ z ∧ z < 1152921504606846976) : inx n (cnt (z, z + 1)) ↔ n = z := by
  rw [cnt_one h]
  unfold inx
  omega
theorem mem_spI (n : Int) {zs : List Int} (h : Within zs) : mem n (addsS [] (spI zs)) ↔ n ∈ zs := by
  rw [addsS_mem n _ _ Nm.nil]
  simp only [mem, false_or]
  constructor
  · rintro ⟨x, hx, h2⟩
    obtain ⟨z, hz, rfl⟩ := List.mem_map.1 hx
    rw [(inx_one (h z hz)).1 h2]
    exact hz
  · intro hn
    exact ⟨(n, n + 1), List.mem_map.2 ⟨n, hn, rfl⟩, (inx_one (h n hn)).2 rfl⟩
theorem mem_spansC (n : Int) {x : Ca} (h : Within (nums x)) : mem n (spansC x.L) ↔ n ∈ nums x := by
  unfold spansC
  rw [mem_spI n (fun z hz => h z ((List.mergeSort_perm _ _).mem_iff.1 hz))]
  exact (List.mergeSort_perm _ _).mem_iff
theorem Nm.spansC (x : Ca) : Nm (spansC x.L) := Nm.nil.adds _
/-- the cache's own numbers -/
theorem OneC.nodup {c : Nat} {x : Ca} {W w : World} (h : OneC c x W w) : (nums x).Nodup ∧ x.L.length ≤ x.most ∧ 1 ≤ x.most ∧ x.most ≤ 65536 := by
  obtain ⟨M, G, ⟨m, e, ns, h1, h2, h3⟩, -⟩ := h
  refine ⟨?_, h3⟩
  unfold nums
  rw [← h2, List.map_map]
  exact h1.num
theorem nums_drop {x : Ca} {i z : Int} (h : z ∈ (dropC x.L i).map (·.1)) : z ∈ nums x := by
  obtain ⟨y, hy, rfl⟩ := List.mem_map.1 h
  exact List.mem_map.2 ⟨y, (List.mem_filter.1 hy).1, rfl⟩
theorem nums_put {x : Ca} {i z : Int} {g : List (Int × Int)} (h : z ∈ nums (putC x i g).1) : z ∈ nums x ∨ z = i := by
  unfold putC at h
  split at h
  · exact .inl h
  · have key : ∀ y ∈ dropC x.L i ++ [(i, g)], y.1 ∈ nums x ∨ y.1 = i := fun y hy => by
      rcases List.mem_append.1 hy with hy | hy
      · exact .inl (nums_drop (List.mem_map.2 ⟨y, hy, rfl⟩))
      · rw [show y = (i, g) by simpa using hy]; exact .inr rfl
    split at h
    · obtain ⟨y, hy, rfl⟩ := List.mem_map.1 h
      exact key y hy
    · obtain ⟨y, hy, rfl⟩ := List.mem_map.1 h
      exact key y (List.mem_of_mem_tail hy)
theorem nums_get {x : Ca} {i z : Int} (h : z ∈ nums (getC x i)) : z ∈ nums x ∨ z = i := by
  cases hf : findC x.L i with
  | none =>
    have e : getC x i = x := by unfold getC; rw [hf]
    rw [e] at h
    exact .inl h
  | some g =>
    have e : getC x i = ⟨x.most, dropC x.L i ++ [(i, g)]⟩ := by unfold getC; rw [hf]
    rw [e] at h
    obtain ⟨y, hy, rfl⟩ := List.mem_map.1 h
    rcases List.mem_append.1 hy with hy | hy
    · exact .inl (nums_drop (List.mem_map.2 ⟨y, hy, rfl⟩))
    · rw [show y = (i, g) by simpa using hy]; exact .inr rfl
theorem put_last {x : Ca} {i : Int} {g : List (Int × Int)} (hi : 0 ≤ i ∧ i ≤ 1152921504606846976) (hm : 1 ≤ x.most) : ∃ ys, nums (putC x i g).1 = ys ++ [i] := by
  unfold putC
  rw [if_neg (by omega)]
  split
  · exact ⟨(dropC x.L i).map (·.1), by unfold nums; simp⟩
  · rename_i hl
    cases hd : dropC x.L i with
    | nil => rw [hd] at hl; simp at hl; omega
    | cons y ys => exact ⟨ys.map (·.1), by unfold nums; simp⟩
theorem get_last {x : Ca} {i : Int} (h : (findC x.L i).isSome = true) : ∃ ys, nums (getC x i) = ys ++ [i] := by
  unfold getC
  cases hf : findC x.L i with
  | none => rw [hf] at h; cases h
  | some g => exact ⟨(dropC x.L i).map (·.1), by unfold nums; simp⟩
end Go.Proofs.Ythplghcpjmodeaa.C
