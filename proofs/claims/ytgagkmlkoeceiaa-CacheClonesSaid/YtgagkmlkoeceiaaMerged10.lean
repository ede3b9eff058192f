/- The document's Add, Cut, In, Missing. -/
import Derived.Test.YtgagkmlkoeceiaaHBuW
import Derived.Test.YtgagkmlkoeceiaaCAwk
import Derived.Test.YtgagkmlkoeceiaaMerged8
namespace Go.Proofs.Ytgagkmlkoeceiaa.H
open Go.RowKit

/-- a slice of spans of the document's, in new memory -/
def RpPost (l : List Sp) (w : World) (e : Ending) (w' : World) : Prop := ∃ v, e = .returned v ∧ OwnP .i64 80 w.heap.size v l w' ∧ Below w.heap.size w w'
theorem oneS_len (x : Sp) : (oneS x).length ≤ 1 := by
  unfold oneS
  split <;> simp
set_option maxRecDepth 100000 in
set_option maxHeartbeats 4000000 in
theorem radd_any (a : Option Addr) (n c : Nat) (l : List Sp) (x1 x2 : Int) (w : World) (h : PairsIn .i64 a n c l w) (hnil : a = none → c = 0) (hn : Nm l) (hl : n ≤ 1000) :
    Calls Try.prog 34 #[.slice a n c, .agg #[.int .i64 x1, .int .i64 x2]] w (RpPost (addS l (x1, x2)) w) := by
  obtain ⟨P, hP⟩ : ∃ P, RpPost (addS l (x1, x2)) w = P := ⟨_, rfl⟩
  rw [hP]
  have HP := Lib.hid hP
  obtain ⟨w1, hw1⟩ : ∃ w1, w1 = w.alloc (.cells #[.int .i64 x1, .int .i64 x2] 80) := ⟨_, rfl⟩
  have hb1 : Below w.heap.size w w1 := by rw [hw1]; exact alloc_below w _
  have H := Lib.hid (And.intro (h.belowAll hb1) hnil)
  have HNm := Lib.hid hn
  have HB1 := Lib.hid hb1
  have HO := Lib.hid (one_any x1 x2 w1)
  have HW1 := Lib.hid hw1
  clear hP h hnil hn hb1 hw1
  go_enter Try.func34, Try.ntmps34
  go_wp2_with fail
  rw [← HW1.out]
  refine HO.out.mono ?_
  rintro e w2 ⟨a2, c2, rfl, hI2, hn2, hb2⟩
  have hC : Calls Try.prog 42 #[.slice a n c, .slice a2 (oneS (x1, x2)).length c2, .int .i64 0] w2 _ := build_any 0 (by decide) a n c l a2 _ c2 (oneS (x1, x2)) w2 (H.out.1.belowAll hb2) hI2 H.out.2 hn2 hl (by have := oneS_len (x1, x2); omega)
  rw [build_add HNm.out] at hC
  have HC := Lib.hid hC
  have HB2 : Hid (Below w.heap.size w w2) := Lib.hid (HB1.out.trans (hb2.mono HB1.out.size))
  clear hI2 hn2 hb2 hC HO
  go_wp2_with fail
  refine HC.out.mono ?_
  rintro e w3 ⟨v, rfl, ho, hb3⟩
  have hfin : OwnP .i64 80 w.heap.size v (addS l (x1, x2)) w3 ∧ Below w.heap.size w w3 := ⟨ho.weaken HB2.out.size, HB2.out.trans (hb3.mono HB2.out.size)⟩
  have HF := Lib.hid hfin
  clear ho hb3 hfin HC
  go_wp2_with fail
  rw [← HP.out]
  exact ⟨v, rfl, HF.out.1, HF.out.2⟩
end Go.Proofs.Ytgagkmlkoeceiaa.H

/- A cache's spans: how many numbers they have, and which; which line is the last. -/
namespace Go.Proofs.Ytgagkmlkoeceiaa.C
open Go.RowKit Go.Maps Go.Proofs.Ytgagkmlkoeceiaa.H

abbrev nums (x : Ca) : List Int := x.L.map (·.1)
def Within (zs : List Int) : Prop := ∀ z ∈ zs, 0 ≤ z ∧ z < 1152921504606846976
theorem Nm.spansC (x : Ca) : Nm (spansC x.L) := Nm.nil.adds _
theorem spansC_len (x : Ca) : (spansC x.L).length ≤ x.L.length := by
  have h7 := addsS_len [] (spI (sortI (nums x)))
  have h8 : (spI (sortI (nums x))).length = x.L.length := by unfold spI; rw [List.length_map, List.length_mergeSort, List.length_map]
  simp only [List.length_nil] at h7
  show (addsS [] (spI (sortI (nums x)))).length ≤ x.L.length
  omega
/-- the cache's own numbers -/
theorem OneC.nodup {c : Nat} {x : Ca} {W w : World} (h : OneC c x W w) : (nums x).Nodup ∧ x.L.length ≤ x.most ∧ 1 ≤ x.most ∧ x.most ≤ 65536 := by
  obtain ⟨M, G, ⟨m, e, ns, h1, h2, h3⟩, -⟩ := h
  refine ⟨?_, h3⟩
  unfold nums
  rw [← h2, List.map_map]
  exact h1.num
theorem nums_drop {x : Ca} {i z : Int} (h : z ∈ (dropC x.L i).map (·.1)) : z ∈ nums x := by
  obtain ⟨y, hy, rfl⟩ := List.mem_map.1 h
  exact List.mem_map.2 ⟨y, (List.mem_filter.1 hy).1, rfl⟩
theorem nums_put {x : Ca} {i z : Int} {g : List (Int × Int)} (h : z ∈ nums (putC x i g).1) : z ∈ nums x ∨ z = i := by
  unfold putC at h
  split at h
  · exact .inl h
  · have key : ∀ y ∈ dropC x.L i ++ [(i, g)], y.1 ∈ nums x ∨ y.1 = i := fun y hy => by
      rcases List.mem_append.1 hy with hy | hy
      · exact .inl (nums_drop (List.mem_map.2 ⟨y, hy, rfl⟩))
      · rw [show y = (i, g) by simpa using hy]; exact .inr rfl
    split at h
    · obtain ⟨y, hy, rfl⟩ := List.mem_map.1 h
      exact key y hy
    · obtain ⟨y, hy, rfl⟩ := List.mem_map.1 h
      exact key y (List.mem_of_mem_tail hy)
theorem nums_get {x : Ca} {i z : Int} (h : z ∈ nums (getC x i)) : z ∈ nums x ∨ z = i := by
  cases hf : findC x.L i with
  | none =>
    have e : getC x i = x := by unfold getC; rw [hf]
    rw [e] at h
    exact .inl h
  | some g =>
    have e : getC x i = ⟨x.most, dropC x.L i ++ [(i, g)]⟩ := by unfold getC; rw [hf]
    rw [e] at h
    obtain ⟨y, hy, rfl⟩ := List.mem_map.1 h
    rcases List.mem_append.1 hy with hy | hy
    · exact .inl (nums_drop (List.mem_map.2 ⟨y, hy, rfl⟩))
    · rw [show y = (i, g) by simpa using hy]; exact .inr rfl
theorem most_put (x : Ca) (i : Int) (g : List (Int × Int)) : (putC x i g).1.most = x.most := by
  unfold putC
  split
  · rfl
  · split <;> rfl
theorem put_last {x : Ca} {i : Int} {g : List (Int × Int)} (hi : 0 ≤ i ∧ i ≤ 1152921504606846976) (hm : 1 ≤ x.most) : ∃ ys, nums (putC x i g).1 = ys ++ [i] := by
  unfold putC
  rw [if_neg (by omega)]
  split
  · exact ⟨(dropC x.L i).map (·.1), by unfold nums; simp⟩
  · rename_i hl
    cases hd : dropC x.L i with
    | nil => rw [hd] at hl; simp at hl; omega
    | cons y ys => exact ⟨ys.map (·.1), by unfold nums; simp⟩
theorem get_last {x : Ca} {i : Int} (h : (findC x.L i).isSome = true) : ∃ ys, nums (getC x i) = ys ++ [i] := by
  unfold getC
  cases hf : findC x.L i with
  | none => rw [hf] at h; cases h
  | some g => exact ⟨(dropC x.L i).map (·.1), by unfold nums; simp⟩
end Go.Proofs.Ytgagkmlkoeceiaa.C
