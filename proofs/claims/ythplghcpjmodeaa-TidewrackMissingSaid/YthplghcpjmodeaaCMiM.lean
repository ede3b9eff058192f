/- Lines that are missing: what is put where there is room. -/
import Derived.Test.YthplghcpjmodeaaCSpW
namespace Go.Proofs.Ythplghcpjmodeaa.C
open Go.RowKit Go.Maps Go.Proofs.Ythplghcpjmodeaa.H

theorem nodup_len : ∀ (k : Nat) (zs : List Int), zs.Nodup → (∀ z ∈ zs, 0 ≤ z ∧ z < k) → zs.length ≤ k
  | 0, zs, _, h => by
    cases zs with
    | nil => simp
    | cons z zs => have := h z (by simp); omega
  | k + 1, zs, hn, h => by
    by_cases hm : (k : Int) ∈ zs
    · have h1 := nodup_len k (zs.erase (k : Int)) (hn.erase _) (fun z hz => by
        have h2 := (hn.mem_erase_iff).1 hz
        have h3 := h z h2.2
        have h4 := h2.1
        omega)
      rw [List.length_erase_of_mem hm] at h1
      omega
    · have h1 := nodup_len k zs hn (fun z hz => by
        have h3 := h z hz
        have h4 : z ≠ k := fun e => hm (by rw [← e]; exact hz)
        omega)
      omega
/-- a cache with room for all of these numbers -/
def Roomy (x : Ca) : Prop := x.most = 64 ∧ ∀ z ∈ nums x, 0 ≤ z ∧ z < 47
theorem Roomy.within {x : Ca} (h : Roomy x) : Within (nums x) := fun z hz => by have := h.2 z hz; omega
theorem put_room {x : Ca} {i : Int} (hn : (nums x).Nodup) (h : Roomy x) (hi : 0 ≤ i ∧ i < 47) : (putC x i []).2 = (0, false) ∧ Roomy (putC x i []).1 ∧ ∀ v, v ∈ nums (putC x i []).1 ↔ v ∈ nums x ∨ v = i := by
  have hsub : ((dropC x.L i).map (·.1)).Sublist (nums x) := List.Sublist.map _ List.filter_sublist
  have hni : i ∉ (dropC x.L i).map (·.1) := fun hm => by
    obtain ⟨y, hy, he⟩ := List.mem_map.1 hm
    have h9 := (List.mem_filter.1 hy).2
    rw [he] at h9
    simp at h9
  have hnd : ((dropC x.L i ++ [(i, ([] : List (Int × Int)))]).map (·.1)).Nodup := by
    rw [List.map_append]
    exact List.nodup_append.2 ⟨hn.sublist hsub, by simp, fun a ha b hb e => by
      have hb' : b = i := by simpa using hb
      rw [e, hb'] at ha
      exact hni ha⟩
  have hw : ∀ z ∈ (dropC x.L i ++ [(i, ([] : List (Int × Int)))]).map (·.1), 0 ≤ z ∧ z < ((47 : Nat) : Int) := fun z hz => by
    rw [List.map_append] at hz
    rcases List.mem_append.1 hz with hz | hz
    · exact h.2 z (hsub.subset hz)
    · rw [show z = i by simpa using hz]; exact hi
  have hl := nodup_len 47 _ hnd hw
  rw [List.length_map] at hl
  have e : putC x i [] = (⟨x.most, dropC x.L i ++ [(i, [])]⟩, 0, false) := by
    unfold putC
    rw [if_neg (by omega), if_pos (by rw [h.1]; omega)]
  rw [e]
  refine ⟨rfl, ⟨h.1, hw⟩, fun v => ?_⟩
  show v ∈ (dropC x.L i ++ [(i, ([] : List (Int × Int)))]).map (fun y => y.1) ↔ _
  rw [List.map_append, List.mem_append]
  constructor
  · rintro (h9 | h9)
    · exact .inl (hsub.subset h9)
    · exact .inr (by simpa using h9)
  · intro h9
    by_cases e9 : v = i
    · exact .inr (by simp [e9])
    · rcases h9 with h9 | h9
      · obtain ⟨y, hy, he⟩ := List.mem_map.1 h9
        have h10 : (!(y.1 == i)) = true := by rw [he]; simpa using e9
        exact .inl (List.mem_map.2 ⟨y, List.mem_filter.2 ⟨hy, h10⟩, he⟩)
      · exact absurd h9 e9
theorem cnt_of {x : Sp} (h1 : -1152921504606846976 ≤ x.1) (h2 : x.1 ≤ x.2) (h3 : x.2 ≤ 1152921504606846976) : cnt x = x := by
  unfold cnt near lo hi
  have e1 : min (max x.1 (-1152921504606846976)) 1152921504606846976 = x.1 := by omega
  have e2 : min (max x.2 (-1152921504606846976)) 1152921504606846976 = x.2 := by omega
  rw [e1, e2]
theorem mem_copy (n : Int) {S : List Sp} (h : Nm S) : mem n (addsS [] S) ↔ mem n S := by
  rw [addsS_mem n _ _ Nm.nil, mem_iff n S]
  simp only [mem, false_or]
  constructor
  · rintro ⟨y, hy, h2⟩
    have h3 := Norm.in_ h.1 y hy
    have h4 := h.2 y hy
    rw [cnt_of h3.1 (by omega) h4] at h2
    exact ⟨y, hy, h2⟩
  · rintro ⟨y, hy, h2⟩
    have h3 := Norm.in_ h.1 y hy
    have h4 := h.2 y hy
    exact ⟨y, hy, by rw [cnt_of h3.1 (by omega) h4]; exact h2⟩
theorem copy_eq {S : List Sp} (h : Nm S) : addsS [] S = S := Nm.ext (Nm.nil.adds _) h (fun n => mem_copy n h)
/-- of a range each number is there or missing -/
theorem tot_both {T : List Sp} (h : Nm T) {f z : Nat} (hf : f ≤ 31) (hz : z ≤ 15) : tot (missS T ((f : Int), (f : Int) + z)) + tot (inS T ((f : Int), (f : Int) + z)) = z := by
  have hc : cnt ((f : Int), (f : Int) + z) = ((f : Int), (f : Int) + z) := cnt_of (by show _ ≤ (f : Int); omega) (by show (f : Int) ≤ f + z; omega) (by show (f : Int) + z ≤ _; omega)
  have h1 := tot_sum (a := missS T ((f : Int), (f : Int) + z)) (b := inS T ((f : Int), (f : Int) + z)) (c := addS [] ((f : Int), (f : Int) + z)) (h.miss _) (h.in_ _) (Nm.nil.add _) (fun n => ?_) (fun n => ?_)
  · rw [h1]
    unfold addS
    rw [hc]
    split
    · show ((f : Int) + z - f) + 0 = z
      omega
    · rename_i h9
      have h9 : ¬ (f : Int) < (f : Int) + z := h9
      show (0 : Int) = z
      omega
  · rw [missS_mem n h, inS_mem n h]
    rintro ⟨⟨-, h2⟩, -, h3⟩
    exact h2 h3
  · rw [missS_mem n h, inS_mem n h, addS_mem n Nm.nil]
    simp only [mem, or_false]
    constructor
    · intro h2
      by_cases h3 : mem n T
      · exact .inr ⟨h2, h3⟩
      · exact .inl ⟨h2, h3⟩
    · rintro (⟨h2, -⟩ | ⟨h2, -⟩) <;> exact h2
theorem miss_none {T : List Sp} (h : Nm T) {x : Sp} (hm : ∀ n, inx n (cnt x) → mem n T) : missS T x = [] :=
  Nm.ext (h.miss x) Nm.nil (fun n => by
    rw [missS_mem n h]
    simp only [mem, iff_false]
    rintro ⟨h1, h2⟩
    exact h2 (hm n h1))
/-- the spans ahead of one end ahead of it -/
theorem Norm.ahead : ∀ {l : List Sp} {b : Int} {j : Nat} {x : Sp}, Norm b l → l[j]? = some x → ∀ n, mem n (l.take j) → n < x.1
  | [], _, _, _, _, h, _, _ => by simp at h
  | y :: l, b, 0, x, _, _, n, h => by simp [mem] at h
  | y :: l, b, j + 1, x, hn, hx, n, h => by
    have hx' : l[j]? = some x := by simpa using hx
    have h1 := Norm.in_ hn.2.2 x (List.mem_of_getElem? hx')
    rw [List.take_succ_cons] at h
    rcases h with h | h
    · have := h.2; omega
    · exact Norm.ahead hn.2.2 hx' n h
theorem mem_take (n : Int) {l : List Sp} {j : Nat} {x : Sp} (hx : l[j]? = some x) : mem n (l.take (j + 1)) ↔ mem n (l.take j) ∨ inx n x := by
  have hj := List.getElem?_eq_some_iff.1 hx
  rw [List.take_succ_eq_append_getElem hj.1, hj.2, mem_append]
  simp [mem]
end Go.Proofs.Ythplghcpjmodeaa.C
