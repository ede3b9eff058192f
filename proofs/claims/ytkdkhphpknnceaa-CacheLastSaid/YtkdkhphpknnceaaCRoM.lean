/- Lines of numbers in a row, put and asked for where there is room. -/
import Derived.Test.YtkdkhphpknnceaaCSpW
import Derived.Test.YtkdkhphpknnceaaCTold
namespace Go.Proofs.Ytkdkhphpknnceaa.C
open Go.RowKit Go.Maps Go.Proofs.Ytkdkhphpknnceaa.H

abbrev Ent := Int × List (Int × Int)
theorem drop_one {A B : List Ent} {x : Ent} (h : ((A ++ x :: B).map (·.1)).Nodup) : dropC (A ++ x :: B) x.1 = A ++ B := by
  rw [List.map_append, List.map_cons] at h
  have h9 := List.nodup_append.1 h
  unfold dropC
  rw [List.filter_append, List.filter_cons]
  have e2 : (!(x.1 == x.1)) = false := by simp
  rw [e2, if_neg (by decide), List.filter_eq_self.2, List.filter_eq_self.2]
  · intro z hz
    have : z.1 ≠ x.1 := fun e => (List.nodup_cons.1 h9.2.1).1 (by rw [← e]; exact List.mem_map.2 ⟨z, hz, rfl⟩)
    simpa using this
  · intro z hz
    have : z.1 ≠ x.1 := fun e => h9.2.2 z.1 (List.mem_map.2 ⟨z, hz, rfl⟩) x.1 (by simp) e
    simpa using this
theorem take_snocE (A : List Ent) (k : Nat) (x : Ent) (h : A[k]? = some x) : A.take (k + 1) = A.take k ++ [x] := by
  obtain ⟨hk, he⟩ := List.getElem?_eq_some_iff.1 h
  rw [List.take_succ_eq_append_getElem hk, he]
theorem drop_consE (A : List Ent) (k : Nat) (x : Ent) (h : A[k]? = some x) : A.drop k = x :: A.drop (k + 1) := by
  obtain ⟨hk, he⟩ := List.getElem?_eq_some_iff.1 h
  rw [List.drop_eq_getElem_cons hk, he]
/-- numbers in a row -/
def InRow (f : Int) (A : List Ent) : Prop := ∀ (k : Nat) (x : Ent), A[k]? = some x → x.1 = f + k
theorem InRow.nodup {f : Int} {A : List Ent} (h : InRow f A) : (A.map (·.1)).Nodup := by
  rw [List.nodup_iff_pairwise_ne, List.pairwise_iff_getElem]
  intro i j hi hj hij
  rw [List.getElem_map, List.getElem_map]
  have hi' : i < A.length := by simpa using hi
  have hj' : j < A.length := by simpa using hj
  have h1 := h i A[i] (List.getElem?_eq_getElem hi')
  have h2 := h j A[j] (List.getElem?_eq_getElem hj')
  omega
theorem InRow.mem {f : Int} {A : List Ent} (h : InRow f A) (v : Int) : v ∈ A.map (·.1) ↔ f ≤ v ∧ v < f + A.length := by
  constructor
  · intro hv
    obtain ⟨x, hx, rfl⟩ := List.mem_map.1 hv
    obtain ⟨k, hk, he⟩ := List.mem_iff_getElem.1 hx
    have h1 := h k x (by rw [List.getElem?_eq_getElem hk, he])
    omega
  · rintro ⟨h1, h2⟩
    have hk : (v - f).toNat < A.length := by omega
    have h3 := h (v - f).toNat A[(v - f).toNat] (List.getElem?_eq_getElem hk)
    exact List.mem_map.2 ⟨_, List.getElem_mem hk, by rw [h3]; omega⟩
end Go.Proofs.Ytkdkhphpknnceaa.C
