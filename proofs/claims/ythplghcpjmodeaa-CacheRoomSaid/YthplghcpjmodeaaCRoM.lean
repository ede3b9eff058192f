/- Lines of numbers in a row, put and asked for where there is room. -/
import Derived.Test.YthplghcpjmodeaaCSpW
import Derived.Test.YthplghcpjmodeaaCTold
namespace Go.Proofs.Ythplghcpjmodeaa.C
open Go.RowKit Go.Maps Go.Proofs.Ythplghcpjmodeaa.H

abbrev Ent := Int × List (Int × Int)
theorem drop_one {A B : List Ent} {x : Ent} (h : ((A ++ x :: B).map (·.1)).Nodup) : dropC (A ++ x :: B) x.1 = A ++ B := by
  rw [List.map_append, List.map_cons] at h
  have h9 := List.nodup_append.1 h
  unfold dropC
  rw [List.filter_append, List.filter_cons]
  have e2 : (!(x.1 == x.1)) = false := by simp
  rw [e2, if_neg (by decide), List.filter_eq_self.2, List.filter_eq_self.2]
  · intro z hz
    have : z.1 ≠ x.1 := fun e => (List.nodup_cons.1 h9.2.1).1 (by rw [← e]; exact List.mem_map.2 ⟨z, hz, rfl⟩)
    simpa using this
  · intro z hz
    have : z.1 ≠ x.1 := fun e => h9.2.2 z.1 (List.mem_map.2 ⟨z, hz, rfl⟩) x.1 (by simp) e
    simpa using this
theorem take_snocE (A : List Ent) (k : Nat) (x : Ent) (h : A[k]? = some x) : A.take (k + 1) = A.take k ++ [x] := by
  obtain ⟨hk, he⟩ := List.getElem?_eq_some_iff.1 h
  rw [List.take_succ_eq_append_getElem hk, he]
theorem drop_consE (A : List Ent) (k : Nat) (x : Ent) (h : A[k]? = some x) : A.drop k = x :: A.drop (k + 1) := by
  obtain ⟨hk, he⟩ := List.getElem?_eq_some_iff.1 h
  rw [List.drop_eq_getElem_cons hk, he]
theorem not_ahead {A : List Ent} (hn : (A.map (·.1)).Nodup) {k : Nat} {x : Ent} (h : A[k]? = some x) : ∀ z ∈ A.take k, z.1 ≠ x.1 := fun z hz e => by
  have h1 : A = A.take k ++ x :: A.drop (k + 1) := by rw [← drop_consE A k x h, List.take_append_drop]
  rw [h1, List.map_append, List.map_cons] at hn
  exact (List.nodup_append.1 hn).2.2 z.1 (List.mem_map.2 ⟨z, hz, rfl⟩) x.1 (by simp) e
theorem put_row {A : List Ent} {k m : Nat} {x : Ent} (hn : (A.map (·.1)).Nodup) (h : A[k]? = some x) (hm : A.length ≤ m) (hx : 0 ≤ x.1 ∧ x.1 ≤ 1152921504606846976) : putC ⟨m, A.take k⟩ x.1 x.2 = (⟨m, A.take (k + 1)⟩, 0, false) := by
  have hk := (List.getElem?_eq_some_iff.1 h).1
  unfold putC
  have e1 : dropC (A.take k) x.1 ++ [(x.1, x.2)] = A.take (k + 1) := by
    rw [take_snocE A k x h, drop_none (not_ahead hn h)]
  rw [if_neg (by omega), e1, if_pos (by rw [List.length_take]; show min (k + 1) A.length ≤ m; omega)]
theorem turned_nodup {A : List Ent} (hn : (A.map (·.1)).Nodup) (k : Nat) : ((A.drop k ++ A.take k).map (·.1)).Nodup := by
  have hp : (A.drop k ++ A.take k).Perm A := by
    have := List.perm_append_comm (l₁ := A.drop k) (l₂ := A.take k)
    rw [List.take_append_drop] at this
    exact this
  exact (hp.map _).nodup_iff.2 hn
theorem find_row {A : List Ent} {k : Nat} {x : Ent} (h : A[k]? = some x) : findC (A.drop k ++ A.take k) x.1 = some x.2 := by
  rw [drop_consE A k x h]
  unfold findC
  rw [List.cons_append, List.find?_cons]
  simp
theorem get_row {A : List Ent} {k m : Nat} {x : Ent} (hn : (A.map (·.1)).Nodup) (h : A[k]? = some x) : getC ⟨m, A.drop k ++ A.take k⟩ x.1 = ⟨m, A.drop (k + 1) ++ A.take (k + 1)⟩ := by
  have e : getC ⟨m, A.drop k ++ A.take k⟩ x.1 = ⟨m, dropC (A.drop k ++ A.take k) x.1 ++ [(x.1, x.2)]⟩ := by
    unfold getC
    rw [show findC (⟨m, A.drop k ++ A.take k⟩ : Ca).L x.1 = some x.2 from find_row h]
  rw [e]
  have h1 := turned_nodup hn k
  rw [drop_consE A k x h] at h1 ⊢
  have h2 := drop_one (A := []) (B := A.drop (k + 1) ++ A.take k) (x := x) (by simpa using h1)
  simp only [List.nil_append] at h2
  rw [List.cons_append, h2, take_snocE A k x h, List.append_assoc]
theorem put_full {A : List Ent} {m : Nat} {i : Int} (hm : A.length = m) (h1 : 1 ≤ m) (hi : 0 ≤ i ∧ i ≤ 1152921504606846976) (hno : ∀ z ∈ A, z.1 ≠ i) : (putC ⟨m, A⟩ i []).2 = ((A.headD (0, [])).1, true) := by
  unfold putC
  rw [if_neg (by omega)]
  show (if (dropC A i ++ [(i, ([] : List (Int × Int)))]).length ≤ m then _ else _ : Ca × Int × Bool).2 = _
  rw [drop_none hno, if_neg (by simp; omega)]
  cases A with
  | nil => simp at hm; omega
  | cons a A => rfl
/-- numbers in a row -/
def InRow (f : Int) (A : List Ent) : Prop := ∀ (k : Nat) (x : Ent), A[k]? = some x → x.1 = f + k
theorem InRow.nodup {f : Int} {A : List Ent} (h : InRow f A) : (A.map (·.1)).Nodup := by
  rw [List.nodup_iff_pairwise_ne, List.pairwise_iff_getElem]
  intro i j hi hj hij
  rw [List.getElem_map, List.getElem_map]
  have hi' : i < A.length := by simpa using hi
  have hj' : j < A.length := by simpa using hj
  have h1 := h i A[i] (List.getElem?_eq_getElem hi')
  have h2 := h j A[j] (List.getElem?_eq_getElem hj')
  omega
theorem InRow.mem {f : Int} {A : List Ent} (h : InRow f A) (v : Int) : v ∈ A.map (·.1) ↔ f ≤ v ∧ v < f + A.length := by
  constructor
  · intro hv
    obtain ⟨x, hx, rfl⟩ := List.mem_map.1 hv
    obtain ⟨k, hk, he⟩ := List.mem_iff_getElem.1 hx
    have h1 := h k x (by rw [List.getElem?_eq_getElem hk, he])
    omega
  · rintro ⟨h1, h2⟩
    have hk : (v - f).toNat < A.length := by omega
    have h3 := h (v - f).toNat A[(v - f).toNat] (List.getElem?_eq_getElem hk)
    exact List.mem_map.2 ⟨_, List.getElem_mem hk, by rw [h3]; omega⟩
theorem spans_row {f : Int} {A : List Ent} {m : Nat} (h : InRow f A) (hf : 0 ≤ f ∧ f ≤ 65535) (hl : A.length ≤ 20) (h1 : 1 ≤ A.length) : spansC A = [(f, f + A.length)] := by
  have hw : Within (nums ⟨m, A⟩) := fun z hz => by have := (h.mem z).1 hz; omega
  refine Nm.ext (Nm.spansC ⟨m, A⟩) ⟨⟨by show lo ≤ f; unfold lo; omega, by show f < f + A.length; omega, trivial⟩, fun x hx => ?_⟩ (fun n => ?_)
  · rw [show x = (f, f + (A.length : Int)) by simpa using hx]
    show f + (A.length : Int) ≤ hi
    unfold hi
    omega
  · rw [mem_spansC (x := ⟨m, A⟩) n hw]
    show n ∈ A.map (·.1) ↔ _
    rw [h.mem]
    simp [mem, inx]
end Go.Proofs.Ythplghcpjmodeaa.C
