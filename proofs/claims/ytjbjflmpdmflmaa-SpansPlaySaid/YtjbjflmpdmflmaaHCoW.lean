/- SpansCounts: as many numbers are in a set as Has tells, one by one. -/
import Derived.Test.YtjbjflmpdmflmaaHTot
namespace Go.Proofs.Ytjbjflmpdmflmaa.H
open Go.RowKit

theorem SActsIn.one {a : Option Addr} {n c : Nat} {l : List (Bool × Sp)} {w : World} (h : SActsIn a n c l w) {k : Nat} (hk : k < n) : ∃ g off x, a = some ⟨g, off, none⟩ ∧ g < w.heap.size ∧ l[k]? = some x ∧ w.cell? ⟨g, off + k * 3, none⟩ = some (.bool x.1) ∧ w.cell? ⟨g, off + k * 3 + 1, none⟩ = some (.int .i64 x.2.1) ∧ w.cell? ⟨g, off + k * 3 + 2, none⟩ = some (.int .i64 x.2.2) := by
  obtain ⟨x, hx⟩ : ∃ x, l[k]? = some x := ⟨_, List.getElem?_eq_getElem (by rw [← h.len]; exact hk)⟩
  obtain ⟨g, off, ha, hg, hi⟩ := h.at_.resolve_left (by intro e; rw [e] at hx; cases hx)
  exact ⟨g, off, x, ha, hg, hx, (hi k x hx).1, (hi k x hx).2.1, (hi k x hx).2.2⟩
theorem len_tot : ∀ {l : List Sp} {b : Int}, Norm b l → (l.length : Int) ≤ tot l
  | [], _, _ => by simp [tot]
  | x :: l, b, h => by
    have := len_tot h.2.2
    have := h.2.1
    simp only [List.length_cons, tot]
    omega
/-- spans of 0 to 62 -/
def Few (l : List Sp) : Prop := Norm 0 l ∧ Top 63 l
theorem Few.nil : Few [] := ⟨trivial, fun x hx => by cases hx⟩
theorem Few.len {l : List Sp} (h : Few l) : l.length ≤ 63 := by
  have h1 := len_tot h.1
  have h2 := tot_bound h.1 h.2
  by_cases hl : l = []
  · subst hl; simp
  · have := h2.2 hl; omega
theorem few_cnt {A C : Nat} (hA : A ≤ 63) (hC : C ≤ 63) : cnt ((A : Int), (C : Int)) = ((A : Int), (C : Int)) := by
  unfold cnt
  simp only
  rw [near_id (by unfold lo; omega) (by unfold hi; omega), near_id (by unfold lo; omega) (by unfold hi; omega)]
theorem Few.add {l : List Sp} (h : Few l) {A C : Nat} (hA : A ≤ 63) (hC : C ≤ 63) : Few (addS l ((A : Int), (C : Int))) := by
  unfold addS
  rw [few_cnt hA hC]
  split
  · rename_i hlt
    exact ⟨addR_norm _ _ _ h.1 hlt (by simp only; omega), addR_top _ _ _ h.2 (by simp only; omega)⟩
  · exact h
theorem Few.cut {l : List Sp} (h : Few l) {A C : Nat} (hA : A ≤ 63) (hC : C ≤ 63) : Few (cutS l ((A : Int), (C : Int))) := by
  unfold cutS
  rw [few_cnt hA hC]
  split
  · rename_i hlt
    exact ⟨leftL_norm _ _ (one_norm hlt) _ _ h.1, leftL_top _ _ _ (one_norm hlt) _ h.2⟩
  · exact h
theorem Few.tot {l : List Sp} (h : Few l) : num (fun n => mem n l) (-1) 66 = tot l := tot_num (h.1.mono (by decide)) (h.2.mono (by decide))
theorem Few.out {l : List Sp} (h : Few l) {n : Int} (hn : n < 0 ∨ 63 ≤ n) : hasS n l = false := by
  cases hh : hasS n l with
  | false => rfl
  | true =>
    have hm := (hasS_mem n l).1 hh
    have h1 := h.1.low hm
    have h2 := h.2.high hm
    omega
end Go.Proofs.Ytjbjflmpdmflmaa.H
