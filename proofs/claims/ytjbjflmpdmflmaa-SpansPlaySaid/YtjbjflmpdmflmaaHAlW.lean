/- SpansAll: of a span's numbers each is either in a set, or missing. -/
import Derived.Test.YtjbjflmpdmflmaaHFit
import Derived.Test.YtjbjflmpdmflmaaRelP
namespace Go.Proofs.Ytjbjflmpdmflmaa.H
open Go.RowKit

theorem tot_take_pos : ∀ {l : List Sp} {k : Nat}, (∀ x ∈ l, x.1 ≤ x.2) → 0 ≤ tot (l.take k) ∧ tot (l.take k) ≤ tot l
  | [], k, _ => by simp [tot]
  | x :: l, 0, h => by
    have h1 := tot_take_pos (l := l) (k := l.length) (fun y hy => h y (List.mem_cons_of_mem _ hy))
    rw [List.take_length] at h1
    have := h x List.mem_cons_self
    simp only [List.take_zero, tot]; omega
  | x :: l, k + 1, h => by
    have h1 := tot_take_pos (l := l) (k := k) (fun y hy => h y (List.mem_cons_of_mem _ hy))
    have := h x List.mem_cons_self
    simp only [List.take_succ_cons, tot]; omega
theorem Nm.span {l : List Sp} (h : Nm l) {x : Sp} (hx : x ∈ l) : lo ≤ x.1 ∧ x.1 ≤ x.2 ∧ x.2 ≤ hi := by
  obtain ⟨i, hi⟩ := List.mem_iff_getElem?.1 hx
  exact ⟨h.1.begins x hx, Int.le_of_lt (h.1.full i x hi), h.2 x hx⟩
end Go.Proofs.Ytjbjflmpdmflmaa.H
