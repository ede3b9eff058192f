/- Cut of a set, of one span. -/
import Derived.Test.YthplghcpjmodeaaHAdd
namespace Go.Proofs.Ythplghcpjmodeaa.H
open Go.RowKit Go.Shelf

attribute [local go_sem] Oper.semAt_some

/-- the states of a drawn region with two loud operations -/
def DuoS (C0 : World → Prop) (C2 : Value → World → Prop) (C3 : World → Prop) (s2 : Nat) : Nat → (Nat → Value) → World → Prop
  | 0, _, u => C0 u
  | 1, f, u => C2 (f s2) u
  | _, _, u => C3 u
theorem DuoS.cong {C0 : World → Prop} {C2 : Value → World → Prop} {C3 : World → Prop} {s2 k : Nat} {f f2 : Nat → Value} {u : World} (e2 : k = 1 → f s2 = f2 s2) (h : DuoS C0 C2 C3 s2 k f u) : DuoS C0 C2 C3 s2 k f2 u := by
  match k, h, e2 with
  | 0, h, _ => exact h
  | 1, h, e2 => show C2 (f2 s2) u; rw [← e2 rfl]; exact h
  | _ + 2, h, _ => exact h
theorem DuoS.base {w6 : World} {C2 : Value → World → Prop} {C3 : World → Prop} {s2 k : Nat} {f : Nat → Value} {u : World} (hk : k = 0) (h : DuoS (fun u => Below w6.heap.size w6 u) C2 C3 s2 k f u) : Below w6.heap.size w6 u := by
  subst hk
  exact h
/-- what stands when a span is cut -/
def CutE (b : Nat) (M : List Nat) (out : List Sp) (w : World) (D : Nat) (u : World) : Prop := (∃ M', St b M' out u ∧ KeepB M w u ∧ (∀ p ∈ M', p ∈ M ∨ w.heap.size ≤ p) ∧ ∀ p ∈ M', p ≠ D) ∧ u.heap[D]? = some (.deferred (some []))
theorem CutE.post {b : Nat} {M : List Nat} {out : List Sp} {w W : World} {D : Nat} (h : CutE b M out w D W) (hD : w.heap.size ≤ D) : ChPost b M out w (.returned (.tuple #[])) (W.putObj D (.deferred none)) := by
  obtain ⟨⟨M', ⟨vl, h1⟩, h2, h3, hne⟩, h4⟩ := h
  refine ⟨rfl, M', ⟨vl, h1.moved (by simp) (fun p hp => World.putObj_heap_other (hne p hp))⟩, ?_, h3⟩
  exact h2.two (L := [D]) ⟨rfl, rfl, rfl, by simp, fun i hi hn => World.putObj_heap_other (fun e => hn (by simp [e]))⟩ (fun p hp => .inr (by rw [show p = D by simpa using hp]; exact hD))
end Go.Proofs.Ythplghcpjmodeaa.H
