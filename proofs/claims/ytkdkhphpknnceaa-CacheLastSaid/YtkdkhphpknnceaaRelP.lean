/- A region that draws its order, some of whose operations come up one behind the other: what holds behind the k-th of these is told; the others may come up at any time. -/
import Derived.Test.YtkdkhphpknnceaaRelA
namespace Go.Proofs.Ytkdkhphpknnceaa.R
open Go

section
variable {P : Program} {ops : Array Oper} {Q : Exit → Act → World → Prop}
/-- what a slot holds -/
def slot (a : Act) : Nat → Value := fun s => a.tmps.getD s undef
/-- the slots of the first k of these operations, and of those that they wait for -/
def slotsP (ops : Array Oper) (cs : List Nat) (k : Nat) : List Nat :=
  (cs.take k).flatMap fun c => match ops[c]? with
    | none => []
    | some o => (match o.dst with | some d => [d] | none => []) ++ (o.after.toList.filter (fun e => Region.binds .any e)).flatMap fun e => match ops[e.on]? with
      | none => []
      | some o' => match o'.dst with | some d => [d] | none => []
theorem mem_slots {ops : Array Oper} {cs : List Nat} {k s : Nat} (h : (slotsP ops cs k).contains s = true) : s ∈ slotsP ops cs k := by simpa using h
/-- these operations wait for one another -/
def chainB (ops : Array Oper) (cs : List Nat) : Bool :=
  (List.range cs.length).all fun j => match cs[j]? with
    | none => true
    | some c => (match ops[c]? with
      | none => false
      | some o => match j with
        | 0 => true
        | j' + 1 => match cs[j']? with
          | none => false
          | some c' => o.after.toList.any fun e => Region.binds .any e && e.on == c') && (List.range j).all fun i => cs[i]? != some c
theorem slot_put {a : Act} {d s : Nat} {v : Value} (h : s ≠ d) : slot (a.put (some d) v) s = slot a s := by
  unfold slot Act.put
  simp only [Array.getD_eq_getD_getElem?]
  rw [Array.getElem?_setIfInBounds, if_neg (fun e => h e.symm)]
theorem slot_same {a : Act} {d : Nat} {v : Value} (h : d < a.tmps.size) : slot (a.put (some d) v) d = v := by
  unfold slot
  rw [getD_put h, if_pos rfl]
theorem chainB_spec {cs : List Nat} (h : chainB ops cs = true) {j c : Nat} (hj : cs[j]? = some c) : (∃ o, ops[c]? = some o ∧ ∀ j', j = j' + 1 → ∃ c', cs[j']? = some c' ∧ ∃ e ∈ o.after, Region.binds .any e = true ∧ e.on = c') ∧ ∀ i, i < j → cs[i]? ≠ some c := by
  unfold chainB at h
  have hlt := (List.getElem?_eq_some_iff.1 hj).1
  have h1 := List.all_eq_true.1 h j (List.mem_range.2 hlt)
  rw [hj] at h1
  simp only [Bool.and_eq_true] at h1
  obtain ⟨h1, h2⟩ := h1
  refine ⟨?_, fun i hi e => ?_⟩
  · cases ho : ops[c]? with
    | none => rw [ho] at h1; cases h1
    | some o =>
      rw [ho] at h1
      refine ⟨o, rfl, fun j' e => ?_⟩
      subst e
      simp only at h1
      cases hc : cs[j']? with
      | none => rw [hc] at h1; cases h1
      | some c' =>
        rw [hc] at h1
        simp only at h1
        obtain ⟨e, he, hb⟩ := List.any_eq_true.1 h1
        simp only [Bool.and_eq_true, beq_iff_eq] at hb
        exact ⟨c', rfl, e, by simpa using he, hb.1, hb.2⟩
  · have := List.all_eq_true.1 h2 i (List.mem_range.2 hi)
    rw [e] at this
    simp at this

end
end Go.Proofs.Ytkdkhphpknnceaa.R
