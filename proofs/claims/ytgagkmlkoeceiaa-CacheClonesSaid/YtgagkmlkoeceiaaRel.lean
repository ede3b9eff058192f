/- A region that draws its order: if each operation, whatever came up before it, leaves in its slot a value of which its own predicate holds, and no step spoils what holds of other slots, then behind the region all the predicates hold: whatever the order. -/
import Derived.Orders
import Derived.Calls
import Derived.WalkKit
namespace Go.Proofs.Ytgagkmlkoeceiaa.R
open Go

section
variable {P : Program} {ops : Array Oper} {Q : Exit → Act → World → Prop}

/-- p holds of each operation of the list, the first of them bearing the number k. -/
def EachOp (p : Nat → Oper → Prop) : Nat → List Oper → Prop
  | _, [] => True
  | k, o :: l => p k o ∧ EachOp p (k + 1) l
theorem EachOp.at {p : Nat → Oper → Prop} : ∀ {k : Nat} {l : List Oper}, EachOp p k l → ∀ i o, l[i]? = some o → p (k + i) o
  | _, [], _, i, o, h => by simp at h
  | k, x :: l, hp, 0, o, h => by simp at h; subst h; exact hp.1
  | k, x :: l, hp, i + 1, o, h => by
    have := EachOp.at hp.2 i o (by simpa using h)
    rwa [show k + (i + 1) = k + 1 + i from by omega]

/-- No two operations write one slot. -/
def distinctB (ops : Array Oper) : Bool := (List.range ops.size).all fun i => (List.range ops.size).all fun j => i == j || (((ops[i]?).bind (·.dst)).isNone || (ops[i]?).bind (·.dst) != (ops[j]?).bind (·.dst))
theorem distinctB_spec (h : distinctB ops = true) (i j : Nat) (o o' : Oper) (d : Nat) (hi : ops[i]? = some o) (hj : ops[j]? = some o') (ho : o.dst = some d) (ho' : o'.dst = some d) : i = j := by
  have h1 := List.all_eq_true.1 (List.all_eq_true.1 h i (List.mem_range.2 (Array.getElem?_eq_some_iff.1 hi).1)) j (List.mem_range.2 (Array.getElem?_eq_some_iff.1 hj).1)
  rw [hi, hj] at h1
  simpa [ho, ho'] using h1
/-- Each operation waits for earlier ones alone. -/
def orderedB (ops : Array Oper) : Bool := (List.range ops.size).all fun i => ((ops[i]?).map fun o => o.after.all fun e => decide (e.on < i)).getD true
theorem orderedB_spec (h : orderedB ops = true) (i : Nat) (o : Oper) (hi : ops[i]? = some o) (e : Edge) (he : e ∈ o.after) : e.on < i := by
  have h1 := List.all_eq_true.1 h i (List.mem_range.2 (Array.getElem?_eq_some_iff.1 hi).1)
  rw [hi] at h1
  simp only [Option.map_some, Option.getD_some] at h1
  simpa using Array.all_eq_true_iff_forall_mem.1 h1 e he

/-- The slots that the region doesn't write are as they were. -/
def Agree (ops : Array Oper) (base a : Act) : Prop := a.defers = base.defers ∧ a.tmps.size = base.tmps.size ∧ ∀ t, (ops.toList.all fun o => o.dst != some t) = true → a.tmps.getD t undef = base.tmps.getD t undef
/-- What the slots of the operations that came up hold. -/
def Held (ops : Array Oper) (Ok : Nat → Value → World → Prop) (listed : Array Bool) (a : Act) (w : World) : Prop :=
  ∀ i o d, ops[i]? = some o → o.dst = some d → listed.getD i false = true → Ok i (a.tmps.getD d undef) w

/-- EACH OPERATION's OWN STEP. -/
def OpStep (P : Program) (ops : Array Oper) (Q : Exit → Act → World → Prop) (base : Act) (C : World → Prop) (R : World → World → Prop) (Ok : Nat → Value → World → Prop) (i : Nat) (o : Oper) : Prop :=
  ∀ (a : Act) (w : World), C w → Agree ops base a → (∀ e ∈ o.after, Region.binds .any e = true → ∀ oj d, ops[e.on]? = some oj → oj.dst = some d → Ok e.on (a.tmps.getD d undef) w) →
    (Region.wanted o (yielded ops a.tmps) = true ∧ ∀ K : Act → World → Prop, (∀ v w', R w w' → Ok i v w' → K (a.put o.dst v) w') → o.wp P a w K Q) ∨
    (Region.wanted o (yielded ops a.tmps) = false ∧ R w w ∧ Ok i undef w)

theorem getD_put {a : Act} {d t : Nat} {v : Value} (hd : d < a.tmps.size) : (a.put (some d) v).tmps.getD t undef = if d = t then v else a.tmps.getD t undef := by
  simp only [Act.put, Array.getD_eq_getD_getElem?, Array.getElem?_setIfInBounds]
  by_cases h : d = t
  · subst h; simp [hd]
  · simp [h]

theorem wp_region_rel {id : Nat} {base : Act} {w0 : World} (hm : P.follows .mixedOrders = true) (C : World → Prop) (R : World → World → Prop) (Ok : Nat → Value → World → Prop)
    (hin : (ops.toList.all fun o => match o.dst with | some d => decide (d < base.tmps.size) | none => true) = true)
    (hdis : distinctB ops = true) (hordB : orderedB ops = true)
    (hC : ∀ w w', C w → R w w' → C w') (hOk : ∀ i v w w', Ok i v w → R w w' → Ok i v w')
    (hop : EachOp (OpStep P ops Q base C R Ok) 0 ops.toList)
    (hdone : ∀ a w, C w → Agree ops base a → (∀ (i : Nat) (o : Oper) (d : Nat), ops[i]? = some o → o.dst = some d → Ok i (a.tmps.getD d undef) w) → Q .normal a w)
    (h0 : C w0.drew) : (Code.region id ops true).wp P Q base w0 := by
  have hinj := fun i j o o' d => distinctB_spec (ops := ops) hdis i j o o' d
  have hord : ∀ (i : Nat) (o : Oper), ops[i]? = some o → ∀ e ∈ o.after, e.on < i := fun i o hi e he => orderedB_spec hordB i o hi e he
  have hin' : ∀ (i : Nat) (o : Oper) (d : Nat), ops[i]? = some o → o.dst = some d → d < base.tmps.size := fun i o d hi hd => by
    have := List.all_eq_true.1 hin o (by have := Array.mem_of_getElem? hi; simpa using this)
    rw [hd] at this
    simpa using this
  have main : ∀ (fuel : Nat) (listed : Array Bool) (a : Act) (w : World), listed.size = ops.size → C w → Agree ops base a → Held ops Ok listed a w →
      ((List.range ops.size).filter fun i => !listed.getD i true).length ≤ fuel → wpAny P .any ops Q fuel listed a w := by
    intro fuel
    induction fuel with
    | zero =>
      intro listed a w hsz hc ha hh hf
      have hall : ∀ i, i < ops.size → listed.getD i true = true := fun i hi => by
        have h1 : ((List.range ops.size).filter fun i => !listed.getD i true) = [] := List.length_eq_zero_iff.1 (by omega)
        have h2 := List.filter_eq_nil_iff.1 h1 i (List.mem_range.2 hi)
        simpa using h2
      refine ⟨?_, hdone a w hc ha fun i o d hi hd => hh i o d hi hd ?_⟩
      · unfold Region.ready
        refine List.filter_eq_nil_iff.2 fun i hi => ?_
        rw [hall i (List.mem_range.1 hi)]
        simp
      · have hlt := (Array.getElem?_eq_some_iff.1 hi).1
        have := hall i hlt
        rw [Array.getD_eq_getD_getElem?] at this ⊢
        rw [Array.getElem?_eq_getElem (by omega)] at this ⊢
        simpa using this
    | succ fuel ih =>
      intro listed a w hsz hc ha hh hf
      refine ⟨fun hr => ?_, fun i hi => ?_⟩
      · -- nothing may come up: all have
        have hall : ∀ n i, i < n → i < ops.size → listed.getD i false = true := by
          intro n
          induction n with
          | zero => intro i hi _; omega
          | succ n ihn =>
            intro i hi hlt
            by_cases hin : i < n
            · exact ihn i hin hlt
            · obtain rfl : i = n := by omega
              cases hl : listed.getD i false with
              | true => rfl
              | false =>
                exfalso
                have hl' : listed.getD i true = false := by
                  rw [Array.getD_eq_getD_getElem?] at hl ⊢
                  rw [Array.getElem?_eq_getElem (by omega)] at hl ⊢
                  simpa using hl
                have hmem : i ∈ Region.ready .any ops listed := by
                  unfold Region.ready
                  refine List.mem_filter.2 ⟨List.mem_range.2 hlt, ?_⟩
                  rw [hl', Array.getElem?_eq_getElem hlt]
                  simp only [Bool.not_false, Bool.true_and, Option.map_some, Option.getD_some]
                  refine Array.all_eq_true_iff_forall_mem.2 fun e he => ?_
                  have := ihn e.on (hord i _ (Array.getElem?_eq_getElem hlt) e he) (by have := hord i _ (Array.getElem?_eq_getElem hlt) e he; omega)
                  simp [this]
                rw [hr] at hmem
                cases hmem
        exact hdone a w hc ha fun i o d hi hd => hh i o d hi hd (hall _ i (Nat.lt_succ_self i) (Array.getElem?_eq_some_iff.1 hi).1)
      · have hi' := hi
        unfold Region.ready at hi'
        obtain ⟨hlt, hcond⟩ := List.mem_filter.1 hi'
        have hlt := List.mem_range.1 hlt
        simp only [Bool.and_eq_true, Bool.not_eq_true'] at hcond
        obtain ⟨hun, hdeps⟩ := hcond
        obtain ⟨o, ho⟩ : ∃ o, ops[i]? = some o := ⟨_, Array.getElem?_eq_getElem hlt⟩
        rw [ho] at hdeps
        simp only [Option.map_some, Option.getD_some] at hdeps
        have hstep := hop.at i o (by simpa using ho)
        rw [Nat.zero_add] at hstep
        have hd := hstep a w hc ha fun e he hb oj d hoj hdj => by
          have h1 := Array.all_eq_true_iff_forall_mem.1 hdeps e he
          rw [hb] at h1
          simp at h1
          refine hh e.on oj d hoj hdj ?_
          rw [Array.getD_eq_getD_getElem?]
          exact h1
        -- behind the operation
        have next : ∀ v w', R w w' → Ok i v w' → wpAny P .any ops Q fuel (listed.setIfInBounds i true) (a.put o.dst v) w' := by
          intro v w' hr hv
          refine ih _ _ _ (by simpa using hsz) (hC _ _ hc hr) ?_ ?_ ?_
          · obtain ⟨k1, k2, k3⟩ := ha
            cases hdst : o.dst with
            | none => exact ⟨k1, k2, k3⟩
            | some d =>
              have hds := hin' i o d ho hdst
              refine ⟨k1, by simpa [Act.put] using k2, fun t ht => ?_⟩
              rw [getD_put (by omega), if_neg ?_]
              · exact k3 t ht
              · intro e
                have := List.all_eq_true.1 ht o (by have := Array.mem_of_getElem? ho; simpa using this)
                rw [hdst, e] at this
                simp at this
          · intro j oj dj hj hdj hlj
            by_cases hji : j = i
            · subst hji
              rw [ho] at hj
              cases hj
              rw [hdj, getD_put (by have := hin' j o dj ho hdj; have := ha.2.1; omega), if_pos rfl]
              exact hv
            · have hlj' : listed.getD j false = true := by
                rw [Array.getD_eq_getD_getElem?, Array.getElem?_setIfInBounds, if_neg (Ne.symm hji), ← Array.getD_eq_getD_getElem?] at hlj
                exact hlj
              have hold := hOk _ _ _ _ (hh j oj dj hj hdj hlj') hr
              cases hdst : o.dst with
              | none => exact hold
              | some d =>
                rw [getD_put (by have := hin' i o d ho hdst; have := ha.2.1; omega), if_neg ?_]
                · exact hold
                · intro e
                  exact hji (hinj j i oj o dj hj ho hdj (by rw [hdst, e]))
          · have hcount : ((List.range ops.size).filter fun k => !(listed.setIfInBounds i true).getD k true).length < ((List.range ops.size).filter fun k => !listed.getD k true).length := by
              have hsub : ((List.range ops.size).filter fun k => !(listed.setIfInBounds i true).getD k true) = ((List.range ops.size).filter fun k => !listed.getD k true).filter fun k => k != i := by
                rw [List.filter_filter]
                refine List.filter_congr fun k hk => ?_
                rw [Array.getD_eq_getD_getElem?, Array.getElem?_setIfInBounds]
                by_cases hki : i = k
                · subst hki; rw [if_pos rfl, if_pos (by omega)]; simp
                · rw [if_neg hki, ← Array.getD_eq_getD_getElem?]
                  simp [Ne.symm hki]
              rw [hsub]
              refine List.length_filter_lt_length_iff_exists.2 ⟨i, List.mem_filter.2 ⟨List.mem_range.2 hlt, ?_⟩, ?_⟩
              · rw [Array.getD_eq_getD_getElem?]; simpa using hun
              · simp
            omega
        unfold wpOp
        rw [ho]
        simp only
        rcases hd with ⟨hw, hk⟩ | ⟨hw, hr, hv⟩
        · rw [if_pos hw]
          exact .inl (hk _ next)
        · rw [if_neg (by rw [hw]; decide)]
          exact next _ _ hr hv
  refine wp_region_any hm (main ops.size (Array.replicate ops.size false) base w0.drew (by simp) h0 ⟨rfl, rfl, fun _ _ => rfl⟩ (fun i o d hi _ hl => ?_) ?_)
  · have hlt := (Array.getElem?_eq_some_iff.1 hi).1
    rw [Array.getD_eq_getD_getElem?] at hl
    simp [hlt] at hl
  · exact Nat.le_trans (List.length_filter_le _ _) (by simp)
end
theorem wanted_of {ops : Array Oper} {a : Act} {o oj : Oper} {j d : Nat} {b : Bool} (ho : o.guard = some (j, b)) (hj : ops[j]? = some oj) (hd : oj.dst = some d) (hv : a.tmps.getD d undef = .bool b) (hs : d < a.tmps.size) : Region.wanted o (yielded ops a.tmps) = true := by
  have h1 : a.tmps[d]? = some (.bool b) := by
    rw [Array.getD_eq_getD_getElem?, Array.getElem?_eq_getElem hs] at hv
    rw [Array.getElem?_eq_getElem hs]
    simpa using hv
  simp [Region.wanted, ho, yielded, hj, hd, h1]
end Go.Proofs.Ytgagkmlkoeceiaa.R
