/- A region that draws its order, where the condition hangs on which operations came up already, and on the slots. -/
import Derived.Test.YtmdnnpcofbhceaaDoorMerged13
import Derived.Test.YtmdnnpcofbhceaaDoorMerged19
import Derived.Test.YtmdnnpcofbhceaaDoorJMvU
import Derived.Test.YtmdnnpcofbhceaaDoorJMvD
import Derived.Test.YtmdnnpcofbhceaaDoorJSix
import Derived.Test.YtmdnnpcofbhceaaDoorMerged17
namespace Go.Proofs.YtmdnnpcofbhceaaDoor.R
open Go

section
variable {P : Program} {ops : Array Oper} {Q : Exit → Act → World → Prop}
/-- EACH OPERATION's OWN STEP; what came up ahead of it is told. -/
def OpStepA (P : Program) (ops : Array Oper) (Q : Exit → Act → World → Prop) (base : Act) (C : (Nat → Bool) → Act → World → Prop) (R : World → World → Prop) (Ok : Nat → Value → World → Prop) (i : Nat) (o : Oper) : Prop :=
  ∀ (L : Nat → Bool) (a : Act) (w : World), L i = false → (∀ e ∈ o.after, Region.binds .any e = true → L e.on = true) → C L a w → Agree ops base a → (∀ e ∈ o.after, Region.binds .any e = true → ∀ oj d, ops[e.on]? = some oj → oj.dst = some d → Ok e.on (a.tmps.getD d undef) w) →
    (Region.wanted o (yielded ops a.tmps) = true ∧ ∀ K : Act → World → Prop, (∀ v w', R w w' → Ok i v w' → C (upd L i) (a.put o.dst v) w' → K (a.put o.dst v) w') → o.wp P a w K Q) ∨
    (Region.wanted o (yielded ops a.tmps) = false ∧ R w w ∧ Ok i undef w ∧ C (upd L i) (a.put o.dst undef) w)

theorem wp_region_relA {id : Nat} {base : Act} {w0 : World} (hm : P.follows .mixedOrders = true) (C : (Nat → Bool) → Act → World → Prop) (R : World → World → Prop) (Ok : Nat → Value → World → Prop)
    (hin : (ops.toList.all fun o => match o.dst with | some d => decide (d < base.tmps.size) | none => true) = true)
    (hdis : distinctB ops = true) (hordB : orderedN ops ops.size = true)
    (hOk : ∀ i v w w', Ok i v w → R w w' → Ok i v w')
    (hop : EachOp (OpStepA P ops Q base C R Ok) 0 ops.toList)
    (hdone : ∀ a w, C (fun k => decide (k < ops.size)) a w → Agree ops base a → (∀ (i : Nat) (o : Oper) (d : Nat), ops[i]? = some o → o.dst = some d → Ok i (a.tmps.getD d undef) w) → Q .normal a w)
    (h0 : C (fun _ => false) base w0.drew) : (Code.region id ops true).wp P Q base w0 := by
  have hinj := fun i j o o' d => distinctB_spec (ops := ops) hdis i j o o' d
  have hord : ∀ (i : Nat) (o : Oper), ops[i]? = some o → ∀ e ∈ o.after, Region.binds .any e = true → e.on < i := fun i o hi e he hb => orderedN_spec hordB i o (Array.getElem?_eq_some_iff.1 hi).1 hi e he hb
  have hin' : ∀ (i : Nat) (o : Oper) (d : Nat), ops[i]? = some o → o.dst = some d → d < base.tmps.size := fun i o d hi hd => by
    have := List.all_eq_true.1 hin o (by have := Array.mem_of_getElem? hi; simpa using this)
    rw [hd] at this
    simpa using this
  have main : ∀ (fuel : Nat) (listed : Array Bool) (a : Act) (w : World), listed.size = ops.size → C (fun k => listed.getD k false) a w → Agree ops base a → Held ops Ok listed a w →
      ((List.range ops.size).filter fun i => !listed.getD i true).length ≤ fuel → wpAny P .any ops Q fuel listed a w := by
    intro fuel
    induction fuel with
    | zero =>
      intro listed a w hsz hc ha hh hf
      have hall : ∀ i, i < ops.size → listed.getD i true = true := fun i hi => by
        have h1 : ((List.range ops.size).filter fun i => !listed.getD i true) = [] := List.length_eq_zero_iff.1 (by omega)
        have h2 := List.filter_eq_nil_iff.1 h1 i (List.mem_range.2 hi)
        simpa using h2
      refine ⟨?_, hdone a w (by rw [allL hsz (fun i hi => by have := hall i hi; rw [Array.getD_eq_getD_getElem?] at this ⊢; rw [Array.getElem?_eq_getElem (by omega)] at this ⊢; simpa using this)] at hc; exact hc) ha fun i o d hi hd => hh i o d hi hd ?_⟩
      · unfold Region.ready
        refine List.filter_eq_nil_iff.2 fun i hi => ?_
        rw [hall i (List.mem_range.1 hi)]
        simp
      · have hlt := (Array.getElem?_eq_some_iff.1 hi).1
        have := hall i hlt
        rw [Array.getD_eq_getD_getElem?] at this ⊢
        rw [Array.getElem?_eq_getElem (by omega)] at this ⊢
        simpa using this
    | succ fuel ih =>
      intro listed a w hsz hc ha hh hf
      refine ⟨fun hr => ?_, fun i hi => ?_⟩
      · -- nothing may come up: all have
        have hall : ∀ n i, i < n → i < ops.size → listed.getD i false = true := by
          intro n
          induction n with
          | zero => intro i hi _; omega
          | succ n ihn =>
            intro i hi hlt
            by_cases hin : i < n
            · exact ihn i hin hlt
            · obtain rfl : i = n := by omega
              cases hl : listed.getD i false with
              | true => rfl
              | false =>
                exfalso
                have hl' : listed.getD i true = false := by
                  rw [Array.getD_eq_getD_getElem?] at hl ⊢
                  rw [Array.getElem?_eq_getElem (by omega)] at hl ⊢
                  simpa using hl
                have hmem : i ∈ Region.ready .any ops listed := by
                  unfold Region.ready
                  refine List.mem_filter.2 ⟨List.mem_range.2 hlt, ?_⟩
                  rw [hl', Array.getElem?_eq_getElem hlt]
                  simp only [Bool.not_false, Bool.true_and, Option.map_some, Option.getD_some]
                  refine Array.all_eq_true_iff_forall_mem.2 fun e he => ?_
                  by_cases hb : Region.binds .any e = true
                  · have := ihn e.on (hord i _ (Array.getElem?_eq_getElem hlt) e he hb) (by have := hord i _ (Array.getElem?_eq_getElem hlt) e he hb; omega)
                    simp [this]
                  · simp [hb]
                rw [hr] at hmem
                cases hmem
        exact hdone a w (by rw [allL hsz (fun i hi => hall _ i (Nat.lt_succ_self i) hi)] at hc; exact hc) ha fun i o d hi hd => hh i o d hi hd (hall _ i (Nat.lt_succ_self i) (Array.getElem?_eq_some_iff.1 hi).1)
      · have hi' := hi
        unfold Region.ready at hi'
        obtain ⟨hlt, hcond⟩ := List.mem_filter.1 hi'
        have hlt := List.mem_range.1 hlt
        simp only [Bool.and_eq_true, Bool.not_eq_true'] at hcond
        obtain ⟨hun, hdeps⟩ := hcond
        obtain ⟨o, ho⟩ : ∃ o, ops[i]? = some o := ⟨_, Array.getElem?_eq_getElem hlt⟩
        rw [ho] at hdeps
        simp only [Option.map_some, Option.getD_some] at hdeps
        have hunL : listed.getD i false = false := by
          rw [Array.getD_eq_getD_getElem?] at hun ⊢
          rw [Array.getElem?_eq_getElem (by omega)] at hun ⊢
          simpa using hun
        have hstep := hop.at i o (by simpa using ho)
        rw [Nat.zero_add] at hstep
        have hd := hstep (fun k => listed.getD k false) a w hunL (fun e he hb => by
          have h1 := Array.all_eq_true_iff_forall_mem.1 hdeps e he
          rw [hb] at h1
          simp at h1
          rw [Array.getD_eq_getD_getElem?]
          exact h1) hc ha fun e he hb oj d hoj hdj => by
          have h1 := Array.all_eq_true_iff_forall_mem.1 hdeps e he
          rw [hb] at h1
          simp at h1
          refine hh e.on oj d hoj hdj ?_
          rw [Array.getD_eq_getD_getElem?]
          exact h1
        -- behind the operation
        have next : ∀ v w', R w w' → Ok i v w' → C (upd (fun k => listed.getD k false) i) (a.put o.dst v) w' → wpAny P .any ops Q fuel (listed.setIfInBounds i true) (a.put o.dst v) w' := by
          intro v w' hr hv hcc
          refine ih _ _ _ (by simpa using hsz) (by rw [updL listed i (by omega)]; exact hcc) ?_ ?_ ?_
          · obtain ⟨k1, k2, k3⟩ := ha
            cases hdst : o.dst with
            | none => exact ⟨k1, k2, k3⟩
            | some d =>
              have hds := hin' i o d ho hdst
              refine ⟨k1, by simpa [Act.put] using k2, fun t ht => ?_⟩
              rw [getD_put (by omega), if_neg ?_]
              · exact k3 t ht
              · intro e
                have := List.all_eq_true.1 ht o (by have := Array.mem_of_getElem? ho; simpa using this)
                rw [hdst, e] at this
                simp at this
          · intro j oj dj hj hdj hlj
            by_cases hji : j = i
            · subst hji
              rw [ho] at hj
              cases hj
              rw [hdj, getD_put (by have := hin' j o dj ho hdj; have := ha.2.1; omega), if_pos rfl]
              exact hv
            · have hlj' : listed.getD j false = true := by
                rw [Array.getD_eq_getD_getElem?, Array.getElem?_setIfInBounds, if_neg (Ne.symm hji), ← Array.getD_eq_getD_getElem?] at hlj
                exact hlj
              have hold := hOk _ _ _ _ (hh j oj dj hj hdj hlj') hr
              cases hdst : o.dst with
              | none => exact hold
              | some d =>
                rw [getD_put (by have := hin' i o d ho hdst; have := ha.2.1; omega), if_neg ?_]
                · exact hold
                · intro e
                  exact hji (hinj j i oj o dj hj ho hdj (by rw [hdst, e]))
          · have hcount : ((List.range ops.size).filter fun k => !(listed.setIfInBounds i true).getD k true).length < ((List.range ops.size).filter fun k => !listed.getD k true).length := by
              have hsub : ((List.range ops.size).filter fun k => !(listed.setIfInBounds i true).getD k true) = ((List.range ops.size).filter fun k => !listed.getD k true).filter fun k => k != i := by
                rw [List.filter_filter]
                refine List.filter_congr fun k hk => ?_
                rw [Array.getD_eq_getD_getElem?, Array.getElem?_setIfInBounds]
                by_cases hki : i = k
                · subst hki; rw [if_pos rfl, if_pos (by omega)]; simp
                · rw [if_neg hki, ← Array.getD_eq_getD_getElem?]
                  simp [Ne.symm hki]
              rw [hsub]
              refine List.length_filter_lt_length_iff_exists.2 ⟨i, List.mem_filter.2 ⟨List.mem_range.2 hlt, ?_⟩, ?_⟩
              · rw [Array.getD_eq_getD_getElem?]; simpa using hun
              · simp
            omega
        unfold wpOp
        rw [ho]
        simp only
        rcases hd with ⟨hw, hk⟩ | ⟨hw, hr, hv, hcc⟩
        · rw [if_pos hw]
          exact .inl (hk _ next)
        · rw [if_neg (by rw [hw]; decide)]
          exact next _ _ hr hv hcc
  refine wp_region_any hm (main ops.size (Array.replicate ops.size false) base w0.drew (by simp) (by rw [noneL]; exact h0) ⟨rfl, rfl, fun _ _ => rfl⟩ (fun i o d hi _ hl => ?_) ?_)
  · have hlt := (Array.getElem?_eq_some_iff.1 hi).1
    rw [Array.getD_eq_getD_getElem?] at hl
    simp [hlt] at hl
  · exact Nat.le_trans (List.length_filter_le _ _) (by simp)
end
end Go.Proofs.YtmdnnpcofbhceaaDoor.R

/- A region that draws its order, some of whose operations come up one behind the other: what holds behind the k-th of these is told; the others may come up at any time. -/
namespace Go.Proofs.YtmdnnpcofbhceaaDoor.R
open Go

section
variable {P : Program} {ops : Array Oper} {Q : Exit → Act → World → Prop}
/-- what a slot holds -/
def slot (a : Act) : Nat → Value := fun s => a.tmps.getD s undef
/-- the slots of the first k of these operations, and of those that they wait for -/
def slotsP (ops : Array Oper) (cs : List Nat) (k : Nat) : List Nat :=
  (cs.take k).flatMap fun c => match ops[c]? with
    | none => []
    | some o => (match o.dst with | some d => [d] | none => []) ++ (o.after.toList.filter (fun e => Region.binds .any e)).flatMap fun e => match ops[e.on]? with
      | none => []
      | some o' => match o'.dst with | some d => [d] | none => []
theorem mem_slots {ops : Array Oper} {cs : List Nat} {k s : Nat} (h : (slotsP ops cs k).contains s = true) : s ∈ slotsP ops cs k := by simpa using h
theorem slotsP_all {ops : Array Oper} {cs : List Nat} {k : Nat} (h : cs.length ≤ k) : slotsP ops cs k = slotsP ops cs cs.length := by
  unfold slotsP
  rw [List.take_of_length_le h, List.take_of_length_le (Nat.le_refl _)]
/-- these operations wait for one another -/
def chainB (ops : Array Oper) (cs : List Nat) : Bool :=
  (List.range cs.length).all fun j => match cs[j]? with
    | none => true
    | some c => (match ops[c]? with
      | none => false
      | some o => match j with
        | 0 => true
        | j' + 1 => match cs[j']? with
          | none => false
          | some c' => o.after.toList.any fun e => Region.binds .any e && e.on == c') && (List.range j).all fun i => cs[i]? != some c
/-- EACH OPERATION's OWN STEP. -/
def OpStepP (P : Program) (ops : Array Oper) (Q : Exit → Act → World → Prop) (base : Act) (cs : List Nat) (St : Nat → (Nat → Value) → World → Prop) (R : World → World → Prop) (Ok : Nat → Value → World → Prop) (i : Nat) (o : Oper) : Prop :=
  match cs.findIdx? (fun c => c == i) with
  | none => ∀ (k : Nat) (a : Act) (w : World), St k (slot a) w → Agree ops base a → (∀ e ∈ o.after, Region.binds .any e = true → ∀ oj d, ops[e.on]? = some oj → oj.dst = some d → Ok e.on (a.tmps.getD d undef) w) →
    (Region.wanted o (yielded ops a.tmps) = true ∧ ∀ K : Act → World → Prop, (∀ v w', R w w' → Ok i v w' → St k (slot a) w' → K (a.put o.dst v) w') → o.wp P a w K Q) ∨
    (Region.wanted o (yielded ops a.tmps) = false ∧ R w w ∧ Ok i undef w)
  | some j => ∀ (a : Act) (w : World), St j (slot a) w → Agree ops base a → (∀ e ∈ o.after, Region.binds .any e = true → ∀ oj d, ops[e.on]? = some oj → oj.dst = some d → Ok e.on (a.tmps.getD d undef) w) →
    Region.wanted o (yielded ops a.tmps) = true ∧ ∀ K : Act → World → Prop, (∀ v w', R w w' → Ok i v w' → St (j + 1) (slot (a.put o.dst v)) w' → K (a.put o.dst v) w') → o.wp P a w K Q

theorem slot_put {a : Act} {d s : Nat} {v : Value} (h : s ≠ d) : slot (a.put (some d) v) s = slot a s := by
  unfold slot Act.put
  simp only [Array.getD_eq_getD_getElem?]
  rw [Array.getElem?_setIfInBounds, if_neg (fun e => h e.symm)]
theorem slot_same {a : Act} {d : Nat} {v : Value} (h : d < a.tmps.size) : slot (a.put (some d) v) d = v := by
  unfold slot
  rw [getD_put h, if_pos rfl]
theorem slot_none {a : Act} {v : Value} : slot (a.put none v) = slot a := rfl

theorem chainB_spec {cs : List Nat} (h : chainB ops cs = true) {j c : Nat} (hj : cs[j]? = some c) : (∃ o, ops[c]? = some o ∧ ∀ j', j = j' + 1 → ∃ c', cs[j']? = some c' ∧ ∃ e ∈ o.after, Region.binds .any e = true ∧ e.on = c') ∧ ∀ i, i < j → cs[i]? ≠ some c := by
  unfold chainB at h
  have hlt := (List.getElem?_eq_some_iff.1 hj).1
  have h1 := List.all_eq_true.1 h j (List.mem_range.2 hlt)
  rw [hj] at h1
  simp only [Bool.and_eq_true] at h1
  obtain ⟨h1, h2⟩ := h1
  refine ⟨?_, fun i hi e => ?_⟩
  · cases ho : ops[c]? with
    | none => rw [ho] at h1; cases h1
    | some o =>
      rw [ho] at h1
      refine ⟨o, rfl, fun j' e => ?_⟩
      subst e
      simp only at h1
      cases hc : cs[j']? with
      | none => rw [hc] at h1; cases h1
      | some c' =>
        rw [hc] at h1
        simp only at h1
        obtain ⟨e, he, hb⟩ := List.any_eq_true.1 h1
        simp only [Bool.and_eq_true, beq_iff_eq] at hb
        exact ⟨c', rfl, e, by simpa using he, hb.1, hb.2⟩
  · have := List.all_eq_true.1 h2 i (List.mem_range.2 hi)
    rw [e] at this
    simp at this

theorem wp_region_prog {id : Nat} {base : Act} {w0 : World} (cs : List Nat) (hm : P.follows .mixedOrders = true) (St : Nat → (Nat → Value) → World → Prop) (R : World → World → Prop) (Ok : Nat → Value → World → Prop)
    (hin : (ops.toList.all fun o => match o.dst with | some d => decide (d < base.tmps.size) | none => true) = true)
    (hdis : distinctB ops = true) (hordB : orderedN ops ops.size = true) (hch : chainB ops cs = true)
    (hcong : ∀ k f g w, (∀ s ∈ slotsP ops cs k, f s = g s) → St k f w → St k g w)
    (hOk : ∀ i v w w', Ok i v w → R w w' → Ok i v w')
    (hop : EachOp (OpStepP P ops Q base cs St R Ok) 0 ops.toList)
    (hdone : ∀ a w, St cs.length (slot a) w → Agree ops base a → (∀ (i : Nat) (o : Oper) (d : Nat), ops[i]? = some o → o.dst = some d → Ok i (a.tmps.getD d undef) w) → Q .normal a w)
    (h0 : St 0 (slot base) w0.drew) : (Code.region id ops true).wp P Q base w0 := by
  -- the progress
  let C : (Nat → Bool) → Act → World → Prop := fun L a w => ∃ k, k ≤ cs.length ∧ (∀ j c, cs[j]? = some c → L c = decide (j < k)) ∧ (∀ j c o, j < k → cs[j]? = some c → ops[c]? = some o → ∀ e ∈ o.after, Region.binds .any e = true → L e.on = true) ∧ St k (slot a) w
  have hdst : ∀ (L : Nat → Bool) (k i : Nat) (o : Oper) (d : Nat), ops[i]? = some o → o.dst = some d → L i = false → (∀ j c, cs[j]? = some c → L c = decide (j < k)) → (∀ j c o, j < k → cs[j]? = some c → ops[c]? = some o → ∀ e ∈ o.after, Region.binds .any e = true → L e.on = true) → ∀ s ∈ slotsP ops cs k, s ≠ d := by
    intro L k i o d ho hd hL h1 h2 s hs e
    subst e
    unfold slotsP at hs
    obtain ⟨c, hc, hs⟩ := List.mem_flatMap.1 hs
    obtain ⟨j, hjc⟩ := List.mem_iff_getElem?.1 hc
    rw [List.getElem?_take] at hjc
    split at hjc
    · rename_i hjk
      have hLc := h1 j c hjc
      rw [decide_eq_true hjk] at hLc
      cases ho' : ops[c]? with
      | none => rw [ho'] at hs; cases hs
      | some o' =>
        rw [ho'] at hs
        simp only at hs
        rcases List.mem_append.1 hs with hs | hs
        · cases hd' : o'.dst with
          | none => rw [hd'] at hs; cases hs
          | some d' =>
            rw [hd'] at hs
            obtain rfl : s = d' := by simpa using hs
            have := distinctB_spec (ops := ops) hdis i c o o' s ho ho' hd hd'
            rw [this] at hL
            rw [hL] at hLc
            cases hLc
        · obtain ⟨e, he, hs⟩ := List.mem_flatMap.1 hs
          obtain ⟨he, hb⟩ := List.mem_filter.1 he
          have hLe := h2 j c o' hjk hjc ho' e (by simpa using he) hb
          cases ho2 : ops[e.on]? with
          | none => rw [ho2] at hs; cases hs
          | some o2 =>
            rw [ho2] at hs
            simp only at hs
            cases hd2 : o2.dst with
            | none => rw [hd2] at hs; cases hs
            | some d2 =>
              rw [hd2] at hs
              obtain rfl : s = d2 := by simpa using hs
              have := distinctB_spec (ops := ops) hdis i e.on o o2 s ho ho2 hd hd2
              rw [this] at hL
              rw [hL] at hLe
              cases hLe
    · cases hjc
  refine wp_region_relA hm C R Ok hin hdis hordB hOk ?_ ?_ ⟨0, Nat.zero_le _, fun j c _ => by simp, fun j c o hj => absurd hj (Nat.not_lt_zero _), h0⟩
  · -- each step
    have key : ∀ i o, ops.toList[i]? = some o → OpStepA P ops Q base C R Ok i o := by
      intro i o hio
      have hio' : ops[i]? = some o := by simpa using hio
      have hstep := hop.at i o hio
      rw [Nat.zero_add] at hstep
      intro L a w hL hpre hC hag hdep
      obtain ⟨k, hk, h1, h2, hst⟩ := hC
      unfold OpStepP at hstep
      cases hf : cs.findIdx? (fun c => c == i) with
      | none =>
        rw [hf] at hstep
        simp only at hstep
        have hni : ∀ j c, cs[j]? = some c → c ≠ i := fun j c hc e => by
          have := List.findIdx?_eq_none_iff.1 hf c (List.mem_of_getElem? hc)
          simp [e] at this
        have hC' : ∀ v w', St k (slot a) w' → C (upd L i) (a.put o.dst v) w' := fun v w' hs => by
          refine ⟨k, hk, fun j c hc => ?_, fun j c o' hj hc ho' e he hb => ?_, ?_⟩
          · unfold upd
            rw [if_neg (hni j c hc)]
            exact h1 j c hc
          · have := h2 j c o' hj hc ho' e he hb
            unfold upd
            split
            · rfl
            · exact this
          · cases hd : o.dst with
            | none => exact hs
            | some d => exact hcong k _ _ w' (fun s hs' => (slot_put (hdst L k i o d hio' hd hL h1 h2 s hs')).symm) hs
        rcases hstep k a w hst hag hdep with ⟨h3, h4⟩ | ⟨h3, h4, h5⟩
        · exact .inl ⟨h3, fun K hK => h4 K (fun v w' hr ho hs => hK v w' hr ho (hC' v w' hs))⟩
        · exact .inr ⟨h3, h4, h5, hC' undef w hst⟩
      | some j =>
        rw [hf] at hstep
        simp only at hstep
        obtain ⟨hjl, hji, hjn⟩ := List.findIdx?_eq_some_iff_getElem.1 hf
        have hji' : cs[j] = i := by simpa using hji
        have hcj : cs[j]? = some i := by rw [List.getElem?_eq_getElem hjl, hji']
        obtain ⟨⟨o', ho', hpr⟩, hdup⟩ := chainB_spec (ops := ops) hch hcj
        rw [hio'] at ho'
        cases ho'
        have hkj : k = j := by
          have h3 := h1 j i hcj
          rw [hL] at h3
          have h4 : ¬ j < k := fun h => by rw [decide_eq_true h] at h3; cases h3
          cases j with
          | zero => omega
          | succ j' =>
            obtain ⟨c', hc', e, he, hb, hon⟩ := hpr j' rfl
            have h5 := hpre e he hb
            rw [hon, h1 j' c' hc'] at h5
            have := of_decide_eq_true h5
            omega
        subst hkj
        obtain ⟨h3, h4⟩ := hstep a w hst hag hdep
        refine .inl ⟨h3, fun K hK => h4 K (fun v w' hr hov hs => hK v w' hr hov ⟨k + 1, hjl, fun j2 c hc => ?_, fun j2 c o2 hj2 hc ho2 e he hb => ?_, hs⟩)⟩
        · unfold upd
          by_cases hci : c = i
          · rw [if_pos hci]
            subst hci
            have : j2 = k := by
              rcases Nat.lt_trichotomy j2 k with h | h | h
              · exact absurd hc (hdup j2 h)
              · exact h
              · exact absurd hcj ((chainB_spec (ops := ops) hch hc).2 k h)
            subst this
            exact (decide_eq_true (by omega)).symm
          · rw [if_neg hci, h1 j2 c hc]
            have : j2 ≠ k := fun e => hci (by subst e; rw [hcj] at hc; cases hc; rfl)
            by_cases h : j2 < k
            · rw [decide_eq_true h, decide_eq_true (by omega)]
            · rw [decide_eq_false h, decide_eq_false (by omega)]
        · have h5 : L e.on = true := by
            by_cases h : j2 < k
            · exact h2 j2 c o2 h hc ho2 e he hb
            · have : j2 = k := by omega
              subst this
              rw [hcj] at hc
              cases hc
              rw [hio'] at ho2
              cases ho2
              exact hpre e he hb
          unfold upd
          split
          · rfl
          · exact h5
    have go : ∀ (l : List Oper) (k : Nat), (∀ i o, l[i]? = some o → OpStepA P ops Q base C R Ok (k + i) o) → EachOp (OpStepA P ops Q base C R Ok) k l := by
      intro l
      induction l with
      | nil => intro k _; trivial
      | cons o l ih =>
        intro k h
        exact ⟨h 0 o rfl, ih (k + 1) (fun i o' ho => by have := h (i + 1) o' (by simpa using ho); rwa [show k + (i + 1) = k + 1 + i by omega] at this)⟩
    exact go ops.toList 0 (fun i o h => by rw [Nat.zero_add]; exact key i o h)
  · intro a w hC hag hok
    obtain ⟨k, hk, h1, h2, hst⟩ := hC
    have hkl : k = cs.length := by
      rcases Nat.lt_or_ge k cs.length with h | h
      · have hck : cs[k]? = some cs[k] := List.getElem?_eq_getElem h
        have h3 := h1 k cs[k] hck
        obtain ⟨⟨o, ho, -⟩, -⟩ := chainB_spec (ops := ops) hch hck
        have hlt := (Array.getElem?_eq_some_iff.1 ho).1
        dsimp only at h3
        rw [decide_eq_true hlt, decide_eq_false (Nat.lt_irrefl k)] at h3
        cases h3
      · omega
    subst hkl
    exact hdone a w hst hag hok
end
end Go.Proofs.YtmdnnpcofbhceaaDoor.R

/- The law's do of a grid: what stands in memory. -/
namespace Go.Proofs.YtmdnnpcofbhceaaDoor.K
open Go.RowKit

/-- a call, as the statements draw it -/
structure ActG where
  kind : Int
  y : Int
  top : Int
  bottom : Int
  n : Int
  style : Int
  w : Int
  h : Int
  row : ActR
def actC (A : ActG) : Array Value := #[.int .i64 A.kind, .int .i64 A.y, .int .i64 A.top, .int .i64 A.bottom, .int .i64 A.n, .int .i64 A.style, .int .i64 A.w, .int .i64 A.h, .int .i64 A.row.kind, .int .i64 A.row.at_, .int .i64 A.row.n, .int .i64 A.row.style, .int .i32 A.row.rune]
/-- it stands in a block -/
def ActB (p : Nat) (A : ActG) (w : World) : Prop := w.heap[p]? = some (.cells (actC A) 64 (0, 0))
theorem ActB.lt {p : Nat} {A : ActG} {w : World} (h : ActB p A w) : p < w.heap.size := (Array.getElem?_eq_some_iff.1 h).1
theorem ActB.kept {p : Nat} {A : ActG} {w w' : World} (h : ActB p A w) (hb : w'.heap[p]? = w.heap[p]?) : ActB p A w' := hb.trans h
theorem ActB.c0 {p : Nat} {A : ActG} {w : World} (h : ActB p A w) : w.cell? ⟨p, 0, none⟩ = some (.int .i64 A.kind) := by simp [World.cell?, show w.heap[p]? = _ from h, actC]
theorem ActB.c1 {p : Nat} {A : ActG} {w : World} (h : ActB p A w) : w.cell? ⟨p, 1, none⟩ = some (.int .i64 A.y) := by simp [World.cell?, show w.heap[p]? = _ from h, actC]
theorem ActB.c2 {p : Nat} {A : ActG} {w : World} (h : ActB p A w) : w.cell? ⟨p, 2, none⟩ = some (.int .i64 A.top) := by simp [World.cell?, show w.heap[p]? = _ from h, actC]
theorem ActB.c3 {p : Nat} {A : ActG} {w : World} (h : ActB p A w) : w.cell? ⟨p, 3, none⟩ = some (.int .i64 A.bottom) := by simp [World.cell?, show w.heap[p]? = _ from h, actC]
theorem ActB.c4 {p : Nat} {A : ActG} {w : World} (h : ActB p A w) : w.cell? ⟨p, 4, none⟩ = some (.int .i64 A.n) := by simp [World.cell?, show w.heap[p]? = _ from h, actC]
theorem ActB.c5 {p : Nat} {A : ActG} {w : World} (h : ActB p A w) : w.cell? ⟨p, 5, none⟩ = some (.int .i64 A.style) := by simp [World.cell?, show w.heap[p]? = _ from h, actC]
theorem ActB.c6 {p : Nat} {A : ActG} {w : World} (h : ActB p A w) : w.cell? ⟨p, 6, none⟩ = some (.int .i64 A.w) := by simp [World.cell?, show w.heap[p]? = _ from h, actC]
theorem ActB.c7 {p : Nat} {A : ActG} {w : World} (h : ActB p A w) : w.cell? ⟨p, 7, none⟩ = some (.int .i64 A.h) := by simp [World.cell?, show w.heap[p]? = _ from h, actC]
theorem ActB.c8 {p : Nat} {A : ActG} {w : World} (h : ActB p A w) : w.cell? ⟨p, 8, none⟩ = some (.int .i64 A.row.kind) := by simp [World.cell?, show w.heap[p]? = _ from h, actC]
theorem ActB.c9 {p : Nat} {A : ActG} {w : World} (h : ActB p A w) : w.cell? ⟨p, 9, none⟩ = some (.int .i64 A.row.at_) := by simp [World.cell?, show w.heap[p]? = _ from h, actC]
theorem ActB.c10 {p : Nat} {A : ActG} {w : World} (h : ActB p A w) : w.cell? ⟨p, 10, none⟩ = some (.int .i64 A.row.n) := by simp [World.cell?, show w.heap[p]? = _ from h, actC]
theorem ActB.c11 {p : Nat} {A : ActG} {w : World} (h : ActB p A w) : w.cell? ⟨p, 11, none⟩ = some (.int .i64 A.row.style) := by simp [World.cell?, show w.heap[p]? = _ from h, actC]
theorem ActB.c12 {p : Nat} {A : ActG} {w : World} (h : ActB p A w) : w.cell? ⟨p, 12, none⟩ = some (.int .i32 A.row.rune) := by simp [World.cell?, show w.heap[p]? = _ from h, actC]
/-- new blocks may be turned -/
theorem KeepB.strike2 {L M : List Nat} {w u v : World} (h : KeepB L w u) (k : KeepB M u v) (hM : ∀ p ∈ M, w.heap.size ≤ p) : KeepB L w v :=
  ⟨k.os.trans h.os, k.tape.trans h.tape, k.output.trans h.output, Nat.le_trans h.size k.size, fun i hi hn => (k.block i (Nat.lt_of_lt_of_le hi h.size) (fun e => by have := hM i e; omega)).trans (h.block i hi hn)⟩
/-- while do runs -/
structure DoB (g q rb W : Nat) (sv : Value) (A : ActG) (w u : World) : Prop where
  kb : KeepB [g, q] w u
  xb : GrB rb W sv u
  ab : ActB (rb + 1) A u
  rs : ∃ a b, u.heap[rb + 2]? = some (.cells #[a, b] 59 (0, 0))
  sz : rb = w.heap.size
theorem DoB.keptB {g q rb W : Nat} {sv : Value} {A : ActG} {w u v : World} (h : DoB g q rb W sv A w u) (hk : KeepB [g, q] u v) (hg : g < rb ∧ q < rb) : DoB g q rb W sv A w v := by
  have hb : ∀ i, rb ≤ i → i < u.heap.size → v.heap[i]? = u.heap[i]? := fun i hi hl => hk.block i hl (fun e => by
    have h2 : i = g ∨ i = q := by simpa using e
    omega)
  obtain ⟨a, b, hr⟩ := h.rs
  exact ⟨h.kb.trans hk, h.xb.kept (hb rb (Nat.le_refl _) h.xb.lt), h.ab.kept (hb (rb + 1) (by omega) h.ab.lt), ⟨a, b, (hb (rb + 2) (by omega) (Array.getElem?_eq_some_iff.1 hr).1).trans hr⟩, h.sz⟩
theorem DoB.below {g q rb W : Nat} {sv : Value} {A : ActG} {w u v : World} (h : DoB g q rb W sv A w u) (hb : Below u.heap.size u v) (hg : g < rb ∧ q < rb) : DoB g q rb W sv A w v := h.keptB (KeepB.of_below hb) hg
theorem DoB.lt {g q rb W : Nat} {sv : Value} {A : ActG} {w u : World} (h : DoB g q rb W sv A w u) : rb + 2 < u.heap.size := by
  obtain ⟨a, b, hr⟩ := h.rs
  exact (Array.getElem?_eq_some_iff.1 hr).1
/-- where a struct of two cells lies, cells may be stored -/
theorem two_cells {u : World} {p : Nat} {a b : Value} {T : TypeId} (h : u.heap[p]? = some (.cells #[a, b] T (0, 0))) : u.cell? ⟨p, 0, none⟩ = some a ∧ u.cell? ⟨p, 1, none⟩ = some b ∧ u.frozen? ⟨p, 0, none⟩ = false ∧ u.frozen? ⟨p, 1, none⟩ = false := by
  refine ⟨?_, ?_, ?_, ?_⟩ <;> simp [World.cell?, World.frozen?, h]
/-- what do answers -/
def DoG (g q : Nat) (L : List Nat) (y : Gd) (w : World) (e : Ending) (w' : World) : Prop := ∃ v' q', e = .returned (.tuple #[v', .bool true]) ∧ Gr g q' y w' ∧ RefG (q' :: L) v' y w' ∧ (q' = q ∨ w.heap.size ≤ q') ∧ KeepB [g, q] w w'
theorem RefG.consMem {L : List Nat} {v : Value} {x : Gd} {w : World} (h : RefG L v x w) {q : Nat} (hq : q ∈ L) : RefG (q :: L) v x w := by
  obtain ⟨a, n, c, e, h⟩ := h
  refine ⟨a, n, c, e, h.sub (fun p hp => ?_)⟩
  rcases List.mem_cons.1 hp with rfl | hp
  · exact hq
  · exact hp
theorem RefG.sub {L L' : List Nat} {v : Value} {x : Gd} {w : World} (h : RefG L v x w) (hs : ∀ p ∈ L', p ∈ L) : RefG L' v x w := by
  obtain ⟨a, n, c, e, h⟩ := h
  exact ⟨a, n, c, e, h.sub hs⟩
theorem Gr.keptB {g q : Nat} {x : Gd} {w w' : World} {L : List Nat} (h : Gr g q x w) (hk : KeepB L w w') (hg : g ∉ L) (hq : q ∉ L) (hL : ∀ p ∈ L, p < w.heap.size → ∃ cs T, w.heap[p]? = some (.cells cs T (0, 0)) ∧ T ≠ 82) : Gr g q x w' := by
  obtain ⟨us, cap, h⟩ := h
  exact ⟨us, cap, h.kept hk hg hq hL⟩
theorem Gr.lt {g q : Nat} {x : Gd} {w : World} (h : Gr g q x w) : g < w.heap.size ∧ q < w.heap.size := by
  obtain ⟨us, cap, h⟩ := h
  exact h.lt
theorem Gr.ok {g q : Nat} {x : Gd} {w : World} (h : Gr g q x w) : GdOk x := by
  obtain ⟨us, cap, h⟩ := h
  exact h.ok
theorem mem_upGone {x : Gd} {top bot n s : Int} {r : Ro} (h : r ∈ (upG x top bot n s).2) : r ∈ x.rs := by
  unfold upG at h
  simp only at h
  split at h
  · cases h
  · exact List.mem_of_mem_take (List.mem_of_mem_drop (List.mem_of_mem_take h))
theorem mem_downGone {x : Gd} {top bot n s : Int} {r : Ro} (h : r ∈ (downG x top bot n s).2) : r ∈ x.rs := by
  unfold downG at h
  simp only at h
  split at h
  · cases h
  · exact List.mem_of_mem_take (List.mem_of_mem_drop (List.mem_of_mem_drop (List.mem_reverse.1 h)))
theorem len_upGone (x : Gd) (top bot n s : Int) : (upG x top bot n s).2.length ≤ x.rs.length := by
  unfold upG
  simp only
  split
  · exact Nat.zero_le _
  · unfold regR
    rw [List.length_take, List.length_drop, List.length_take]; omega
theorem len_downGone (x : Gd) (top bot n s : Int) : (downG x top bot n s).2.length ≤ x.rs.length := by
  unfold downG
  simp only
  split
  · exact Nat.zero_le _
  · unfold regR
    rw [List.length_reverse, List.length_drop, List.length_drop, List.length_take]; omega
theorem RowsL.keptB2 {rk : IntKind} {L : List Nat} {a : Option Addr} {n c : Nat} {rs : List Ro} {w w' : World} {M : List Nat} (h : RowsL rk L a n c rs w) (hk : KeepB M w w') (hM : ∀ p ∈ M, p ∈ L) : RowsL rk L a n c rs w' := h.keptB (hk.mono hM)
theorem RefG.keptB2 {L M : List Nat} {v : Value} {x : Gd} {w w' : World} (h : RefG L v x w) (hk : KeepB M w w') (hM : ∀ p ∈ M, p ∈ L) : RefG L v x w' := h.keptB (hk.mono hM)
/-- while rows go up or down -/
def UpT (g q rb : Nat) (L : List Nat) (x y : Gd) (gone : List Ro) (a5 : Option Addr) (n5 c5 : Nat) (a4 : Option Addr) (n4 c4 s : Nat) : Nat → (Nat → Value) → World → Prop
  | 0, _, u => Gr g q x u ∧ RefG ((rb + 2) :: L) (refV y.W a5 n5 c5) y u ∧ RowsL .i64 ((rb + 2) :: L) a4 n4 c4 gone u ∧ True
  | 1, f, u => Gr g q y u ∧ RefG ((rb + 2) :: L) (refV y.W a5 n5 c5) y u ∧ RowsL .i64 ((rb + 2) :: L) a4 n4 c4 gone u ∧ ∃ a m c, f s = .slice a m c ∧ RowsL .i32 ((rb + 2) :: L) a m c gone u
  | 2, _, u => Gr g q y u ∧ RefG ((rb + 2) :: L) (refV y.W a5 n5 c5) y u
  | _, _, u => Gr g q y u ∧ RefG ((rb + 2) :: L) (refV y.W a5 n5 c5) y u ∧ u.heap[rb + 2]? = some (.cells #[.int .i64 (y.W : Int), .slice a5 n5 c5] 59 (0, 0))
def UpS (g q rb p14 : Nat) (L : List Nat) (x y : Gd) (gone : List Ro) (a5 : Option Addr) (n5 c5 : Nat) (a4 : Option Addr) (n4 c4 W : Nat) (sv : Value) (A : ActG) (w : World) (s k : Nat) (f : Nat → Value) (u : World) : Prop := (DoB g q rb W sv A w u ∧ GrB p14 y.W (.slice a5 n5 c5) u) ∧ UpT g q rb L x y gone a5 n5 c5 a4 n4 c4 s k f u
section
variable {g q rb p14 : Nat} {L : List Nat} {x y : Gd} {gone : List Ro} {a5 : Option Addr} {n5 c5 : Nat} {a4 : Option Addr} {n4 c4 W : Nat} {sv : Value} {A : ActG} {w : World} {s : Nat}
theorem UpS.drew {f f2 : Nat → Value} {u : World} (h : UpS g q rb p14 L x y gone a5 n5 c5 a4 n4 c4 W sv A w s 0 f u) : UpS g q rb p14 L x y gone a5 n5 c5 a4 n4 c4 W sv A w s 0 f2 u.drew := by
  obtain ⟨⟨h1, h2⟩, h3, h4, h5, -⟩ := h
  have hb : Below u.heap.size u u.drew := (Below.refl _ _).drew
  exact ⟨⟨⟨h1.kb.trans (KeepB.of_below hb), h1.xb.belowAll hb, h1.ab, h1.rs, h1.sz⟩, h2.belowAll hb⟩, h3.below hb, h4.below hb, h5.below hb, trivial⟩
theorem UpS.cong {k : Nat} {f f2 : Nat → Value} {u : World} (hs : k = 1 → f s = f2 s) (h : UpS g q rb p14 L x y gone a5 n5 c5 a4 n4 c4 W sv A w s k f u) : UpS g q rb p14 L x y gone a5 n5 c5 a4 n4 c4 W sv A w s k f2 u := by
  obtain ⟨h1, h2⟩ := h
  refine ⟨h1, ?_⟩
  match k, h2, hs with
  | 0, h2, _ => exact h2
  | 1, h2, hs =>
    obtain ⟨h3, h4, h5, a, m, c, h6, h7⟩ := h2
    exact ⟨h3, h4, h5, a, m, c, by rw [← hs rfl]; exact h6, h7⟩
  | 2, h2, _ => exact h2
  | _ + 3, h2, _ => exact h2
theorem DoB.big {g q rb W : Nat} {sv : Value} {A : ActG} {w u : World} (h : DoB g q rb W sv A w u) (hL : ∀ p ∈ L, p < w.heap.size) (hrb : w.heap.size = rb) : ∀ p ∈ (rb + 2) :: L, p < u.heap.size := fun p hp => by
  have := h.lt
  rcases List.mem_cons.1 hp with rfl | hp
  · exact this
  · have := hL p hp; omega
theorem UpS.one {v' : World} {u : World} {f : Nat → Value} {a6 : Option Addr} {m6 c6 : Nat} {st0 : Act} (h : UpS g q rb p14 L x y gone a5 n5 c5 a4 n4 c4 W sv A w s 0 f u) (hlt : g < rb ∧ q < rb) (hsub : g ∈ L ∧ q ∈ L) (hs : s < st0.tmps.size) (hp : p14 ≠ g ∧ p14 ≠ q) (k1 : RowsL .i32 ((rb + 2) :: L) a6 m6 c6 gone v') (k2 : Gr g q y v') (k3 : KeepB [g, q] u v') :
    UpS g q rb p14 L x y gone a5 n5 c5 a4 n4 c4 W sv A w s 1 (R.slot (st0.put (some s) (.slice a6 m6 c6))) v' := by
  obtain ⟨⟨h1, h2⟩, h3, h4, h5, -⟩ := h
  have hM : ∀ p ∈ [g, q], p ∈ (rb + 2) :: L := fun p hp => by
    have : p = g ∨ p = q := by simpa using hp
    rcases this with rfl | rfl
    · simp [hsub.1]
    · simp [hsub.2]
  exact ⟨⟨h1.keptB k3 hlt, h2.kept (k3.block _ h2.lt (fun e => by
    have : p14 = g ∨ p14 = q := by simpa using e
    omega))⟩, k2, h4.keptB2 k3 hM, h5.keptB2 k3 hM, a6, m6, c6, R.slot_same hs, k1⟩
theorem UpS.two {v' : World} {u : World} {f f2 : Nat → Value} (h : UpS g q rb p14 L x y gone a5 n5 c5 a4 n4 c4 W sv A w s 1 f u) (hlt : g < rb ∧ q < rb) (hb : Below u.heap.size u v') : UpS g q rb p14 L x y gone a5 n5 c5 a4 n4 c4 W sv A w s 2 f2 v' := by
  obtain ⟨⟨h1, h2⟩, h3, h4, -⟩ := h
  exact ⟨⟨h1.below hb hlt, h2.belowAll hb⟩, h3.below hb, h4.below hb⟩
theorem UpS.three {u : World} {f f2 : Nat → Value} (h : UpS g q rb p14 L x y gone a5 n5 c5 a4 n4 c4 W sv A w s 2 f u) (hlt : g < rb ∧ q < rb) (hp : p14 ≠ rb + 2) : UpS g q rb p14 L x y gone a5 n5 c5 a4 n4 c4 W sv A w s 3 f2 ((u.setCell ⟨rb + 2, 0, none⟩ (.int .i64 (y.W : Int))).setCell ⟨rb + 2, 1, none⟩ (.slice a5 n5 c5)) := by
  obtain ⟨⟨h1, h2⟩, h3, h4⟩ := h
  obtain ⟨ra, rbb, hr⟩ := h1.rs
  have hk : KeepB [rb + 2] u ((u.setCell ⟨rb + 2, 0, none⟩ (.int .i64 (y.W : Int))).setCell ⟨rb + 2, 1, none⟩ (.slice a5 n5 c5)) := (KeepB.setCell _).trans (KeepB.setCell _)
  have hne : ∀ i, i ≠ rb + 2 → i < u.heap.size → ((u.setCell ⟨rb + 2, 0, none⟩ (.int .i64 (y.W : Int))).setCell ⟨rb + 2, 1, none⟩ (.slice a5 n5 c5)).heap[i]? = u.heap[i]? := fun i hi hl => hk.block i hl (fun e => hi (List.mem_singleton.1 e))
  have hsz := h1.sz
  have h3l := h3.lt
  have hp2 := put2 hr (.int .i64 (y.W : Int)) (.slice a5 n5 c5)
  refine ⟨⟨⟨h1.kb.strike2 hk (fun p hp => by rw [List.mem_singleton.1 hp]; omega), h1.xb.kept (hne rb (by omega) h1.xb.lt), h1.ab.kept (hne (rb + 1) (by omega) h1.ab.lt), ⟨_, _, hp2⟩, hsz⟩, h2.kept (hne p14 hp h2.lt)⟩, h3.keptB hk (fun e => by rw [List.mem_singleton] at e; omega) (fun e => by rw [List.mem_singleton] at e; omega) (fun p hp _ => by obtain rfl := List.mem_singleton.1 hp; exact ⟨_, _, hr, by decide⟩), h4.keptB2 hk (fun p hp => by rw [List.mem_singleton.1 hp]; simp), hp2⟩
end
end Go.Proofs.YtmdnnpcofbhceaaDoor.K
