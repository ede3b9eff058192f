/- A region that draws its order, some of whose operations come up one behind the other: what holds behind the k-th of these is told; the others may come up at any time. -/
import Derived.Test.YtgagkmlkoeceiaaMerged1
namespace Go.Proofs.Ytgagkmlkoeceiaa.R
open Go

section
variable {P : Program} {ops : Array Oper} {Q : Exit → Act → World → Prop}
/-- what a slot holds -/
def slot (a : Act) : Nat → Value := fun s => a.tmps.getD s undef
/-- the slots of the first k of these operations, and of those that they wait for -/
def slotsP (ops : Array Oper) (cs : List Nat) (k : Nat) : List Nat :=
  (cs.take k).flatMap fun c => match ops[c]? with
    | none => []
    | some o => (match o.dst with | some d => [d] | none => []) ++ (o.after.toList.filter (fun e => Region.binds .any e)).flatMap fun e => match ops[e.on]? with
      | none => []
      | some o' => match o'.dst with | some d => [d] | none => []
theorem mem_slots {ops : Array Oper} {cs : List Nat} {k s : Nat} (h : (slotsP ops cs k).contains s = true) : s ∈ slotsP ops cs k := by simpa using h
/-- these operations wait for one another -/
def chainB (ops : Array Oper) (cs : List Nat) : Bool :=
  (List.range cs.length).all fun j => match cs[j]? with
    | none => true
    | some c => (match ops[c]? with
      | none => false
      | some o => match j with
        | 0 => true
        | j' + 1 => match cs[j']? with
          | none => false
          | some c' => o.after.toList.any fun e => Region.binds .any e && e.on == c') && (List.range j).all fun i => cs[i]? != some c
/-- EACH OPERATION's OWN STEP. -/
def OpStepP (P : Program) (ops : Array Oper) (Q : Exit → Act → World → Prop) (base : Act) (cs : List Nat) (St : Nat → (Nat → Value) → World → Prop) (R : World → World → Prop) (Ok : Nat → Value → World → Prop) (i : Nat) (o : Oper) : Prop :=
  match cs.findIdx? (fun c => c == i) with
  | none => ∀ (k : Nat) (a : Act) (w : World), St k (slot a) w → Agree ops base a → (∀ e ∈ o.after, Region.binds .any e = true → ∀ oj d, ops[e.on]? = some oj → oj.dst = some d → Ok e.on (a.tmps.getD d undef) w) →
    (Region.wanted o (yielded ops a.tmps) = true ∧ ∀ K : Act → World → Prop, (∀ v w', R w w' → Ok i v w' → St k (slot a) w' → K (a.put o.dst v) w') → o.wp P a w K Q) ∨
    (Region.wanted o (yielded ops a.tmps) = false ∧ R w w ∧ Ok i undef w)
  | some j => ∀ (a : Act) (w : World), St j (slot a) w → Agree ops base a → (∀ e ∈ o.after, Region.binds .any e = true → ∀ oj d, ops[e.on]? = some oj → oj.dst = some d → Ok e.on (a.tmps.getD d undef) w) →
    Region.wanted o (yielded ops a.tmps) = true ∧ ∀ K : Act → World → Prop, (∀ v w', R w w' → Ok i v w' → St (j + 1) (slot (a.put o.dst v)) w' → K (a.put o.dst v) w') → o.wp P a w K Q

theorem slot_put {a : Act} {d s : Nat} {v : Value} (h : s ≠ d) : slot (a.put (some d) v) s = slot a s := by
  unfold slot Act.put
  simp only [Array.getD_eq_getD_getElem?]
  rw [Array.getElem?_setIfInBounds, if_neg (fun e => h e.symm)]
theorem slot_same {a : Act} {d : Nat} {v : Value} (h : d < a.tmps.size) : slot (a.put (some d) v) d = v := by
  unfold slot
  rw [getD_put h, if_pos rfl]
theorem chainB_spec {cs : List Nat} (h : chainB ops cs = true) {j c : Nat} (hj : cs[j]? = some c) : (∃ o, ops[c]? = some o ∧ ∀ j', j = j' + 1 → ∃ c', cs[j']? = some c' ∧ ∃ e ∈ o.after, Region.binds .any e = true ∧ e.on = c') ∧ ∀ i, i < j → cs[i]? ≠ some c := by
  unfold chainB at h
  have hlt := (List.getElem?_eq_some_iff.1 hj).1
  have h1 := List.all_eq_true.1 h j (List.mem_range.2 hlt)
  rw [hj] at h1
  simp only [Bool.and_eq_true] at h1
  obtain ⟨h1, h2⟩ := h1
  refine ⟨?_, fun i hi e => ?_⟩
  · cases ho : ops[c]? with
    | none => rw [ho] at h1; cases h1
    | some o =>
      rw [ho] at h1
      refine ⟨o, rfl, fun j' e => ?_⟩
      subst e
      simp only at h1
      cases hc : cs[j']? with
      | none => rw [hc] at h1; cases h1
      | some c' =>
        rw [hc] at h1
        simp only at h1
        obtain ⟨e, he, hb⟩ := List.any_eq_true.1 h1
        simp only [Bool.and_eq_true, beq_iff_eq] at hb
        exact ⟨c', rfl, e, by simpa using he, hb.1, hb.2⟩
  · have := List.all_eq_true.1 h2 i (List.mem_range.2 hi)
    rw [e] at this
    simp at this

theorem wp_region_prog {id : Nat} {base : Act} {w0 : World} (cs : List Nat) (hm : P.follows .mixedOrders = true) (St : Nat → (Nat → Value) → World → Prop) (R : World → World → Prop) (Ok : Nat → Value → World → Prop)
    (hin : (ops.toList.all fun o => match o.dst with | some d => decide (d < base.tmps.size) | none => true) = true)
    (hdis : distinctB ops = true) (hordB : orderedN ops ops.size = true) (hch : chainB ops cs = true)
    (hcong : ∀ k f g w, (∀ s ∈ slotsP ops cs k, f s = g s) → St k f w → St k g w)
    (hOk : ∀ i v w w', Ok i v w → R w w' → Ok i v w')
    (hop : EachOp (OpStepP P ops Q base cs St R Ok) 0 ops.toList)
    (hdone : ∀ a w, St cs.length (slot a) w → Agree ops base a → (∀ (i : Nat) (o : Oper) (d : Nat), ops[i]? = some o → o.dst = some d → Ok i (a.tmps.getD d undef) w) → Q .normal a w)
    (h0 : St 0 (slot base) w0.drew) : (Code.region id ops true).wp P Q base w0 := by
  -- the progress
  let C : (Nat → Bool) → Act → World → Prop := fun L a w => ∃ k, k ≤ cs.length ∧ (∀ j c, cs[j]? = some c → L c = decide (j < k)) ∧ (∀ j c o, j < k → cs[j]? = some c → ops[c]? = some o → ∀ e ∈ o.after, Region.binds .any e = true → L e.on = true) ∧ St k (slot a) w
  have hdst : ∀ (L : Nat → Bool) (k i : Nat) (o : Oper) (d : Nat), ops[i]? = some o → o.dst = some d → L i = false → (∀ j c, cs[j]? = some c → L c = decide (j < k)) → (∀ j c o, j < k → cs[j]? = some c → ops[c]? = some o → ∀ e ∈ o.after, Region.binds .any e = true → L e.on = true) → ∀ s ∈ slotsP ops cs k, s ≠ d := by
    intro L k i o d ho hd hL h1 h2 s hs e
    subst e
    unfold slotsP at hs
    obtain ⟨c, hc, hs⟩ := List.mem_flatMap.1 hs
    obtain ⟨j, hjc⟩ := List.mem_iff_getElem?.1 hc
    rw [List.getElem?_take] at hjc
    split at hjc
    · rename_i hjk
      have hLc := h1 j c hjc
      rw [decide_eq_true hjk] at hLc
      cases ho' : ops[c]? with
      | none => rw [ho'] at hs; cases hs
      | some o' =>
        rw [ho'] at hs
        simp only at hs
        rcases List.mem_append.1 hs with hs | hs
        · cases hd' : o'.dst with
          | none => rw [hd'] at hs; cases hs
          | some d' =>
            rw [hd'] at hs
            obtain rfl : s = d' := by simpa using hs
            have := distinctB_spec (ops := ops) hdis i c o o' s ho ho' hd hd'
            rw [this] at hL
            rw [hL] at hLc
            cases hLc
        · obtain ⟨e, he, hs⟩ := List.mem_flatMap.1 hs
          obtain ⟨he, hb⟩ := List.mem_filter.1 he
          have hLe := h2 j c o' hjk hjc ho' e (by simpa using he) hb
          cases ho2 : ops[e.on]? with
          | none => rw [ho2] at hs; cases hs
          | some o2 =>
            rw [ho2] at hs
            simp only at hs
            cases hd2 : o2.dst with
            | none => rw [hd2] at hs; cases hs
            | some d2 =>
              rw [hd2] at hs
              obtain rfl : s = d2 := by simpa using hs
              have := distinctB_spec (ops := ops) hdis i e.on o o2 s ho ho2 hd hd2
              rw [this] at hL
              rw [hL] at hLe
              cases hLe
    · cases hjc
  refine wp_region_relA hm C R Ok hin hdis hordB hOk ?_ ?_ ⟨0, Nat.zero_le _, fun j c _ => by simp, fun j c o hj => absurd hj (Nat.not_lt_zero _), h0⟩
  · -- each step
    have key : ∀ i o, ops.toList[i]? = some o → OpStepA P ops Q base C R Ok i o := by
      intro i o hio
      have hio' : ops[i]? = some o := by simpa using hio
      have hstep := hop.at i o hio
      rw [Nat.zero_add] at hstep
      intro L a w hL hpre hC hag hdep
      obtain ⟨k, hk, h1, h2, hst⟩ := hC
      unfold OpStepP at hstep
      cases hf : cs.findIdx? (fun c => c == i) with
      | none =>
        rw [hf] at hstep
        simp only at hstep
        have hni : ∀ j c, cs[j]? = some c → c ≠ i := fun j c hc e => by
          have := List.findIdx?_eq_none_iff.1 hf c (List.mem_of_getElem? hc)
          simp [e] at this
        have hC' : ∀ v w', St k (slot a) w' → C (upd L i) (a.put o.dst v) w' := fun v w' hs => by
          refine ⟨k, hk, fun j c hc => ?_, fun j c o' hj hc ho' e he hb => ?_, ?_⟩
          · unfold upd
            rw [if_neg (hni j c hc)]
            exact h1 j c hc
          · have := h2 j c o' hj hc ho' e he hb
            unfold upd
            split
            · rfl
            · exact this
          · cases hd : o.dst with
            | none => exact hs
            | some d => exact hcong k _ _ w' (fun s hs' => (slot_put (hdst L k i o d hio' hd hL h1 h2 s hs')).symm) hs
        rcases hstep k a w hst hag hdep with ⟨h3, h4⟩ | ⟨h3, h4, h5⟩
        · exact .inl ⟨h3, fun K hK => h4 K (fun v w' hr ho hs => hK v w' hr ho (hC' v w' hs))⟩
        · exact .inr ⟨h3, h4, h5, hC' undef w hst⟩
      | some j =>
        rw [hf] at hstep
        simp only at hstep
        obtain ⟨hjl, hji, hjn⟩ := List.findIdx?_eq_some_iff_getElem.1 hf
        have hji' : cs[j] = i := by simpa using hji
        have hcj : cs[j]? = some i := by rw [List.getElem?_eq_getElem hjl, hji']
        obtain ⟨⟨o', ho', hpr⟩, hdup⟩ := chainB_spec (ops := ops) hch hcj
        rw [hio'] at ho'
        cases ho'
        have hkj : k = j := by
          have h3 := h1 j i hcj
          rw [hL] at h3
          have h4 : ¬ j < k := fun h => by rw [decide_eq_true h] at h3; cases h3
          cases j with
          | zero => omega
          | succ j' =>
            obtain ⟨c', hc', e, he, hb, hon⟩ := hpr j' rfl
            have h5 := hpre e he hb
            rw [hon, h1 j' c' hc'] at h5
            have := of_decide_eq_true h5
            omega
        subst hkj
        obtain ⟨h3, h4⟩ := hstep a w hst hag hdep
        refine .inl ⟨h3, fun K hK => h4 K (fun v w' hr hov hs => hK v w' hr hov ⟨k + 1, hjl, fun j2 c hc => ?_, fun j2 c o2 hj2 hc ho2 e he hb => ?_, hs⟩)⟩
        · unfold upd
          by_cases hci : c = i
          · rw [if_pos hci]
            subst hci
            have : j2 = k := by
              rcases Nat.lt_trichotomy j2 k with h | h | h
              · exact absurd hc (hdup j2 h)
              · exact h
              · exact absurd hcj ((chainB_spec (ops := ops) hch hc).2 k h)
            subst this
            exact (decide_eq_true (by omega)).symm
          · rw [if_neg hci, h1 j2 c hc]
            have : j2 ≠ k := fun e => hci (by subst e; rw [hcj] at hc; cases hc; rfl)
            by_cases h : j2 < k
            · rw [decide_eq_true h, decide_eq_true (by omega)]
            · rw [decide_eq_false h, decide_eq_false (by omega)]
        · have h5 : L e.on = true := by
            by_cases h : j2 < k
            · exact h2 j2 c o2 h hc ho2 e he hb
            · have : j2 = k := by omega
              subst this
              rw [hcj] at hc
              cases hc
              rw [hio'] at ho2
              cases ho2
              exact hpre e he hb
          unfold upd
          split
          · rfl
          · exact h5
    have go : ∀ (l : List Oper) (k : Nat), (∀ i o, l[i]? = some o → OpStepA P ops Q base C R Ok (k + i) o) → EachOp (OpStepA P ops Q base C R Ok) k l := by
      intro l
      induction l with
      | nil => intro k _; trivial
      | cons o l ih =>
        intro k h
        exact ⟨h 0 o rfl, ih (k + 1) (fun i o' ho => by have := h (i + 1) o' (by simpa using ho); rwa [show k + (i + 1) = k + 1 + i by omega] at this)⟩
    exact go ops.toList 0 (fun i o h => by rw [Nat.zero_add]; exact key i o h)
  · intro a w hC hag hok
    obtain ⟨k, hk, h1, h2, hst⟩ := hC
    have hkl : k = cs.length := by
      rcases Nat.lt_or_ge k cs.length with h | h
      · have hck : cs[k]? = some cs[k] := List.getElem?_eq_getElem h
        have h3 := h1 k cs[k] hck
        obtain ⟨⟨o, ho, -⟩, -⟩ := chainB_spec (ops := ops) hch hck
        have hlt := (Array.getElem?_eq_some_iff.1 ho).1
        dsimp only at h3
        rw [decide_eq_true hlt, decide_eq_false (Nat.lt_irrefl k)] at h3
        cases h3
      · omega
    subst hkl
    exact hdone a w hst hag hok
end
end Go.Proofs.Ytgagkmlkoeceiaa.R
