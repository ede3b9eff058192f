/- A region that draws its order, some of whose operations come up one behind the other; of each other one is told which of these waits for it: so it comes up ahead of that. -/
import Derived.Test.YtgagkmlkoeceiaaRelP
namespace Go.Proofs.Ytgagkmlkoeceiaa.R
open Go

section
variable {P : Program} {ops : Array Oper} {Q : Exit → Act → World → Prop}
/-- does c wait for i, maybe by way of others? -/
def reachD (ops : Array Oper) : Nat → Nat → Nat → Bool
  | 0, _, _ => false
  | f + 1, c, i => match ops[c]? with
    | none => false
    | some o => o.after.any fun e => Region.binds .any e && (e.on == i || reachD ops f e.on i)
theorem reachD_spec {L : Nat → Bool} (hcl : ∀ c o, L c = true → ops[c]? = some o → ∀ e ∈ o.after, Region.binds .any e = true → L e.on = true) : ∀ (f c i : Nat), reachD ops f c i = true → L c = true → L i = true
  | 0, _, _, h, _ => by cases h
  | f + 1, c, i, h, hc => by
    unfold reachD at h
    cases ho : ops[c]? with
    | none => rw [ho] at h; cases h
    | some o =>
      rw [ho] at h
      simp only at h
      obtain ⟨k, hk, hb⟩ := Array.any_eq_true.1 h
      simp only [Bool.and_eq_true, Bool.or_eq_true, beq_iff_eq] at hb
      have hL := hcl c o hc ho o.after[k] (Array.getElem_mem hk) hb.1
      rcases hb.2 with e | e
      · rw [← e]; exact hL
      · exact reachD_spec hcl f _ i e hL
def dueB (ops : Array Oper) (cs due : List Nat) : Bool := (List.range ops.size).all fun i => cs.contains i || match cs[due.getD i cs.length]? with
  | none => true
  | some c => reachD ops ops.size c i
/-- EACH OPERATION's OWN STEP. -/
def OpStepD (P : Program) (ops : Array Oper) (Q : Exit → Act → World → Prop) (base : Act) (cs due : List Nat) (St : Nat → (Nat → Value) → World → Prop) (R : World → World → Prop) (Ok : Nat → Value → World → Prop) (i : Nat) (o : Oper) : Prop :=
  match cs.findIdx? (fun c => c == i) with
  | none => ∀ (k : Nat) (a : Act) (w : World), k ≤ due.getD i cs.length → St k (slot a) w → Agree ops base a → (∀ e ∈ o.after, Region.binds .any e = true → ∀ oj d, ops[e.on]? = some oj → oj.dst = some d → Ok e.on (a.tmps.getD d undef) w) →
    (Region.wanted o (yielded ops a.tmps) = true ∧ ∀ K : Act → World → Prop, (∀ v w', R w w' → Ok i v w' → St k (slot a) w' → K (a.put o.dst v) w') → o.wp P a w K Q) ∨
    (Region.wanted o (yielded ops a.tmps) = false ∧ R w w ∧ Ok i undef w)
  | some j => ∀ (a : Act) (w : World), St j (slot a) w → Agree ops base a → (∀ e ∈ o.after, Region.binds .any e = true → ∀ oj d, ops[e.on]? = some oj → oj.dst = some d → Ok e.on (a.tmps.getD d undef) w) →
    Region.wanted o (yielded ops a.tmps) = true ∧ ∀ K : Act → World → Prop, (∀ v w', R w w' → Ok i v w' → St (j + 1) (slot (a.put o.dst v)) w' → K (a.put o.dst v) w') → o.wp P a w K Q

theorem wp_region_due {id : Nat} {base : Act} {w0 : World} (cs due : List Nat) (hm : P.follows .mixedOrders = true) (St : Nat → (Nat → Value) → World → Prop) (R : World → World → Prop) (Ok : Nat → Value → World → Prop)
    (hin : (ops.toList.all fun o => match o.dst with | some d => decide (d < base.tmps.size) | none => true) = true)
    (hdis : distinctB ops = true) (hordB : orderedN ops ops.size = true) (hch : chainB ops cs = true) (hdu : dueB ops cs due = true)
    (hcong : ∀ k f g w, (∀ s ∈ slotsP ops cs k, f s = g s) → St k f w → St k g w)
    (hOk : ∀ i v w w', Ok i v w → R w w' → Ok i v w')
    (hop : EachOp (OpStepD P ops Q base cs due St R Ok) 0 ops.toList)
    (hdone : ∀ a w, St cs.length (slot a) w → Agree ops base a → (∀ (i : Nat) (o : Oper) (d : Nat), ops[i]? = some o → o.dst = some d → Ok i (a.tmps.getD d undef) w) → Q .normal a w)
    (h0 : St 0 (slot base) w0.drew) : (Code.region id ops true).wp P Q base w0 := by
  -- the progress
  let C : (Nat → Bool) → Act → World → Prop := fun L a w => ∃ k, k ≤ cs.length ∧ (∀ j c, cs[j]? = some c → L c = decide (j < k)) ∧ (∀ c o, L c = true → ops[c]? = some o → ∀ e ∈ o.after, Region.binds .any e = true → L e.on = true) ∧ St k (slot a) w
  have hdst : ∀ (L : Nat → Bool) (k i : Nat) (o : Oper) (d : Nat), ops[i]? = some o → o.dst = some d → L i = false → (∀ j c, cs[j]? = some c → L c = decide (j < k)) → (∀ j c o, j < k → cs[j]? = some c → ops[c]? = some o → ∀ e ∈ o.after, Region.binds .any e = true → L e.on = true) → ∀ s ∈ slotsP ops cs k, s ≠ d := by
    intro L k i o d ho hd hL h1 h2 s hs e
    subst e
    unfold slotsP at hs
    obtain ⟨c, hc, hs⟩ := List.mem_flatMap.1 hs
    obtain ⟨j, hjc⟩ := List.mem_iff_getElem?.1 hc
    rw [List.getElem?_take] at hjc
    split at hjc
    · rename_i hjk
      have hLc := h1 j c hjc
      rw [decide_eq_true hjk] at hLc
      cases ho' : ops[c]? with
      | none => rw [ho'] at hs; cases hs
      | some o' =>
        rw [ho'] at hs
        simp only at hs
        rcases List.mem_append.1 hs with hs | hs
        · cases hd' : o'.dst with
          | none => rw [hd'] at hs; cases hs
          | some d' =>
            rw [hd'] at hs
            obtain rfl : s = d' := by simpa using hs
            have := distinctB_spec (ops := ops) hdis i c o o' s ho ho' hd hd'
            rw [this] at hL
            rw [hL] at hLc
            cases hLc
        · obtain ⟨e, he, hs⟩ := List.mem_flatMap.1 hs
          obtain ⟨he, hb⟩ := List.mem_filter.1 he
          have hLe := h2 j c o' hjk hjc ho' e (by simpa using he) hb
          cases ho2 : ops[e.on]? with
          | none => rw [ho2] at hs; cases hs
          | some o2 =>
            rw [ho2] at hs
            simp only at hs
            cases hd2 : o2.dst with
            | none => rw [hd2] at hs; cases hs
            | some d2 =>
              rw [hd2] at hs
              obtain rfl : s = d2 := by simpa using hs
              have := distinctB_spec (ops := ops) hdis i e.on o o2 s ho ho2 hd hd2
              rw [this] at hL
              rw [hL] at hLe
              cases hLe
    · cases hjc
  refine wp_region_relA hm C R Ok hin hdis hordB hOk ?_ ?_ ⟨0, Nat.zero_le _, fun j c _ => by simp, (fun c o hc => by simp at hc), h0⟩
  · -- each step
    have key : ∀ i o, ops.toList[i]? = some o → OpStepA P ops Q base C R Ok i o := by
      intro i o hio
      have hio' : ops[i]? = some o := by simpa using hio
      have hstep := hop.at i o hio
      rw [Nat.zero_add] at hstep
      intro L a w hL hpre hC hag hdep
      obtain ⟨k, hk, h1, hcl, hst⟩ := hC
      have h2 : ∀ j c o, j < k → cs[j]? = some c → ops[c]? = some o → ∀ e ∈ o.after, Region.binds .any e = true → L e.on = true := fun j c o hj hc => hcl c o (by rw [h1 j c hc, decide_eq_true hj])
      have hcl' : ∀ c o', upd L i c = true → ops[c]? = some o' → ∀ e ∈ o'.after, Region.binds .any e = true → upd L i e.on = true := fun c o' hc ho' e he hb => by
        have h6 : L e.on = true := by
          unfold upd at hc
          split at hc
          · rename_i hci
            subst hci
            rw [hio'] at ho'
            cases ho'
            exact hpre e he hb
          · exact hcl c o' hc ho' e he hb
        unfold upd
        split
        · rfl
        · exact h6
      unfold OpStepD at hstep
      cases hf : cs.findIdx? (fun c => c == i) with
      | none =>
        rw [hf] at hstep
        simp only at hstep
        have hni : ∀ j c, cs[j]? = some c → c ≠ i := fun j c hc e => by
          have := List.findIdx?_eq_none_iff.1 hf c (List.mem_of_getElem? hc)
          simp [e] at this
        have hC' : ∀ v w', St k (slot a) w' → C (upd L i) (a.put o.dst v) w' := fun v w' hs => by
          refine ⟨k, hk, fun j c hc => ?_, hcl', ?_⟩
          · unfold upd
            rw [if_neg (hni j c hc)]
            exact h1 j c hc
          · cases hd : o.dst with
            | none => exact hs
            | some d => exact hcong k _ _ w' (fun s hs' => (slot_put (hdst L k i o d hio' hd hL h1 h2 s hs')).symm) hs
        have hkd : k ≤ due.getD i cs.length := by
          have h7 := List.all_eq_true.1 hdu i (List.mem_range.2 (Array.getElem?_eq_some_iff.1 hio').1)
          rcases Bool.or_eq_true_iff.1 h7 with h7 | h7
          · have := List.findIdx?_eq_none_iff.1 hf i (by simpa using h7)
            simp at this
          · cases hc : cs[due.getD i cs.length]? with
            | none => have := List.getElem?_eq_none_iff.1 hc; omega
            | some c =>
              rw [hc] at h7
              simp only at h7
              rcases Nat.lt_or_ge (due.getD i cs.length) k with h8 | h8
              · have h9 := reachD_spec hcl _ c i h7 (by rw [h1 _ c hc, decide_eq_true h8])
                rw [hL] at h9
                cases h9
              · exact h8
        rcases hstep k a w hkd hst hag hdep with ⟨h3, h4⟩ | ⟨h3, h4, h5⟩
        · exact .inl ⟨h3, fun K hK => h4 K (fun v w' hr ho hs => hK v w' hr ho (hC' v w' hs))⟩
        · exact .inr ⟨h3, h4, h5, hC' undef w hst⟩
      | some j =>
        rw [hf] at hstep
        simp only at hstep
        obtain ⟨hjl, hji, hjn⟩ := List.findIdx?_eq_some_iff_getElem.1 hf
        have hji' : cs[j] = i := by simpa using hji
        have hcj : cs[j]? = some i := by rw [List.getElem?_eq_getElem hjl, hji']
        obtain ⟨⟨o', ho', hpr⟩, hdup⟩ := chainB_spec (ops := ops) hch hcj
        rw [hio'] at ho'
        cases ho'
        have hkj : k = j := by
          have h3 := h1 j i hcj
          rw [hL] at h3
          have h4 : ¬ j < k := fun h => by rw [decide_eq_true h] at h3; cases h3
          cases j with
          | zero => omega
          | succ j' =>
            obtain ⟨c', hc', e, he, hb, hon⟩ := hpr j' rfl
            have h5 := hpre e he hb
            rw [hon, h1 j' c' hc'] at h5
            have := of_decide_eq_true h5
            omega
        subst hkj
        obtain ⟨h3, h4⟩ := hstep a w hst hag hdep
        refine .inl ⟨h3, fun K hK => h4 K (fun v w' hr hov hs => hK v w' hr hov ⟨k + 1, hjl, fun j2 c hc => ?_, hcl', hs⟩)⟩
        · unfold upd
          by_cases hci : c = i
          · rw [if_pos hci]
            subst hci
            have : j2 = k := by
              rcases Nat.lt_trichotomy j2 k with h | h | h
              · exact absurd hc (hdup j2 h)
              · exact h
              · exact absurd hcj ((chainB_spec (ops := ops) hch hc).2 k h)
            subst this
            exact (decide_eq_true (by omega)).symm
          · rw [if_neg hci, h1 j2 c hc]
            have : j2 ≠ k := fun e => hci (by subst e; rw [hcj] at hc; cases hc; rfl)
            by_cases h : j2 < k
            · rw [decide_eq_true h, decide_eq_true (by omega)]
            · rw [decide_eq_false h, decide_eq_false (by omega)]
    have go : ∀ (l : List Oper) (k : Nat), (∀ i o, l[i]? = some o → OpStepA P ops Q base C R Ok (k + i) o) → EachOp (OpStepA P ops Q base C R Ok) k l := by
      intro l
      induction l with
      | nil => intro k _; trivial
      | cons o l ih =>
        intro k h
        exact ⟨h 0 o rfl, ih (k + 1) (fun i o' ho => by have := h (i + 1) o' (by simpa using ho); rwa [show k + (i + 1) = k + 1 + i by omega] at this)⟩
    exact go ops.toList 0 (fun i o h => by rw [Nat.zero_add]; exact key i o h)
  · intro a w hC hag hok
    obtain ⟨k, hk, h1, h2, hst⟩ := hC
    have hkl : k = cs.length := by
      rcases Nat.lt_or_ge k cs.length with h | h
      · have hck : cs[k]? = some cs[k] := List.getElem?_eq_getElem h
        have h3 := h1 k cs[k] hck
        obtain ⟨⟨o, ho, -⟩, -⟩ := chainB_spec (ops := ops) hch hck
        have hlt := (Array.getElem?_eq_some_iff.1 ho).1
        dsimp only at h3
        rw [decide_eq_true hlt, decide_eq_false (Nat.lt_irrefl k)] at h3
        cases h3
      · omega
    subst hkl
    exact hdone a w hst hag hok
end
end Go.Proofs.Ytgagkmlkoeceiaa.R
