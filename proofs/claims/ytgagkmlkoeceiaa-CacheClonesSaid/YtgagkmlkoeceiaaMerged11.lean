/- The contract of cache.Clear. -/
import Derived.Test.YtgagkmlkoeceiaaCPut
import Derived.Test.YtgagkmlkoeceiaaRelD
namespace Go.Proofs.Ytgagkmlkoeceiaa.C
open Go.RowKit Go.Maps Go.Proofs.Ytgagkmlkoeceiaa.H Go.ChangeMaps Go.MapKept

theorem MapN.clear {m : Nat} {es : List (Int × Nat)} {w : World} (h : MapN m es w) (ty : TypeId) :
    ∃ w', (Builtin.clear_ #[46] ty #[.map (some m)]).run Try.prog w = .ok (.tuple #[]) w' ∧ MapN m [] w' ∧ w.grownBy w' (some m) := by
  obtain ⟨D, ⟨e9, clock, h1, h2⟩, hM⟩ := h
  refine ⟨setBlock w m (.map #[] clock), ?_, ⟨.map [], ⟨#[], clock, heap_setBlock_same h1 _, ⟨by simp, stamped_empty clock, by simp⟩, Nat.le_refl _, rfl⟩, mapIs_none⟩, ⟨rfl, rfl, rfl, by simp [setBlock], fun i _ hi => heap_setBlock_other h1 _ (fun e => hi (by rw [e]))⟩⟩
  simp [Builtin.clear_, run_underlying Try.underlying46, MapKept.run_getObj_map h1, MapKept.run_setObj_map _ h1, Result.andThen, setBlock]
theorem cleared {c m e e' : Nat} {M G : List Nat} {most : Nat} {ns : List Nd} {w w1 w2 : World} (h : ChAt c m e M G most ns w) (g : w.grownBy w1 (some m)) (mp : MapN m [] w1) (hl : IsLine e' w2) (hk : Links w2 [e', e']) (hb : Below w1.heap.size w1 w2) (he : w1.heap.size ≤ e') :
    ChAt c m e' (M ++ [e']) G most [] (w2.setCell ⟨c, 2, none⟩ (.pointer (some ⟨e', 0, none⟩))) ∧ KeepB M w (w2.setCell ⟨c, 2, none⟩ (.pointer (some ⟨e', 0, none⟩))) := by
  have hcl := (Array.getElem?_eq_some_iff.1 h.cb).1
  have hcm := h.cNotMap
  have hs1 := g.size
  have hs2 := hb.size
  have hml := mp.lt
  have hel := hl.lt
  have hc2 : w2.heap[c]? = some (.cells #[.int .i64 (most : Int), .map (some m), .pointer (some ⟨e, 0, none⟩)] 50 (0, 0)) := by
    rw [hb.block c (by omega), g.block c hcl (fun e9 => hcm (by injection e9))]
    exact h.cb
  have hce : e' ≠ c := by omega
  have hsz : (w2.setCell ⟨c, 2, none⟩ (.pointer (some ⟨e', 0, none⟩))).heap.size = w2.heap.size := by simp [World.setCell]
  have hot : ∀ p, p ≠ c → (w2.setCell ⟨c, 2, none⟩ (.pointer (some ⟨e', 0, none⟩))).heap[p]? = w2.heap[p]? := fun p hp => Below.heap_setCell w2 ⟨c, 2, none⟩ _ p hp
  have hkeep : KeepB M w (w2.setCell ⟨c, 2, none⟩ (.pointer (some ⟨e', 0, none⟩))) := ⟨hb.os.trans g.os, hb.tape.trans g.tape, hb.output.trans g.output, by rw [hsz]; omega, fun p hp hm => by
    rw [hot p (fun e9 => hm (by rw [e9]; exact h.cm)), hb.block p (by omega), g.block p hp (fun e9 => hm (by injection e9 with e9; rw [e9]; exact h.mm))]⟩
  refine ⟨⟨?_, ?_, fun b hb9 => ?_, ?_, by simp [blkN], by simp, (fun x hx => by cases hx), (fun x hx => by cases hx), by simp, (fun x hx => by cases hx), fun p hp => ⟨fun hm => ?_, ?_⟩, List.mem_append_left _ h.cm, List.mem_append_left _ h.mm, fun b hb9 => ?_, fun p hp => ?_⟩, hkeep⟩
  · simp [World.setCell, Array.getElem?_modify, hc2]
  · exact mp.of_block ((hot m (fun e9 => hcm e9.symm)).trans (hb.block m hml))
  · obtain rfl : b = e' := by simpa [blkN] using hb9
    exact hl.set _ _
  · exact ⟨(cell_other _ (.inl (Ne.symm hce))).trans hk.1, (cell_other _ (.inl (Ne.symm hce))).trans hk.2.1, trivial⟩
  · rcases List.mem_append.1 hm with hm | hm
    · exact (h.apart p hp).1 hm
    · have h9 : p = e' := by simpa using hm
      have := (h.apart p hp).2
      omega
  · have := (h.apart p hp).2
    omega
  · obtain rfl : b = e' := by simpa [blkN] using hb9
    simp
  · rcases List.mem_append.1 hp with hp | hp
    · have := h.lt p hp
      omega
    · rw [show p = e' by simpa using hp]
      omega
def ClrPost (c : Nat) (M G : List Nat) (x : Ca) (w : World) (r : Ending) (w' : World) : Prop := r = .returned (.tuple #[]) ∧ ∃ M', Ch c M' G ⟨x.most, []⟩ w' ∧ KeepB M w w' ∧ ∀ p ∈ M', p ∈ M ∨ w.heap.size ≤ p
set_option maxRecDepth 100000 in
set_option maxHeartbeats 4000000 in
theorem clear_any {c : Nat} {M G : List Nat} {x : Ca} (w : World) (h : Ch c M G x w) : Calls Try.prog 21 #[.pointer (some ⟨c, 0, none⟩)] w (ClrPost c M G x w) := by
  obtain ⟨P, hP⟩ : ∃ P, ClrPost c M G x w = P := ⟨_, rfl⟩
  rw [hP]
  have HP := Lib.hid hP
  obtain ⟨m, e, ns, h, h2, hfit⟩ := h
  have hc1 := h.c1
  obtain ⟨w1, hrun, hmp, hg⟩ := h.mp.clear 0
  have HC := Lib.hid h
  have HM := Lib.hid hmp
  have HG := Lib.hid hg
  have HR := Lib.hid (ring_any w1)
  have HFt := Lib.hid hfit
  clear hP h h2 hfit hmp hg
  go_enter Try.func21, Try.ntmps21
  go_wp2_with fail
  refine HR.out.mono ?_
  rintro r w2 ⟨e', rfl, h1, h2, h3, h4⟩
  have hcl := cleared HC.out HG.out HM.out h1 h2 h3 h4
  have hcc : w2.heap[c]? = some (.cells #[.int .i64 (x.most : Int), .map (some m), .pointer (some ⟨e, 0, none⟩)] 50 (0, 0)) := by
    have hl := (Array.getElem?_eq_some_iff.1 HC.out.cb).1
    rw [h3.block c (Nat.lt_of_lt_of_le hl HG.out.size), HG.out.block c hl (fun e9 => HC.out.cNotMap (by injection e9))]
    exact HC.out.cb
  have s0 := cell_block hcc 2
  have f0 := frozen_block hcc 2
  have hsz : w.heap.size ≤ e' := Nat.le_trans HG.out.size h4
  have hend : Hid (P (.returned (.tuple #[])) (w2.setCell ⟨c, 2, none⟩ (.pointer (some ⟨e', 0, none⟩)))) := Lib.hid (by
    rw [← HP.out]
    refine ⟨rfl, M ++ [e'], ⟨m, e', [], hcl.1, rfl, ⟨Nat.zero_le _, HFt.out.2.1, HFt.out.2.2⟩⟩, hcl.2, fun p hp => ?_⟩
    rcases List.mem_append.1 hp with hp | hp
    · exact .inl hp
    · rw [show p = e' by simpa using hp]
      exact .inr hsz)
  clear h1 h2 h3 h4 hcl hcc hsz
  go_wp2_with fail
  go_end0
  exact hend.out
end Go.Proofs.Ytgagkmlkoeceiaa.C

/- A region that draws its order, some of whose operations come up one behind the other; the state behind them sees which operations have come up, and all slots. -/
namespace Go.Proofs.Ytgagkmlkoeceiaa.R
open Go

section
variable {P : Program} {ops : Array Oper} {Q : Exit → Act → World → Prop}
/-- EACH OPERATION's OWN STEP. -/
def OpStepF (P : Program) (ops : Array Oper) (Q : Exit → Act → World → Prop) (base : Act) (cs due : List Nat) (St : Nat → (Nat → Bool) → (Nat → Value) → World → Prop) (R : World → World → Prop) (Ok : Nat → Value → World → Prop) (i : Nat) (o : Oper) : Prop :=
  match cs.findIdx? (fun c => c == i) with
  | none => ∀ (k : Nat) (L : Nat → Bool) (a : Act) (w : World), k ≤ due.getD i cs.length → L i = false → St k L (slot a) w → Agree ops base a → (∀ e ∈ o.after, Region.binds .any e = true → L e.on = true) → (∀ e ∈ o.after, Region.binds .any e = true → ∀ oj d, ops[e.on]? = some oj → oj.dst = some d → Ok e.on (a.tmps.getD d undef) w) →
    (Region.wanted o (yielded ops a.tmps) = true ∧ ∀ K : Act → World → Prop, (∀ v w', R w w' → Ok i v w' → St k (upd L i) (slot (a.put o.dst v)) w' → K (a.put o.dst v) w') → o.wp P a w K Q) ∨
    (Region.wanted o (yielded ops a.tmps) = false ∧ R w w ∧ Ok i undef w ∧ St k (upd L i) (slot (a.put o.dst undef)) w)
  | some j => ∀ (L : Nat → Bool) (a : Act) (w : World), L i = false → St j L (slot a) w → Agree ops base a → (∀ e ∈ o.after, Region.binds .any e = true → L e.on = true) → (∀ e ∈ o.after, Region.binds .any e = true → ∀ oj d, ops[e.on]? = some oj → oj.dst = some d → Ok e.on (a.tmps.getD d undef) w) →
    Region.wanted o (yielded ops a.tmps) = true ∧ ∀ K : Act → World → Prop, (∀ v w', R w w' → Ok i v w' → St (j + 1) (upd L i) (slot (a.put o.dst v)) w' → K (a.put o.dst v) w') → o.wp P a w K Q

theorem wp_region_seen {id : Nat} {base : Act} {w0 : World} (cs due : List Nat) (hm : P.follows .mixedOrders = true) (St : Nat → (Nat → Bool) → (Nat → Value) → World → Prop) (R : World → World → Prop) (Ok : Nat → Value → World → Prop)
    (hin : (ops.toList.all fun o => match o.dst with | some d => decide (d < base.tmps.size) | none => true) = true)
    (hdis : distinctB ops = true) (hordB : orderedN ops ops.size = true) (hch : chainB ops cs = true) (hdu : dueB ops cs due = true)
    (hOk : ∀ i v w w', Ok i v w → R w w' → Ok i v w')
    (hop : EachOp (OpStepF P ops Q base cs due St R Ok) 0 ops.toList)
    (hdone : ∀ a w L, (∀ i, i < ops.size → L i = true) → St cs.length L (slot a) w → Agree ops base a → (∀ (i : Nat) (o : Oper) (d : Nat), ops[i]? = some o → o.dst = some d → Ok i (a.tmps.getD d undef) w) → Q .normal a w)
    (h0 : St 0 (fun _ => false) (slot base) w0.drew) : (Code.region id ops true).wp P Q base w0 := by
  -- the progress
  let C : (Nat → Bool) → Act → World → Prop := fun L a w => ∃ k, k ≤ cs.length ∧ (∀ j c, cs[j]? = some c → L c = decide (j < k)) ∧ (∀ c o, L c = true → ops[c]? = some o → ∀ e ∈ o.after, Region.binds .any e = true → L e.on = true) ∧ St k L (slot a) w
  refine wp_region_relA hm C R Ok hin hdis hordB hOk ?_ ?_ ⟨0, Nat.zero_le _, fun j c _ => by simp, (fun c o hc => by simp at hc), h0⟩
  · -- each step
    have key : ∀ i o, ops.toList[i]? = some o → OpStepA P ops Q base C R Ok i o := by
      intro i o hio
      have hio' : ops[i]? = some o := by simpa using hio
      have hstep := hop.at i o hio
      rw [Nat.zero_add] at hstep
      intro L a w hL hpre hC hag hdep
      obtain ⟨k, hk, h1, hcl, hst⟩ := hC
      have h2 : ∀ j c o, j < k → cs[j]? = some c → ops[c]? = some o → ∀ e ∈ o.after, Region.binds .any e = true → L e.on = true := fun j c o hj hc => hcl c o (by rw [h1 j c hc, decide_eq_true hj])
      have hcl' : ∀ c o', upd L i c = true → ops[c]? = some o' → ∀ e ∈ o'.after, Region.binds .any e = true → upd L i e.on = true := fun c o' hc ho' e he hb => by
        have h6 : L e.on = true := by
          unfold upd at hc
          split at hc
          · rename_i hci
            subst hci
            rw [hio'] at ho'
            cases ho'
            exact hpre e he hb
          · exact hcl c o' hc ho' e he hb
        unfold upd
        split
        · rfl
        · exact h6
      unfold OpStepF at hstep
      cases hf : cs.findIdx? (fun c => c == i) with
      | none =>
        rw [hf] at hstep
        simp only at hstep
        have hni : ∀ j c, cs[j]? = some c → c ≠ i := fun j c hc e => by
          have := List.findIdx?_eq_none_iff.1 hf c (List.mem_of_getElem? hc)
          simp [e] at this
        have hC' : ∀ v w', St k (upd L i) (slot (a.put o.dst v)) w' → C (upd L i) (a.put o.dst v) w' := fun v w' hs => by
          refine ⟨k, hk, fun j c hc => ?_, hcl', hs⟩
          unfold upd
          rw [if_neg (hni j c hc)]
          exact h1 j c hc
        have hkd : k ≤ due.getD i cs.length := by
          have h7 := List.all_eq_true.1 hdu i (List.mem_range.2 (Array.getElem?_eq_some_iff.1 hio').1)
          rcases Bool.or_eq_true_iff.1 h7 with h7 | h7
          · have := List.findIdx?_eq_none_iff.1 hf i (by simpa using h7)
            simp at this
          · cases hc : cs[due.getD i cs.length]? with
            | none => have := List.getElem?_eq_none_iff.1 hc; omega
            | some c =>
              rw [hc] at h7
              simp only at h7
              rcases Nat.lt_or_ge (due.getD i cs.length) k with h8 | h8
              · have h9 := reachD_spec hcl _ c i h7 (by rw [h1 _ c hc, decide_eq_true h8])
                rw [hL] at h9
                cases h9
              · exact h8
        rcases hstep k L a w hkd hL hst hag hpre hdep with ⟨h3, h4⟩ | ⟨h3, h4, h5, h6⟩
        · exact .inl ⟨h3, fun K hK => h4 K (fun v w' hr ho hs => hK v w' hr ho (hC' v w' hs))⟩
        · exact .inr ⟨h3, h4, h5, hC' undef w h6⟩
      | some j =>
        rw [hf] at hstep
        simp only at hstep
        obtain ⟨hjl, hji, hjn⟩ := List.findIdx?_eq_some_iff_getElem.1 hf
        have hji' : cs[j] = i := by simpa using hji
        have hcj : cs[j]? = some i := by rw [List.getElem?_eq_getElem hjl, hji']
        obtain ⟨⟨o', ho', hpr⟩, hdup⟩ := chainB_spec (ops := ops) hch hcj
        rw [hio'] at ho'
        cases ho'
        have hkj : k = j := by
          have h3 := h1 j i hcj
          rw [hL] at h3
          have h4 : ¬ j < k := fun h => by rw [decide_eq_true h] at h3; cases h3
          cases j with
          | zero => omega
          | succ j' =>
            obtain ⟨c', hc', e, he, hb, hon⟩ := hpr j' rfl
            have h5 := hpre e he hb
            rw [hon, h1 j' c' hc'] at h5
            have := of_decide_eq_true h5
            omega
        subst hkj
        obtain ⟨h3, h4⟩ := hstep L a w hL hst hag hpre hdep
        refine .inl ⟨h3, fun K hK => h4 K (fun v w' hr hov hs => hK v w' hr hov ⟨k + 1, hjl, fun j2 c hc => ?_, hcl', hs⟩)⟩
        · unfold upd
          by_cases hci : c = i
          · rw [if_pos hci]
            subst hci
            have : j2 = k := by
              rcases Nat.lt_trichotomy j2 k with h | h | h
              · exact absurd hc (hdup j2 h)
              · exact h
              · exact absurd hcj ((chainB_spec (ops := ops) hch hc).2 k h)
            subst this
            exact (decide_eq_true (by omega)).symm
          · rw [if_neg hci, h1 j2 c hc]
            have : j2 ≠ k := fun e => hci (by subst e; rw [hcj] at hc; cases hc; rfl)
            by_cases h : j2 < k
            · rw [decide_eq_true h, decide_eq_true (by omega)]
            · rw [decide_eq_false h, decide_eq_false (by omega)]
    have go : ∀ (l : List Oper) (k : Nat), (∀ i o, l[i]? = some o → OpStepA P ops Q base C R Ok (k + i) o) → EachOp (OpStepA P ops Q base C R Ok) k l := by
      intro l
      induction l with
      | nil => intro k _; trivial
      | cons o l ih =>
        intro k h
        exact ⟨h 0 o rfl, ih (k + 1) (fun i o' ho => by have := h (i + 1) o' (by simpa using ho); rwa [show k + (i + 1) = k + 1 + i by omega] at this)⟩
    exact go ops.toList 0 (fun i o h => by rw [Nat.zero_add]; exact key i o h)
  · intro a w hC hag hok
    obtain ⟨k, hk, h1, h2, hst⟩ := hC
    have hkl : k = cs.length := by
      rcases Nat.lt_or_ge k cs.length with h | h
      · have hck : cs[k]? = some cs[k] := List.getElem?_eq_getElem h
        have h3 := h1 k cs[k] hck
        obtain ⟨⟨o, ho, -⟩, -⟩ := chainB_spec (ops := ops) hch hck
        have hlt := (Array.getElem?_eq_some_iff.1 ho).1
        dsimp only at h3
        rw [decide_eq_true hlt, decide_eq_false (Nat.lt_irrefl k)] at h3
        cases h3
      · omega
    subst hkl
    exact hdone a w _ (fun i hi => decide_eq_true hi) hst hag hok
end
end Go.Proofs.Ytgagkmlkoeceiaa.R
