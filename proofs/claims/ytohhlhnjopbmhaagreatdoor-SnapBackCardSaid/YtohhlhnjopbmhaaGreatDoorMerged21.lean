/- Runs of our own, one behind the other. -/
import Derived.Test.YtohhlhnjopbmhaaGreatDoorMerged20
import Derived.Test.YtohhlhnjopbmhaaGreatDoorMerged19
namespace Go.Proofs.YtohhlhnjopbmhaaGreatDoor.K
open Go.RowKit Go.Proofs.YtohhlhnjopbmhaaGreatDoor.I

def qCells (q : Nat × Cel) : List Value := [.int .i64 (q.1 : Int), .int .i32 q.2.rune, .int .i64 q.2.style, .int .i64 q.2.part]
def flatQ (R : List (Nat × Cel)) : List Value := R.flatMap qCells
theorem flatQ_append (A B : List (Nat × Cel)) : flatQ (A ++ B) = flatQ A ++ flatQ B := List.flatMap_append ..
theorem flatQ_get : ∀ (l : List (Nat × Cel)) (i j : Nat) (c : Nat × Cel), l[i]? = some c → j < 4 → (flatQ l)[i * 4 + j]? = (qCells c)[j]?
  | [], _, _, _, h, _ => by cases h
  | d :: l, 0, j, c, h, hj => by
    obtain rfl : d = c := by simpa using h
    show (qCells d ++ flatQ l)[0 * 4 + j]? = _
    rw [List.getElem?_append_left (by simp [qCells]; omega)]
    simp
  | d :: l, i + 1, j, c, h, hj => by
    show (qCells d ++ flatQ l)[(i + 1) * 4 + j]? = _
    rw [List.getElem?_append_right (by simp [qCells]; omega)]
    have e : (i + 1) * 4 + j - (qCells d).length = i * 4 + j := by simp [qCells]; omega
    rw [e]
    exact flatQ_get l i j c (by simpa using h) hj
def OwnRn (base : Nat) (v : Value) (R : List (Nat × Cel)) (w : World) : Prop := w.ownsRow base 121 4 v R.length (flatQ R)
theorem OwnRn.nil (base : Nat) (w : World) : OwnRn base (.slice none 0 0) [] w := World.ownsRow_nil _ _ _ _
theorem OwnRn.belowAll {base : Nat} {v : Value} {R : List (Nat × Cel)} {w w' : World} (h : OwnRn base v R w) (hb : Below w.heap.size w w') : OwnRn base v R w' := U.belowAll h hb
theorem OwnRn.own {base : Nat} {v : Value} {R : List (Nat × Cel)} {w : World} (h : OwnRn base v R w) : ∀ q, v.ownBlock = some q → base ≤ q ∧ q < w.heap.size := fun q hq => ⟨(U.own_type h hq).choose_spec.2.1, (U.own_type h hq).choose_spec.2.2⟩
theorem OwnRn.grown {base p : Nat} {v : Value} {R : List (Nat × Cel)} {w w' : World} (h : OwnRn base v R w) (hg : w.grownBy w' (some p)) (hp : p < base) : OwnRn base v R w' := U.kept_apart h hg (fun q hq e => by have := (h.own q hq).1; have := Option.some.inj e; omega)
structure RunAt (w : World) (b o : Nat) (q : Nat × Cel) : Prop where
  c0 : w.cell? ⟨b, o, none⟩ = some (.int .i64 (q.1 : Int))
  c1 : w.cell? ⟨b, o + 1, none⟩ = some (.int .i32 q.2.rune)
  c2 : w.cell? ⟨b, o + 1 + 1, none⟩ = some (.int .i64 q.2.style)
  c3 : w.cell? ⟨b, o + 1 + 2, none⟩ = some (.int .i64 q.2.part)
theorem RunAt.below {w w' : World} {b o B : Nat} {q : Nat × Cel} (h : RunAt w b o q) (hb : Below B w w') (hl : b < B) : RunAt w' b o q :=
  ⟨(hb.cell (p := ⟨b, o, none⟩) hl).trans h.c0, (hb.cell (p := ⟨b, o + 1, none⟩) hl).trans h.c1, (hb.cell (p := ⟨b, o + 1 + 1, none⟩) hl).trans h.c2, (hb.cell (p := ⟨b, o + 1 + 2, none⟩) hl).trans h.c3⟩
theorem OwnRn.shape {base : Nat} {v : Value} {R : List (Nat × Cel)} {w : World} (h : OwnRn base v R w) : ∃ a c, v = .slice a R.length c ∧ R.length ≤ c ∧ (c : Int) ≤ 9223372036854775807 ∧ (R = [] ∨ ∃ b, a = some ⟨b, 0, none⟩ ∧ base ≤ b ∧ b < w.heap.size ∧ ∀ i q, R[i]? = some q → RunAt w b (i * 4) q) := by
  rcases h.2 with ⟨rfl, h0⟩ | ⟨g, cap, cur, rfl, hbase, hg, hc, hm, hs, ht⟩
  · exact ⟨none, 0, by rw [h0], by omega, by decide, .inl (List.length_eq_zero_iff.1 h0)⟩
  · have hlt := (Array.getElem?_eq_some_iff.1 hg).1
    refine ⟨some ⟨g, 0, none⟩, cap, rfl, hc, by unfold maxLen at hm; omega, .inr ⟨g, rfl, hbase, hlt, fun i q hi => ?_⟩⟩
    have hil : i < R.length := (List.getElem?_eq_some_iff.1 hi).1
    have hcell : ∀ j, j < 4 → w.cell? ⟨g, i * 4 + j, none⟩ = (qCells q)[j]? := fun j hj => by
      rw [World.ownsRow.cellAt h (i * 4 + j) (by omega), flatQ_get R i j q hi hj]
    exact ⟨hcell 0 (by decide), hcell 1 (by decide), hcell 2 (by decide), hcell 3 (by decide)⟩
theorem runInfo : (Tryz.prog.info? 121).map (fun i => (i.zero, i.size, i.bytes)) = some (some (.agg #[.int .i64 0, .int .i32 0, .int .i64 0, .int .i64 0]), 4, 32) := by kernel_rfl
theorem wpList_append_run {ops : Array Oper} {rest : List Oper} {o : Oper} {z : Act} {w : World} {Q : Exit → Act → World → Prop} (hgd : o.guard = none) (s x : Operand)
    (ho : o.op = .call { callee := .builtin .append, args := #[s, x], argTypes := #[150, 150] }) (hty : o.type = 150)
    (base : Nat) (v : Value) (l : List (Nat × Cel)) (c : Nat × Cel) (p : Nat) (hs : z.eval s = v) (hxv : z.eval x = .slice (some ⟨p, 0, none⟩) 1 1) (hown : OwnRn base v l w)
    (hp : w.heap[p]? = some (.cells (qCells c).toArray 121 (0, 0))) (hl : (l.length : Int) ≤ 1000000) (hbase : base ≤ w.heap.size)
    (hK : ∀ v' w', OwnRn base v' (l ++ [c]) w' → w.grownBy w' v.ownBlock → wpList Tryz.prog ops Q rest (z.put o.dst v') w') : wpList Tryz.prog ops Q (o :: rest) z w :=
  wpList_plain hgd fun _ hK' => by
    obtain ⟨i0, hi, hz0, hz1, hz2⟩ := info_parts runInfo
    have hmul : (l.length + 1) * 32 ≤ 140737488355328 := by omega
    have hnews : ∀ j u, (qCells c)[j]? = some u → w.cell? ((⟨p, 0, none⟩ : Addr).add j) = some u := fun j u hj => by
      have hadd : ((⟨p, 0, none⟩ : Addr).add j) = ⟨p, 0 + j, none⟩ := by unfold Addr.add; split <;> simp_all
      rw [hadd, Nat.zero_add, cell_block hp, List.getElem?_toArray]
      exact hj
    obtain ⟨v', w', hr, g⟩ := U.append_grew (P := Tryz.prog) w 150 150 121 i0 _ 4 32 Tryz.underlying150 hi hz0 hz1 hz2 rfl (by decide) base v l.length (flatQ l) hown ⟨p, 0, none⟩ 1 1 (qCells c) rfl hnews (fun u hu => by simp only [qCells, List.mem_cons, List.not_mem_nil, or_false] at hu; rcases hu with rfl | rfl | rfl | rfl <;> rfl) (by unfold maxLen; omega) hmul hbase
    unfold Oper.wp execOp
    simp only [ho, hty, resolve, invoke, builtin, Sem.run_bind, Sem.run_pure, Result.andThen_ok, List.map_toArray, List.map_cons, List.map_nil, hs, hxv, hr]
    refine hK' _ _ (hK v' w' ?_ g.grown)
    have e : flatQ (l ++ [c]) = flatQ l ++ qCells c := by rw [flatQ_append]; simp [flatQ]
    unfold OwnRn
    rw [e, List.length_append]
    exact g.own
theorem rowS_stop {f m : Nat} {st : Sta} {pr : Option Cel} (h : m = 0 ∨ st.2 ≠ 0) (hf : m < f ∨ st.2 ≠ 0) : rowS f m st pr = (st, []) := by
  cases f with
  | zero => rfl
  | succ f => unfold rowS; rw [if_pos h]
theorem rowS_go {f m : Nat} {st : Sta} {pr : Option Cel} (hm : m ≠ 0) (he : st.2 = 0) (hf : m < f) : ∃ g, f = g + 1 ∧ rowS f m st pr = ((rowS g (m - (runS st m).2.1) (likeF (runS st m).1 pr (runS st m).2.2) (some (runS st m).2.2)).1, (runS st m).2 :: (rowS g (m - (runS st m).2.1) (likeF (runS st m).1 pr (runS st m).2.2) (some (runS st m).2.2)).2) := by
  obtain ⟨g, rfl⟩ : ∃ g, f = g + 1 := ⟨f - 1, by omega⟩
  refine ⟨g, rfl, ?_⟩
  rw [rowS, if_neg (by intro h; rcases h with h | h; exact hm h; exact h he)]
end Go.Proofs.YtohhlhnjopbmhaaGreatDoor.K

/- A region that draws its order, as in RelD; of each operation it is told besides which slots still hold what they held ahead of the region. -/
namespace Go.Proofs.YtohhlhnjopbmhaaGreatDoor.R
open Go

section
variable {P : Program} {ops : Array Oper} {Q : Exit → Act → World → Prop}
/-- whatever writes the slot t waits for i -/
def keepsB (ops : Array Oper) (i t : Nat) : Bool := (List.range ops.size).all fun j => match ops[j]? with
  | none => true
  | some o => match o.dst with
    | none => true
    | some d => d != t || reachD ops ops.size j i
theorem keepsB_spec {i t : Nat} (h : keepsB ops i t = true) {j : Nat} {o : Oper} (ho : ops[j]? = some o) (hd : o.dst = some t) : reachD ops ops.size j i = true := by
  have h1 := List.all_eq_true.1 h j (List.mem_range.2 (Array.getElem?_eq_some_iff.1 ho).1)
  rw [ho] at h1
  simp only [hd, bne_self_eq_false, Bool.false_or] at h1
  exact h1
/-- EACH OPERATION's OWN STEP. -/
def OpStepE (P : Program) (ops : Array Oper) (Q : Exit → Act → World → Prop) (base : Act) (cs due : List Nat) (St : Nat → (Nat → Value) → World → Prop) (R : World → World → Prop) (Ok : Nat → Value → World → Prop) (i : Nat) (o : Oper) : Prop :=
  match cs.findIdx? (fun c => c == i) with
  | none => ∀ (k : Nat) (a : Act) (w : World), k ≤ due.getD i cs.length → St k (slot a) w → Agree ops base a → (∀ e ∈ o.after, Region.binds .any e = true → ∀ oj d, ops[e.on]? = some oj → oj.dst = some d → Ok e.on (a.tmps.getD d undef) w) → (∀ t, keepsB ops i t = true → a.tmps.getD t undef = base.tmps.getD t undef) →
    (Region.wanted o (yielded ops a.tmps) = true ∧ ∀ K : Act → World → Prop, (∀ v w', R w w' → Ok i v w' → St k (slot a) w' → K (a.put o.dst v) w') → o.wp P a w K Q) ∨
    (Region.wanted o (yielded ops a.tmps) = false ∧ R w w ∧ Ok i undef w)
  | some j => ∀ (a : Act) (w : World), St j (slot a) w → Agree ops base a → (∀ e ∈ o.after, Region.binds .any e = true → ∀ oj d, ops[e.on]? = some oj → oj.dst = some d → Ok e.on (a.tmps.getD d undef) w) → (∀ t, keepsB ops i t = true → a.tmps.getD t undef = base.tmps.getD t undef) →
    Region.wanted o (yielded ops a.tmps) = true ∧ ∀ K : Act → World → Prop, (∀ v w', R w w' → Ok i v w' → St (j + 1) (slot (a.put o.dst v)) w' → K (a.put o.dst v) w') → o.wp P a w K Q

theorem wp_region_kept {id : Nat} {base : Act} {w0 : World} (cs due : List Nat) (hm : P.follows .mixedOrders = true) (St : Nat → (Nat → Value) → World → Prop) (R : World → World → Prop) (Ok : Nat → Value → World → Prop)
    (hin : (ops.toList.all fun o => match o.dst with | some d => decide (d < base.tmps.size) | none => true) = true)
    (hdis : distinctB ops = true) (hordB : orderedN ops ops.size = true) (hch : chainB ops cs = true) (hdu : dueB ops cs due = true)
    (hcong : ∀ k f g w, (∀ s ∈ slotsP ops cs k, f s = g s) → St k f w → St k g w)
    (hOk : ∀ i v w w', Ok i v w → R w w' → Ok i v w')
    (hop : EachOp (OpStepE P ops Q base cs due St R Ok) 0 ops.toList)
    (hdone : ∀ a w, St cs.length (slot a) w → Agree ops base a → (∀ (i : Nat) (o : Oper) (d : Nat), ops[i]? = some o → o.dst = some d → Ok i (a.tmps.getD d undef) w) → Q .normal a w)
    (h0 : St 0 (slot base) w0.drew) : (Code.region id ops true).wp P Q base w0 := by
  -- the progress
  let C : (Nat → Bool) → Act → World → Prop := fun L a w => ∃ k, k ≤ cs.length ∧ (∀ j c, cs[j]? = some c → L c = decide (j < k)) ∧ (∀ c o, L c = true → ops[c]? = some o → ∀ e ∈ o.after, Region.binds .any e = true → L e.on = true) ∧ (∀ t, (∀ j o, ops[j]? = some o → o.dst = some t → L j = false) → slot a t = slot base t) ∧ St k (slot a) w
  have hdst : ∀ (L : Nat → Bool) (k i : Nat) (o : Oper) (d : Nat), ops[i]? = some o → o.dst = some d → L i = false → (∀ j c, cs[j]? = some c → L c = decide (j < k)) → (∀ j c o, j < k → cs[j]? = some c → ops[c]? = some o → ∀ e ∈ o.after, Region.binds .any e = true → L e.on = true) → ∀ s ∈ slotsP ops cs k, s ≠ d := by
    intro L k i o d ho hd hL h1 h2 s hs e
    subst e
    unfold slotsP at hs
    obtain ⟨c, hc, hs⟩ := List.mem_flatMap.1 hs
    obtain ⟨j, hjc⟩ := List.mem_iff_getElem?.1 hc
    rw [List.getElem?_take] at hjc
    split at hjc
    · rename_i hjk
      have hLc := h1 j c hjc
      rw [decide_eq_true hjk] at hLc
      cases ho' : ops[c]? with
      | none => rw [ho'] at hs; cases hs
      | some o' =>
        rw [ho'] at hs
        simp only at hs
        rcases List.mem_append.1 hs with hs | hs
        · cases hd' : o'.dst with
          | none => rw [hd'] at hs; cases hs
          | some d' =>
            rw [hd'] at hs
            obtain rfl : s = d' := by simpa using hs
            have := distinctB_spec (ops := ops) hdis i c o o' s ho ho' hd hd'
            rw [this] at hL
            rw [hL] at hLc
            cases hLc
        · obtain ⟨e, he, hs⟩ := List.mem_flatMap.1 hs
          obtain ⟨he, hb⟩ := List.mem_filter.1 he
          have hLe := h2 j c o' hjk hjc ho' e (by simpa using he) hb
          cases ho2 : ops[e.on]? with
          | none => rw [ho2] at hs; cases hs
          | some o2 =>
            rw [ho2] at hs
            simp only at hs
            cases hd2 : o2.dst with
            | none => rw [hd2] at hs; cases hs
            | some d2 =>
              rw [hd2] at hs
              obtain rfl : s = d2 := by simpa using hs
              have := distinctB_spec (ops := ops) hdis i e.on o o2 s ho ho2 hd hd2
              rw [this] at hL
              rw [hL] at hLe
              cases hLe
    · cases hjc
  refine wp_region_relA hm C R Ok hin hdis hordB hOk ?_ ?_ ⟨0, Nat.zero_le _, fun j c _ => by simp, (fun c o hc => by simp at hc), (fun _ _ => rfl), h0⟩
  · -- each step
    have key : ∀ i o, ops.toList[i]? = some o → OpStepA P ops Q base C R Ok i o := by
      intro i o hio
      have hio' : ops[i]? = some o := by simpa using hio
      have hstep := hop.at i o hio
      rw [Nat.zero_add] at hstep
      intro L a w hL hpre hC hag hdep
      obtain ⟨k, hk, h1, hcl, hfr, hst⟩ := hC
      have hfree : ∀ t, keepsB ops i t = true → a.tmps.getD t undef = base.tmps.getD t undef := fun t ht => hfr t (fun j oj hoj hdj => by
        cases hLj : L j with
        | false => rfl
        | true =>
          have h9 := reachD_spec hcl _ j i (keepsB_spec ht hoj hdj) hLj
          rw [hL] at h9
          cases h9)
      have hfr' : ∀ v : Value, ∀ t, (∀ j oj, ops[j]? = some oj → oj.dst = some t → upd L i j = false) → slot (a.put o.dst v) t = slot base t := fun v t ht => by
        have hne : o.dst ≠ some t := fun e => by
          have h9 := ht i o hio' e
          unfold upd at h9
          simp at h9
        have hL' : ∀ j oj, ops[j]? = some oj → oj.dst = some t → L j = false := fun j oj hoj hdj => by
          have h9 := ht j oj hoj hdj
          unfold upd at h9
          split at h9
          · cases h9
          · exact h9
        cases hd : o.dst with
        | none => exact hfr t hL'
        | some d =>
          rw [slot_put (fun e => hne (by rw [hd, e]))]
          exact hfr t hL'
      have h2 : ∀ j c o, j < k → cs[j]? = some c → ops[c]? = some o → ∀ e ∈ o.after, Region.binds .any e = true → L e.on = true := fun j c o hj hc => hcl c o (by rw [h1 j c hc, decide_eq_true hj])
      have hcl' : ∀ c o', upd L i c = true → ops[c]? = some o' → ∀ e ∈ o'.after, Region.binds .any e = true → upd L i e.on = true := fun c o' hc ho' e he hb => by
        have h6 : L e.on = true := by
          unfold upd at hc
          split at hc
          · rename_i hci
            subst hci
            rw [hio'] at ho'
            cases ho'
            exact hpre e he hb
          · exact hcl c o' hc ho' e he hb
        unfold upd
        split
        · rfl
        · exact h6
      unfold OpStepE at hstep
      cases hf : cs.findIdx? (fun c => c == i) with
      | none =>
        rw [hf] at hstep
        simp only at hstep
        have hni : ∀ j c, cs[j]? = some c → c ≠ i := fun j c hc e => by
          have := List.findIdx?_eq_none_iff.1 hf c (List.mem_of_getElem? hc)
          simp [e] at this
        have hC' : ∀ v w', St k (slot a) w' → C (upd L i) (a.put o.dst v) w' := fun v w' hs => by
          refine ⟨k, hk, fun j c hc => ?_, hcl', hfr' v, ?_⟩
          · unfold upd
            rw [if_neg (hni j c hc)]
            exact h1 j c hc
          · cases hd : o.dst with
            | none => exact hs
            | some d => exact hcong k _ _ w' (fun s hs' => (slot_put (hdst L k i o d hio' hd hL h1 h2 s hs')).symm) hs
        have hkd : k ≤ due.getD i cs.length := by
          have h7 := List.all_eq_true.1 hdu i (List.mem_range.2 (Array.getElem?_eq_some_iff.1 hio').1)
          rcases Bool.or_eq_true_iff.1 h7 with h7 | h7
          · have := List.findIdx?_eq_none_iff.1 hf i (by simpa using h7)
            simp at this
          · cases hc : cs[due.getD i cs.length]? with
            | none => have := List.getElem?_eq_none_iff.1 hc; omega
            | some c =>
              rw [hc] at h7
              simp only at h7
              rcases Nat.lt_or_ge (due.getD i cs.length) k with h8 | h8
              · have h9 := reachD_spec hcl _ c i h7 (by rw [h1 _ c hc, decide_eq_true h8])
                rw [hL] at h9
                cases h9
              · exact h8
        rcases hstep k a w hkd hst hag hdep hfree with ⟨h3, h4⟩ | ⟨h3, h4, h5⟩
        · exact .inl ⟨h3, fun K hK => h4 K (fun v w' hr ho hs => hK v w' hr ho (hC' v w' hs))⟩
        · exact .inr ⟨h3, h4, h5, hC' undef w hst⟩
      | some j =>
        rw [hf] at hstep
        simp only at hstep
        obtain ⟨hjl, hji, hjn⟩ := List.findIdx?_eq_some_iff_getElem.1 hf
        have hji' : cs[j] = i := by simpa using hji
        have hcj : cs[j]? = some i := by rw [List.getElem?_eq_getElem hjl, hji']
        obtain ⟨⟨o', ho', hpr⟩, hdup⟩ := chainB_spec (ops := ops) hch hcj
        rw [hio'] at ho'
        cases ho'
        have hkj : k = j := by
          have h3 := h1 j i hcj
          rw [hL] at h3
          have h4 : ¬ j < k := fun h => by rw [decide_eq_true h] at h3; cases h3
          cases j with
          | zero => omega
          | succ j' =>
            obtain ⟨c', hc', e, he, hb, hon⟩ := hpr j' rfl
            have h5 := hpre e he hb
            rw [hon, h1 j' c' hc'] at h5
            have := of_decide_eq_true h5
            omega
        subst hkj
        obtain ⟨h3, h4⟩ := hstep a w hst hag hdep hfree
        refine .inl ⟨h3, fun K hK => h4 K (fun v w' hr hov hs => hK v w' hr hov ⟨k + 1, hjl, fun j2 c hc => ?_, hcl', hfr' v, hs⟩)⟩
        · unfold upd
          by_cases hci : c = i
          · rw [if_pos hci]
            subst hci
            have : j2 = k := by
              rcases Nat.lt_trichotomy j2 k with h | h | h
              · exact absurd hc (hdup j2 h)
              · exact h
              · exact absurd hcj ((chainB_spec (ops := ops) hch hc).2 k h)
            subst this
            exact (decide_eq_true (by omega)).symm
          · rw [if_neg hci, h1 j2 c hc]
            have : j2 ≠ k := fun e => hci (by subst e; rw [hcj] at hc; cases hc; rfl)
            by_cases h : j2 < k
            · rw [decide_eq_true h, decide_eq_true (by omega)]
            · rw [decide_eq_false h, decide_eq_false (by omega)]
    have go : ∀ (l : List Oper) (k : Nat), (∀ i o, l[i]? = some o → OpStepA P ops Q base C R Ok (k + i) o) → EachOp (OpStepA P ops Q base C R Ok) k l := by
      intro l
      induction l with
      | nil => intro k _; trivial
      | cons o l ih =>
        intro k h
        exact ⟨h 0 o rfl, ih (k + 1) (fun i o' ho => by have := h (i + 1) o' (by simpa using ho); rwa [show k + (i + 1) = k + 1 + i by omega] at this)⟩
    exact go ops.toList 0 (fun i o h => by rw [Nat.zero_add]; exact key i o h)
  · intro a w hC hag hok
    obtain ⟨k, hk, h1, h2, -, hst⟩ := hC
    have hkl : k = cs.length := by
      rcases Nat.lt_or_ge k cs.length with h | h
      · have hck : cs[k]? = some cs[k] := List.getElem?_eq_getElem h
        have h3 := h1 k cs[k] hck
        obtain ⟨⟨o, ho, -⟩, -⟩ := chainB_spec (ops := ops) hch hck
        have hlt := (Array.getElem?_eq_some_iff.1 ho).1
        dsimp only at h3
        rw [decide_eq_true hlt, decide_eq_false (Nat.lt_irrefl k)] at h3
        cases h3
      · omega
    subst hkl
    exact hdone a w hst hag hok
end
end Go.Proofs.YtohhlhnjopbmhaaGreatDoor.R
