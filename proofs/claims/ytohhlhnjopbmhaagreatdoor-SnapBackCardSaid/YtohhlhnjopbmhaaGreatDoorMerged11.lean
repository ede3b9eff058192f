/- Inside a fence: a region that draws its order, whose last operations wait for all others (wp_region_tailT's twin). -/
import Derived.Test.YtohhlhnjopbmhaaGreatDoorMerged7
import Derived.OrdersIn
import Derived.CallsIn
import Derived.WalkKit
import Derived.Test.YtohhlhnjopbmhaaGreatDoorMerged5
import Derived.Test.YtohhlhnjopbmhaaGreatDoorMerged8
import Derived.Test.YtohhlhnjopbmhaaGreatDoorMerged0
import Derived.Test.YtohhlhnjopbmhaaGreatDoorMerged9
import Derived.Test.YtohhlhnjopbmhaaGreatDoorMerged6
namespace Go.Proofs.YtohhlhnjopbmhaaGreatDoor.R
open Go

section
variable {F : Fence} {nf : Nat} {P : Program} {ops : Array Oper} {Q : Exit → Act → World → Prop}

/-- EACH OPERATION's OWN STEP, inside a fence. -/
def OpStepN (F : Fence) (nf : Nat) (P : Program) (ops : Array Oper) (Q : Exit → Act → World → Prop) (base : Act) (C : World → Prop) (R : World → World → Prop) (Ok : Nat → Value → World → Prop) (i : Nat) (o : Oper) : Prop :=
  ∀ (a : Act) (w : World), C w → Agree ops base a → (∀ e ∈ o.after, Region.binds .any e = true → ∀ oj d, ops[e.on]? = some oj → oj.dst = some d → Ok e.on (a.tmps.getD d undef) w) →
    (Region.wanted o (yielded ops a.tmps) = true ∧ ∀ K : Act → World → Prop, (∀ v w', R w w' → Ok i v w' → K (a.put o.dst v) w') → o.wpIn F nf P a w K Q) ∨
    (Region.wanted o (yielded ops a.tmps) = false ∧ (∀ f, o.about P w a.eval = some f → F.fn f) ∧ R w w ∧ Ok i undef w)
theorem wpAnyIn_of_seq {md : Region.Mode} {Q' : Exit → Act → World → Prop} : ∀ (l : List Oper) (k : Nat) (listed : Array Bool) (a : Act) (w : World), (∀ j, l[j]? = ops[k + j]?) →
    Region.seqB md ops l.length k listed = true → wpListIn F nf P ops Q' l a w → wpAnyIn F nf P md ops Q' l.length listed a w
  | [], _, _, _, _, _, hB, h => ⟨by simpa [Region.seqB] using hB, h⟩
  | o :: l, k, listed, a, w, hl, hB, h => by
    have h0 : ops[k]? = some o := by simpa using (hl 0).symm
    simp only [List.length_cons, Region.seqB, Bool.and_eq_true, decide_eq_true_eq] at hB
    refine ⟨fun h1 => (by rw [hB.1] at h1; cases h1), fun i hi => ?_⟩
    rw [hB.1] at hi
    have hik : i = k := by simpa using hi
    subst hik
    have hw : wpOpIn F nf P ops Q' i (wpListIn F nf P ops Q' l) a w := by unfold wpOpIn; simp only [h0]; exact h
    exact wpOpIn_mono (fun a' w' h' => wpAnyIn_of_seq l (i + 1) _ a' w' (fun j => by have := hl (j + 1); simpa [Nat.add_assoc, Nat.add_comm 1 j] using this) hB.2 h') hw
set_option maxHeartbeats 1000000 in
theorem wpIn_region_tailT {id : Nat} {base : Act} {w0 : World} (n : Nat) (hm : P.follows .mixedOrders = true) (C : World → Prop) (R : World → World → Prop) (Ok : Nat → Value → World → Prop)
    (hin : (ops.toList.all fun o => match o.dst with | some d => decide (d < base.tmps.size) | none => true) = true)
    (hdis : distinctB ops = true) (hnl : n ≤ ops.size) (hordB : orderedN ops n = true) (hsink : sinkT ops n = true) (hseq : Region.seqB .any ops (ops.size - n) n (firstN ops n) = true)
    (hC : ∀ w w', C w → R w w' → C w') (hOk : ∀ i v w w', Ok i v w → R w w' → Ok i v w')
    (hop : EachOp (OpStepN F nf P ops Q base C R Ok) 0 (ops.toList.take n))
    (hdone : ∀ a w, C w → Agree ops base a → (∀ (i : Nat) (o : Oper) (d : Nat), i < n → ops[i]? = some o → o.dst = some d → Ok i (a.tmps.getD d undef) w) → (∀ (i : Nat) (o : Oper), i < n → ops[i]? = some o → ∃ v, Ok i v w) → wpListIn F nf P ops Q (ops.toList.drop n) a w)
    (h0 : C w0.drew) : (Code.region id ops true).wpIn F nf P Q base w0 := by
  have hinj := fun i j o o' d => distinctB_spec (ops := ops) hdis i j o o' d
  have hin' : ∀ (i : Nat) (o : Oper) (d : Nat), ops[i]? = some o → o.dst = some d → d < base.tmps.size := fun i o d hi hd => by
    have := List.all_eq_true.1 hin o (by have := Array.mem_of_getElem? hi; simpa using this)
    rw [hd] at this
    simpa using this
  have main : ∀ (cnt : Nat) (listed : Array Bool) (a : Act) (w : World), listed.size = ops.size → (∀ j, n ≤ j → listed.getD j false = false) → ClosedL ops listed → C w → Agree ops base a → Held ops Ok listed a w → (∀ i o, ops[i]? = some o → listed.getD i false = true → ∃ v, Ok i v w) →
      ((List.range n).filter fun i => !listed.getD i true).length = cnt → wpAnyIn F nf P .any ops Q (cnt + (ops.size - n)) listed a w := by
    intro cnt
    induction cnt with
    | zero =>
      intro listed a w hsz htl hcl hc ha hh hx hf
      have hall : ∀ i, i < n → listed.getD i true = true := fun i hi => by
        have h1 : ((List.range n).filter fun i => !listed.getD i true) = [] := List.length_eq_zero_iff.1 hf
        have h2 := List.filter_eq_nil_iff.1 h1 i (List.mem_range.2 hi)
        simpa using h2
      have hlist : listed = firstN ops n := by
        refine Array.ext (by simp [firstN, hsz]) fun i h1 h2 => ?_
        have hlt : i < ops.size := by omega
        have hval : (firstN ops n)[i] = decide (i < n) := by simp [firstN]
        rw [hval]
        by_cases hin : i < n
        · have := hall i hin
          rw [Array.getD_eq_getD_getElem?, Array.getElem?_eq_getElem h1] at this
          simpa [hin] using this
        · have := htl i (by omega)
          rw [Array.getD_eq_getD_getElem?, Array.getElem?_eq_getElem h1] at this
          simpa [hin] using this
      have hallF : ∀ i, i < n → listed.getD i false = true := fun i hi => by
        have := hall i hi
        rw [Array.getD_eq_getD_getElem?] at this ⊢
        rw [Array.getElem?_eq_getElem (by omega)] at this ⊢
        simpa using this
      have hd := hdone a w hc ha (fun i o d hi ho hd => hh i o d ho hd (hallF i hi)) (fun i o hi ho => hx i o ho (hallF i hi))
      have hlen : (ops.toList.drop n).length = ops.size - n := by simp
      rw [Nat.zero_add, ← hlen]
      exact wpAnyIn_of_seq (ops.toList.drop n) n listed a w (fun j => by simp) (by rw [hlen, hlist]; exact hseq) hd
    | succ cnt ih =>
      intro listed a w hsz htl hcl hc ha hh hx hf
      -- an operation of the first n is wanting: the least one may come up, and none from n on
      have hex : ∃ i, i < n ∧ listed.getD i true = false := by
        have hpos : 0 < ((List.range n).filter fun i => !listed.getD i true).length := by omega
        obtain ⟨i, hi⟩ := List.exists_mem_of_length_pos hpos
        have := List.mem_filter.1 hi
        exact ⟨i, List.mem_range.1 this.1, by simpa using this.2⟩
      have hne : Region.ready .any ops listed ≠ [] := by
        intro hr
        obtain ⟨i0, hi0, hu0⟩ := hex
        have hall : ∀ m i, i < m → i < n → listed.getD i false = true := by
          intro m
          induction m with
          | zero => intro i hi _; omega
          | succ m ihm =>
            intro i hi hlt
            by_cases hin : i < m
            · exact ihm i hin hlt
            · obtain rfl : i = m := by omega
              cases hl : listed.getD i false with
              | true => rfl
              | false =>
                exfalso
                have hl' : listed.getD i true = false := by
                  rw [Array.getD_eq_getD_getElem?] at hl ⊢
                  rw [Array.getElem?_eq_getElem (by omega)] at hl ⊢
                  simpa using hl
                have hmem : i ∈ Region.ready .any ops listed := by
                  unfold Region.ready
                  refine List.mem_filter.2 ⟨List.mem_range.2 (by omega), ?_⟩
                  rw [hl', Array.getElem?_eq_getElem (by omega)]
                  simp only [Bool.not_false, Bool.true_and, Option.map_some, Option.getD_some]
                  refine Array.all_eq_true_iff_forall_mem.2 fun e he => ?_
                  cases hb : Region.binds .any e with
                  | false => rfl
                  | true =>
                    have hlt2 := orderedN_spec hordB i _ hlt (Array.getElem?_eq_getElem (by omega)) e he hb
                    have := ihm e.on hlt2 (by omega)
                    simp [this]
                rw [hr] at hmem
                cases hmem
        have h1 := hall (i0 + 1) i0 (by omega) hi0
        rw [Array.getD_eq_getD_getElem?] at h1 hu0
        rw [Array.getElem?_eq_getElem (by omega)] at h1 hu0
        simp at h1 hu0
        rw [h1] at hu0
        cases hu0
      rw [show cnt + 1 + (ops.size - n) = (cnt + (ops.size - n)) + 1 from by omega]
      refine ⟨fun hr => absurd hr hne, fun i hi => ?_⟩
      have hi' := hi
      unfold Region.ready at hi'
      obtain ⟨hlt, hcond⟩ := List.mem_filter.1 hi'
      have hlt := List.mem_range.1 hlt
      simp only [Bool.and_eq_true, Bool.not_eq_true'] at hcond
      obtain ⟨hun, hdeps⟩ := hcond
      obtain ⟨o, ho⟩ : ∃ o, ops[i]? = some o := ⟨_, Array.getElem?_eq_getElem hlt⟩
      rw [ho] at hdeps
      simp only [Option.map_some, Option.getD_some] at hdeps
      have hin : i < n := by
        rcases Nat.lt_or_ge i n with h | h
        · exact h
        · exfalso
          obtain ⟨k, hk, hku⟩ := hex
          have h1 := sinkT_spec hsink i h hlt k hk
          have hlk := reach_listed hcl ops.size i k h1 (fun o' ho' e he hb => by
            rw [ho] at ho'
            cases ho'
            have h2 := Array.all_eq_true_iff_forall_mem.1 hdeps e he
            rw [hb] at h2
            rw [Array.getD_eq_getD_getElem?]
            simpa using h2)
          rw [Array.getD_eq_getD_getElem?] at hlk hku
          rw [Array.getElem?_eq_getElem (by omega)] at hlk hku
          simp at hlk hku
          rw [hlk] at hku
          cases hku
      have hstep := hop.at i o (by rw [List.getElem?_take]; simp [hin]; simpa using ho)
      rw [Nat.zero_add] at hstep
      have hd := hstep a w hc ha fun e he hb oj d hoj hdj => by
        have h1 := Array.all_eq_true_iff_forall_mem.1 hdeps e he
        rw [hb] at h1
        simp at h1
        refine hh e.on oj d hoj hdj ?_
        rw [Array.getD_eq_getD_getElem?]
        exact h1
      have next : ∀ v w', R w w' → Ok i v w' → wpAnyIn F nf P .any ops Q (cnt + (ops.size - n)) (listed.setIfInBounds i true) (a.put o.dst v) w' := by
        intro v w' hr hv
        refine ih _ _ _ (by simpa using hsz) ?_ ?_ (hC _ _ hc hr) ?_ ?_ ?_ ?_
        · intro j hj
          have hji : i ≠ j := by omega
          rw [Array.getD_eq_getD_getElem?, Array.getElem?_setIfInBounds, if_neg hji, ← Array.getD_eq_getD_getElem?]
          exact htl j hj
        · intro j oj hj hlj e he hb
          have hget : listed.getD e.on false = true → (listed.setIfInBounds i true).getD e.on false = true := fun h => by
            rw [Array.getD_eq_getD_getElem?, Array.getElem?_setIfInBounds]
            split
            · split
              · rfl
              · rename_i h1 h2
                rw [Array.getD_eq_getD_getElem?, ← h1, Array.getElem?_eq_none (by omega)] at h
                simp at h
            · rw [← Array.getD_eq_getD_getElem?]; exact h
          by_cases hji : j = i
          · subst hji
            rw [ho] at hj
            cases hj
            refine hget ?_
            have h2 := Array.all_eq_true_iff_forall_mem.1 hdeps e he
            rw [hb] at h2
            rw [Array.getD_eq_getD_getElem?]
            simpa using h2
          · rw [Array.getD_eq_getD_getElem?, Array.getElem?_setIfInBounds, if_neg (Ne.symm hji), ← Array.getD_eq_getD_getElem?] at hlj
            exact hget (hcl j oj hj hlj e he hb)
        · obtain ⟨k1, k2, k3⟩ := ha
          cases hdst : o.dst with
          | none => exact ⟨k1, k2, k3⟩
          | some d =>
            have hds := hin' i o d ho hdst
            refine ⟨k1, by simpa [Act.put] using k2, fun t ht => ?_⟩
            rw [getD_put (by omega), if_neg ?_]
            · exact k3 t ht
            · intro e
              have := List.all_eq_true.1 ht o (by have := Array.mem_of_getElem? ho; simpa using this)
              rw [hdst, e] at this
              simp at this
        · intro j oj dj hj hdj hlj
          by_cases hji : j = i
          · subst hji
            rw [ho] at hj
            cases hj
            rw [hdj, getD_put (by have := hin' j o dj ho hdj; have := ha.2.1; omega), if_pos rfl]
            exact hv
          · have hlj' : listed.getD j false = true := by
              rw [Array.getD_eq_getD_getElem?, Array.getElem?_setIfInBounds, if_neg (Ne.symm hji), ← Array.getD_eq_getD_getElem?] at hlj
              exact hlj
            have hold := hOk _ _ _ _ (hh j oj dj hj hdj hlj') hr
            cases hdst : o.dst with
            | none => exact hold
            | some d =>
              rw [getD_put (by have := hin' i o d ho hdst; have := ha.2.1; omega), if_neg ?_]
              · exact hold
              · intro e
                exact hji (hinj j i oj o dj hj ho hdj (by rw [hdst, e]))
        · intro j oj hj hlj
          by_cases hji : j = i
          · subst hji
            exact ⟨v, hv⟩
          · rw [Array.getD_eq_getD_getElem?, Array.getElem?_setIfInBounds, if_neg (Ne.symm hji), ← Array.getD_eq_getD_getElem?] at hlj
            obtain ⟨v', hv'⟩ := hx j oj hj hlj
            exact ⟨v', hOk _ _ _ _ hv' hr⟩
        · have hsub : ((List.range n).filter fun k => !(listed.setIfInBounds i true).getD k true) = ((List.range n).filter fun k => !listed.getD k true).erase i := by
            rw [List.Nodup.erase_eq_filter ((List.nodup_range).sublist List.filter_sublist), List.filter_filter]
            refine List.filter_congr fun k hk => ?_
            rw [Array.getD_eq_getD_getElem?, Array.getElem?_setIfInBounds]
            by_cases hki : i = k
            · subst hki; rw [if_pos rfl, if_pos (by omega)]; simp
            · rw [if_neg hki, ← Array.getD_eq_getD_getElem?]
              simp [Ne.symm hki]
          rw [hsub, List.length_erase_of_mem, hf]
          · rfl
          · refine List.mem_filter.2 ⟨List.mem_range.2 hin, ?_⟩
            rw [Array.getD_eq_getD_getElem?]; simpa using hun
      unfold wpOpIn
      rw [ho]
      simp only
      rcases hd with ⟨hw, hk⟩ | ⟨hw, hab, hr, hv⟩
      · rw [if_pos hw]
        exact hk _ next
      · rw [if_neg (by rw [hw]; decide)]
        exact ⟨hab, next _ _ hr hv⟩
  have hstart : ((List.range n).filter fun i => !(Array.replicate ops.size false).getD i true) = List.range n := by
    refine List.filter_eq_self.2 fun i hi => ?_
    have := List.mem_range.1 hi
    rw [Array.getD_eq_getD_getElem?]
    simp [show i < ops.size by omega]
  have hfin := main n (Array.replicate ops.size false) base w0.drew (by simp) (fun j hj => by
      rw [Array.getD_eq_getD_getElem?]
      by_cases h : j < ops.size
      · simp [h]
      · simp [h]) (fun i o hi hl => by
      have hlt := (Array.getElem?_eq_some_iff.1 hi).1
      rw [Array.getD_eq_getD_getElem?] at hl
      simp [hlt] at hl) h0 ⟨rfl, rfl, fun _ _ => rfl⟩ (fun i o d hi _ hl => by
      have hlt := (Array.getElem?_eq_some_iff.1 hi).1
      rw [Array.getD_eq_getD_getElem?] at hl
      simp [hlt] at hl) (fun i o hi hl => by
      have hlt := (Array.getElem?_eq_some_iff.1 hi).1
      rw [Array.getD_eq_getD_getElem?] at hl
      simp [hlt] at hl) (by rw [hstart]; simp)
  rw [show n + (ops.size - n) = ops.size from by omega] at hfin
  exact wpIn_region_any hm hfin
end
end Go.Proofs.YtohhlhnjopbmhaaGreatDoor.R

/- Pairs of numbers (a rune, and how it looks) in memory; append of one. -/
namespace Go.Proofs.YtohhlhnjopbmhaaGreatDoor.K
open Go.RowKit

def pCells (rk : IntKind) (g : Int × Int) : List Value := [.int rk g.1, .int .i64 g.2]
def flatP (rk : IntKind) (l : List (Int × Int)) : List Value := l.flatMap (pCells rk)
theorem flatP_len (rk : IntKind) (l : List (Int × Int)) : (flatP rk l).length = l.length * 2 := by
  induction l with
  | nil => rfl
  | cons c l ih => simp [flatP, List.flatMap_cons, pCells] at ih ⊢; omega
theorem flatP_append (rk : IntKind) (a b : List (Int × Int)) : flatP rk (a ++ b) = flatP rk a ++ flatP rk b := List.flatMap_append ..
theorem flatP_get (rk : IntKind) : ∀ (l : List (Int × Int)) (i j : Nat) (c : Int × Int), l[i]? = some c → j < 2 → (flatP rk l)[i * 2 + j]? = (pCells rk c)[j]?
  | [], _, _, _, h, _ => by cases h
  | d :: l, 0, j, c, h, hj => by
    obtain rfl : d = c := by simpa using h
    show (pCells rk d ++ flatP rk l)[0 * 2 + j]? = _
    rw [List.getElem?_append_left (by simp [pCells]; omega)]
    simp
  | d :: l, i + 1, j, c, h, hj => by
    show (pCells rk d ++ flatP rk l)[(i + 1) * 2 + j]? = _
    rw [List.getElem?_append_right (by simp [pCells]; omega)]
    have e : (i + 1) * 2 + j - (pCells rk d).length = i * 2 + j := by simp [pCells]; omega
    rw [e]
    exact flatP_get rk l i j c (by simpa using h) hj
theorem flatP_one (rk : IntKind) (l : List (Int × Int)) : ∀ u ∈ flatP rk l, u.oneCell' = true := by
  intro u hu
  obtain ⟨c, _, hu⟩ := List.mem_flatMap.1 hu
  simp only [pCells, List.mem_cons, List.not_mem_nil, or_false] at hu
  rcases hu with rfl | rfl <;> rfl
/-- pairs of our own -/
def OwnP (rk : IntKind) (T : TypeId) (base : Nat) (v : Value) (l : List (Int × Int)) (w : World) : Prop := w.ownsRow base T 2 v l.length (flatP rk l)
theorem OwnP.nil (rk : IntKind) (T : TypeId) (base : Nat) (w : World) : OwnP rk T base (.slice none 0 0) [] w := World.ownsRow_nil _ _ _ _
theorem OwnP.belowAll {rk : IntKind} {T : TypeId} {base : Nat} {v : Value} {l : List (Int × Int)} {w w' : World} (h : OwnP rk T base v l w) (hb : Below w.heap.size w w') : OwnP rk T base v l w' := U.belowAll h hb
theorem OwnP.alloc {rk : IntKind} {T : TypeId} {base : Nat} {v : Value} {l : List (Int × Int)} {w : World} (h : OwnP rk T base v l w) (o : Obj) : OwnP rk T base v l (w.alloc o) := h.belowAll ((Below.refl _ _).alloc (Nat.le_refl _) o)
theorem OwnP.weaken {rk : IntKind} {T : TypeId} {base base' : Nat} {v : Value} {l : List (Int × Int)} {w : World} (h : OwnP rk T base v l w) (hb : base' ≤ base) : OwnP rk T base' v l w := U.weaken h hb
theorem OwnP.ownBlock {rk : IntKind} {T : TypeId} {base : Nat} {v : Value} {l : List (Int × Int)} {w : World} (h : OwnP rk T base v l w) : ∀ q, v.ownBlock = some q → base ≤ q ∧ q < w.heap.size := fun q hq => ⟨(U.own_type h hq).choose_spec.2.1, (U.own_type h hq).choose_spec.2.2⟩
theorem OwnP.lit (rk : IntKind) (T : TypeId) (w : World) (base : Nat) (hb : base ≤ w.heap.size) : OwnP rk T base (.slice (some ⟨w.heap.size, 0, none⟩) 0 0) [] (w.alloc (.cells #[] T)) := World.ownsRow_lit w #[] 0 hb (by decide) rfl
/-- a slice of pairs -/
structure PairsIn (rk : IntKind) (a : Option Addr) (n c : Nat) (gs : List (Int × Int)) (w : World) : Prop where
  len : n = gs.length
  fit : n ≤ c
  top : (c : Int) ≤ 9223372036854775807
  at_ : gs = [] ∨ ∃ b off, a = some ⟨b, off, none⟩ ∧ b < w.heap.size ∧ ∀ i g, gs[i]? = some g → w.cell? ⟨b, off + i * 2, none⟩ = some (.int rk g.1) ∧ w.cell? ⟨b, off + i * 2 + 1, none⟩ = some (.int .i64 g.2)
theorem PairsIn.belowAll {rk : IntKind} {a : Option Addr} {n c : Nat} {gs : List (Int × Int)} {w w' : World} (h : PairsIn rk a n c gs w) (hb : Below w.heap.size w w') : PairsIn rk a n c gs w' := by
  refine ⟨h.len, h.fit, h.top, h.at_.imp id ?_⟩
  rintro ⟨b, off, ha, hl, hi⟩
  exact ⟨b, off, ha, Nat.lt_of_lt_of_le hl hb.size, fun i g hg => ⟨(hb.cell (p := ⟨b, off + i * 2, none⟩) hl).trans (hi i g hg).1, (hb.cell (p := ⟨b, off + i * 2 + 1, none⟩) hl).trans (hi i g hg).2⟩⟩
theorem OwnP.shape {rk : IntKind} {T : TypeId} {base : Nat} {v : Value} {l : List (Int × Int)} {w : World} (h : OwnP rk T base v l w) : ∃ a c, v = .slice a l.length c ∧ PairsIn rk a l.length c l w ∧ (∀ b off, a = some ⟨b, off, none⟩ → base ≤ b ∧ b < w.heap.size ∧ off = 0) ∧ (a = none → c = 0) := by
  rcases h.2 with ⟨rfl, h0⟩ | ⟨g, cap, cur, rfl, hbase, hg, hc, hm, hs, ht⟩
  · exact ⟨none, 0, by rw [h0], ⟨rfl, by omega, by decide, .inl (List.length_eq_zero_iff.1 h0)⟩, (fun _ _ e => by cases e), fun _ => rfl⟩
  · have hlt := (Array.getElem?_eq_some_iff.1 hg).1
    refine ⟨some ⟨g, 0, none⟩, cap, rfl, ⟨rfl, hc, by unfold maxLen at hm; omega, .inr ⟨g, 0, rfl, hlt, fun i c hi => ?_⟩⟩, (fun b off e => by cases e; exact ⟨hbase, hlt, rfl⟩), (fun e => by cases e)⟩
    have hil : i < l.length := (List.getElem?_eq_some_iff.1 hi).1
    have hcell : ∀ j, j < 2 → w.cell? ⟨g, 0 + i * 2 + j, none⟩ = (pCells rk c)[j]? := fun j hj => by
      rw [Nat.zero_add, World.ownsRow.cellAt h (i * 2 + j) (by omega), flatP_get rk l i j c hi hj]
    exact ⟨hcell 0 (by decide), hcell 1 (by decide)⟩
theorem OwnP.kept {rk : IntKind} {T : TypeId} {base : Nat} {v : Value} {l : List (Int × Int)} {w w' : World} {row : Option Nat} (h : OwnP rk T base v l w) (hg : w.grownBy w' row) (hne : ∀ q, v.ownBlock = some q → row ≠ some q) : OwnP rk T base v l w' := U.kept_apart h hg hne
/-- t is a slice of the pairs T -/
structure PairT (rk : IntKind) (t T : TypeId) (bytes : Nat) : Prop where
  slice : Tryz.prog.underlying t = some (.slice T)
  info : (Tryz.prog.info? T).map (fun i => (i.zero, i.size, i.bytes)) = some (some (.agg #[.int rk 0, .int .i64 0]), 2, bytes)
  small : bytes ≤ 24
theorem gluT : PairT .i32 23 86 16 := ⟨Tryz.underlying23, by kernel_rfl, by decide⟩
/-- append of a slice of one pair -/
theorem wpList_append_pair {rk : IntKind} {t T : TypeId} {bytes : Nat} (hI : PairT rk t T bytes) {ops : Array Oper} {rest : List Oper} {o : Oper} {z : Act} {w : World} {Q : Exit → Act → World → Prop} (hgd : o.guard = none) (s x : Operand)
    (ho : o.op = .call { callee := .builtin .append, args := #[s, x], argTypes := #[t, t] }) (hty : o.type = t)
    (base : Nat) (v : Value) (l : List (Int × Int)) (c : Int × Int) (p : Nat) (hs : z.eval s = v) (hxv : z.eval x = .slice (some ⟨p, 0, none⟩) 1 1) (hown : OwnP rk T base v l w)
    (h0 : w.cell? ⟨p, 0, none⟩ = some (.int rk c.1)) (h1 : w.cell? ⟨p, 1, none⟩ = some (.int .i64 c.2)) (hl : (l.length : Int) ≤ 1000000) (hbase : base ≤ w.heap.size)
    (hK : ∀ v' w', OwnP rk T base v' (l ++ [c]) w' → w.grownBy w' v.ownBlock → wpList Tryz.prog ops Q rest (z.put o.dst v') w') : wpList Tryz.prog ops Q (o :: rest) z w :=
  wpList_plain hgd fun _ hK' => by
    obtain ⟨i0, hi, hz0, hz1, hz2⟩ := info_parts hI.info
    have hb := hI.small
    have hmul : (l.length + 1) * bytes ≤ 140737488355328 := Nat.le_trans (Nat.mul_le_mul (show l.length + 1 ≤ 2000000 by omega) hb) (by decide)
    have hnews : ∀ j u, (pCells rk c)[j]? = some u → w.cell? ((⟨p, 0, none⟩ : Addr).add j) = some u := fun j u hj => by
      have hadd : ((⟨p, 0, none⟩ : Addr).add j) = ⟨p, 0 + j, none⟩ := by unfold Addr.add; split <;> simp_all
      rw [hadd, Nat.zero_add]
      match j, hj with
      | 0, hj => rw [show u = .int rk c.1 by simpa [pCells] using hj.symm]; exact h0
      | 1, hj => rw [show u = .int .i64 c.2 by simpa [pCells] using hj.symm]; exact h1
      | n + 2, hj => simp [pCells] at hj
    obtain ⟨v', w', hr, g⟩ := U.append_grew (P := Tryz.prog) w t t T i0 _ 2 bytes hI.slice hi hz0 hz1 hz2 rfl (by decide) base v l.length (flatP rk l) hown ⟨p, 0, none⟩ 1 1 (pCells rk c) rfl hnews (fun u hu => flatP_one rk [c] u (by simpa [flatP] using hu)) (by unfold maxLen; omega) hmul hbase
    unfold Oper.wp execOp
    simp only [ho, hty, resolve, invoke, builtin, Sem.run_bind, Sem.run_pure, Result.andThen_ok, List.map_toArray, List.map_cons, List.map_nil, hs, hxv, hr]
    refine hK' _ _ (hK v' w' ?_ g.grown)
    have e : flatP rk (l ++ [c]) = flatP rk l ++ pCells rk c := by rw [flatP_append]; simp [flatP]
    unfold OwnP
    rw [e, List.length_append]
    exact g.own
end Go.Proofs.YtohhlhnjopbmhaaGreatDoor.K

/- The contracts of the program's shown and Glyphs. -/
namespace Go.Proofs.YtohhlhnjopbmhaaGreatDoor.R
theorem unwanted_of {ops : Array Oper} {a : Act} {o oj : Oper} {j d : Nat} {b c : Bool} (ho : o.guard = some (j, b)) (hj : ops[j]? = some oj) (hd : oj.dst = some d) (hv : a.tmps.getD d undef = .bool c) (hne : c ≠ b) (hs : d < a.tmps.size) : Region.wanted o (yielded ops a.tmps) = false := by
  have h1 : a.tmps[d]? = some (.bool c) := by
    rw [Array.getD_eq_getD_getElem?, Array.getElem?_eq_getElem hs] at hv
    rw [Array.getElem?_eq_getElem hs]
    simpa using hv
  simp [Region.wanted, ho, yielded, hj, hd, h1, hne]
end Go.Proofs.YtohhlhnjopbmhaaGreatDoor.R
namespace Go.Proofs.YtohhlhnjopbmhaaGreatDoor.K
open Go.RowKit

end Go.Proofs.YtohhlhnjopbmhaaGreatDoor.K

/- The contract of the statements' awake (layer 9). -/
namespace Go.Proofs.YtohhlhnjopbmhaaGreatDoor.K
open Go.RowKit

end Go.Proofs.YtohhlhnjopbmhaaGreatDoor.K

/- The contract of the document's Whole. -/
namespace Go.Proofs.YtohhlhnjopbmhaaGreatDoor.K
open Go.RowKit

def WholeOk (x s t x' s' t' j : Int) (rb : Nat) (a : Option Addr) (n c b o : Nat) (d : Bool) : Nat → Value → World → Prop
  | 0, u, _ => u = .agg #[.int .i64 x, .int .i64 s, .int .i64 t]
  | 1, u, _ => u = .pointer (some ⟨rb, 0, none⟩)
  | 2, u, _ => u = .slice a n c
  | 3, u, _ => u = .int .i64 j
  | 4, u, _ => u = .pointer (some ⟨b, o, none⟩)
  | 5, u, _ => u = .agg #[.int .i64 x', .int .i64 s', .int .i64 t']
  | 6, u, _ => u = .bool d
  | _, _, _ => True
theorem WholeOk.keeps {x s t x' s' t' j : Int} {rb : Nat} {a : Option Addr} {n c b o : Nat} {d : Bool} (i : Nat) (u : Value) (w w' : World) (h : WholeOk x s t x' s' t' j rb a n c b o d i u w) : WholeOk x s t x' s' t' j rb a n c b o d i u w' := by
  unfold WholeOk at h ⊢
  split <;> first | exact True.intro | exact h
theorem take_snoc {α : Type} (l : List α) (j : Nat) (h : j < l.length) : l.take (j + 1) = l.take j ++ [l[j]] := by
  rw [List.take_add_one, List.getElem?_eq_getElem h]; rfl
end Go.Proofs.YtohhlhnjopbmhaaGreatDoor.K

/- A region that draws its order, where the condition hangs on which operations came up already. -/
namespace Go.Proofs.YtohhlhnjopbmhaaGreatDoor.R
open Go

def upd (L : Nat → Bool) (i : Nat) : Nat → Bool := fun k => if k = i then true else L k
theorem updL (listed : Array Bool) (i : Nat) (h : i < listed.size) : (fun k => (listed.setIfInBounds i true).getD k false) = upd (fun k => listed.getD k false) i := by
  funext k
  unfold upd
  rw [Array.getD_eq_getD_getElem?, Array.getElem?_setIfInBounds]
  by_cases hki : i = k
  · subst hki; rw [if_pos rfl, if_pos h, if_pos rfl]; rfl
  · rw [if_neg hki, if_neg (Ne.symm hki), ← Array.getD_eq_getD_getElem?]
theorem noneL (n : Nat) : (fun k => (Array.replicate n false).getD k false) = fun _ => false := by
  funext k
  rw [Array.getD_eq_getD_getElem?]
  by_cases h : k < n
  · simp [h]
  · simp [h]
theorem allL {n : Nat} {listed : Array Bool} (hsz : listed.size = n) (h : ∀ i, i < n → listed.getD i false = true) : (fun k => listed.getD k false) = fun k => decide (k < n) := by
  funext k
  by_cases hk : k < n
  · rw [h k hk]; simp [hk]
  · rw [Array.getD_eq_getD_getElem?, Array.getElem?_eq_none (by omega)]; simp [hk]

section
variable {P : Program} {ops : Array Oper} {Q : Exit → Act → World → Prop}
end
end Go.Proofs.YtohhlhnjopbmhaaGreatDoor.R

/- RowPlays: behind any calls the rows are the document's, and whole: the walk. -/
namespace Go.Proofs.YtohhlhnjopbmhaaGreatDoor.K
open Go.RowKit

theorem cels_ne {rk : IntKind} {a : Option Addr} {n : Nat} {l : List Cel} {w : World} (h : CelsIn rk a n l w) {t : TypeId} {p : Nat} {x : Option Addr} {y z : Nat} {bb : Bool} (hR : RoB t p (.slice x y z) bb w) : ∀ b off, a = some ⟨b, off, none⟩ → l ≠ [] → b ≠ p := fun b off ha hl e => by
  subst e
  rcases h.at_ with h0 | ⟨b', off', ha', _, hi⟩
  · exact hl h0
  · rw [ha] at ha'
    cases ha'
    match l, hl with
    | c :: l, _ =>
      have hc := (hi 0 c rfl).c0
      simp only [World.cell?, show w.heap[b]? = _ from hR] at hc
      match off, hc with
      | 0, hc => simp at hc
      | 1, hc => simp at hc
      | n + 2, hc => simp at hc
theorem RowV.setAt {rk : IntKind} {u : Value} {r : Ro} {w : World} (h : RowV rk u r w) {t : TypeId} {p o : Nat} {x : Option Addr} {y z : Nat} {bb : Bool} (hR : RoB t p (.slice x y z) bb w) (s : Value) : RowV rk u r (w.setCell ⟨p, o, none⟩ s) := by
  obtain ⟨a, c, e, hi, h3⟩ := h
  refine ⟨a, c, e, ?_, h3⟩
  rcases hi.at_ with h0 | ⟨b, off, ha, hb, hc⟩
  · exact ⟨rfl, .inl h0⟩
  · by_cases h0 : r.l = []
    · exact ⟨rfl, .inl h0⟩
    · have hne := cels_ne hi hR b off ha h0
      exact ⟨rfl, .inr ⟨b, off, ha, Nat.lt_of_lt_of_le hb (KeepsWalks.setCell w _ s).size, fun i d hd => (hc i d hd).block (Below.heap_setCell _ _ _ b (fun e => hne e))⟩⟩
theorem RoB.set1 {t : TypeId} {p : Nat} {v : Value} {b b' : Bool} {w : World} (h : RoB t p v b w) : RoB t p v b' (w.setCell ⟨p, 1, none⟩ (.bool b')) := by
  unfold RoB at h ⊢
  simp [World.setCell, Array.getElem?_modify, h]
/-- both rows, in their blocks -/
structure Both (rb b : Nat) (r : Ro) (w wr : World) : Prop where
  below : Below rb w wr
  base : rb ≤ b
  rows : ∃ x1 y1 x2 y2, RoB 54 b (.slice x1 r.l.length y1) r.wrapped wr ∧ RoB 59 (b + 1) (.slice x2 r.l.length y2) r.wrapped wr ∧ RowV .i32 (.agg #[.slice x1 r.l.length y1, .bool r.wrapped]) r wr ∧ RowV .i64 (.agg #[.slice x2 r.l.length y2, .bool r.wrapped]) r wr
theorem Both.more {rb b : Nat} {r : Ro} {w wr w' : World} (h : Both rb b r w wr) (hb : Below wr.heap.size wr w') (hs : rb ≤ wr.heap.size) : Both rb b r w w' := by
  obtain ⟨x1, y1, x2, y2, h1, h2, h3, h4⟩ := h.rows
  exact ⟨h.below.trans (hb.mono hs), h.base, x1, y1, x2, y2, h1.belowAll hb, h2.belowAll hb, h3.belowAll hb, h4.belowAll hb⟩
theorem RowV.shape {rk : IntKind} {u : Value} {r : Ro} {w : World} (h : RowV rk u r w) : ∃ x y, u = .agg #[.slice x r.l.length y, .bool r.wrapped] := by
  obtain ⟨a, c, e, _⟩ := h
  exact ⟨a, c, e⟩
theorem RowPost.row {rk : IntKind} {T : TypeId} {base : Nat} {l : List Cel} {b : Bool} {w : World} {e : Ending} {w' : World} (h : RowPost rk T base l b w e w') {r : Ro} (hl : r.l = l) (hw : r.wrapped = b) : ∃ x y, e = .returned (.agg #[.slice x r.l.length y, .bool r.wrapped]) ∧ RowV rk (.agg #[.slice x r.l.length y, .bool r.wrapped]) r w' ∧ Below base w w' := by
  obtain ⟨v, he, hO, hb⟩ := h
  obtain ⟨a, c, rfl, h1, h2, h3, h4, h5⟩ := hO.shape
  obtain ⟨l', b'⟩ := r
  simp only at hl hw
  subst hl hw
  exact ⟨a, c, he, ⟨a, c, rfl, h1, h3, h4, h5⟩, hb⟩
theorem RowV.of {rk : IntKind} {x : Option Addr} {m y : Nat} {g : Bool} {r : Ro} {w : World} (h : RowV rk (.agg #[.slice x m y, .bool g]) r w) : g = r.wrapped ∧ CelsIn rk x m r.l w ∧ (x = none → y = 0) ∧ m ≤ y ∧ (y : Int) ≤ 9223372036854775807 ∧ m = r.l.length := by
  obtain ⟨a, c, e, hi, h3, h4, h5⟩ := h
  have e1 : #[Value.slice x m y, Value.bool g] = #[Value.slice a r.l.length c, Value.bool r.wrapped] := by injection e
  simp only [Array.mk.injEq, List.cons.injEq, Value.slice.injEq, Value.bool.injEq, and_true] at e1
  obtain ⟨⟨rfl, rfl, rfl⟩, rfl⟩ := e1
  exact ⟨rfl, hi, h3, h4, h5, rfl⟩
theorem isRow_any {x1 x2 : Option Addr} {m1 y1 m2 y2 : Nat} {g1 g2 : Bool} {r1 r2 : Ro} {w : World} (h1 : RowV .i32 (.agg #[.slice x1 m1 y1, .bool g1]) r1 w) (h2 : RowV .i64 (.agg #[.slice x2 m2 y2, .bool g2]) r2 w) (hr : AllC Rng r1.l) (hn1 : r1.l.length ≤ 1000) (hn2 : r2.l.length ≤ 1000) :
    Calls Tryz.prog 66 #[.agg #[.slice x1 m1 y1, .bool g1], .agg #[.slice x2 m2 y2, .bool g2]] w fun e w' => e = .returned (.bool (decide (r1 = r2))) ∧ Below w.heap.size w w' := by
  obtain ⟨rfl, i1, -, -, -, e1⟩ := h1.of
  obtain ⟨rfl, i2, -, -, -, e2⟩ := h2.of
  exact is_any x1 x2 m1 m2 y1 y2 r1.wrapped r2.wrapped r1.l r2.l w i1 i2 hr (by omega) (by omega)
/-- both are stored -/
theorem Both.stored {rb b : Nat} {r q : Ro} {w wr u : World} {x1 x2 : Option Addr} {y1 y2 : Nat} (h : Both rb b r w wr) (hb : Below wr.heap.size wr u) (hs : rb ≤ wr.heap.size) (h1 : RowV .i32 (.agg #[.slice x1 q.l.length y1, .bool q.wrapped]) q u) (h2 : RowV .i64 (.agg #[.slice x2 q.l.length y2, .bool q.wrapped]) q u) :
    Both rb b q w ((((u.setCell ⟨b, 0, none⟩ (.slice x1 q.l.length y1)).setCell ⟨b, 1, none⟩ (.bool q.wrapped)).setCell ⟨b + 1, 0, none⟩ (.slice x2 q.l.length y2)).setCell ⟨b + 1, 1, none⟩ (.bool q.wrapped)) := by
  have hU := h.more hb hs
  obtain ⟨a1, b1, a2, b2, g1, g2, -, -⟩ := hU.rows
  have p1 := g1.set0 (v' := .slice x1 q.l.length y1)
  have p2 := p1.set1 (b' := q.wrapped)
  have e1 := (g2.setOther (q := b) (o := 0) (x := .slice x1 q.l.length y1) (by omega)).setOther (q := b) (o := 1) (x := .bool q.wrapped) (by omega)
  have e2 := e1.set0 (v' := .slice x2 q.l.length y2)
  have e3 := e2.set1 (b' := q.wrapped)
  refine ⟨(((hU.below.setCell (p := ⟨b, 0, none⟩) h.base _).setCell (p := ⟨b, 1, none⟩) h.base _).setCell (p := ⟨b + 1, 0, none⟩) (by show rb ≤ b + 1; have := h.base; omega) _).setCell (p := ⟨b + 1, 1, none⟩) (by show rb ≤ b + 1; have := h.base; omega) _, h.base, x1, y1, x2, y2, ?_, e3, ?_, ?_⟩
  · exact (p2.setOther (by omega)).setOther (by omega)
  · exact (((h1.setAt g1 _).setAt p1 _).setAt e1 _).setAt e2 _
  · exact (((h2.setAt g1 _).setAt p1 _).setAt e1 _).setAt e2 _
/-- a pair of rows -/
def Two (u : Value) (q : Ro) (w : World) : Prop := ∃ v1 v2, u = .tuple #[v1, v2] ∧ RowV .i32 v1 q w ∧ RowV .i64 v2 q w
theorem Two.belowAll {u : Value} {q : Ro} {w w' : World} (h : Two u q w) (hb : Below w.heap.size w w') : Two u q w' := by
  obtain ⟨v1, v2, e, h1, h2⟩ := h
  exact ⟨v1, v2, e, h1.belowAll hb, h2.belowAll hb⟩
/-- rows stay what they are -/
def RowsK (w w' : World) : Prop := ∀ rk u r, RowV rk u r w → RowV rk u r w'
theorem RowsK.refl (w : World) : RowsK w w := fun _ _ _ h => h
theorem RowsK.below {w w' : World} (hb : Below w.heap.size w w') : RowsK w w' := fun _ _ _ h => h.belowAll hb
/-- half of the two is stored -/
structure Mid (rb b : Nat) (q : Ro) (w wr v : World) : Prop where
  below : Below rb w v
  base : rb ≤ b
  rows : ∃ x3 y3 x2 y2 m g, RoB 54 b (.slice x3 q.l.length y3) q.wrapped v ∧ RoB 59 (b + 1) (.slice x2 m y2) g v ∧ RowV .i32 (.agg #[.slice x3 q.l.length y3, .bool q.wrapped]) q v
/-- what came up, and what is so then -/
structure PlC (rb b : Nat) (r q : Ro) (w wr : World) (L : Nat → Bool) (v : World) : Prop where
  some : L 10 = true → ∀ k, k < 9 → L k = true
  none : L 10 = false → Below wr.heap.size wr v ∧ L 11 = false
  half : L 10 = true → L 11 = false → Mid rb b q w wr v
  both : L 11 = true → Both rb b q w v
theorem upd_ne {L : Nat → Bool} {i j : Nat} (h : j ≠ i) : R.upd L i j = L j := by unfold R.upd; rw [if_neg h]
theorem PlC.ten {rb b : Nat} {r q : Ro} {w wr : World} {L : Nat → Bool} {v : World} (h : PlC rb b r q w wr L v) {i : Nat} (hi : i < 9) (hL : L i = false) : L 10 = false := by
  cases h10 : L 10
  · rfl
  · rw [h.some h10 i hi] at hL; cases hL
theorem PlC.next {rb b : Nat} {r q : Ro} {w wr : World} {L : Nat → Bool} {v v' : World} (h : PlC rb b r q w wr L v) {i : Nat} (hi : i < 9) (hL : L i = false) (hb : Below v.heap.size v v') : PlC rb b r q w wr (R.upd L i) v' := by
  have h10 := h.ten hi hL
  obtain ⟨h1, h2⟩ := h.none h10
  have e10 : R.upd L i 10 = false := by rw [upd_ne (by omega)]; exact h10
  have e11 : R.upd L i 11 = false := by rw [upd_ne (by omega)]; exact h2
  refine ⟨fun e => ?_, fun _ => ⟨h1.trans (hb.mono h1.size), e11⟩, fun e => ?_, fun e => ?_⟩
  · rw [e10] at e; cases e
  · rw [e10] at e; cases e
  · rw [e11] at e; cases e
theorem PlC.nine {rb b : Nat} {r q : Ro} {w wr : World} {L : Nat → Bool} {v : World} (h : PlC rb b r q w wr L v) : PlC rb b r q w wr (R.upd L 9) v :=
  ⟨fun e k hk => by rw [upd_ne (by omega)]; exact h.some (by rw [upd_ne (by omega)] at e; exact e) k hk, fun e => by rw [upd_ne (by omega)] at e ⊢; exact h.none e, fun e e' => by rw [upd_ne (by omega)] at e e'; exact h.half e e', fun e => by rw [upd_ne (by omega)] at e; exact h.both e⟩
end Go.Proofs.YtohhlhnjopbmhaaGreatDoor.K
