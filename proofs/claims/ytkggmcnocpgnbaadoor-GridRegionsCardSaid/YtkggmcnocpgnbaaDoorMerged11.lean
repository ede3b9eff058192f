/- Inside a fence: a region that draws its order, whose last operations wait for all others (wp_region_tailT's twin). -/
import Derived.Test.YtkggmcnocpgnbaaDoorMerged4
import Derived.OrdersIn
import Derived.CallsIn
import Derived.WalkKit
import Derived.Test.YtkggmcnocpgnbaaDoorRows
import Derived.Lib.LaidTab
import Derived.LaidLaws
import Derived.ChangeArms
import Derived.Test.YtkggmcnocpgnbaaDoorVDo
import Derived.Deep.Slices
import Derived.ProofKit
import Derived.Test.YtkggmcnocpgnbaaDoorMerged1
import Derived.Test.YtkggmcnocpgnbaaDoorMerged0
namespace Go.Proofs.YtkggmcnocpgnbaaDoor.R
open Go

section
variable {F : Fence} {nf : Nat} {P : Program} {ops : Array Oper} {Q : Exit → Act → World → Prop}

/-- EACH OPERATION's OWN STEP, inside a fence. -/
def OpStepN (F : Fence) (nf : Nat) (P : Program) (ops : Array Oper) (Q : Exit → Act → World → Prop) (base : Act) (C : World → Prop) (R : World → World → Prop) (Ok : Nat → Value → World → Prop) (i : Nat) (o : Oper) : Prop :=
  ∀ (a : Act) (w : World), C w → Agree ops base a → (∀ e ∈ o.after, Region.binds .any e = true → ∀ oj d, ops[e.on]? = some oj → oj.dst = some d → Ok e.on (a.tmps.getD d undef) w) →
    (Region.wanted o (yielded ops a.tmps) = true ∧ ∀ K : Act → World → Prop, (∀ v w', R w w' → Ok i v w' → K (a.put o.dst v) w') → o.wpIn F nf P a w K Q) ∨
    (Region.wanted o (yielded ops a.tmps) = false ∧ (∀ f, o.about P w a.eval = some f → F.fn f) ∧ R w w ∧ Ok i undef w)
theorem wpAnyIn_of_seq {md : Region.Mode} {Q' : Exit → Act → World → Prop} : ∀ (l : List Oper) (k : Nat) (listed : Array Bool) (a : Act) (w : World), (∀ j, l[j]? = ops[k + j]?) →
    Region.seqB md ops l.length k listed = true → wpListIn F nf P ops Q' l a w → wpAnyIn F nf P md ops Q' l.length listed a w
  | [], _, _, _, _, _, hB, h => ⟨by simpa [Region.seqB] using hB, h⟩
  | o :: l, k, listed, a, w, hl, hB, h => by
    have h0 : ops[k]? = some o := by simpa using (hl 0).symm
    simp only [List.length_cons, Region.seqB, Bool.and_eq_true, decide_eq_true_eq] at hB
    refine ⟨fun h1 => (by rw [hB.1] at h1; cases h1), fun i hi => ?_⟩
    rw [hB.1] at hi
    have hik : i = k := by simpa using hi
    subst hik
    have hw : wpOpIn F nf P ops Q' i (wpListIn F nf P ops Q' l) a w := by unfold wpOpIn; simp only [h0]; exact h
    exact wpOpIn_mono (fun a' w' h' => wpAnyIn_of_seq l (i + 1) _ a' w' (fun j => by have := hl (j + 1); simpa [Nat.add_assoc, Nat.add_comm 1 j] using this) hB.2 h') hw
set_option maxHeartbeats 1000000 in
theorem wpIn_region_tailT {id : Nat} {base : Act} {w0 : World} (n : Nat) (hm : P.follows .mixedOrders = true) (C : World → Prop) (R : World → World → Prop) (Ok : Nat → Value → World → Prop)
    (hin : (ops.toList.all fun o => match o.dst with | some d => decide (d < base.tmps.size) | none => true) = true)
    (hdis : distinctB ops = true) (hnl : n ≤ ops.size) (hordB : orderedN ops n = true) (hsink : sinkT ops n = true) (hseq : Region.seqB .any ops (ops.size - n) n (firstN ops n) = true)
    (hC : ∀ w w', C w → R w w' → C w') (hOk : ∀ i v w w', Ok i v w → R w w' → Ok i v w')
    (hop : EachOp (OpStepN F nf P ops Q base C R Ok) 0 (ops.toList.take n))
    (hdone : ∀ a w, C w → Agree ops base a → (∀ (i : Nat) (o : Oper) (d : Nat), i < n → ops[i]? = some o → o.dst = some d → Ok i (a.tmps.getD d undef) w) → (∀ (i : Nat) (o : Oper), i < n → ops[i]? = some o → ∃ v, Ok i v w) → wpListIn F nf P ops Q (ops.toList.drop n) a w)
    (h0 : C w0.drew) : (Code.region id ops true).wpIn F nf P Q base w0 := by
  have hinj := fun i j o o' d => distinctB_spec (ops := ops) hdis i j o o' d
  have hin' : ∀ (i : Nat) (o : Oper) (d : Nat), ops[i]? = some o → o.dst = some d → d < base.tmps.size := fun i o d hi hd => by
    have := List.all_eq_true.1 hin o (by have := Array.mem_of_getElem? hi; simpa using this)
    rw [hd] at this
    simpa using this
  have main : ∀ (cnt : Nat) (listed : Array Bool) (a : Act) (w : World), listed.size = ops.size → (∀ j, n ≤ j → listed.getD j false = false) → ClosedL ops listed → C w → Agree ops base a → Held ops Ok listed a w → (∀ i o, ops[i]? = some o → listed.getD i false = true → ∃ v, Ok i v w) →
      ((List.range n).filter fun i => !listed.getD i true).length = cnt → wpAnyIn F nf P .any ops Q (cnt + (ops.size - n)) listed a w := by
    intro cnt
    induction cnt with
    | zero =>
      intro listed a w hsz htl hcl hc ha hh hx hf
      have hall : ∀ i, i < n → listed.getD i true = true := fun i hi => by
        have h1 : ((List.range n).filter fun i => !listed.getD i true) = [] := List.length_eq_zero_iff.1 hf
        have h2 := List.filter_eq_nil_iff.1 h1 i (List.mem_range.2 hi)
        simpa using h2
      have hlist : listed = firstN ops n := by
        refine Array.ext (by simp [firstN, hsz]) fun i h1 h2 => ?_
        have hlt : i < ops.size := by omega
        have hval : (firstN ops n)[i] = decide (i < n) := by simp [firstN]
        rw [hval]
        by_cases hin : i < n
        · have := hall i hin
          rw [Array.getD_eq_getD_getElem?, Array.getElem?_eq_getElem h1] at this
          simpa [hin] using this
        · have := htl i (by omega)
          rw [Array.getD_eq_getD_getElem?, Array.getElem?_eq_getElem h1] at this
          simpa [hin] using this
      have hallF : ∀ i, i < n → listed.getD i false = true := fun i hi => by
        have := hall i hi
        rw [Array.getD_eq_getD_getElem?] at this ⊢
        rw [Array.getElem?_eq_getElem (by omega)] at this ⊢
        simpa using this
      have hd := hdone a w hc ha (fun i o d hi ho hd => hh i o d ho hd (hallF i hi)) (fun i o hi ho => hx i o ho (hallF i hi))
      have hlen : (ops.toList.drop n).length = ops.size - n := by simp
      rw [Nat.zero_add, ← hlen]
      exact wpAnyIn_of_seq (ops.toList.drop n) n listed a w (fun j => by simp) (by rw [hlen, hlist]; exact hseq) hd
    | succ cnt ih =>
      intro listed a w hsz htl hcl hc ha hh hx hf
      -- an operation of the first n is wanting: the least one may come up, and none from n on
      have hex : ∃ i, i < n ∧ listed.getD i true = false := by
        have hpos : 0 < ((List.range n).filter fun i => !listed.getD i true).length := by omega
        obtain ⟨i, hi⟩ := List.exists_mem_of_length_pos hpos
        have := List.mem_filter.1 hi
        exact ⟨i, List.mem_range.1 this.1, by simpa using this.2⟩
      have hne : Region.ready .any ops listed ≠ [] := by
        intro hr
        obtain ⟨i0, hi0, hu0⟩ := hex
        have hall : ∀ m i, i < m → i < n → listed.getD i false = true := by
          intro m
          induction m with
          | zero => intro i hi _; omega
          | succ m ihm =>
            intro i hi hlt
            by_cases hin : i < m
            · exact ihm i hin hlt
            · obtain rfl : i = m := by omega
              cases hl : listed.getD i false with
              | true => rfl
              | false =>
                exfalso
                have hl' : listed.getD i true = false := by
                  rw [Array.getD_eq_getD_getElem?] at hl ⊢
                  rw [Array.getElem?_eq_getElem (by omega)] at hl ⊢
                  simpa using hl
                have hmem : i ∈ Region.ready .any ops listed := by
                  unfold Region.ready
                  refine List.mem_filter.2 ⟨List.mem_range.2 (by omega), ?_⟩
                  rw [hl', Array.getElem?_eq_getElem (by omega)]
                  simp only [Bool.not_false, Bool.true_and, Option.map_some, Option.getD_some]
                  refine Array.all_eq_true_iff_forall_mem.2 fun e he => ?_
                  cases hb : Region.binds .any e with
                  | false => rfl
                  | true =>
                    have hlt2 := orderedN_spec hordB i _ hlt (Array.getElem?_eq_getElem (by omega)) e he hb
                    have := ihm e.on hlt2 (by omega)
                    simp [this]
                rw [hr] at hmem
                cases hmem
        have h1 := hall (i0 + 1) i0 (by omega) hi0
        rw [Array.getD_eq_getD_getElem?] at h1 hu0
        rw [Array.getElem?_eq_getElem (by omega)] at h1 hu0
        simp at h1 hu0
        rw [h1] at hu0
        cases hu0
      rw [show cnt + 1 + (ops.size - n) = (cnt + (ops.size - n)) + 1 from by omega]
      refine ⟨fun hr => absurd hr hne, fun i hi => ?_⟩
      have hi' := hi
      unfold Region.ready at hi'
      obtain ⟨hlt, hcond⟩ := List.mem_filter.1 hi'
      have hlt := List.mem_range.1 hlt
      simp only [Bool.and_eq_true, Bool.not_eq_true'] at hcond
      obtain ⟨hun, hdeps⟩ := hcond
      obtain ⟨o, ho⟩ : ∃ o, ops[i]? = some o := ⟨_, Array.getElem?_eq_getElem hlt⟩
      rw [ho] at hdeps
      simp only [Option.map_some, Option.getD_some] at hdeps
      have hin : i < n := by
        rcases Nat.lt_or_ge i n with h | h
        · exact h
        · exfalso
          obtain ⟨k, hk, hku⟩ := hex
          have h1 := sinkT_spec hsink i h hlt k hk
          have hlk := reach_listed hcl ops.size i k h1 (fun o' ho' e he hb => by
            rw [ho] at ho'
            cases ho'
            have h2 := Array.all_eq_true_iff_forall_mem.1 hdeps e he
            rw [hb] at h2
            rw [Array.getD_eq_getD_getElem?]
            simpa using h2)
          rw [Array.getD_eq_getD_getElem?] at hlk hku
          rw [Array.getElem?_eq_getElem (by omega)] at hlk hku
          simp at hlk hku
          rw [hlk] at hku
          cases hku
      have hstep := hop.at i o (by rw [List.getElem?_take]; simp [hin]; simpa using ho)
      rw [Nat.zero_add] at hstep
      have hd := hstep a w hc ha fun e he hb oj d hoj hdj => by
        have h1 := Array.all_eq_true_iff_forall_mem.1 hdeps e he
        rw [hb] at h1
        simp at h1
        refine hh e.on oj d hoj hdj ?_
        rw [Array.getD_eq_getD_getElem?]
        exact h1
      have next : ∀ v w', R w w' → Ok i v w' → wpAnyIn F nf P .any ops Q (cnt + (ops.size - n)) (listed.setIfInBounds i true) (a.put o.dst v) w' := by
        intro v w' hr hv
        refine ih _ _ _ (by simpa using hsz) ?_ ?_ (hC _ _ hc hr) ?_ ?_ ?_ ?_
        · intro j hj
          have hji : i ≠ j := by omega
          rw [Array.getD_eq_getD_getElem?, Array.getElem?_setIfInBounds, if_neg hji, ← Array.getD_eq_getD_getElem?]
          exact htl j hj
        · intro j oj hj hlj e he hb
          have hget : listed.getD e.on false = true → (listed.setIfInBounds i true).getD e.on false = true := fun h => by
            rw [Array.getD_eq_getD_getElem?, Array.getElem?_setIfInBounds]
            split
            · split
              · rfl
              · rename_i h1 h2
                rw [Array.getD_eq_getD_getElem?, ← h1, Array.getElem?_eq_none (by omega)] at h
                simp at h
            · rw [← Array.getD_eq_getD_getElem?]; exact h
          by_cases hji : j = i
          · subst hji
            rw [ho] at hj
            cases hj
            refine hget ?_
            have h2 := Array.all_eq_true_iff_forall_mem.1 hdeps e he
            rw [hb] at h2
            rw [Array.getD_eq_getD_getElem?]
            simpa using h2
          · rw [Array.getD_eq_getD_getElem?, Array.getElem?_setIfInBounds, if_neg (Ne.symm hji), ← Array.getD_eq_getD_getElem?] at hlj
            exact hget (hcl j oj hj hlj e he hb)
        · obtain ⟨k1, k2, k3⟩ := ha
          cases hdst : o.dst with
          | none => exact ⟨k1, k2, k3⟩
          | some d =>
            have hds := hin' i o d ho hdst
            refine ⟨k1, by simpa [Act.put] using k2, fun t ht => ?_⟩
            rw [getD_put (by omega), if_neg ?_]
            · exact k3 t ht
            · intro e
              have := List.all_eq_true.1 ht o (by have := Array.mem_of_getElem? ho; simpa using this)
              rw [hdst, e] at this
              simp at this
        · intro j oj dj hj hdj hlj
          by_cases hji : j = i
          · subst hji
            rw [ho] at hj
            cases hj
            rw [hdj, getD_put (by have := hin' j o dj ho hdj; have := ha.2.1; omega), if_pos rfl]
            exact hv
          · have hlj' : listed.getD j false = true := by
              rw [Array.getD_eq_getD_getElem?, Array.getElem?_setIfInBounds, if_neg (Ne.symm hji), ← Array.getD_eq_getD_getElem?] at hlj
              exact hlj
            have hold := hOk _ _ _ _ (hh j oj dj hj hdj hlj') hr
            cases hdst : o.dst with
            | none => exact hold
            | some d =>
              rw [getD_put (by have := hin' i o d ho hdst; have := ha.2.1; omega), if_neg ?_]
              · exact hold
              · intro e
                exact hji (hinj j i oj o dj hj ho hdj (by rw [hdst, e]))
        · intro j oj hj hlj
          by_cases hji : j = i
          · subst hji
            exact ⟨v, hv⟩
          · rw [Array.getD_eq_getD_getElem?, Array.getElem?_setIfInBounds, if_neg (Ne.symm hji), ← Array.getD_eq_getD_getElem?] at hlj
            obtain ⟨v', hv'⟩ := hx j oj hj hlj
            exact ⟨v', hOk _ _ _ _ hv' hr⟩
        · have hsub : ((List.range n).filter fun k => !(listed.setIfInBounds i true).getD k true) = ((List.range n).filter fun k => !listed.getD k true).erase i := by
            rw [List.Nodup.erase_eq_filter ((List.nodup_range).sublist List.filter_sublist), List.filter_filter]
            refine List.filter_congr fun k hk => ?_
            rw [Array.getD_eq_getD_getElem?, Array.getElem?_setIfInBounds]
            by_cases hki : i = k
            · subst hki; rw [if_pos rfl, if_pos (by omega)]; simp
            · rw [if_neg hki, ← Array.getD_eq_getD_getElem?]
              simp [Ne.symm hki]
          rw [hsub, List.length_erase_of_mem, hf]
          · rfl
          · refine List.mem_filter.2 ⟨List.mem_range.2 hin, ?_⟩
            rw [Array.getD_eq_getD_getElem?]; simpa using hun
      unfold wpOpIn
      rw [ho]
      simp only
      rcases hd with ⟨hw, hk⟩ | ⟨hw, hab, hr, hv⟩
      · rw [if_pos hw]
        exact hk _ next
      · rw [if_neg (by rw [hw]; decide)]
        exact ⟨hab, next _ _ hr hv⟩
  have hstart : ((List.range n).filter fun i => !(Array.replicate ops.size false).getD i true) = List.range n := by
    refine List.filter_eq_self.2 fun i hi => ?_
    have := List.mem_range.1 hi
    rw [Array.getD_eq_getD_getElem?]
    simp [show i < ops.size by omega]
  have hfin := main n (Array.replicate ops.size false) base w0.drew (by simp) (fun j hj => by
      rw [Array.getD_eq_getD_getElem?]
      by_cases h : j < ops.size
      · simp [h]
      · simp [h]) (fun i o hi hl => by
      have hlt := (Array.getElem?_eq_some_iff.1 hi).1
      rw [Array.getD_eq_getD_getElem?] at hl
      simp [hlt] at hl) h0 ⟨rfl, rfl, fun _ _ => rfl⟩ (fun i o d hi _ hl => by
      have hlt := (Array.getElem?_eq_some_iff.1 hi).1
      rw [Array.getD_eq_getD_getElem?] at hl
      simp [hlt] at hl) (fun i o hi hl => by
      have hlt := (Array.getElem?_eq_some_iff.1 hi).1
      rw [Array.getD_eq_getD_getElem?] at hl
      simp [hlt] at hl) (by rw [hstart]; simp)
  rw [show n + (ops.size - n) = ops.size from by omega] at hfin
  exact wpIn_region_any hm hfin
end
end Go.Proofs.YtkggmcnocpgnbaaDoor.R

/- A package-level array of structs that a row lists: what its cells hold. -/
namespace Go.Proofs.YtkggmcnocpgnbaaDoor.L

/-- An array that reads as a list of data: each element reads as its datum. -/
theorem trod_array {H : Type} {enc : TypeId × Value → H} {P : Program} {w : World} {base : Nat} {sp : Nat → Bool} {held : Bool} {fuel : Nat} {t e : TypeId} {n : Nat} {cs : List Value} {ds : List (DataW H)} {p : List MemPlace}
    (ht : P.underlying t = some (.array n e)) (h : DataW.trod enc P w base sp held fuel t cs = some (.agg ds, p)) :
    ∃ m, ∀ i, i < n → ∃ d q, ds[i]? = some d ∧ DataW.trod enc P w base sp held m e ((cs.drop (i * P.cellsOf e)).take (P.cellsOf e)) = some (d, q) := by
  cases fuel with
  | zero => simp [DataW.trod] at h
  | succ fuel =>
    simp only [DataW.trod, ht] at h
    split at h
    · obtain ⟨xs, hm, hx⟩ := Option.map_eq_some_iff.1 h
      have hxs : xs.map (·.1) = ds := by
        have := congrArg Prod.fst hx
        simpa using this
      refine ⟨fuel, fun i hi => ?_⟩
      obtain ⟨b, hb, hf⟩ := Lib.mapM_at hm i i (by simp [hi])
      exact ⟨b.1, b.2, by rw [← hxs]; simp [hb], hf⟩
    · cases h
/-- A variable that stands first on the list. -/
theorem laid_head {P : Program} {W : World} {name : String} {ds : List (DataW Unit)} {rest : List (String × DataW Unit)} {g : Nat} {t e : TypeId} {n : Nat}
    (hg : P.globalNamed name = some g) (hty : (P.globals[g]?).map (·.type) = some t) (ht : P.underlying t = some (.array n e)) (h : laidMet P ((name, .agg ds) :: rest) W) :
    ∃ (cs : Array Value) (m : Nat), W.var? P name = some cs ∧ ∀ i, i < n → ∃ d q, ds[i]? = some d ∧ DataW.trod (fun _ => ()) P W 0 (fun _ => true) false m e ((cs.toList.drop (i * P.cellsOf e)).take (P.cellsOf e)) = some (d, q) := by
  obtain ⟨ps, ⟨g', t', cs, fuel, p, q, hg', ht', hvar, hd, _, _⟩, _⟩ := h
  obtain rfl := Option.some.inj (hg.symm.trans hg')
  obtain rfl := Option.some.inj (hty.symm.trans ht')
  obtain ⟨m, hm⟩ := trod_array ht hd
  exact ⟨cs, m, hvar, hm⟩
/-- A number in a struct: field i. -/
theorem trod_field {H : Type} {enc : TypeId × Value → H} {P : Program} {w : World} {base : Nat} {sp : Nat → Bool} {held : Bool} {fuel : Nat} {t : TypeId} {fs : Array Field} {cs : List Value} {ds : List (DataW H)} {p : List MemPlace}
    (ht : P.underlying t = some (.struct fs)) (h : DataW.trod enc P w base sp held fuel t cs = some (.agg ds, p)) (i : Nat) (f : Field) (hf : fs[i]? = some f) {k : IntKind} (hk : P.underlying f.type = some (.int k)) (hc : P.cellsOf f.type = 1) {z : Int} (hd : ds[i]? = some (.lit (.int k z))) :
    cs[f.offset]? = some (.int k z) := by
  obtain ⟨xs, m, _, hx, _, _, hall⟩ := DataW.trod_struct ht h
  have h1 := hall i f hf
  injection hx with hx _
  injection hx with hx
  rw [hx, List.getElem?_map] at hd
  obtain ⟨y, hy, hyd⟩ := Option.map_eq_some_iff.1 hd
  rw [hy, hc] at h1
  obtain ⟨z', e, e2, _⟩ := DataW.trod_int hk h1
  rw [e2] at hyd
  injection hyd with hyd
  injection hyd with _ hyd
  subst hyd
  have h2 : ((cs.drop f.offset).take 1)[0]? = some (Value.int k z') := by rw [e]; rfl
  simpa [List.getElem?_take, List.getElem?_drop] using h2
theorem at_cell {P : Program} {W : World} {name : String} {g : Nat} {cs : Array Value} (hg : P.globalNamed name = some g) (hv : W.var? P name = some cs) {k c o : Nat} (ho : o < c) {v : Value} (h : ((cs.toList.drop (k * c)).take c)[o]? = some v) : W.cell? ⟨g, k * c + o, none⟩ = some v := by
  rw [World.var?_cell hg hv]
  rw [List.getElem?_take, if_pos ho, List.getElem?_drop] at h
  simpa using h
end Go.Proofs.YtkggmcnocpgnbaaDoor.L

/- What was handed in: acts, cells, an act; what the row's list gives: the spans. -/
namespace Go.Proofs.YtkggmcnocpgnbaaDoor.K
open Go.RowKit Go.ChangeShapes Go.WideShapes

instance : Inhabited ActR := ⟨⟨0, 0, 0, 0, 0⟩⟩
instance : Inhabited Cel := ⟨⟨0, 0, 0⟩⟩
theorem cI : Tryd.prog.cellsOf 3 = 1 := by kernel_rfl
theorem cR : Tryd.prog.cellsOf 21 = 1 := by kernel_rfl
theorem cAct : Tryd.prog.cellsOf 75 = 5 := by kernel_rfl
def RngA (A : ActR) : Prop := -2147483648 ≤ A.rune ∧ A.rune ≤ 2147483647
/-- an act in memory -/
structure ActAt (w : World) (b o : Nat) (A : ActR) : Prop where
  c0 : w.cell? ⟨b, o, none⟩ = some (.int .i64 A.kind)
  c1 : w.cell? ⟨b, o + 1, none⟩ = some (.int .i64 A.at_)
  c2 : w.cell? ⟨b, o + 2, none⟩ = some (.int .i64 A.n)
  c3 : w.cell? ⟨b, o + 3, none⟩ = some (.int .i64 A.style)
  c4 : w.cell? ⟨b, o + 4, none⟩ = some (.int .i32 A.rune)
theorem ActAt.block {w w' : World} {b o : Nat} {A : ActR} (h : ActAt w b o A) (hb : w'.heap[b]? = w.heap[b]?) : ActAt w' b o A :=
  ⟨(World.cell?_of_block (a := ⟨b, o, none⟩) hb).trans h.c0, (World.cell?_of_block (a := ⟨b, o + 1, none⟩) hb).trans h.c1, (World.cell?_of_block (a := ⟨b, o + 2, none⟩) hb).trans h.c2, (World.cell?_of_block (a := ⟨b, o + 3, none⟩) hb).trans h.c3, (World.cell?_of_block (a := ⟨b, o + 4, none⟩) hb).trans h.c4⟩
/-- a slice of acts -/
structure ActsIn (a : Option Addr) (n cap : Nat) (l : List ActR) (w : World) : Prop where
  len : n = l.length
  fit : n ≤ cap
  top : (cap : Int) ≤ 9223372036854775807
  ok : ∀ A ∈ l, RngA A
  at_ : l = [] ∨ ∃ b off, a = some ⟨b, off, none⟩ ∧ b < w.heap.size ∧ ∀ i A, l[i]? = some A → ActAt w b (off + i * 5) A
theorem ActsIn.belowAll {a : Option Addr} {n cap : Nat} {l : List ActR} {w w' : World} (h : ActsIn a n cap l w) (hb : Below w.heap.size w w') : ActsIn a n cap l w' := by
  refine ⟨h.len, h.fit, h.top, h.ok, h.at_.imp id ?_⟩
  rintro ⟨b, off, ha, hl, hi⟩
  exact ⟨b, off, ha, Nat.lt_of_lt_of_le hl hb.size, fun i A hA => (hi i A hA).block (hb.block b hl)⟩
theorem rng_of {k : Int} (h : (Lit.wf (.int .i32 k)) = true) : -2147483648 ≤ k ∧ k ≤ 2147483647 := by
  simp [Lit.wf, IntKind.min, IntKind.max, IntKind.signed, IntKind.bits] at h
  omega
set_option maxRecDepth 100000 in
theorem trod_act {H : Type} {enc : TypeId × Value → H} {W : World} {m : Nat} {cs : List Value} {x : DataW H × List MemPlace} {b0 : Nat} {f0 : Nat → Bool} {t0 : Bool} (h : DataW.trod enc Tryd.prog W b0 f0 t0 m 75 cs = some x) (hl : cs.length = 5) :
    ∃ A : ActR, cs = [.int .i64 A.kind, .int .i64 A.at_, .int .i64 A.n, .int .i64 A.style, .int .i32 A.rune] ∧ RngA A := by
  match cs, hl with
  | [v0, v1, v2, v3, v4], _ =>
    obtain ⟨xs, n, hn, hxy, _, hxl, hf⟩ := DataW.trod_struct Tryd.underlying75 h
    match xs, hxl with
    | [y0, y1, y2, y3, y4], _ =>
      have g0 := hf 0 _ rfl
      have g1 := hf 1 _ rfl
      have g2 := hf 2 _ rfl
      have g3 := hf 3 _ rfl
      have g4 := hf 4 _ rfl
      simp [cI, cR] at g0 g1 g2 g3 g4
      obtain ⟨k0, e0, _, _⟩ := DataW.trod_int Tryd.underlying3 g0
      obtain ⟨k1, e1, _, _⟩ := DataW.trod_int Tryd.underlying3 g1
      obtain ⟨k2, e2, _, _⟩ := DataW.trod_int Tryd.underlying3 g2
      obtain ⟨k3, e3, _, _⟩ := DataW.trod_int Tryd.underlying3 g3
      obtain ⟨k4, e4, _, hw⟩ := DataW.trod_int Tryd.underlying21 g4
      simp at e0 e1 e2 e3 e4
      subst e0 e1 e2 e3 e4
      exact ⟨⟨k0, k1, k2, k3, k4⟩, rfl, rng_of hw⟩
theorem addN (b off j : Nat) : (⟨b, off, none⟩ : Addr).add j = ⟨b, off + j, none⟩ := by unfold Addr.add; split <;> simp_all
/-! ## the spans -/
theorem gSpans : Tryd.prog.globalNamed "tidewrack/wide.spans" = some 0 := by kernel_rfl
theorem gSpansType : (Tryd.prog.globals[0]?).map (·.type) = some 190 := by kernel_rfl
theorem cSpan : Tryd.prog.cellsOf 189 = 3 := by kernel_rfl
def spanD (x : Int × Int × Nat) : DataW Unit := .agg [.lit (.int .i32 x.1), .lit (.int .i32 x.2.1), .lit (.int .i64 (x.2.2 : Int))]
theorem spans_data : (Rows.laid_tidewrack_wide_spans : DataW Unit) = .agg (W.tab.map spanD) := rfl
theorem tab_of {rest : List (String × DataW Unit)} {w : World} (h : laidMet Tryd.prog (("tidewrack/wide.spans", Rows.laid_tidewrack_wide_spans) :: rest) w) : W.Tab w := by
  rw [spans_data] at h
  obtain ⟨cs, m, hv, hall⟩ := L.laid_head gSpans gSpansType Tryd.underlying190 h
  intro k hk
  obtain ⟨d, q, hd, ht⟩ := hall k hk
  have hkl : k < W.tab.length := hk
  have e : d = spanD (W.tab.getD k (0, 0, 0)) := by
    rw [List.getElem?_map, List.getElem?_eq_getElem hkl] at hd
    simp only [Option.map_some, Option.some.injEq] at hd
    rw [← hd]
    simp [List.getD_eq_getElem?_getD, hkl]
  subst e
  unfold spanD at ht
  rw [cSpan] at ht
  have f0 := L.trod_field Tryd.underlying189 ht 0 _ rfl Tryd.underlying21 cR rfl
  have f1 := L.trod_field Tryd.underlying189 ht 1 _ rfl Tryd.underlying21 cR rfl
  have f2 := L.trod_field Tryd.underlying189 ht 2 _ rfl Tryd.underlying3 cI rfl
  exact ⟨L.at_cell (k := k) (c := 3) (o := 0) gSpans hv (by decide) f0, L.at_cell (k := k) (c := 3) (o := 1) gSpans hv (by decide) f1, L.at_cell (k := k) (c := 3) (o := 2) gSpans hv (by decide) f2⟩
end Go.Proofs.YtkggmcnocpgnbaaDoor.K

/- Pairs of numbers (a rune, and how it looks) in memory; append of one. -/
namespace Go.Proofs.YtkggmcnocpgnbaaDoor.K
open Go.RowKit

def pCells (rk : IntKind) (g : Int × Int) : List Value := [.int rk g.1, .int .i64 g.2]
def flatP (rk : IntKind) (l : List (Int × Int)) : List Value := l.flatMap (pCells rk)
theorem flatP_append (rk : IntKind) (a b : List (Int × Int)) : flatP rk (a ++ b) = flatP rk a ++ flatP rk b := List.flatMap_append ..
theorem flatP_get (rk : IntKind) : ∀ (l : List (Int × Int)) (i j : Nat) (c : Int × Int), l[i]? = some c → j < 2 → (flatP rk l)[i * 2 + j]? = (pCells rk c)[j]?
  | [], _, _, _, h, _ => by cases h
  | d :: l, 0, j, c, h, hj => by
    obtain rfl : d = c := by simpa using h
    show (pCells rk d ++ flatP rk l)[0 * 2 + j]? = _
    rw [List.getElem?_append_left (by simp [pCells]; omega)]
    simp
  | d :: l, i + 1, j, c, h, hj => by
    show (pCells rk d ++ flatP rk l)[(i + 1) * 2 + j]? = _
    rw [List.getElem?_append_right (by simp [pCells]; omega)]
    have e : (i + 1) * 2 + j - (pCells rk d).length = i * 2 + j := by simp [pCells]; omega
    rw [e]
    exact flatP_get rk l i j c (by simpa using h) hj
theorem flatP_one (rk : IntKind) (l : List (Int × Int)) : ∀ u ∈ flatP rk l, u.oneCell' = true := by
  intro u hu
  obtain ⟨c, _, hu⟩ := List.mem_flatMap.1 hu
  simp only [pCells, List.mem_cons, List.not_mem_nil, or_false] at hu
  rcases hu with rfl | rfl <;> rfl
/-- pairs of our own -/
def OwnP (rk : IntKind) (T : TypeId) (base : Nat) (v : Value) (l : List (Int × Int)) (w : World) : Prop := w.ownsRow base T 2 v l.length (flatP rk l)
theorem OwnP.nil (rk : IntKind) (T : TypeId) (base : Nat) (w : World) : OwnP rk T base (.slice none 0 0) [] w := World.ownsRow_nil _ _ _ _
theorem OwnP.belowAll {rk : IntKind} {T : TypeId} {base : Nat} {v : Value} {l : List (Int × Int)} {w w' : World} (h : OwnP rk T base v l w) (hb : Below w.heap.size w w') : OwnP rk T base v l w' := U.belowAll h hb
theorem OwnP.alloc {rk : IntKind} {T : TypeId} {base : Nat} {v : Value} {l : List (Int × Int)} {w : World} (h : OwnP rk T base v l w) (o : Obj) : OwnP rk T base v l (w.alloc o) := h.belowAll ((Below.refl _ _).alloc (Nat.le_refl _) o)
theorem OwnP.weaken {rk : IntKind} {T : TypeId} {base base' : Nat} {v : Value} {l : List (Int × Int)} {w : World} (h : OwnP rk T base v l w) (hb : base' ≤ base) : OwnP rk T base' v l w := U.weaken h hb
theorem OwnP.ownBlock {rk : IntKind} {T : TypeId} {base : Nat} {v : Value} {l : List (Int × Int)} {w : World} (h : OwnP rk T base v l w) : ∀ q, v.ownBlock = some q → base ≤ q ∧ q < w.heap.size := fun q hq => ⟨(U.own_type h hq).choose_spec.2.1, (U.own_type h hq).choose_spec.2.2⟩
theorem OwnP.lit (rk : IntKind) (T : TypeId) (w : World) (base : Nat) (hb : base ≤ w.heap.size) : OwnP rk T base (.slice (some ⟨w.heap.size, 0, none⟩) 0 0) [] (w.alloc (.cells #[] T)) := World.ownsRow_lit w #[] 0 hb (by decide) rfl
/-- a slice of pairs -/
structure PairsIn (rk : IntKind) (a : Option Addr) (n c : Nat) (gs : List (Int × Int)) (w : World) : Prop where
  len : n = gs.length
  fit : n ≤ c
  top : (c : Int) ≤ 9223372036854775807
  at_ : gs = [] ∨ ∃ b off, a = some ⟨b, off, none⟩ ∧ b < w.heap.size ∧ ∀ i g, gs[i]? = some g → w.cell? ⟨b, off + i * 2, none⟩ = some (.int rk g.1) ∧ w.cell? ⟨b, off + i * 2 + 1, none⟩ = some (.int .i64 g.2)
theorem PairsIn.belowAll {rk : IntKind} {a : Option Addr} {n c : Nat} {gs : List (Int × Int)} {w w' : World} (h : PairsIn rk a n c gs w) (hb : Below w.heap.size w w') : PairsIn rk a n c gs w' := by
  refine ⟨h.len, h.fit, h.top, h.at_.imp id ?_⟩
  rintro ⟨b, off, ha, hl, hi⟩
  exact ⟨b, off, ha, Nat.lt_of_lt_of_le hl hb.size, fun i g hg => ⟨(hb.cell (p := ⟨b, off + i * 2, none⟩) hl).trans (hi i g hg).1, (hb.cell (p := ⟨b, off + i * 2 + 1, none⟩) hl).trans (hi i g hg).2⟩⟩
theorem OwnP.shape {rk : IntKind} {T : TypeId} {base : Nat} {v : Value} {l : List (Int × Int)} {w : World} (h : OwnP rk T base v l w) : ∃ a c, v = .slice a l.length c ∧ PairsIn rk a l.length c l w ∧ (∀ b off, a = some ⟨b, off, none⟩ → base ≤ b ∧ b < w.heap.size ∧ off = 0) ∧ (a = none → c = 0) := by
  rcases h.2 with ⟨rfl, h0⟩ | ⟨g, cap, cur, rfl, hbase, hg, hc, hm, hs, ht⟩
  · exact ⟨none, 0, by rw [h0], ⟨rfl, by omega, by decide, .inl (List.length_eq_zero_iff.1 h0)⟩, (fun _ _ e => by cases e), fun _ => rfl⟩
  · have hlt := (Array.getElem?_eq_some_iff.1 hg).1
    refine ⟨some ⟨g, 0, none⟩, cap, rfl, ⟨rfl, hc, by unfold maxLen at hm; omega, .inr ⟨g, 0, rfl, hlt, fun i c hi => ?_⟩⟩, (fun b off e => by cases e; exact ⟨hbase, hlt, rfl⟩), (fun e => by cases e)⟩
    have hil : i < l.length := (List.getElem?_eq_some_iff.1 hi).1
    have hcell : ∀ j, j < 2 → w.cell? ⟨g, 0 + i * 2 + j, none⟩ = (pCells rk c)[j]? := fun j hj => by
      rw [Nat.zero_add, World.ownsRow.cellAt h (i * 2 + j) (by omega), flatP_get rk l i j c hi hj]
    exact ⟨hcell 0 (by decide), hcell 1 (by decide)⟩
theorem OwnP.kept {rk : IntKind} {T : TypeId} {base : Nat} {v : Value} {l : List (Int × Int)} {w w' : World} {row : Option Nat} (h : OwnP rk T base v l w) (hg : w.grownBy w' row) (hne : ∀ q, v.ownBlock = some q → row ≠ some q) : OwnP rk T base v l w' := U.kept_apart h hg hne
/-- t is a slice of the pairs T -/
structure PairT (rk : IntKind) (t T : TypeId) (bytes : Nat) : Prop where
  slice : Tryd.prog.underlying t = some (.slice T)
  info : (Tryd.prog.info? T).map (fun i => (i.zero, i.size, i.bytes)) = some (some (.agg #[.int rk 0, .int .i64 0]), 2, bytes)
  small : bytes ≤ 24
theorem gluT : PairT .i32 40 61 16 := ⟨Tryd.underlying40, by kernel_rfl, by decide⟩
/-- append of a slice of one pair -/
theorem wpList_append_pair {rk : IntKind} {t T : TypeId} {bytes : Nat} (hI : PairT rk t T bytes) {ops : Array Oper} {rest : List Oper} {o : Oper} {z : Act} {w : World} {Q : Exit → Act → World → Prop} (hgd : o.guard = none) (s x : Operand)
    (ho : o.op = .call { callee := .builtin .append, args := #[s, x], argTypes := #[t, t] }) (hty : o.type = t)
    (base : Nat) (v : Value) (l : List (Int × Int)) (c : Int × Int) (p : Nat) (hs : z.eval s = v) (hxv : z.eval x = .slice (some ⟨p, 0, none⟩) 1 1) (hown : OwnP rk T base v l w)
    (h0 : w.cell? ⟨p, 0, none⟩ = some (.int rk c.1)) (h1 : w.cell? ⟨p, 1, none⟩ = some (.int .i64 c.2)) (hl : (l.length : Int) ≤ 1000000) (hbase : base ≤ w.heap.size)
    (hK : ∀ v' w', OwnP rk T base v' (l ++ [c]) w' → w.grownBy w' v.ownBlock → wpList Tryd.prog ops Q rest (z.put o.dst v') w') : wpList Tryd.prog ops Q (o :: rest) z w :=
  wpList_plain hgd fun _ hK' => by
    obtain ⟨i0, hi, hz0, hz1, hz2⟩ := info_parts hI.info
    have hb := hI.small
    have hmul : (l.length + 1) * bytes ≤ 140737488355328 := Nat.le_trans (Nat.mul_le_mul (show l.length + 1 ≤ 2000000 by omega) hb) (by decide)
    have hnews : ∀ j u, (pCells rk c)[j]? = some u → w.cell? ((⟨p, 0, none⟩ : Addr).add j) = some u := fun j u hj => by
      have hadd : ((⟨p, 0, none⟩ : Addr).add j) = ⟨p, 0 + j, none⟩ := by unfold Addr.add; split <;> simp_all
      rw [hadd, Nat.zero_add]
      match j, hj with
      | 0, hj => rw [show u = .int rk c.1 by simpa [pCells] using hj.symm]; exact h0
      | 1, hj => rw [show u = .int .i64 c.2 by simpa [pCells] using hj.symm]; exact h1
      | n + 2, hj => simp [pCells] at hj
    obtain ⟨v', w', hr, g⟩ := U.append_grew (P := Tryd.prog) w t t T i0 _ 2 bytes hI.slice hi hz0 hz1 hz2 rfl (by decide) base v l.length (flatP rk l) hown ⟨p, 0, none⟩ 1 1 (pCells rk c) rfl hnews (fun u hu => flatP_one rk [c] u (by simpa [flatP] using hu)) (by unfold maxLen; omega) hmul hbase
    unfold Oper.wp execOp
    simp only [ho, hty, resolve, invoke, builtin, Sem.run_bind, Sem.run_pure, Result.andThen_ok, List.map_toArray, List.map_cons, List.map_nil, hs, hxv, hr]
    refine hK' _ _ (hK v' w' ?_ g.grown)
    have e : flatP rk (l ++ [c]) = flatP rk l ++ pCells rk c := by rw [flatP_append]; simp [flatP]
    unfold OwnP
    rw [e, List.length_append]
    exact g.own
end Go.Proofs.YtkggmcnocpgnbaaDoor.K

/- Glyphs of a row: cut from the end, and gathered from the front. -/
namespace Go.Proofs.YtkggmcnocpgnbaaDoor.K

/-- the pairs of what is shown -/
def glF (l : List Cel) : List (Int × Int) := (l.filter fun c => decide (c.part = 0 ∨ c.part = 1)).map fun c => (c.rune, c.style)
theorem glF_append (a b : List Cel) : glF (a ++ b) = glF a ++ glF b := by unfold glF; rw [List.filter_append, List.map_append]
theorem glF_yes (c : Cel) (h : c.part = 0 ∨ c.part = 1) : glF [c] = [(c.rune, c.style)] := by unfold glF; simp [h]
theorem glF_no (c : Cel) (h : ¬ (c.part = 0 ∨ c.part = 1)) : glF [c] = [] := by unfold glF; simp [h]
theorem glF_length (l : List Cel) : (glF l).length ≤ l.length := by unfold glF; rw [List.length_map]; exact List.length_filter_le ..
theorem glyphs_glF (r : Ro) : glyphs r = glF (trimS r) := rfl
theorem trimS_wrapped (l : List Cel) : trimS ⟨l, true⟩ = l := by unfold trimS; rw [if_pos rfl]
theorem trimS_nil (b : Bool) : trimS ⟨[], b⟩ = [] := by unfold trimS; cases b <;> rfl
theorem trimS_blank (l : List Cel) : trimS ⟨l ++ [blk 0], false⟩ = trimS ⟨l, false⟩ := by
  unfold trimS
  rw [if_neg Bool.false_ne_true, if_neg Bool.false_ne_true, List.reverse_append]
  show (trimG (blk 0 :: l.reverse)).reverse = _
  unfold trimG
  rw [if_pos rfl]
  cases l.reverse <;> rfl
theorem trimS_stop (l : List Cel) (c : Cel) (h : c ≠ blk 0) : trimS ⟨l ++ [c], false⟩ = l ++ [c] := by
  unfold trimS
  rw [if_neg Bool.false_ne_true, List.reverse_append]
  show (trimG (c :: l.reverse)).reverse = _
  unfold trimG
  rw [if_neg h]
  simp
theorem take_last {α : Type} (l : List α) (j : Nat) (h : j < l.length) : l.take (j + 1) = l.take j ++ [l[j]] := by
  rw [List.take_add_one, List.getElem?_eq_getElem h]; rfl
end Go.Proofs.YtkggmcnocpgnbaaDoor.K
