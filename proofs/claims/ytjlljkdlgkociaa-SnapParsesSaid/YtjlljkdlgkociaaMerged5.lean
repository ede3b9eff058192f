/- Rows of our own, of elements of any size: copy into them. -/
import Derived.Test.YtjlljkdlgkociaaMerged4
import Derived.Laws.CopyRow
import Derived.Laws.IdiomCopy
import Derived.Orders
import Derived.Calls
import Derived.WalkKit
namespace Go.Proofs.Ytjlljkdlgkociaa.U
open Go.RowKit

theorem run_copy_rows {P : Program} (w : World) (dT sT ty elem : TypeId) (size g o dLen dCap : Nat) (a : Addr) (sLen sCap : Nat) (cur : Array Value) (t : TypeId) (cs : List Value)
    (hu : P.underlying dT = some (.slice elem)) (hs : (P.info? elem).map (·.size) = some size)
    (hg : w.heap[g]? = some (.cells cur t (0, 0))) (hn : cs.length = Nat.min sLen dLen * size)
    (hsrc : ∀ j v, cs[j]? = some v → w.cell? (a.add j) = some v) (hfit : o + cs.length ≤ cur.size) (h1 : ∀ v ∈ cs, v.oneCell' = true) :
    (Builtin.copy_ #[dT, sT] ty #[.slice (some ⟨g, o, none⟩) dLen dCap, .slice (some a) sLen sCap]).run P w =
      .ok (goInt (Nat.min sLen dLen : Nat)) (w.setRow g (cur.toList.take o ++ cs ++ cur.toList.drop (o + cs.length)).toArray) := by
  have hl := run_loadCells_list (P := P) w a cs hsrc
  have hst := run_storeCells_at (P := P) g o t cs 0 cur w hg (by simpa using hfit) h1
  cases hq : P.info? elem with
  | none => simp [hq] at hs
  | some i =>
    have hi : i.size = size := by simpa [hq] using hs
    simp [Builtin.copy_, run_underlying hu, Builtin.lenOf, Builtin.firstCells, sizeOf, typeInfo, hq, hi, ← hn, hl, hst]
/-- copy into a row of our own -/
theorem run_copy_own {P : Program} (w : World) (dT sT ty elem : TypeId) (size : Nat) (hu : P.underlying dT = some (.slice elem)) (hs : (P.info? elem).map (·.size) = some size)
    (base g n cap : Nat) (xs : List Value) (hown : w.ownsRow base elem size (.slice (some ⟨g, 0, none⟩) n cap) n xs) (i m : Nat) (dLen dCap : Nat) (a : Addr) (sLen sCap : Nat) (cs : List Value)
    (hm : Nat.min sLen dLen = m) (hn : cs.length = m * size) (hsrc : ∀ j v, cs[j]? = some v → w.cell? (a.add j) = some v) (hfit : i + m ≤ n) (h1 : ∀ v ∈ cs, v.oneCell' = true) :
    ∃ w', (Builtin.copy_ #[dT, sT] ty #[.slice (some ⟨g, i * size, none⟩) dLen dCap, .slice (some a) sLen sCap]).run P w = .ok (goInt (m : Nat)) w' ∧
      w'.ownsRow base elem size (.slice (some ⟨g, 0, none⟩) n cap) n (xs.take (i * size) ++ cs ++ xs.drop ((i + m) * size)) ∧ w.grownBy w' (some g) := by
  rcases hown.2 with ⟨h0, _⟩ | ⟨g', cap', cur, he, hbase, hg, hc, hmx, hsz, ht⟩
  · cases h0
  · obtain ⟨rfl, rfl⟩ : g = g' ∧ cap = cap' := by injection he with h1 h2 h3; injection h1 with h1; injection h1 with h1; exact ⟨h1, h3⟩
    have hxl : xs.length = n * size := hown.1
    have hle : (i + m) * size ≤ n * size := Nat.mul_le_mul_right _ hfit
    have hle2 : n * size ≤ cap * size := Nat.mul_le_mul_right _ hc
    have hims : (i + m) * size = i * size + m * size := Nat.add_mul _ _ _
    have hcur : cur.toList.length = cap * size := by simpa using hsz
    have hr := run_copy_rows (P := P) w dT sT ty elem size g (i * size) dLen dCap a sLen sCap cur elem cs hu hs hg (by rw [hm]; exact hn) hsrc (by rw [hn, hsz]; omega) h1
    rw [hm] at hr
    obtain ⟨C2, hC2⟩ : ∃ C2, (cur.toList.take (i * size) ++ cs ++ cur.toList.drop (i * size + cs.length)) = C2 := ⟨_, rfl⟩
    rw [hC2] at hr
    have hl2 : C2.length = cap * size := by
      rw [← hC2, List.length_append, List.length_append, List.length_take, List.length_drop, hcur, hn]; omega
    have hp : C2.take (n * size) = xs.take (i * size) ++ cs ++ xs.drop ((i + m) * size) := by
      rw [← hC2, ← ht, hn]
      have ha : (cur.toList.take (i * size)).length = i * size := by rw [List.length_take]; omega
      rw [List.take_append, List.take_append, List.length_append, ha, hn, List.take_of_length_le (l := cur.toList.take (i * size)) (by rw [ha]; omega), List.take_of_length_le (l := cs) (by rw [hn]; omega), List.take_take, Nat.min_eq_left (by omega), List.drop_take, ← hims]
    refine ⟨_, hr, ⟨?_, .inr ⟨g, cap, C2.toArray, rfl, hbase, setRow_heap w g cur C2.toArray elem (0, 0) hg, hc, hmx, by simp [hl2], hp⟩⟩, ⟨rfl, rfl, rfl, by simp [World.setRow], fun k _ hk => setRow_other w g k _ (fun e => hk (by rw [e]))⟩⟩
    rw [List.length_append, List.length_append, List.length_take, List.length_drop, hn, hxl]; omega
/-- as an operation -/
theorem wp_copy_own {P : Program} {o : Oper} {z : Act} {w : World} {K : Act → World → Prop} {Q : Exit → Act → World → Prop} (d s : Operand) (dT sT : TypeId)
    (ho : o.op = .call { callee := .builtin .copy, args := #[d, s], argTypes := #[dT, sT] }) (elem : TypeId) (size : Nat) (hu : P.underlying dT = some (.slice elem)) (hs : (P.info? elem).map (·.size) = some size)
    (base g n cap : Nat) (xs : List Value) (hown : w.ownsRow base elem size (.slice (some ⟨g, 0, none⟩) n cap) n xs) (i m : Nat) (dLen dCap : Nat) (a : Addr) (sLen sCap : Nat) (cs : List Value)
    (hd : z.eval d = .slice (some ⟨g, i * size, none⟩) dLen dCap) (hsv : z.eval s = .slice (some a) sLen sCap)
    (hm : Nat.min sLen dLen = m) (hn : cs.length = m * size) (hsrc : ∀ j v, cs[j]? = some v → w.cell? (a.add j) = some v) (hfit : i + m ≤ n) (h1 : ∀ v ∈ cs, v.oneCell' = true)
    (h : ∀ w', Hid (w'.ownsRow base elem size (.slice (some ⟨g, 0, none⟩) n cap) n (xs.take (i * size) ++ cs ++ xs.drop ((i + m) * size))) → Hid (w.grownBy w' (some g)) → K (z.put o.dst (goInt (m : Nat))) w') :
    Oper.wp P o z w K Q := by
  obtain ⟨w', hr, k1, k2⟩ := run_copy_own (P := P) w dT sT o.type elem size hu hs base g n cap xs hown i m dLen dCap a sLen sCap cs hm hn hsrc hfit h1
  unfold Oper.wp
  simp only [execOp, ho, resolve, invoke, builtin, hd, hsv, hr, Sem.run_bind, Sem.run_pure, Result.andThen_ok, List.map_toArray, List.map_cons, List.map_nil]
  exact h w' (Lib.hid k1) (Lib.hid k2)
theorem wpList_copy_own {P : Program} {ops : Array Oper} {rest : List Oper} {o : Oper} {z : Act} {w : World} {Q : Exit → Act → World → Prop} (hgd : o.guard = none) (d s : Operand) (dT sT : TypeId)
    (ho : o.op = .call { callee := .builtin .copy, args := #[d, s], argTypes := #[dT, sT] }) (elem : TypeId) (size : Nat) (hu : P.underlying dT = some (.slice elem)) (hs : (P.info? elem).map (·.size) = some size)
    (base g n cap : Nat) (xs : List Value) (hown : w.ownsRow base elem size (.slice (some ⟨g, 0, none⟩) n cap) n xs) (i m : Nat) (dLen dCap : Nat) (a : Addr) (sLen sCap : Nat) (cs : List Value)
    (hd : z.eval d = .slice (some ⟨g, i * size, none⟩) dLen dCap) (hsv : z.eval s = .slice (some a) sLen sCap)
    (hm : Nat.min sLen dLen = m) (hn : cs.length = m * size) (hsrc : ∀ j v, cs[j]? = some v → w.cell? (a.add j) = some v) (hfit : i + m ≤ n) (h1 : ∀ v ∈ cs, v.oneCell' = true)
    (h : ∀ w', w'.ownsRow base elem size (.slice (some ⟨g, 0, none⟩) n cap) n (xs.take (i * size) ++ cs ++ xs.drop ((i + m) * size)) → w.grownBy w' (some g) → wpList P ops Q rest (z.put o.dst (goInt (m : Nat))) w') :
    wpList P ops Q (o :: rest) z w :=
  wpList_plain hgd fun _ hK' => by
    obtain ⟨w', hr, k1, k2⟩ := run_copy_own (P := P) w dT sT o.type elem size hu hs base g n cap xs hown i m dLen dCap a sLen sCap cs hm hn hsrc hfit h1
    unfold Oper.wp execOp
    simp only [ho, resolve, invoke, builtin, Sem.run_bind, Sem.run_pure, Result.andThen_ok, List.map_toArray, List.map_cons, List.map_nil, hd, hsv, hr]
    exact hK' _ _ (h w' k1 k2)
/-- so many times the same -/
def rep (n : Nat) (xs : List Value) : List Value := (List.replicate n xs).flatten
theorem rep_length (n : Nat) (xs : List Value) : (rep n xs).length = n * xs.length := by
  induction n with
  | zero => simp [rep]
  | succ n ih =>
    unfold rep at ih ⊢
    rw [List.replicate_succ, List.flatten_cons, List.length_append, ih, Nat.succ_mul]; omega
theorem rep_add (n m : Nat) (xs : List Value) : rep (n + m) xs = rep n xs ++ rep m xs := by
  unfold rep; rw [← List.flatten_append, List.replicate_append_replicate]
theorem rep_take {n k : Nat} (h : k ≤ n) (xs : List Value) : (rep n xs).take (k * xs.length) = rep k xs := by
  obtain ⟨d, rfl⟩ : ∃ d, n = k + d := ⟨n - k, by omega⟩
  rw [rep_add]
  exact List.take_left' (rep_length k xs)
theorem rep_one (xs : List Value) : rep 1 xs = xs := by simp [rep]
theorem rep_mem {n : Nat} {xs : List Value} {u : Value} (h : u ∈ rep n xs) : u ∈ xs := by
  unfold rep at h
  obtain ⟨l, hl, hu⟩ := List.mem_flatten.1 h
  rw [(List.mem_replicate.1 hl).2] at hu
  exact hu
/-- the front of a row that holds so many times the same -/
def Filled (base : Nat) (e : TypeId) (size g n : Nat) (xs : List Value) (j : Nat) (w : World) : Prop := ∃ L, L.take (j * size) = rep j xs ∧ w.ownsRow base e size (.slice (some ⟨g, 0, none⟩) n n) n L
theorem Filled.src {base : Nat} {e : TypeId} {size g n : Nat} {xs : List Value} {k q : Nat} {w : World} (h : Filled base e size g n xs k w) (hx : xs.length = size) (hqk : q ≤ k) (hk : k ≤ n) :
    ∀ j v, (rep q xs)[j]? = some v → w.cell? ((⟨g, 0, none⟩ : Addr).add j) = some v := fun j v hj => by
  obtain ⟨L, hL, hoL⟩ := h
  have hadd : ((⟨g, 0, none⟩ : Addr).add j) = ⟨g, 0 + j, none⟩ := by unfold Addr.add; split <;> simp_all
  rw [hadd, Nat.zero_add]
  have hjl : j < q * size := by have := (List.getElem?_eq_some_iff.1 hj).1; rw [rep_length, hx] at this; exact this
  have h2 : (rep k xs)[j]? = some v := by
    have h3 := rep_take hqk xs
    rw [hx] at h3
    rw [← h3, List.getElem?_take, if_pos hjl] at hj
    exact hj
  rw [← hL, List.getElem?_take] at h2
  split at h2
  · have h5 : k * size ≤ n * size := Nat.mul_le_mul_right _ hk
    have h6 : q * size ≤ k * size := Nat.mul_le_mul_right _ hqk
    exact (World.ownsRow.cellAt hoL j (by omega)).trans h2
  · cases h2
theorem Filled.belowAll {base : Nat} {e : TypeId} {size g n : Nat} {xs : List Value} {k : Nat} {w w' : World} (h : Filled base e size g n xs k w) (hb : Below w.heap.size w w') : Filled base e size g n xs k w' := by
  obtain ⟨L, hL, hoL⟩ := h
  exact ⟨L, hL, U.belowAll hoL hb⟩
theorem Filled.less {base : Nat} {e : TypeId} {size g n : Nat} {xs : List Value} {k q : Nat} {w : World} (h : Filled base e size g n xs (k + q) w) (hx : xs.length = size) : Filled base e size g n xs k w := by
  obtain ⟨L, hL, hoL⟩ := h
  refine ⟨L, ?_, hoL⟩
  have h3 := rep_take (Nat.le_add_right k q) xs
  rw [hx, ← hL, List.take_take, Nat.min_eq_left (Nat.mul_le_mul_right _ (Nat.le_add_right k q))] at h3
  exact h3
/-- the step of a row that is filled by its own front -/
theorem rep_step {n k m size : Nat} {xs L : List Value} (hx : xs.length = size) (hL : L.take (k * size) = rep k xs) (hmk : m ≤ k) (hfit : k + m ≤ n) (hl : L.length = n * size) :
    (L.take (k * size) ++ rep m xs ++ L.drop ((k + m) * size)).take ((k + m) * size) = rep (k + m) xs := by
  have h1 : (rep k xs ++ rep m xs).length = (k + m) * size := by rw [List.length_append, rep_length, rep_length, hx, Nat.add_mul]
  rw [hL, List.take_left' h1, rep_add]
end Go.Proofs.Ytjlljkdlgkociaa.U

/- A region that draws its order: if each operation, whatever came up before it, leaves in its slot a value of which its own predicate holds, and no step spoils what holds of other slots, then behind the region all the predicates hold: whatever the order. -/
namespace Go.Proofs.Ytjlljkdlgkociaa.R
open Go

section
variable {P : Program} {ops : Array Oper} {Q : Exit → Act → World → Prop}

/-- p holds of each operation of the list, the first of them bearing the number k. -/
def EachOp (p : Nat → Oper → Prop) : Nat → List Oper → Prop
  | _, [] => True
  | k, o :: l => p k o ∧ EachOp p (k + 1) l
theorem EachOp.at {p : Nat → Oper → Prop} : ∀ {k : Nat} {l : List Oper}, EachOp p k l → ∀ i o, l[i]? = some o → p (k + i) o
  | _, [], _, i, o, h => by simp at h
  | k, x :: l, hp, 0, o, h => by simp at h; subst h; exact hp.1
  | k, x :: l, hp, i + 1, o, h => by
    have := EachOp.at hp.2 i o (by simpa using h)
    rwa [show k + (i + 1) = k + 1 + i from by omega]

/-- No two operations write one slot. -/
def distinctB (ops : Array Oper) : Bool := (List.range ops.size).all fun i => (List.range ops.size).all fun j => i == j || (((ops[i]?).bind (·.dst)).isNone || (ops[i]?).bind (·.dst) != (ops[j]?).bind (·.dst))
theorem distinctB_spec (h : distinctB ops = true) (i j : Nat) (o o' : Oper) (d : Nat) (hi : ops[i]? = some o) (hj : ops[j]? = some o') (ho : o.dst = some d) (ho' : o'.dst = some d) : i = j := by
  have h1 := List.all_eq_true.1 (List.all_eq_true.1 h i (List.mem_range.2 (Array.getElem?_eq_some_iff.1 hi).1)) j (List.mem_range.2 (Array.getElem?_eq_some_iff.1 hj).1)
  rw [hi, hj] at h1
  simpa [ho, ho'] using h1
/-- Each operation waits for earlier ones alone. -/
def orderedB (ops : Array Oper) : Bool := (List.range ops.size).all fun i => ((ops[i]?).map fun o => o.after.all fun e => decide (e.on < i)).getD true
theorem orderedB_spec (h : orderedB ops = true) (i : Nat) (o : Oper) (hi : ops[i]? = some o) (e : Edge) (he : e ∈ o.after) : e.on < i := by
  have h1 := List.all_eq_true.1 h i (List.mem_range.2 (Array.getElem?_eq_some_iff.1 hi).1)
  rw [hi] at h1
  simp only [Option.map_some, Option.getD_some] at h1
  simpa using Array.all_eq_true_iff_forall_mem.1 h1 e he

/-- The slots that the region doesn't write are as they were. -/
def Agree (ops : Array Oper) (base a : Act) : Prop := a.defers = base.defers ∧ a.tmps.size = base.tmps.size ∧ ∀ t, (ops.toList.all fun o => o.dst != some t) = true → a.tmps.getD t undef = base.tmps.getD t undef
/-- What the slots of the operations that came up hold. -/
def Held (ops : Array Oper) (Ok : Nat → Value → World → Prop) (listed : Array Bool) (a : Act) (w : World) : Prop :=
  ∀ i o d, ops[i]? = some o → o.dst = some d → listed.getD i false = true → Ok i (a.tmps.getD d undef) w

/-- EACH OPERATION's OWN STEP. -/
def OpStep (P : Program) (ops : Array Oper) (Q : Exit → Act → World → Prop) (base : Act) (C : World → Prop) (R : World → World → Prop) (Ok : Nat → Value → World → Prop) (i : Nat) (o : Oper) : Prop :=
  ∀ (a : Act) (w : World), C w → Agree ops base a → (∀ e ∈ o.after, Region.binds .any e = true → ∀ oj d, ops[e.on]? = some oj → oj.dst = some d → Ok e.on (a.tmps.getD d undef) w) →
    (Region.wanted o (yielded ops a.tmps) = true ∧ ∀ K : Act → World → Prop, (∀ v w', R w w' → Ok i v w' → K (a.put o.dst v) w') → o.wp P a w K Q) ∨
    (Region.wanted o (yielded ops a.tmps) = false ∧ R w w ∧ Ok i undef w)

theorem getD_put {a : Act} {d t : Nat} {v : Value} (hd : d < a.tmps.size) : (a.put (some d) v).tmps.getD t undef = if d = t then v else a.tmps.getD t undef := by
  simp only [Act.put, Array.getD_eq_getD_getElem?, Array.getElem?_setIfInBounds]
  by_cases h : d = t
  · subst h; simp [hd]
  · simp [h]

theorem wp_region_rel {id : Nat} {base : Act} {w0 : World} (hm : P.follows .mixedOrders = true) (C : World → Prop) (R : World → World → Prop) (Ok : Nat → Value → World → Prop)
    (hin : (ops.toList.all fun o => match o.dst with | some d => decide (d < base.tmps.size) | none => true) = true)
    (hdis : distinctB ops = true) (hordB : orderedB ops = true)
    (hC : ∀ w w', C w → R w w' → C w') (hOk : ∀ i v w w', Ok i v w → R w w' → Ok i v w')
    (hop : EachOp (OpStep P ops Q base C R Ok) 0 ops.toList)
    (hdone : ∀ a w, C w → Agree ops base a → (∀ (i : Nat) (o : Oper) (d : Nat), ops[i]? = some o → o.dst = some d → Ok i (a.tmps.getD d undef) w) → Q .normal a w)
    (h0 : C w0.drew) : (Code.region id ops true).wp P Q base w0 := by
  have hinj := fun i j o o' d => distinctB_spec (ops := ops) hdis i j o o' d
  have hord : ∀ (i : Nat) (o : Oper), ops[i]? = some o → ∀ e ∈ o.after, e.on < i := fun i o hi e he => orderedB_spec hordB i o hi e he
  have hin' : ∀ (i : Nat) (o : Oper) (d : Nat), ops[i]? = some o → o.dst = some d → d < base.tmps.size := fun i o d hi hd => by
    have := List.all_eq_true.1 hin o (by have := Array.mem_of_getElem? hi; simpa using this)
    rw [hd] at this
    simpa using this
  have main : ∀ (fuel : Nat) (listed : Array Bool) (a : Act) (w : World), listed.size = ops.size → C w → Agree ops base a → Held ops Ok listed a w →
      ((List.range ops.size).filter fun i => !listed.getD i true).length ≤ fuel → wpAny P .any ops Q fuel listed a w := by
    intro fuel
    induction fuel with
    | zero =>
      intro listed a w hsz hc ha hh hf
      have hall : ∀ i, i < ops.size → listed.getD i true = true := fun i hi => by
        have h1 : ((List.range ops.size).filter fun i => !listed.getD i true) = [] := List.length_eq_zero_iff.1 (by omega)
        have h2 := List.filter_eq_nil_iff.1 h1 i (List.mem_range.2 hi)
        simpa using h2
      refine ⟨?_, hdone a w hc ha fun i o d hi hd => hh i o d hi hd ?_⟩
      · unfold Region.ready
        refine List.filter_eq_nil_iff.2 fun i hi => ?_
        rw [hall i (List.mem_range.1 hi)]
        simp
      · have hlt := (Array.getElem?_eq_some_iff.1 hi).1
        have := hall i hlt
        rw [Array.getD_eq_getD_getElem?] at this ⊢
        rw [Array.getElem?_eq_getElem (by omega)] at this ⊢
        simpa using this
    | succ fuel ih =>
      intro listed a w hsz hc ha hh hf
      refine ⟨fun hr => ?_, fun i hi => ?_⟩
      · -- nothing may come up: all have
        have hall : ∀ n i, i < n → i < ops.size → listed.getD i false = true := by
          intro n
          induction n with
          | zero => intro i hi _; omega
          | succ n ihn =>
            intro i hi hlt
            by_cases hin : i < n
            · exact ihn i hin hlt
            · obtain rfl : i = n := by omega
              cases hl : listed.getD i false with
              | true => rfl
              | false =>
                exfalso
                have hl' : listed.getD i true = false := by
                  rw [Array.getD_eq_getD_getElem?] at hl ⊢
                  rw [Array.getElem?_eq_getElem (by omega)] at hl ⊢
                  simpa using hl
                have hmem : i ∈ Region.ready .any ops listed := by
                  unfold Region.ready
                  refine List.mem_filter.2 ⟨List.mem_range.2 hlt, ?_⟩
                  rw [hl', Array.getElem?_eq_getElem hlt]
                  simp only [Bool.not_false, Bool.true_and, Option.map_some, Option.getD_some]
                  refine Array.all_eq_true_iff_forall_mem.2 fun e he => ?_
                  have := ihn e.on (hord i _ (Array.getElem?_eq_getElem hlt) e he) (by have := hord i _ (Array.getElem?_eq_getElem hlt) e he; omega)
                  simp [this]
                rw [hr] at hmem
                cases hmem
        exact hdone a w hc ha fun i o d hi hd => hh i o d hi hd (hall _ i (Nat.lt_succ_self i) (Array.getElem?_eq_some_iff.1 hi).1)
      · have hi' := hi
        unfold Region.ready at hi'
        obtain ⟨hlt, hcond⟩ := List.mem_filter.1 hi'
        have hlt := List.mem_range.1 hlt
        simp only [Bool.and_eq_true, Bool.not_eq_true'] at hcond
        obtain ⟨hun, hdeps⟩ := hcond
        obtain ⟨o, ho⟩ : ∃ o, ops[i]? = some o := ⟨_, Array.getElem?_eq_getElem hlt⟩
        rw [ho] at hdeps
        simp only [Option.map_some, Option.getD_some] at hdeps
        have hstep := hop.at i o (by simpa using ho)
        rw [Nat.zero_add] at hstep
        have hd := hstep a w hc ha fun e he hb oj d hoj hdj => by
          have h1 := Array.all_eq_true_iff_forall_mem.1 hdeps e he
          rw [hb] at h1
          simp at h1
          refine hh e.on oj d hoj hdj ?_
          rw [Array.getD_eq_getD_getElem?]
          exact h1
        -- behind the operation
        have next : ∀ v w', R w w' → Ok i v w' → wpAny P .any ops Q fuel (listed.setIfInBounds i true) (a.put o.dst v) w' := by
          intro v w' hr hv
          refine ih _ _ _ (by simpa using hsz) (hC _ _ hc hr) ?_ ?_ ?_
          · obtain ⟨k1, k2, k3⟩ := ha
            cases hdst : o.dst with
            | none => exact ⟨k1, k2, k3⟩
            | some d =>
              have hds := hin' i o d ho hdst
              refine ⟨k1, by simpa [Act.put] using k2, fun t ht => ?_⟩
              rw [getD_put (by omega), if_neg ?_]
              · exact k3 t ht
              · intro e
                have := List.all_eq_true.1 ht o (by have := Array.mem_of_getElem? ho; simpa using this)
                rw [hdst, e] at this
                simp at this
          · intro j oj dj hj hdj hlj
            by_cases hji : j = i
            · subst hji
              rw [ho] at hj
              cases hj
              rw [hdj, getD_put (by have := hin' j o dj ho hdj; have := ha.2.1; omega), if_pos rfl]
              exact hv
            · have hlj' : listed.getD j false = true := by
                rw [Array.getD_eq_getD_getElem?, Array.getElem?_setIfInBounds, if_neg (Ne.symm hji), ← Array.getD_eq_getD_getElem?] at hlj
                exact hlj
              have hold := hOk _ _ _ _ (hh j oj dj hj hdj hlj') hr
              cases hdst : o.dst with
              | none => exact hold
              | some d =>
                rw [getD_put (by have := hin' i o d ho hdst; have := ha.2.1; omega), if_neg ?_]
                · exact hold
                · intro e
                  exact hji (hinj j i oj o dj hj ho hdj (by rw [hdst, e]))
          · have hcount : ((List.range ops.size).filter fun k => !(listed.setIfInBounds i true).getD k true).length < ((List.range ops.size).filter fun k => !listed.getD k true).length := by
              have hsub : ((List.range ops.size).filter fun k => !(listed.setIfInBounds i true).getD k true) = ((List.range ops.size).filter fun k => !listed.getD k true).filter fun k => k != i := by
                rw [List.filter_filter]
                refine List.filter_congr fun k hk => ?_
                rw [Array.getD_eq_getD_getElem?, Array.getElem?_setIfInBounds]
                by_cases hki : i = k
                · subst hki; rw [if_pos rfl, if_pos (by omega)]; simp
                · rw [if_neg hki, ← Array.getD_eq_getD_getElem?]
                  simp [Ne.symm hki]
              rw [hsub]
              refine List.length_filter_lt_length_iff_exists.2 ⟨i, List.mem_filter.2 ⟨List.mem_range.2 hlt, ?_⟩, ?_⟩
              · rw [Array.getD_eq_getD_getElem?]; simpa using hun
              · simp
            omega
        unfold wpOp
        rw [ho]
        simp only
        rcases hd with ⟨hw, hk⟩ | ⟨hw, hr, hv⟩
        · rw [if_pos hw]
          exact .inl (hk _ next)
        · rw [if_neg (by rw [hw]; decide)]
          exact next _ _ hr hv
  refine wp_region_any hm (main ops.size (Array.replicate ops.size false) base w0.drew (by simp) h0 ⟨rfl, rfl, fun _ _ => rfl⟩ (fun i o d hi _ hl => ?_) ?_)
  · have hlt := (Array.getElem?_eq_some_iff.1 hi).1
    rw [Array.getD_eq_getD_getElem?] at hl
    simp [hlt] at hl
  · exact Nat.le_trans (List.length_filter_le _ _) (by simp)
end
theorem wanted_of {ops : Array Oper} {a : Act} {o oj : Oper} {j d : Nat} {b : Bool} (ho : o.guard = some (j, b)) (hj : ops[j]? = some oj) (hd : oj.dst = some d) (hv : a.tmps.getD d undef = .bool b) (hs : d < a.tmps.size) : Region.wanted o (yielded ops a.tmps) = true := by
  have h1 : a.tmps[d]? = some (.bool b) := by
    rw [Array.getD_eq_getD_getElem?, Array.getElem?_eq_getElem hs] at hv
    rw [Array.getElem?_eq_getElem hs]
    simpa using hv
  simp [Region.wanted, ho, yielded, hj, hd, h1]
end Go.Proofs.Ytjlljkdlgkociaa.R
