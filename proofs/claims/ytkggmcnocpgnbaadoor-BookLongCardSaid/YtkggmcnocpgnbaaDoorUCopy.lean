/- Rows of our own, of elements of any size: copy into them. -/
import Derived.Test.YtkggmcnocpgnbaaDoorMerged0
import Derived.Laws.CopyRow
import Derived.Laws.IdiomCopy
namespace Go.Proofs.YtkggmcnocpgnbaaDoor.U
open Go.RowKit

theorem run_copy_rows {P : Program} (w : World) (dT sT ty elem : TypeId) (size g o dLen dCap : Nat) (a : Addr) (sLen sCap : Nat) (cur : Array Value) (t : TypeId) (cs : List Value)
    (hu : P.underlying dT = some (.slice elem)) (hs : (P.info? elem).map (·.size) = some size)
    (hg : w.heap[g]? = some (.cells cur t (0, 0))) (hn : cs.length = Nat.min sLen dLen * size)
    (hsrc : ∀ j v, cs[j]? = some v → w.cell? (a.add j) = some v) (hfit : o + cs.length ≤ cur.size) (h1 : ∀ v ∈ cs, v.oneCell' = true) :
    (Builtin.copy_ #[dT, sT] ty #[.slice (some ⟨g, o, none⟩) dLen dCap, .slice (some a) sLen sCap]).run P w =
      .ok (goInt (Nat.min sLen dLen : Nat)) (w.setRow g (cur.toList.take o ++ cs ++ cur.toList.drop (o + cs.length)).toArray) := by
  have hl := run_loadCells_list (P := P) w a cs hsrc
  have hst := run_storeCells_at (P := P) g o t cs 0 cur w hg (by simpa using hfit) h1
  cases hq : P.info? elem with
  | none => simp [hq] at hs
  | some i =>
    have hi : i.size = size := by simpa [hq] using hs
    simp [Builtin.copy_, run_underlying hu, Builtin.lenOf, Builtin.firstCells, sizeOf, typeInfo, hq, hi, ← hn, hl, hst]
/-- nothing goes over where one of the two has no element -/
theorem run_copy_zero {P : Program} (w : World) (dT sT ty elem : TypeId) (size : Nat) (d a : Option Addr) (dLen dCap sLen sCap : Nat) (hu : P.underlying dT = some (.slice elem)) (hs : (P.info? elem).map (·.size) = some size) (hn : Nat.min sLen dLen = 0) :
    (Builtin.copy_ #[dT, sT] ty #[.slice d dLen dCap, .slice a sLen sCap]).run P w = .ok (goInt 0) w := by
  cases hq : P.info? elem with
  | none => simp [hq] at hs
  | some i =>
    have hl : ∀ (x : Addr), (loadCells x 0).run P w = .ok #[] w := fun x => by simpa using run_loadCells_list (P := P) w x [] (by simp)
    cases d <;> cases a <;> simp [Builtin.copy_, run_underlying hu, Builtin.lenOf, Builtin.firstCells, sizeOf, typeInfo, hq, hn, storeCells, hl]
/-- copy into a row of our own -/
theorem run_copy_own {P : Program} (w : World) (dT sT ty elem : TypeId) (size : Nat) (hu : P.underlying dT = some (.slice elem)) (hs : (P.info? elem).map (·.size) = some size)
    (base g n cap : Nat) (xs : List Value) (hown : w.ownsRow base elem size (.slice (some ⟨g, 0, none⟩) n cap) n xs) (i m : Nat) (dLen dCap : Nat) (a : Addr) (sLen sCap : Nat) (cs : List Value)
    (hm : Nat.min sLen dLen = m) (hn : cs.length = m * size) (hsrc : ∀ j v, cs[j]? = some v → w.cell? (a.add j) = some v) (hfit : i + m ≤ n) (h1 : ∀ v ∈ cs, v.oneCell' = true) :
    ∃ w', (Builtin.copy_ #[dT, sT] ty #[.slice (some ⟨g, i * size, none⟩) dLen dCap, .slice (some a) sLen sCap]).run P w = .ok (goInt (m : Nat)) w' ∧
      w'.ownsRow base elem size (.slice (some ⟨g, 0, none⟩) n cap) n (xs.take (i * size) ++ cs ++ xs.drop ((i + m) * size)) ∧ w.grownBy w' (some g) := by
  rcases hown.2 with ⟨h0, _⟩ | ⟨g', cap', cur, he, hbase, hg, hc, hmx, hsz, ht⟩
  · cases h0
  · obtain ⟨rfl, rfl⟩ : g = g' ∧ cap = cap' := by injection he with h1 h2 h3; injection h1 with h1; injection h1 with h1; exact ⟨h1, h3⟩
    have hxl : xs.length = n * size := hown.1
    have hle : (i + m) * size ≤ n * size := Nat.mul_le_mul_right _ hfit
    have hle2 : n * size ≤ cap * size := Nat.mul_le_mul_right _ hc
    have hims : (i + m) * size = i * size + m * size := Nat.add_mul _ _ _
    have hcur : cur.toList.length = cap * size := by simpa using hsz
    have hr := run_copy_rows (P := P) w dT sT ty elem size g (i * size) dLen dCap a sLen sCap cur elem cs hu hs hg (by rw [hm]; exact hn) hsrc (by rw [hn, hsz]; omega) h1
    rw [hm] at hr
    obtain ⟨C2, hC2⟩ : ∃ C2, (cur.toList.take (i * size) ++ cs ++ cur.toList.drop (i * size + cs.length)) = C2 := ⟨_, rfl⟩
    rw [hC2] at hr
    have hl2 : C2.length = cap * size := by
      rw [← hC2, List.length_append, List.length_append, List.length_take, List.length_drop, hcur, hn]; omega
    have hp : C2.take (n * size) = xs.take (i * size) ++ cs ++ xs.drop ((i + m) * size) := by
      rw [← hC2, ← ht, hn]
      have ha : (cur.toList.take (i * size)).length = i * size := by rw [List.length_take]; omega
      rw [List.take_append, List.take_append, List.length_append, ha, hn, List.take_of_length_le (l := cur.toList.take (i * size)) (by rw [ha]; omega), List.take_of_length_le (l := cs) (by rw [hn]; omega), List.take_take, Nat.min_eq_left (by omega), List.drop_take, ← hims]
    refine ⟨_, hr, ⟨?_, .inr ⟨g, cap, C2.toArray, rfl, hbase, setRow_heap w g cur C2.toArray elem (0, 0) hg, hc, hmx, by simp [hl2], hp⟩⟩, ⟨rfl, rfl, rfl, by simp [World.setRow], fun k _ hk => setRow_other w g k _ (fun e => hk (by rw [e]))⟩⟩
    rw [List.length_append, List.length_append, List.length_take, List.length_drop, hn, hxl]; omega
/-- as an operation -/
theorem wp_copy_own {P : Program} {o : Oper} {z : Act} {w : World} {K : Act → World → Prop} {Q : Exit → Act → World → Prop} (d s : Operand) (dT sT : TypeId)
    (ho : o.op = .call { callee := .builtin .copy, args := #[d, s], argTypes := #[dT, sT] }) (elem : TypeId) (size : Nat) (hu : P.underlying dT = some (.slice elem)) (hs : (P.info? elem).map (·.size) = some size)
    (base g n cap : Nat) (xs : List Value) (hown : w.ownsRow base elem size (.slice (some ⟨g, 0, none⟩) n cap) n xs) (i m : Nat) (dLen dCap : Nat) (a : Addr) (sLen sCap : Nat) (cs : List Value)
    (hd : z.eval d = .slice (some ⟨g, i * size, none⟩) dLen dCap) (hsv : z.eval s = .slice (some a) sLen sCap)
    (hm : Nat.min sLen dLen = m) (hn : cs.length = m * size) (hsrc : ∀ j v, cs[j]? = some v → w.cell? (a.add j) = some v) (hfit : i + m ≤ n) (h1 : ∀ v ∈ cs, v.oneCell' = true)
    (h : ∀ w', Hid (w'.ownsRow base elem size (.slice (some ⟨g, 0, none⟩) n cap) n (xs.take (i * size) ++ cs ++ xs.drop ((i + m) * size))) → Hid (w.grownBy w' (some g)) → K (z.put o.dst (goInt (m : Nat))) w') :
    Oper.wp P o z w K Q := by
  obtain ⟨w', hr, k1, k2⟩ := run_copy_own (P := P) w dT sT o.type elem size hu hs base g n cap xs hown i m dLen dCap a sLen sCap cs hm hn hsrc hfit h1
  unfold Oper.wp
  simp only [execOp, ho, resolve, invoke, builtin, hd, hsv, hr, Sem.run_bind, Sem.run_pure, Result.andThen_ok, List.map_toArray, List.map_cons, List.map_nil]
  exact h w' (Lib.hid k1) (Lib.hid k2)
theorem wpList_copy_own {P : Program} {ops : Array Oper} {rest : List Oper} {o : Oper} {z : Act} {w : World} {Q : Exit → Act → World → Prop} (hgd : o.guard = none) (d s : Operand) (dT sT : TypeId)
    (ho : o.op = .call { callee := .builtin .copy, args := #[d, s], argTypes := #[dT, sT] }) (elem : TypeId) (size : Nat) (hu : P.underlying dT = some (.slice elem)) (hs : (P.info? elem).map (·.size) = some size)
    (base g n cap : Nat) (xs : List Value) (hown : w.ownsRow base elem size (.slice (some ⟨g, 0, none⟩) n cap) n xs) (i m : Nat) (dLen dCap : Nat) (a : Addr) (sLen sCap : Nat) (cs : List Value)
    (hd : z.eval d = .slice (some ⟨g, i * size, none⟩) dLen dCap) (hsv : z.eval s = .slice (some a) sLen sCap)
    (hm : Nat.min sLen dLen = m) (hn : cs.length = m * size) (hsrc : ∀ j v, cs[j]? = some v → w.cell? (a.add j) = some v) (hfit : i + m ≤ n) (h1 : ∀ v ∈ cs, v.oneCell' = true)
    (h : ∀ w', w'.ownsRow base elem size (.slice (some ⟨g, 0, none⟩) n cap) n (xs.take (i * size) ++ cs ++ xs.drop ((i + m) * size)) → w.grownBy w' (some g) → wpList P ops Q rest (z.put o.dst (goInt (m : Nat))) w') :
    wpList P ops Q (o :: rest) z w :=
  wpList_plain hgd fun _ hK' => by
    obtain ⟨w', hr, k1, k2⟩ := run_copy_own (P := P) w dT sT o.type elem size hu hs base g n cap xs hown i m dLen dCap a sLen sCap cs hm hn hsrc hfit h1
    unfold Oper.wp execOp
    simp only [ho, resolve, invoke, builtin, Sem.run_bind, Sem.run_pure, Result.andThen_ok, List.map_toArray, List.map_cons, List.map_nil, hd, hsv, hr]
    exact hK' _ _ (h w' k1 k2)
theorem wpList_copy_zero {P : Program} {ops : Array Oper} {rest : List Oper} {o : Oper} {z : Act} {w : World} {Q : Exit → Act → World → Prop} (hgd : o.guard = none) (d s : Operand) (dT sT : TypeId)
    (ho : o.op = .call { callee := .builtin .copy, args := #[d, s], argTypes := #[dT, sT] }) (elem : TypeId) (size : Nat) (hu : P.underlying dT = some (.slice elem)) (hs : (P.info? elem).map (·.size) = some size)
    (da a : Option Addr) (dLen dCap sLen sCap : Nat) (hd : z.eval d = .slice da dLen dCap) (hsv : z.eval s = .slice a sLen sCap) (hn : Nat.min sLen dLen = 0)
    (h : wpList P ops Q rest (z.put o.dst (goInt 0)) w) : wpList P ops Q (o :: rest) z w :=
  wpList_plain hgd fun _ hK' => by
    have hr := run_copy_zero (P := P) w dT sT o.type elem size da a dLen dCap sLen sCap hu hs hn
    unfold Oper.wp execOp
    simp only [ho, resolve, invoke, builtin, Sem.run_bind, Sem.run_pure, Result.andThen_ok, List.map_toArray, List.map_cons, List.map_nil, hd, hsv, hr]
    exact hK' _ _ h
/-- so many times the same -/
def rep (n : Nat) (xs : List Value) : List Value := (List.replicate n xs).flatten
theorem rep_length (n : Nat) (xs : List Value) : (rep n xs).length = n * xs.length := by
  induction n with
  | zero => simp [rep]
  | succ n ih =>
    unfold rep at ih ⊢
    rw [List.replicate_succ, List.flatten_cons, List.length_append, ih, Nat.succ_mul]; omega
theorem rep_add (n m : Nat) (xs : List Value) : rep (n + m) xs = rep n xs ++ rep m xs := by
  unfold rep; rw [← List.flatten_append, List.replicate_append_replicate]
theorem rep_take {n k : Nat} (h : k ≤ n) (xs : List Value) : (rep n xs).take (k * xs.length) = rep k xs := by
  obtain ⟨d, rfl⟩ : ∃ d, n = k + d := ⟨n - k, by omega⟩
  rw [rep_add]
  exact List.take_left' (rep_length k xs)
theorem rep_one (xs : List Value) : rep 1 xs = xs := by simp [rep]
theorem rep_mem {n : Nat} {xs : List Value} {u : Value} (h : u ∈ rep n xs) : u ∈ xs := by
  unfold rep at h
  obtain ⟨l, hl, hu⟩ := List.mem_flatten.1 h
  rw [(List.mem_replicate.1 hl).2] at hu
  exact hu
/-- the front of a row that holds so many times the same -/
def Filled (base : Nat) (e : TypeId) (size g n : Nat) (xs : List Value) (j : Nat) (w : World) : Prop := ∃ L, L.take (j * size) = rep j xs ∧ w.ownsRow base e size (.slice (some ⟨g, 0, none⟩) n n) n L
theorem Filled.src {base : Nat} {e : TypeId} {size g n : Nat} {xs : List Value} {k q : Nat} {w : World} (h : Filled base e size g n xs k w) (hx : xs.length = size) (hqk : q ≤ k) (hk : k ≤ n) :
    ∀ j v, (rep q xs)[j]? = some v → w.cell? ((⟨g, 0, none⟩ : Addr).add j) = some v := fun j v hj => by
  obtain ⟨L, hL, hoL⟩ := h
  have hadd : ((⟨g, 0, none⟩ : Addr).add j) = ⟨g, 0 + j, none⟩ := by unfold Addr.add; split <;> simp_all
  rw [hadd, Nat.zero_add]
  have hjl : j < q * size := by have := (List.getElem?_eq_some_iff.1 hj).1; rw [rep_length, hx] at this; exact this
  have h2 : (rep k xs)[j]? = some v := by
    have h3 := rep_take hqk xs
    rw [hx] at h3
    rw [← h3, List.getElem?_take, if_pos hjl] at hj
    exact hj
  rw [← hL, List.getElem?_take] at h2
  split at h2
  · have h5 : k * size ≤ n * size := Nat.mul_le_mul_right _ hk
    have h6 : q * size ≤ k * size := Nat.mul_le_mul_right _ hqk
    exact (World.ownsRow.cellAt hoL j (by omega)).trans h2
  · cases h2
theorem Filled.belowAll {base : Nat} {e : TypeId} {size g n : Nat} {xs : List Value} {k : Nat} {w w' : World} (h : Filled base e size g n xs k w) (hb : Below w.heap.size w w') : Filled base e size g n xs k w' := by
  obtain ⟨L, hL, hoL⟩ := h
  exact ⟨L, hL, U.belowAll hoL hb⟩
theorem Filled.less {base : Nat} {e : TypeId} {size g n : Nat} {xs : List Value} {k q : Nat} {w : World} (h : Filled base e size g n xs (k + q) w) (hx : xs.length = size) : Filled base e size g n xs k w := by
  obtain ⟨L, hL, hoL⟩ := h
  refine ⟨L, ?_, hoL⟩
  have h3 := rep_take (Nat.le_add_right k q) xs
  rw [hx, ← hL, List.take_take, Nat.min_eq_left (Nat.mul_le_mul_right _ (Nat.le_add_right k q))] at h3
  exact h3
/-- the step of a row that is filled by its own front -/
theorem rep_step {n k m size : Nat} {xs L : List Value} (hx : xs.length = size) (hL : L.take (k * size) = rep k xs) (hmk : m ≤ k) (hfit : k + m ≤ n) (hl : L.length = n * size) :
    (L.take (k * size) ++ rep m xs ++ L.drop ((k + m) * size)).take ((k + m) * size) = rep (k + m) xs := by
  have h1 : (rep k xs ++ rep m xs).length = (k + m) * size := by rw [List.length_append, rep_length, rep_length, hx, Nat.add_mul]
  rw [hL, List.take_left' h1, rep_add]
end Go.Proofs.YtkggmcnocpgnbaaDoor.U
