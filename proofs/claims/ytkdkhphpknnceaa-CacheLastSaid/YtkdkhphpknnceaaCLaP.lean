/- The law's own two maps: glyphs by their numbers, and which were seen; the state of CacheLast's puts. -/
import Derived.Test.YtkdkhphpknnceaaCLaM
import Derived.Test.YtkdkhphpknnceaaHInt
namespace Go.Proofs.Ytkdkhphpknnceaa.C
open Go.RowKit Go.Maps Go.Proofs.Ytkdkhphpknnceaa.H
open Go.Proofs.Ytkdkhphpknnceaa.W (OwnI IntsIn inV infoInt)

/-! ### glyphs by their numbers -/
def sliD (a : Option Addr) (n c : Nat) : DataW Unit := .agg [match a with
  | none => .nil
  | some p => .agg [.lit (kz p.block), .lit (kz p.off)], .lit (kz n), .lit (kz c)]
def Plain (a : Option Addr) : Prop := ∀ p, a = some p → p.spot = none
def sliR : Value → Option (DataW Unit × List MemPlace)
  | .slice none n c => some (sliD none n c, [])
  | .slice (some ⟨b, o, none⟩) n c => some (sliD (some ⟨b, o, none⟩) n c, [])
  | _ => none
theorem kz_inj {n m : Nat} (h : kz (n : Int) = kz (m : Int)) : n = m := by unfold kz at h; injection h with _ h; omega
theorem sliR_mk {a : Option Addr} (h : Plain a) (n c : Nat) : sliR (.slice a n c) = some (sliD a n c, []) := by
  cases a with
  | none => rfl
  | some p =>
    obtain ⟨b, o, s⟩ := p
    have : s = none := h _ rfl
    subst this
    rfl
theorem sliR_inv {v : Value} {a : Option Addr} {n c : Nat} {ps : List MemPlace} (hp : Plain a) (h : sliR v = some (sliD a n c, ps)) : v = .slice a n c := by
  unfold sliR at h
  split at h
  · rename_i n2 c2
    injection h with h
    have h := congrArg Prod.fst h
    cases a with
    | none =>
      unfold sliD at h
      simp only [DataW.agg.injEq, List.cons.injEq, DataW.lit.injEq, and_true, true_and] at h
      rw [kz_inj h.1, kz_inj h.2]
    | some p => unfold sliD at h; simp at h
  · rename_i b o n2 c2
    injection h with h
    have h := congrArg Prod.fst h
    cases a with
    | none => unfold sliD at h; simp at h
    | some p =>
      obtain ⟨b', o', s⟩ := p
      have : s = none := hp _ rfl
      subst this
      unfold sliD at h
      simp only [DataW.agg.injEq, List.cons.injEq, DataW.lit.injEq, and_true, true_and] at h
      obtain ⟨⟨h1, h2⟩, h3, h4⟩ := h
      rw [kz_inj h1, kz_inj h2, kz_inj h3, kz_inj h4]
  · cases h
theorem zeroSli (w : World) : (zeroValue 28).run Try.prog w = .ok (.slice none 0 0) w := by kernel_rfl
theorem plain_none : Plain none := fun _ h => by cases h
/-- block mb is the map of these lines; their glyphs lie in the blocks Bs -/
def LastM (mb cnt : Nat) (U : List Ent) (Bs : List Nat) (w : World) : Prop :=
  (∃ D, w.ownsMap Try.prog 3 sliR mb cnt D ∧ ∀ e ∈ U, ∃ a c, D.atKey (kz e.1) (sliD none 0 0) = sliD a e.2.length c ∧ Plain a ∧ PairsIn .i32 a e.2.length c e.2 w ∧ ∀ p o, a = some ⟨p, o, none⟩ → p ∈ Bs) ∧ ∀ q ∈ Bs, q ≠ mb ∧ q < w.heap.size
theorem LastM.lt {mb cnt : Nat} {U : List Ent} {Bs : List Nat} {w : World} (h : LastM mb cnt U Bs w) : mb < w.heap.size := by
  obtain ⟨⟨D, h, -⟩, -⟩ := h
  exact h.lt
theorem LastM.made (w : World) : LastM w.heap.size 0 [] [] (w.alloc (.map #[] 0)) := ⟨⟨.map [], World.ownsMap_made _ _ _ _, fun e h => by cases h⟩, fun q h => by cases h⟩
theorem LastM.moved {mb cnt : Nat} {U : List Ent} {Bs : List Nat} {w w' : World} (h : LastM mb cnt U Bs w) (hs : w.heap.size ≤ w'.heap.size) (hm : w'.heap[mb]? = w.heap[mb]?) (hB : ∀ q ∈ Bs, w'.heap[q]? = w.heap[q]?) : LastM mb cnt U Bs w' := by
  obtain ⟨⟨D, ⟨es, clock, h1, h2⟩, h3⟩, h4⟩ := h
  refine ⟨⟨D, ⟨es, clock, hm.trans h1, h2⟩, fun e he => ?_⟩, fun q hq => ⟨(h4 q hq).1, Nat.lt_of_lt_of_le (h4 q hq).2 hs⟩⟩
  obtain ⟨a, c, e1, e2, e3, e4⟩ := h3 e he
  exact ⟨a, c, e1, e2, PairsIn.blocks e3 hs (fun b off ha _ => hB b (e4 b off ha)), e4⟩
theorem LastM.keptB {mb cnt : Nat} {U : List Ent} {Bs L : List Nat} {w w' : World} (h : LastM mb cnt U Bs w) (hk : KeepB L w w') (hm : mb ∉ L) (hB : ∀ q ∈ Bs, q ∉ L) : LastM mb cnt U Bs w' :=
  h.moved hk.size (hk.block mb h.lt hm) (fun q hq => hk.block q (h.2 q hq).2 (hB q hq))
theorem LastM.look {mb cnt : Nat} {U : List Ent} {Bs : List Nat} {w : World} (h : LastM mb cnt U Bs w) {e : Ent} (he : e ∈ U) (hi : -9223372036854775808 ≤ e.1 ∧ e.1 ≤ 9223372036854775807) :
    ∃ a c, (Instr.lookup 26 (.map (some mb)) (.int .i64 e.1) false).run Try.prog w = .ok (.slice a e.2.length c) w ∧ PairsIn .i32 a e.2.length c e.2 w := by
  obtain ⟨⟨D, hown, h3⟩, -⟩ := h
  obtain ⟨a, c, e1, e2, e3, -⟩ := h3 e he
  obtain ⟨v, ps, hrun, hv⟩ := hown.lookup (t := 26) (e := 28) keyedInt Try.underlying26 (zeroSli w) (zd := sliD none 0 0) (zp := []) rfl (key := .int .i64 e.1) (kl := kz e.1) (keyOf_int_mk Try.underlying3 (kz_wf hi))
  rw [e1] at hv
  rw [sliR_inv e2 hv] at hrun
  exact ⟨a, c, hrun, e3⟩
theorem LastM.put {mb cnt : Nat} {U : List Ent} {Bs : List Nat} {w : World} (h : LastM mb cnt U Bs w) {e : Ent} (hi : -9223372036854775808 ≤ e.1 ∧ e.1 ≤ 9223372036854775807) (hc : cnt ≤ 1000000) {a : Option Addr} {c : Nat} (ha : Plain a) (hp : PairsIn .i32 a e.2.length c e.2 w) {Cs : List Nat} (hC : ∀ p o, a = some ⟨p, o, none⟩ → p ∈ Cs) (hCs : ∀ q ∈ Cs, q ≠ mb ∧ q < w.heap.size) :
    ∃ w', (Instr.mapUpdate 26 (.map (some mb)) (.int .i64 e.1) (.slice a e.2.length c)).run Try.prog w = .ok () w' ∧ LastM mb (cnt + 1) (updU U e) (Bs ++ Cs) w' ∧ w.grownBy w' (some mb) := by
  obtain ⟨⟨D, hown, h3⟩, h4⟩ := h
  obtain ⟨w', hrun, hown', hg⟩ := hown.update (t := 26) (e := 28) keyedInt Try.underlying26 (by unfold maxLen; omega) (key := .int .i64 e.1) (val := .slice a e.2.length c) (kl := kz e.1) (d := sliD a e.2.length c) (ps := []) (keyOf_int_mk Try.underlying3 (kz_wf hi)) (sliR_mk ha _ _)
  have hb4 : ∀ q ∈ Bs ++ Cs, q ≠ mb ∧ q < w.heap.size := fun q hq => (List.mem_append.1 hq).elim (h4 q) (hCs q)
  have hkb : ∀ q ∈ Bs ++ Cs, w'.heap[q]? = w.heap[q]? := fun q hq => hg.block q (hb4 q hq).2 (fun e9 => (hb4 q hq).1 (by cases e9; rfl))
  refine ⟨w', hrun, ⟨⟨_, hown', fun y hy => ?_⟩, fun q hq => ⟨(hb4 q hq).1, Nat.lt_of_lt_of_le (hb4 q hq).2 hg.size⟩⟩, hg⟩
  rcases List.mem_append.1 hy with hy | hy
  · obtain ⟨hy1, hy2⟩ := dropC_out hy
    obtain ⟨a1, c1, e1, e2, e3, e4⟩ := h3 y hy1
    exact ⟨a1, c1, by rw [atKey_put_other (kz_ne hy2)]; exact e1, e2, PairsIn.blocks e3 hg.size (fun b off hab _ => hkb b (List.mem_append_left _ (e4 b off hab))), fun p o h => List.mem_append_left _ (e4 p o h)⟩
  · obtain rfl : y = e := by simpa using hy
    exact ⟨a, c, atKey_put_same (hown.isMap) (kz_key y.1) _ _, ha, PairsIn.blocks hp hg.size (fun b off hab _ => hkb b (List.mem_append_right _ (hC b off hab))), fun p o h => List.mem_append_right _ (hC p o h)⟩
/-! ### which were seen -/
def booR : Value → Option (DataW Unit × List MemPlace)
  | .bool b => some (.lit (.bool b), [])
  | _ => none
theorem booR_inv {v : Value} {b : Bool} {ps : List MemPlace} (h : booR v = some (.lit (.bool b), ps)) : v = .bool b := by
  unfold booR at h
  split at h
  · injection h with h
    have h := congrArg Prod.fst h
    simp only [DataW.lit.injEq, Lit.bool.injEq] at h
    rw [h]
  · cases h
theorem zeroBoo (w : World) : (zeroValue 4).run Try.prog w = .ok (.bool false) w := by kernel_rfl
/-- block s is the map of these numbers, all true -/
def SeenM (s : Nat) (ks : List Int) (w : World) : Prop := ∃ D, w.ownsMap Try.prog 3 booR s ks.length D ∧ (∀ i, has D (kz i) = ks.any (· == i)) ∧ (∀ k ∈ ks, D.atKey (kz k) (.lit (.bool false)) = .lit (.bool true)) ∧ size D = ks.length
theorem SeenM.lt {s : Nat} {ks : List Int} {w : World} (h : SeenM s ks w) : s < w.heap.size := by
  obtain ⟨D, h, -⟩ := h
  exact h.lt
theorem SeenM.made (w : World) : SeenM w.heap.size [] (w.alloc (.map #[] 0)) := ⟨.map [], World.ownsMap_made _ _ _ _, fun _ => rfl, (fun k h => by cases h), rfl⟩
theorem SeenM.below {s : Nat} {ks : List Int} {w w' : World} (h : SeenM s ks w) (hb : Below w.heap.size w w') : SeenM s ks w' := by
  obtain ⟨D, ⟨es, clock, h1, h2⟩, h3⟩ := h
  exact ⟨D, ⟨es, clock, (hb.block s (Array.getElem?_eq_some_iff.1 h1).1).trans h1, h2⟩, h3⟩
theorem SeenM.look {s : Nat} {ks : List Int} {w : World} (h : SeenM s ks w) {i : Int} (hi : -9223372036854775808 ≤ i ∧ i ≤ 9223372036854775807) :
    (Instr.lookup 33 (.map (some s)) (.int .i64 i) false).run Try.prog w = .ok (.bool (ks.any (· == i))) w := by
  obtain ⟨D, hown, h1, h2, -⟩ := h
  obtain ⟨v, ps, hrun, hv⟩ := hown.lookup (t := 33) (e := 4) keyedInt Try.underlying33 (zeroBoo w) (zd := .lit (.bool false)) (zp := []) rfl (key := .int .i64 i) (kl := kz i) (keyOf_int_mk Try.underlying3 (kz_wf hi))
  have hat : D.atKey (kz i) (.lit (.bool false)) = .lit (.bool (ks.any (· == i))) := by
    cases hb : ks.any (· == i) with
    | false => exact atKey_of_not_has (by rw [h1, hb]) _
    | true =>
      obtain ⟨k, hk, e⟩ := List.any_eq_true.1 hb
      obtain rfl : k = i := by simpa using e
      exact h2 k hk
  rw [hat] at hv
  rw [booR_inv hv] at hrun
  exact hrun
theorem SeenM.len {s : Nat} {ks : List Int} {w : World} (h : SeenM s ks w) (ty : TypeId) : (Builtin.len_ #[33] ty #[.map (some s)]).run Try.prog w = .ok (.int .i64 (ks.length : Int)) w := by
  obtain ⟨D, hown, -, -, hM⟩ := h
  rw [hown.len Try.underlying33, hM]
theorem SeenM.put {s : Nat} {ks : List Int} {w : World} (h : SeenM s ks w) {i : Int} (hi : -9223372036854775808 ≤ i ∧ i ≤ 9223372036854775807) (hn : ∀ k ∈ ks, k ≠ i) (hl : ks.length ≤ 1000000) :
    ∃ w', (Instr.mapUpdate 33 (.map (some s)) (.int .i64 i) (.bool true)).run Try.prog w = .ok () w' ∧ SeenM s (i :: ks) w' ∧ w.grownBy w' (some s) := by
  obtain ⟨D, hown, h1, h2, h3⟩ := h
  obtain ⟨w', hrun, hown', hg⟩ := hown.update (t := 33) (e := 4) keyedInt Try.underlying33 (by unfold maxLen; omega) (key := .int .i64 i) (val := .bool true) (kl := kz i) (d := .lit (.bool true)) (ps := []) (keyOf_int_mk Try.underlying3 (kz_wf hi)) rfl
  have hT := hown.tidy keyedInt
  have hno : Maps.has D (kz i) = false := by
    rw [h1, List.any_eq_false]
    exact fun x hx => by simpa using hn x hx
  refine ⟨w', hrun, ⟨_, hown', fun j => ?_, fun k hk => ?_, ?_⟩, hg⟩
  · by_cases e : j = i
    · subst e
      rw [has_put_same hT.isMap (kz_key j)]
      simp
    · rw [has_put_other (kz_ne e), h1, List.any_cons]
      simp [Ne.symm e]
  · by_cases e : k = i
    · subst e
      exact atKey_put_same hT.isMap (kz_key k) _ _
    · rw [atKey_put_other (kz_ne e)]
      exact h2 k ((List.mem_cons.1 hk).resolve_left e)
  · rw [size_put hT, hno, h3]
    simp
/-! ### an own slice of numbers, one more -/
theorem wpList_append_i {ops : Array Oper} {rest : List Oper} {o : Oper} {z : Act} {w : World} {Q : Exit → Act → World → Prop} (hgd : o.guard = none) (s x : Operand)
    (ho : o.op = .call { callee := .builtin .append, args := #[s, x], argTypes := #[27, 27] }) (hty : o.type = 27)
    (base : Nat) (v : Value) (xs : List Int) (a : Option Addr) (m c : Nat) (zs : List Int) (hs : z.eval s = v) (hxv : z.eval x = .slice a m c) (hown : OwnI base v xs w) (h : IntsIn a m zs w) (hnil : a = none → c = 0) (hx : xs.length ≤ 1000000) (hz : zs.length ≤ 1000000) (hbase : base ≤ w.heap.size)
    (hK : ∀ v' w', OwnI base v' (xs ++ zs) w' → w.grownBy w' v.ownBlock → (∀ q, v'.ownBlock = some q → v.ownBlock = some q ∨ w.heap.size ≤ q) → wpList Try.prog ops Q rest (z.put o.dst v') w') : wpList Try.prog ops Q (o :: rest) z w :=
  wpList_plain hgd fun _ hK' => by
    obtain ⟨v', w', hr, h1, h2, h3⟩ := run_append_i base v xs a m c zs w hown h hnil hx hz hbase
    unfold Oper.wp execOp
    simp only [ho, hty, resolve, invoke, builtin, Sem.run_bind, Sem.run_pure, Result.andThen_ok, List.map_toArray, List.map_cons, List.map_nil, hs, hxv, hr]
    exact hK' _ _ (hK v' w' h1 h2 h3)
end Go.Proofs.Ytkdkhphpknnceaa.C
