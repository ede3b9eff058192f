/- Append of pairs upon pairs of our own; a slice's copy; Spans, Clone, Has, Len. -/
import Derived.Test.YtgagkmlkoeceiaaMerged5
namespace Go.Proofs.Ytgagkmlkoeceiaa.H
open Go.RowKit

/-- what an append leaves -/
structure GrewP (rk : IntKind) (T : TypeId) (base : Nat) (v : Value) (l : List (Int × Int)) (w : World) (v' : Value) (w' : World) : Prop where
  own : OwnP rk T base v' l w'
  grown : w.grownBy w' v.ownBlock
  block : ∀ q, v'.ownBlock = some q → v.ownBlock = some q ∨ w.heap.size ≤ q
theorem run_append_p {rk : IntKind} {t T : TypeId} {bytes : Nat} (hI : PairT rk t T bytes) (base : Nat) (v : Value) (l : List (Int × Int)) (a : Option Addr) (m c : Nat) (l2 : List (Int × Int)) (w : World) (hown : OwnP rk T base v l w) (h : PairsIn rk a m c l2 w) (hnil : a = none → c = 0) (h1 : (l.length : Int) ≤ 1000000) (h2 : (l2.length : Int) ≤ 1000000) (hbase : base ≤ w.heap.size) :
    ∃ v' w', (Builtin.append_ #[t, t] t #[v, .slice a m c]).run Try.prog w = .ok v' w' ∧ GrewP rk T base v (l ++ l2) w v' w' := by
  obtain ⟨i0, hi, hz0, hz1, hz2⟩ := info_parts hI.info
  have hl := h.len
  cases a with
  | none =>
    have h0 : l2 = [] := h.at_.resolve_right (by rintro ⟨b, off, e, -⟩; cases e)
    subst h0
    obtain rfl : m = 0 := hl
    obtain ⟨hr, g⟩ := U.append_none (P := Try.prog) w t t T i0 2 c hI.slice hi base v l.length (flatP rk l) hown (hnil rfl)
    exact ⟨v, w, hr, by rw [List.append_nil]; exact g.own, g.grown, g.block⟩
  | some ad =>
    obtain ⟨b, off, sp⟩ := ad
    have hnews : ∀ j u, (flatP rk l2)[j]? = some u → w.cell? ((⟨b, off, sp⟩ : Addr).add j) = some u := by
      rcases h.at_ with rfl | ⟨b', off', e, h3⟩
      · intro j u hj; simp [flatP] at hj
      · obtain ⟨rfl, rfl, rfl⟩ : b = b' ∧ off = off' ∧ sp = none := by injection e with e; injection e with e1 e2 e3; exact ⟨e1, e2, e3⟩
        exact h.news
    have hb := hI.small
    obtain ⟨v', w', hr, g⟩ := U.append_grew (P := Try.prog) w t t T i0 _ 2 bytes hI.slice hi hz0 hz1 hz2 rfl (by decide) base v l.length (flatP rk l) hown ⟨b, off, sp⟩ m c (flatP rk l2) (by rw [flatP_len, hl]) hnews (flatP_one rk l2) (by unfold maxLen; omega)
      (Nat.le_trans (Nat.mul_le_mul (show l.length + m ≤ 2000000 by omega) hb) (by decide)) hbase
    refine ⟨v', w', hr, ?_, g.grown, g.block⟩
    have := g.own
    unfold OwnP
    rw [flatP_append, List.length_append, ← hl]
    exact this
theorem wp_append_p {rk : IntKind} {t T : TypeId} {bytes : Nat} (hI : PairT rk t T bytes) {o : Oper} {z : Act} {w : World} {K : Act → World → Prop} {Q : Exit → Act → World → Prop} (s x : Operand)
    (ho : o.op = .call { callee := .builtin .append, args := #[s, x], argTypes := #[t, t] }) (hty : o.type = t)
    (base : Nat) (v : Value) (l : List (Int × Int)) (a : Option Addr) (m c : Nat) (l2 : List (Int × Int)) (hs : z.eval s = v) (hxv : z.eval x = .slice a m c) (hown : OwnP rk T base v l w) (h : PairsIn rk a m c l2 w) (hnil : a = none → c = 0) (h1 : (l.length : Int) ≤ 1000000) (h2 : (l2.length : Int) ≤ 1000000) (hbase : base ≤ w.heap.size)
    (hK : ∀ v' w', GrewP rk T base v (l ++ l2) w v' w' → K (z.put o.dst v') w') : o.wp Try.prog z w K Q := by
  obtain ⟨v', w', hr, k1⟩ := run_append_p hI base v l a m c l2 w hown h hnil h1 h2 hbase
  unfold Oper.wp execOp
  simp only [ho, hty, resolve, invoke, builtin, Sem.run_bind, Sem.run_pure, Result.andThen_ok, List.map_toArray, List.map_cons, List.map_nil, hs, hxv, hr]
  exact hK v' w' k1
theorem wpList_append_p {rk : IntKind} {t T : TypeId} {bytes : Nat} (hI : PairT rk t T bytes) {ops : Array Oper} {rest : List Oper} {o : Oper} {z : Act} {w : World} {Q : Exit → Act → World → Prop} (hgd : o.guard = none) (s x : Operand)
    (ho : o.op = .call { callee := .builtin .append, args := #[s, x], argTypes := #[t, t] }) (hty : o.type = t)
    (base : Nat) (v : Value) (l : List (Int × Int)) (a : Option Addr) (m c : Nat) (l2 : List (Int × Int)) (hs : z.eval s = v) (hxv : z.eval x = .slice a m c) (hown : OwnP rk T base v l w) (h : PairsIn rk a m c l2 w) (hnil : a = none → c = 0) (h1 : (l.length : Int) ≤ 1000000) (h2 : (l2.length : Int) ≤ 1000000) (hbase : base ≤ w.heap.size)
    (hK : ∀ v' w', GrewP rk T base v (l ++ l2) w v' w' → wpList Try.prog ops Q rest (z.put o.dst v') w') : wpList Try.prog ops Q (o :: rest) z w :=
  wpList_plain hgd fun _ hK' => by
    obtain ⟨v', w', hr, k1⟩ := run_append_p hI base v l a m c l2 w hown h hnil h1 h2 hbase
    unfold Oper.wp execOp
    simp only [ho, hty, resolve, invoke, builtin, Sem.run_bind, Sem.run_pure, Result.andThen_ok, List.map_toArray, List.map_cons, List.map_nil, hs, hxv, hr]
    exact hK' _ _ (hK v' w' k1)
/-- a slice of spans of its own, in new memory -/
def SpPost (l : List Sp) (w : World) (e : Ending) (w' : World) : Prop := ∃ v, e = .returned v ∧ OwnP .i64 81 w.heap.size v l w' ∧ Below w.heap.size w w'
set_option maxRecDepth 100000 in
set_option maxHeartbeats 1000000 in
theorem clone_any (a : Option Addr) (n c : Nat) (l : List Sp) (w : World) (hI : PairsIn .i64 a n c l w) (hnil : a = none → c = 0) (hn : (n : Int) ≤ 1000000) :
    Calls Try.prog 41 #[.slice a n c] w (SpPost l w) := by
  obtain ⟨P, hP⟩ : ∃ P, SpPost l w = P := ⟨_, rfl⟩
  rw [hP]
  have HP := Lib.hid hP
  cases a with
  | none =>
    have h0 : l = [] := hI.at_.resolve_right (by rintro ⟨b, off, e, -⟩; cases e)
    obtain rfl : c = 0 := hnil rfl
    obtain rfl : n = 0 := by have := hI.fit; omega
    have hend : Hid (P (.returned (.slice none 0 0)) w) := Lib.hid (by rw [← HP.out, h0]; exact ⟨_, rfl, OwnP.nil _ _ _ _, Below.refl _ _⟩)
    clear hP hI h0 hnil
    have qn : ∀ (w : World), (binOp .eql 67 (.slice none 0 0) (.slice none 0 0)).run Try.prog w = .ok (.bool true) w := fun w => Lib.run_eql_slice_nil w _ _ none 0 0 0 0 Try.underlying67
    go_enter Try.func41, Try.ntmps41
    go_wp2_with fail
    exact hend.out
  | some ad =>
    have hb1 : Below w.heap.size w (w.alloc (.cells #[] 81)) := (Below.refl _ _).alloc (Nat.le_refl _) _
    have HO1 := Lib.hid (OwnP.lit .i64 81 w w.heap.size (Nat.le_refl _))
    have HI1 := Lib.hid (hI.belowAll hb1)
    have HS1 := Lib.hid hb1.size
    have HLn : Hid ((l.length : Int) ≤ 1000000) := Lib.hid (by rw [← hI.len]; omega)
    have HB1 := Lib.hid hb1
    clear hP hb1 hI hnil
    have qn : ∀ (w : World), (binOp .eql 67 (.slice (some ad) n c) (.slice none 0 0)).run Try.prog w = .ok (.bool false) w := fun w => Lib.run_eql_slice_nil w _ _ (some ad) n c 0 0 Try.underlying67
    go_enter Try.func41, Try.ntmps41
    go_wp2_with (refine wpList_append_p spanT rfl _ _ rfl rfl w.heap.size _ [] (some ad) n c l rfl rfl HO1.out HI1.out (by intro e; cases e) (by simp) HLn.out HS1.out ?_)
    intro v' w' hg
    have HE : Hid (P (.returned v') w') := Lib.hid (by rw [← HP.out]; exact ⟨v', rfl, by simpa using hg.own, HB1.out.grown hg.grown HS1.out (fun q hq => by cases hq; exact Nat.le_refl _)⟩)
    clear hg
    go_wp2
    exact HE.out
set_option maxRecDepth 100000 in
set_option maxHeartbeats 1000000 in
theorem spans_any {b : Nat} {M : List Nat} {l : List Sp} {vl : Value} {w : World} (h : SetAt b M l vl w) (hl : (l.length : Int) ≤ 1000000) :
    Calls Try.prog 33 #[.pointer (some ⟨b, 0, none⟩)] w (SpPost l w) := by
  obtain ⟨P, hP⟩ : ∃ P, SpPost l w = P := ⟨_, rfl⟩
  rw [hP]
  obtain ⟨N, hN⟩ : ∃ N, l.length = N := ⟨_, rfl⟩
  obtain ⟨a, cp, rfl, hI, -, hA⟩ := h.own.shape
  have HC := Lib.hid (clone_any a _ cp l w hI hA hl)
  have hc0 := h.c0
  have hbl := h.b_lt
  have HP := Lib.hid hP
  rw [hN] at hc0 HC
  clear hP h hl hN hI hA
  go_enter Try.func33, Try.ntmps33
  go_wp2_with fail
  refine HC.out.mono ?_
  rintro e w1 ⟨v, rfl, h1, h2⟩
  have HE : Hid (P (.returned v) w1) := Lib.hid (by rw [← HP.out]; exact ⟨v, rfl, h1, h2⟩)
  clear h1 h2
  go_wp2
  exact HE.out
theorem St.box {l : List Sp} {v : Value} {base : Nat} {w : World} (h : OwnP .i64 81 base v l w) : ∃ M, St w.heap.size M l (w.alloc (.cells #[v] 84)) ∧ ∀ p ∈ M, base ≤ p ∨ w.heap.size ≤ p := by
  have h' := (OwnP.alloc h (.cells #[v] 84)).weaken (base' := 0) (Nat.zero_le _)
  refine ⟨w.heap.size :: v.ownBlock.toList, ⟨v, heap_alloc_new w _, h', List.mem_cons_self, fun q hq => by rw [hq]; simp, fun p hp => ?_⟩, fun p hp => ?_⟩
  · rcases List.mem_cons.1 hp with rfl | hp
    · simp
    · have := (h.ownBlock p (by simpa using hp)).2; rw [World.size_alloc]; omega
  · rcases List.mem_cons.1 hp with rfl | hp
    · exact .inr (Nat.le_refl _)
    · exact .inl (h.ownBlock p (by simpa using hp)).1
/-- is a number in it? -/
def hasS (n : Int) (l : List Sp) : Bool := l.any fun x => decide (x.1 ≤ n) && decide (n < x.2)
theorem hasS_mem (n : Int) (l : List Sp) : hasS n l = true ↔ mem n l := by
  induction l with
  | nil => simp [hasS, mem]
  | cons x l ih =>
    have : hasS n (x :: l) = ((decide (x.1 ≤ n) && decide (n < x.2)) || hasS n l) := rfl
    rw [this, Bool.or_eq_true, ih]
    simp [mem, inx]
end Go.Proofs.Ytgagkmlkoeceiaa.H
