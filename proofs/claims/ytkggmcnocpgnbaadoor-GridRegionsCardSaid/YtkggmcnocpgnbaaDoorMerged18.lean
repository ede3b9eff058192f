/- The document's grid: what Move makes of rows. -/
import Derived.Test.YtkggmcnocpgnbaaDoorJSet
import Derived.Test.YtkggmcnocpgnbaaDoorMerged11
import Derived.Test.YtkggmcnocpgnbaaDoorKFill
import Derived.Test.YtkggmcnocpgnbaaDoorMerged16
import Derived.Test.YtkggmcnocpgnbaaDoorMerged12
import Derived.Lib.QuietBelow
import Derived.BigQuiet
namespace Go.Proofs.YtkggmcnocpgnbaaDoor.K
open Go.RowKit

/-- a row more, upon rows of our own; where they lie then -/
theorem wpList_append_one {t T : TypeId} {bytes : Nat} (hI : RvT t T bytes) {ops : Array Oper} {rest : List Oper} {o : Oper} {z : Act} {w : World} {Q : Exit → Act → World → Prop} (hgd : o.guard = none) (s x : Operand)
    (ho : o.op = .call { callee := .builtin .append, args := #[s, x], argTypes := #[t, t] }) (hty : o.type = t)
    (base : Nat) (v : Value) (us : List Rv) (p : Nat) (u : Rv) (hs : z.eval s = v) (hxv : z.eval x = .slice (some ⟨p, 0, none⟩) 1 1) (hown : OwnV T base v us w) (hp : RoB T p (.slice u.a u.n u.c) u.b w) (h1 : us.length ≤ 1000) (hbase : base ≤ w.heap.size)
    (hK : ∀ v' w', OwnV T base v' (us ++ [u]) w' → w.grownBy w' v.ownBlock → (∀ q, v'.ownBlock = some q → v.ownBlock = some q ∨ w.heap.size ≤ q) → wpList Tryd.prog ops Q rest (z.put o.dst v') w') : wpList Tryd.prog ops Q (o :: rest) z w :=
  wpList_plain hgd fun _ hK' => by
    have hin : RvsIn (some ⟨p, 0, none⟩) 1 1 [u] w := ⟨rfl, Nat.le_refl _, by decide, .inr ⟨p, 0, rfl, hp.lt, fun i d hi => by
      have h0 : i = 0 := by have := (List.getElem?_eq_some_iff.1 hi).1; simp at this; omega
      subst h0
      obtain rfl : u = d := by simpa using hi
      exact ⟨hp.c0, hp.c1⟩⟩⟩
    obtain ⟨v', w', hr, k1, k2⟩ := run_append_rows hI base v us (some ⟨p, 0, none⟩) 1 1 [u] w hown hin (fun e => by cases e) (by omega) (by simp) hbase
    unfold Oper.wp execOp
    simp only [ho, hty, resolve, invoke, builtin, Sem.run_bind, Sem.run_pure, Result.andThen_ok, List.map_toArray, List.map_cons, List.map_nil, hs, hxv, hr]
    exact hK' _ _ (hK v' w' k1 k2.grown k2.block)
theorem upd_succ {us : List Rv} {t s i : Nat} {u : Rv} (ht : t + i < us.length) (hu : us[s + i]? = some u) : (upd us t s i).set (t + i) u = upd us t s (i + 1) := by
  have hs := (List.getElem?_eq_some_iff.1 hu).1
  unfold upd
  have hl : (us.take t ++ (us.drop s).take i).length = t + i := by rw [List.length_append, List.length_take, List.length_take, List.length_drop]; omega
  rw [List.set_append_right _ _ (by rw [hl]; exact Nat.le_refl _), hl, Nat.sub_self, List.drop_eq_getElem_cons ht, List.set_cons_zero, List.take_add_one, List.getElem?_drop, hu, show t + (i + 1) = t + i + 1 by omega]
  simp
theorem upd_after {us : List Rv} {t s i k : Nat} (h : t + i ≤ us.length) (h2 : s + i ≤ us.length) (hk : t + i ≤ k) : (upd us t s i)[k]? = us[k]? := by
  unfold upd
  have hl : (us.take t ++ (us.drop s).take i).length = t + i := by rw [List.length_append, List.length_take, List.length_take, List.length_drop]; omega
  rw [List.getElem?_append_right (by rw [hl]; exact hk), hl, List.getElem?_drop]
  congr 1; omega
theorem upd_before {us : List Rv} {t s i k : Nat} (h : t ≤ us.length) (hk : k < t) : (upd us t s i)[k]? = us[k]? := by
  unfold upd
  rw [List.append_assoc, List.getElem?_append_left (by rw [List.length_take]; omega), List.getElem?_take, if_pos hk]
/-- the last one comes ahead of those that went down already -/
theorem upd_pre {us : List Rv} {y m : Nat} {u : Rv} (hy : 1 ≤ y) (hm : y + m < us.length) (hu : us[y - 1]? = some u) : (upd us (y + 1) y m).set y u = upd us y (y - 1) (m + 1) := by
  obtain ⟨z, rfl⟩ : ∃ z, y = z + 1 := ⟨y - 1, by omega⟩
  rw [Nat.add_sub_cancel] at hu ⊢
  have hz := (List.getElem?_eq_some_iff.1 hu)
  obtain ⟨hzl, hzu⟩ := hz
  unfold upd
  have e1 : us.take (z + 1 + 1) = us.take (z + 1) ++ [us[z + 1]'(by omega)] := by rw [List.take_add_one, List.getElem?_eq_getElem (by omega)]; rfl
  rw [e1, List.append_assoc, List.append_assoc, List.set_append_right _ _ (by rw [List.length_take]; omega), List.length_take, Nat.min_eq_left (by omega), Nat.sub_self, List.singleton_append, List.set_cons_zero]
  have e2 : (us.drop z).take (m + 1) = u :: (us.drop (z + 1)).take m := by rw [List.drop_eq_getElem_cons hzl, List.take_succ_cons, hzu]
  rw [e2, show z + 1 + 1 + m = z + 1 + (m + 1) by omega, List.append_assoc]
  rfl
theorem emp_one {us : List Rv} {t : Nat} (u : Rv) (h : t < us.length) : us.set t u = emp us t 1 u := by
  have h2 := emp_succ (us := us) (t := t) (i := 0) u (by omega)
  rw [emp_zero, Nat.add_zero] at h2
  exact h2
theorem up_step {us : List Rv} {T B j : Nat} (u : Rv) (hTB : T ≤ B) (hB : B < us.length) (hj : j ≤ B - T) : (upd (D.inL us T B fun R => D.upR R j u) T (T + 1) (B - T)).set B u = D.inL us T B fun R => D.upR R (j + 1) u := by
  have hl := D.inL_length hTB hB (f := fun R => D.upR R j u) (fun R => D.upR_length R _ _)
  have h1 := up_list (us := D.inL us T B fun R => D.upR R j u) (t := T) (m := B + 1 - T) (n := 1) u (by omega) (by omega) (by rw [hl]; omega)
  rw [show B + 1 - T - 1 = B - T by omega, show T + (B - T) = B by omega, show T + (B + 1 - T) - 1 = B by omega] at h1
  rw [emp_one u (by rw [upd_length (by rw [hl]; omega) (by rw [hl]; omega), hl]; exact hB), h1, D.inL_comp hTB hB (fun R => D.upR_length R _ _)]
  unfold D.inL
  dsimp only
  rw [D.upR_add _ _ _ _ (by rw [D.region_length hTB hB]; omega)]
theorem down_step {us : List Rv} {T B j : Nat} (u : Rv) (hTB : T ≤ B) (hB : B < us.length) (hj : j ≤ B - T) : (upd (D.inL us T B fun R => D.downR R j u) (T + 1) T (B - T)).set T u = D.inL us T B fun R => D.downR R (j + 1) u := by
  have hl := D.inL_length hTB hB (f := fun R => D.downR R j u) (fun R => D.downR_length R _ _)
  have h1 := down_list (us := D.inL us T B fun R => D.downR R j u) (t := T) (m := B + 1 - T) (n := 1) u (by omega) (by omega) (by rw [hl]; omega)
  rw [show B + 1 - T - 1 = B - T by omega, show T + (B + 1 - T) - 1 = B by omega] at h1
  rw [emp_one u (by rw [upd_length (by rw [hl]; omega) (by rw [hl]; omega), hl]; omega), h1, D.inL_comp hTB hB (fun R => D.downR_length R _ _)]
  unfold D.inL
  dsimp only
  rw [D.downR_add _ _ _ _ (by rw [D.region_length hTB hB]; omega)]
theorem up_first {us : List Rv} {T B j : Nat} (u : Rv) (hTB : T ≤ B) (hB : B < us.length) (hj : j ≤ B - T) : (D.inL us T B fun R => D.upR R j u)[T]? = us[T + j]? := by
  have hr := D.region_length (l := us) hTB hB
  have hm : min T us.length = T := Nat.min_eq_left (by omega)
  unfold D.inL D.upR
  dsimp only
  rw [List.append_assoc, List.getElem?_append_right (by rw [List.length_take]; omega), List.length_take, hm, Nat.sub_self, List.append_assoc, List.getElem?_append_left (by rw [List.length_drop, hr]; omega), List.getElem?_drop, List.getElem?_drop, List.getElem?_take, if_pos (by omega)]
  congr 1
theorem down_last {us : List Rv} {T B j : Nat} (u : Rv) (hTB : T ≤ B) (hB : B < us.length) (hj : j ≤ B - T) : (D.inL us T B fun R => D.downR R j u)[B]? = us[B - j]? := by
  have hr := D.region_length (l := us) hTB hB
  unfold D.inL D.downR
  dsimp only
  rw [hr, Nat.min_eq_left (by omega)]
  rw [List.append_assoc, List.getElem?_append_right (by rw [List.length_take]; omega), List.length_take, Nat.min_eq_left (by omega), List.append_assoc, List.getElem?_append_right (by rw [List.length_replicate]; omega), List.length_replicate, List.getElem?_append_left (by rw [List.length_take, hr]; omega), List.getElem?_take, if_pos (by omega), List.getElem?_drop, List.getElem?_take, if_pos (by omega)]
  congr 1; omega
theorem gone_up {α : Type} {us : List α} {T B j : Nat} {u : α} (hj : T + j ≤ B) (hu : us[T + j]? = some u) : ((us.take (B + 1)).drop T).take (j + 1) = ((us.take (B + 1)).drop T).take j ++ [u] := by
  rw [List.take_add_one, List.getElem?_drop, List.getElem?_take, if_pos (by omega), hu]; rfl
theorem gone_down {α : Type} {us : List α} {T B j : Nat} {u : α} (hTB : T ≤ B) (hB : B < us.length) (hj : T + j ≤ B) (hu : us[B - j]? = some u) : (((us.take (B + 1)).drop T).drop (B + 1 - T - (j + 1))).reverse = (((us.take (B + 1)).drop T).drop (B + 1 - T - j)).reverse ++ [u] := by
  have hr := D.region_length hTB hB
  obtain ⟨hl, hu⟩ := List.getElem?_eq_some_iff.1 hu
  have h : ((us.take (B + 1)).drop T)[B + 1 - T - (j + 1)]? = some u := by
    rw [List.getElem?_drop, List.getElem?_take, if_pos (by omega), show T + (B + 1 - T - (j + 1)) = B - j by omega, List.getElem?_eq_getElem hl, hu]
  obtain ⟨h1, h2⟩ := List.getElem?_eq_some_iff.1 h
  rw [List.drop_eq_getElem_cons h1, h2, List.reverse_cons, show B + 1 - T - (j + 1) + 1 = B + 1 - T - j by omega]
/-- what Move has come to -/
structure MvI (rb q pk n c5 W0 : Nat) (sv : Value) (ub : Rv) (W : Nat) (s : Int) (us gs : List Rv) (gv : Value) (w wr : World) : Prop where
  own : OwnV 38 (rb + 2) (.slice (some ⟨q, 0, none⟩) n c5) us wr
  gone : OwnV 38 (rb + 2) gv gs wr
  ne : ∀ k, gv.ownBlock = some k → k ≠ q ∧ k ≠ pk
  bk : RoB 38 pk (.slice ub.a ub.n ub.c) ub.b wr
  bv : RowV .i64 ub.val (blankR W s) wr
  bt : ∀ b off, ub.a = some ⟨b, off, none⟩ → rb ≤ b ∧ ∃ cs, wr.heap[b]? = some (.cells cs 107 (0, 0))
  g1 : GrB rb W0 sv wr
  g2 : GrB (rb + 1) 0 (.slice none 0 0) wr
  b : Below rb w wr
theorem MvI.bne {rb q pk n c5 W0 W : Nat} {sv : Value} {ub : Rv} {s : Int} {us gs : List Rv} {gv : Value} {w wr : World} (h : MvI rb q pk n c5 W0 sv ub W s us gs gv w wr) {k : Nat} {cs : Array Value} (hk : wr.heap[k]? = some (.cells cs 38 (0, 0))) : ∀ b off, ub.a = some ⟨b, off, none⟩ → b ≠ k := fun b off e e' => by
  obtain ⟨_, cs', h5⟩ := h.bt b off e
  rw [e', hk] at h5
  injection h5 with h5
  injection h5 with h5 h6
  exact absurd h6 (by decide)
/-- rows are stored -/
theorem MvI.stored {rb q pk n c5 W0 W : Nat} {sv : Value} {ub : Rv} {s : Int} {us us' gs : List Rv} {gv : Value} {w wr w5 : World} (h : MvI rb q pk n c5 W0 sv ub W s us gs gv w wr) (hq : rb + 2 ≤ q) (hpk : pk ≠ q) (ho : OwnV 38 (rb + 2) (.slice (some ⟨q, 0, none⟩) n c5) us' w5) (hk : KeepB [q] wr w5) : MvI rb q pk n c5 W0 sv ub W s us' gs gv w w5 := by
  obtain ⟨cs, hqb, -, -⟩ := U.own_type h.own (g := q) rfl
  have hb1 : ∀ i, i ≠ q → i < wr.heap.size → w5.heap[i]? = wr.heap[i]? := fun i hi hl => hk.block i hl (fun e => hi (List.mem_singleton.1 e))
  have hbb : ∀ b off, ub.a = some ⟨b, off, none⟩ → b < wr.heap.size → w5.heap[b]? = wr.heap[b]? := fun b off e hl => hb1 b (h.bne hqb b off e) hl
  refine ⟨ho, ?_, h.ne, (hb1 pk hpk h.bk.lt).trans h.bk, h.bv.moved hk.size hbb, fun b off e => ?_, (hb1 rb (by omega) h.g1.lt).trans h.g1, (hb1 (rb + 1) (by omega) h.g2.lt).trans h.g2, hk.below (fun i hi => by rw [List.mem_singleton.1 hi]; omega) h.b (by have := h.g1.lt; omega)⟩
  · refine ⟨h.gone.1, ?_⟩
    rcases h.gone.2 with h0 | ⟨g', c', cur, he, hbase, hgb, hc, hmx, hsz, ht⟩
    · exact .inl h0
    · exact .inr ⟨g', c', cur, he, hbase, (hb1 g' (h.ne g' (by rw [he]; rfl)).1 (Array.getElem?_eq_some_iff.1 hgb).1).trans hgb, hc, hmx, hsz, ht⟩
  · obtain ⟨h1, cs', h2⟩ := h.bt b off e
    exact ⟨h1, cs', (hbb b off e (Array.getElem?_eq_some_iff.1 h2).1).trans h2⟩
/-- blocks are laid -/
theorem MvI.laid {rb q pk n c5 W0 W : Nat} {sv : Value} {ub : Rv} {s : Int} {us gs : List Rv} {gv : Value} {w wr w5 : World} (h : MvI rb q pk n c5 W0 sv ub W s us gs gv w wr) (hb : Below wr.heap.size wr w5) : MvI rb q pk n c5 W0 sv ub W s us gs gv w w5 :=
  ⟨h.own.belowAll hb, h.gone.belowAll hb, h.ne, h.bk.belowAll hb, h.bv.belowAll hb, (fun b off e => by
    obtain ⟨h1, cs', h2⟩ := h.bt b off e
    exact ⟨h1, cs', (hb.block b (Array.getElem?_eq_some_iff.1 h2).1).trans h2⟩), h.g1.belowAll hb, h.g2.belowAll hb, h.b.trans (hb.mono (by have := h.g1.lt; omega))⟩
/-- a row went -/
theorem MvI.went {rb q pk n c5 W0 W : Nat} {sv : Value} {ub : Rv} {s : Int} {us gs gs' : List Rv} {gv gv' : Value} {w wr w5 : World} (h : MvI rb q pk n c5 W0 sv ub W s us gs gv w wr) (ho : OwnV 38 (rb + 2) gv' gs' w5) (hg : wr.grownBy w5 gv.ownBlock) (hbl : ∀ k, gv'.ownBlock = some k → gv.ownBlock = some k ∨ wr.heap.size ≤ k) : MvI rb q pk n c5 W0 sv ub W s us gs' gv' w w5 := by
  have hql := (h.own.ownBlock q rfl).2
  have hbb : ∀ b off, ub.a = some ⟨b, off, none⟩ → b < wr.heap.size → w5.heap[b]? = wr.heap[b]? := fun b off e hl => hg.block b hl (fun e' => by
    obtain ⟨cs, hqb, -, -⟩ := U.own_type h.gone e'.symm
    exact h.bne hqb b off e rfl)
  refine ⟨h.own.kept hg (fun k hk e => by cases hk; exact (h.ne _ e).1 rfl), ho, fun k hk => ?_, h.bk.grown hg (fun e => (h.ne _ e).2 rfl), h.bv.moved hg.size hbb, fun b off e => ?_, h.g1.grown h.gone (by decide) hg, h.g2.grown h.gone (by decide) hg, h.b.grown hg (by have := h.g1.lt; omega) (fun k hk => by have := (h.gone.ownBlock k hk).1; omega)⟩
  · rcases hbl k hk with h1 | h1
    · exact h.ne k h1
    · have := h.bk.lt; omega
  · obtain ⟨h1, cs', h2⟩ := h.bt b off e
    exact ⟨h1, cs', (hbb b off e (Array.getElem?_eq_some_iff.1 h2).1).trans h2⟩
theorem RowsV.reverse {rk : IntKind} {us : List Rv} {rs : List Ro} {w : World} (h : RowsV rk us rs w) : RowsV rk us.reverse rs.reverse w := by
  refine ⟨by rw [List.length_reverse, List.length_reverse, h.1], fun i u r hu hr => ?_⟩
  have hi := (List.getElem?_eq_some_iff.1 hu).1
  rw [List.length_reverse] at hi
  rw [List.getElem?_reverse hi] at hu
  rw [List.getElem?_reverse (by rw [← h.1]; exact hi), ← h.1] at hr
  exact h.2 _ u r hu hr
theorem OwnV.at {T : TypeId} {base q n c5 : Nat} {us : List Rv} {w : World} (h : OwnV T base (.slice (some ⟨q, 0, none⟩) n c5) us w) (hn : n = us.length) {i : Nat} {u : Rv} (hu : us[i]? = some u) : w.cell? ⟨q, i * 2, none⟩ = some (.slice u.a u.n u.c) ∧ w.cell? ⟨q, i * 2 + 1, none⟩ = some (.bool u.b) := by
  subst hn
  have hi := (List.getElem?_eq_some_iff.1 hu).1
  have hc : ∀ j, j < 2 → w.cell? ⟨q, i * 2 + j, none⟩ = (vCells u)[j]? := fun j hj => by
    rw [World.ownsRow.cellAt h (i * 2 + j) (by omega), flatV_get us i j u hu hj]
  exact ⟨hc 0 (by decide), hc 1 (by decide)⟩
end Go.Proofs.YtkggmcnocpgnbaaDoor.K

/- The contract of the document's Glyphs. -/
namespace Go.Proofs.YtkggmcnocpgnbaaDoor.K
open Go.RowKit

end Go.Proofs.YtkggmcnocpgnbaaDoor.K

/- The document's grid: the text of a row; the law's small and Rows. -/
namespace Go.Proofs.YtkggmcnocpgnbaaDoor.K
open Go.RowKit

theorem txt_eq {S : ByteArray} {r : Ro} (h : S.data.toList = (runesR r).flatMap Y.encS) : S = txt r := by
  have h2 := Y.runesBytes_enc (runesR r)
  unfold txt
  cases S with
  | mk d =>
    rcases hR : runesBytes (runesR r) with ⟨e⟩
    rw [hR] at h2
    have h3 : d.toList = e.toList := by rw [h, h2]
    have : d = e := by
      cases d; cases e
      congr
    rw [this]
/-! ## the law's own -/
def smallN (n : Int) : Int := if 12 < n ∧ n < 1000 then 12 else min n 12
theorem small_any (n : Int) (w : World) : Calls Tryd.prog 70 #[.int .i64 n] w fun e w' => e = .returned (.int .i64 (smallN n)) ∧ w = w' := by
  unfold smallN
  obtain ⟨M, hM⟩ : ∃ M, min n 12 = M := ⟨_, rfl⟩
  rw [hM]
  by_cases h1 : 12 < n
  · by_cases h2 : n < 1000
    · rw [if_pos ⟨h1, h2⟩]
      have d1 : decide (12 < n) = true := decide_eq_true h1
      have d2 : decide (n < 1000) = true := decide_eq_true h2
      clear h1 h2
      go_enter Tryd.func70, Tryd.ntmps70
      go_wp2
      go_ret
      exact ⟨rfl, rfl⟩
    · rw [if_neg (fun h => h2 h.2)]
      have d1 : decide (12 < n) = true := decide_eq_true h1
      have d2 : decide (n < 1000) = false := decide_eq_false h2
      clear h1 h2
      go_enter Tryd.func70, Tryd.ntmps70
      go_wp2
      go_ret
      exact ⟨rfl, rfl⟩
  · rw [if_neg (fun h => h1 h.1)]
    have d1 : decide (12 < n) = false := decide_eq_false h1
    clear h1
    go_enter Tryd.func70, Tryd.ntmps70
    go_wp2
    go_ret
    exact ⟨rfl, rfl⟩
set_option maxRecDepth 100000 in
set_option maxHeartbeats 4000000 in
theorem lawRows_any {L L2 : List Nat} {a1 a2 : Option Addr} {n1 c1 n2 c2 : Nat} {rs1 rs2 : List Ro} (w : World) (h1 : RowsL .i32 L a1 n1 c1 rs1 w) (h2 : RowsL .i64 L2 a2 n2 c2 rs2 w) (hg : ∀ r ∈ rs1, AllC Rng r.l) (hl1 : ∀ r ∈ rs1, r.l.length ≤ 1000) (hl2 : ∀ r ∈ rs2, r.l.length ≤ 1000) (hn1 : n1 ≤ 1000) (hn2 : n2 ≤ 1000) :
    Calls Tryd.prog 40 #[.slice a1 n1 c1, .slice a2 n2 c2] w fun e w' => e = .returned (.bool (decide (rs1 = rs2))) ∧ Below w.heap.size w w' := by
  have hm1 := h1.len
  have hm2 := h2.len
  obtain ⟨us1, i1, v1, -⟩ := h1.ex
  obtain ⟨us2, i2, v2, -⟩ := h2.ex
  obtain ⟨rb, hrb⟩ : ∃ rb, w.heap.size = rb := ⟨_, rfl⟩
  rw [hrb]
  obtain ⟨D, hD⟩ : ∃ D, decide (rs1 = rs2) = D := ⟨_, rfl⟩
  obtain ⟨P, hP⟩ : ∃ P : Ending → World → Prop, (fun e w' => e = .returned (.bool D) ∧ Below rb w w') = P := ⟨_, rfl⟩
  rw [hD, hP]
  have HP := Lib.hid hP
  have HD := Lib.hid hD
  have HL1 := Lib.hid hm1
  have HL2 := Lib.hid hm2
  have H1 := Lib.hid i1
  have H2 := Lib.hid i2
  have HV1 := Lib.hid v1
  have HV2 := Lib.hid v2
  have HR1 := Lib.hid hl1
  have HR2 := Lib.hid hl2
  have HRg := Lib.hid hg
  have HRb := Lib.hid hrb
  by_cases hnn : n1 = n2
  · subst hnn
    have q1 : ((n1 : Int) != (n1 : Int)) = false := by simp
    clear hP hD h1 h2 i1 i2 v1 v2 hl1 hl2 hrb hn2 hm1 hm2 hg
    go_enter Tryd.func40, Tryd.ntmps40
    go_wp2_with fail
    go_loopw [13] (fun i wr => ∃ j : Nat, i = .int .i64 (j : Int) ∧ j ≤ n1 ∧ Hid (rs1.take j = rs2.take j ∧ Below rb w wr)) (fun i _ => n1 - (intOf i).toNat)
    case atStart => exact ⟨0, rfl, by omega, Lib.hid ⟨by simp, Below.refl _ _⟩⟩
    case round =>
      obtain ⟨j, rfl, hj, HF⟩ := hrel
      by_cases hlt : j < n1
      · have hd : decide (j < n1) = true := by simp; omega
        have hj1 : j < rs1.length := by rw [← HL1.out]; exact hlt
        have hj2 : j < rs2.length := by rw [← HL2.out]; exact hlt
        have hu1 : j < us1.length := by rw [HV1.out.1]; exact hj1
        have hu2 : j < us2.length := by rw [HV2.out.1]; exact hj2
        obtain ⟨b1, o1, rfl, hb1, hA1⟩ := H1.out.at_.resolve_left (by intro e; rw [e] at hu1; simp at hu1)
        obtain ⟨b2, o2, rfl, hb2, hA2⟩ := H2.out.at_.resolve_left (by intro e; rw [e] at hu2; simp at hu2)
        have hbw : Below w.heap.size w wr := by rw [HRb.out]; exact HF.out.2
        have hat1 := hA1 j us1[j] (List.getElem?_eq_getElem hu1)
        have hat2 := hA2 j us2[j] (List.getElem?_eq_getElem hu2)
        have hr1 := (HV1.out.2 j us1[j] rs1[j] (List.getElem?_eq_getElem hu1) (List.getElem?_eq_getElem hj1)).belowAll hbw
        have hr2 := (HV2.out.2 j us2[j] rs2[j] (List.getElem?_eq_getElem hu2) (List.getElem?_eq_getElem hj2)).belowAll hbw
        have hs1 := takeR_one rs1 j hj1
        have hs2 := takeR_one rs2 j hj2
        have hm1 := HR1.out rs1[j] (List.getElem_mem hj1)
        have hm2 := HR2.out rs2[j] (List.getElem_mem hj2)
        have hgg := HRg.out rs1[j] (List.getElem_mem hj1)
        obtain ⟨⟨x1, m1, y1, g1⟩, hx1⟩ : ∃ k, us1[j] = k := ⟨_, rfl⟩
        obtain ⟨⟨x2, m2, y2, g2⟩, hx2⟩ : ∃ k, us2[j] = k := ⟨_, rfl⟩
        obtain ⟨r1, hre1⟩ : ∃ k, rs1[j] = k := ⟨_, rfl⟩
        obtain ⟨r2, hre2⟩ : ∃ k, rs2[j] = k := ⟨_, rfl⟩
        rw [hx1] at hat1 hr1
        rw [hx2] at hat2 hr2
        rw [hre1] at hr1 hs1 hm1 hgg
        rw [hre2] at hr2 hs2 hm2
        have p0 : wr.cell? ⟨b1, o1 + j * 2, none⟩ = some (.slice x1 m1 y1) := (World.cell?_of_block (a := ⟨b1, o1 + j * 2, none⟩) (hbw.block b1 hb1)).trans hat1.1
        have p1 : wr.cell? ⟨b1, o1 + j * 2 + 1, none⟩ = some (.bool g1) := (World.cell?_of_block (a := ⟨b1, o1 + j * 2 + 1, none⟩) (hbw.block b1 hb1)).trans hat1.2
        have p2 : wr.cell? ⟨b2, o2 + j * 2, none⟩ = some (.slice x2 m2 y2) := (World.cell?_of_block (a := ⟨b2, o2 + j * 2, none⟩) (hbw.block b2 hb2)).trans hat2.1
        have p3 : wr.cell? ⟨b2, o2 + j * 2 + 1, none⟩ = some (.bool g2) := (World.cell?_of_block (a := ⟨b2, o2 + j * 2 + 1, none⟩) (hbw.block b2 hb2)).trans hat2.2
        unfold Rv.val at hr1 hr2
        simp only at hr1 hr2
        have cS : ∀ d os, Calls Tryd.prog 41 #[.agg #[.slice x1 m1 y1, .bool g1], .agg #[.slice x2 m2 y2, .bool g2]] (Go.Sort.grow (redrawn wr d) os) fun en w'' => en = .returned (.bool (decide (r1 = r2))) ∧ ∃ p : Regrown, w'' = Go.Sort.grow (redrawn wr p.d) p.os := fun d os => by
          have hb := below_regrown wr d os
          exact Calls.regrown_of (isRow_any (hr1.belowAll hb) (hr2.belowAll hb) hgg hm1 hm2)
        have z0 := fun d os => cell_regrown p0 d os
        have z1 := fun d os => cell_regrown p1 d os
        have z2 := fun d os => cell_regrown p2 d os
        have z3 := fun d os => cell_regrown p3 d os
        have HS1 := Lib.hid hs1
        have HS2 := Lib.hid hs2
        have HE1 := Lib.hid hre1
        have HE2 := Lib.hid hre2
        have HBw := Lib.hid hbw
        have hbs : rb ≤ wr.heap.size := by have := hbw.size; have := HRb.out; omega
        clear hA1 hA2 hat1 hat2 hr1 hr2 hs1 hs2 hm1 hm2 hx1 hx2 hre1 hre2 hb1 hb2 hbw hu1 hu2 hgg
        by_cases hE : r1 = r2
        · have hde : decide (r1 = r2) = true := decide_eq_true hE
          rw [hde] at cS
          have HE := Lib.hid hE
          have CS := Lib.hid cS
          clear hE hde cS
          go_upto_region 6 with fail
          clear p0 p1 p2 p3
          refine wp_region_quiet_below (by kernel_rfl) (by kernel_rfl) ?_
          repeat (go_big_quiet_step (first | exact CS.out _ _))
          refine wpQuiet_nil ?_
          intro _ hw'
          obtain ⟨⟨dq, osq⟩, hw''⟩ := hw'
          have HF3 : Hid (rs1.take (j + 1) = rs2.take (j + 1) ∧ Below rb w (Go.Sort.grow (redrawn wr dq) osq)) := Lib.hid ⟨by rw [HS1.out, HS2.out, HF.out.1, HE.out], HF.out.2.trans ((below_regrown _ _ _).mono hbs)⟩
          rw [hw'']
          simp only
          obtain ⟨w6, hw6⟩ : ∃ w6, Go.Sort.grow (redrawn wr dq) osq = w6 := ⟨_, rfl⟩
          rw [hw6] at HF3 ⊢
          clear hw'' hw6 z0 z1 z2 z3 CS
          go_wp2
          go_roundw
          case rel => exact ⟨j + 1, by go_num, by omega, HF3⟩
          case measure => simp [intOf]; omega
        · have hde : decide (r1 = r2) = false := decide_eq_false hE
          rw [hde] at cS
          have HE := Lib.hid hE
          have CS := Lib.hid cS
          clear hE hde cS
          have hne : D = false := by
            rw [← HD.out]
            refine decide_eq_false (fun e => HE.out ?_)
            subst e
            rw [← HE1.out, ← HE2.out]
          have HNe := Lib.hid hne
          clear hne
          go_upto_region 6 with fail
          clear p0 p1 p2 p3
          refine wp_region_quiet_below (by kernel_rfl) (by kernel_rfl) ?_
          repeat (go_big_quiet_step (first | exact CS.out _ _))
          refine wpQuiet_nil ?_
          intro _ hw'
          obtain ⟨⟨dq, osq⟩, hw''⟩ := hw'
          rw [hw'']
          simp only
          have HF3 : Hid (P (.returned (.bool false)) (Go.Sort.grow (redrawn wr dq) osq)) := Lib.hid (by rw [← HP.out, HNe.out]; exact ⟨rfl, HF.out.2.trans ((below_regrown _ _ _).mono hbs)⟩)
          clear z0 z1 z2 z3 CS
          go_wp2
          exact HF3.out
      · obtain rfl : j = n1 := by omega
        have hd : decide (j < j) = false := by simp
        have hd' : decide ((j : Int) < (j : Int)) = false := by simp
        go_wp2
        rw [← HP.out]
        obtain ⟨h3, h4⟩ := HF.out
        rw [List.take_of_length_le (by rw [← HL1.out]; exact Nat.le_refl _), List.take_of_length_le (by rw [← HL2.out]; exact Nat.le_refl _)] at h3
        exact ⟨by rw [← HD.out, h3]; simp, h4⟩
  · have q1 : ((n1 : Int) != (n2 : Int)) = true := by simp; omega
    have hne : D = false := by
      rw [← hD]
      refine decide_eq_false (fun e => hnn ?_)
      rw [HL1.out, HL2.out, e]
    clear hP hD h1 h2 i1 i2 v1 v2 hl1 hl2 hrb hm1 hm2 hg
    go_enter Tryd.func40, Tryd.ntmps40
    go_wp2
    rw [← HP.out, hne]
    exact ⟨rfl, Below.refl _ _⟩
end Go.Proofs.YtkggmcnocpgnbaaDoor.K
