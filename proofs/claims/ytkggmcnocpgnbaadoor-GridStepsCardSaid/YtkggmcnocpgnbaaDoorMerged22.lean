/- Rows that go up some at once, or one by one. -/
import Derived.Test.YtkggmcnocpgnbaaDoorMerged13
import Derived.Test.YtkggmcnocpgnbaaDoorMerged21
namespace Go.Proofs.YtkggmcnocpgnbaaDoor.K

theorem upR_all {α : Type} (R : List α) (b : α) {k : Nat} (h : R.length ≤ k) : D.upR R k b = List.replicate R.length b := by
  unfold D.upR
  rw [List.drop_of_length_le h, Nat.min_eq_right h, List.nil_append]
/-- the grid behind so many steps -/
def upN (x : Gd) (top bot s : Int) (i : Nat) : Gd := (upG x top bot (i : Int) s).1
/-- what went, one by one -/
def goneN (x : Gd) (top bot s : Int) : Nat → List Ro
  | 0 => []
  | i + 1 => goneN x top bot s i ++ (upG (upN x top bot s i) top bot 1 s).2
theorem cntN_nat (i len : Nat) : cntN (i : Int) len = min i len := by unfold cntN; omega
theorem upN_rs {x : Gd} {top bot s : Int} (h : plN x.rs.length top ≤ plN x.rs.length bot) (i : Nat) : upN x top bot s i = ⟨x.W, D.inL x.rs (plN x.rs.length top) (plN x.rs.length bot) fun R => D.upR R (min i (plN x.rs.length bot + 1 - plN x.rs.length top)) (blankR x.W s)⟩ := by
  unfold upN upG
  simp only
  rw [if_neg (by omega), cntN_nat]
theorem upN_no {x : Gd} {top bot s : Int} (h : plN x.rs.length bot < plN x.rs.length top) (i : Nat) : upN x top bot s i = x ∧ ∀ n, (upG x top bot n s).2 = [] := by
  refine ⟨?_, fun n => ?_⟩
  · unfold upN upG
    simp only
    rw [if_pos h]
  · unfold upG
    simp only
    rw [if_pos h]
theorem upN_len {x : Gd} (hx : GdOk x) {top bot s : Int} (i : Nat) : (upN x top bot s i).rs.length = x.rs.length := by
  by_cases h : plN x.rs.length top ≤ plN x.rs.length bot
  · rw [upN_rs h]
    exact D.inL_length h (plN_lt (by have := hx.h1; omega) _) (fun R => D.upR_length R _ _)
  · rw [(upN_no (by omega) i).1]
theorem inL_same {α : Type} {l : List α} {t b : Nat} {f g : List α → List α} (h : f ((l.take (b + 1)).drop t) = g ((l.take (b + 1)).drop t)) : D.inL l t b f = D.inL l t b g := by
  unfold D.inL
  rw [h]
theorem upR_step {α : Type} (R : List α) (b : α) (i : Nat) (hR : 1 ≤ R.length) : D.upR (D.upR R (min i R.length) b) 1 b = D.upR R (min (i + 1) R.length) b := by
  by_cases h : i < R.length
  · rw [Nat.min_eq_left (by omega), Nat.min_eq_left (by omega)]
    exact D.upR_add R i 1 b (by omega)
  · rw [Nat.min_eq_right (by omega), Nat.min_eq_right (by omega), upR_all R b (Nat.le_refl _)]
    unfold D.upR
    rw [List.length_replicate, List.drop_replicate, Nat.min_eq_left hR, List.replicate_append_replicate]
    congr 1
    omega
theorem upN_zero (x : Gd) (top bot s : Int) : upN x top bot s 0 = x := by
  by_cases h : plN x.rs.length top ≤ plN x.rs.length bot
  · rw [upN_rs h]
    have e : D.inL x.rs (plN x.rs.length top) (plN x.rs.length bot) (fun R => D.upR R (min 0 (plN x.rs.length bot + 1 - plN x.rs.length top)) (blankR x.W s)) = x.rs := by
      rw [Nat.zero_min]
      simp only [D.upR_zero]
      exact D.inL_id x.rs h
    rw [e]
  · exact (upN_no (by omega) 0).1
theorem upN_succ {x : Gd} (hx : GdOk x) (top bot s : Int) (i : Nat) : (upG (upN x top bot s i) top bot 1 s).1 = upN x top bot s (i + 1) := by
  have hl := upN_len hx (top := top) (bot := bot) (s := s) i
  by_cases h : plN x.rs.length top ≤ plN x.rs.length bot
  · have hb := plN_lt (by have := hx.h1; omega : 0 < x.rs.length) bot
    have hreg := D.region_length (l := x.rs) h hb
    have e1 := upN_rs (s := s) h i
    have e2 := upN_rs (s := s) h (i + 1)
    have e3 := upN_rs (x := upN x top bot s i) (top := top) (bot := bot) (s := s) (by rw [hl]; exact h) 1
    have e4 : (upG (upN x top bot s i) top bot 1 s).1 = upN (upN x top bot s i) top bot s 1 := rfl
    rw [e4, e3, hl, e2]
    have hW : (upN x top bot s i).W = x.W := by rw [e1]
    rw [hW]
    congr 1
    rw [e1]
    simp only
    rw [D.inL_comp h hb (fun R => D.upR_length R _ _)]
    apply inL_same
    have hn : min 1 (plN x.rs.length bot + 1 - plN x.rs.length top) = 1 := by omega
    rw [hn, ← hreg]
    exact upR_step _ _ i (by rw [hreg]; omega)
  · obtain ⟨h1, h2⟩ := upN_no (s := s) (by omega : plN x.rs.length bot < plN x.rs.length top) i
    rw [h1, (upN_no (s := s) (by omega : plN x.rs.length bot < plN x.rs.length top) (i + 1)).1]
    exact (upN_no (s := s) (by omega : plN x.rs.length bot < plN x.rs.length top) 1).1
theorem gone_eq {x : Gd} (hx : GdOk x) {top bot s : Int} (h : plN x.rs.length top ≤ plN x.rs.length bot) (i : Nat) :
    goneN x top bot s i = (regR x.rs (plN x.rs.length top) (plN x.rs.length bot)).take (min i (plN x.rs.length bot + 1 - plN x.rs.length top)) ++ List.replicate (i - (plN x.rs.length bot + 1 - plN x.rs.length top)) (blankR x.W s) := by
  have hb := plN_lt (by have := hx.h1; omega : 0 < x.rs.length) bot
  have hreg := D.region_length (l := x.rs) h hb
  induction i with
  | zero => simp [goneN]
  | succ i ih =>
    have hl := upN_len hx (top := top) (bot := bot) (s := s) i
    have e1 := upN_rs (s := s) h i
    have eg : (upG (upN x top bot s i) top bot 1 s).2 = (D.upR (regR x.rs (plN x.rs.length top) (plN x.rs.length bot)) (min i (plN x.rs.length bot + 1 - plN x.rs.length top)) (blankR x.W s)).take 1 := by
      unfold upG
      simp only
      rw [hl, if_neg (by omega), show (1 : Int) = ((1 : Nat) : Int) from rfl, cntN_nat, show min 1 (plN x.rs.length bot + 1 - plN x.rs.length top) = 1 by omega]
      rw [e1]
      exact congrArg (List.take 1) (D.inL_region h hb (fun R => D.upR_length R _ _))
    have hR : (regR x.rs (plN x.rs.length top) (plN x.rs.length bot)).length = plN x.rs.length bot + 1 - plN x.rs.length top := hreg
    obtain ⟨R, hRe⟩ : ∃ R, regR x.rs (plN x.rs.length top) (plN x.rs.length bot) = R := ⟨_, rfl⟩
    rw [hRe] at ih eg hR ⊢
    unfold goneN
    rw [ih, eg, ← hR]
    by_cases hi : i < R.length
    · rw [Nat.min_eq_left (by omega), Nat.min_eq_left (by omega), show i - R.length = 0 by omega, show i + 1 - R.length = 0 by omega]
      unfold D.upR
      rw [List.take_append_of_le_length (by rw [List.length_drop]; omega)]
      simp only [List.replicate_zero, List.append_nil]
      exact List.take_add.symm
    · rw [Nat.min_eq_right (by omega), Nat.min_eq_right (by omega), upR_all R _ (Nat.le_refl _), List.append_assoc]
      congr 1
      rw [List.take_replicate, show min 1 R.length = 1 by omega, List.replicate_append_replicate]
      congr 1
      omega
theorem up_steps {x : Gd} (hx : GdOk x) (top bot s : Int) (n : Nat) : (upG x top bot (n : Int) s).2.length ≤ (goneN x top bot s n).length ∧ (goneN x top bot s n).take (upG x top bot (n : Int) s).2.length = (upG x top bot (n : Int) s).2 := by
  by_cases h : plN x.rs.length top ≤ plN x.rs.length bot
  · have hb := plN_lt (by have := hx.h1; omega : 0 < x.rs.length) bot
    have hreg : (regR x.rs (plN x.rs.length top) (plN x.rs.length bot)).length = _ := D.region_length (l := x.rs) h hb
    have e : (upG x top bot (n : Int) s).2 = (regR x.rs (plN x.rs.length top) (plN x.rs.length bot)).take (min n (plN x.rs.length bot + 1 - plN x.rs.length top)) := by
      unfold upG
      simp only
      rw [if_neg (by omega), cntN_nat]
    rw [gone_eq hx h, e]
    refine ⟨by rw [List.length_append]; omega, ?_⟩
    rw [List.take_left']
    rfl
  · have e := (upN_no (s := s) (by omega : plN x.rs.length bot < plN x.rs.length top) 0).2 n
    rw [e]
    exact ⟨Nat.zero_le _, rfl⟩
theorem gone_len {x : Gd} (top bot s : Int) (n : Nat) : (goneN x top bot s n).length ≤ n := by
  induction n with
  | zero => exact Nat.le_refl _
  | succ n ih =>
    unfold goneN
    rw [List.length_append]
    have : (upG (upN x top bot s n) top bot 1 s).2.length ≤ 1 := by
      unfold upG
      simp only
      split
      · exact Nat.zero_le _
      · rw [List.length_take]
        have : cntN 1 (plN (upN x top bot s n).rs.length bot + 1 - plN (upN x top bot s n).rs.length top) ≤ 1 := by unfold cntN; omega
        omega
    omega
end Go.Proofs.YtkggmcnocpgnbaaDoor.K

/- Rows of the program's that are gathered, some at once. -/
namespace Go.Proofs.YtkggmcnocpgnbaaDoor.K
open Go.RowKit

/-- rows that were gathered, in memory of our own -/
structure GathP (T : TypeId) (L : List Nat) (base : Nat) (v : Value) (rs : List Ro) (w : World) : Prop where
  ex : ∃ us, OwnV T base v us w ∧ RowsV .i32 us rs w ∧ (∀ u ∈ us, Off L u) ∧ ∀ u ∈ us, Apart v u
theorem GathP.nil (T : TypeId) (L : List Nat) (base : Nat) (w : World) : GathP T L base (.slice none 0 0) [] w := ⟨[], OwnV.nil _ _ _, RowsV.nil _ _, (fun u hu => by cases hu), (fun u hu => by cases hu)⟩
theorem GathP.keptB {T : TypeId} {L M : List Nat} {base : Nat} {v : Value} {rs : List Ro} {w w' : World} (h : GathP T L base v rs w) (hk : KeepB M w w') (hM : ∀ p ∈ M, p ∈ L) (hv : ∀ q, v.ownBlock = some q → q ∉ M) : GathP T L base v rs w' := by
  obtain ⟨us, h1, h2, h3, h4⟩ := h
  refine ⟨us, ?_, ⟨h2.1, fun i u r hu hr => (h2.2 i u r hu hr).keptB (h3 u (List.mem_of_getElem? hu)) (hk.mono hM)⟩, h3, h4⟩
  refine ⟨h1.1, ?_⟩
  rcases h1.2 with h0 | ⟨g', c', cur, he, hbase, hgb, hc, hmx, hsz, ht⟩
  · exact .inl h0
  · exact .inr ⟨g', c', cur, he, hbase, (hk.block g' (Array.getElem?_eq_some_iff.1 hgb).1 (hv g' (by rw [he]; rfl))).trans hgb, hc, hmx, hsz, ht⟩
theorem GathP.own {T : TypeId} {L : List Nat} {base : Nat} {v : Value} {rs : List Ro} {w : World} (h : GathP T L base v rs w) : ∀ q, v.ownBlock = some q → base ≤ q ∧ q < w.heap.size ∧ ∃ cs, w.heap[q]? = some (.cells cs T (0, 0)) := fun q hq => by
  obtain ⟨us, h1, -⟩ := h.ex
  obtain ⟨cs, h2, h3, h4⟩ := U.own_type h1 hq
  exact ⟨h3, h4, cs, h2⟩
theorem GathP.shape {T : TypeId} {L : List Nat} {base : Nat} {v : Value} {rs : List Ro} {w : World} (h : GathP T L base v rs w) : ∃ a c us, v = .slice a rs.length c ∧ RvsIn a rs.length c us w ∧ RowsV .i32 us rs w := by
  obtain ⟨us, h1, h2, -⟩ := h.ex
  obtain ⟨a', c', e, h3, -⟩ := h1.shape
  rw [h2.1] at e h3
  exact ⟨a', c', us, e, h3, h2⟩
/-- some rows more -/
theorem wpList_append_gone {t T : TypeId} {bytes : Nat} (hI : RvT t T bytes) {ops : Array Oper} {rest : List Oper} {o : Oper} {z : Act} {w : World} {Q : Exit → Act → World → Prop} (hgd : o.guard = none) (s x : Operand)
    (ho : o.op = .call { callee := .builtin .append, args := #[s, x], argTypes := #[t, t] }) (hty : o.type = t)
    (L L2 : List Nat) (base : Nat) (v : Value) (rs : List Ro) (a2 : Option Addr) (m2 c2 : Nat) (rs2 : List Ro) (hs : z.eval s = v) (hxv : z.eval x = .slice a2 m2 c2) (hG : GathP T L base v rs w) (h2 : RowsL .i32 L2 a2 m2 c2 rs2 w) (hL2 : ∀ p ∈ L, p ∈ L2) (hv2 : ∀ q, v.ownBlock = some q → q ∈ L2) (h1 : rs.length ≤ 1000) (hn2 : rs2.length ≤ 1000) (hbase : base ≤ w.heap.size)
    (hK : ∀ v' w', GathP T L base v' (rs ++ rs2) w' → w.grownBy w' v.ownBlock → wpList Tryd.prog ops Q rest (z.put o.dst v') w') : wpList Tryd.prog ops Q (o :: rest) z w :=
  wpList_plain hgd fun _ hK' => by
    obtain ⟨us, g2, g3, g4, g5⟩ := hG.ex
    obtain ⟨us2, hin, k3, k4⟩ := h2.ex
    obtain ⟨v', w', hr, k1, k2⟩ := run_append_rows hI base v us a2 m2 c2 us2 w g2 hin h2.nil (by have := g3.1; omega) (by have := k3.1; omega) hbase
    have hblk : ∀ q, v'.ownBlock = some q → v.ownBlock = some q ∨ w.heap.size ≤ q := k2.block
    have hap2 : ∀ d ∈ us2, Apart v d := fun d hd hn b off e e' => k4 d hd hn b off e (hv2 b e')
    have hrv : RowsV .i32 us rs w' := ⟨g3.1, fun i d q hd hq => (g3.2 i d q hd hq).apart k2.grown (fun hn b off e e' => g5 d (List.mem_of_getElem? hd) hn b off e e')⟩
    have hrv2 : RowsV .i32 us2 rs2 w' := ⟨k3.1, fun i d q hd hq => (k3.2 i d q hd hq).apart k2.grown (fun hn b off e e' => hap2 d (List.mem_of_getElem? hd) hn b off e e')⟩
    have hap' : ∀ d : Rv, Apart v d → (d.n ≠ 0 → ∀ b off, d.a = some ⟨b, off, none⟩ → b < w.heap.size) → Apart v' d := fun d hd hl hn b off e e' => by
      rcases hblk b e' with h6 | h6
      · exact hd hn b off e h6
      · have := hl hn b off e; omega
    have hlt : ∀ {us : List Rv} {rs : List Ro}, RowsV .i32 us rs w → ∀ d ∈ us, d.n ≠ 0 → ∀ b off, d.a = some ⟨b, off, none⟩ → b < w.heap.size := fun {us rs} hr d hd hn => by
      obtain ⟨i, hi, rfl⟩ := List.mem_iff_getElem.1 hd
      have hi' : i < rs.length := by rw [← hr.1]; exact hi
      exact (hr.2 i _ _ (List.getElem?_eq_getElem hi) (List.getElem?_eq_getElem hi')).lt hn
    have hG' : GathP T L base v' (rs ++ rs2) w' := by
      refine ⟨us ++ us2, k1, hrv.append hrv2, fun d hd => ?_, fun d hd => ?_⟩
      · rcases List.mem_append.1 hd with hd | hd
        · exact g4 d hd
        · exact fun hn b off e hb => k4 d hd hn b off e (hL2 b hb)
      · rcases List.mem_append.1 hd with hd | hd
        · exact hap' d (g5 d hd) (hlt g3 d hd)
        · exact hap' d (hap2 d hd) (hlt k3 d hd)
    unfold Oper.wp execOp
    simp only [ho, hty, resolve, invoke, builtin, Sem.run_bind, Sem.run_pure, Result.andThen_ok, List.map_toArray, List.map_cons, List.map_nil, hs, hxv, hr]
    exact hK' _ _ (hK v' w' hG' k2.grown)
theorem keepB_grown {w w' : World} {r : Option Nat} (hg : w.grownBy w' r) : KeepB r.toList w w' := ⟨hg.os, hg.tape, hg.output, hg.size, fun i hi hn => hg.block i hi (fun e => hn (by rw [← e]; simp))⟩
theorem KeepB.grownOwn {M : List Nat} {w0 w w' : World} {r : Option Nat} (h : KeepB M w0 w) (hg : w.grownBy w' r) (hr : ∀ q, r = some q → w0.heap.size ≤ q) : KeepB M w0 w' := h.strike2 (keepB_grown hg) (fun p hp => hr p (by simpa using hp))
theorem Gr.grownBy2 {g q : Nat} {x : Gd} {w w' : World} {r : Option Nat} (h : Gr g q x w) (hg : w.grownBy w' r) (hr : ∀ p, r = some p → p ≠ g ∧ p ≠ q ∧ ∃ cs, w.heap[p]? = some (.cells cs 27 (0, 0))) : Gr g q x w' :=
  h.keptB (keepB_grown hg) (fun e => (hr g (by simpa using e)).1 rfl) (fun e => (hr q (by simpa using e)).2.1 rfl) (fun p hp _ => by
    obtain ⟨-, -, cs, hc⟩ := hr p (by simpa using hp)
    exact ⟨cs, _, hc, by decide⟩)
theorem GathP.rowsL {T : TypeId} {L : List Nat} {base : Nat} {a : Option Addr} {n c : Nat} {rs : List Ro} {w : World} (h : GathP T L base (.slice a n c) rs w) : RowsL .i32 [] a n c rs w := by
  obtain ⟨us, h1, h2, h3, -⟩ := h.ex
  obtain ⟨a', c', e, -⟩ := h1.shape
  cases e
  exact h1.rowsL h2 (fun u hu hn b off e hb => by cases hb) (fun p hp => by cases hp)
theorem rowSame_self {x1 x2 : Option Addr} {m1 y1 m2 y2 : Nat} {g1 g2 : Bool} {r : Ro} {w : World} (h1 : RowV .i32 (.agg #[.slice x1 m1 y1, .bool g1]) r w) (h2 : RowV .i32 (.agg #[.slice x2 m2 y2, .bool g2]) r w) (hn : r.l.length ≤ 1000) :
    Calls Tryd.prog 42 #[.agg #[.slice x1 m1 y1, .bool g1], .agg #[.slice x2 m2 y2, .bool g2]] w fun e w' => e = .returned (.bool true) ∧ Below w.heap.size w w' := by
  obtain ⟨rfl, i1, -, -, -, e1⟩ := h1.of
  obtain ⟨rfl, i2, -, -, -, e2⟩ := h2.of
  have h := rowSame_any x1 x2 m1 m2 y1 y2 r.wrapped r.wrapped r.l r.l w i1 i2 (by omega) (by omega)
  rw [decide_eq_true rfl] at h
  exact h
theorem and_small (n : Int) (m : Nat) (hm : m < 4294967296) : ∃ t : Nat, bits .and .i64 n (m : Int) = (t : Int) ∧ t ≤ m := by
  refine ⟨(BitVec.ofInt 64 n &&& BitVec.ofInt 64 (m : Int)).toNat, ?_, ?_⟩
  · show IntKind.i64.wrap ((BitVec.ofInt 64 n &&& BitVec.ofInt 64 (m : Int)).toNat : Int) = _
    have h2 : (BitVec.ofInt 64 (m : Int)).toNat = m := by
      rw [BitVec.ofInt_natCast, BitVec.toNat_ofNat]; exact Nat.mod_eq_of_lt (by omega)
    have h3 : (BitVec.ofInt 64 n &&& BitVec.ofInt 64 (m : Int)).toNat ≤ m := by
      rw [BitVec.toNat_and, h2]; exact Nat.and_le_right
    rw [IntKind.wrap_i64]
    omega
  · rw [BitVec.toNat_and, BitVec.ofInt_natCast, BitVec.toNat_ofNat, Nat.mod_eq_of_lt (by omega : m < 2 ^ 64)]
    exact Nat.and_le_right
end Go.Proofs.YtkggmcnocpgnbaaDoor.K
