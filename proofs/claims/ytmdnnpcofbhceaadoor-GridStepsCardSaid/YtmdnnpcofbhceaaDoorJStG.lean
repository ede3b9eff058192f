/- Rows of the program's that are gathered, some at once. -/
import Derived.Test.YtmdnnpcofbhceaaDoorJSy2
import Derived.Test.YtmdnnpcofbhceaaDoorJStM
namespace Go.Proofs.YtmdnnpcofbhceaaDoor.K
open Go.RowKit

/-- rows that were gathered, in memory of our own -/
structure GathP (T : TypeId) (L : List Nat) (base : Nat) (v : Value) (rs : List Ro) (w : World) : Prop where
  ex : ∃ us, OwnV T base v us w ∧ RowsV .i32 us rs w ∧ (∀ u ∈ us, Off L u) ∧ ∀ u ∈ us, Apart v u
theorem GathP.nil (T : TypeId) (L : List Nat) (base : Nat) (w : World) : GathP T L base (.slice none 0 0) [] w := ⟨[], OwnV.nil _ _ _, RowsV.nil _ _, (fun u hu => by cases hu), (fun u hu => by cases hu)⟩
theorem GathP.keptB {T : TypeId} {L M : List Nat} {base : Nat} {v : Value} {rs : List Ro} {w w' : World} (h : GathP T L base v rs w) (hk : KeepB M w w') (hM : ∀ p ∈ M, p ∈ L) (hv : ∀ q, v.ownBlock = some q → q ∉ M) : GathP T L base v rs w' := by
  obtain ⟨us, h1, h2, h3, h4⟩ := h
  refine ⟨us, ?_, ⟨h2.1, fun i u r hu hr => (h2.2 i u r hu hr).keptB (h3 u (List.mem_of_getElem? hu)) (hk.mono hM)⟩, h3, h4⟩
  refine ⟨h1.1, ?_⟩
  rcases h1.2 with h0 | ⟨g', c', cur, he, hbase, hgb, hc, hmx, hsz, ht⟩
  · exact .inl h0
  · exact .inr ⟨g', c', cur, he, hbase, (hk.block g' (Array.getElem?_eq_some_iff.1 hgb).1 (hv g' (by rw [he]; rfl))).trans hgb, hc, hmx, hsz, ht⟩
theorem GathP.own {T : TypeId} {L : List Nat} {base : Nat} {v : Value} {rs : List Ro} {w : World} (h : GathP T L base v rs w) : ∀ q, v.ownBlock = some q → base ≤ q ∧ q < w.heap.size ∧ ∃ cs, w.heap[q]? = some (.cells cs T (0, 0)) := fun q hq => by
  obtain ⟨us, h1, -⟩ := h.ex
  obtain ⟨cs, h2, h3, h4⟩ := U.own_type h1 hq
  exact ⟨h3, h4, cs, h2⟩
theorem GathP.shape {T : TypeId} {L : List Nat} {base : Nat} {v : Value} {rs : List Ro} {w : World} (h : GathP T L base v rs w) : ∃ a c us, v = .slice a rs.length c ∧ RvsIn a rs.length c us w ∧ RowsV .i32 us rs w := by
  obtain ⟨us, h1, h2, -⟩ := h.ex
  obtain ⟨a', c', e, h3, -⟩ := h1.shape
  rw [h2.1] at e h3
  exact ⟨a', c', us, e, h3, h2⟩
/-- some rows more -/
theorem wpList_append_gone {t T : TypeId} {bytes : Nat} (hI : RvT t T bytes) {ops : Array Oper} {rest : List Oper} {o : Oper} {z : Act} {w : World} {Q : Exit → Act → World → Prop} (hgd : o.guard = none) (s x : Operand)
    (ho : o.op = .call { callee := .builtin .append, args := #[s, x], argTypes := #[t, t] }) (hty : o.type = t)
    (L L2 : List Nat) (base : Nat) (v : Value) (rs : List Ro) (a2 : Option Addr) (m2 c2 : Nat) (rs2 : List Ro) (hs : z.eval s = v) (hxv : z.eval x = .slice a2 m2 c2) (hG : GathP T L base v rs w) (h2 : RowsL .i32 L2 a2 m2 c2 rs2 w) (hL2 : ∀ p ∈ L, p ∈ L2) (hv2 : ∀ q, v.ownBlock = some q → q ∈ L2) (h1 : rs.length ≤ 1000) (hn2 : rs2.length ≤ 1000) (hbase : base ≤ w.heap.size)
    (hK : ∀ v' w', GathP T L base v' (rs ++ rs2) w' → w.grownBy w' v.ownBlock → wpList Tryd.prog ops Q rest (z.put o.dst v') w') : wpList Tryd.prog ops Q (o :: rest) z w :=
  wpList_plain hgd fun _ hK' => by
    obtain ⟨us, g2, g3, g4, g5⟩ := hG.ex
    obtain ⟨us2, hin, k3, k4⟩ := h2.ex
    obtain ⟨v', w', hr, k1, k2⟩ := run_append_rows hI base v us a2 m2 c2 us2 w g2 hin h2.nil (by have := g3.1; omega) (by have := k3.1; omega) hbase
    have hblk : ∀ q, v'.ownBlock = some q → v.ownBlock = some q ∨ w.heap.size ≤ q := k2.block
    have hap2 : ∀ d ∈ us2, Apart v d := fun d hd hn b off e e' => k4 d hd hn b off e (hv2 b e')
    have hrv : RowsV .i32 us rs w' := ⟨g3.1, fun i d q hd hq => (g3.2 i d q hd hq).apart k2.grown (fun hn b off e e' => g5 d (List.mem_of_getElem? hd) hn b off e e')⟩
    have hrv2 : RowsV .i32 us2 rs2 w' := ⟨k3.1, fun i d q hd hq => (k3.2 i d q hd hq).apart k2.grown (fun hn b off e e' => hap2 d (List.mem_of_getElem? hd) hn b off e e')⟩
    have hap' : ∀ d : Rv, Apart v d → (d.n ≠ 0 → ∀ b off, d.a = some ⟨b, off, none⟩ → b < w.heap.size) → Apart v' d := fun d hd hl hn b off e e' => by
      rcases hblk b e' with h6 | h6
      · exact hd hn b off e h6
      · have := hl hn b off e; omega
    have hlt : ∀ {us : List Rv} {rs : List Ro}, RowsV .i32 us rs w → ∀ d ∈ us, d.n ≠ 0 → ∀ b off, d.a = some ⟨b, off, none⟩ → b < w.heap.size := fun {us rs} hr d hd hn => by
      obtain ⟨i, hi, rfl⟩ := List.mem_iff_getElem.1 hd
      have hi' : i < rs.length := by rw [← hr.1]; exact hi
      exact (hr.2 i _ _ (List.getElem?_eq_getElem hi) (List.getElem?_eq_getElem hi')).lt hn
    have hG' : GathP T L base v' (rs ++ rs2) w' := by
      refine ⟨us ++ us2, k1, hrv.append hrv2, fun d hd => ?_, fun d hd => ?_⟩
      · rcases List.mem_append.1 hd with hd | hd
        · exact g4 d hd
        · exact fun hn b off e hb => k4 d hd hn b off e (hL2 b hb)
      · rcases List.mem_append.1 hd with hd | hd
        · exact hap' d (g5 d hd) (hlt g3 d hd)
        · exact hap' d (hap2 d hd) (hlt k3 d hd)
    unfold Oper.wp execOp
    simp only [ho, hty, resolve, invoke, builtin, Sem.run_bind, Sem.run_pure, Result.andThen_ok, List.map_toArray, List.map_cons, List.map_nil, hs, hxv, hr]
    exact hK' _ _ (hK v' w' hG' k2.grown)
theorem keepB_grown {w w' : World} {r : Option Nat} (hg : w.grownBy w' r) : KeepB r.toList w w' := ⟨hg.os, hg.tape, hg.output, hg.size, fun i hi hn => hg.block i hi (fun e => hn (by rw [← e]; simp))⟩
theorem KeepB.grownOwn {M : List Nat} {w0 w w' : World} {r : Option Nat} (h : KeepB M w0 w) (hg : w.grownBy w' r) (hr : ∀ q, r = some q → w0.heap.size ≤ q) : KeepB M w0 w' := h.strike2 (keepB_grown hg) (fun p hp => hr p (by simpa using hp))
theorem Gr.grownBy2 {g q : Nat} {x : Gd} {w w' : World} {r : Option Nat} (h : Gr g q x w) (hg : w.grownBy w' r) (hr : ∀ p, r = some p → p ≠ g ∧ p ≠ q ∧ ∃ cs, w.heap[p]? = some (.cells cs 26 (0, 0))) : Gr g q x w' :=
  h.keptB (keepB_grown hg) (fun e => (hr g (by simpa using e)).1 rfl) (fun e => (hr q (by simpa using e)).2.1 rfl) (fun p hp _ => by
    obtain ⟨-, -, cs, hc⟩ := hr p (by simpa using hp)
    exact ⟨cs, _, hc, by decide⟩)
theorem GathP.rowsL {T : TypeId} {L : List Nat} {base : Nat} {a : Option Addr} {n c : Nat} {rs : List Ro} {w : World} (h : GathP T L base (.slice a n c) rs w) : RowsL .i32 [] a n c rs w := by
  obtain ⟨us, h1, h2, h3, -⟩ := h.ex
  obtain ⟨a', c', e, -⟩ := h1.shape
  cases e
  exact h1.rowsL h2 (fun u hu hn b off e hb => by cases hb) (fun p hp => by cases hp)
theorem rowSame_self {x1 x2 : Option Addr} {m1 y1 m2 y2 : Nat} {g1 g2 : Bool} {r : Ro} {w : World} (h1 : RowV .i32 (.agg #[.slice x1 m1 y1, .bool g1]) r w) (h2 : RowV .i32 (.agg #[.slice x2 m2 y2, .bool g2]) r w) (hn : r.l.length ≤ 1000) :
    Calls Tryd.prog 26 #[.agg #[.slice x1 m1 y1, .bool g1], .agg #[.slice x2 m2 y2, .bool g2]] w fun e w' => e = .returned (.bool true) ∧ Below w.heap.size w w' := by
  obtain ⟨rfl, i1, -, -, -, e1⟩ := h1.of
  obtain ⟨rfl, i2, -, -, -, e2⟩ := h2.of
  have h := rowSame_any x1 x2 m1 m2 y1 y2 r.wrapped r.wrapped r.l r.l w i1 i2 (by omega) (by omega)
  rw [decide_eq_true rfl] at h
  exact h
theorem and_small (n : Int) (m : Nat) (hm : m < 4294967296) : ∃ t : Nat, bits .and .i64 n (m : Int) = (t : Int) ∧ t ≤ m := by
  refine ⟨(BitVec.ofInt 64 n &&& BitVec.ofInt 64 (m : Int)).toNat, ?_, ?_⟩
  · show IntKind.i64.wrap ((BitVec.ofInt 64 n &&& BitVec.ofInt 64 (m : Int)).toNat : Int) = _
    have h2 : (BitVec.ofInt 64 (m : Int)).toNat = m := by
      rw [BitVec.ofInt_natCast, BitVec.toNat_ofNat]; exact Nat.mod_eq_of_lt (by omega)
    have h3 : (BitVec.ofInt 64 n &&& BitVec.ofInt 64 (m : Int)).toNat ≤ m := by
      rw [BitVec.toNat_and, h2]; exact Nat.and_le_right
    rw [IntKind.wrap_i64]
    omega
  · rw [BitVec.toNat_and, BitVec.ofInt_natCast, BitVec.toNat_ofNat, Nat.mod_eq_of_lt (by omega : m < 2 ^ 64)]
    exact Nat.and_le_right
open Go.ChangeShapes Go.WideShapes in
set_option maxRecDepth 100000 in
theorem open_actG {H : Type} {enc : TypeId × Value → H} {W : World} {base : Nat} {v : Value} {x : DataW H × List MemPlace} (hv : Value.okWide Tryd.prog W .any base 64 v) (h : ∃ m, DataW.trod enc Tryd.prog W 0 (fun _ => true) true m 64 v.cells.toList = some x) :
    ∃ A : ActG, v = .agg (actC A) ∧ RngA A.row := by
  obtain ⟨cs, rfl, hsz⟩ := okWide_struct Tryd.underlying64 hv
  rw [cActG] at hsz
  obtain ⟨m, hm⟩ := h
  obtain ⟨A, he, hA⟩ := trod_actG hm (by simpa [Value.cells] using hsz)
  refine ⟨A, ?_, hA⟩
  congr 1
  apply Array.ext'
  simpa [Value.cells] using he
end Go.Proofs.YtmdnnpcofbhceaaDoor.K
