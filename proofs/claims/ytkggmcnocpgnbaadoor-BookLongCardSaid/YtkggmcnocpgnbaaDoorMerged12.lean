/- A book in memory. -/
import Derived.Test.YtkggmcnocpgnbaaDoorBQ
import Derived.Test.YtkggmcnocpgnbaaDoorMerged11
import Derived.Test.YtkggmcnocpgnbaaDoorRows
import Derived.RangeFuncBox
import Derived.RangeFuncNested
import Derived.RangeFuncBound
import Derived.RangeFuncCalls
import Derived.RangeFuncLeaves
import Derived.Shelf.Abstract
import Derived.Shelf.RegionOpen
import Derived.WalkKit
import Derived.WalkLawsBesides
import Derived.WalkSpells
import Derived.OwnWalkIn
import Derived.TacticsInMore
import Derived.LoopNIn
import Derived.LoopIn
import Derived.Maps.AppendAt
import Derived.Lib.Hide
import Derived.Outline
namespace Go.Proofs.YtkggmcnocpgnbaaDoor.K
open Go.RowKit

/-- a line, as it lies in a block -/
structure Lv where
  a : Option Addr
  n : Nat
  c : Nat
  ch : Nat
def lCells (u : Lv) : List Value := [.slice u.a u.n u.c, .int .i64 (u.ch : Int)]
def flatL (l : List Lv) : List Value := l.flatMap lCells
theorem flatL_append (a b : List Lv) : flatL (a ++ b) = flatL a ++ flatL b := List.flatMap_append ..
theorem flatL_get : ∀ (l : List Lv) (i j : Nat) (c : Lv), l[i]? = some c → j < 2 → (flatL l)[i * 2 + j]? = (lCells c)[j]?
  | [], _, _, _, h, _ => by cases h
  | d :: l, 0, j, c, h, hj => by
    obtain rfl : d = c := by simpa using h
    show (lCells d ++ flatL l)[0 * 2 + j]? = _
    rw [List.getElem?_append_left (by simp [lCells]; omega)]
    simp
  | d :: l, i + 1, j, c, h, hj => by
    show (lCells d ++ flatL l)[(i + 1) * 2 + j]? = _
    rw [List.getElem?_append_right (by simp [lCells]; omega)]
    have e : (i + 1) * 2 + j - (lCells d).length = i * 2 + j := by simp [lCells]; omega
    rw [e]
    exact flatL_get l i j c (by simpa using h) hj
theorem flatL_one (l : List Lv) : ∀ u ∈ flatL l, u.oneCell' = true := by
  intro u hu
  obtain ⟨c, _, hu⟩ := List.mem_flatMap.1 hu
  simp only [lCells, List.mem_cons, List.not_mem_nil, or_false] at hu
  rcases hu with rfl | rfl <;> rfl
/-- lines of our own -/
def OwnL (base : Nat) (v : Value) (l : List Lv) (w : World) : Prop := w.ownsRow base 110 2 v l.length (flatL l)
theorem OwnL.nil (base : Nat) (w : World) : OwnL base (.slice none 0 0) [] w := World.ownsRow_nil _ _ _ _
theorem OwnL.weaken {base base' : Nat} {v : Value} {l : List Lv} {w : World} (h : OwnL base v l w) (hb : base' ≤ base) : OwnL base' v l w := U.weaken h hb
theorem OwnL.own {base : Nat} {v : Value} {l : List Lv} {w : World} (h : OwnL base v l w) : ∀ q, v.ownBlock = some q → base ≤ q ∧ q < w.heap.size ∧ ∃ cs, w.heap[q]? = some (.cells cs 110 (0, 0)) := fun q hq => by
  obtain ⟨cs, h1, h2, h3⟩ := U.own_type h hq
  exact ⟨h2, h3, cs, h1⟩
theorem OwnL.moved {base : Nat} {v : Value} {l : List Lv} {w w' : World} (h : OwnL base v l w) (hv : ∀ q, v.ownBlock = some q → w'.heap[q]? = w.heap[q]?) : OwnL base v l w' := by
  refine ⟨h.1, ?_⟩
  rcases h.2 with h0 | ⟨g', c', cur, he, hbase, hgb, hc, hmx, hsz, ht⟩
  · exact .inl h0
  · exact .inr ⟨g', c', cur, he, hbase, (hv g' (by rw [he]; rfl)).trans hgb, hc, hmx, hsz, ht⟩
theorem OwnL.shape {base : Nat} {v : Value} {l : List Lv} {w : World} (h : OwnL base v l w) : ∃ a c, v = .slice a l.length c ∧ l.length ≤ c ∧ (c : Int) ≤ 9223372036854775807 ∧ (l = [] ∨ ∃ g, a = some ⟨g, 0, none⟩ ∧ g < w.heap.size ∧ ∀ i u, l[i]? = some u → w.cell? ⟨g, 0 + i * 2, none⟩ = some (.slice u.a u.n u.c) ∧ w.cell? ⟨g, 0 + i * 2 + 1, none⟩ = some (.int .i64 (u.ch : Int))) := by
  rcases h.2 with ⟨rfl, h0⟩ | ⟨g, cap, cur, rfl, hbase, hg, hc, hm, hs, ht⟩
  · exact ⟨none, 0, by rw [h0], by omega, by decide, .inl (List.length_eq_zero_iff.1 h0)⟩
  · refine ⟨some ⟨g, 0, none⟩, cap, rfl, hc, by unfold maxLen at hm; omega, .inr ⟨g, rfl, (Array.getElem?_eq_some_iff.1 hg).1, fun i c hi => ?_⟩⟩
    have hil : i < l.length := (List.getElem?_eq_some_iff.1 hi).1
    have hcell : ∀ j, j < 2 → w.cell? ⟨g, 0 + i * 2 + j, none⟩ = (lCells c)[j]? := fun j hj => by
      rw [Nat.zero_add, World.ownsRow.cellAt h (i * 2 + j) (by omega), flatL_get l i j c hi hj]
    exact ⟨hcell 0 (by decide), hcell 1 (by decide)⟩
theorem info_line : (Tryd.prog.info? 110).map (fun i => (i.zero, i.size, i.bytes)) = some (some (.agg #[.slice none 0 0, .int .i64 0]), 2, 32) := by kernel_rfl
theorem sl_line : Tryd.prog.underlying 97 = some (.slice 110) := Tryd.underlying97
/-- append of a slice of one line, just built -/
theorem wp_append_line {o : Oper} {z : Act} {w : World} {K : Act → World → Prop} {Q : Exit → Act → World → Prop} (s x : Operand)
    (ho : o.op = .call { callee := .builtin .append, args := #[s, x], argTypes := #[97, 97] }) (hty : o.type = 97)
    (base : Nat) (v : Value) (l : List Lv) (c : Lv) (p : Nat) (hs : z.eval s = v) (hxv : z.eval x = .slice (some ⟨p, 0, none⟩) 1 1) (hown : OwnL base v l w)
    (h0 : w.cell? ⟨p, 0, none⟩ = some (.slice c.a c.n c.c)) (h1 : w.cell? ⟨p, 1, none⟩ = some (.int .i64 (c.ch : Int))) (hl : (l.length : Int) ≤ 1000000) (hbase : base ≤ w.heap.size)
    (hK : ∀ v' w', OwnL base v' (l ++ [c]) w' → OwnL base v l w' → w.grownBy w' v.ownBlock → (∀ q, v'.ownBlock = some q → v.ownBlock = some q ∨ w.heap.size ≤ q) → K (z.put o.dst v') w') : o.wp Tryd.prog z w K Q := by
  obtain ⟨i0, hi, hz0, hz1, hz2⟩ := info_parts info_line
  have hmul : (l.length + 1) * 32 ≤ 140737488355328 := Nat.le_trans (Nat.mul_le_mul (show l.length + 1 ≤ 2000000 by omega) (Nat.le_refl 32)) (by decide)
  have hnews : ∀ j u, (lCells c)[j]? = some u → w.cell? ((⟨p, 0, none⟩ : Addr).add j) = some u := fun j u hj => by
    have hadd : ((⟨p, 0, none⟩ : Addr).add j) = ⟨p, 0 + j, none⟩ := by unfold Addr.add; split <;> simp_all
    rw [hadd, Nat.zero_add]
    match j, hj with
    | 0, hj => rw [show u = .slice c.a c.n c.c by simpa [lCells] using hj.symm]; exact h0
    | 1, hj => rw [show u = .int .i64 (c.ch : Int) by simpa [lCells] using hj.symm]; exact h1
    | n + 2, hj => simp [lCells] at hj
  obtain ⟨v', w', hr, g⟩ := U.append_grew (P := Tryd.prog) w 97 97 110 i0 _ 2 32 sl_line hi hz0 hz1 hz2 rfl (by decide) base v l.length (flatL l) hown ⟨p, 0, none⟩ 1 1 (lCells c) rfl hnews (fun u hu => flatL_one [c] u (by simpa [flatL] using hu)) (by unfold maxLen; omega) hmul hbase
  unfold Oper.wp execOp
  simp only [ho, hty, resolve, invoke, builtin, Sem.run_bind, Sem.run_pure, Result.andThen_ok, List.map_toArray, List.map_cons, List.map_nil, hs, hxv, hr]
  refine hK v' w' ?_ (g.keeps v l.length (flatL l) (List.prefix_append _ _) hown) g.grown g.block
  have e : flatL (l ++ [c]) = flatL l ++ lCells c := by rw [flatL_append]; simp [flatL]
  unfold OwnL
  rw [e, List.length_append]
  exact g.own
theorem keepB_of {w w' : World} {r : Option Nat} (hg : w.grownBy w' r) : KeepB r.toList w w' := ⟨hg.os, hg.tape, hg.output, hg.size, fun i hi hn => hg.block i hi (fun e => hn (by rw [← e]; simp))⟩
/-- what the lines' cells are, and the chain of each -/
structure LinesV (us : List Lv) (L : List (List (Int × Int))) (w : World) : Prop where
  len : us.length = L.length
  at_ : ∀ (i : Nat) (u : Lv) (l : List (Int × Int)), us[i]? = some u → L[i]? = some l → PairsIn .i32 u.a u.n u.c l w ∧ (u.a = none → u.c = 0) ∧ u.ch = chainB (L.take (i + 1))
/-- the book of block b; M: the blocks that its calls change -/
structure BoAt (b : Nat) (M N : List Nat) (x : Bk) (vl vb : Value) (us : List Lv) (w : World) : Prop where
  bb : w.heap[b]? = some (.cells #[vl, vb] 99 (0, 0))
  own : OwnL 0 vl us w
  q : OwnQ .i32 61 0 vb x.G w
  lv : LinesV us x.L w
  off : ∀ u ∈ us, ∀ p o, u.a = some ⟨p, o, none⟩ → p ∉ M ∧ p ∉ N
  nt : ∀ q ∈ N, q < w.heap.size
  lt : ∀ u ∈ us, ∀ p o, u.a = some ⟨p, o, none⟩ → p < w.heap.size
  bm : b ∈ M
  lm : ∀ q, vl.ownBlock = some q → q ∈ M
  qm : ∀ q, vb.ownBlock = some q → q ∈ M
  ty : ∀ p ∈ M, p < w.heap.size ∧ ∃ cs T, w.heap[p]? = some (.cells cs T (0, 0)) ∧ (T = 99 ∨ T = 110 ∨ T = 61)
def Bo (b : Nat) (M N : List Nat) (x : Bk) (w : World) : Prop := ∃ vl vb us, BoAt b M N x vl vb us w
theorem PairsIn.blocks {rk : IntKind} {a : Option Addr} {n c : Nat} {gs : List (Int × Int)} {w w' : World} (h : PairsIn rk a n c gs w) (hs : w.heap.size ≤ w'.heap.size) (hk : ∀ b off, a = some ⟨b, off, none⟩ → b < w.heap.size → w'.heap[b]? = w.heap[b]?) : PairsIn rk a n c gs w' := by
  refine ⟨h.len, h.fit, h.top, h.at_.imp id ?_⟩
  rintro ⟨b, off, ha, hl, hi⟩
  have hk' := hk b off ha hl
  exact ⟨b, off, ha, Nat.lt_of_lt_of_le hl hs, fun i u hu => ⟨(World.cell?_of_block (a := ⟨b, off + i * 2, none⟩) hk').trans (hi i u hu).1, (World.cell?_of_block (a := ⟨b, off + i * 2 + 1, none⟩) hk').trans (hi i u hu).2⟩⟩
theorem LinesV.moved {us : List Lv} {L : List (List (Int × Int))} {w w' : World} (h : LinesV us L w) (hs : w.heap.size ≤ w'.heap.size) (hk : ∀ u ∈ us, ∀ b off, u.a = some ⟨b, off, none⟩ → b < w.heap.size → w'.heap[b]? = w.heap[b]?) : LinesV us L w' :=
  ⟨h.len, fun i u l hu hl => by
    obtain ⟨h1, h2, h3⟩ := h.at_ i u l hu hl
    exact ⟨h1.blocks hs (hk u (List.mem_of_getElem? hu)), h2, h3⟩⟩
theorem BoAt.moved {b : Nat} {M N : List Nat} {x : Bk} {vl vb : Value} {us : List Lv} {w w' : World} (h : BoAt b M N x vl vb us w) (hs : w.heap.size ≤ w'.heap.size) (hM : ∀ p ∈ M, w'.heap[p]? = w.heap[p]?) (hk : ∀ u ∈ us, ∀ b off, u.a = some ⟨b, off, none⟩ → b < w.heap.size → w'.heap[b]? = w.heap[b]?) : BoAt b M N x vl vb us w' :=
  ⟨(hM b h.bm).trans h.bb, h.own.moved (fun q hq => hM q (h.lm q hq)), h.q.moved (fun q hq => hM q (h.qm q hq)), h.lv.moved hs hk, h.off, (fun q hq => Nat.lt_of_lt_of_le (h.nt q hq) hs), (fun u hu p o e => Nat.lt_of_lt_of_le (h.lt u hu p o e) hs), h.bm, h.lm, h.qm, fun p hp => by
    obtain ⟨h1, cs, T, h2, h3⟩ := h.ty p hp
    exact ⟨Nat.lt_of_lt_of_le h1 hs, cs, T, (hM p hp).trans h2, h3⟩⟩
theorem Bo.below {b : Nat} {M N : List Nat} {x : Bk} {w w' : World} (h : Bo b M N x w) (hb : Below w.heap.size w w') : Bo b M N x w' := by
  obtain ⟨vl, vb, us, h⟩ := h
  exact ⟨vl, vb, us, h.moved hb.size (fun p hp => hb.block p (h.ty p hp).1) (fun u _ b o _ hl => hb.block b hl)⟩
theorem Bo.lt {b : Nat} {M N : List Nat} {x : Bk} {w : World} (h : Bo b M N x w) : ∀ p ∈ M, p < w.heap.size := by
  obtain ⟨vl, vb, us, h⟩ := h
  exact fun p hp => (h.ty p hp).1
theorem BoAt.c0 {b : Nat} {M N : List Nat} {x : Bk} {vl vb : Value} {us : List Lv} {w : World} (h : BoAt b M N x vl vb us w) : w.cell? ⟨b, 0, none⟩ = some vl := by rw [cell_block h.bb]; rfl
theorem BoAt.c1 {b : Nat} {M N : List Nat} {x : Bk} {vl vb : Value} {us : List Lv} {w : World} (h : BoAt b M N x vl vb us w) : w.cell? ⟨b, 1, none⟩ = some vb := by rw [cell_block h.bb]; rfl
theorem BoAt.fr {b : Nat} {M N : List Nat} {x : Bk} {vl vb : Value} {us : List Lv} {w : World} (h : BoAt b M N x vl vb us w) (o : Nat) : w.frozen? ⟨b, o, none⟩ = false := frozen_block h.bb o
theorem Bo.new (w : World) : Bo w.heap.size [w.heap.size] [] ⟨[], []⟩ (w.alloc (.cells #[.slice none 0 0, .slice none 0 0] 99)) := by
  have hb := heap_alloc_new w (.cells #[.slice none 0 0, .slice none 0 0] 99)
  refine ⟨_, _, [], hb, OwnL.nil _ _, OwnQ.nil _ _ _ _, ⟨rfl, fun i u l h => by cases h⟩, (fun u h => by cases h), (fun q h => by cases h), (fun u h => by cases h), List.mem_singleton.2 rfl, (fun q e => by cases e), (fun q e => by cases e), fun p hp => ?_⟩
  rw [List.mem_singleton.1 hp]
  exact ⟨by simp, _, _, hb, .inl rfl⟩
/-- what changes in blocks that are apart from the book's and the lines', and others that are apart then -/
theorem Bo.grew {b : Nat} {M N : List Nat} {x : Bk} {w w' : World} (h : Bo b M N x w) {R : List Nat} (hk : KeepB R w w') (hR : ∀ q ∈ R, q ∈ N ∧ q ∉ M) (N' : List Nat) (h1 : ∀ q ∈ N', q ∈ N ∨ w.heap.size ≤ q) (h2 : ∀ q ∈ N', q < w'.heap.size) : Bo b M N' x w' := by
  have hl := h
  obtain ⟨vl, vb, us, h⟩ := hl
  have k := h.moved hk.size (fun p hp => hk.block p (h.ty p hp).1 (fun hm => (hR p hm).2 hp)) (fun u hu p o e hl => hk.block p hl (fun hm => (h.off u hu p o e).2 (hR p hm).1))
  refine ⟨vl, vb, us, k.bb, k.own, k.q, k.lv, fun u hu p o e => ⟨(h.off u hu p o e).1, fun hm => ?_⟩, h2, k.lt, k.bm, k.lm, k.qm, k.ty⟩
  rcases h1 p hm with h3 | h3
  · exact (h.off u hu p o e).2 h3
  · have := h.lt u hu p o e
    omega
end Go.Proofs.YtkggmcnocpgnbaaDoor.K

/- The iterator num.digits: it hands on just a number's bytes; and the contract of num.Size. -/
namespace Go.Proofs.YtkggmcnocpgnbaaDoor.I
open Go.RowKit Go.Shelf

attribute [local go_sem] Oper.semAt_some

theorem ret_int {k : IntKind} {a b : Int} (h : a = b) : Ending.returned (.int k a) = .returned (.int k b) := by rw [h]
theorem clip_eq {v x : Int} (h : x = if (4611686018427387904 : Int) < (if v < 0 then 0 else v) then 4611686018427387904 else if v < 0 then 0 else v) : x = ((clipN v : Nat) : Int) := by
  rw [h]
  unfold clipN top
  split <;> split <;> omega
theorem clip_any (v : Int) (w : World) : Calls Tryd.prog 113 #[.int .i64 v] w fun e w' => e = .returned (.int .i64 ((clipN v : Nat) : Int)) ∧ w = w' := by
  go_enter Tryd.func113, Tryd.ntmps113
  go_wp2
  all_goals go_ret
  all_goals first
    | (refine ⟨ret_int ?_, rfl⟩; unfold clipN top; omega)
    | (refine ⟨ret_int (clip_eq ?_), rfl⟩
       first
       | (have h : (4611686018427387904 : Int) < (if v < 0 then 0 else v) := by assumption
          rw [if_pos h])
       | (have h : (if v < 0 then 0 else v) ≤ (4611686018427387904 : Int) := by assumption
          rw [if_neg (by omega)]
          first | rw [if_pos (by assumption)] | rw [if_neg (by omega)]))

set_option maxRecDepth 100000 in
set_option maxHeartbeats 1000000 in
theorem digits1_in (n : Nat) (hn : 1 ≤ n) (l Bn n₀ : Nat) (v : Int) (J Jx : List UInt8 → World → Prop)
    (hY : ∀ pre x W, J pre W → pre.length < (digs (clipN v)).length → YieldAt Fence.wide (n - 1) Tryd.prog l #[.int .u8 (x.toNat : Int)] W fun e W' =>
      (e = .returned (.bool true) ∧ J (pre ++ [x]) W' ∧ Below n₀ W W') ∨ (e = .returned (.bool false) ∧ Jx (pre ++ [x]) W'))
    (W : World) (hBn : W.cell? ⟨Bn, 0, none⟩ = some (.int .i64 v)) (h0 : J [] W) :
    CallsIn Fence.wide n Tryd.prog 112 #[.func (.yield l) #[] #[], .pointer (some ⟨Bn, 0, none⟩)] W fun e W' => (∃ v, e = .returned v) ∧
      ((∃ ys, ys = digs (clipN v) ∧ J ys W') ∨ (∃ pre, pre <+: digs (clipN v) ∧ Jx pre W')) := by
  refine callsIn_of_wp Tryd.func112 rfl trivial ?_ rfl
  simp only [Tryd.ntmps112, List.size_toArray, List.length_cons, List.length_nil, Nat.reduceAdd, Nat.reduceSub, Array.replicate_succ, Array.replicate_zero, List.push_toArray, List.append_toArray, List.nil_append, List.cons_append]
  obtain ⟨L, hL⟩ : ∃ L, digs (clipN v) = L := ⟨_, rfl⟩
  rw [hL] at hY ⊢
  have HL := Lib.hid hL
  have HY := Lib.hid hY
  clear hL hY
  gi_wp2_with (refine ⟨trivial, ?_⟩; gi_at_call 113; refine (callsIn_wide.2 (clip_any v _)).mono ?_; rintro e w' ⟨rfl, rfl⟩)
  obtain ⟨m0, hm0⟩ : ∃ m0, clipN v = m0 := ⟨_, rfl⟩
  have hm0top : (m0 : Int) ≤ 9223372036854775807 := by have := clipN_le v; rw [hm0] at this; unfold top at this; omega
  rw [hm0]
  rw [hm0] at HL
  clear hm0
  gi_loopw [3] (fun p wr => ∃ (pre : List UInt8) (m : Nat), p = .int .i64 m ∧ (m : Int) ≤ 9223372036854775807 ∧ Hid (L = pre ++ digs m) ∧ Hid (J pre wr)) (fun p _ => (intOf p).toNat)
  case atStart => exact ⟨[], m0, rfl, hm0top, Lib.hid (by rw [HL.out]; rfl), Lib.hid h0⟩
  case round =>
    rename_i wr _
    obtain ⟨pre, m, rfl, hm, HLp, HJ⟩ := hrel
    by_cases hb : m < 128
    · have hL1 : L = pre ++ [UInt8.ofNat m] := by rw [HLp.out, digs_small hb]
      obtain ⟨fn, tmps, assign, body, hy, hR⟩ := HY.out pre (UInt8.ofNat m) wr HJ.out (by rw [hL1]; simp)
      have ex : ((UInt8.ofNat m).toNat : Int) = (m : Int) := by simp; omega
      rw [ex] at hy
      have HL1 := Lib.hid hL1
      have HR := Lib.hid hR
      clear hL1 ex hR
      gi_wp2
      refine HR.out.mono ?_
      rintro e W' (⟨rfl, hJ', hk⟩ | ⟨rfl, hJx'⟩)
      · gi_wp2
        go_end0
        exact ⟨⟨_, rfl⟩, .inl ⟨_, HL1.out.symm, hJ'⟩⟩
      · gi_wp2
        go_end0
        exact ⟨⟨_, rfl⟩, .inr ⟨_, by rw [HL1.out]; exact List.prefix_refl _, hJx'⟩⟩
    · have hL1 : L = (pre ++ [UInt8.ofNat (m % 128 + 128)]) ++ digs (m / 128) := by rw [HLp.out, digs_big hb]; simp
      obtain ⟨fn, tmps, assign, body, hy, hR⟩ := HY.out pre (UInt8.ofNat (m % 128 + 128)) wr HJ.out (by rw [hL1]; simp)
      have e1 := i64_and127 (m : Int)
      have e2 := low_byte m
      rw [← e2] at hy
      have HL1 := Lib.hid hL1
      have HR := Lib.hid hR
      clear hL1 hR e2
      gi_wp2
      refine HR.out.mono ?_
      rintro e W' (⟨rfl, hJ', hk⟩ | ⟨rfl, hJx'⟩)
      · have HJ' := Lib.hid hJ'
        clear hJ' hk
        gi_wp2
        go_roundw
        case rel => exact ⟨pre ++ [UInt8.ofNat (m % 128 + 128)], m / 128, by go_num, by omega, HL1, HJ'⟩
        case measure => simp [intOf]; omega
      · gi_wp2
        refine bodyPost_ret (results_none rfl _ _ _) rfl ?_
        exact ⟨⟨_, rfl⟩, .inr ⟨_, by rw [HL1.out]; exact List.prefix_append _ _, hJx'⟩⟩

theorem digits_in (n : Nat) (v : Int) (w : World) :
    CallsIn Fence.wide n Tryd.prog 90 #[.int .i64 v] w fun e w' => e = .returned (.func (.func 112) #[] #[.pointer (some ⟨w.heap.size, 0, none⟩)]) ∧ w' = w.alloc (.cells #[.int .i64 v] 3) := by
  refine callsIn_of_wp Tryd.func90 rfl trivial ?_ rfl
  simp only [Tryd.ntmps90, List.size_toArray, List.length_cons, List.length_nil, Nat.reduceAdd, Nat.reduceSub, Array.replicate_succ, Array.replicate_zero, List.push_toArray, List.append_toArray, List.nil_append, List.cons_append]
  gi_wp2
  go_ret
  exact ⟨rfl, rfl⟩

theorem digits_stops (n : Nat) (hn : 1 ≤ n) (Bn n₀ : Nat) (v : Int) (w : World) (hBn : Bn < w.heap.size) (hc : w.cell? ⟨Bn, 0, none⟩ = some (.int .i64 v)) :
    SeqStopsK Fence.wide n Tryd.prog 112 #[.pointer (some ⟨Bn, 0, none⟩)] (fun x : UInt8 => #[Value.int .u8 (x.toNat : Int)]) (Below n₀) (fun ys => ys = digs (clipN v)) (fun pre => pre <+: digs (clipN v)) (digs (clipN v)).length w := fun l J Jx W hW _ _ hY h0 =>
  digits1_in n hn l Bn n₀ v J Jx hY W ((hW.cell (p := ⟨Bn, 0, none⟩) hBn).trans hc) h0

end Go.Proofs.YtkggmcnocpgnbaaDoor.I
