/- Append of pairs that come as another type of slice. -/
import Derived.Test.YtkggmcnocpgnbaaDoorBQ
import Derived.Test.YtkggmcnocpgnbaaDoorMerged11
import Derived.Test.YtkggmcnocpgnbaaDoorMerged13
import Derived.Lib.QuietBelow
import Derived.BigQuiet
import Derived.Laws.ResultCell
import Derived.Test.YtkggmcnocpgnbaaDoorMerged1
namespace Go.Proofs.YtkggmcnocpgnbaaDoor.K
open Go.RowKit

theorem run_append_q2 {rk : IntKind} {t t2 T : TypeId} {bytes : Nat} (hI : PairT rk t T bytes) (ht2 : Tryd.prog.underlying t2 = some (.slice T)) (base : Nat) (v : Value) (l : List (Int × Int)) (a : Option Addr) (m c : Nat) (l2 : List (Int × Int)) (w : World) (hown : OwnQ rk T base v l w) (h : PairsIn rk a m c l2 w) (h1 : (l.length : Int) ≤ 1000000) (h2 : (l2.length : Int) ≤ 1000000) (hbase : base ≤ w.heap.size) :
    ∃ v' w', (Builtin.append_ #[t, t2] t #[v, .slice a m c]).run Tryd.prog w = .ok v' w' ∧ GrewQ rk T base v (l ++ l2) w v' w' := by
  obtain ⟨i0, hi, hz0, hz1, hz2⟩ := info_parts hI.info
  have hown0 := hown
  have hl := h.len
  have hb := hI.small
  have hsrc := h.src ht2
  have hsrc' : Src Tryd.prog i0.size t2 (.slice a m c) m (flatP rk l2) w := by rw [hz1]; exact hsrc
  have hmul : (l.length + m) * i0.bytes ≤ 140737488355328 := by rw [hz2]; exact Nat.le_trans (Nat.mul_le_mul (show l.length + m ≤ 2000000 by omega) hb) (by decide)
  have hmx : l.length + m ≤ maxLen := by unfold maxLen; omega
  -- a new block
  have grow : ∀ (bs : Option Addr) (sc : Nat), v = .slice bs l.length sc → sc < l.length + m → (Builtin.firstCells i0.size l.length (.slice bs l.length sc)).run Tryd.prog w.drew = .ok (flatP rk l).toArray w.drew →
      ∃ v' w', (Builtin.append_ #[t, t2] t #[v, .slice a m c]).run Tryd.prog w = .ok v' w' ∧ GrewQ rk T base v (l ++ l2) w v' w' := by
    rintro bs sc rfl hg hold
    have hrun := run_append_grow_src (P := Tryd.prog) w t t2 t T i0 _ hI.slice hi hz0 bs l.length sc (flatP rk l) hold (.slice a m c) m (flatP rk l2) hsrc' hg (by unfold maxLen at hmx; omega) (growslice_fits hg hmul)
    have hge := grownCap_ge w (l.length + m) sc T
    have hcm := grownCap_le_maxLen w (l.length + m) sc T hmx
    refine ⟨_, _, hrun, .inr ⟨w.heap.size, 0, _, _, by rw [List.length_append, ← hl], hbase, heap_alloc_new w.drew _, by rw [List.length_append, ← hl]; omega, hcm, ?_, fun j u hj => ?_⟩, ⟨rfl, rfl, rfl, by simp, fun k hk _ => Below.heap_alloc w.drew _ k hk⟩, fun q hq => .inr ?_, fun q hq => by
      obtain ⟨-, h8, cs, h9⟩ := hown0.own q hq
      exact ⟨cs, (Below.heap_alloc w.drew _ q h8).trans h9⟩⟩
    · simp only [Array.size_append, List.size_toArray, List.length_append, size_zeroCells, flatP_len, show (Value.agg #[.int rk 0, .int .i64 0]).cells.size = 2 from rfl]
      omega
    · have e1 : (w.drew.alloc (.cells ((flatP rk l ++ flatP rk l2).toArray ++ Builtin.zeroCells (Value.agg #[.int rk 0, .int .i64 0]).cells (grownCap w (l.length + m) sc T - (l.length + m))) T)).cell? ⟨w.heap.size, 0 + j, none⟩ = _ := World.cell?_alloc_new w.drew _ _ (0 + j)
      rw [flatP_append] at hj
      rw [e1, Nat.zero_add, Array.getElem?_append_left (by simp only [List.size_toArray]; exact (List.getElem?_eq_some_iff.1 hj).1), List.getElem?_toArray, hj]
    · have : q = w.heap.size := by simpa [Value.ownBlock] using hq.symm
      omega
  rcases hown with ⟨rfl, rfl⟩ | ⟨g, off, cap, cs, rfl, k1, k2, k3, k4, k5, k6⟩
  · by_cases hm : m = 0
    · subst hm
      have h0 : l2 = [] := List.length_eq_zero_iff.1 hl.symm
      subst h0
      exact ⟨_, _, run_append_nothing (P := Tryd.prog) w t t2 t T i0 hI.slice hi none 0 0 (Nat.le_refl _) _ hsrc', .inl ⟨rfl, rfl⟩, ⟨rfl, rfl, rfl, Nat.le_refl _, fun _ _ _ => rfl⟩, (fun q hq => by cases hq), fun q hq => by cases hq⟩
    · exact grow none 0 rfl (by simp; omega) (by
        have := run_firstCells_none (P := Tryd.prog) w.drew i0.size 0 0 0
        simpa [flatP] using this)
  · by_cases hroom : l.length + m ≤ cap
    · have hrun := run_append_room_src (P := Tryd.prog) w t t2 t T i0 hI.slice hi g off l.length cap (.slice a m c) m (flatP rk l2) hsrc' hroom (fun j hj => by
        rw [flatP_len, ← hl] at hj
        rw [cell_block k2, Array.getElem?_eq_getElem (by rw [hz1]; omega)]
        rfl) (fun j _ => frozen_block k2 _)
      rw [hz1] at hrun
      obtain ⟨cs', e1, e2⟩ := heap_setCells g (flatP rk l2) (off + l.length * 2) w cs T (0, 0) k2
      refine ⟨_, _, hrun, .inr ⟨g, off, cap, cs', by rw [List.length_append, ← hl], k1, e1, by rw [List.length_append, ← hl]; exact hroom, k4, by rw [e2]; exact k5, fun j u hj => ?_⟩, grown_setCells g _ _ w, (fun q hq => .inl hq), fun q hq => by
        obtain rfl : g = q := by simpa [Value.ownBlock] using hq
        exact ⟨cs', e1⟩⟩
      rw [flatP_append] at hj
      by_cases hjl : j < (flatP rk l).length
      · rw [List.getElem?_append_left hjl] at hj
        rw [World.cell?_setCells_out g _ _ _ _ (fun _ _ => Or.inl (by show off + j < off + l.length * 2; rw [flatP_len] at hjl; omega))]
        exact k6 j u hj
      · rw [List.getElem?_append_right (by omega)] at hj
        have hj2 : j - (flatP rk l).length < (flatP rk l2).length := (List.getElem?_eq_some_iff.1 hj).1
        have h9 := World.cell?_setCells_in g (flatP rk l2) (off + l.length * 2) w (fun j hj => by
          rw [flatP_len, ← hl] at hj
          rw [cell_block k2, Array.getElem?_eq_getElem (by omega)]
          rfl) (j - (flatP rk l).length) hj2
        rw [List.getElem?_eq_getElem hj2] at hj
        rw [hj] at h9
        rw [show off + l.length * 2 + (j - (flatP rk l).length) = off + j by rw [flatP_len] at hjl ⊢; omega] at h9
        exact h9
    · refine grow (some ⟨g, off, none⟩) cap rfl (by omega) ?_
      refine run_firstCells_some (P := Tryd.prog) w.drew i0.size l.length ⟨g, off, none⟩ l.length cap (flatP rk l) (by rw [flatP_len, hz1]) (fun j u hj => ?_)
      have hadd : ((⟨g, off, none⟩ : Addr).add j) = ⟨g, off + j, none⟩ := by unfold Addr.add; split <;> simp_all
      rw [hadd]
      exact k6 j u hj
theorem wp_append_q2 {rk : IntKind} {t t2 T : TypeId} {bytes : Nat} (hI : PairT rk t T bytes) (ht2 : Tryd.prog.underlying t2 = some (.slice T)) {o : Oper} {z : Act} {w : World} {K : Act → World → Prop} {Q : Exit → Act → World → Prop} (s x : Operand)
    (ho : o.op = .call { callee := .builtin .append, args := #[s, x], argTypes := #[t, t2] }) (hty : o.type = t)
    (base : Nat) (v : Value) (l : List (Int × Int)) (a : Option Addr) (m c : Nat) (l2 : List (Int × Int)) (hs : z.eval s = v) (hxv : z.eval x = .slice a m c) (hown : OwnQ rk T base v l w) (h : PairsIn rk a m c l2 w) (h1 : (l.length : Int) ≤ 1000000) (h2 : (l2.length : Int) ≤ 1000000) (hbase : base ≤ w.heap.size)
    (hK : ∀ v' w', GrewQ rk T base v (l ++ l2) w v' w' → K (z.put o.dst v') w') : o.wp Tryd.prog z w K Q := by
  obtain ⟨v', w', hr, k1⟩ := run_append_q2 hI ht2 base v l a m c l2 w hown h h1 h2 hbase
  unfold Oper.wp execOp
  simp only [ho, hty, resolve, invoke, builtin, Sem.run_bind, Sem.run_pure, Result.andThen_ok, List.map_toArray, List.map_cons, List.map_nil, hs, hxv, hr]
  exact hK v' w' k1
end Go.Proofs.YtkggmcnocpgnbaaDoor.K

/- A line out of bytes, as the program and the document read it. -/
namespace Go.Proofs.YtkggmcnocpgnbaaDoor.K
open Go.RowKit Go.Proofs.YtkggmcnocpgnbaaDoor.I

end Go.Proofs.YtkggmcnocpgnbaaDoor.K

/- The contracts of the document's own reader: Read, Raw, ReadText, End. -/
namespace Go.Proofs.YtkggmcnocpgnbaaDoor.I
open Go.RowKit

end Go.Proofs.YtkggmcnocpgnbaaDoor.I

/- The contract of the document's Read of a line. -/
namespace Go.Proofs.YtkggmcnocpgnbaaDoor.K
open Go.RowKit Go.Proofs.YtkggmcnocpgnbaaDoor.I

structure RdI (rb : Nat) (s : ByteArray) (e : Nat) (w wr : World) : Prop where
  below : Below rb w wr
  i : wr.heap[rb]? = some (.cells #[.string s, .int .i64 (e : Int)] 52 (0, 0))
  o : wr.heap[rb + 1]? = some (.cells #[.string ⟨#[]⟩, .int .i64 0] 52 (0, 0))
section
variable {rb : Nat} {s s' : ByteArray} {e e' : Nat} {w wr w' : World}
theorem RdI.size (h : RdI rb s e w wr) : rb + 2 ≤ wr.heap.size := (Array.getElem?_eq_some_iff.1 h.o).1
theorem RdI.more (h : RdI rb s e w wr) (hb : Below (rb + 2) wr w') : RdI rb s e w w' :=
  ⟨h.below.trans (hb.mono (by omega)), (hb.block rb (by omega)).trans h.i, (hb.block (rb + 1) (by omega)).trans h.o⟩
theorem RdI.set (h : RdI rb s e w wr) (s' : ByteArray) (e' : Nat) : RdI rb s' e' w ((wr.setCell ⟨rb, 0, none⟩ (.string s')).setCell ⟨rb, 1, none⟩ (.int .i64 (e' : Int))) := by
  refine ⟨(h.below.setCell (p := ⟨rb, 0, none⟩) (Nat.le_refl _) _).setCell (p := ⟨rb, 1, none⟩) (Nat.le_refl _) _, by simp [World.setCell, Array.getElem?_modify, h.i], ?_⟩
  rw [Below.heap_setCell _ _ _ _ (by show rb + 1 ≠ rb; omega), Below.heap_setCell _ _ _ _ (by show rb + 1 ≠ rb; omega)]
  exact h.o
end
theorem lineT : PairT .i64 31 63 16 := ⟨Tryd.underlying31, by kernel_rfl, by decide⟩
end Go.Proofs.YtkggmcnocpgnbaaDoor.K
