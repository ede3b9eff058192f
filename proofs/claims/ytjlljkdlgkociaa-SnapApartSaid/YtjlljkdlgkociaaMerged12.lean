/- Pairs of our own that begin anywhere in their block; some put behind them. -/
import Derived.Test.YtjlljkdlgkociaaMerged8
import Derived.Test.YtjlljkdlgkociaaMerged10
import Derived.Deep.AppendSrc
import Derived.Deep.Upon
import Derived.Laws.BitsAllLaws
import Derived.Laws.Bits128
namespace Go.Proofs.Ytjlljkdlgkociaa.K
open Go.RowKit

/-- pairs of our own, from anywhere in their block on -/
def OwnQ (rk : IntKind) (T : TypeId) (base : Nat) (v : Value) (l : List (Int × Int)) (w : World) : Prop :=
  (v = .slice none 0 0 ∧ l = []) ∨ ∃ g off cap cs, v = .slice (some ⟨g, off, none⟩) l.length cap ∧ base ≤ g ∧ w.heap[g]? = some (.cells cs T (0, 0)) ∧ l.length ≤ cap ∧ cap ≤ maxLen ∧ off + cap * 2 ≤ cs.size ∧
    ∀ j u, (flatP rk l)[j]? = some u → w.cell? ⟨g, off + j, none⟩ = some u
theorem OwnQ.nil (rk : IntKind) (T : TypeId) (base : Nat) (w : World) : OwnQ rk T base (.slice none 0 0) [] w := .inl ⟨rfl, rfl⟩
theorem OwnQ.own {rk : IntKind} {T : TypeId} {base : Nat} {v : Value} {l : List (Int × Int)} {w : World} (h : OwnQ rk T base v l w) : ∀ q, v.ownBlock = some q → base ≤ q ∧ q < w.heap.size ∧ ∃ cs, w.heap[q]? = some (.cells cs T (0, 0)) := fun q hq => by
  rcases h with ⟨rfl, -⟩ | ⟨g, off, cap, cs, rfl, h1, h2, -⟩
  · cases hq
  · obtain rfl : g = q := by simpa [Value.ownBlock] using hq
    exact ⟨h1, (Array.getElem?_eq_some_iff.1 h2).1, cs, h2⟩
theorem OwnQ.moved {rk : IntKind} {T : TypeId} {base : Nat} {v : Value} {l : List (Int × Int)} {w w' : World} (h : OwnQ rk T base v l w) (hv : ∀ q, v.ownBlock = some q → w'.heap[q]? = w.heap[q]?) : OwnQ rk T base v l w' := by
  rcases h with h | ⟨g, off, cap, cs, rfl, h1, h2, h3, h4, h5, h6⟩
  · exact .inl h
  · have e := hv g rfl
    exact .inr ⟨g, off, cap, cs, rfl, h1, e.trans h2, h3, h4, h5, fun j u hj => (World.cell?_of_block (a := ⟨g, off + j, none⟩) e).trans (h6 j u hj)⟩
theorem OwnQ.keptB {rk : IntKind} {T : TypeId} {base : Nat} {v : Value} {l : List (Int × Int)} {M : List Nat} {w w' : World} (h : OwnQ rk T base v l w) (hk : KeepB M w w') (hv : ∀ q, v.ownBlock = some q → q ∉ M) : OwnQ rk T base v l w' :=
  h.moved (fun q hq => hk.block q (h.own q hq).2.1 (hv q hq))
theorem OwnQ.below {rk : IntKind} {T : TypeId} {base : Nat} {v : Value} {l : List (Int × Int)} {w w' : World} (h : OwnQ rk T base v l w) (hb : Below w.heap.size w w') : OwnQ rk T base v l w' :=
  h.moved (fun q hq => hb.block q (h.own q hq).2.1)
theorem OwnQ.weaken {rk : IntKind} {T : TypeId} {base base' : Nat} {v : Value} {l : List (Int × Int)} {w : World} (h : OwnQ rk T base v l w) (hb : base' ≤ base) : OwnQ rk T base' v l w := by
  rcases h with h | ⟨g, off, cap, cs, rfl, h1, h2⟩
  · exact .inl h
  · exact .inr ⟨g, off, cap, cs, rfl, Nat.le_trans hb h1, h2⟩
theorem OwnQ.shape {rk : IntKind} {T : TypeId} {base : Nat} {v : Value} {l : List (Int × Int)} {w : World} (h : OwnQ rk T base v l w) : ∃ a c, v = .slice a l.length c ∧ PairsIn rk a l.length c l w ∧ (a = none → c = 0) ∧ (∀ b off, a = some ⟨b, off, none⟩ → v.ownBlock = some b) := by
  rcases h with ⟨rfl, rfl⟩ | ⟨g, off, cap, cs, rfl, h1, h2, h3, h4, h5, h6⟩
  · exact ⟨none, 0, rfl, ⟨rfl, Nat.le_refl _, by decide, .inl rfl⟩, fun _ => rfl, fun b off e => by cases e⟩
  · refine ⟨_, cap, rfl, ⟨rfl, h3, by unfold maxLen at h4; omega, .inr ⟨g, off, rfl, (Array.getElem?_eq_some_iff.1 h2).1, fun i c hi => ?_⟩⟩, (fun e => by cases e), (fun b o e => by cases e; rfl)⟩
    have hc : ∀ j, j < 2 → w.cell? ⟨g, off + i * 2 + j, none⟩ = (pCells rk c)[j]? := fun j hj => by
      obtain ⟨u, hu⟩ : ∃ u, (pCells rk c)[j]? = some u := ⟨_, List.getElem?_eq_getElem (by simp [pCells]; omega)⟩
      rw [hu, Nat.add_assoc, h6 (i * 2 + j) u (by rw [flatP_get rk l i j c hi hj, hu])]
    exact ⟨hc 0 (by decide), hc 1 (by decide)⟩
theorem OwnP.toQ {rk : IntKind} {T : TypeId} {base : Nat} {v : Value} {l : List (Int × Int)} {w : World} (h : OwnP rk T base v l w) : OwnQ rk T base v l w := by
  rcases h.2 with ⟨rfl, h0⟩ | ⟨g, cap, cur, rfl, hbase, hg, hc, hm, hs, ht⟩
  · exact .inl ⟨rfl, List.length_eq_zero_iff.1 h0⟩
  · refine .inr ⟨g, 0, cap, cur, rfl, hbase, hg, hc, hm, by omega, fun j u hj => ?_⟩
    have hjl : j < (flatP rk l).length := (List.getElem?_eq_some_iff.1 hj).1
    rw [Nat.zero_add, World.ownsRow.cellAt h j (by rw [flatP_len] at hjl; exact hjl), hj]
theorem grown_setCells (g : Nat) : ∀ (vs : List Value) (o : Nat) (w : World), w.grownBy (w.setCells g o vs) (some g)
  | [], _, w => ⟨rfl, rfl, rfl, Nat.le_refl _, fun _ _ _ => rfl⟩
  | v :: r, o, w => by
    have h : w.grownBy (w.setCell ⟨g, o, none⟩ v) (some g) := ⟨rfl, rfl, rfl, (KeepsWalks.setCell w _ v).size, fun k _ hk => Below.heap_setCell w ⟨g, o, none⟩ v k (fun e => hk (by rw [e]))⟩
    have k := grown_setCells g r (o + 1) (w.setCell ⟨g, o, none⟩ v)
    exact ⟨k.os.trans h.os, k.tape.trans h.tape, k.output.trans h.output, Nat.le_trans h.size k.size, fun i hi hn => (k.block i (Nat.lt_of_lt_of_le hi h.size) hn).trans (h.block i hi hn)⟩
theorem heap_setCells (g : Nat) : ∀ (vs : List Value) (o : Nat) (w : World) (cs : Array Value) (T : TypeId) (fr : Nat × Nat), w.heap[g]? = some (.cells cs T fr) → ∃ cs', (w.setCells g o vs).heap[g]? = some (.cells cs' T fr) ∧ cs'.size = cs.size
  | [], _, _, cs, _, _, h => ⟨cs, h, rfl⟩
  | v :: r, o, w, cs, T, fr, h => by
    have h1 : (w.setCell ⟨g, o, none⟩ v).heap[g]? = some (.cells (cs.setIfInBounds o v) T fr) := by simp [World.setCell, Array.getElem?_modify, h]
    obtain ⟨cs', h2, h3⟩ := heap_setCells g r (o + 1) _ _ _ _ h1
    exact ⟨cs', h2, by simpa using h3⟩
theorem cell_block {w : World} {g : Nat} {cs : Array Value} {T : TypeId} {fr : Nat × Nat} (h : w.heap[g]? = some (.cells cs T fr)) (j : Nat) : w.cell? ⟨g, j, none⟩ = cs[j]? := by simp [World.cell?, h]
theorem frozen_block {w : World} {g : Nat} {cs : Array Value} {T : TypeId} (h : w.heap[g]? = some (.cells cs T (0, 0))) (j : Nat) : w.frozen? ⟨g, j, none⟩ = false := by simp [World.frozen?, h]
theorem PairsIn.news {rk : IntKind} {b off n c : Nat} {gs : List (Int × Int)} {w : World} (h : PairsIn rk (some ⟨b, off, none⟩) n c gs w) : ∀ j u, (flatP rk gs)[j]? = some u → w.cell? ((⟨b, off, none⟩ : Addr).add j) = some u := fun j u hj => by
  have hadd : ((⟨b, off, none⟩ : Addr).add j) = ⟨b, off + j, none⟩ := by unfold Addr.add; split <;> simp_all
  rw [hadd]
  have hjl : j < (flatP rk gs).length := (List.getElem?_eq_some_iff.1 hj).1
  rw [flatP_len] at hjl
  rcases h.at_ with rfl | ⟨b', off', e, -, hi⟩
  · simp at hjl
  · obtain ⟨rfl, rfl⟩ : b = b' ∧ off = off' := by injection e with e; injection e with e1 e2; exact ⟨e1, e2⟩
    obtain ⟨i, k, rfl, hk⟩ : ∃ i k, j = i * 2 + k ∧ k < 2 := ⟨j / 2, j % 2, by omega, by omega⟩
    have hil : i < gs.length := by omega
    have hg := flatP_get rk gs i k gs[i] (List.getElem?_eq_getElem hil) hk
    rw [hj] at hg
    have h2 := hi i gs[i] (List.getElem?_eq_getElem hil)
    match k, hk with
    | 0, _ => rw [show u = .int rk gs[i].1 by simpa [pCells] using hg]; exact h2.1
    | 1, _ => rw [show u = .int .i64 gs[i].2 by simpa [pCells] using hg]; exact h2.2
    | k + 2, hk => omega
theorem PairsIn.src {rk : IntKind} {t T : TypeId} (hs : Try.prog.underlying t = some (.slice T)) {a : Option Addr} {n c : Nat} {gs : List (Int × Int)} {w : World} (h : PairsIn rk a n c gs w) : Src Try.prog 2 t (.slice a n c) n (flatP rk gs) w := by
  cases a with
  | none =>
    have h0 : gs = [] := h.at_.resolve_right (by rintro ⟨b, off, e, -⟩; cases e)
    subst h0
    obtain rfl : n = 0 := h.len
    exact Src.ofNil w hs c
  | some ad =>
    obtain ⟨b, off, sp⟩ := ad
    rcases h.at_ with rfl | ⟨b', off', e, h2⟩
    · exact Src.ofSlice w hs _ n c _ (by rw [flatP_len, h.len]) (fun j u hj => by simp [flatP] at hj) (flatP_one rk _)
    · obtain ⟨rfl, rfl, rfl⟩ : b = b' ∧ off = off' ∧ sp = none := by injection e with e; injection e with e1 e2 e3; exact ⟨e1, e2, e3⟩
      exact Src.ofSlice w hs _ n c _ (by rw [flatP_len, h.len]) h.news (flatP_one rk _)
/-- what an append of pairs leaves -/
structure GrewQ (rk : IntKind) (T : TypeId) (base : Nat) (v : Value) (l : List (Int × Int)) (w : World) (v' : Value) (w' : World) : Prop where
  own : OwnQ rk T base v' l w'
  grown : w.grownBy w' v.ownBlock
  block : ∀ q, v'.ownBlock = some q → v.ownBlock = some q ∨ w.heap.size ≤ q
  ty : ∀ q, v.ownBlock = some q → ∃ cs, w'.heap[q]? = some (.cells cs T (0, 0))
theorem run_append_q {rk : IntKind} {t T : TypeId} {bytes : Nat} (hI : PairT rk t T bytes) (base : Nat) (v : Value) (l : List (Int × Int)) (a : Option Addr) (m c : Nat) (l2 : List (Int × Int)) (w : World) (hown : OwnQ rk T base v l w) (h : PairsIn rk a m c l2 w) (h1 : (l.length : Int) ≤ 1000000) (h2 : (l2.length : Int) ≤ 1000000) (hbase : base ≤ w.heap.size) :
    ∃ v' w', (Builtin.append_ #[t, t] t #[v, .slice a m c]).run Try.prog w = .ok v' w' ∧ GrewQ rk T base v (l ++ l2) w v' w' := by
  obtain ⟨i0, hi, hz0, hz1, hz2⟩ := info_parts hI.info
  have hown0 := hown
  have hl := h.len
  have hb := hI.small
  have hsrc := h.src hI.slice
  have hsrc' : Src Try.prog i0.size t (.slice a m c) m (flatP rk l2) w := by rw [hz1]; exact hsrc
  have hmul : (l.length + m) * i0.bytes ≤ 140737488355328 := by rw [hz2]; exact Nat.le_trans (Nat.mul_le_mul (show l.length + m ≤ 2000000 by omega) hb) (by decide)
  have hmx : l.length + m ≤ maxLen := by unfold maxLen; omega
  -- a new block
  have grow : ∀ (bs : Option Addr) (sc : Nat), v = .slice bs l.length sc → sc < l.length + m → (Builtin.firstCells i0.size l.length (.slice bs l.length sc)).run Try.prog w.drew = .ok (flatP rk l).toArray w.drew →
      ∃ v' w', (Builtin.append_ #[t, t] t #[v, .slice a m c]).run Try.prog w = .ok v' w' ∧ GrewQ rk T base v (l ++ l2) w v' w' := by
    rintro bs sc rfl hg hold
    have hrun := run_append_grow_src (P := Try.prog) w t t t T i0 _ hI.slice hi hz0 bs l.length sc (flatP rk l) hold (.slice a m c) m (flatP rk l2) hsrc' hg (by unfold maxLen at hmx; omega) (growslice_fits hg hmul)
    have hge := grownCap_ge w (l.length + m) sc T
    have hcm := grownCap_le_maxLen w (l.length + m) sc T hmx
    refine ⟨_, _, hrun, .inr ⟨w.heap.size, 0, _, _, by rw [List.length_append, ← hl], hbase, heap_alloc_new w.drew _, by rw [List.length_append, ← hl]; omega, hcm, ?_, fun j u hj => ?_⟩, ⟨rfl, rfl, rfl, by simp, fun k hk _ => Below.heap_alloc w.drew _ k hk⟩, fun q hq => .inr ?_, fun q hq => by
      obtain ⟨-, h8, cs, h9⟩ := hown0.own q hq
      exact ⟨cs, (Below.heap_alloc w.drew _ q h8).trans h9⟩⟩
    · simp only [Array.size_append, List.size_toArray, List.length_append, size_zeroCells, flatP_len, show (Value.agg #[.int rk 0, .int .i64 0]).cells.size = 2 from rfl]
      omega
    · have e1 : (w.drew.alloc (.cells ((flatP rk l ++ flatP rk l2).toArray ++ Builtin.zeroCells (Value.agg #[.int rk 0, .int .i64 0]).cells (grownCap w (l.length + m) sc T - (l.length + m))) T)).cell? ⟨w.heap.size, 0 + j, none⟩ = _ := World.cell?_alloc_new w.drew _ _ (0 + j)
      rw [flatP_append] at hj
      rw [e1, Nat.zero_add, Array.getElem?_append_left (by simp only [List.size_toArray]; exact (List.getElem?_eq_some_iff.1 hj).1), List.getElem?_toArray, hj]
    · have : q = w.heap.size := by simpa [Value.ownBlock] using hq.symm
      omega
  rcases hown with ⟨rfl, rfl⟩ | ⟨g, off, cap, cs, rfl, k1, k2, k3, k4, k5, k6⟩
  · by_cases hm : m = 0
    · subst hm
      have h0 : l2 = [] := List.length_eq_zero_iff.1 hl.symm
      subst h0
      exact ⟨_, _, run_append_nothing (P := Try.prog) w t t t T i0 hI.slice hi none 0 0 (Nat.le_refl _) _ hsrc', .inl ⟨rfl, rfl⟩, ⟨rfl, rfl, rfl, Nat.le_refl _, fun _ _ _ => rfl⟩, (fun q hq => by cases hq), fun q hq => by cases hq⟩
    · exact grow none 0 rfl (by simp; omega) (by
        have := run_firstCells_none (P := Try.prog) w.drew i0.size 0 0 0
        simpa [flatP] using this)
  · by_cases hroom : l.length + m ≤ cap
    · have hrun := run_append_room_src (P := Try.prog) w t t t T i0 hI.slice hi g off l.length cap (.slice a m c) m (flatP rk l2) hsrc' hroom (fun j hj => by
        rw [flatP_len, ← hl] at hj
        rw [cell_block k2, Array.getElem?_eq_getElem (by rw [hz1]; omega)]
        rfl) (fun j _ => frozen_block k2 _)
      rw [hz1] at hrun
      obtain ⟨cs', e1, e2⟩ := heap_setCells g (flatP rk l2) (off + l.length * 2) w cs T (0, 0) k2
      refine ⟨_, _, hrun, .inr ⟨g, off, cap, cs', by rw [List.length_append, ← hl], k1, e1, by rw [List.length_append, ← hl]; exact hroom, k4, by rw [e2]; exact k5, fun j u hj => ?_⟩, grown_setCells g _ _ w, (fun q hq => .inl hq), fun q hq => by
        obtain rfl : g = q := by simpa [Value.ownBlock] using hq
        exact ⟨cs', e1⟩⟩
      rw [flatP_append] at hj
      by_cases hjl : j < (flatP rk l).length
      · rw [List.getElem?_append_left hjl] at hj
        rw [World.cell?_setCells_out g _ _ _ _ (fun _ _ => Or.inl (by show off + j < off + l.length * 2; rw [flatP_len] at hjl; omega))]
        exact k6 j u hj
      · rw [List.getElem?_append_right (by omega)] at hj
        have hj2 : j - (flatP rk l).length < (flatP rk l2).length := (List.getElem?_eq_some_iff.1 hj).1
        have h9 := World.cell?_setCells_in g (flatP rk l2) (off + l.length * 2) w (fun j hj => by
          rw [flatP_len, ← hl] at hj
          rw [cell_block k2, Array.getElem?_eq_getElem (by omega)]
          rfl) (j - (flatP rk l).length) hj2
        rw [List.getElem?_eq_getElem hj2] at hj
        rw [hj] at h9
        rw [show off + l.length * 2 + (j - (flatP rk l).length) = off + j by rw [flatP_len] at hjl ⊢; omega] at h9
        exact h9
    · refine grow (some ⟨g, off, none⟩) cap rfl (by omega) ?_
      refine run_firstCells_some (P := Try.prog) w.drew i0.size l.length ⟨g, off, none⟩ l.length cap (flatP rk l) (by rw [flatP_len, hz1]) (fun j u hj => ?_)
      have hadd : ((⟨g, off, none⟩ : Addr).add j) = ⟨g, off + j, none⟩ := by unfold Addr.add; split <;> simp_all
      rw [hadd]
      exact k6 j u hj
theorem wpList_append_q {rk : IntKind} {t T : TypeId} {bytes : Nat} (hI : PairT rk t T bytes) {ops : Array Oper} {rest : List Oper} {o : Oper} {z : Act} {w : World} {Q : Exit → Act → World → Prop} (hgd : o.guard = none) (s x : Operand)
    (ho : o.op = .call { callee := .builtin .append, args := #[s, x], argTypes := #[t, t] }) (hty : o.type = t)
    (base : Nat) (v : Value) (l : List (Int × Int)) (a : Option Addr) (m c : Nat) (l2 : List (Int × Int)) (hs : z.eval s = v) (hxv : z.eval x = .slice a m c) (hown : OwnQ rk T base v l w) (h : PairsIn rk a m c l2 w) (h1 : (l.length : Int) ≤ 1000000) (h2 : (l2.length : Int) ≤ 1000000) (hbase : base ≤ w.heap.size)
    (hK : ∀ v' w', GrewQ rk T base v (l ++ l2) w v' w' → wpList Try.prog ops Q rest (z.put o.dst v') w') : wpList Try.prog ops Q (o :: rest) z w :=
  wpList_plain hgd fun _ hK' => by
    obtain ⟨v', w', hr, k1⟩ := run_append_q hI base v l a m c l2 w hown h h1 h2 hbase
    unfold Oper.wp execOp
    simp only [ho, hty, resolve, invoke, builtin, Sem.run_bind, Sem.run_pure, Result.andThen_ok, List.map_toArray, List.map_cons, List.map_nil, hs, hxv, hr]
    exact hK' _ _ (hK v' w' k1)
theorem PairsIn.take {rk : IntKind} {a : Option Addr} {n c : Nat} {gs : List (Int × Int)} {w : World} (h : PairsIn rk a n c gs w) (m : Nat) (hm : m ≤ n) : PairsIn rk a m c (gs.take m) w := by
  refine ⟨by rw [List.length_take, ← h.len]; omega, Nat.le_trans hm h.fit, h.top, h.at_.imp (fun e => by rw [e]; simp) ?_⟩
  rintro ⟨b, off, ha, hl, hi⟩
  refine ⟨b, off, ha, hl, fun i g hg => hi i g ?_⟩
  rw [List.getElem?_take] at hg
  split at hg
  · exact hg
  · cases hg
/-- what stands behind the first ones -/
theorem OwnQ.drop {rk : IntKind} {T : TypeId} {base g off n cap : Nat} {l : List (Int × Int)} {w : World} (h : OwnQ rk T base (.slice (some ⟨g, off, none⟩) n cap) l w) (m : Nat) (hm : m ≤ n) : OwnQ rk T base (.slice (some ⟨g, off + m * 2, none⟩) (n - m) (cap - m)) (l.drop m) w := by
  rcases h with ⟨e, -⟩ | ⟨g', off', cap', cs, e, h1, h2, h3, h4, h5, h6⟩
  · cases e
  · obtain ⟨rfl, rfl, rfl, rfl⟩ : g = g' ∧ off = off' ∧ n = l.length ∧ cap = cap' := by injection e with e e2 e3; injection e with e; injection e with e4 e5; exact ⟨e4, e5, e2, e3⟩
    refine .inr ⟨g, _, _, cs, by rw [List.length_drop], h1, h2, by rw [List.length_drop]; omega, by omega, by omega, fun j u hj => ?_⟩
    have hfd : flatP rk (l.drop m) = (flatP rk l).drop (m * 2) := by
      have e1 : flatP rk l = flatP rk (l.take m) ++ flatP rk (l.drop m) := by rw [← flatP_append, List.take_append_drop]
      rw [e1, List.drop_left' (by rw [flatP_len, List.length_take, Nat.min_eq_left hm])]
    rw [hfd, List.getElem?_drop] at hj
    rw [Nat.add_assoc]
    exact h6 _ u hj
end Go.Proofs.Ytjlljkdlgkociaa.K

/- Plain facts on numbers as bytes: seven bits a byte, the lowest first. No Go here. -/
namespace Go.Proofs.Ytjlljkdlgkociaa.I

/-- the greatest number -/
def top : Nat := 2 ^ 62
/-- n, brought among the numbers that there are -/
def clipN (n : Int) : Nat := min n.toNat top
theorem clipN_le (n : Int) : clipN n ≤ top := Nat.min_le_right _ _
/-- a number's bytes -/
def digs (m : Nat) : List UInt8 := if m < 128 then [UInt8.ofNat m] else UInt8.ofNat (m % 128 + 128) :: digs (m / 128)
termination_by m
decreasing_by omega
theorem digs_small {m : Nat} (h : m < 128) : digs m = [UInt8.ofNat m] := by rw [digs, if_pos h]
theorem digs_big {m : Nat} (h : ¬ m < 128) : digs m = UInt8.ofNat (m % 128 + 128) :: digs (m / 128) := by rw [digs, if_neg h]
theorem digs_pos (m : Nat) : 0 < (digs m).length := by
  by_cases h : m < 128
  · rw [digs_small h]; simp
  · rw [digs_big h]; simp
theorem digs_mono : ∀ (b a : Nat), a ≤ b → (digs a).length ≤ (digs b).length := by
  intro b
  induction b using Nat.strongRecOn with
  | ind b ih =>
    intro a h
    by_cases hb : b < 128
    · rw [digs_small hb, digs_small (by omega)]; simp
    · by_cases ha : a < 128
      · rw [digs_small ha]; exact digs_pos b
      · rw [digs_big ha, digs_big hb]
        have := ih (b / 128) (by omega) (a / 128) (Nat.div_le_div_right h)
        simp; omega
theorem digs_nine (m : Nat) (h : m ≤ top) : (digs m).length ≤ 9 := by
  have e : (digs top).length = 9 := by
    unfold top
    rw [digs_big (by decide), digs_big (by decide), digs_big (by decide), digs_big (by decide), digs_big (by decide), digs_big (by decide), digs_big (by decide), digs_big (by decide), digs_small (by decide)]
    rfl
  have := digs_mono top m h
  omega
/-- the byte of a number's seven lowest bits, with 128 more -/
theorem low_byte (m : Nat) : (bits .or .i64 ((m : Int) % 128) 128) % 256 = ((UInt8.ofNat (m % 128 + 128)).toNat : Int) := by
  have h1 : m % 128 < 2 ^ 7 := Nat.mod_lt _ (by decide)
  have h := (bits_nat .i64 8 (by decide) (fun n h0 h1 => by
    simp [IntKind.wrap, IntKind.bits, IntKind.signed]
    omega) (m % 128) 128 (by omega) (by decide)).2
  have e : ((m : Int) % 128) = ((m % 128 : Nat) : Int) := by omega
  rw [e, show (128 : Int) = ((128 : Nat) : Int) from rfl, h]
  have ho : m % 128 ||| 128 = m % 128 + 128 := by
    have := Nat.two_pow_add_eq_or_of_lt h1 1
    simp at this
    rw [Nat.or_comm, ← this, Nat.add_comm]
  rw [ho]
  simp
end Go.Proofs.Ytjlljkdlgkociaa.I

/- Plain facts on CRC-32 as a number: the table's half step is four single steps; a text's sum is so many single steps of its number; a burst of at most 32 bits is told. No Go here. -/
namespace Go.Proofs.Ytjlljkdlgkociaa.S

/-- one bit's step -/
def r1 (x : Nat) : Nat := if x % 2 = 1 then (x / 2) ^^^ 3988292384 else x / 2
def rn : Nat → Nat → Nat
  | 0, x => x
  | n + 1, x => rn n (r1 x)
def tbl (i : Nat) : Nat := [0, 498536548, 997073096, 651767980, 1994146192, 1802195444, 1303535960, 1342533948, 3988292384, 4027552580, 3604390888, 3412177804, 2607071920, 2262029012, 2685067896, 3183342108].getD i 0
def hstep (x : Nat) : Nat := (x / 16) ^^^ tbl (x % 16)
def bstep (c b : Nat) : Nat := hstep (hstep (c ^^^ b))
def crc (c : Nat) (l : List UInt8) : Nat := l.foldl (fun c b => bstep c b.toNat) c
def sumOf (l : List UInt8) : Nat := crc 4294967295 l ^^^ 4294967295
/-- a text's number: its first byte lowest -/
def num : List UInt8 → Nat
  | [] => 0
  | b :: l => b.toNat ^^^ (256 * num l)

/-! ### three texts, xored -/
end Go.Proofs.Ytjlljkdlgkociaa.S

/- Lines of glyphs: their bytes, their chain; a book, to which rows are added. -/
namespace Go.Proofs.Ytjlljkdlgkociaa.K

def gBytes (g : Int × Int) : List UInt8 := I.digs (I.clipN g.1) ++ I.digs (I.clipN g.2)
def packG (l : List (Int × Int)) : List UInt8 := I.digs (I.clipN (l.length : Int)) ++ l.flatMap gBytes
theorem gBytes_len (g : Int × Int) : (gBytes g).length ≤ 18 := by
  have h1 := I.digs_nine (I.clipN g.1) (by unfold I.clipN; exact Nat.min_le_right _ _)
  have h2 := I.digs_nine (I.clipN g.2) (by unfold I.clipN; exact Nat.min_le_right _ _)
  unfold gBytes
  rw [List.length_append]
  omega
theorem flat_gBytes_len (l : List (Int × Int)) : (l.flatMap gBytes).length ≤ 18 * l.length := by
  induction l with
  | nil => simp
  | cons g l ih =>
    have := gBytes_len g
    rw [List.flatMap_cons, List.length_append, List.length_cons]
    omega
theorem packG_len (l : List (Int × Int)) : (packG l).length ≤ 9 + 18 * l.length := by
  have h1 := I.digs_nine (I.clipN (l.length : Int)) (by unfold I.clipN; exact Nat.min_le_right _ _)
  have h2 := flat_gBytes_len l
  unfold packG
  rw [List.length_append]
  omega
theorem flat_snoc (l : List (Int × Int)) (k : Nat) (h : k < l.length) : (l.take (k + 1)).flatMap gBytes = (l.take k).flatMap gBytes ++ gBytes l[k] := by
  rw [List.take_succ_eq_append_getElem h, List.flatMap_append]
  simp
/-- the chain of a line more -/
def nextC (c : Nat) (l : List (Int × Int)) : Nat := (c * 65536 % 281474976710597 + S.sumOf (packG l)) % 281474976710597
def chainB (L : List (List (Int × Int))) : Nat := L.foldl nextC 0
/-- lines, and what is begun -/
structure Bk where
  L : List (List (Int × Int))
  G : List (Int × Int)
end Go.Proofs.Ytjlljkdlgkociaa.K

/- A book in memory. -/
namespace Go.Proofs.Ytjlljkdlgkociaa.K
open Go.RowKit

/-- a line, as it lies in a block -/
structure Lv where
  a : Option Addr
  n : Nat
  c : Nat
  ch : Nat
def lCells (u : Lv) : List Value := [.slice u.a u.n u.c, .int .i64 (u.ch : Int)]
def flatL (l : List Lv) : List Value := l.flatMap lCells
theorem flatL_get : ∀ (l : List Lv) (i j : Nat) (c : Lv), l[i]? = some c → j < 2 → (flatL l)[i * 2 + j]? = (lCells c)[j]?
  | [], _, _, _, h, _ => by cases h
  | d :: l, 0, j, c, h, hj => by
    obtain rfl : d = c := by simpa using h
    show (lCells d ++ flatL l)[0 * 2 + j]? = _
    rw [List.getElem?_append_left (by simp [lCells]; omega)]
    simp
  | d :: l, i + 1, j, c, h, hj => by
    show (lCells d ++ flatL l)[(i + 1) * 2 + j]? = _
    rw [List.getElem?_append_right (by simp [lCells]; omega)]
    have e : (i + 1) * 2 + j - (lCells d).length = i * 2 + j := by simp [lCells]; omega
    rw [e]
    exact flatL_get l i j c (by simpa using h) hj
/-- lines of our own -/
def OwnL (base : Nat) (v : Value) (l : List Lv) (w : World) : Prop := w.ownsRow base 150 2 v l.length (flatL l)
theorem OwnL.nil (base : Nat) (w : World) : OwnL base (.slice none 0 0) [] w := World.ownsRow_nil _ _ _ _
theorem OwnL.weaken {base base' : Nat} {v : Value} {l : List Lv} {w : World} (h : OwnL base v l w) (hb : base' ≤ base) : OwnL base' v l w := U.weaken h hb
theorem OwnL.own {base : Nat} {v : Value} {l : List Lv} {w : World} (h : OwnL base v l w) : ∀ q, v.ownBlock = some q → base ≤ q ∧ q < w.heap.size ∧ ∃ cs, w.heap[q]? = some (.cells cs 150 (0, 0)) := fun q hq => by
  obtain ⟨cs, h1, h2, h3⟩ := U.own_type h hq
  exact ⟨h2, h3, cs, h1⟩
theorem OwnL.moved {base : Nat} {v : Value} {l : List Lv} {w w' : World} (h : OwnL base v l w) (hv : ∀ q, v.ownBlock = some q → w'.heap[q]? = w.heap[q]?) : OwnL base v l w' := by
  refine ⟨h.1, ?_⟩
  rcases h.2 with h0 | ⟨g', c', cur, he, hbase, hgb, hc, hmx, hsz, ht⟩
  · exact .inl h0
  · exact .inr ⟨g', c', cur, he, hbase, (hv g' (by rw [he]; rfl)).trans hgb, hc, hmx, hsz, ht⟩
theorem OwnL.shape {base : Nat} {v : Value} {l : List Lv} {w : World} (h : OwnL base v l w) : ∃ a c, v = .slice a l.length c ∧ l.length ≤ c ∧ (c : Int) ≤ 9223372036854775807 ∧ (l = [] ∨ ∃ g, a = some ⟨g, 0, none⟩ ∧ g < w.heap.size ∧ ∀ i u, l[i]? = some u → w.cell? ⟨g, 0 + i * 2, none⟩ = some (.slice u.a u.n u.c) ∧ w.cell? ⟨g, 0 + i * 2 + 1, none⟩ = some (.int .i64 (u.ch : Int))) := by
  rcases h.2 with ⟨rfl, h0⟩ | ⟨g, cap, cur, rfl, hbase, hg, hc, hm, hs, ht⟩
  · exact ⟨none, 0, by rw [h0], by omega, by decide, .inl (List.length_eq_zero_iff.1 h0)⟩
  · refine ⟨some ⟨g, 0, none⟩, cap, rfl, hc, by unfold maxLen at hm; omega, .inr ⟨g, rfl, (Array.getElem?_eq_some_iff.1 hg).1, fun i c hi => ?_⟩⟩
    have hil : i < l.length := (List.getElem?_eq_some_iff.1 hi).1
    have hcell : ∀ j, j < 2 → w.cell? ⟨g, 0 + i * 2 + j, none⟩ = (lCells c)[j]? := fun j hj => by
      rw [Nat.zero_add, World.ownsRow.cellAt h (i * 2 + j) (by omega), flatL_get l i j c hi hj]
    exact ⟨hcell 0 (by decide), hcell 1 (by decide)⟩
/-- what the lines' cells are, and the chain of each -/
structure LinesV (us : List Lv) (L : List (List (Int × Int))) (w : World) : Prop where
  len : us.length = L.length
  at_ : ∀ (i : Nat) (u : Lv) (l : List (Int × Int)), us[i]? = some u → L[i]? = some l → PairsIn .i32 u.a u.n u.c l w ∧ (u.a = none → u.c = 0) ∧ u.ch = chainB (L.take (i + 1))
/-- the book of block b; M: the blocks that its calls change -/
structure BoAt (b : Nat) (M N : List Nat) (x : Bk) (vl vb : Value) (us : List Lv) (w : World) : Prop where
  bb : w.heap[b]? = some (.cells #[vl, vb] 112 (0, 0))
  own : OwnL 0 vl us w
  q : OwnQ .i32 54 0 vb x.G w
  lv : LinesV us x.L w
  off : ∀ u ∈ us, ∀ p o, u.a = some ⟨p, o, none⟩ → p ∉ M ∧ p ∉ N
  nt : ∀ q ∈ N, q < w.heap.size
  lt : ∀ u ∈ us, ∀ p o, u.a = some ⟨p, o, none⟩ → p < w.heap.size
  bm : b ∈ M
  lm : ∀ q, vl.ownBlock = some q → q ∈ M
  qm : ∀ q, vb.ownBlock = some q → q ∈ M
  ty : ∀ p ∈ M, p < w.heap.size ∧ ∃ cs T, w.heap[p]? = some (.cells cs T (0, 0)) ∧ (T = 112 ∨ T = 150 ∨ T = 54)
def Bo (b : Nat) (M N : List Nat) (x : Bk) (w : World) : Prop := ∃ vl vb us, BoAt b M N x vl vb us w
theorem PairsIn.blocks {rk : IntKind} {a : Option Addr} {n c : Nat} {gs : List (Int × Int)} {w w' : World} (h : PairsIn rk a n c gs w) (hs : w.heap.size ≤ w'.heap.size) (hk : ∀ b off, a = some ⟨b, off, none⟩ → b < w.heap.size → w'.heap[b]? = w.heap[b]?) : PairsIn rk a n c gs w' := by
  refine ⟨h.len, h.fit, h.top, h.at_.imp id ?_⟩
  rintro ⟨b, off, ha, hl, hi⟩
  have hk' := hk b off ha hl
  exact ⟨b, off, ha, Nat.lt_of_lt_of_le hl hs, fun i u hu => ⟨(World.cell?_of_block (a := ⟨b, off + i * 2, none⟩) hk').trans (hi i u hu).1, (World.cell?_of_block (a := ⟨b, off + i * 2 + 1, none⟩) hk').trans (hi i u hu).2⟩⟩
theorem LinesV.moved {us : List Lv} {L : List (List (Int × Int))} {w w' : World} (h : LinesV us L w) (hs : w.heap.size ≤ w'.heap.size) (hk : ∀ u ∈ us, ∀ b off, u.a = some ⟨b, off, none⟩ → b < w.heap.size → w'.heap[b]? = w.heap[b]?) : LinesV us L w' :=
  ⟨h.len, fun i u l hu hl => by
    obtain ⟨h1, h2, h3⟩ := h.at_ i u l hu hl
    exact ⟨h1.blocks hs (hk u (List.mem_of_getElem? hu)), h2, h3⟩⟩
theorem BoAt.moved {b : Nat} {M N : List Nat} {x : Bk} {vl vb : Value} {us : List Lv} {w w' : World} (h : BoAt b M N x vl vb us w) (hs : w.heap.size ≤ w'.heap.size) (hM : ∀ p ∈ M, w'.heap[p]? = w.heap[p]?) (hk : ∀ u ∈ us, ∀ b off, u.a = some ⟨b, off, none⟩ → b < w.heap.size → w'.heap[b]? = w.heap[b]?) : BoAt b M N x vl vb us w' :=
  ⟨(hM b h.bm).trans h.bb, h.own.moved (fun q hq => hM q (h.lm q hq)), h.q.moved (fun q hq => hM q (h.qm q hq)), h.lv.moved hs hk, h.off, (fun q hq => Nat.lt_of_lt_of_le (h.nt q hq) hs), (fun u hu p o e => Nat.lt_of_lt_of_le (h.lt u hu p o e) hs), h.bm, h.lm, h.qm, fun p hp => by
    obtain ⟨h1, cs, T, h2, h3⟩ := h.ty p hp
    exact ⟨Nat.lt_of_lt_of_le h1 hs, cs, T, (hM p hp).trans h2, h3⟩⟩
theorem Bo.below {b : Nat} {M N : List Nat} {x : Bk} {w w' : World} (h : Bo b M N x w) (hb : Below w.heap.size w w') : Bo b M N x w' := by
  obtain ⟨vl, vb, us, h⟩ := h
  exact ⟨vl, vb, us, h.moved hb.size (fun p hp => hb.block p (h.ty p hp).1) (fun u _ b o _ hl => hb.block b hl)⟩
theorem Bo.lt {b : Nat} {M N : List Nat} {x : Bk} {w : World} (h : Bo b M N x w) : ∀ p ∈ M, p < w.heap.size := by
  obtain ⟨vl, vb, us, h⟩ := h
  exact fun p hp => (h.ty p hp).1
theorem BoAt.c0 {b : Nat} {M N : List Nat} {x : Bk} {vl vb : Value} {us : List Lv} {w : World} (h : BoAt b M N x vl vb us w) : w.cell? ⟨b, 0, none⟩ = some vl := by rw [cell_block h.bb]; rfl
theorem BoAt.c1 {b : Nat} {M N : List Nat} {x : Bk} {vl vb : Value} {us : List Lv} {w : World} (h : BoAt b M N x vl vb us w) : w.cell? ⟨b, 1, none⟩ = some vb := by rw [cell_block h.bb]; rfl
theorem BoAt.fr {b : Nat} {M N : List Nat} {x : Bk} {vl vb : Value} {us : List Lv} {w : World} (h : BoAt b M N x vl vb us w) (o : Nat) : w.frozen? ⟨b, o, none⟩ = false := frozen_block h.bb o
theorem Bo.new (w : World) : Bo w.heap.size [w.heap.size] [] ⟨[], []⟩ (w.alloc (.cells #[.slice none 0 0, .slice none 0 0] 112)) := by
  have hb := heap_alloc_new w (.cells #[.slice none 0 0, .slice none 0 0] 112)
  refine ⟨_, _, [], hb, OwnL.nil _ _, OwnQ.nil _ _ _ _, ⟨rfl, fun i u l h => by cases h⟩, (fun u h => by cases h), (fun q h => by cases h), (fun u h => by cases h), List.mem_singleton.2 rfl, (fun q e => by cases e), (fun q e => by cases e), fun p hp => ?_⟩
  rw [List.mem_singleton.1 hp]
  exact ⟨by simp, _, _, hb, .inl rfl⟩
end Go.Proofs.Ytjlljkdlgkociaa.K
