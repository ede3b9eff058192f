/- The document's rows while they are gathered. -/
import Derived.Test.YtjlhinofglokoaaDoorFJoin
import Derived.Test.YtjlhinofglokoaaDoorFTold
namespace Go.Proofs.YtjlhinofglokoaaDoor.F
open Go.RowKit H

theorem lnInfo : (Tryd.prog.info? 25).map (fun i => (i.zero, i.size, i.bytes)) = some (some (.slice none 0 0), 1, 24) := by kernel_rfl
/-- append of one row -/
theorem run_append_ln (base : Nat) (v : Value) (us : List Sv) (u : Sv) (p : Nat) (w : World) (hown : OwnS 25 base v us w) (hp : w.cell? ⟨p, 0, none⟩ = some (sV u)) (h1 : (us.length : Int) ≤ 1000000) (hbase : base ≤ w.heap.size) :
    ∃ v' w', (Builtin.append_ #[33, 33] 33 #[v, .slice (some ⟨p, 0, none⟩) 1 1]).run Tryd.prog w = .ok v' w' ∧ OwnS 25 base v' (us ++ [u]) w' ∧ w.grownBy w' v.ownBlock := by
  obtain ⟨i0, hi, hz0, hz1, hz2⟩ := info_parts lnInfo
  have hmul : (us.length + 1) * 24 ≤ 140737488355328 := by omega
  have hnews : ∀ j x, (flatS [u])[j]? = some x → w.cell? ((⟨p, 0, none⟩ : Addr).add j) = some x := fun j x hj => by
    have hadd : ((⟨p, 0, none⟩ : Addr).add j) = ⟨p, 0 + j, none⟩ := by unfold Addr.add; split <;> simp_all
    match j, hj with
    | 0, hj => rw [hadd, hp]; simpa [flatS] using hj
    | n + 1, hj => simp [flatS] at hj
  obtain ⟨v', w', hr, g⟩ := U.append_grew (P := Tryd.prog) w 33 33 25 i0 _ 1 24 Tryd.underlying33 hi hz0 hz1 hz2 rfl (by decide) base v us.length (flatS us) hown ⟨p, 0, none⟩ 1 1 (flatS [u]) rfl hnews (flatS_one [u]) (by unfold maxLen; omega) hmul hbase
  refine ⟨v', w', hr, ?_, g.grown⟩
  unfold OwnS
  rw [List.length_append, flatS_append]
  exact g.own
theorem wpList_append_ln {ops : Array Oper} {rest : List Oper} {o : Oper} {z : Act} {w : World} {Q : Exit → Act → World → Prop} (hgd : o.guard = none) (s x : Operand)
    (ho : o.op = .call { callee := .builtin .append, args := #[s, x], argTypes := #[33, 33] }) (hty : o.type = 33)
    (base : Nat) (v : Value) (us : List Sv) (u : Sv) (p : Nat) (hs : z.eval s = v) (hxv : z.eval x = .slice (some ⟨p, 0, none⟩) 1 1) (hown : OwnS 25 base v us w) (hp : w.cell? ⟨p, 0, none⟩ = some (sV u)) (h1 : (us.length : Int) ≤ 1000000) (hbase : base ≤ w.heap.size)
    (hK : ∀ v' w', OwnS 25 base v' (us ++ [u]) w' → w.grownBy w' v.ownBlock → wpList Tryd.prog ops Q rest (z.put o.dst v') w') : wpList Tryd.prog ops Q (o :: rest) z w :=
  wpList_plain hgd fun _ hK' => by
    obtain ⟨v', w', hr, k1, k2⟩ := run_append_ln base v us u p w hown hp h1 hbase
    unfold Oper.wp execOp
    simp only [ho, hty, resolve, invoke, builtin, Sem.run_bind, Sem.run_pure, Result.andThen_ok, List.map_toArray, List.map_cons, List.map_nil, hs, hxv, hr]
    exact hK' _ _ (hK v' w' k1 k2)
theorem OwnS.set {T : TypeId} {base g n c K : Nat} {us : List Sv} {w : World} (h : OwnS T base (.slice (some ⟨g, 0, none⟩) n c) us w) (u : Sv) : OwnS T base (.slice (some ⟨g, 0, none⟩) n c) (us.set K u) (w.setCell ⟨g, K, none⟩ (sV u)) := by
  unfold OwnS at h ⊢
  rw [List.length_set]
  have hf : flatS (us.set K u) = (flatS us).set K (sV u) := by unfold flatS; rw [List.map_set]
  rw [hf]
  refine ⟨by rw [List.length_set]; exact h.1, ?_⟩
  rcases h.2 with ⟨e, _⟩ | ⟨g', cap, cur, e, hbase, hg, hc, hm, hs, ht⟩
  · cases e
  · obtain ⟨rfl, rfl, rfl⟩ : g = g' ∧ n = us.length ∧ c = cap := by injection e with e e2 e3; injection e with e; injection e with e4; exact ⟨e4, e2, e3⟩
    refine .inr ⟨g, c, cur.setIfInBounds K (sV u), rfl, hbase, ?_, hc, hm, by simpa using hs, ?_⟩
    · simp [World.setCell, Array.getElem?_modify, hg]
    · rw [Array.toList_setIfInBounds, List.take_set, ht]
/-- rows that are done, and the one that is begun -/
structure CutD (base : Nat) (v : Value) (us : List Sv) (u : Sv) (L : List (List (Int × Int))) (cur : List (Int × Int)) (W : World) : Prop where
  own : OwnS 25 base v (us ++ [u]) W
  rows : SvsQ .i64 65 base us L W
  last : OwnQ .i64 65 base (sV u) cur W
  apart : ∀ u' ∈ us, ∀ q, (sV u').ownBlock = some q → (sV u).ownBlock ≠ some q
  sz : base ≤ W.heap.size
theorem own_ln_ty {base : Nat} {v : Value} {us : List Sv} {w : World} (h : OwnS 25 base v us w) : ∀ r, v.ownBlock = some r → base ≤ r ∧ r < w.heap.size ∧ ∃ cs, w.heap[r]? = some (Obj.cells cs 25 (0, 0)) := fun r e => by
  obtain ⟨cs, k1, k2, k3⟩ := U.own_type h e
  exact ⟨k2, k3, cs, k1⟩
theorem CutD.below {base : Nat} {v : Value} {us : List Sv} {u : Sv} {L : List (List (Int × Int))} {cur : List (Int × Int)} {W W' : World} (h : CutD base v us u L cur W) (hb : Below W.heap.size W W') : CutD base v us u L cur W' :=
  ⟨h.own.below hb, h.rows.below hb, h.last.below hb, h.apart, Nat.le_trans h.sz hb.size⟩
/-- glyphs are kept where a block of rows turns -/
theorem glyph_kept {v : Value} {W W' : World} (hg : W.grownBy W' v.ownBlock) (hv : ∀ r, v.ownBlock = some r → ∃ cs, W.heap[r]? = some (Obj.cells cs 25 (0, 0))) : ∀ (q : Nat) (cs : Array Value), W.heap[q]? = some (Obj.cells cs 65 (0, 0)) → W'.heap[q]? = some (Obj.cells cs 65 (0, 0)) := fun q cs hq => by
  refine (hg.block q (Array.getElem?_eq_some_iff.1 hq).1 (fun e => ?_)).trans hq
  obtain ⟨cs2, h6⟩ := hv q e.symm
  rw [hq] at h6
  have := (Obj.cells.inj (Option.some.inj h6)).2.1
  exact absurd this (by decide)
/-- a row begins: u2 is an empty one in a new block p -/
theorem CutD.next {base : Nat} {v v' : Value} {us : List Sv} {u : Sv} {L : List (List (Int × Int))} {cur : List (Int × Int)} {W W2 W' : World} {p : Nat} (h : CutD base v us u L cur W) (hb : Below W.heap.size W W2) (hp : W.heap.size ≤ p) (hl : W2.heap[p]? = some (Obj.cells #[] 65 (0, 0)))
    (ho : OwnS 25 base v' ((us ++ [u]) ++ [⟨some ⟨p, 0, none⟩, 0, 0⟩]) W') (hg : W2.grownBy W' v.ownBlock) : CutD base v' (us ++ [u]) ⟨some ⟨p, 0, none⟩, 0, 0⟩ (L ++ [cur]) [] W' := by
  have h2 := h.below hb
  have hk := glyph_kept hg (fun r e => (own_ln_ty h2.own r e).2.2)
  refine ⟨ho, SvsQ.moved (SvsQ.snoc h2.rows h2.last) hk, .inr ⟨p, 0, 0, #[], rfl, Nat.le_trans h.sz hp, hk p _ hl, Nat.le_refl _, by unfold maxLen; omega, by simp, fun j u hj => by simp [flatP] at hj⟩, fun u' hu' q hq e => ?_, Nat.le_trans h2.sz hg.size⟩
  have e2 : q = p := by simpa [sV, Value.ownBlock] using e.symm
  have hlt : q < W.heap.size := by
    rcases List.mem_append.1 hu' with h3 | h3
    · obtain ⟨i, hi, rfl⟩ := List.mem_iff_getElem.1 h3
      have h4 := h.rows.2 i us[i] (L[i]'(by rw [← h.rows.1]; exact hi)) (List.getElem?_eq_getElem hi) (List.getElem?_eq_getElem _)
      exact (h4.own q hq).2.1
    · rw [List.mem_singleton.1 h3] at hq
      exact (h.last.own q hq).2.1
  omega
/-- a glyph more: the append, and the store of the row -/
theorem CutD.more {base : Nat} {us : List Sv} {u u2 : Sv} {L : List (List (Int × Int))} {cur : List (Int × Int)} {g : Int × Int} {W W2 W3 : World} {gb n c : Nat} (h : CutD base (.slice (some ⟨gb, 0, none⟩) n c) us u L cur W) (hb : Below W.heap.size W W2)
    (hq : GrewQ .i64 65 base (sV u) (cur ++ [g]) W2 (sV u2) W3) : CutD base (.slice (some ⟨gb, 0, none⟩) n c) us u2 L (cur ++ [g]) (W3.setCell ⟨gb, us.length, none⟩ (sV u2)) := by
  have h2 := h.below hb
  have hty : ∀ r, (sV u).ownBlock = some r → ∃ cs, W2.heap[r]? = some (Obj.cells cs 65 (0, 0)) := fun r e => (h2.last.own r e).2.2
  obtain ⟨hgb0, hgb1, cs0, hgb2⟩ := own_ln_ty h2.own gb rfl
  have ho3 : OwnS 25 base (.slice (some ⟨gb, 0, none⟩) n c) (us ++ [u]) W3 := by
    refine U.kept_apart h2.own hq.grown (fun q hq1 e => ?_)
    obtain ⟨cs, h6⟩ := hty q e
    obtain ⟨-, -, cs2, h7⟩ := own_ln_ty h2.own q hq1
    rw [h6] at h7
    have := (Obj.cells.inj (Option.some.inj h7)).2.1
    exact absurd this (by decide)
  have hgb3 : W3.heap[gb]? = some (Obj.cells cs0 25 (0, 0)) := (hq.grown.block gb hgb1 (fun e => by
    obtain ⟨cs, h6⟩ := hty gb e.symm
    rw [hgb2] at h6
    have := (Obj.cells.inj (Option.some.inj h6)).2.1
    exact absurd this (by decide))).trans hgb2
  have hst : ∀ (q : Nat) (cs : Array Value), W3.heap[q]? = some (Obj.cells cs 65 (0, 0)) → (W3.setCell ⟨gb, us.length, none⟩ (sV u2)).heap[q]? = some (Obj.cells cs 65 (0, 0)) := fun q cs hq1 => by
    refine (Below.heap_setCell _ _ _ q (fun e => ?_)).trans hq1
    rw [show q = gb from e, hgb3] at hq1
    have := (Obj.cells.inj (Option.some.inj hq1)).2.1
    exact absurd this (by decide)
  have hrow3 : ∀ (i : Nat) (u' : Sv) (l : List (Int × Int)), us[i]? = some u' → L[i]? = some l → OwnQ .i64 65 base (sV u') l W3 := fun i u' l k1 k2 => (h2.rows.2 i u' l k1 k2).moved (fun q hq1 => hq.grown.block q ((h2.rows.2 i u' l k1 k2).own q hq1).2.1 (fun e => h.apart u' (List.mem_of_getElem? k1) q hq1 e.symm))
  have hset := ho3.set (K := us.length) u2
  rw [List.set_append_right _ _ (Nat.le_refl _), Nat.sub_self, List.set_cons_zero] at hset
  refine ⟨hset, SvsQ.moved ⟨h2.rows.1, hrow3⟩ hst, hq.own.moved (fun q hq1 => ?_), fun u' hu' q hq1 e => ?_, ?_⟩
  · obtain ⟨-, -, cs, h6⟩ := hq.own.own q hq1
    rw [h6, hst q cs h6]
  · rcases hq.block q e with h3 | h3
    · exact h.apart u' hu' q hq1 h3
    · obtain ⟨i, hi, rfl⟩ := List.mem_iff_getElem.1 hu'
      have h4 := h2.rows.2 i us[i] (L[i]'(by rw [← h2.rows.1]; exact hi)) (List.getElem?_eq_getElem hi) (List.getElem?_eq_getElem _)
      have := (h4.own q hq1).2.1
      omega
  · have h5 := (KeepsWalks.setCell W3 ⟨gb, us.length, none⟩ (sV u2)).size
    exact Nat.le_trans (Nat.le_trans h2.sz hq.grown.size) h5
end Go.Proofs.YtjlhinofglokoaaDoor.F
