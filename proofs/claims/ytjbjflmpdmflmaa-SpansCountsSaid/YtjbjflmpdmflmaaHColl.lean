/- slices.AppendSeq and slices.Collect of what is left. -/
import Derived.Test.YtjbjflmpdmflmaaHLeft
namespace Go.Proofs.Ytjbjflmpdmflmaa.H
open Go.RowKit Go.Shelf

attribute [local go_sem] Oper.semAt_some

theorem kpL_below {w0 : World} {b0 base : Nat} {L : List Nat} {pre : List Sp} {W W1 : World} (h : Gath w0 b0 base pre W) (hL : ∀ b ∈ L, b < base) (hb : Below W.heap.size W W1) : KpL b0 L W W1 := by
  obtain ⟨v, h1, -, -, -, h5⟩ := h
  have hb0 : b0 < W.heap.size := h1.lt
  have hr := rowOf_same (hb.block b0 hb0)
  exact ⟨KeepL.of_below hb (fun b hb => Nat.lt_of_lt_of_le (hL b hb) h5), fun k u v hk => (hb.block k (Array.getElem?_eq_some_iff.1 hk).1).trans hk, fun hv => hv.below hb0 hb, fun k hk => .inl (by rw [← hr]; exact hk)⟩
/-- a span put behind those that were gathered: all that the walk owes -/
theorem gath_step {w : World} {b0 base : Nat} {L : List Nat} {pre : List Sp} {x : Sp} {U W' : World} {v v' : Value} {tmp : Obj} (hbx : Boxed U b0 26 v) (hown : OwnP .i64 38 base v pre U) (hB : Below w.heap.size w U) (hs : base ≤ U.heap.size) (hwb : w.heap.size ≤ base) (hb0 : w.heap.size ≤ b0) (hb1 : b0 < base)
    (hL : ∀ b ∈ L, b < base ∧ b ≠ b0) (h : AddSp base v pre x (U.alloc tmp) v' W') :
    KeepsOthers U (W'.setCell ⟨b0, 0, none⟩ v') ∧ KpL b0 L U (W'.setCell ⟨b0, 0, none⟩ v') ∧ Gath w b0 base (pre ++ [x]) (W'.setCell ⟨b0, 0, none⟩ v') := by
  obtain ⟨k1, k2, k3, k4, k5⟩ := Boxed.appended (n₀ := w.heap.size) (tmp := tmp) hbx (by decide) (hown.weaken hwb) hB.size hb0 (h.own.weaken hwb) h.grown
  have hs1 : U.heap.size ≤ (W'.setCell ⟨b0, 0, none⟩ v').heap.size := k4.size
  have hvr : ∀ q, v.ownBlock = some q → base ≤ q := fun q hq => (hown.ownBlock q hq).1
  have hrow : rowOf b0 (W'.setCell ⟨b0, 0, none⟩ v') = v'.ownBlock := by unfold rowOf; rw [k2.cell]; rfl
  have hrow0 : rowOf b0 U = v.ownBlock := by unfold rowOf; rw [hbx.cell]; rfl
  have hbx1 : W'.heap[b0]? = some (.cells #[v] 26 (0, 0)) := k1
  have hown2 : OwnP .i64 38 base v' (pre ++ [x]) (W'.setCell ⟨b0, 0, none⟩ v') := h.own.moved (fun q hq => Below.heap_setCell _ _ _ _ (fun e => by
    have := (h.own.ownBlock q hq).1
    have e' : q = b0 := e
    omega))
  refine ⟨k4, ⟨⟨hs1, fun b hb hbl => ?_⟩, fun k u z hk => ?_, fun _ q hq => ?_, fun q hq => ?_⟩, v', k2, hown2, .inr (by simp), hB.trans k5, Nat.le_trans hs hs1⟩
  · have h9 := hL b hb
    refine (Below.heap_setCell _ _ _ _ h9.2).trans ((h.grown.block b (by simp; omega) (fun e => by have := hvr b e.symm; omega)).trans (Below.heap_alloc _ _ _ hbl))
  · have h1 : (U.alloc tmp).heap[k]? = some (.cells #[u, z] 38 (0, 0)) := (Below.heap_alloc _ _ _ (Array.getElem?_eq_some_iff.1 hk).1).trans hk
    refine (Below.heap_setCell _ _ _ _ ?_).trans (h.small k u z h1)
    intro e
    have h2 : U.heap[b0]? = _ := hbx
    rw [show k = b0 from e] at hk
    rw [hk] at h2
    have := (Obj.cells.inj (Option.some.inj h2)).2.1
    exact absurd this (by decide)
  · rw [hrow] at hq
    exact (hown2.ownBlock q hq).2
  · rw [hrow] at hq
    rw [hrow0]
    rcases h.block q hq with e | e
    · exact .inl e
    · exact .inr (by simp at e; omega)
end Go.Proofs.Ytjbjflmpdmflmaa.H
