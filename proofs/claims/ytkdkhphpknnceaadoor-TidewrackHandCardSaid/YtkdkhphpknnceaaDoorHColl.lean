/- slices.AppendSeq and slices.Collect of what is left. -/
import Derived.Test.YtkdkhphpknnceaaDoorHLeft
namespace Go.Proofs.YtkdkhphpknnceaaDoor.H
open Go.RowKit Go.Shelf

attribute [local go_sem] Oper.semAt_some

theorem kpL_below {w0 : World} {b0 base : Nat} {L : List Nat} {pre : List Sp} {W W1 : World} (h : Gath w0 b0 base pre W) (hL : ∀ b ∈ L, b < base) (hb : Below W.heap.size W W1) : KpL b0 L W W1 := by
  obtain ⟨v, h1, -, -, -, h5⟩ := h
  have hb0 : b0 < W.heap.size := h1.lt
  have hr := rowOf_same (hb.block b0 hb0)
  exact ⟨KeepL.of_below hb (fun b hb => Nat.lt_of_lt_of_le (hL b hb) h5), fun k u v hk => (hb.block k (Array.getElem?_eq_some_iff.1 hk).1).trans hk, fun hv => hv.below hb0 hb, fun k hk => .inl (by rw [← hr]; exact hk)⟩
/-- a span put behind those that were gathered: all that the walk owes -/
theorem gath_step {w : World} {b0 base : Nat} {L : List Nat} {pre : List Sp} {x : Sp} {U W' : World} {v v' : Value} {tmp : Obj} (hbx : Boxed U b0 32 v) (hown : OwnP .i64 38 base v pre U) (hB : Below w.heap.size w U) (hs : base ≤ U.heap.size) (hwb : w.heap.size ≤ base) (hb0 : w.heap.size ≤ b0) (hb1 : b0 < base)
    (hL : ∀ b ∈ L, b < base ∧ b ≠ b0) (h : AddSp base v pre x (U.alloc tmp) v' W') :
    KeepsOthers U (W'.setCell ⟨b0, 0, none⟩ v') ∧ KpL b0 L U (W'.setCell ⟨b0, 0, none⟩ v') ∧ Gath w b0 base (pre ++ [x]) (W'.setCell ⟨b0, 0, none⟩ v') := by
  obtain ⟨k1, k2, k3, k4, k5⟩ := Boxed.appended (n₀ := w.heap.size) (tmp := tmp) hbx (by decide) (hown.weaken hwb) hB.size hb0 (h.own.weaken hwb) h.grown
  have hs1 : U.heap.size ≤ (W'.setCell ⟨b0, 0, none⟩ v').heap.size := k4.size
  have hvr : ∀ q, v.ownBlock = some q → base ≤ q := fun q hq => (hown.ownBlock q hq).1
  have hrow : rowOf b0 (W'.setCell ⟨b0, 0, none⟩ v') = v'.ownBlock := by unfold rowOf; rw [k2.cell]; rfl
  have hrow0 : rowOf b0 U = v.ownBlock := by unfold rowOf; rw [hbx.cell]; rfl
  have hbx1 : W'.heap[b0]? = some (.cells #[v] 32 (0, 0)) := k1
  have hown2 : OwnP .i64 38 base v' (pre ++ [x]) (W'.setCell ⟨b0, 0, none⟩ v') := h.own.moved (fun q hq => Below.heap_setCell _ _ _ _ (fun e => by
    have := (h.own.ownBlock q hq).1
    have e' : q = b0 := e
    omega))
  refine ⟨k4, ⟨⟨hs1, fun b hb hbl => ?_⟩, fun k u z hk => ?_, fun _ q hq => ?_, fun q hq => ?_⟩, v', k2, hown2, .inr (by simp), hB.trans k5, Nat.le_trans hs hs1⟩
  · have h9 := hL b hb
    refine (Below.heap_setCell _ _ _ _ h9.2).trans ((h.grown.block b (by simp; omega) (fun e => by have := hvr b e.symm; omega)).trans (Below.heap_alloc _ _ _ hbl))
  · have h1 : (U.alloc tmp).heap[k]? = some (.cells #[u, z] 38 (0, 0)) := (Below.heap_alloc _ _ _ (Array.getElem?_eq_some_iff.1 hk).1).trans hk
    refine (Below.heap_setCell _ _ _ _ ?_).trans (h.small k u z h1)
    intro e
    have h2 : U.heap[b0]? = _ := hbx
    rw [show k = b0 from e] at hk
    rw [hk] at h2
    have := (Obj.cells.inj (Option.some.inj h2)).2.1
    exact absurd this (by decide)
  · rw [hrow] at hq
    exact (hown2.ownBlock q hq).2
  · rw [hrow] at hq
    rw [hrow0]
    rcases h.block q hq with e | e
    · exact .inl e
    · exact .inr (by simp at e; omega)
set_option maxRecDepth 100000 in
set_option maxHeartbeats 4000000 in
theorem appseq_in (n : Nat) (hn : 4 ≤ n) (B1 B2 : Nat) (a1 : Option Addr) (n1 c1 : Nat) (xs : List Sp) (a2 : Option Addr) (n2 c2 : Nat) (ys : List Sp) (hl1 : (xs.length : Int) ≤ 1000000) (hl2 : (ys.length : Int) ≤ 1000000) (hl3 : ((leftL xs ys).length : Int) ≤ 1000000) (w : World)
    (hL : LLook B1 B2 a1 n1 c1 xs a2 n2 c2 ys w) :
    CallsIn Fence.wide n Tryd.prog 41 #[.slice none 0 0, .func (.func 42) #[] #[.pointer (some ⟨B1, 0, none⟩), .pointer (some ⟨B2, 0, none⟩)]] w (SpPost (leftL xs ys) w) := by
  have h1 : 1 ≤ n := by omega
  obtain ⟨T, hT⟩ : ∃ T, leftL xs ys = T := ⟨_, rfl⟩
  rw [hT] at hl3 ⊢
  obtain ⟨P, hP⟩ : ∃ P, SpPost T w = P := ⟨_, rfl⟩
  rw [hP]
  have HP := Lib.hid hP
  obtain ⟨W0, hW0⟩ : ∃ W0, W0 = w.alloc (.cells #[.slice none 0 0] 32) := ⟨_, rfl⟩
  have hs0 : W0.heap.size = w.heap.size + 1 := by rw [hW0]; simp
  have hb0 : Below w.heap.size w W0 := by rw [hW0]; exact (Below.refl _ _).alloc (Nat.le_refl _) _
  have hL0 := hL.below hb0
  have hG0 : Gath w w.heap.size W0.heap.size [] W0 := ⟨.slice none 0 0, by rw [hW0]; exact Boxed.new _ _ _, OwnP.nil _ _ _ _, .inl rfl, hb0, Nat.le_refl _⟩
  have hHd := left_hands (b0 := w.heap.size) (n - 1) (by omega) hl1 hl2 hL0 rfl (by omega) hG0.rowV
  rw [hT] at hHd
  have HLb : Hid (∀ b ∈ lookL B1 B2 a1 a2, b < w.heap.size) := Lib.hid hL.lt
  have HHd := Lib.hid hHd
  have HG0 := Lib.hid hG0
  have HT3 := Lib.hid hl3
  clear hP hL hL0 hG0 hHd hT hl3 hb0
  refine callsIn_of_wp_marks Tryd.func41 rfl trivial ?_ rfl
  simp only [Tryd.ntmps41, List.size_toArray, List.length_cons, List.length_nil, Nat.reduceAdd, Nat.reduceSub, Array.replicate_succ, Array.replicate_zero, List.push_toArray, List.append_toArray, List.nil_append, List.cons_append]
  gi_wp2_with fail
  rw [← hW0]
  clear hW0
  refine wpIn_rangeFunc_R rfl h1 (gf := 42) (lb := #[.pointer (some ⟨B1, 0, none⟩), .pointer (some ⟨B2, 0, none⟩)]) rfl trivial (enters_of Tryd.func42 (by kernel_rfl) rfl)
    HHd.out (fun h k => kpL_t h k) (kpL_b (by omega) (fun b hb => by have := HLb.out b hb; omega)) rfl
    (Gath w w.heap.size W0.heap.size) (gath_abid (by omega) (by omega)) (gath_put (by omega)) HG0.out
    (fun x W a1' W1 => W1 = W.alloc (.cells #[.int .i64 x.1, .int .i64 x.2] 38) ∧ a1' = { tmps := #[.slice none 0 0, .func (.func 42) #[] #[.pointer (some ⟨B1, 0, none⟩), .pointer (some ⟨B2, 0, none⟩)], .pointer (some ⟨w.heap.size, 0, none⟩), undef, .slice none 0 0, .pointer (some ⟨W.heap.size, 0, none⟩), .func (.func 42) #[] #[.pointer (some ⟨B1, 0, none⟩), .pointer (some ⟨B2, 0, none⟩)], .agg #[.int .i64 x.1, .int .i64 x.2], undef, undef, undef, undef, undef], defers := [] })
    (by rintro x W a1' W1 ⟨rfl, -⟩; exact (Below.refl _ _).alloc (Nat.le_refl _) _)
    (fun pre W W1 h hb => kpL_below h (fun b hb' => by have := HLb.out b hb'; omega) hb) ?assign ?body ?done
  case assign =>
    intro l x W K hK
    have HK := Lib.hid (hK _ _ ⟨rfl, rfl⟩)
    clear hK
    gi_wp2
    exact HK.out
  case body =>
    rintro l pre x W a1' W1 o o' ⟨rfl, rfl⟩ ho hoc hG hlt
    obtain ⟨v, hbx, hown, hnn, hB, hsU⟩ := hG
    have hlW : W.heap.size ≠ l := by
      intro e
      rw [← e, heap_alloc_new] at ho
      cases ho
      cases hoc
    obtain ⟨U, hU⟩ : ∃ U, U = (W.alloc (.cells #[.int .i64 x.1, .int .i64 x.2] 38)).putObj l o' := ⟨_, rfl⟩
    have hxb : U.heap[W.heap.size]? = some (.cells #[.int .i64 x.1, .int .i64 x.2] 38 (0, 0)) := by rw [hU]; exact (World.putObj_heap_other hlW).trans (heap_alloc_new _ _)
    rw [← hU] at hbx hown hB hsU ⊢
    obtain ⟨X1, X2⟩ := x
    have hx0 : U.cell? ⟨W.heap.size, 0, none⟩ = some (.int .i64 X1) := by rw [cell_block hxb]; rfl
    have hx1 : U.cell? ⟨W.heap.size, 1, none⟩ = some (.int .i64 X2) := by rw [cell_block hxb]; rfl
    have hc := hbx.cell
    have hf := hbx.frozen
    have HBx := Lib.hid hbx
    have HOwn := Lib.hid hown
    have HB := Lib.hid hB
    have HNn := Lib.hid hnn
    have HLt := Lib.hid hlt
    have HXb := Lib.hid hxb
    have HsU := Lib.hid hsU
    have hWl : W.heap.size < U.heap.size := (Array.getElem?_eq_some_iff.1 hxb).1
    clear hbx hown hB hnn hU ho hoc hlW hlt hxb hsU
    gi_wp2_with (gi_at_builtin; refine wpListIn_add_span rfl _ _ rfl rfl W0.heap.size v pre (X1, X2) U.heap.size rfl rfl (OwnP.alloc HOwn.out _) HNn.out (by simp) (by simp) (by have := HLt.out; have := HT3.out; omega) (by have := HsU.out; simp; omega) ?_)
    intro v' W' hadd
    rw [← hs0] at hadd
    obtain ⟨gg, cc, rfl⟩ := hadd.some_
    have hE := gath_step (L := lookL B1 B2 a1 a2) HBx.out HOwn.out HB.out HsU.out (by omega) (Nat.le_refl _) (by omega) (fun b hb => by have := HLb.out b hb; omega) hadd
    have HE := Lib.hid hE
    have hbx1 : Boxed W' w.heap.size 32 v := (HBx.out.alloc _).kept hadd.grown (HBx.out.not_row (by decide) HOwn.out)
    have hc1 := hbx1.cell
    have hf1 := hbx1.frozen
    clear hE hadd hbx1 hc hf hx0 hx1
    gi_wp2
    exact HE.out
  case done =>
    rintro D W hD hG hDm
    obtain ⟨v, hbx, hown, hnn, hB, -⟩ := hG
    obtain ⟨va, vc, rfl, -⟩ := hown.shape
    have hc := hbx.cell
    have HE : Hid (P (.returned (.slice va T.length vc)) (W.putObj D (.deferred none))) := Lib.hid (by
      rw [← HP.out]
      exact ⟨_, rfl, ownsRow_putObj (hown.weaken (by omega)) _ hDm rfl, Below.putObj' hB _ (by omega) hB.size⟩)
    have HDm := Lib.hid hDm
    clear hbx hown hnn hB hDm
    gi_wp2
    refine ⟨by simp, .inl ⟨_, _, rfl, run_takeDeferred HDm.out, ?_⟩⟩
    refine ⟨_, results_tmp (t := 4) rfl _ _ _, ?_⟩
    exact HE.out
set_option maxRecDepth 100000 in
set_option maxHeartbeats 1000000 in
theorem collect_any (B1 B2 : Nat) (a1 : Option Addr) (n1 c1 : Nat) (xs : List Sp) (a2 : Option Addr) (n2 c2 : Nat) (ys : List Sp) (hl1 : (xs.length : Int) ≤ 1000000) (hl2 : (ys.length : Int) ≤ 1000000) (hl3 : ((leftL xs ys).length : Int) ≤ 1000000) (w : World)
    (hL : LLook B1 B2 a1 n1 c1 xs a2 n2 c2 ys w) :
    Calls Tryd.prog 25 #[.func (.func 42) #[] #[.pointer (some ⟨B1, 0, none⟩), .pointer (some ⟨B2, 0, none⟩)]] w (SpPost (leftL xs ys) w) := by
  have HA := Lib.hid ((callsIn_wide (n := 4)).1 (appseq_in 4 (Nat.le_refl _) B1 B2 a1 n1 c1 xs a2 n2 c2 ys hl1 hl2 hl3 w hL))
  obtain ⟨P, hP⟩ : ∃ P, SpPost (leftL xs ys) w = P := ⟨_, rfl⟩
  rw [hP]
  have HP := Lib.hid hP
  clear hP hL hl1 hl2 hl3
  go_enter Tryd.func25, Tryd.ntmps25
  go_wp2_with fail
  refine HA.out.mono ?_
  rintro e w1 ⟨v, rfl, h1, h2⟩
  have HE : Hid (P (.returned v) w1) := Lib.hid (by rw [← HP.out]; exact ⟨v, rfl, h1, h2⟩)
  clear h1 h2
  go_wp2
  exact HE.out
end Go.Proofs.YtkdkhphpknnceaaDoor.H
