/- append of what was said upon what was said. -/
import Derived.Test.YtfapmgecebcfaaaDoorQIs
import Derived.Test.YtfapmgecebcfaaaDoorMerged0
import Derived.Test.YtfapmgecebcfaaaDoorMerged5
import Derived.Laws.Rows
import Derived.Test.YtfapmgecebcfaaaDoorWInts
import Derived.Deep.Slices
import Derived.ProofKit
import Derived.Lib.MinMax
namespace Go.Proofs.YtfapmgecebcfaaaDoor.Q
open Go.RowKit
open Go.Proofs.YtfapmgecebcfaaaDoor.W (OwnI OwnR IntsIn RunesIn)

theorem append_as_run (base : Nat) (v v2 : Value) (l l2 : List Say) (w : World) (hown : OwnA base v l w) (h2 : OwnA base v2 l2 w) (hl : (l.length : Int) ≤ 1000000) (hl2 : (l2.length : Int) ≤ 1000000) (hbase : base ≤ w.heap.size) :
    ∃ v' w', (Builtin.append_ #[33, 33] 33 #[v, v2]).run Tryd.prog w = .ok v' w' ∧ OwnA base v' (l ++ l2) w' ∧ w.grownBy w' v.ownBlock := by
  obtain ⟨i0, hi, hz0, hz1, hz2⟩ := info_parts infoAct
  obtain ⟨rows, k1, k2, k3⟩ := hown.rows
  obtain ⟨rows2, m1, m2, m3⟩ := h2.rows
  have hlen2 : rows2.length = l2.length := by rw [← m1, List.length_map]
  rcases m2.2 with ⟨rfl, h0⟩ | ⟨g, cap, cur, rfl, hb2, hg2, hc2, hm2, hs2, ht2⟩
  · have hl0 : l2 = [] := List.length_eq_zero_iff.1 h0
    subst hl0
    refine ⟨v, w, run_append_owned_none w base _ _ _ i0 6 Tryd.underlying33 hi v _ _ k2, by rw [List.append_nil]; exact hown, ⟨rfl, rfl, rfl, Nat.le_refl _, fun _ _ _ => rfl⟩⟩
  · obtain ⟨v', w', hr, hw', h4, _⟩ := run_append_own w base 33 33 51 i0 (.agg #[.int .i64 0, .int .i32 0, .int .u8 0, .bool false, .slice none 0 0, .string ⟨#[]⟩]) 6 56 Tryd.underlying33 hi hz0 hz1 hz2 rfl (by decide) v l.length (flat rows) k2 ⟨g, 0, none⟩ l2.length cap (flat rows2) (by rw [flat_len, hlen2])
      (fun j u hj => by
        have hadd : ((⟨g, 0, none⟩ : Addr).add j) = ⟨g, j, none⟩ := by unfold Addr.add; split <;> simp_all
        have hjl : j < l2.length * 6 := by have := (List.getElem?_eq_some_iff.1 hj).1; rw [flat_len, hlen2] at this; exact this
        rw [hadd, World.ownsRow.cellAt m2 j hjl, hj])
      (fun u hu => by
        unfold flat at hu
        obtain ⟨r, hr, hu⟩ := List.mem_flatMap.1 hu
        simp only [aCells, List.mem_cons, List.not_mem_nil, or_false] at hu
        rcases hu with rfl | rfl | rfl | rfl | rfl | rfl
        · rfl
        · rfl
        · rfl
        · rfl
        · rcases (m3 r hr).2 with ⟨h, _⟩ | ⟨_, _, _, h, _⟩ <;> rw [h] <;> rfl
        · rfl)
      (by unfold maxLen; omega) (by omega) hbase
    refine ⟨v', w', hr, ⟨⟨rows ++ rows2, by rw [List.map_append, k1, m1], ?_, ?_⟩⟩, h4⟩
    · rw [List.length_append]
      unfold flat
      rw [List.flatMap_append]
      exact hw'
    · have keep : ∀ (q : Value) (zs : List Int), OwnI base q zs w → OwnI base q zs w' := fun q zs hq => World.ownsRow.kept hq h4 (by
        cases hv : q.ownBlock with
        | none => exact .inl rfl
        | some k =>
          refine .inr (fun e => ?_)
          obtain ⟨cs, hcs, _⟩ := own_type hq hv
          obtain ⟨ds, hds, _⟩ := own_type k2 e.symm
          exact absurd (types_ne hcs hds) (by decide))
      intro q hq
      rcases List.mem_append.1 hq with hq | hq
      · exact keep _ _ (k3 q hq)
      · exact keep _ _ (m3 q hq)
theorem wpList_append_as {ops : Array Oper} {rest : List Oper} {o : Oper} {z : Act} {w : World} {Q : Exit → Act → World → Prop} (hgd : o.guard = none) (s x : Operand)
    (ho : o.op = .call { callee := .builtin .append, args := #[s, x], argTypes := #[33, 33] }) (hty : o.type = 33)
    (base : Nat) (v v2 : Value) (l l2 : List Say) (hs : z.eval s = v) (hxv : z.eval x = v2) (hown : OwnA base v l w) (h2 : OwnA base v2 l2 w) (hl : (l.length : Int) ≤ 1000000) (hl2 : (l2.length : Int) ≤ 1000000) (hbase : base ≤ w.heap.size)
    (hK : ∀ v' w', OwnA base v' (l ++ l2) w' → w.grownBy w' v.ownBlock → wpList Tryd.prog ops Q rest (z.put o.dst v') w') : wpList Tryd.prog ops Q (o :: rest) z w :=
  wpList_plain hgd fun _ hK' => by
    obtain ⟨v', w', hr, h1, h2⟩ := append_as_run base v v2 l l2 w hown h2 hl hl2 hbase
    unfold Oper.wp execOp
    simp only [ho, hty, resolve, invoke, builtin, Sem.run_bind, Sem.run_pure, Result.andThen_ok, List.map_toArray, List.map_cons, List.map_nil, hs, hxv, hr]
    exact hK' _ _ (hK v' w' h1 h2)
theorem OwnA.weaken {base base' : Nat} {v : Value} {l : List Say} {w : World} (h : OwnA base v l w) (hb : base' ≤ base) : OwnA base' v l w := by
  obtain ⟨rows, h1, h2, h3⟩ := h.rows
  refine ⟨⟨rows, h1, ⟨h2.1, h2.2.imp id ?_⟩, fun r hr => own_weaken (h3 r hr) hb⟩⟩
  rintro ⟨g, cap, cur, k1, k2, k3⟩
  exact ⟨g, cap, cur, k1, Nat.le_trans hb k2, k3⟩
end Go.Proofs.YtfapmgecebcfaaaDoor.Q

/- The contract of seq's Clone. -/
namespace Go.Proofs.YtfapmgecebcfaaaDoor.Q
open Go.RowKit

set_option maxRecDepth 100000 in
set_option maxHeartbeats 8000000 in
theorem clone_any (k : Nat) (p : PS) (w : World) (hB : PBlk k p w) :
    Calls Tryd.prog 15 #[.pointer (some ⟨k, 0, none⟩)] w fun e w' => e = .returned (.pointer (some ⟨w.heap.size, 0, none⟩)) ∧ PBlk w.heap.size p w' ∧ Below w.heap.size w w' := by
  have HB := Lib.hid hB
  have hi : (Tryd.prog.info? 31).map (·.size) = some (pArr p).size := by show _ = some 27; kernel_rfl
  have HI := Lib.hid hi
  clear hB hi
  go_enter Tryd.func15, Tryd.ntmps15
  go_wp2_with (refine wpList_load_row rfl _ _ rfl k rfl _ (pArr p) (0, 0) _ HB.out Tryd.underlying31 rfl HI.out ?_)
  have hz := PBlk.zero w
  have hst := run_storeCells_from (P := Tryd.prog) w.heap.size 31 (pArr p).toList 0 zeroP (w.alloc (.cells zeroP 31)) hz (by simp [pArr, zeroP]) (by intro v hv; simp only [pArr, List.mem_cons, List.not_mem_nil, or_false] at hv; rcases hv with rfl | rfl | rfl | rfl | rfl | rfl | rfl | rfl | rfl | rfl | rfl | rfl | rfl | rfl | rfl | rfl | rfl | rfl | rfl | rfl | rfl | rfl | rfl | rfl | rfl | rfl | rfl <;> rfl)
  simp only [List.take_zero, List.nil_append, Array.toArray_toList] at hst
  have h1 : PBlk w.heap.size p ((w.alloc (.cells zeroP 31)).setRow w.heap.size (pArr p)) := setRow_heap _ _ _ _ _ _ hz
  have h2 : Below w.heap.size w ((w.alloc (.cells zeroP 31)).setRow w.heap.size (pArr p)) := ((Below.refl _ _).alloc (Nat.le_refl _) _).grown (grown_setRow _ _ _) (by simp) (fun q hq => by cases hq; exact Nat.le_refl _)
  obtain ⟨w2, hw2⟩ : ∃ w2, (w.alloc (.cells zeroP 31)).setRow w.heap.size (pArr p) = w2 := ⟨_, rfl⟩
  rw [hw2] at hst h1 h2
  unfold zeroP at hst
  have HSt := Lib.hid hst
  have H1 := Lib.hid h1
  have H2 := Lib.hid h2
  clear hz hst h1 h2 hw2
  go_wp2_with fail
  rw [HSt.out]
  go_wp2
  go_ret
  exact ⟨rfl, H1.out, H2.out⟩
end Go.Proofs.YtfapmgecebcfaaaDoor.Q

/- Slices of numbers that were handed in. -/
namespace Go.Proofs.YtfapmgecebcfaaaDoor.W
open Go.RowKit Go.ChangeShapes Go.WideShapes

def isInt (z : Int) : Prop := -9223372036854775808 ≤ z ∧ z ≤ 9223372036854775807
theorem cIntI : Tryd.prog.cellsOf 3 = 1 := by kernel_rfl
/-- A slice of numbers, as it is handed in. -/
structure ArgI (a : Option Addr) (len cap : Nat) (zs : List Int) (w : World) : Prop where
  rs : IntsIn a len zs w
  lt : ∀ b ∈ blkOf a zs, b < w.heap.size
  fit : len ≤ cap
  top : (cap : Int) ≤ 9223372036854775807
  nil : a = none → len = 0 ∧ cap = 0
  ok : ∀ z ∈ zs, isInt z
theorem IntsIn.take {a : Option Addr} {len : Nat} {zs : List Int} {w : World} (h : IntsIn a len zs w) {k : Nat} (hk : k ≤ len) : IntsIn a k (zs.take k) w := by
  have hl := h.1
  refine ⟨by rw [List.length_take]; omega, ?_⟩
  rcases h.2 with e | ⟨b, off, ha, hb, hi⟩
  · left; rw [e]; simp
  · refine .inr ⟨b, off, ha, hb, fun i hi' => ?_⟩
    rw [List.length_take] at hi'
    rw [hi i (by omega)]
    simp [List.getD_eq_getElem?_getD, List.getElem?_take, show i < k by omega]
theorem ArgI.belowAll {a : Option Addr} {len cap : Nat} {zs : List Int} {w w' : World} (h : ArgI a len cap zs w) (hb : Below w.heap.size w w') : ArgI a len cap zs w' :=
  ⟨h.rs.belowAll hb, fun b hm => Nat.lt_of_lt_of_le (h.lt b hm) hb.size, h.fit, h.top, h.nil, h.ok⟩

set_option maxRecDepth 100000 in
theorem open_ints {H : Type} {enc : TypeId × Value → H} {W : World} {base : Nat} {v : Value} {x : DataW H × List MemPlace} (hv : Value.okWide Tryd.prog W .any base 38 v) (h : ∃ m, DataW.trod enc Tryd.prog W 0 (fun _ => true) true m 38 v.cells.toList = some x) :
    ∃ (a : Option Addr) (len cap : Nat) (zs : List Int), v = .slice a len cap ∧ ArgI a len cap zs W := by
  obtain ⟨a, len, cap, rfl⟩ := okWide_slice Tryd.underlying38 hv
  obtain ⟨m, hm⟩ := h
  rcases Deep.open_slice1 Tryd.underlying38 cIntI hm with ⟨hc, _⟩ | ⟨a', len', cap', m', n', V, D, Pl, hc, _, hl, hcm, hmm, _, hx⟩
  · simp [Value.cells] at hc
    obtain ⟨rfl, rfl, rfl⟩ := hc
    exact ⟨none, 0, 0, [], rfl, ⟨rfl, .inl rfl⟩, (fun _ h => by cases h), Nat.le_refl _, by omega, fun _ => ⟨rfl, rfl⟩, (fun _ h => by cases h)⟩
  · simp [Value.cells] at hc
    obtain ⟨rfl, rfl, rfl⟩ := hc
    simp only [if_true] at hmm
    subst hmm
    have hcap : (m' : Int) ≤ 9223372036854775807 := by unfold maxLen at hcm; omega
    have each : ∀ i, i < m' → ∃ z : Int, W.cell? (a'.add i) = some (.int .i64 z) ∧ isInt z := by
      intro i hi
      obtain ⟨h1, h2⟩ := hx i (by omega)
      obtain ⟨z, e, _, hw⟩ := DataW.trod_int Tryd.underlying3 h2
      simp at e
      have hb : isInt z := by
        have := hw
        simp [Lit.wf, IntKind.min, IntKind.max, IntKind.signed, IntKind.bits] at this
        unfold isInt
        omega
      exact ⟨z, by rw [h1, e], hb⟩
    by_cases hl0 : len = 0
    · subst hl0
      exact ⟨some a', 0, m', [], rfl, ⟨rfl, .inl rfl⟩, (fun _ h => by cases h), by omega, hcap, (fun e => by cases e), (fun _ h => by cases h)⟩
    · obtain ⟨q, hq⟩ := Deep.choose_lt each
      obtain ⟨b, off, spot⟩ := a'
      have hc0 := (hq 0 (by omega)).1
      have hspot : spot = none := by simpa [Addr.add] using World.cell?_spot hc0
      subst hspot
      have hadd : ∀ j, (⟨b, off, none⟩ : Addr).add j = ⟨b, off + j, none⟩ := fun j => by unfold Addr.add; split <;> simp_all
      have hblt := World.block_lt_of_cell? W _ hc0
      refine ⟨some ⟨b, off, none⟩, len, m', (List.range len).map q, rfl, ⟨by simp, .inr ⟨b, off, rfl, hblt, fun i hi => ?_⟩⟩, fun c hc => ?_, hl, hcap, (fun e => by cases e), fun z hz => ?_⟩
      · have hi' : i < len := by simpa using hi
        have := (hq i (by omega)).1
        rw [hadd] at this
        simp [hi', this]
      · have := blkOf_sub (zs := [0]) (fun _ => by simp) c hc
        simp [blkOf] at this
        subst this
        exact hblt
      · obtain ⟨i, hi, rfl⟩ := List.mem_map.1 hz
        exact (hq i (by have := List.mem_range.1 hi; omega)).2
end Go.Proofs.YtfapmgecebcfaaaDoor.W
