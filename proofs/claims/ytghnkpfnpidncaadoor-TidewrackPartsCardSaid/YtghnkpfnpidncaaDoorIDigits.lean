/- The iterator num.digits: it hands on just a number's bytes; and the contract of num.Size. -/
import Derived.Test.YtghnkpfnpidncaaDoorRows
import Derived.Test.YtghnkpfnpidncaaDoorIMath
import Derived.RangeFuncBox
import Derived.RangeFuncNested
import Derived.RangeFuncBound
import Derived.RangeFuncCalls
import Derived.RangeFuncLeaves
import Derived.Shelf.Abstract
import Derived.Shelf.RegionOpen
import Derived.WalkKit
import Derived.WalkLawsBesides
import Derived.WalkSpells
import Derived.OwnWalkIn
import Derived.TacticsInMore
import Derived.LoopNIn
import Derived.LoopIn
import Derived.Maps.AppendAt
import Derived.Lib.Hide
import Derived.Outline
namespace Go.Proofs.YtghnkpfnpidncaaDoor.I
open Go.RowKit Go.Shelf

attribute [local go_sem] Oper.semAt_some

theorem ret_int {k : IntKind} {a b : Int} (h : a = b) : Ending.returned (.int k a) = .returned (.int k b) := by rw [h]
theorem clip_eq {v x : Int} (h : x = if (4611686018427387904 : Int) < (if v < 0 then 0 else v) then 4611686018427387904 else if v < 0 then 0 else v) : x = ((clipN v : Nat) : Int) := by
  rw [h]
  unfold clipN top
  split <;> split <;> omega
theorem clip_any (v : Int) (w : World) : Calls Tryd.prog 69 #[.int .i64 v] w fun e w' => e = .returned (.int .i64 ((clipN v : Nat) : Int)) ∧ w = w' := by
  go_enter Tryd.func69, Tryd.ntmps69
  go_wp2
  all_goals go_ret
  all_goals refine ⟨ret_int (clip_eq ?_), rfl⟩
  · have h : (4611686018427387904 : Int) < (if v < 0 then 0 else v) := by assumption
    rw [if_pos h]
  · have h : (if v < 0 then 0 else v) ≤ (4611686018427387904 : Int) := by assumption
    rw [if_neg (by omega)]
    rw [if_pos (by assumption)]
  · have h : (if v < 0 then 0 else v) ≤ (4611686018427387904 : Int) := by assumption
    rw [if_neg (by omega)]
    rw [if_neg (by omega)]

set_option maxRecDepth 100000 in
set_option maxHeartbeats 1000000 in
theorem digits1_in (n : Nat) (hn : 1 ≤ n) (l Bn n₀ : Nat) (v : Int) (J Jx : List UInt8 → World → Prop)
    (hY : ∀ pre x W, J pre W → pre.length < (digs (clipN v)).length → YieldAt Fence.wide (n - 1) Tryd.prog l #[.int .u8 (x.toNat : Int)] W fun e W' =>
      (e = .returned (.bool true) ∧ J (pre ++ [x]) W' ∧ Below n₀ W W') ∨ (e = .returned (.bool false) ∧ Jx (pre ++ [x]) W'))
    (W : World) (hBn : W.cell? ⟨Bn, 0, none⟩ = some (.int .i64 v)) (h0 : J [] W) :
    CallsIn Fence.wide n Tryd.prog 68 #[.func (.yield l) #[] #[], .pointer (some ⟨Bn, 0, none⟩)] W fun e W' => (∃ v, e = .returned v) ∧
      ((∃ ys, ys = digs (clipN v) ∧ J ys W') ∨ (∃ pre, pre <+: digs (clipN v) ∧ Jx pre W')) := by
  refine callsIn_of_wp Tryd.func68 rfl trivial ?_ rfl
  simp only [Tryd.ntmps68, List.size_toArray, List.length_cons, List.length_nil, Nat.reduceAdd, Nat.reduceSub, Array.replicate_succ, Array.replicate_zero, List.push_toArray, List.append_toArray, List.nil_append, List.cons_append]
  obtain ⟨L, hL⟩ : ∃ L, digs (clipN v) = L := ⟨_, rfl⟩
  rw [hL] at hY ⊢
  have HL := Lib.hid hL
  have HY := Lib.hid hY
  clear hL hY
  gi_wp2_with (refine ⟨trivial, ?_⟩; gi_at_call 69; refine (callsIn_wide.2 (clip_any v _)).mono ?_; rintro e w' ⟨rfl, rfl⟩)
  obtain ⟨m0, hm0⟩ : ∃ m0, clipN v = m0 := ⟨_, rfl⟩
  have hm0top : (m0 : Int) ≤ 9223372036854775807 := by have := clipN_le v; rw [hm0] at this; unfold top at this; omega
  rw [hm0]
  rw [hm0] at HL
  clear hm0
  gi_loopw [3] (fun p wr => ∃ (pre : List UInt8) (m : Nat), p = .int .i64 m ∧ (m : Int) ≤ 9223372036854775807 ∧ Hid (L = pre ++ digs m) ∧ Hid (J pre wr)) (fun p _ => (intOf p).toNat)
  case atStart => exact ⟨[], m0, rfl, hm0top, Lib.hid (by rw [HL.out]; rfl), Lib.hid h0⟩
  case round =>
    rename_i wr _
    obtain ⟨pre, m, rfl, hm, HLp, HJ⟩ := hrel
    by_cases hb : m < 128
    · have hL1 : L = pre ++ [UInt8.ofNat m] := by rw [HLp.out, digs_small hb]
      obtain ⟨fn, tmps, assign, body, hy, hR⟩ := HY.out pre (UInt8.ofNat m) wr HJ.out (by rw [hL1]; simp)
      have ex : ((UInt8.ofNat m).toNat : Int) = (m : Int) := by simp; omega
      rw [ex] at hy
      have HL1 := Lib.hid hL1
      have HR := Lib.hid hR
      clear hL1 ex hR
      gi_wp2
      refine HR.out.mono ?_
      rintro e W' (⟨rfl, hJ', hk⟩ | ⟨rfl, hJx'⟩)
      · gi_wp2
        go_end0
        exact ⟨⟨_, rfl⟩, .inl ⟨_, HL1.out.symm, hJ'⟩⟩
      · gi_wp2
        go_end0
        exact ⟨⟨_, rfl⟩, .inr ⟨_, by rw [HL1.out]; exact List.prefix_refl _, hJx'⟩⟩
    · have hL1 : L = (pre ++ [UInt8.ofNat (m % 128 + 128)]) ++ digs (m / 128) := by rw [HLp.out, digs_big hb]; simp
      obtain ⟨fn, tmps, assign, body, hy, hR⟩ := HY.out pre (UInt8.ofNat (m % 128 + 128)) wr HJ.out (by rw [hL1]; simp)
      have e1 := i64_and127 (m : Int)
      have e2 := low_byte m
      rw [← e2] at hy
      have HL1 := Lib.hid hL1
      have HR := Lib.hid hR
      clear hL1 hR e2
      gi_wp2
      refine HR.out.mono ?_
      rintro e W' (⟨rfl, hJ', hk⟩ | ⟨rfl, hJx'⟩)
      · have HJ' := Lib.hid hJ'
        clear hJ' hk
        gi_wp2
        go_roundw
        case rel => exact ⟨pre ++ [UInt8.ofNat (m % 128 + 128)], m / 128, by go_num, by omega, HL1, HJ'⟩
        case measure => simp [intOf]; omega
      · gi_wp2
        refine bodyPost_ret (results_none rfl _ _ _) rfl ?_
        exact ⟨⟨_, rfl⟩, .inr ⟨_, by rw [HL1.out]; exact List.prefix_append _ _, hJx'⟩⟩

theorem digits_in (n : Nat) (v : Int) (w : World) :
    CallsIn Fence.wide n Tryd.prog 51 #[.int .i64 v] w fun e w' => e = .returned (.func (.func 68) #[] #[.pointer (some ⟨w.heap.size, 0, none⟩)]) ∧ w' = w.alloc (.cells #[.int .i64 v] 3) := by
  refine callsIn_of_wp Tryd.func51 rfl trivial ?_ rfl
  simp only [Tryd.ntmps51, List.size_toArray, List.length_cons, List.length_nil, Nat.reduceAdd, Nat.reduceSub, Array.replicate_succ, Array.replicate_zero, List.push_toArray, List.append_toArray, List.nil_append, List.cons_append]
  gi_wp2
  go_ret
  exact ⟨rfl, rfl⟩

theorem digits_stops (n : Nat) (hn : 1 ≤ n) (Bn n₀ : Nat) (v : Int) (w : World) (hBn : Bn < w.heap.size) (hc : w.cell? ⟨Bn, 0, none⟩ = some (.int .i64 v)) :
    SeqStopsK Fence.wide n Tryd.prog 68 #[.pointer (some ⟨Bn, 0, none⟩)] (fun x : UInt8 => #[Value.int .u8 (x.toNat : Int)]) (Below n₀) (fun ys => ys = digs (clipN v)) (fun pre => pre <+: digs (clipN v)) (digs (clipN v)).length w := fun l J Jx W hW _ _ hY h0 =>
  digits1_in n hn l Bn n₀ v J Jx hY W ((hW.cell (p := ⟨Bn, 0, none⟩) hBn).trans hc) h0

set_option maxRecDepth 100000 in
set_option maxHeartbeats 2000000 in
theorem size_in (n : Nat) (hn : 3 ≤ n) (v : Int) (w : World) :
    CallsIn Fence.wide n Tryd.prog 53 #[.int .i64 v] w fun e W' => e = .returned (.int .i64 ((digs (clipN v)).length : Int)) ∧ Below w.heap.size w W' := by
  have h1 : 1 ≤ n := by omega
  have h9 := digs_nine (clipN v) (clipN_le v)
  refine callsIn_of_wp_marks Tryd.func53 rfl trivial ?_ rfl
  simp only [Tryd.ntmps53, List.size_toArray, List.length_cons, List.length_nil, Nat.reduceAdd, Nat.reduceSub, Array.replicate_succ, Array.replicate_zero, List.push_toArray, List.append_toArray, List.nil_append, List.cons_append]
  gi_wp2_with (refine ⟨trivial, ?_⟩; gi_at_call 51; refine (digits_in (n - 1) v _).mono ?_; rintro e w' ⟨rfl, rfl⟩)
  have bO := Boxed.new w 3 (.int .i64 0)
  have bN := Boxed.new (w.alloc (.cells #[.int .i64 0] 3)) 3 (.int .i64 v)
  rw [World.size_alloc] at bN
  have hB0 : Below w.heap.size w ((w.alloc (.cells #[.int .i64 0] 3)).alloc (.cells #[.int .i64 v] 3)) := ((Below.refl _ w).alloc (Nat.le_refl _) _).alloc (by simp) _
  refine wpIn_rangeFunc_ownF rfl h1 (gf := 68) (lb := #[.pointer (some ⟨w.heap.size + 1, 0, none⟩)]) rfl trivial (enters_of Tryd.func68 (by kernel_rfl) rfl)
    (digits_stops (n - 1) (by omega) (w.heap.size + 1) w.heap.size v _ (by simp) bN.cell) belowK_t (belowK_b (by simp; omega)) (Below.refl _ _) (fun _ => rfl)
    (fun pre W => Boxed W w.heap.size 3 (.int .i64 (pre.length : Int)) ∧ Below w.heap.size w W)
    (fun _ _ _ => False)
    (OwnFrom.and (Own.from (boxed_own w.heap.size 3 (fun pre : List UInt8 => Value.int .i64 (pre.length : Int))) _) (ownFrom_below (Nat.le_refl _) (by simp; omega)))
    (fun _ _ _ _ _ hs _ _ => hs)
    ⟨bO.alloc _, hB0⟩
    (fun x => { tmps := #[.int .i64 v, undef, .int .i64 0, .pointer (some ⟨w.heap.size, 0, none⟩), .int .i64 v, .func (.func 68) #[] #[.pointer (some ⟨w.heap.size + 1, 0, none⟩)], .int .u8 (x.toNat : Int), undef, undef, undef], defers := [] }) ?assign ?body ?done ?stop
  case assign =>
    intro l x W K hK
    gi_wp2
    simpa using hK
  case body =>
    rintro l pre x W ⟨hv, hB⟩ hlt
    have hc := hv.cell
    have hf := hv.frozen
    have hl : (pre.length : Int) ≤ 9 := by omega
    gi_wp2
    exact ⟨KeepsOthers.setCell _ _ _, (Below.refl w.heap.size W).setCell (p := ⟨w.heap.size, 0, none⟩) (Nat.le_refl _) _, by have := hv.set (.int .i64 ((pre ++ [x]).length : Int)); simpa using this, hB.setCell (p := ⟨w.heap.size, 0, none⟩) (Nat.le_refl _) _⟩
  case done =>
    rintro D ys W hD rfl ⟨hv, hB⟩ hK
    have hc := hv.cell
    gi_wp2
    refine ⟨by simp, .inl ⟨_, _, rfl, run_takeDeferred hK, ?_⟩⟩
    exact ⟨_, results_tmp rfl _ _ _, rfl, hB.trans (belowK_b (w := w) (Nat.le_refl _) W D _ _ (by simp at hD; omega) hK rfl rfl)⟩
  case stop =>
    rintro D c pre W _ _ h _
    exact h.elim
theorem size_any (v : Int) (w : World) : Calls Tryd.prog 53 #[.int .i64 v] w fun e W' => e = .returned (.int .i64 ((digs (clipN v)).length : Int)) ∧ Below w.heap.size w W' :=
  (callsIn_wide (n := 3)).1 (size_in 3 (Nat.le_refl _) v w)
end Go.Proofs.YtghnkpfnpidncaaDoor.I
