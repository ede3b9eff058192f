/- The iterator num.digits: it hands on just a number's bytes; and the contract of num.Size. -/
import Derived.Test.YtkggmcnocpgnbaaDoorRows
import Derived.Test.YtkggmcnocpgnbaaDoorMerged9
import Derived.RangeFuncBox
import Derived.RangeFuncNested
import Derived.RangeFuncBound
import Derived.RangeFuncCalls
import Derived.RangeFuncLeaves
import Derived.Shelf.Abstract
import Derived.Shelf.RegionOpen
import Derived.WalkKit
import Derived.WalkLawsBesides
import Derived.WalkSpells
import Derived.OwnWalkIn
import Derived.TacticsInMore
import Derived.LoopNIn
import Derived.LoopIn
import Derived.Maps.AppendAt
import Derived.Lib.Hide
import Derived.Outline
namespace Go.Proofs.YtkggmcnocpgnbaaDoor.I
open Go.RowKit Go.Shelf

attribute [local go_sem] Oper.semAt_some

theorem ret_int {k : IntKind} {a b : Int} (h : a = b) : Ending.returned (.int k a) = .returned (.int k b) := by rw [h]
theorem clip_eq {v x : Int} (h : x = if (4611686018427387904 : Int) < (if v < 0 then 0 else v) then 4611686018427387904 else if v < 0 then 0 else v) : x = ((clipN v : Nat) : Int) := by
  rw [h]
  unfold clipN top
  split <;> split <;> omega
theorem clip_any (v : Int) (w : World) : Calls Tryd.prog 113 #[.int .i64 v] w fun e w' => e = .returned (.int .i64 ((clipN v : Nat) : Int)) ∧ w = w' := by
  go_enter Tryd.func113, Tryd.ntmps113
  go_wp2
  all_goals go_ret
  all_goals first
    | (refine ⟨ret_int ?_, rfl⟩; unfold clipN top; omega)
    | (refine ⟨ret_int (clip_eq ?_), rfl⟩
       first
       | (have h : (4611686018427387904 : Int) < (if v < 0 then 0 else v) := by assumption
          rw [if_pos h])
       | (have h : (if v < 0 then 0 else v) ≤ (4611686018427387904 : Int) := by assumption
          rw [if_neg (by omega)]
          first | rw [if_pos (by assumption)] | rw [if_neg (by omega)]))

set_option maxRecDepth 100000 in
set_option maxHeartbeats 1000000 in
theorem digits1_in (n : Nat) (hn : 1 ≤ n) (l Bn n₀ : Nat) (v : Int) (J Jx : List UInt8 → World → Prop)
    (hY : ∀ pre x W, J pre W → pre.length < (digs (clipN v)).length → YieldAt Fence.wide (n - 1) Tryd.prog l #[.int .u8 (x.toNat : Int)] W fun e W' =>
      (e = .returned (.bool true) ∧ J (pre ++ [x]) W' ∧ Below n₀ W W') ∨ (e = .returned (.bool false) ∧ Jx (pre ++ [x]) W'))
    (W : World) (hBn : W.cell? ⟨Bn, 0, none⟩ = some (.int .i64 v)) (h0 : J [] W) :
    CallsIn Fence.wide n Tryd.prog 112 #[.func (.yield l) #[] #[], .pointer (some ⟨Bn, 0, none⟩)] W fun e W' => (∃ v, e = .returned v) ∧
      ((∃ ys, ys = digs (clipN v) ∧ J ys W') ∨ (∃ pre, pre <+: digs (clipN v) ∧ Jx pre W')) := by
  refine callsIn_of_wp Tryd.func112 rfl trivial ?_ rfl
  simp only [Tryd.ntmps112, List.size_toArray, List.length_cons, List.length_nil, Nat.reduceAdd, Nat.reduceSub, Array.replicate_succ, Array.replicate_zero, List.push_toArray, List.append_toArray, List.nil_append, List.cons_append]
  obtain ⟨L, hL⟩ : ∃ L, digs (clipN v) = L := ⟨_, rfl⟩
  rw [hL] at hY ⊢
  have HL := Lib.hid hL
  have HY := Lib.hid hY
  clear hL hY
  gi_wp2_with (refine ⟨trivial, ?_⟩; gi_at_call 113; refine (callsIn_wide.2 (clip_any v _)).mono ?_; rintro e w' ⟨rfl, rfl⟩)
  obtain ⟨m0, hm0⟩ : ∃ m0, clipN v = m0 := ⟨_, rfl⟩
  have hm0top : (m0 : Int) ≤ 9223372036854775807 := by have := clipN_le v; rw [hm0] at this; unfold top at this; omega
  rw [hm0]
  rw [hm0] at HL
  clear hm0
  gi_loopw [3] (fun p wr => ∃ (pre : List UInt8) (m : Nat), p = .int .i64 m ∧ (m : Int) ≤ 9223372036854775807 ∧ Hid (L = pre ++ digs m) ∧ Hid (J pre wr)) (fun p _ => (intOf p).toNat)
  case atStart => exact ⟨[], m0, rfl, hm0top, Lib.hid (by rw [HL.out]; rfl), Lib.hid h0⟩
  case round =>
    rename_i wr _
    obtain ⟨pre, m, rfl, hm, HLp, HJ⟩ := hrel
    by_cases hb : m < 128
    · have hL1 : L = pre ++ [UInt8.ofNat m] := by rw [HLp.out, digs_small hb]
      obtain ⟨fn, tmps, assign, body, hy, hR⟩ := HY.out pre (UInt8.ofNat m) wr HJ.out (by rw [hL1]; simp)
      have ex : ((UInt8.ofNat m).toNat : Int) = (m : Int) := by simp; omega
      rw [ex] at hy
      have HL1 := Lib.hid hL1
      have HR := Lib.hid hR
      clear hL1 ex hR
      gi_wp2
      refine HR.out.mono ?_
      rintro e W' (⟨rfl, hJ', hk⟩ | ⟨rfl, hJx'⟩)
      · gi_wp2
        go_end0
        exact ⟨⟨_, rfl⟩, .inl ⟨_, HL1.out.symm, hJ'⟩⟩
      · gi_wp2
        go_end0
        exact ⟨⟨_, rfl⟩, .inr ⟨_, by rw [HL1.out]; exact List.prefix_refl _, hJx'⟩⟩
    · have hL1 : L = (pre ++ [UInt8.ofNat (m % 128 + 128)]) ++ digs (m / 128) := by rw [HLp.out, digs_big hb]; simp
      obtain ⟨fn, tmps, assign, body, hy, hR⟩ := HY.out pre (UInt8.ofNat (m % 128 + 128)) wr HJ.out (by rw [hL1]; simp)
      have e1 := i64_and127 (m : Int)
      have e2 := low_byte m
      rw [← e2] at hy
      have HL1 := Lib.hid hL1
      have HR := Lib.hid hR
      clear hL1 hR e2
      gi_wp2
      refine HR.out.mono ?_
      rintro e W' (⟨rfl, hJ', hk⟩ | ⟨rfl, hJx'⟩)
      · have HJ' := Lib.hid hJ'
        clear hJ' hk
        gi_wp2
        go_roundw
        case rel => exact ⟨pre ++ [UInt8.ofNat (m % 128 + 128)], m / 128, by go_num, by omega, HL1, HJ'⟩
        case measure => simp [intOf]; omega
      · gi_wp2
        refine bodyPost_ret (results_none rfl _ _ _) rfl ?_
        exact ⟨⟨_, rfl⟩, .inr ⟨_, by rw [HL1.out]; exact List.prefix_append _ _, hJx'⟩⟩

theorem digits_in (n : Nat) (v : Int) (w : World) :
    CallsIn Fence.wide n Tryd.prog 90 #[.int .i64 v] w fun e w' => e = .returned (.func (.func 112) #[] #[.pointer (some ⟨w.heap.size, 0, none⟩)]) ∧ w' = w.alloc (.cells #[.int .i64 v] 3) := by
  refine callsIn_of_wp Tryd.func90 rfl trivial ?_ rfl
  simp only [Tryd.ntmps90, List.size_toArray, List.length_cons, List.length_nil, Nat.reduceAdd, Nat.reduceSub, Array.replicate_succ, Array.replicate_zero, List.push_toArray, List.append_toArray, List.nil_append, List.cons_append]
  gi_wp2
  go_ret
  exact ⟨rfl, rfl⟩

theorem digits_stops (n : Nat) (hn : 1 ≤ n) (Bn n₀ : Nat) (v : Int) (w : World) (hBn : Bn < w.heap.size) (hc : w.cell? ⟨Bn, 0, none⟩ = some (.int .i64 v)) :
    SeqStopsK Fence.wide n Tryd.prog 112 #[.pointer (some ⟨Bn, 0, none⟩)] (fun x : UInt8 => #[Value.int .u8 (x.toNat : Int)]) (Below n₀) (fun ys => ys = digs (clipN v)) (fun pre => pre <+: digs (clipN v)) (digs (clipN v)).length w := fun l J Jx W hW _ _ hY h0 =>
  digits1_in n hn l Bn n₀ v J Jx hY W ((hW.cell (p := ⟨Bn, 0, none⟩) hBn).trans hc) h0

end Go.Proofs.YtkggmcnocpgnbaaDoor.I
