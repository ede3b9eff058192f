/- parts.pieces: its iterator hands on just a text's parts, one behind the other. slices.AppendSeq and Collect of texts; parts.Split. -/
import Derived.Test.YtghnkpfnpidncaaDoorRows
import Derived.Test.YtghnkpfnpidncaaDoorPMath
import Derived.RangeFuncBox
import Derived.RangeFuncNested
import Derived.RangeFuncBound
import Derived.RangeFuncCalls
import Derived.RangeFuncLeaves
import Derived.Shelf.Abstract
import Derived.Shelf.RegionOpen
import Derived.WalkKit
import Derived.WalkLawsBesides
import Derived.WalkSpells
import Derived.OwnWalkIn
import Derived.OwnWalk
import Derived.TacticsInMore
import Derived.LoopNIn
import Derived.LoopIn
import Derived.Maps.AppendAt
import Derived.Lib.Hide
import Derived.Outline
namespace Go.Proofs.YtghnkpfnpidncaaDoor.P
open Go.RowKit Go.Shelf

attribute [local go_sem] Oper.semAt_some

theorem extract_drop (t : ByteArray) (n : Nat) : bl (t.extract n t.size) = (bl t).drop n := by
  simp [bl]
  rw [List.take_of_length_le (by simp)]
theorem extract_take (t : ByteArray) (n : Nat) : bl (t.extract 0 n) = (bl t).take n := by simp [bl]

set_option maxRecDepth 100000 in
set_option maxHeartbeats 1000000 in
theorem pieces1_in (n : Nat) (hn : 1 ≤ n) (l Bs Bz n₀ : Nat) (s : ByteArray) (sz : Nat) (hs : (s.size : Int) ≤ 140737488355328) (hz1 : (1 : Int) ≤ sz) (hz8 : (sz : Int) ≤ 8000) (J Jx : List ByteArray → World → Prop)
    (hY : ∀ pre x W, J pre W → pre.length < cntN s.size sz → YieldAt Fence.wide (n - 1) Tryd.prog l #[.string x] W fun e W' =>
      (e = .returned (.bool true) ∧ J (pre ++ [x]) W' ∧ Below n₀ W W') ∨ (e = .returned (.bool false) ∧ Jx (pre ++ [x]) W'))
    (W : World) (hBs : W.cell? ⟨Bs, 0, none⟩ = some (.string s)) (hBz : W.cell? ⟨Bz, 0, none⟩ = some (.int .i64 sz)) (hBn : Bz < n₀) (h0 : J [] W) :
    CallsIn Fence.wide n Tryd.prog 63 #[.func (.yield l) #[] #[], .pointer (some ⟨Bs, 0, none⟩), .pointer (some ⟨Bz, 0, none⟩)] W fun e W' => (∃ v, e = .returned v) ∧
      ((∃ ys, ys.map bl = chunks (bl s) sz ∧ J ys W') ∨ (∃ pre, True ∧ Jx pre W')) := by
  refine callsIn_of_wp Tryd.func63 rfl trivial ?_ rfl
  simp only [Tryd.ntmps63, List.size_toArray, List.length_cons, List.length_nil, Nat.reduceAdd, Nat.reduceSub, Array.replicate_succ, Array.replicate_zero, List.push_toArray, List.append_toArray, List.nil_append, List.cons_append]
  have HY := Lib.hid hY
  clear hY
  gi_wp2
  gi_loopw [4] (fun p wr => ∃ (pre : List ByteArray) (t : ByteArray), p = .string t ∧ (t.size : Int) ≤ 140737488355328 ∧ wr.cell? ⟨Bz, 0, none⟩ = some (.int .i64 sz) ∧ Hid (pre.length + 1 ≤ cntN s.size sz ∧ bl t = (bl s).drop (pre.length * sz) ∧ pre.map bl = (List.range pre.length).map (chunk (bl s) sz) ∧ J pre wr)) (fun p _ => match p with | .string t => t.size | _ => 0)
  case atStart => exact ⟨[], s, rfl, hs, hBz, Lib.hid ⟨by have := cntN_pos s.size sz; simpa using this, by simp, by simp, h0⟩⟩
  case round =>
    rename_i wr _
    obtain ⟨pre, t, rfl, ht, hBzw, HF⟩ := hrel
    have hts : t.size = s.size - pre.length * sz := by
      have h := congrArg List.length HF.out.2.1
      simpa [bl] using h
    by_cases hb : (sz : Int) < t.size
    · have hm := (more_iff s.size sz pre.length (by omega) HF.out.1).1 (by omega)
      have hx : bl (t.extract 0 sz) = chunk (bl s) sz pre.length := by rw [extract_take, HF.out.2.1]; rfl
      obtain ⟨x, hxx⟩ : ∃ x, t.extract 0 sz = x := ⟨_, rfl⟩
      rw [hxx] at hx
      obtain ⟨fn, tmps, assign, body, hy, hR⟩ := HY.out pre x wr HF.out.2.2.2 (by omega)
      have HX := Lib.hid hx
      have HR := Lib.hid hR
      have HM := Lib.hid hm
      clear hR hx hts hm
      gi_wp2
      refine HR.out.mono ?_
      rintro e W' (⟨rfl, hJ', hk⟩ | ⟨rfl, hJx'⟩)
      · have hBz' : W'.cell? ⟨Bz, 0, none⟩ = some (.int .i64 sz) := (hk.cell (p := ⟨Bz, 0, none⟩) hBn).trans hBzw
        have HJ' := Lib.hid hJ'
        clear hJ' hk hBzw
        gi_wp2
        go_roundw
        case rel =>
          refine ⟨pre ++ [x], t.extract sz t.size, rfl, by simp; omega, hBz', Lib.hid ⟨by have := HM.out; simp; omega, ?_, ?_, HJ'.out⟩⟩
          · rw [extract_drop, HF.out.2.1, List.drop_drop, List.length_append, List.length_singleton, Nat.add_mul, Nat.one_mul]
          · rw [List.map_append, HF.out.2.2.1, List.length_append, List.length_singleton, List.range_succ, List.map_append]
            simp [HX.out]
        case measure => simp; omega
      · gi_wp2
        refine bodyPost_ret (results_none rfl _ _ _) rfl ?_
        exact ⟨⟨_, rfl⟩, .inr ⟨_, trivial, hJx'⟩⟩
    · have hm : pre.length + 1 = cntN s.size sz := by
        have h1 := more_iff s.size sz pre.length (by omega) HF.out.1
        have h2 := HF.out.1
        omega
      have hx : bl t = chunk (bl s) sz pre.length := by
        rw [HF.out.2.1]; unfold chunk
        rw [List.take_of_length_le]
        have := last_le s.size sz pre.length (by omega) hm
        simp [bl]; omega
      obtain ⟨fn, tmps, assign, body, hy, hR⟩ := HY.out pre t wr HF.out.2.2.2 (by omega)
      have HX := Lib.hid hx
      have HR := Lib.hid hR
      have HM := Lib.hid hm
      have hfin : (pre ++ [t]).map bl = chunks (bl s) sz := by
        unfold chunks
        rw [bl_len, ← HM.out, List.map_append, HF.out.2.2.1, List.range_succ, List.map_append]
        simp [HX.out]
      have HFin := Lib.hid hfin
      clear hR hx hts hm hfin
      gi_wp2
      refine HR.out.mono ?_
      rintro e W' (⟨rfl, hJ', hk⟩ | ⟨rfl, hJx'⟩)
      · gi_wp2
        go_end0
        exact ⟨⟨_, rfl⟩, .inl ⟨_, HFin.out, hJ'⟩⟩
      · gi_wp2
        go_end0
        exact ⟨⟨_, rfl⟩, .inr ⟨_, trivial, hJx'⟩⟩
end Go.Proofs.YtghnkpfnpidncaaDoor.P
