/- The contract of cache.Get. -/
import Derived.Test.YtkdkhphpknnceaaCPut
namespace Go.Proofs.Ytkdkhphpknnceaa.C
open Go.RowKit Go.Maps Go.Proofs.Ytkdkhphpknnceaa.H

def GetPost (c : Nat) (M G : List Nat) (x : Ca) (i : Int) (w : World) (r : Ending) (w' : World) : Prop := ∃ v, r = .returned (.tuple #[v, .bool (findC x.L i).isSome]) ∧ OwnQ .i32 42 w.heap.size v ((findC x.L i).getD []) w' ∧ Ch c M G (getC x i) w' ∧ KeepB M w w'
set_option maxRecDepth 100000 in
set_option maxHeartbeats 16000000 in
theorem get_any {c : Nat} {M G : List Nat} {x : Ca} (i : Int) (hi : -9223372036854775808 ≤ i ∧ i ≤ 9223372036854775807) (w : World) (h : Ch c M G x w) :
    Calls Try.prog 10 #[.pointer (some ⟨c, 0, none⟩), .int .i64 i] w (GetPost c M G x i w) := by
  obtain ⟨P, hP⟩ : ∃ P, GetPost c M G x i w = P := ⟨_, rfl⟩
  rw [hP]
  have HP := Lib.hid hP
  have hx := h
  obtain ⟨m, e, ns, h, h2, hfit⟩ := h
  have hc1 := h.c1
  obtain ⟨v, ok, hrun, hf⟩ := h.mp.look hi
  rcases hf with ⟨rfl, hno⟩ | ⟨b, rfl, rfl, hm⟩
  · have hn : findC x.L i = none := find_none _ _ (fun z hz => by
      rw [← h2] at hz
      obtain ⟨y, hy, rfl⟩ := List.mem_map.1 hz
      exact hno (y.i, y.b) (List.mem_map.2 ⟨y, hy, rfl⟩))
    have HPk := Lib.hid (peek_any i hi w hx)
    have HN := Lib.hid hn
    have HX := Lib.hid hx
    clear h h2 hno hP hi hn hfit hx
    go_enter Try.func10, Try.ntmps10
    go_wp2_with fail
    refine HPk.out.mono ?_
    rintro r w2 ⟨u, rfl, h5, h6⟩
    have HEnd : Hid (P (.returned (.tuple #[u, .bool (findC x.L i).isSome])) w2) := Lib.hid (by
      rw [← HP.out]
      refine ⟨u, rfl, h5, ?_, KeepB.of_below h6⟩
      have e9 : getC x i = x := by unfold getC; rw [HN.out]
      rw [e9]
      exact HX.out.below h6)
    clear h5 h6
    try dsimp only
    rename_i K hK
    refine hK _ _ ?_
    go_wp2
    exact HEnd.out
  · obtain ⟨y, hy, he⟩ := List.mem_map.1 hm
    injection he with he1 he2
    subst he1 he2
    have hfd := find_nodup ns y h.num hy
    rw [h2] at hfd
    obtain ⟨ls, cs, rfl⟩ := List.append_of_mem hy
    have HLv := Lib.hid (leave_any y w h)
    have hdf := drop_found h.num
    have hnd := h.nd
    have HLa : Hid ((ls ++ cs).map toE = dropC x.L y.i) := Lib.hid (by rw [← hdf.1, ← h2])
    have HNo : Hid (∀ z ∈ ls ++ cs, z.i ≠ y.i) := Lib.hid hdf.2
    have HNb : Hid (y.b ∉ e :: blkN (ls ++ cs)) := Lib.hid (fun hm9 => by
      have e1 : blkN (ls ++ y :: cs) = blkN ls ++ y.b :: blkN cs := by rw [blkN_append]; rfl
      rw [e1] at hnd
      rw [blkN_append] at hm9
      have h9 := (List.nodup_cons.1 hnd)
      have h10 := List.nodup_append.1 h9.2
      rcases List.mem_cons.1 hm9 with h11 | h11
      · exact h9.1 (by rw [← h11]; simp)
      · rcases List.mem_append.1 h11 with h11 | h11
        · exact h10.2.2 y.b h11 y.b (by simp) rfl
        · exact (List.nodup_cons.1 h10.2.1).1 h11)
    have HFi : Hid ((ls ++ cs).length + 1 = x.L.length) := Lib.hid (by rw [← h2]; simp; omega)
    have HFt := Lib.hid hfit
    have HFd := Lib.hid hfd
    have HI := Lib.hid hi
    clear h h2 hm hy hdf hnd hx hfit hfd hP hi
    go_enter Try.func10, Try.ntmps10
    go_wp2_with fail
    refine HLv.out.mono ?_
    rintro r w0 ⟨rfl, h5, h6, h7⟩
    have HJ := Lib.hid (join_any y w0 h5 h7 HNb.out HNo.out (by have := HFi.out; have := HFt.out; omega))
    have HK0 := Lib.hid h6
    clear h5 h6 h7
    try dsimp only
    rename_i K0 hK0
    refine hK0 _ _ ?_
    go_wp2_with fail
    refine HJ.out.mono ?_
    rintro r w1 ⟨rfl, h5, h6⟩
    have hch : Ch c M G (getC x y.i) w1 := by
      unfold getC
      rw [HFd.out]
      refine ⟨m, e, _, h5, ?_, ?_⟩
      · show (ls ++ cs ++ [y]).map toE = dropC x.L y.i ++ [(y.i, y.g)]
        rw [List.map_append, HLa.out]
        rfl
      · have h8 := HFi.out
        have h9 := HFt.out
        show (dropC x.L y.i ++ [(y.i, y.g)]).length ≤ x.most ∧ _
        rw [← HLa.out]
        simp at h8 ⊢
        omega
    have hfd2 : findC (getC x y.i).L y.i = some y.g := by
      have h8 := find_nodup (ls ++ cs ++ [y]) y h5.num (by simp)
      rw [show (ls ++ cs ++ [y]).map (fun y => (y.i, y.g)) = (getC x y.i).L by
        unfold getC
        rw [HFd.out]
        show (ls ++ cs ++ [y]).map toE = dropC x.L y.i ++ [(y.i, y.g)]
        rw [List.map_append, HLa.out]
        rfl] at h8
      exact h8
    have HPk := Lib.hid (peek_any y.i HI.out w1 hch)
    have HC := Lib.hid hch
    have HF2 := Lib.hid hfd2
    have HK1 := Lib.hid (HK0.out.trans h6)
    clear h5 h6 hch hfd2
    try dsimp only
    rename_i K1 hK1
    refine hK1 _ _ ?_
    go_wp2_with fail
    refine HPk.out.mono ?_
    rintro r w2 ⟨u, rfl, h5, h6⟩
    rw [HF2.out] at h5 ⊢
    have HEnd : Hid (P (.returned (.tuple #[u, .bool (some y.g).isSome])) w2) := Lib.hid (by
      rw [← HP.out]
      refine ⟨u, by rw [HFd.out], ?_, HC.out.below h6, HK1.out.trans (KeepB.of_below h6)⟩
      rw [HFd.out]
      exact h5.weaken HK1.out.size)
    clear h5 h6
    try dsimp only
    rename_i K2 hK2
    refine hK2 _ _ ?_
    go_wp2
    exact HEnd.out
end Go.Proofs.Ytkdkhphpknnceaa.C
