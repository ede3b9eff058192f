/- The contract of cache.Get. -/
import Derived.Test.YtkdkhphpknnceaaDoorCPut
import Derived.Test.YtkdkhphpknnceaaDoorWInts
import Derived.Ground.NamesProg
import Derived.Shelf.Slices.In.SortAlone
import Derived.Shelf.Slices.In.SortNone
import Derived.Lib.SortBridge
import Derived.Sort.EveryDepth
namespace Go.Proofs.YtkdkhphpknnceaaDoor.C
open Go.RowKit Go.Maps Go.Proofs.YtkdkhphpknnceaaDoor.H

def GetPost (c : Nat) (M G : List Nat) (x : Ca) (i : Int) (w : World) (r : Ending) (w' : World) : Prop := ∃ v, r = .returned (.tuple #[v, .bool (findC x.L i).isSome]) ∧ OwnQ .i32 44 w.heap.size v ((findC x.L i).getD []) w' ∧ Ch c M G (getC x i) w' ∧ KeepB M w w'
set_option maxRecDepth 100000 in
set_option maxHeartbeats 16000000 in
theorem get_any {c : Nat} {M G : List Nat} {x : Ca} (i : Int) (hi : -9223372036854775808 ≤ i ∧ i ≤ 9223372036854775807) (w : World) (h : Ch c M G x w) :
    Calls Tryd.prog 10 #[.pointer (some ⟨c, 0, none⟩), .int .i64 i] w (GetPost c M G x i w) := by
  obtain ⟨P, hP⟩ : ∃ P, GetPost c M G x i w = P := ⟨_, rfl⟩
  rw [hP]
  have HP := Lib.hid hP
  have hx := h
  obtain ⟨m, e, ns, h, h2, hfit⟩ := h
  have hc1 := h.c1
  obtain ⟨v, ok, hrun, hf⟩ := h.mp.look hi
  rcases hf with ⟨rfl, hno⟩ | ⟨b, rfl, rfl, hm⟩
  · have hn : findC x.L i = none := find_none _ _ (fun z hz => by
      rw [← h2] at hz
      obtain ⟨y, hy, rfl⟩ := List.mem_map.1 hz
      exact hno (y.i, y.b) (List.mem_map.2 ⟨y, hy, rfl⟩))
    have HPk := Lib.hid (peek_any i hi w hx)
    have HN := Lib.hid hn
    have HX := Lib.hid hx
    clear h h2 hno hP hi hn hfit hx
    go_enter Tryd.func10, Tryd.ntmps10
    go_wp2_with fail
    refine HPk.out.mono ?_
    rintro r w2 ⟨u, rfl, h5, h6⟩
    have HEnd : Hid (P (.returned (.tuple #[u, .bool (findC x.L i).isSome])) w2) := Lib.hid (by
      rw [← HP.out]
      refine ⟨u, rfl, h5, ?_, KeepB.of_below h6⟩
      have e9 : getC x i = x := by unfold getC; rw [HN.out]
      rw [e9]
      exact HX.out.below h6)
    clear h5 h6
    try dsimp only
    rename_i K hK
    refine hK _ _ ?_
    go_wp2
    exact HEnd.out
  · obtain ⟨y, hy, he⟩ := List.mem_map.1 hm
    injection he with he1 he2
    subst he1 he2
    have hfd := find_nodup ns y h.num hy
    rw [h2] at hfd
    obtain ⟨ls, cs, rfl⟩ := List.append_of_mem hy
    have HLv := Lib.hid (leave_any y w h)
    have hdf := drop_found h.num
    have hnd := h.nd
    have HLa : Hid ((ls ++ cs).map toE = dropC x.L y.i) := Lib.hid (by rw [← hdf.1, ← h2])
    have HNo : Hid (∀ z ∈ ls ++ cs, z.i ≠ y.i) := Lib.hid hdf.2
    have HNb : Hid (y.b ∉ e :: blkN (ls ++ cs)) := Lib.hid (fun hm9 => by
      have e1 : blkN (ls ++ y :: cs) = blkN ls ++ y.b :: blkN cs := by rw [blkN_append]; rfl
      rw [e1] at hnd
      rw [blkN_append] at hm9
      have h9 := (List.nodup_cons.1 hnd)
      have h10 := List.nodup_append.1 h9.2
      rcases List.mem_cons.1 hm9 with h11 | h11
      · exact h9.1 (by rw [← h11]; simp)
      · rcases List.mem_append.1 h11 with h11 | h11
        · exact h10.2.2 y.b h11 y.b (by simp) rfl
        · exact (List.nodup_cons.1 h10.2.1).1 h11)
    have HFi : Hid ((ls ++ cs).length + 1 = x.L.length) := Lib.hid (by rw [← h2]; simp; omega)
    have HFt := Lib.hid hfit
    have HFd := Lib.hid hfd
    have HI := Lib.hid hi
    clear h h2 hm hy hdf hnd hx hfit hfd hP hi
    go_enter Tryd.func10, Tryd.ntmps10
    go_wp2_with fail
    refine HLv.out.mono ?_
    rintro r w0 ⟨rfl, h5, h6, h7⟩
    have HJ := Lib.hid (join_any y w0 h5 h7 HNb.out HNo.out (by have := HFi.out; have := HFt.out; omega))
    have HK0 := Lib.hid h6
    clear h5 h6 h7
    try dsimp only
    rename_i K0 hK0
    refine hK0 _ _ ?_
    go_wp2_with fail
    refine HJ.out.mono ?_
    rintro r w1 ⟨rfl, h5, h6⟩
    have hch : Ch c M G (getC x y.i) w1 := by
      unfold getC
      rw [HFd.out]
      refine ⟨m, e, _, h5, ?_, ?_⟩
      · show (ls ++ cs ++ [y]).map toE = dropC x.L y.i ++ [(y.i, y.g)]
        rw [List.map_append, HLa.out]
        rfl
      · have h8 := HFi.out
        have h9 := HFt.out
        show (dropC x.L y.i ++ [(y.i, y.g)]).length ≤ x.most ∧ _
        rw [← HLa.out]
        simp at h8 ⊢
        omega
    have hfd2 : findC (getC x y.i).L y.i = some y.g := by
      have h8 := find_nodup (ls ++ cs ++ [y]) y h5.num (by simp)
      rw [show (ls ++ cs ++ [y]).map (fun y => (y.i, y.g)) = (getC x y.i).L by
        unfold getC
        rw [HFd.out]
        show (ls ++ cs ++ [y]).map toE = dropC x.L y.i ++ [(y.i, y.g)]
        rw [List.map_append, HLa.out]
        rfl] at h8
      exact h8
    have HPk := Lib.hid (peek_any y.i HI.out w1 hch)
    have HC := Lib.hid hch
    have HF2 := Lib.hid hfd2
    have HK1 := Lib.hid (HK0.out.trans h6)
    clear h5 h6 hch hfd2
    try dsimp only
    rename_i K1 hK1
    refine hK1 _ _ ?_
    go_wp2_with fail
    refine HPk.out.mono ?_
    rintro r w2 ⟨u, rfl, h5, h6⟩
    rw [HF2.out] at h5 ⊢
    have HEnd : Hid (P (.returned (.tuple #[u, .bool (some y.g).isSome])) w2) := Lib.hid (by
      rw [← HP.out]
      refine ⟨u, by rw [HFd.out], ?_, HC.out.below h6, HK1.out.trans (KeepB.of_below h6)⟩
      rw [HFd.out]
      exact h5.weaken HK1.out.size)
    clear h5 h6
    try dsimp only
    rename_i K2 hK2
    refine hK2 _ _ ?_
    go_wp2
    exact HEnd.out
end Go.Proofs.YtkdkhphpknnceaaDoor.C

/- The contract of cache.Order. -/
namespace Go.Proofs.YtkdkhphpknnceaaDoor.C
open Go.RowKit Go.Maps Go.Proofs.YtkdkhphpknnceaaDoor.H
open Go.Proofs.YtkdkhphpknnceaaDoor.W (OwnI IntsIn wpList_append_ints ints_one take_snoc)

def slLen : Value → Nat
  | .slice _ n _ => n
  | _ => 0
theorem OwnI.slLen {base : Nat} {v : Value} {xs : List Int} {w : World} (h : OwnI base v xs w) : slLen v = xs.length := by
  obtain ⟨a, c, rfl, -⟩ := W.OwnI.shape h
  rfl
end Go.Proofs.YtkdkhphpknnceaaDoor.C

/- The contract of slices.Sort over numbers: the shelf's, laid here in plain words. -/
namespace Go.Proofs.YtkdkhphpknnceaaDoor.C
open Go.RowKit Go.Maps Go.Proofs.YtkdkhphpknnceaaDoor.H Go.Shelf Go.Sort
open Go.Proofs.YtkdkhphpknnceaaDoor.W (OwnI IntsIn wpList_append_ints ints_one take_snoc)

def laysSort_ren : Go.Shelf.Ren := ⟨fun | 189 => 23 | 125 => 39 | 257 => 38 | 128 => 56 | 129 => 57 | 294 => 47 | 295 => 48 | 296 => 49 | 297 => 50 | 298 => 51 | 299 => 52 | 216 => 53 | 300 => 54 | 301 => 55 | 328 => 61 | 329 => 62 | 330 => 63 | 331 => 64 | 332 => 65 | 215 => 66 | 343 => 67 | n => n, fun | 28 => 67 | 3 => 3 | 46 => 83 | 0 => 0 | 51 => 102 | 53 => 104 | 4 => 4 | 183 => 96 | 182 => 95 | 131 => 29 | 5 => 5 | 9 => 9 | 218 => 107 | 222 => 111 | 228 => 116 | 229 => 87 | n => n, fun | n => n⟩
theorem laysSort : Go.Proofs.Lays.n189 Tryd.prog laysSort_ren := {
  mixed := by kernel_rfl
  f125 := Tryd.func39.trans (congrArg some (by kernel_rfl))
  f128 := Tryd.func56.trans (congrArg some (by kernel_rfl))
  f129 := Tryd.func57.trans (congrArg some (by kernel_rfl))
  f189 := Tryd.func23.trans (congrArg some (by kernel_rfl))
  f215 := Tryd.func66.trans (congrArg some (by kernel_rfl))
  f216 := Tryd.func53.trans (congrArg some (by kernel_rfl))
  f257 := Tryd.func38.trans (congrArg some (by kernel_rfl))
  f294 := Tryd.func47.trans (congrArg some (by kernel_rfl))
  f295 := Tryd.func48.trans (congrArg some (by kernel_rfl))
  f296 := Tryd.func49.trans (congrArg some (by kernel_rfl))
  f297 := Tryd.func50.trans (congrArg some (by kernel_rfl))
  f298 := Tryd.func51.trans (congrArg some (by kernel_rfl))
  f299 := Tryd.func52.trans (congrArg some (by kernel_rfl))
  f300 := Tryd.func54.trans (congrArg some (by kernel_rfl))
  f301 := Tryd.func55.trans (congrArg some (by kernel_rfl))
  f328 := Tryd.func61.trans (congrArg some (by kernel_rfl))
  f329 := Tryd.func62.trans (congrArg some (by kernel_rfl))
  f330 := Tryd.func63.trans (congrArg some (by kernel_rfl))
  f331 := Tryd.func64.trans (congrArg some (by kernel_rfl))
  f332 := Tryd.func65.trans (congrArg some (by kernel_rfl))
  f343 := Tryd.func67.trans (congrArg some (by kernel_rfl))
  t0 := Tryd.underlying0
  a0 := Tryd.isAgg0
  z0 := Tryd.sizeOf0
  v0 := Tryd.zeroValue0
  t3 := Tryd.underlying3
  a3 := Tryd.isAgg3
  z3 := Tryd.sizeOf3
  v3 := Tryd.zeroValue3
  t4 := Tryd.underlying4
  a4 := Tryd.isAgg4
  z4 := Tryd.sizeOf4
  v4 := Tryd.zeroValue4
  t5 := Tryd.underlying5
  a5 := Tryd.isAgg5
  z5 := Tryd.sizeOf5
  v5 := Tryd.zeroValue5
  t9 := Tryd.underlying9
  a9 := Tryd.isAgg9
  z9 := Tryd.sizeOf9
  v9 := Tryd.zeroValue9
  t28 := Tryd.underlying67
  a28 := Tryd.isAgg67
  z28 := Tryd.sizeOf67
  v28 := Tryd.zeroValue67
  t46 := Tryd.underlying83
  a46 := Tryd.isAgg83
  z46 := Tryd.sizeOf83
  v46 := Tryd.zeroValue83
  t51 := Tryd.underlying102
  a51 := Tryd.isAgg102
  z51 := Tryd.sizeOf102
  v51 := Tryd.zeroValue102
  t53 := Tryd.underlying104
  a53 := Tryd.isAgg104
  z53 := Tryd.sizeOf104
  v53 := Tryd.zeroValue104
  t131 := Tryd.underlying29
  a131 := Tryd.isAgg29
  z131 := Tryd.sizeOf29
  v131 := Tryd.zeroValue29
  t182 := Tryd.underlying95
  a182 := Tryd.isAgg95
  z182 := Tryd.sizeOf95
  v182 := Tryd.zeroValue95
  t183 := Tryd.underlying96
  a183 := Tryd.isAgg96
  z183 := Tryd.sizeOf96
  v183 := Tryd.zeroValue96
  t218 := Tryd.underlying107
  a218 := Tryd.isAgg107
  z218 := Tryd.sizeOf107
  v218 := Tryd.zeroValue107
  t222 := Tryd.underlying111
  a222 := Tryd.isAgg111
  z222 := Tryd.sizeOf111
  v222 := Tryd.zeroValue111
  t228 := Tryd.underlying116
  a228 := Tryd.isAgg116
  z228 := Tryd.sizeOf116
  v228 := Tryd.zeroValue116
  t229 := Tryd.underlying87
  a229 := Tryd.isAgg87
  z229 := Tryd.sizeOf87
  v229 := Tryd.zeroValue87 }
abbrev sortI (zs : List Int) : List Int := zs.mergeSort fun x y => decide (x ≤ y)
theorem keepB_grow (w : World) (os : Array Obj) : KeepB [] w (grow w os) := ⟨rfl, rfl, rfl, by simp [grow], fun i hi _ => heap_grow_old w os hi⟩
theorem drewN_tape (w : World) (q : Nat) : (w.drewN q).tape = w.tape := by
  induction q generalizing w with
  | zero => rfl
  | succ q ih => first | exact ih w.drew | (show (World.drew _).tape = _; exact ih w)
theorem keepB_drewN (w : World) (q : Nat) : KeepB [] w (w.drewN q) := by
  obtain ⟨h1, h2, h3⟩ := World.drewN_alike w q
  exact KeepB.of_below ⟨h2, drewN_tape w q, h3, by rw [h1]; exact Nat.le_refl _, fun i _ => by rw [h1]⟩
theorem sort_any (b cap : Nat) (zs : List Int) (w : World) (hb : b < w.heap.size) (hc : ∀ j, j < zs.length → w.cell? ⟨b, 0 + j, none⟩ = some (.int .i64 (zs.getD j 0))) (hf : ∀ j, j < zs.length → w.frozen? ⟨b, 0 + j, none⟩ = false) (hl : zs.length ≤ 1000000) :
    Calls Tryd.prog 23 #[.slice (some ⟨b, 0, none⟩) zs.length cap] w fun e w' => e = .returned (.tuple #[]) ∧ (∀ j, j < zs.length → w'.cell? ⟨b, 0 + j, none⟩ = some (.int .i64 ((sortI zs).getD j 0))) ∧ KeepB [b] w w' := by
  have hH := Lib.holds_of_ints (n := zs.length) (Nat.le_refl _) hc hf
  rw [List.take_length] at hH
  have hs := calls_of_every_depth (fun D => AnyS.slices_Sort_int_alone laysSort D b 0 cap zs w hH hb (by omega))
  refine hs.mono ?_
  rintro e w' ⟨he, n, os, hw⟩
  have hly : (sortI zs).length = zs.length := List.length_mergeSort _
  rw [Lib.sorted_world _ w b 0 n _ _ os hH (by simp)] at hw
  refine ⟨he, fun j hj => ?_, ?_⟩
  · have h5 := Lib.cells_sorted_ints (q := n) (os := os) (Nat.le_refl zs.length) hly hc j (by simp [hly, hj])
    rw [List.drop_length, List.append_nil] at h5
    rw [hw]
    exact h5
  · rw [hw]
    exact (((keepB_drewN w n).mono (by simp)).trans (KeepB.of_grown (grown_setCells b _ 0 _))).trans ((keepB_grow _ os).mono (by simp))
theorem sort_nil (p : Option Addr) (cap : Nat) (w : World) : Calls Tryd.prog 23 #[.slice p 0 cap] w fun e w' => e = .returned (.tuple #[]) ∧ w' = w :=
  calls_of_every_depth (fun D => AnyS.slices_Sort_int_none_alone laysSort D p cap w)
end Go.Proofs.YtkdkhphpknnceaaDoor.C
