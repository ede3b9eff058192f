/- The contract of cache.Order. -/
import Derived.Test.YtkdkhphpknnceaaDoorMerged3
import Derived.Ground.NamesProg
import Derived.Shelf.Slices.In.SortAlone
import Derived.Shelf.Slices.In.SortNone
import Derived.Lib.SortBridge
import Derived.Sort.EveryDepth
namespace Go.Proofs.YtkdkhphpknnceaaDoor.C
open Go.RowKit Go.Maps Go.Proofs.YtkdkhphpknnceaaDoor.H
open Go.Proofs.YtkdkhphpknnceaaDoor.W (OwnI IntsIn wpList_append_ints ints_one take_snoc)

def slLen : Value → Nat
  | .slice _ n _ => n
  | _ => 0
theorem OwnI.slLen {base : Nat} {v : Value} {xs : List Int} {w : World} (h : OwnI base v xs w) : slLen v = xs.length := by
  obtain ⟨a, c, rfl, -⟩ := W.OwnI.shape h
  rfl
end Go.Proofs.YtkdkhphpknnceaaDoor.C

/- The contract of slices.Sort over numbers: the shelf's, laid here in plain words. -/
namespace Go.Proofs.YtkdkhphpknnceaaDoor.C
open Go.RowKit Go.Maps Go.Proofs.YtkdkhphpknnceaaDoor.H Go.Shelf Go.Sort
open Go.Proofs.YtkdkhphpknnceaaDoor.W (OwnI IntsIn wpList_append_ints ints_one take_snoc)

def laysSort_ren : Go.Shelf.Ren := ⟨fun | 189 => 23 | 125 => 39 | 257 => 38 | 128 => 56 | 129 => 57 | 294 => 47 | 295 => 48 | 296 => 49 | 297 => 50 | 298 => 51 | 299 => 52 | 216 => 53 | 300 => 54 | 301 => 55 | 328 => 61 | 329 => 62 | 330 => 63 | 331 => 64 | 332 => 65 | 215 => 66 | 343 => 67 | n => n, fun | 28 => 67 | 3 => 3 | 46 => 83 | 0 => 0 | 51 => 102 | 53 => 104 | 4 => 4 | 183 => 96 | 182 => 95 | 131 => 29 | 5 => 5 | 9 => 9 | 218 => 107 | 222 => 111 | 228 => 116 | 229 => 87 | n => n, fun | n => n⟩
theorem laysSort : Go.Proofs.Lays.n189 Tryd.prog laysSort_ren := {
  mixed := by kernel_rfl
  f125 := Tryd.func39.trans (congrArg some (by kernel_rfl))
  f128 := Tryd.func56.trans (congrArg some (by kernel_rfl))
  f129 := Tryd.func57.trans (congrArg some (by kernel_rfl))
  f189 := Tryd.func23.trans (congrArg some (by kernel_rfl))
  f215 := Tryd.func66.trans (congrArg some (by kernel_rfl))
  f216 := Tryd.func53.trans (congrArg some (by kernel_rfl))
  f257 := Tryd.func38.trans (congrArg some (by kernel_rfl))
  f294 := Tryd.func47.trans (congrArg some (by kernel_rfl))
  f295 := Tryd.func48.trans (congrArg some (by kernel_rfl))
  f296 := Tryd.func49.trans (congrArg some (by kernel_rfl))
  f297 := Tryd.func50.trans (congrArg some (by kernel_rfl))
  f298 := Tryd.func51.trans (congrArg some (by kernel_rfl))
  f299 := Tryd.func52.trans (congrArg some (by kernel_rfl))
  f300 := Tryd.func54.trans (congrArg some (by kernel_rfl))
  f301 := Tryd.func55.trans (congrArg some (by kernel_rfl))
  f328 := Tryd.func61.trans (congrArg some (by kernel_rfl))
  f329 := Tryd.func62.trans (congrArg some (by kernel_rfl))
  f330 := Tryd.func63.trans (congrArg some (by kernel_rfl))
  f331 := Tryd.func64.trans (congrArg some (by kernel_rfl))
  f332 := Tryd.func65.trans (congrArg some (by kernel_rfl))
  f343 := Tryd.func67.trans (congrArg some (by kernel_rfl))
  t0 := Tryd.underlying0
  a0 := Tryd.isAgg0
  z0 := Tryd.sizeOf0
  v0 := Tryd.zeroValue0
  t3 := Tryd.underlying3
  a3 := Tryd.isAgg3
  z3 := Tryd.sizeOf3
  v3 := Tryd.zeroValue3
  t4 := Tryd.underlying4
  a4 := Tryd.isAgg4
  z4 := Tryd.sizeOf4
  v4 := Tryd.zeroValue4
  t5 := Tryd.underlying5
  a5 := Tryd.isAgg5
  z5 := Tryd.sizeOf5
  v5 := Tryd.zeroValue5
  t9 := Tryd.underlying9
  a9 := Tryd.isAgg9
  z9 := Tryd.sizeOf9
  v9 := Tryd.zeroValue9
  t28 := Tryd.underlying67
  a28 := Tryd.isAgg67
  z28 := Tryd.sizeOf67
  v28 := Tryd.zeroValue67
  t46 := Tryd.underlying83
  a46 := Tryd.isAgg83
  z46 := Tryd.sizeOf83
  v46 := Tryd.zeroValue83
  t51 := Tryd.underlying102
  a51 := Tryd.isAgg102
  z51 := Tryd.sizeOf102
  v51 := Tryd.zeroValue102
  t53 := Tryd.underlying104
  a53 := Tryd.isAgg104
  z53 := Tryd.sizeOf104
  v53 := Tryd.zeroValue104
  t131 := Tryd.underlying29
  a131 := Tryd.isAgg29
  z131 := Tryd.sizeOf29
  v131 := Tryd.zeroValue29
  t182 := Tryd.underlying95
  a182 := Tryd.isAgg95
  z182 := Tryd.sizeOf95
  v182 := Tryd.zeroValue95
  t183 := Tryd.underlying96
  a183 := Tryd.isAgg96
  z183 := Tryd.sizeOf96
  v183 := Tryd.zeroValue96
  t218 := Tryd.underlying107
  a218 := Tryd.isAgg107
  z218 := Tryd.sizeOf107
  v218 := Tryd.zeroValue107
  t222 := Tryd.underlying111
  a222 := Tryd.isAgg111
  z222 := Tryd.sizeOf111
  v222 := Tryd.zeroValue111
  t228 := Tryd.underlying116
  a228 := Tryd.isAgg116
  z228 := Tryd.sizeOf116
  v228 := Tryd.zeroValue116
  t229 := Tryd.underlying87
  a229 := Tryd.isAgg87
  z229 := Tryd.sizeOf87
  v229 := Tryd.zeroValue87 }
abbrev sortI (zs : List Int) : List Int := zs.mergeSort fun x y => decide (x ≤ y)
theorem keepB_grow (w : World) (os : Array Obj) : KeepB [] w (grow w os) := ⟨rfl, rfl, rfl, by simp [grow], fun i hi _ => heap_grow_old w os hi⟩
theorem drewN_tape (w : World) (q : Nat) : (w.drewN q).tape = w.tape := by
  induction q generalizing w with
  | zero => rfl
  | succ q ih => first | exact ih w.drew | (show (World.drew _).tape = _; exact ih w)
theorem keepB_drewN (w : World) (q : Nat) : KeepB [] w (w.drewN q) := by
  obtain ⟨h1, h2, h3⟩ := World.drewN_alike w q
  exact KeepB.of_below ⟨h2, drewN_tape w q, h3, by rw [h1]; exact Nat.le_refl _, fun i _ => by rw [h1]⟩
theorem sort_any (b cap : Nat) (zs : List Int) (w : World) (hb : b < w.heap.size) (hc : ∀ j, j < zs.length → w.cell? ⟨b, 0 + j, none⟩ = some (.int .i64 (zs.getD j 0))) (hf : ∀ j, j < zs.length → w.frozen? ⟨b, 0 + j, none⟩ = false) (hl : zs.length ≤ 1000000) :
    Calls Tryd.prog 23 #[.slice (some ⟨b, 0, none⟩) zs.length cap] w fun e w' => e = .returned (.tuple #[]) ∧ (∀ j, j < zs.length → w'.cell? ⟨b, 0 + j, none⟩ = some (.int .i64 ((sortI zs).getD j 0))) ∧ KeepB [b] w w' := by
  have hH := Lib.holds_of_ints (n := zs.length) (Nat.le_refl _) hc hf
  rw [List.take_length] at hH
  have hs := calls_of_every_depth (fun D => AnyS.slices_Sort_int_alone laysSort D b 0 cap zs w hH hb (by omega))
  refine hs.mono ?_
  rintro e w' ⟨he, n, os, hw⟩
  have hly : (sortI zs).length = zs.length := List.length_mergeSort _
  rw [Lib.sorted_world _ w b 0 n _ _ os hH (by simp)] at hw
  refine ⟨he, fun j hj => ?_, ?_⟩
  · have h5 := Lib.cells_sorted_ints (q := n) (os := os) (Nat.le_refl zs.length) hly hc j (by simp [hly, hj])
    rw [List.drop_length, List.append_nil] at h5
    rw [hw]
    exact h5
  · rw [hw]
    exact (((keepB_drewN w n).mono (by simp)).trans (KeepB.of_grown (grown_setCells b _ 0 _))).trans ((keepB_grow _ os).mono (by simp))
theorem sort_nil (p : Option Addr) (cap : Nat) (w : World) : Calls Tryd.prog 23 #[.slice p 0 cap] w fun e w' => e = .returned (.tuple #[]) ∧ w' = w :=
  calls_of_every_depth (fun D => AnyS.slices_Sort_int_none_alone laysSort D p cap w)
end Go.Proofs.YtkdkhphpknnceaaDoor.C
