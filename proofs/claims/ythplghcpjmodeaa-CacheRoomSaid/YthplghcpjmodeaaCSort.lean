/- The contract of slices.Sort over numbers: the shelf's, laid here in plain words. -/
import Derived.Test.YthplghcpjmodeaaCOrd
import Derived.Ground.NamesProg
import Derived.Shelf.Slices.In.SortAlone
import Derived.Shelf.Slices.In.SortNone
import Derived.Lib.SortBridge
import Derived.Sort.EveryDepth
namespace Go.Proofs.Ythplghcpjmodeaa.C
open Go.RowKit Go.Maps Go.Proofs.Ythplghcpjmodeaa.H Go.Shelf Go.Sort
open Go.Proofs.Ythplghcpjmodeaa.W (OwnI IntsIn wpList_append_ints ints_one take_snoc)

def laysSort_ren : Go.Shelf.Ren := ⟨fun | 189 => 38 | 125 => 50 | 257 => 49 | 128 => 71 | 129 => 72 | 294 => 62 | 295 => 63 | 296 => 64 | 297 => 65 | 298 => 66 | 299 => 67 | 216 => 68 | 300 => 69 | 301 => 70 | 328 => 77 | 329 => 78 | 330 => 79 | 331 => 80 | 332 => 81 | 215 => 82 | 343 => 85 | n => n, fun | 28 => 41 | 3 => 3 | 46 => 106 | 0 => 0 | 51 => 126 | 53 => 128 | 4 => 4 | 183 => 120 | 182 => 119 | 131 => 42 | 5 => 5 | 9 => 9 | 218 => 133 | 222 => 137 | 228 => 140 | 229 => 95 | n => n, fun | n => n⟩
theorem laysSort : Go.Proofs.Lays.n189 Try.prog laysSort_ren := {
  mixed := by kernel_rfl
  f125 := Try.func50.trans (congrArg some (by kernel_rfl))
  f128 := Try.func71.trans (congrArg some (by kernel_rfl))
  f129 := Try.func72.trans (congrArg some (by kernel_rfl))
  f189 := Try.func38.trans (congrArg some (by kernel_rfl))
  f215 := Try.func82.trans (congrArg some (by kernel_rfl))
  f216 := Try.func68.trans (congrArg some (by kernel_rfl))
  f257 := Try.func49.trans (congrArg some (by kernel_rfl))
  f294 := Try.func62.trans (congrArg some (by kernel_rfl))
  f295 := Try.func63.trans (congrArg some (by kernel_rfl))
  f296 := Try.func64.trans (congrArg some (by kernel_rfl))
  f297 := Try.func65.trans (congrArg some (by kernel_rfl))
  f298 := Try.func66.trans (congrArg some (by kernel_rfl))
  f299 := Try.func67.trans (congrArg some (by kernel_rfl))
  f300 := Try.func69.trans (congrArg some (by kernel_rfl))
  f301 := Try.func70.trans (congrArg some (by kernel_rfl))
  f328 := Try.func77.trans (congrArg some (by kernel_rfl))
  f329 := Try.func78.trans (congrArg some (by kernel_rfl))
  f330 := Try.func79.trans (congrArg some (by kernel_rfl))
  f331 := Try.func80.trans (congrArg some (by kernel_rfl))
  f332 := Try.func81.trans (congrArg some (by kernel_rfl))
  f343 := Try.func85.trans (congrArg some (by kernel_rfl))
  t0 := Try.underlying0
  a0 := Try.isAgg0
  z0 := Try.sizeOf0
  v0 := Try.zeroValue0
  t3 := Try.underlying3
  a3 := Try.isAgg3
  z3 := Try.sizeOf3
  v3 := Try.zeroValue3
  t4 := Try.underlying4
  a4 := Try.isAgg4
  z4 := Try.sizeOf4
  v4 := Try.zeroValue4
  t5 := Try.underlying5
  a5 := Try.isAgg5
  z5 := Try.sizeOf5
  v5 := Try.zeroValue5
  t9 := Try.underlying9
  a9 := Try.isAgg9
  z9 := Try.sizeOf9
  v9 := Try.zeroValue9
  t28 := Try.underlying41
  a28 := Try.isAgg41
  z28 := Try.sizeOf41
  v28 := Try.zeroValue41
  t46 := Try.underlying106
  a46 := Try.isAgg106
  z46 := Try.sizeOf106
  v46 := Try.zeroValue106
  t51 := Try.underlying126
  a51 := Try.isAgg126
  z51 := Try.sizeOf126
  v51 := Try.zeroValue126
  t53 := Try.underlying128
  a53 := Try.isAgg128
  z53 := Try.sizeOf128
  v53 := Try.zeroValue128
  t131 := Try.underlying42
  a131 := Try.isAgg42
  z131 := Try.sizeOf42
  v131 := Try.zeroValue42
  t182 := Try.underlying119
  a182 := Try.isAgg119
  z182 := Try.sizeOf119
  v182 := Try.zeroValue119
  t183 := Try.underlying120
  a183 := Try.isAgg120
  z183 := Try.sizeOf120
  v183 := Try.zeroValue120
  t218 := Try.underlying133
  a218 := Try.isAgg133
  z218 := Try.sizeOf133
  v218 := Try.zeroValue133
  t222 := Try.underlying137
  a222 := Try.isAgg137
  z222 := Try.sizeOf137
  v222 := Try.zeroValue137
  t228 := Try.underlying140
  a228 := Try.isAgg140
  z228 := Try.sizeOf140
  v228 := Try.zeroValue140
  t229 := Try.underlying95
  a229 := Try.isAgg95
  z229 := Try.sizeOf95
  v229 := Try.zeroValue95 }
abbrev sortI (zs : List Int) : List Int := zs.mergeSort fun x y => decide (x ≤ y)
theorem keepB_grow (w : World) (os : Array Obj) : KeepB [] w (grow w os) := ⟨rfl, rfl, rfl, by simp [grow], fun i hi _ => heap_grow_old w os hi⟩
theorem drewN_tape (w : World) (q : Nat) : (w.drewN q).tape = w.tape := by
  induction q generalizing w with
  | zero => rfl
  | succ q ih => first | exact ih w.drew | (show (World.drew _).tape = _; exact ih w)
theorem keepB_drewN (w : World) (q : Nat) : KeepB [] w (w.drewN q) := by
  obtain ⟨h1, h2, h3⟩ := World.drewN_alike w q
  exact KeepB.of_below ⟨h2, drewN_tape w q, h3, by rw [h1]; exact Nat.le_refl _, fun i _ => by rw [h1]⟩
theorem sort_any (b cap : Nat) (zs : List Int) (w : World) (hb : b < w.heap.size) (hc : ∀ j, j < zs.length → w.cell? ⟨b, 0 + j, none⟩ = some (.int .i64 (zs.getD j 0))) (hf : ∀ j, j < zs.length → w.frozen? ⟨b, 0 + j, none⟩ = false) (hl : zs.length ≤ 1000000) :
    Calls Try.prog 38 #[.slice (some ⟨b, 0, none⟩) zs.length cap] w fun e w' => e = .returned (.tuple #[]) ∧ (∀ j, j < zs.length → w'.cell? ⟨b, 0 + j, none⟩ = some (.int .i64 ((sortI zs).getD j 0))) ∧ KeepB [b] w w' := by
  have hH := Lib.holds_of_ints (n := zs.length) (Nat.le_refl _) hc hf
  rw [List.take_length] at hH
  have hs := calls_of_every_depth (fun D => AnyS.slices_Sort_int_alone laysSort D b 0 cap zs w hH hb (by omega))
  refine hs.mono ?_
  rintro e w' ⟨he, n, os, hw⟩
  have hly : (sortI zs).length = zs.length := List.length_mergeSort _
  rw [Lib.sorted_world _ w b 0 n _ _ os hH (by simp)] at hw
  refine ⟨he, fun j hj => ?_, ?_⟩
  · have h5 := Lib.cells_sorted_ints (q := n) (os := os) (Nat.le_refl zs.length) hly hc j (by simp [hly, hj])
    rw [List.drop_length, List.append_nil] at h5
    rw [hw]
    exact h5
  · rw [hw]
    exact (((keepB_drewN w n).mono (by simp)).trans (KeepB.of_grown (grown_setCells b _ 0 _))).trans ((keepB_grow _ os).mono (by simp))
theorem sort_nil (p : Option Addr) (cap : Nat) (w : World) : Calls Try.prog 38 #[.slice p 0 cap] w fun e w' => e = .returned (.tuple #[]) ∧ w' = w :=
  calls_of_every_depth (fun D => AnyS.slices_Sort_int_none_alone laysSort D p cap w)
end Go.Proofs.Ythplghcpjmodeaa.C
