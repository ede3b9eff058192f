/- The contract of cache.Order. -/
import Derived.Test.YtgagkmlkoeceiaaMerged3
import Derived.Ground.NamesProg
import Derived.Shelf.Slices.In.SortAlone
import Derived.Shelf.Slices.In.SortNone
import Derived.Lib.SortBridge
import Derived.Sort.EveryDepth
namespace Go.Proofs.Ytgagkmlkoeceiaa.C
open Go.RowKit Go.Maps Go.Proofs.Ytgagkmlkoeceiaa.H
open Go.Proofs.Ytgagkmlkoeceiaa.W (OwnI IntsIn wpList_append_ints ints_one take_snoc)

theorem equal_ptr {b e : Nat} {w : World} (hb : IsLine b w) (he : IsLine e w) : (Op.equal 47 (.pointer (some ⟨b, 0, none⟩)) (.pointer (some ⟨e, 0, none⟩))).run Try.prog w = .ok (decide (b = e)) w := by
  obtain ⟨cs, h1, -⟩ := hb
  obtain ⟨ce, h3, -⟩ := he
  unfold Op.equal
  obtain ⟨n, hn⟩ : ∃ n, Op.maxDepth = n + 1 := ⟨Op.maxDepth - 1, by decide⟩
  rw [hn]
  unfold Op.equalIn
  simp [run_underlying Try.underlying47, sameAddr, World.frozen?, h1, noView, mayBeOne, h3, viewAt, stringish, World.shape?]
  by_cases e9 : b = e
  · subst e9; simp
  · simp [e9]
theorem ptr_neq {b e : Nat} {w : World} (hb : IsLine b w) (he : IsLine e w) : (binOp .neq 47 (.pointer (some ⟨b, 0, none⟩)) (.pointer (some ⟨e, 0, none⟩))).run Try.prog w = .ok (.bool (!decide (b = e))) w := by
  simp [binOp, equal_ptr hb he]
theorem Links.nextAt {w : World} : ∀ (l : List Nat) (k x y : Nat), Links w l → l[k]? = some x → l[k + 1]? = some y → NextIs w x y
  | [], k, x, y, _, h, _ => by simp at h
  | [a], k, x, y, _, _, h => by simp at h
  | a :: b :: l, 0, x, y, h, h1, h2 => by
    obtain rfl : a = x := by simpa using h1
    obtain rfl : b = y := by simpa using h2
    exact h.1
  | a :: b :: l, k + 1, x, y, h, h1, h2 => Links.nextAt (b :: l) k x y h.2.2 (by simpa using h1) (by simpa using h2)
def slLen : Value → Nat
  | .slice _ n _ => n
  | _ => 0
theorem OwnI.slLen {base : Nat} {v : Value} {xs : List Int} {w : World} (h : OwnI base v xs w) : slLen v = xs.length := by
  obtain ⟨a, c, rfl, -⟩ := W.OwnI.shape h
  rfl
/-- at a place of the ring -/
structure OrdAt (e rb : Nat) (ns : List Nd) (w : World) (j b : Nat) (s : Value) (wr : World) : Prop where
  at_ : (blkN ns ++ [e])[j]? = some b
  le : j ≤ ns.length
  own : OwnI rb s ((ns.map (·.i)).take j) wr
  below : Below rb w wr
  size : rb ≤ wr.heap.size
def OrdPost (L : List (Int × List (Int × Int))) (w : World) (r : Ending) (w' : World) : Prop := ∃ v, r = .returned v ∧ OwnI w.heap.size v (L.map (·.1)) w' ∧ Below w.heap.size w w'
set_option maxRecDepth 100000 in
set_option maxHeartbeats 8000000 in
theorem order_any {c : Nat} {M G : List Nat} {x : Ca} (w : World) (h : Ch c M G x w) : Calls Try.prog 23 #[.pointer (some ⟨c, 0, none⟩)] w (OrdPost x.L w) := by
  obtain ⟨P, hP⟩ : ∃ P, OrdPost x.L w = P := ⟨_, rfl⟩
  rw [hP]
  have HP := Lib.hid hP
  obtain ⟨m, e, ns, h, h2, hfit⟩ := h
  obtain ⟨rb, hrb⟩ : ∃ rb, w.heap.size = rb := ⟨_, rfl⟩
  have HRb := Lib.hid hrb
  have hc2 := h.c2
  have hcl : c < rb := by rw [← hrb]; exact (Array.getElem?_eq_some_iff.1 h.cb).1
  obtain ⟨b0, hb0⟩ : ∃ b0, (blkN ns ++ [e])[0]? = some b0 := ⟨_, List.getElem?_eq_getElem (by simp)⟩
  have hn0 : w.cell? ⟨e, 3, none⟩ = some (.pointer (some ⟨b0, 0, none⟩)) := Links.nextAt _ 0 e b0 h.lk (by simp) (by simpa using hb0)
  have HCh := Lib.hid h
  have H2 := Lib.hid h2
  have HB0 := Lib.hid hb0
  have hlen : ns.length ≤ 65537 := h.few
  clear hP h h2 hfit hrb hb0
  go_enter Try.func23, Try.ntmps23
  go_wp2_with fail
  clear hn0
  go_loopw [3, 4] (fun s p wr => ∃ j b, p = .pointer (some ⟨b, 0, none⟩) ∧ Hid (OrdAt e rb ns w j b s wr)) (fun s _ _ => ns.length - slLen s)
  case atStart => exact ⟨0, b0, rfl, Lib.hid ⟨HB0.out, Nat.zero_le _, W.OwnI.nil _ _, Below.refl _ _, by rw [HRb.out]; exact Nat.le_refl _⟩⟩
  case round =>
    obtain ⟨j, b, rfl, HF⟩ := hrel
    have hbb : Below w.heap.size w wr := by rw [HRb.out]; exact HF.out.below
    have hb2 := (hbb.cell (p := ⟨c, 2, none⟩) (by rw [HRb.out]; exact hcl)).trans hc2
    try simp only at hb2
    have hle : IsLine e wr := (HCh.out.ln e (by simp)).of_block (hbb.block _ (HCh.out.ln e (by simp)).lt)
    by_cases hlt : j < ns.length
    · obtain ⟨y, hy⟩ : ∃ y, ns[j]? = some y := ⟨_, List.getElem?_eq_getElem hlt⟩
      have hyb : y.b = b := by
        have h5 := HF.out.at_
        rw [List.getElem?_append_left (by simpa [blkN] using hlt)] at h5
        unfold blkN at h5
        rw [List.getElem?_map, hy] at h5
        simpa using h5
      have hym := List.mem_of_getElem? hy
      have hym2 : y.b ∈ blkN ns := List.mem_map.2 ⟨y, hym, rfl⟩
      have hln := HCh.out.ln y.b (List.mem_cons_of_mem _ hym2)
      have hlb : IsLine b wr := by rw [← hyb]; exact hln.of_block (hbb.block _ hln.lt)
      have hne : ¬ b = e := fun e9 => (List.nodup_cons.1 HCh.out.nd).1 (by rw [← e9, ← hyb]; exact hym2)
      have qn := ptr_neq hlb hle
      rw [show (!decide (b = e)) = true by simp [hne]] at qn
      have k0 := (hbb.cell (p := ⟨y.b, 0, none⟩) hln.lt).trans (HCh.out.ct y hym).c0
      rw [hyb] at k0
      try simp only at k0
      obtain ⟨b', hb'⟩ : ∃ b', (blkN ns ++ [e])[j + 1]? = some b' := ⟨_, List.getElem?_eq_getElem (by simp [blkN]; omega)⟩
      have hnx : NextIs w b b' := Links.nextAt _ (j + 1) b b' HCh.out.lk (by have := HF.out.at_; simpa using this) (by simpa using hb')
      have HNx := Lib.hid hnx
      have HB' := Lib.hid hb'
      have HLn : Hid (b < w.heap.size) := Lib.hid (by rw [← hyb]; exact hln.lt)
      have HY : Hid ((ns.map (·.i)).take (j + 1) = (ns.map (·.i)).take j ++ [y.i]) := Lib.hid (by
        rw [take_snoc _ j (by simpa using hlt)]
        simp [List.getD_eq_getElem?_getD, hy])
      have HLt := Lib.hid hlt
      clear hy hyb hym hym2 hln hlb hle hb' hnx hlt hbb
      have HO : Hid (OwnI rb u3 ((ns.map (·.i)).take j) (wr.alloc (.cells #[.int .i64 y.i] 3))) := Lib.hid (HF.out.own.alloc _)
      have HI1 : Hid (IntsIn (some ⟨wr.heap.size, 0, none⟩) 1 [y.i] (wr.alloc (.cells #[.int .i64 y.i] 3))) := Lib.hid (ints_one wr _ _)
      have HTl : Hid ((((ns.map (·.i)).take j).length : Int) ≤ 1000000) := Lib.hid (by rw [List.length_take, List.length_map]; have := HLt.out; omega)
      have HSz : Hid (rb ≤ (wr.alloc (.cells #[.int .i64 y.i] 3)).heap.size) := Lib.hid (by have := HF.out.size; simp; omega)
      go_wp2_with (at_builtin; go_loud (refine wpList_append_ints rfl _ _ rfl rfl rb u3 ((ns.map (·.i)).take j) (some ⟨wr.heap.size, 0, none⟩) 1 1 [y.i] rfl rfl HO.out HI1.out (fun e => by cases e) HTl.out (by simp) HSz.out ?_))
      intro v' w5 hown' hgr
      rw [← HY.out] at hown'
      have hb5 : Below rb w w5 := (HF.out.below.alloc HF.out.size _).grown hgr (by have := HF.out.size; simp; omega) (fun q hq => HF.out.own.ownBlock q hq)
      have hs5 : rb ≤ w5.heap.size := by have h7 := hgr.size; have := HF.out.size; simp at h7; omega
      have n3 : w5.cell? ⟨b, 3, none⟩ = some (.pointer (some ⟨b', 0, none⟩)) := (hb5.cell (p := ⟨b, 3, none⟩) (by rw [← HRb.out]; exact HLn.out)).trans HNx.out
      have HE : Hid (OrdAt e rb ns w (j + 1) b' v' w5) := Lib.hid ⟨HB'.out, HLt.out, hown', hb5, hs5⟩
      have HM : Hid (slLen v' = j + 1 ∧ j < ns.length) := Lib.hid ⟨by rw [OwnI.slLen hown', List.length_take, List.length_map]; have := HLt.out; omega, HLt.out⟩
      have HM0 : Hid (slLen u3 = j) := Lib.hid (by rw [OwnI.slLen HF.out.own, List.length_take, List.length_map]; have := HLt.out; omega)
      clear hown' hgr hb5 hs5 qn k0
      go_wp2_with fail
      go_roundw
      case rel => exact ⟨j + 1, b', rfl, HE⟩
      case measure => rw [HM.out.1, HM0.out]; have := HM.out.2; omega
    · have hj : j = ns.length := by have := HF.out.le; omega
      have hbe : b = e := by
        have h5 := HF.out.at_
        rw [hj, List.getElem?_append_right (by simp [blkN])] at h5
        simpa [blkN] using h5.symm
      subst hbe
      have qn := ptr_neq hle hle
      rw [show (!decide (b = b)) = false by simp] at qn
      have hend : Hid (P (.returned u3) wr) := Lib.hid (by
        rw [← HP.out]
        refine ⟨_, rfl, ?_, ?_⟩
        · have h5 := HF.out.own
          rw [hj, List.take_of_length_le (by simp)] at h5
          rw [HRb.out, ← H2.out, List.map_map]
          exact h5
        · rw [HRb.out]
          exact HF.out.below)
      clear HF hlt hj hle hbb
      go_wp2_with fail
      exact hend.out
end Go.Proofs.Ytgagkmlkoeceiaa.C

/- The contract of slices.Sort over numbers: the shelf's, laid here in plain words. -/
namespace Go.Proofs.Ytgagkmlkoeceiaa.C
open Go.RowKit Go.Maps Go.Proofs.Ytgagkmlkoeceiaa.H Go.Shelf Go.Sort
open Go.Proofs.Ytgagkmlkoeceiaa.W (OwnI IntsIn wpList_append_ints ints_one take_snoc)

def laysSort_ren : Go.Shelf.Ren := ⟨fun | 189 => 31 | 125 => 36 | 257 => 35 | 128 => 53 | 129 => 54 | 294 => 44 | 295 => 45 | 296 => 46 | 297 => 47 | 298 => 48 | 299 => 49 | 216 => 50 | 300 => 51 | 301 => 52 | 328 => 64 | 329 => 65 | 330 => 66 | 331 => 67 | 332 => 68 | 215 => 69 | 343 => 72 | n => n, fun | 28 => 61 | 3 => 3 | 46 => 89 | 0 => 0 | 51 => 106 | 53 => 108 | 4 => 4 | 183 => 99 | 182 => 98 | 131 => 40 | 5 => 5 | 9 => 9 | 218 => 118 | 222 => 122 | 228 => 125 | 229 => 126 | n => n, fun | n => n⟩
theorem laysSort : Go.Proofs.Lays.n189 Try.prog laysSort_ren := {
  mixed := by kernel_rfl
  f125 := Try.func36.trans (congrArg some (by kernel_rfl))
  f128 := Try.func53.trans (congrArg some (by kernel_rfl))
  f129 := Try.func54.trans (congrArg some (by kernel_rfl))
  f189 := Try.func31.trans (congrArg some (by kernel_rfl))
  f215 := Try.func69.trans (congrArg some (by kernel_rfl))
  f216 := Try.func50.trans (congrArg some (by kernel_rfl))
  f257 := Try.func35.trans (congrArg some (by kernel_rfl))
  f294 := Try.func44.trans (congrArg some (by kernel_rfl))
  f295 := Try.func45.trans (congrArg some (by kernel_rfl))
  f296 := Try.func46.trans (congrArg some (by kernel_rfl))
  f297 := Try.func47.trans (congrArg some (by kernel_rfl))
  f298 := Try.func48.trans (congrArg some (by kernel_rfl))
  f299 := Try.func49.trans (congrArg some (by kernel_rfl))
  f300 := Try.func51.trans (congrArg some (by kernel_rfl))
  f301 := Try.func52.trans (congrArg some (by kernel_rfl))
  f328 := Try.func64.trans (congrArg some (by kernel_rfl))
  f329 := Try.func65.trans (congrArg some (by kernel_rfl))
  f330 := Try.func66.trans (congrArg some (by kernel_rfl))
  f331 := Try.func67.trans (congrArg some (by kernel_rfl))
  f332 := Try.func68.trans (congrArg some (by kernel_rfl))
  f343 := Try.func72.trans (congrArg some (by kernel_rfl))
  t0 := Try.underlying0
  a0 := Try.isAgg0
  z0 := Try.sizeOf0
  v0 := Try.zeroValue0
  t3 := Try.underlying3
  a3 := Try.isAgg3
  z3 := Try.sizeOf3
  v3 := Try.zeroValue3
  t4 := Try.underlying4
  a4 := Try.isAgg4
  z4 := Try.sizeOf4
  v4 := Try.zeroValue4
  t5 := Try.underlying5
  a5 := Try.isAgg5
  z5 := Try.sizeOf5
  v5 := Try.zeroValue5
  t9 := Try.underlying9
  a9 := Try.isAgg9
  z9 := Try.sizeOf9
  v9 := Try.zeroValue9
  t28 := Try.underlying61
  a28 := Try.isAgg61
  z28 := Try.sizeOf61
  v28 := Try.zeroValue61
  t46 := Try.underlying89
  a46 := Try.isAgg89
  z46 := Try.sizeOf89
  v46 := Try.zeroValue89
  t51 := Try.underlying106
  a51 := Try.isAgg106
  z51 := Try.sizeOf106
  v51 := Try.zeroValue106
  t53 := Try.underlying108
  a53 := Try.isAgg108
  z53 := Try.sizeOf108
  v53 := Try.zeroValue108
  t131 := Try.underlying40
  a131 := Try.isAgg40
  z131 := Try.sizeOf40
  v131 := Try.zeroValue40
  t182 := Try.underlying98
  a182 := Try.isAgg98
  z182 := Try.sizeOf98
  v182 := Try.zeroValue98
  t183 := Try.underlying99
  a183 := Try.isAgg99
  z183 := Try.sizeOf99
  v183 := Try.zeroValue99
  t218 := Try.underlying118
  a218 := Try.isAgg118
  z218 := Try.sizeOf118
  v218 := Try.zeroValue118
  t222 := Try.underlying122
  a222 := Try.isAgg122
  z222 := Try.sizeOf122
  v222 := Try.zeroValue122
  t228 := Try.underlying125
  a228 := Try.isAgg125
  z228 := Try.sizeOf125
  v228 := Try.zeroValue125
  t229 := Try.underlying126
  a229 := Try.isAgg126
  z229 := Try.sizeOf126
  v229 := Try.zeroValue126 }
abbrev sortI (zs : List Int) : List Int := zs.mergeSort fun x y => decide (x ≤ y)
theorem keepB_grow (w : World) (os : Array Obj) : KeepB [] w (grow w os) := ⟨rfl, rfl, rfl, by simp [grow], fun i hi _ => heap_grow_old w os hi⟩
theorem drewN_tape (w : World) (q : Nat) : (w.drewN q).tape = w.tape := by
  induction q generalizing w with
  | zero => rfl
  | succ q ih => first | exact ih w.drew | (show (World.drew _).tape = _; exact ih w)
theorem keepB_drewN (w : World) (q : Nat) : KeepB [] w (w.drewN q) := by
  obtain ⟨h1, h2, h3⟩ := World.drewN_alike w q
  exact KeepB.of_below ⟨h2, drewN_tape w q, h3, by rw [h1]; exact Nat.le_refl _, fun i _ => by rw [h1]⟩
theorem sort_any (b cap : Nat) (zs : List Int) (w : World) (hb : b < w.heap.size) (hc : ∀ j, j < zs.length → w.cell? ⟨b, 0 + j, none⟩ = some (.int .i64 (zs.getD j 0))) (hf : ∀ j, j < zs.length → w.frozen? ⟨b, 0 + j, none⟩ = false) (hl : zs.length ≤ 1000000) :
    Calls Try.prog 31 #[.slice (some ⟨b, 0, none⟩) zs.length cap] w fun e w' => e = .returned (.tuple #[]) ∧ (∀ j, j < zs.length → w'.cell? ⟨b, 0 + j, none⟩ = some (.int .i64 ((sortI zs).getD j 0))) ∧ KeepB [b] w w' := by
  have hH := Lib.holds_of_ints (n := zs.length) (Nat.le_refl _) hc hf
  rw [List.take_length] at hH
  have hs := calls_of_every_depth (fun D => AnyS.slices_Sort_int_alone laysSort D b 0 cap zs w hH hb (by omega))
  refine hs.mono ?_
  rintro e w' ⟨he, n, os, hw⟩
  have hly : (sortI zs).length = zs.length := List.length_mergeSort _
  rw [Lib.sorted_world _ w b 0 n _ _ os hH (by simp)] at hw
  refine ⟨he, fun j hj => ?_, ?_⟩
  · have h5 := Lib.cells_sorted_ints (q := n) (os := os) (Nat.le_refl zs.length) hly hc j (by simp [hly, hj])
    rw [List.drop_length, List.append_nil] at h5
    rw [hw]
    exact h5
  · rw [hw]
    exact (((keepB_drewN w n).mono (by simp)).trans (KeepB.of_grown (grown_setCells b _ 0 _))).trans ((keepB_grow _ os).mono (by simp))
theorem sort_nil (p : Option Addr) (cap : Nat) (w : World) : Calls Try.prog 31 #[.slice p 0 cap] w fun e w' => e = .returned (.tuple #[]) ∧ w' = w :=
  calls_of_every_depth (fun D => AnyS.slices_Sort_int_none_alone laysSort D p cap w)
end Go.Proofs.Ytgagkmlkoeceiaa.C
