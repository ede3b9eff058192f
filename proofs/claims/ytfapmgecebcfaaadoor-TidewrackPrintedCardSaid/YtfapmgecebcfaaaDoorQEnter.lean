/- The contracts of seq's enter, keep and list. -/
import Derived.Test.YtfapmgecebcfaaaDoorQApp
import Derived.Deep.DeepCutAuto
import Derived.RegionTactic
import Derived.Deep.RegionWith
import Derived.Test.YtfapmgecebcfaaaDoorRel
namespace Go.Proofs.YtfapmgecebcfaaaDoor.Q
open Go.RowKit
open Go.Proofs.YtfapmgecebcfaaaDoor.W (OwnI OwnR IntsIn RunesIn wpList_append_ints)

def RBlk (k : Nat) (cs : Array Value) (w : World) : Prop := w.heap[k]? = some (.cells cs 31 (0, 0))
theorem RBlk.set {k : Nat} {cs : Array Value} {w : World} (i : Nat) (v : Value) (h : RBlk k cs w) : RBlk k (cs.setIfInBounds i v) (w.setCell ⟨k, i, none⟩ v) := by
  unfold RBlk at *
  simp [World.setCell, Array.getElem?_modify, h]
theorem gset {k : Nat} {w w' : World} (i : Nat) (v : Value) (h : w.grownBy w' (some k)) : w.grownBy (w'.setCell ⟨k, i, none⟩ v) (some k) :=
  ⟨h.os, h.tape, h.output, Nat.le_trans h.size (KeepsWalks.setCell w' _ v).size, fun j hj hn => (Below.heap_setCell w' ⟨k, i, none⟩ v j (fun e => hn (by rw [e]))).trans (h.block j hj hn)⟩
theorem grefl (w : World) (r : Option Nat) : w.grownBy w r := ⟨rfl, rfl, rfl, Nat.le_refl _, fun _ _ _ => rfl⟩
theorem Kept.of_grown {base k : Nat} {w w' : World} (hg : w.grownBy w' (some k)) (hb : base ≤ w.heap.size) : Kept base k w w' := ⟨hg.os, hg.tape, hg.output, hg.size, fun i hi hn => hg.block i (by omega) (fun e => hn (Option.some.inj e))⟩
theorem OwnA.turned {base : Nat} {v : Value} {l : List Say} {w w' : World} (h : OwnA base v l w) {k : Nat} {p : PS} (hp : PBlk k p w) (hg : w.grownBy w' (some k)) : OwnA base v l w' :=
  h.kept (some k) hg (fun g e cs => by
    obtain rfl : k = g := Option.some.inj e
    exact ⟨fun hc => absurd (types_ne hp hc) (by decide), fun hc => absurd (types_ne hp hc) (by decide)⟩)
def TurnPost (k : Nat) (p' : PS) (w : World) (e : Ending) (w' : World) : Prop := e = .returned (.tuple #[]) ∧ PBlk k p' w' ∧ w.grownBy w' (some k)

theorem size_parser (w : World) : (sizeOf 31).run Tryd.prog w = .ok 27 w := by
  simp [sizeOf]
  rfl
theorem grown_setRow (w : World) (k : Nat) (cs : Array Value) : w.grownBy (w.setRow k cs) (some k) :=
  ⟨rfl, rfl, rfl, by simp [World.setRow], fun i _ hn => setRow_other w k i cs (fun e => hn (by rw [e]))⟩
theorem wpList_store_parser {ops : Array Oper} {rest : List Oper} {o : Oper} {z : Act} {w : World} {Q : Exit → Act → World → Prop} (hgd : o.guard = none) (hd : o.dst = none) (pa pv : Operand) (ho : o.op = .store 31 pa pv)
    (k : Nat) (p q : PS) (hpa : z.eval pa = .pointer (some ⟨k, 0, none⟩)) (hpv : z.eval pv = .agg (pArr q)) (h : PBlk k p w)
    (hK : ∀ w', PBlk k q w' → w.grownBy w' (some k) → wpList Tryd.prog ops Q rest z w') : wpList Tryd.prog ops Q (o :: rest) z w :=
  wpList_plain hgd fun _ hK' => by
    have hst := run_storeCells_from (P := Tryd.prog) k 31 (pArr q).toList 0 (pArr p) w h (by simp [pArr]) (by intro v hv; simp only [pArr, List.mem_cons, List.not_mem_nil, or_false] at hv; rcases hv with rfl | rfl | rfl | rfl | rfl | rfl | rfl | rfl | rfl | rfl | rfl | rfl | rfl | rfl | rfl | rfl | rfl | rfl | rfl | rfl | rfl | rfl | rfl | rfl | rfl | rfl | rfl <;> rfl)
    simp only [List.take_zero, List.nil_append, Array.toArray_toList] at hst
    unfold Oper.wp execOp
    simp only [ho, hpa, hpv, Instr.storeAt, storeVar, Sem.run_bind, size_parser, asAddr, Sem.run_pure, Result.andThen_ok, Value.cells]
    simp only [Instr.sureAddr, Sem.run_pure, Result.andThen_ok, show (pArr q).size = 27 from rfl, ne_eq, not_true_eq_false, if_false, hst]
    exact hK' _ _ (by rw [hd]; exact hK (w.setRow k (pArr q)) (setRow_heap w k (pArr p) _ _ _ h) (grown_setRow w k _))

set_option maxRecDepth 100000 in
set_option maxHeartbeats 8000000 in
theorem enter_any (k : Nat) (p : PS) (s : Nat) (w : World) (h : PBlk k p w) : Calls Tryd.prog 38 #[.pointer (some ⟨k, 0, none⟩), .int .i64 (s : Int)] w (TurnPost k (fresh s) w) := by
  obtain ⟨P, hP⟩ : ∃ P, TurnPost k (fresh s) w = P := ⟨_, rfl⟩
  rw [hP]
  have HP := Lib.hid hP
  have H := Lib.hid h
  clear hP h
  go_enter Tryd.func38, Tryd.ntmps38
  go_wp2_with (refine wpList_store_parser rfl rfl _ _ rfl k p (fresh s) rfl rfl H.out ?_)
  intro w' h1 h2
  have H1 := Lib.hid h1
  have H2 := Lib.hid h2
  clear h1 h2
  go_wp2
  go_end0
  rw [← HP.out]
  exact ⟨rfl, H1.out, H2.out⟩

set_option maxRecDepth 100000 in
set_option maxHeartbeats 8000000 in
theorem keep_any (k : Nat) (p : PS) (w : World) (h : PBlk k p w) (hn : p.nums.length ≤ 16) : Calls Tryd.prog 40 #[.pointer (some ⟨k, 4, none⟩)] w (TurnPost k (keepS p) w) := by
  obtain ⟨P, hP⟩ : ∃ P, TurnPost k (keepS p) w = P := ⟨_, rfl⟩
  rw [hP]
  have HP := Lib.hid hP
  have H := Lib.hid h
  clear hP
  have c20 := h.count
  have c21 := h.number
  have f20 := h.fr 20
  have f21 := h.fr 21
  obtain ⟨C, hC⟩ : ∃ C, p.nums.length = C := ⟨_, rfl⟩
  rw [hC] at hn c20
  have HC := Lib.hid hC
  by_cases hlt : C < 16
  · have hk : keepS p = { p with nums := p.nums ++ [p.number], number := 0 } := by unfold keepS; rw [if_pos (by rw [hC]; exact hlt)]
    have HK := Lib.hid hk
    have cn := h.num C hlt
    have fn := h.fr (4 + C)
    have hd : decide ((C : Int) < 16) = true := by simp; omega
    clear hk h hC
    go_enter Tryd.func40, Tryd.ntmps40
    go_wp2_with fail
    go_region
    go_wp2
    go_end0
    rw [← HP.out]
    have h2 := (H.out.setNum (by rw [HC.out]; exact hlt) p.number).setNumber 0
    rw [HC.out] at h2
    have hg : w.grownBy (((w.setCell ⟨k, 4 + C, none⟩ (.int .i64 p.number)).setCell ⟨k, 20, none⟩ (.int .i64 ((C : Int) + 1))).setCell ⟨k, 21, none⟩ (.int .i64 0)) (some k) := gset 21 _ (gset 20 _ (gset (4 + C) _ (grefl _ _)))
    exact ⟨rfl, by rw [HK.out]; exact h2, ⟨hg.os, hg.tape, hg.output, hg.size, hg.block⟩⟩
  · obtain rfl : C = 16 := by omega
    have hk : keepS p = { p with number := 0 } := by unfold keepS; rw [if_neg (by rw [hC]; exact hlt)]
    have HK := Lib.hid hk
    clear hk h hC
    go_enter Tryd.func40, Tryd.ntmps40
    go_wp2
    go_end0
    rw [← HP.out]
    exact ⟨rfl, by rw [HK.out]; exact H.out.setNumber 0, gset 21 _ (grefl _ _)⟩

def ListPost (zs : List Int) (w : World) (e : Ending) (w' : World) : Prop := ∃ v', e = .returned v' ∧ OwnI w.heap.size v' zs w' ∧ Below w.heap.size w w'
theorem nums_in {k : Nat} {p : PS} {w : World} (h : PBlk k p w) (hn : p.nums.length ≤ 16) : IntsIn (some ⟨k, 4, none⟩) p.nums.length p.nums w :=
  ⟨rfl, .inr ⟨k, 4, rfl, h.lt, fun i hi => h.num i (by omega)⟩⟩

theorem slice_nums (k C : Nat) (hn : C ≤ 16) (w : World) : (Instr.sliceAt 27 (.pointer (some ⟨k, 4, none⟩)) none (some (.int .i64 (C : Int))) none).run Tryd.prog w = .ok (.slice (some ⟨k, 4, none⟩) C 16) w := by
  have ha : Tryd.prog.arrayLen 27 = 16 := by kernel_rfl
  have he : Tryd.prog.elem 27 = 3 := by kernel_rfl
  have ht : Tryd.prog.underlying 27 = some (.array (Tryd.prog.arrayLen 27) (Tryd.prog.elem 27)) := by rw [ha, he]; exact Tryd.underlying27
  obtain ⟨i, hi, hs⟩ := Option.map_eq_some_iff.1 (show (Tryd.prog.info? 3).map (·.size) = some 1 by kernel_rfl)
  rw [run_sliceAt_array_h w 27 ⟨k, 4, none⟩ ht .i64 (C : Int) (by omega) (by rw [ha]; omega), ha, he]
  simp [sizeOf, hi, hs, slicedAt, Addr.add]
def ListOk (k C : Nat) (zs : List Int) (b : Nat) : Nat → Value → World → Prop
  | 0, u, _ => u = .pointer (some ⟨k, 4, none⟩)
  | 1, u, _ => u = .pointer (some ⟨k, 4, none⟩)
  | 2, u, _ => u = .pointer (some ⟨k, 4, none⟩)
  | 3, u, _ => u = .pointer (some ⟨k, 4, none⟩)
  | 4, u, _ => u = .pointer (some ⟨k, 4, none⟩)
  | 5, u, _ => u = .pointer (some ⟨k, 20, none⟩)
  | 6, u, _ => u = .int .i64 (C : Int)
  | 7, u, _ => u = .slice (some ⟨k, 4, none⟩) C 16
  | 8, u, w => OwnI b u zs w
  | 9, u, w => OwnI b u zs w
  | _, _, _ => True

set_option maxRecDepth 100000 in
set_option maxHeartbeats 8000000 in
theorem list_any (k : Nat) (p : PS) (w : World) (h : PBlk k p w) (hn : p.nums.length ≤ 16) : Calls Tryd.prog 45 #[.pointer (some ⟨k, 4, none⟩)] w (ListPost p.nums w) := by
  obtain ⟨P, hP⟩ : ∃ P, ListPost p.nums w = P := ⟨_, rfl⟩
  rw [hP]
  have HP := Lib.hid hP
  have C20 := Lib.hid h.count
  have HLt := Lib.hid h.lt
  have HI := Lib.hid (nums_in h hn)
  obtain ⟨zs, hzs⟩ : ∃ zs, p.nums = zs := ⟨_, rfl⟩
  rw [hzs] at hn C20 HI HP
  obtain ⟨C, hC⟩ : ∃ C, zs.length = C := ⟨_, rfl⟩
  rw [hC] at hn C20 HI
  have HC := Lib.hid hC
  obtain ⟨b, hb⟩ : ∃ b, w.heap.size = b := ⟨_, rfl⟩
  have HBs := Lib.hid hb
  clear hP hC h hzs hb
  go_enter Tryd.func45, Tryd.ntmps45
  go_wp2_with fail
  refine R.wp_region_rel (by kernel_rfl) (fun u => Below w.heap.size w u) (fun u v => Below u.heap.size u v) (ListOk k C zs b) (by rfl) (by kernel_rfl) (by kernel_rfl) ?hC ?hOk ?hop ?hdone ((Below.refl _ _).drew)
  case hC => exact fun u v hu huv => hu.trans (huv.mono hu.size)
  case hOk =>
    intro i v u u' hv huu
    unfold ListOk at hv ⊢
    split at hv <;> first | exact OwnI.belowAll hv huu | exact hv | trivial
  case hop =>
    refine ⟨?_, ?_, ?_, ?_, ?_, ?_, ?_, ?_, ?_, ?_, trivial⟩
    · intro z v hz hag hdep
      refine .inl ⟨rfl, fun K hK => ?_⟩
      have d0 : z.tmps.getD 0 undef = .pointer (some ⟨k, 4, none⟩) := hag.2.2 0 (by kernel_rfl)
      have e0 := d0
      rw [Array.getD_eq_getD_getElem?] at e0
      clear hdep hag
      go_simp
      exact hK _ _ (Below.refl _ _) rfl
    · intro z v hz hag hdep
      refine .inl ⟨rfl, fun K hK => ?_⟩
      have d3 : ListOk k C zs b 0 (z.tmps.getD 3 undef) v := hdep { on := 0, ground := .data } (by simp) rfl _ _ rfl rfl
      simp only [ListOk] at d3
      have e3 := d3
      rw [Array.getD_eq_getD_getElem?] at e3
      clear hdep hag
      go_simp
      exact hK _ _ (Below.refl _ _) rfl
    · intro z v hz hag hdep
      refine .inl ⟨rfl, fun K hK => ?_⟩
      have d4 : ListOk k C zs b 1 (z.tmps.getD 4 undef) v := hdep { on := 1, ground := .data } (by simp) rfl _ _ rfl rfl
      simp only [ListOk] at d4
      have e4 := d4
      rw [Array.getD_eq_getD_getElem?] at e4
      clear hdep hag
      go_simp
      exact hK _ _ (Below.refl _ _) rfl
    · intro z v hz hag hdep
      refine .inl ⟨rfl, fun K hK => ?_⟩
      have d0 : z.tmps.getD 0 undef = .pointer (some ⟨k, 4, none⟩) := hag.2.2 0 (by kernel_rfl)
      have e0 := d0
      rw [Array.getD_eq_getD_getElem?] at e0
      clear hdep hag
      go_simp
      exact hK _ _ (Below.refl _ _) rfl
    · intro z v hz hag hdep
      refine .inl ⟨rfl, fun K hK => ?_⟩
      have d6 : ListOk k C zs b 3 (z.tmps.getD 6 undef) v := hdep { on := 3, ground := .data } (by simp) rfl _ _ rfl rfl
      simp only [ListOk] at d6
      have e6 := d6
      rw [Array.getD_eq_getD_getElem?] at e6
      clear hdep hag
      go_simp
      exact hK _ _ (Below.refl _ _) rfl
    · intro z v hz hag hdep
      refine .inl ⟨rfl, fun K hK => ?_⟩
      have d7 : ListOk k C zs b 4 (z.tmps.getD 7 undef) v := hdep { on := 4, ground := .data } (by simp) rfl _ _ rfl rfl
      simp only [ListOk] at d7
      have e7 := d7
      rw [Array.getD_eq_getD_getElem?] at e7
      clear hdep hag
      go_simp
      exact hK _ _ (Below.refl _ _) rfl
    · intro z v hz hag hdep
      refine .inl ⟨rfl, fun K hK => ?_⟩
      have d8 : ListOk k C zs b 5 (z.tmps.getD 8 undef) v := hdep { on := 5, ground := .data } (by simp) rfl _ _ rfl rfl
      simp only [ListOk] at d8
      have e8 := d8
      rw [Array.getD_eq_getD_getElem?] at e8
      have hcl := (hz.cell (p := ⟨k, 20, none⟩) HLt.out).trans C20.out
      clear hdep hag
      go_simp
      exact hK _ _ (Below.refl _ _) rfl
    · intro z v hz hag hdep
      refine .inl ⟨rfl, fun K hK => ?_⟩
      have d5 : ListOk k C zs b 2 (z.tmps.getD 5 undef) v := hdep { on := 2, ground := .data } (by simp) rfl _ _ rfl rfl
      simp only [ListOk] at d5
      have e5 := d5
      rw [Array.getD_eq_getD_getElem?] at e5
      have d9 : ListOk k C zs b 6 (z.tmps.getD 9 undef) v := hdep { on := 6, ground := .data } (by simp) rfl _ _ rfl rfl
      simp only [ListOk] at d9
      have e9 := d9
      rw [Array.getD_eq_getD_getElem?] at e9
      have hsl := slice_nums k C hn v
      clear hdep hag
      go_simp
      exact hK _ _ (Below.refl _ _) rfl
    · intro z v hz hag hdep
      refine .inl ⟨rfl, fun K hK => ?_⟩
      have d10 : ListOk k C zs b 7 (z.tmps.getD 10 undef) v := hdep { on := 7, ground := .data } (by simp) rfl _ _ rfl rfl
      simp only [ListOk] at d10
      have e10 := d10
      rw [Array.getD_eq_getD_getElem?] at e10
      clear hdep hag
      have hIv := HI.out.belowAll hz
      obtain ⟨v', w', hr, h1, h2⟩ := W.append_ints_run b (.slice none 0 0) [] (some ⟨k, 4, none⟩) C 16 zs v (OwnI.nil _ _) hIv (fun e => by cases e) (by simp) (by have := HC.out; omega) (Nat.le_trans (Nat.le_of_eq HBs.out.symm) hz.size)
      unfold Oper.wp execOp
      simp only [resolve, invoke, builtin, Sem.run_bind, Sem.run_pure, Result.andThen_ok, List.map_toArray, List.map_cons, List.map_nil, Act.eval, d10, hr]
      refine hK _ _ ?_ h1
      exact ⟨h2.os, h2.tape, h2.output, h2.size, fun i hi => h2.block i hi (by simp [Value.ownBlock])⟩
    · intro z v hz hag hdep
      refine .inl ⟨rfl, fun K hK => ?_⟩
      have d11 : ListOk k C zs b 8 (z.tmps.getD 11 undef) v := hdep { on := 8, ground := .data } (by simp) rfl _ _ rfl rfl
      simp only [ListOk] at d11
      have e11 := d11
      rw [Array.getD_eq_getD_getElem?] at e11
      clear hdep hag
      go_simp
      exact hK _ _ (Below.refl _ _) (by show OwnI b _ zs v; rw [← Array.getD_eq_getD_getElem?]; exact d11)
  case hdone =>
    intro z u hu hag hall
    have hres : ListOk k C zs b 9 (z.tmps.getD 2 undef) u := hall 9 _ _ rfl rfl
    simp only [ListOk] at hres
    have hdef := hag.1
    go_wp2
    exact bodyPost_ret (results_tmp rfl _ _ _) hdef (by rw [← HP.out]; exact ⟨_, rfl, by rw [HBs.out]; exact hres, hu⟩)
end Go.Proofs.YtfapmgecebcfaaaDoor.Q
