/- The contract of grid.copied, against whatever iterator of rows keeps its word. -/
import Derived.Test.YtohhlhnjopbmhaaGreatDoorMerged10
import Derived.Test.YtohhlhnjopbmhaaGreatDoorMerged11
import Derived.Test.YtohhlhnjopbmhaaGreatDoorMerged5
namespace Go.Proofs.YtohhlhnjopbmhaaGreatDoor.K
open Go.Proofs.YtohhlhnjopbmhaaGreatDoor.R (agree_frame)
open Go.RowKit Go.Shelf

attribute [local go_sem] Oper.semAt_some

/-- the row's cells lie in a block of cells, from base on -/
def TyC (base : Nat) (u : Rv) (w : World) : Prop := ∀ b off, u.a = some ⟨b, off, none⟩ → base ≤ b ∧ ∃ cs, w.heap[b]? = some (.cells cs 112 (0, 0))
theorem TyC.of {base : Nat} {x : Option Addr} {n y : Nat} {b : Bool} {l : List Cel} {w : World} (h : OwnC .i32 112 base (.slice x n y) l w) : TyC base ⟨x, n, y, b⟩ w := by
  intro g off e
  obtain ⟨a, c, h1, -, h2, -⟩ := h.shape
  injection h1 with h1
  obtain ⟨h3, -, h4⟩ := h2 g off (by rw [← h1]; exact e)
  obtain ⟨cs, h5, _⟩ := U.own_type h (g := g) (by rw [show x = some ⟨g, off, none⟩ from e]; rfl)
  exact ⟨h3, cs, h5⟩
theorem RowV.moved {rk : IntKind} {u : Rv} {r : Ro} {w w' : World} (h : RowV rk u.val r w) (hs : w.heap.size ≤ w'.heap.size) (hk : ∀ b off, u.a = some ⟨b, off, none⟩ → b < w.heap.size → w'.heap[b]? = w.heap[b]?) : RowV rk u.val r w' := by
  obtain ⟨a, c, e, hi, h3⟩ := h
  have := Rv.val_inj (v := ⟨a, r.l.length, c, r.wrapped⟩) e
  subst this
  exact ⟨a, c, rfl, hi.blocks hs hk, h3⟩
theorem RowsV.moved {rk : IntKind} {us : List Rv} {rs : List Ro} {w w' : World} (h : RowsV rk us rs w) (hs : w.heap.size ≤ w'.heap.size) (hk : ∀ u ∈ us, ∀ b off, u.a = some ⟨b, off, none⟩ → b < w.heap.size → w'.heap[b]? = w.heap[b]?) : RowsV rk us rs w' :=
  ⟨h.1, fun i u r hu hr => (h.2 i u r hu hr).moved hs (hk u (List.mem_of_getElem? hu))⟩
theorem TyC.moved {base : Nat} {u : Rv} {w w' : World} (h : TyC base u w) (hk : ∀ b off, u.a = some ⟨b, off, none⟩ → b < w.heap.size → w'.heap[b]? = w.heap[b]?) : TyC base u w' := fun b off e => by
  obtain ⟨h1, cs, h2⟩ := h b off e
  exact ⟨h1, cs, (hk b off e (Array.getElem?_eq_some_iff.1 h2).1).trans h2⟩
theorem OwnC.rowV {T : TypeId} {base : Nat} {x : Option Addr} {n y : Nat} {r : Ro} {w : World} (h : OwnC .i32 T base (.slice x n y) r.l w) : RowV .i32 (.agg #[.slice x n y, .bool r.wrapped]) r w := by
  obtain ⟨a, c, e, h2, -, h3, h4, h5⟩ := h.shape
  cases e
  exact ⟨x, y, rfl, h2, h3, h4, h5⟩
/-- what copied has come to -/
def CopI (base B : Nat) (rs : List Ro) (w : World) : Prop := ∃ v us, Boxed w B 22 v ∧ OwnV 54 base v us w ∧ RowsV .i32 us rs w ∧ ∀ u ∈ us, TyC base u w
theorem CopI.grown {base B : Nat} {rs : List Ro} {w w' : World} {row : Option Nat} (h : CopI base B rs w) (hg : w.grownBy w' row) (hr : ∀ r, row = some r → ∃ o : Obj, w.heap[r]? = some o ∧ o.isCells = false) : CopI base B rs w' := by
  obtain ⟨v, us, h1, h2, h3, h4⟩ := h
  have hne : ∀ u ∈ us, ∀ b off, u.a = some ⟨b, off, none⟩ → b < w.heap.size → w'.heap[b]? = w.heap[b]? := fun u hu b off e hl => hg.block b hl (fun e' => by
    obtain ⟨o, ho, hc⟩ := hr b e'.symm
    obtain ⟨_, cs, h5⟩ := h4 u hu b off e
    rw [h5] at ho
    cases ho
    cases hc)
  refine ⟨v, us, h1.kept hg (fun e' => ?_), h2.kept hg (fun q hq e' => ?_), h3.moved hg.size hne, fun u hu => (h4 u hu).moved (hne u hu)⟩
  · obtain ⟨o, ho, hc⟩ := hr B e'.symm
    rw [show w.heap[B]? = _ from h1] at ho; cases ho; cases hc
  · obtain ⟨o, ho, hc⟩ := hr q e'
    obtain ⟨cs, h5, _⟩ := U.own_type h2 hq
    rw [h5] at ho; cases ho; cases hc
theorem KeepX.grow {m B base : Nat} {v : Value} {us : List Rv} {w w' : World} (h : OwnV 54 base v us w) (hb : m ≤ base) (hg : w.grownBy w' v.ownBlock) : KeepX m B w w' := by
  refine ⟨⟨hg.size, fun i hi hl => hg.block i hl (fun e => by have := (h.ownBlock i e.symm).1; omega), fun i cs T fr hc _ hT => hg.block i (Array.getElem?_eq_some_iff.1 hc).1 (fun e => ?_)⟩, fun i o _ ho hc => (hg.block i (Array.getElem?_eq_some_iff.1 ho).1 (fun e => ?_)).trans ho⟩
  · obtain ⟨cs', h6, _⟩ := U.own_type h e.symm
    rw [hc] at h6
    injection h6 with h6
    injection h6 with h6 h7
    exact hT h7
  · obtain ⟨cs', h6, _⟩ := U.own_type h e.symm
    rw [ho] at h6
    cases h6
    cases hc
theorem KeepX.setBox {m B : Nat} {w : World} {x : Value} (h : Boxed w m 22 x) (y : Value) : KeepX m B w (w.setCell ⟨m, 0, none⟩ y) := by
  have hk : ∀ i, i ≠ m → (w.setCell ⟨m, 0, none⟩ y).heap[i]? = w.heap[i]? := fun i hi => Below.heap_setCell _ _ _ i (fun e => hi e)
  refine ⟨⟨(KeepsWalks.setCell w _ y).size, fun i hi _ => hk i (by omega), fun i _ _ _ _ hi _ => hk i (by omega)⟩, fun i o _ ho hc => (hk i (fun e => ?_)).trans ho⟩
  rw [e, show w.heap[m]? = _ from h] at ho
  cases ho
  cases hc
theorem info_row : (Tryz.prog.info? 54).map (fun i => (i.zero, i.size, i.bytes)) = some (some (.agg #[.slice none 0 0, .bool false]), 2, 32) := by kernel_rfl
theorem row_cellsV {T : TypeId} {size base n : Nat} {v : Value} {xs : List Value} {w : World} (h : w.ownsRow base T size v n xs) {q : Nat} {o : Obj} (hq : v.ownBlock = some q) (ho : w.heap[q]? = some o) : o.isCells = true := by
  obtain ⟨cs, hc, _⟩ := U.own_type h hq
  rw [hc] at ho; cases ho; rfl
def CopOk (vv : Value) (B Bx cb : Nat) (ua : Option Addr) (un uc : Nat) (ub : Bool) (l : List Cel) : Nat → Value → World → Prop
  | 0, u, _ => u = vv
  | 1, u, _ => u = .pointer (some ⟨Bx, 0, none⟩)
  | 2, u, _ => u = .slice ua un uc
  | 3, u, w => ∃ x y, u = .slice x un y ∧ OwnC .i32 112 cb (.slice x un y) l w
  | 4, u, _ => u = .pointer (some ⟨Bx, 1, none⟩)
  | 5, u, _ => u = .bool ub
  | 6, u, w => ∃ x y, u = .agg #[.slice x un y, .bool ub] ∧ OwnC .i32 112 cb (.slice x un y) l w
  | 7, u, w => ∃ p x y, u = .slice (some ⟨p, 0, none⟩) 1 1 ∧ RoB 54 p (.slice x un y) ub w ∧ OwnC .i32 112 cb (.slice x un y) l w
  | _, _, _ => True
set_option maxRecDepth 100000 in
set_option maxHeartbeats 4000000 in
theorem copied_in (w0 : World) (n : Nat) (hn : 4 ≤ n) (gf : Nat) (lb : Array Value) (eg : ∀ args w, (callFunc gf args).run Tryz.prog w = .ok (.enter gf args) w) (its : List (It w0)) (hN : its.length ≤ 1000) (w : World) (hw0 : Below w0.heap.size w0 w)
    (hseq : SeqOwn (n - 1) gf lb (fun x : It w0 => #[x.u.val]) its w.heap.size (w.alloc (.cells #[.slice none 0 0] 22))) :
    CallsIn Fence.wide n Tryz.prog 79 #[.func (.func gf) #[] lb] w fun e w' => ∃ v us, e = .returned v ∧ OwnV 54 w.heap.size v us w' ∧ RowsV .i32 us (its.map It.r) w' ∧ (∀ u ∈ us, TyC w.heap.size u w') ∧ Below w.heap.size w w' := by
  have h1 : 1 ≤ n := by omega
  obtain ⟨i0, hi, hz0, hz1, hz2⟩ := info_parts info_row
  refine callsIn_of_wp_marks Tryz.func79 rfl trivial ?_ rfl
  simp only [Tryz.ntmps79, List.size_toArray, List.length_cons, List.length_nil, Nat.reduceAdd, Nat.reduceSub, Array.replicate_succ, Array.replicate_zero, List.push_toArray, List.append_toArray, List.nil_append, List.cons_append]
  gi_wp2
  have bO := Boxed.new w 22 (.slice none 0 0)
  have hB0 : Below w.heap.size w (w.alloc (.cells #[.slice none 0 0] 22)) := (Below.refl _ w).alloc (Nat.le_refl _) _
  refine own_range h1 (gf := gf) (lb := lb) rfl eg hseq (Below.refl _ _) (by simp) (fun _ => rfl)
    (fun pre W => CopI w.heap.size w.heap.size (pre.map It.r) W ∧ Below w.heap.size w W)
    (OwnFrom.and (fun pre X Y row hs hg hr => hs.grown hg (fun r e => (hr r e).2)) (ownFrom_below (Nat.le_refl _) (by simp)))
    ⟨⟨_, [], bO, OwnV.nil _ _ _, RowsV.nil _ _, fun u hu => by cases hu⟩, hB0⟩
    (fun x a' W => ∃ Bx, w.heap.size < Bx ∧ RoB 54 Bx (.slice x.u.a x.u.n x.u.c) x.u.b W ∧ a' = { tmps := #[.func (.func gf) #[] lb, undef, .slice none 0 0, .pointer (some ⟨w.heap.size, 0, none⟩), .pointer (some ⟨Bx, 0, none⟩), .func (.func gf) #[] lb, x.u.val, undef, undef, undef, undef, undef, undef, undef, undef, undef, undef], defers := [] })
    (fun x a' s X Y row hs hg hr => by
      obtain ⟨Bx, hb1, hb2, hb3⟩ := hs
      refine ⟨Bx, hb1, hb2.grown hg (fun e => ?_), hb3⟩
      obtain ⟨_, o, ho, hc⟩ := hr Bx e
      rw [show X.heap[Bx]? = _ from hb2] at ho
      cases ho
      cases hc)
    ?assign ?body ?done
  case assign =>
    rintro l pre x W K ⟨hI, hB⟩ hK
    obtain ⟨⟨⟨⟨ua, un, uc, ub⟩, r⟩, hx⟩, hxx⟩ : ∃ y : It w0, y = x := ⟨x, rfl⟩
    subst hxx
    simp only [It.u, Rv.val] at hK ⊢
    have hlt := hI.choose_spec.choose_spec.1.lt
    gi_wp2
    refine hK _ _ (KeepX.of_below ((Below.refl _ W).alloc (Nat.le_refl _) _)) ⟨hI.grown (World.grownBy_alloc W _ none) (fun r e => by cases e), hB.alloc hB.size _⟩ ⟨W.heap.size, hlt, RoB.new _ _ _ _, ?_⟩
    first | rfl | simp
  case body =>
    rintro l pre x a' W ⟨⟨vv, us, hv, hrow, hR, hTy⟩, hB⟩ ⟨Bx, hBx, hX, rfl⟩ hlt
    have hxr := x.2
    obtain ⟨ua, un, uc, ub, hu⟩ : ∃ ua un uc ub, x.u = ⟨ua, un, uc, ub⟩ := ⟨_, _, _, _, rfl⟩
    obtain ⟨r, hr⟩ : ∃ r, x.r = r := ⟨_, rfl⟩
    have hu' : x.1.1 = ⟨ua, un, uc, ub⟩ := hu
    have hr' : x.1.2 = r := hr
    rw [hu', hr'] at hxr
    obtain ⟨hxv, hxl⟩ := hxr
    unfold Rv.val at hxv
    simp only at hxv
    obtain ⟨hub, hce, hnil, -, -, hlen⟩ := hxv.of
    rw [hu] at hX ⊢
    unfold Rv.val
    simp only at hX ⊢
    obtain ⟨L, hL⟩ : ∃ L, r.l = L := ⟨_, rfl⟩
    have hw : Below w0.heap.size w0 W := hw0.trans (hB.mono hw0.size)
    have HCe : Hid (CelsIn .i32 ua un L W) := Lib.hid (by rw [← hL]; exact hce.belowAll hw)
    have HLen : Hid (L.length = un) := Lib.hid (by rw [← hL]; exact hlen.symm)
    have HUn : Hid (un ≤ 1000) := Lib.hid (by rw [hlen]; exact hxl)
    have HNil := Lib.hid hnil
    have HUb := Lib.hid hub
    have HLr := Lib.hid hL
    have HXr := Lib.hid hr
    have HV := Lib.hid hv
    have HVc := Lib.hid hv.cell
    have HRow := Lib.hid hrow
    have HRV := Lib.hid hR
    have HTy := Lib.hid hTy
    have HX := Lib.hid hX
    have HBl : Hid (w.heap.size < W.heap.size) := Lib.hid hv.lt
    have HBxl : Hid (Bx < W.heap.size) := Lib.hid hX.lt
    have HB := Lib.hid hB
    have HCb : Hid (w.heap.size ≤ W.heap.size) := Lib.hid hB.size
    have HUs : Hid (us.length ≤ 1000) := Lib.hid (by rw [hR.1, List.length_map]; omega)
    obtain ⟨B, hBe⟩ : ∃ B, w.heap.size = B := ⟨_, rfl⟩
    obtain ⟨cb, hcb⟩ : ∃ cb, w.heap.size = cb := ⟨_, rfl⟩
    have HBe := Lib.hid hBe
    clear hv hrow hR hTy hX hB hub hce hnil hlen hxv hxl hu hr hu' hr' hL hw hBe hcb
    gi_wp2
    refine Go.Proofs.YtohhlhnjopbmhaaGreatDoor.R.wpIn_region_tailT 8 (by kernel_rfl) (fun u => Below W.heap.size W u) (fun u v => Below u.heap.size u v) (CopOk vv w.heap.size Bx w.heap.size ua un uc ub L) (by rfl) (by kernel_rfl) (by decide) (by kernel_rfl) (by kernel_rfl) (by kernel_rfl) ?hC ?hOk ?hop ?hdone ((Below.refl _ _).drew)
    case hC => exact fun u v h1 h2 => h1.trans (h2.mono h1.size)
    case hOk =>
      intro i u w1 w2 h hr
      unfold CopOk at h ⊢
      split <;> first | exact True.intro | exact h | (obtain ⟨x, y, e, h1⟩ := h; exact ⟨x, y, e, h1.belowAll hr⟩) | (obtain ⟨p, x, y, e, h0, h1⟩ := h; exact ⟨p, x, y, e, h0.belowAll hr, h1.belowAll hr⟩)
    case hop =>
      refine ⟨?_, ?_, ?_, ?_, ?_, ?_, ?_, ?_, trivial⟩
      · intro z v hz hag hdep
        refine .inl ⟨rfl, fun K hK => ?_⟩
        have d3 : z.tmps.getD 3 undef = .pointer (some ⟨w.heap.size, 0, none⟩) := hag.2.2 3 (by kernel_rfl)
        have e3 := d3
        rw [Array.getD_eq_getD_getElem?] at e3
        have l0 := (hz.cell (p := ⟨w.heap.size, 0, none⟩) HBl.out).trans HVc.out
        clear hz
        clear hdep hag 
        go_simp
        exact hK _ _ (Below.refl _ _) rfl
      · intro z v hz hag hdep
        refine .inl ⟨rfl, fun K hK => ?_⟩
        have d4 : z.tmps.getD 4 undef = .pointer (some ⟨Bx, 0, none⟩) := hag.2.2 4 (by kernel_rfl)
        have e4 := d4
        rw [Array.getD_eq_getD_getElem?] at e4
        clear hdep hag 
        go_simp
        exact hK _ _ (Below.refl _ _) rfl
      · intro z v hz hag hdep
        refine .inl ⟨rfl, fun K hK => ?_⟩
        have d8 : z.tmps.getD 8 undef = .pointer (some ⟨Bx, 0, none⟩) := hdep { on := 1, ground := .data } (by simp) rfl _ _ rfl rfl
        have e8 := d8
        rw [Array.getD_eq_getD_getElem?] at e8
        have l0 := (hz.cell (p := ⟨Bx, 0, none⟩) HBxl.out).trans HX.out.c0
        clear hz
        clear hdep hag 
        go_simp
        exact hK _ _ (Below.refl _ _) rfl
      · intro z v hz hag hdep
        refine .inl ⟨rfl, fun K hK => ?_⟩
        have d9 : z.tmps.getD 9 undef = .slice ua un uc := hdep { on := 2, ground := .data } (by simp) rfl _ _ rfl rfl
        have e9 := d9
        rw [Array.getD_eq_getD_getElem?] at e9
        have HC := Lib.hid (clone_any ua un uc L v (HCe.out.belowAll hz) HNil.out (by have := HUn.out; omega))
        have HZs := Lib.hid hz.size
        clear hdep hag hz
        go_simp
        refine ⟨by first | trivial | omega, fun _ => by omega, ?_⟩
        refine (CallsIn.inRound l (callsIn_wide.2 HC.out)).mono ?_
        rintro e w' ⟨v', rfl, h1, h2⟩
        obtain ⟨x3, y3, rfl, -⟩ := h1.shape
        have hl : L.length = un := HLen.out
        rw [hl] at h1 ⊢
        exact hK _ _ h2 ⟨x3, y3, rfl, h1.weaken (Nat.le_trans HCb.out HZs.out)⟩
      · intro z v hz hag hdep
        refine .inl ⟨rfl, fun K hK => ?_⟩
        have d4 : z.tmps.getD 4 undef = .pointer (some ⟨Bx, 0, none⟩) := hag.2.2 4 (by kernel_rfl)
        have e4 := d4
        rw [Array.getD_eq_getD_getElem?] at e4
        clear hdep hag 
        go_simp
        exact hK _ _ (Below.refl _ _) rfl
      · intro z v hz hag hdep
        refine .inl ⟨rfl, fun K hK => ?_⟩
        have d11 : z.tmps.getD 11 undef = .pointer (some ⟨Bx, 1, none⟩) := hdep { on := 4, ground := .data } (by simp) rfl _ _ rfl rfl
        have e11 := d11
        rw [Array.getD_eq_getD_getElem?] at e11
        have l0 := (hz.cell (p := ⟨Bx, 1, none⟩) HBxl.out).trans HX.out.c1
        clear hz
        clear hdep hag 
        go_simp
        exact hK _ _ (Below.refl _ _) rfl
      · intro z v hz hag hdep
        refine .inl ⟨rfl, fun K hK => ?_⟩
        have d10' : CopOk vv w.heap.size Bx w.heap.size ua un uc ub L 3 (z.tmps.getD 10 undef) v := hdep { on := 3, ground := .data } (by simp) rfl _ _ rfl rfl
        simp only [CopOk] at d10'
        obtain ⟨x3, y3, d10, hO3⟩ := d10'
        have e10 := d10
        rw [Array.getD_eq_getD_getElem?] at e10
        have d12 : z.tmps.getD 12 undef = .bool ub := hdep { on := 5, ground := .data } (by simp) rfl _ _ rfl rfl
        have e12 := d12
        rw [Array.getD_eq_getD_getElem?] at e12
        clear hdep hag hz
        go_simp
        exact hK _ _ (Below.refl _ _) ⟨x3, y3, rfl, hO3⟩
      · intro z v hz hag hdep
        refine .inl ⟨rfl, fun K hK => ?_⟩
        have d13' : CopOk vv w.heap.size Bx w.heap.size ua un uc ub L 6 (z.tmps.getD 13 undef) v := hdep { on := 6, ground := .data } (by simp) rfl _ _ rfl rfl
        simp only [CopOk] at d13'
        obtain ⟨x3, y3, d13, hO3⟩ := d13'
        have e13 := d13
        rw [Array.getD_eq_getD_getElem?] at e13
        have HO3 := Lib.hid hO3
        clear hdep hag hz hO3
        go_simp
        exact hK _ _ ((Below.refl _ _).alloc (Nat.le_refl _) _) ⟨v.heap.size, x3, y3, rfl, RoB.new _ _ _ _, HO3.out.alloc _⟩
    case hdone =>
      intro z v hz hag hok hno
      clear hno
      have d7 : z.tmps.getD 7 undef = vv := hok 0 _ 7 (by decide) rfl rfl
      obtain ⟨p, x3, y3, d14, hRo, hO3⟩ : ∃ p x y, z.tmps.getD 14 undef = .slice (some ⟨p, 0, none⟩) 1 1 ∧ RoB 54 p (.slice x un y) ub v ∧ OwnC .i32 112 w.heap.size (.slice x un y) L v := hok 7 _ 14 (by decide) rfl rfl
      obtain ⟨uu, hu, hzz⟩ := agree_frame [7, 8, 9, 10, 11, 12, 13, 14, 15] rfl hag
      have e7 := (hu 7).trans d7
      have e14 := (hu 14).trans d14
      subst hzz
      have hVz := HV.out.kept (grownBy_of_below hz) (by simp)
      have hc := hVz.cell
      have hf := hVz.frozen
      have HO := Lib.hid (HRow.out.belowAll hz)
      have HRz := Lib.hid (HRV.out.belowAll hz)
      have HTz : Hid (∀ u ∈ us, TyC w.heap.size u v) := Lib.hid (fun u hu => (HTy.out u hu).moved (fun b off _ hl => hz.block b hl))
      have HVz := Lib.hid hVz
      have HBz := Lib.hid hz
      have HRo := Lib.hid hRo
      have HO3 := Lib.hid hO3
      have HSz : Hid (w.heap.size ≤ v.heap.size) := Lib.hid (Nat.le_trans HCb.out hz.size)
      clear d7 d14 hu hag hok hz hVz hRo hO3
      simp only [List.foldl_cons, List.foldl_nil]
      rw [e7, e14]
      clear e7 e14
      dsimp only [List.drop]
      simp only [List.setIfInBounds_toArray, List.set_cons_succ, List.set_cons_zero]
      generalize uu 8 = u8', uu 9 = u9', uu 10 = u10', uu 11 = u11', uu 12 = u12', uu 13 = u13', uu 15 = u15'
      clear uu
      gi_wp2_with (gi_at_builtin; refine wpListIn_append_own _ rfl _ _ 22 rfl w.heap.size 54 i0 _ 2 32 rowsT.slice hi hz0 hz1 hz2 rfl (by decide) vv us.length (flatV us) rfl HO.out ⟨p, 0, none⟩ 1 1 (vCells ⟨x3, un, y3, ub⟩) rfl rfl ?c1 ?c2 ?c3 ?c4 ?c5 ?_)
      case c1 =>
        intro j q hj
        have hadd : ((⟨p, 0, none⟩ : Addr).add j) = ⟨p, 0 + j, none⟩ := by unfold Addr.add; split <;> simp_all
        rw [hadd, Nat.zero_add]
        match j, hj with
        | 0, hj => rw [show q = .slice x3 un y3 by simpa [vCells] using hj.symm]; exact HRo.out.c0
        | 1, hj => rw [show q = .bool ub by simpa [vCells] using hj.symm]; exact HRo.out.c1
        | k + 2, hj => simp [vCells] at hj
      case c2 => intro u hu; exact flatV_one [⟨x3, un, y3, ub⟩] u (by simpa [flatV] using hu)
      case c3 => have := HUs.out; unfold maxLen; omega
      case c4 => have := HUs.out; omega
      case c5 => exact HSz.out
      intro v' w1 hown' hgrow _
      obtain ⟨g', cap', rfl⟩ := ownsRow_succ hown'
      have hneB : some w.heap.size ≠ vv.ownBlock := HVz.out.not_row (by decide) HO.out
      have b1 : Boxed w1 w.heap.size 22 vv := HVz.out.kept hgrow hneB
      have hc1 := b1.cell
      have hf1 := b1.frozen
      have hneU : ∀ u, TyC w.heap.size u v → ∀ b off, u.a = some ⟨b, off, none⟩ → b < v.heap.size → w1.heap[b]? = v.heap[b]? := fun u hu b off e hl => hgrow.block b hl (fun e' => by
        obtain ⟨_, cs, h5⟩ := hu b off e
        obtain ⟨cs', h6, _⟩ := U.own_type HO.out e'.symm
        rw [h5] at h6
        injection h6 with h6
        injection h6 with h6 h7
        exact absurd h7 (by decide))
      have hTn : TyC w.heap.size ⟨x3, un, y3, ub⟩ v := TyC.of HO3.out
      have hrn : RowV .i32 (Rv.val ⟨x3, un, y3, ub⟩) r v := by
        have h := HO3.out
        rw [← HLr.out] at h
        have h' := h.rowV
        rw [← HUb.out] at h'
        exact h'
      have hR1 : RowsV .i32 (us ++ [⟨x3, un, y3, ub⟩]) (pre.map It.r ++ [r]) w1 := (HRz.out.snoc hrn).moved hgrow.size (fun u hu => by
        rcases List.mem_append.1 hu with hu | hu
        · exact hneU u (HTz.out u hu)
        · rw [List.mem_singleton.1 hu]; exact hneU _ hTn)
      have hT1 : ∀ u ∈ us ++ [⟨x3, un, y3, ub⟩], TyC w.heap.size u w1 := fun u hu => by
        rcases List.mem_append.1 hu with hu | hu
        · exact (HTz.out u hu).moved (hneU u (HTz.out u hu))
        · rw [List.mem_singleton.1 hu]; exact hTn.moved (hneU _ hTn)
      have hBl : Below w.heap.size v w1 := (Below.refl _ _).grown hgrow HSz.out (fun q hq => (HO.out.ownBlock q hq).1)
      have hKX : KeepX w.heap.size (w.heap.size + 1) W w1 := (KeepX.of_below HBz.out).trans (KeepX.grow HO.out (Nat.le_refl _) hgrow)
      have HOn := Lib.hid hown'
      have HB1 := Lib.hid b1
      have HR1 := Lib.hid hR1
      have HT1 := Lib.hid hT1
      have HBl1 : Hid (Below w.heap.size W w1) := Lib.hid ((HBz.out.mono HCb.out).trans hBl)
      have HKX := Lib.hid hKX
      have HXr := HXr
      clear hown' hgrow hneB b1 hneU hTn hrn hR1 hT1 hBl hKX
      gi_wp2
      have hset : ∀ b, b ≠ w.heap.size → (w1.setCell ⟨w.heap.size, 0, none⟩ (.slice (some ⟨g', 0, none⟩) (us.length + 1) cap')).heap[b]? = w1.heap[b]? := fun b hb => Below.heap_setCell _ _ _ b (fun e => hb e)
      have hBB := HB1.out
      have hneS : ∀ u, TyC w.heap.size u w1 → ∀ b off, u.a = some ⟨b, off, none⟩ → b < w1.heap.size → (w1.setCell ⟨w.heap.size, 0, none⟩ (.slice (some ⟨g', 0, none⟩) (us.length + 1) cap')).heap[b]? = w1.heap[b]? := fun u hu b off e hl => hset b (fun e' => by
        obtain ⟨_, cs, h5⟩ := hu b off e
        rw [e', show w1.heap[w.heap.size]? = _ from hBB] at h5
        injection h5 with h5
        injection h5 with h5 h6
        exact absurd h6 (by decide))
      refine ⟨HKX.out.trans (KeepX.setBox HB1.out _), ⟨⟨_, us ++ [⟨x3, un, y3, ub⟩], HB1.out.set _, ?_, ?_, fun u hu => (HT1.out u hu).moved (hneS u (HT1.out u hu))⟩, (HB.out.trans HBl1.out).setCell (p := ⟨w.heap.size, 0, none⟩) (Nat.le_refl _) _⟩⟩
      · have h := HOn.out.kept (grownBy_setCell' w1 w.heap.size (.slice (some ⟨g', 0, none⟩) (us.length + 1) cap')) (.inr (HB1.out.not_row (by decide) HOn.out).symm)
        unfold OwnV
        rw [List.length_append, flatV_append]
        simpa [flatV] using h
      · try rw [List.map_append]
        show RowsV .i32 _ (pre.map It.r ++ [x.r]) _
        rw [HXr.out]
        exact HR1.out.moved (KeepsWalks.setCell w1 _ _).size (fun u hu => hneS u (HT1.out u hu))
  case done =>
    rintro D W hD ⟨⟨vv, us, hv, hrow, hR, hTy⟩, hB⟩ hK
    have hc := hv.cell
    have HRow := Lib.hid hrow
    have HRV := Lib.hid hR
    have HTy := Lib.hid hTy
    have HB := Lib.hid hB
    have HK := Lib.hid hK
    have HD := Lib.hid hD
    have hgp := grownBy_putObj' W D (.deferred none)
    clear hv hrow hR hTy hB hK hD
    gi_wp2
    refine ⟨by simp, .inl ⟨_, _, rfl, run_takeDeferred HK.out, ?_⟩⟩
    refine ⟨_, results_tmp rfl _ _ _, vv, us, rfl, ownsRow_putObj HRow.out _ HK.out rfl, ?_, ?_, HB.out.trans (belowK_b (w := w) (Nat.le_refl _) W D _ _ (by have := HD.out; simp at this; omega) HK.out rfl rfl)⟩
    · exact HRV.out.moved (by simp) (fun u hu b off e hl => World.putObj_heap_other (fun e' => by
        obtain ⟨_, cs, h5⟩ := HTy.out u hu b off e
        rw [e', HK.out] at h5
        cases h5))
    · exact fun u hu => (HTy.out u hu).moved (fun b off e hl => World.putObj_heap_other (fun e' => by
        obtain ⟨_, cs, h5⟩ := HTy.out u hu b off e
        rw [e', HK.out] at h5
        cases h5))
end Go.Proofs.YtohhlhnjopbmhaaGreatDoor.K
