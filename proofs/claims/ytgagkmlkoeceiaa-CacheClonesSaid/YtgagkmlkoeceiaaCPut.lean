/- The contracts of cache.Put and cache.Get. -/
import Derived.Test.YtgagkmlkoeceiaaMerged2
namespace Go.Proofs.Ytgagkmlkoeceiaa.C
open Go.RowKit Go.Maps Go.Proofs.Ytgagkmlkoeceiaa.H

abbrev toE (y : Nd) : Int × List (Int × Int) := (y.i, y.g)
/-- all but a number -/
def dropC (L : List (Int × List (Int × Int))) (i : Int) : List (Int × List (Int × Int)) := L.filter fun x => !(x.1 == i)
theorem drop_none {L : List (Int × List (Int × Int))} {i : Int} (h : ∀ x ∈ L, x.1 ≠ i) : dropC L i = L := List.filter_eq_self.2 (fun x hx => by simpa using h x hx)
theorem drop_found {ls cs : List Nd} {y : Nd} (h : ((ls ++ y :: cs).map (·.i)).Nodup) : dropC ((ls ++ y :: cs).map toE) y.i = (ls ++ cs).map toE ∧ ∀ z ∈ ls ++ cs, z.i ≠ y.i := by
  rw [List.map_append, List.map_cons] at h
  have h9 := List.nodup_append.1 h
  have hno : ∀ z ∈ ls ++ cs, z.i ≠ y.i := fun z hz e => by
    rcases List.mem_append.1 hz with hz | hz
    · exact h9.2.2 z.i (List.mem_map.2 ⟨z, hz, rfl⟩) y.i (by simp) e
    · exact (List.nodup_cons.1 h9.2.1).1 (List.mem_map.2 ⟨z, hz, e⟩)
  refine ⟨?_, hno⟩
  have e1 : (ls ++ y :: cs).map toE = ls.map toE ++ toE y :: cs.map toE := by simp
  rw [e1]
  unfold dropC
  rw [List.filter_append, List.filter_cons]
  have e2 : (!((toE y).1 == y.i)) = false := by simp
  rw [e2, if_neg (by decide), List.filter_eq_self.2, List.filter_eq_self.2, List.map_append]
  · intro z hz
    obtain ⟨u, hu, rfl⟩ := List.mem_map.1 hz
    simpa using hno u (List.mem_append_right _ hu)
  · intro z hz
    obtain ⟨u, hu, rfl⟩ := List.mem_map.1 hz
    simpa using hno u (List.mem_append_left _ hu)
/-- a cache's lines behind Put; which went -/
def putC (x : Ca) (i : Int) (g : List (Int × Int)) : Ca × Int × Bool :=
  if i < 0 ∨ 1152921504606846976 < i then (x, 0, false)
  else if (dropC x.L i ++ [(i, g)]).length ≤ x.most then (⟨x.most, dropC x.L i ++ [(i, g)]⟩, 0, false)
  else (⟨x.most, (dropC x.L i ++ [(i, g)]).tail⟩, ((dropC x.L i ++ [(i, g)]).headD (0, [])).1, true)
/-- behind Get -/
def getC (x : Ca) (i : Int) : Ca := match findC x.L i with
  | some g => ⟨x.most, dropC x.L i ++ [(i, g)]⟩
  | none => x
theorem PairsIn.blocks2 {rk : IntKind} {a : Option Addr} {n c : Nat} {gs : List (Int × Int)} {w w' : World} (h : PairsIn rk a n c gs w) (hs : w.heap.size ≤ w'.heap.size) (hk : gs ≠ [] → ∀ b off, a = some ⟨b, off, none⟩ → b < w.heap.size → w'.heap[b]? = w.heap[b]?) : PairsIn rk a n c gs w' := by
  by_cases e : gs = []
  · exact ⟨h.len, h.fit, h.top, .inl e⟩
  · exact PairsIn.blocks h hs (hk e)
theorem KeepB.cut {M M4 : List Nat} {w w' : World} (h : KeepB M4 w w') (hn : ∀ p ∈ M4, p ∈ M ∨ w.heap.size ≤ p) : KeepB M w w' := ⟨h.os, h.tape, h.output, h.size, fun p hp hm => h.block p hp (fun h9 => (hn p h9).elim hm (fun h => by omega))⟩
def Put7 (c m kN mo : Nat) : Nat → Value → World → Prop
  | 0, u, _ => u = .pointer (some ⟨c, 0, none⟩)
  | 1, u, _ => u = .pointer (some ⟨c, 0, none⟩)
  | 2, u, _ => u = .pointer (some ⟨c, 1, none⟩)
  | 3, u, _ => u = .map (some m)
  | 4, u, _ => u = .int .i64 (kN : Int)
  | 5, u, _ => u = .pointer (some ⟨c, 0, none⟩)
  | 6, u, _ => u = .pointer (some ⟨c, 0, none⟩)
  | 7, u, _ => u = .pointer (some ⟨c, 0, none⟩)
  | 8, u, _ => u = .int .i64 (mo : Int)
  | 9, u, _ => u = .bool (decide (kN ≤ mo))
  | _, _, _ => True
def PutPost (c : Nat) (M G : List Nat) (x : Ca) (i : Int) (g : List (Int × Int)) (w : World) (r : Ending) (w' : World) : Prop := ∃ M' G', r = .returned (.tuple #[.int .i64 (putC x i g).2.1, .bool (putC x i g).2.2]) ∧ Ch c M' G' (putC x i g).1 w' ∧ KeepB M w w' ∧ (∀ p ∈ M', p ∈ M ∨ w.heap.size ≤ p) ∧ ∀ p ∈ G', p ∈ G ∨ w.heap.size ≤ p
theorem new_line {c m e : Nat} {M G : List Nat} {most : Nat} {ns : List Nd} {i : Int} {la : Option Addr} {lc : Nat} {g : List (Int × Int)} {w1 w2 : World} (h : ChAt c m e M G most ns w1) (hi : 0 ≤ i ∧ i ≤ 1152921504606846976 ∧ g.length ≤ 1000000)
    (hb : Below w1.heap.size w1 w2) (hq : OwnQ .i32 43 w1.heap.size (.slice la g.length lc) g w2) :
    ∃ G2, ChAt c m e (M ++ [w2.heap.size]) (G ++ G2) most ns (w2.alloc (.cells #[.int .i64 i, .slice la g.length lc, .pointer none, .pointer none] 72)) ∧
      Own1 (M ++ [w2.heap.size]) (G ++ G2) ⟨w2.heap.size, i, la, g.length, lc, g⟩ (w2.alloc (.cells #[.int .i64 i, .slice la g.length lc, .pointer none, .pointer none] 72)) ∧ w2.heap.size ∉ e :: blkN ns ∧ ∀ p ∈ G2, w1.heap.size ≤ p := by
  have hnew := heap_alloc_new w2 (.cells #[.int .i64 i, .slice la g.length lc, .pointer none, .pointer none] 72)
  have hb3 : Below w2.heap.size w2 (w2.alloc (.cells #[.int .i64 i, .slice la g.length lc, .pointer none, .pointer none] 72)) := (Below.refl _ _).alloc (Nat.le_refl _) _
  have hs3 : (w2.alloc (.cells #[.int .i64 i, .slice la g.length lc, .pointer none, .pointer none] 72)).heap.size = w2.heap.size + 1 := World.size_alloc _ _
  generalize w2.alloc (.cells #[.int .i64 i, .slice la g.length lc, .pointer none, .pointer none] 72) = w3 at hnew hb3 hs3 ⊢
  have hs2 := hb.size
  obtain ⟨a, cc, hv, hp, hn, ho⟩ := hq.shape
  injection hv with hv1 hv2 hv3
  subst hv1 hv3
  have h3 : ChAt c m e M G most ns w3 := (h.below hb).below hb3
  refine ⟨(Value.slice la g.length lc).ownBlock.toList, h3.more (fun p hp => ?_) (fun p hp => ?_), ⟨⟨by rw [cell_block hnew]; rfl, by rw [cell_block hnew]; rfl, hp.belowAll hb3, hn⟩, ⟨_, hnew, rfl⟩, by simp, hi, fun p o ha => ?_⟩, fun hm => ?_, fun p hp => ?_⟩
  · obtain rfl : p = w2.heap.size := by simpa using hp
    refine ⟨fun hg => ?_, fun hg => ?_, by omega⟩
    · have := (h.apart _ hg).2; omega
    · have := (hq.own _ (by simpa using hg)).2.1; omega
  · obtain ⟨h5, h6, -⟩ := hq.own p (by simpa using hp)
    exact ⟨fun hm => by have := h.lt _ hm; omega, by omega⟩
  · exact List.mem_append_right _ (by rw [ho p o ha]; simp)
  · have := h.lt _ (h.lm _ hm)
    omega
  · exact (hq.own p (by simpa using hp)).1
set_option maxRecDepth 100000 in
set_option maxHeartbeats 16000000 in
theorem put_any {c : Nat} {M G : List Nat} {x : Ca} (i : Int) (hi : -9223372036854775808 ≤ i ∧ i ≤ 9223372036854775807) (a : Option Addr) (n cc : Nat) (g : List (Int × Int)) (w : World) (h : Ch c M G x w) (hg : PairsIn .i32 a n cc g w) (hnl : a = none → cc = 0) (hgl : g.length ≤ 1000000) (hga : g ≠ [] → ∀ p o, a = some ⟨p, o, none⟩ → p ∉ M) :
    Calls Try.prog 12 #[.pointer (some ⟨c, 0, none⟩), .int .i64 i, .slice a n cc] w (PutPost c M G x i g w) := by
  obtain ⟨P, hP⟩ : ∃ P, PutPost c M G x i g w = P := ⟨_, rfl⟩
  rw [hP]
  have HP := Lib.hid hP
  by_cases hbad : i < 0 ∨ 1152921504606846976 < i
  · have hend : Hid (P (.returned (.tuple #[.int .i64 0, .bool false])) w) := Lib.hid (by
      rw [← HP.out]
      unfold PutPost putC
      rw [if_pos hbad]
      exact ⟨M, G, rfl, h, KeepB.refl _ _, fun p hp => .inl hp, fun p hp => .inl hp⟩)
    clear h hg hnl hgl hga hP
    rcases Int.lt_or_le i 0 with hneg | hpos
    · clear hbad hi
      go_enter Try.func12, Try.ntmps12
      go_wp2
      exact hend.out
    · have hbig : 1152921504606846976 < i := by omega
      have hn0 : ¬ i < 0 := by omega
      clear hbad hi
      go_enter Try.func12, Try.ntmps12
      go_wp2
      exact hend.out
  · have hn0 : ¬ i < 0 := by omega
    have hnb : ¬ 1152921504606846976 < i := by omega
    obtain ⟨m, e, ns, h, h2, hfit, hm1, hm2⟩ := h
    obtain ⟨mo, hmo⟩ : ∃ mo, x.most = mo := ⟨_, rfl⟩
    rw [hmo] at h hfit hm1 hm2
    obtain ⟨L, hL⟩ : ∃ L, x.L = L := ⟨_, rfl⟩
    rw [hL] at h2 hfit
    have hnl9 : ns.length = L.length := by rw [← h2]; simp
    have HX : Hid (x.most = mo ∧ x.L = L) := Lib.hid ⟨hmo, hL⟩
    have HI : Hid (0 ≤ i ∧ i ≤ 1152921504606846976 ∧ g.length ≤ 1000000) := Lib.hid ⟨by omega, by omega, hgl⟩
    have HMo : Hid (1 ≤ mo ∧ mo ≤ 65536) := Lib.hid ⟨hm1, hm2⟩
    have hmI : (mo : Int) ≤ 65536 := by omega
    have hc1 := h.c1
    have HG := Lib.hid hg
    have HGa := Lib.hid hga
    obtain ⟨v, ok, hrun, hf⟩ := h.mp.look hi
    have HCh := Lib.hid h
    have hglI : ((g.length : Nat) : Int) ≤ 1000000 := by omega
    have hl0 : ((([] : List (Int × Int)).length : Int)) ≤ 1000000 := by decide
    clear hbad hP hgl hi hm1 hm2 hmo hL hg hga
    rcases hf with ⟨rfl, hno⟩ | ⟨b, rfl, rfl, hm⟩
    · have HCa : Hid (ChAt c m e M G mo ns w) := Lib.hid h
      have HKa : Hid (KeepB M w w) := Lib.hid (KeepB.refl _ _)
      have HLa : Hid (ns.map toE = dropC L i) := Lib.hid (by rw [drop_none (fun z hz => by
        rw [← h2] at hz
        obtain ⟨y, hy, rfl⟩ := List.mem_map.1 hz
        exact hno (y.i, y.b) (List.mem_map.2 ⟨y, hy, rfl⟩))]; exact h2)
      have HNo : Hid (∀ y ∈ ns, y.i ≠ i) := Lib.hid (fun y hy => hno (y.i, y.b) (List.mem_map.2 ⟨y, hy, rfl⟩))
      have HFi : Hid (ns.length ≤ mo) := Lib.hid (by omega)
      have HGw : Hid (PairsIn .i32 a n cc g w) := HG
      clear h h2 hno hfit hnl9 HCh
      go_enter Try.func12, Try.ntmps12
      go_upto_region 6 with fail
      go_wp2_with (refine wpList_append_q gluT rfl _ _ rfl rfl w.heap.size _ [] a n cc g rfl rfl (OwnQ.nil _ _ _ _) HGw.out hl0 hglI (Nat.le_refl _) ?_)
      intro v1 w2 hgr
      have hq1 : OwnQ .i32 43 w.heap.size v1 g w2 := by simpa using hgr.own
      have hb1 : Below w.heap.size w w2 := (Below.refl _ _).grown hgr.grown (Nat.le_refl _) (fun q hq => by cases hq)
      obtain ⟨la, lc, rfl, -⟩ := hq1.shape
      obtain ⟨G2, hA, hO, hNm, hG2⟩ := new_line HCa.out HI.out hb1 hq1
      have HJ := Lib.hid (join_any _ _ hA hO hNm HNo.out (by have := HFi.out; have := HMo.out; omega))
      have HK3 : Hid (KeepB M w (w2.alloc (.cells #[.int .i64 i, .slice la g.length lc, .pointer none, .pointer none] 72))) := Lib.hid (HKa.out.trans ((KeepB.of_below hb1).trans (KeepB.of_below ((Below.refl _ _).alloc (Nat.le_refl _) _))))
      have HG2 := Lib.hid hG2
      have HS2 := Lib.hid hb1.size
      clear hgr hq1 hb1 hA hO hNm hG2
      go_wp2_with fail
      refine HJ.out.mono ?_
      rintro r w4 ⟨rfl, h5, h6⟩
      obtain ⟨N, hN⟩ : ∃ N, ns ++ [(⟨w2.heap.size, i, la, g.length, lc, g⟩ : Nd)] = N := ⟨_, rfl⟩
      rw [hN] at h5
      obtain ⟨M4, hM4⟩ : ∃ M4, M ++ [w2.heap.size] = M4 := ⟨_, rfl⟩
      obtain ⟨G4, hG4⟩ : ∃ G4, G ++ G2 = G4 := ⟨_, rfl⟩
      rw [hM4, hG4] at h5
      rw [hM4] at h6
      have hs9 : w.heap.size ≤ w2.heap.size := Nat.le_trans HKa.out.size HS2.out
      have hMn : ∀ p ∈ M4, p ∈ M ∨ w.heap.size ≤ p := fun p hp => by
        rw [← hM4] at hp
        rcases List.mem_append.1 hp with h9 | h9
        · exact .inl h9
        · have : p = w2.heap.size := by simpa using h9
          exact .inr (by omega)
      have hGn : ∀ p ∈ G4, p ∈ G ∨ w.heap.size ≤ p := fun p hp => by
        rw [← hG4] at hp
        rcases List.mem_append.1 hp with h9 | h9
        · exact .inl h9
        · exact .inr (Nat.le_trans HKa.out.size (HG2.out p h9))
      have hk4 : KeepB M4 w w4 := (HK3.out.mono (fun p hp => by rw [← hM4]; exact List.mem_append_left _ hp)).trans h6
      have hNE : N.map toE = dropC L i ++ [(i, g)] := by rw [← hN, List.map_append, HLa.out]; rfl
      obtain ⟨kN, hk⟩ : ∃ k, N.length = k := ⟨_, rfl⟩
      have hkk : kN = (dropC L i ++ [(i, g)]).length := by rw [← hk, ← hNE]; simp
      have hk1 : kN ≤ mo + 1 := by rw [← hk, ← hN]; have := HFi.out; simp at this ⊢; omega
      have hk0 : 1 ≤ kN := by rw [← hk, ← hN, List.length_append]; exact Nat.le_add_left _ _
      have HC1 := Lib.hid h5.c1
      have HC0 := Lib.hid h5.c0
      have HMp4 := Lib.hid h5.mp
      have HK4 : Hid ((entN N).length = kN) := Lib.hid (by rw [← hk]; simp [entN])
      clear hM4 hG4 h6 hs9
      by_cases hle : kN ≤ mo
      · have hend : ∀ w5, EqD w4 w5 → P (.returned (.tuple #[.int .i64 0, .bool false])) w5 := fun w5 hq5 => by
          rw [← HP.out]
          unfold PutPost putC
          have hi9 := HI.out
          have hno9 : ¬ (i < 0 ∨ 1152921504606846976 < i) := by omega
          rw [if_neg hno9, HX.out.1, HX.out.2, if_pos (by rw [← hkk]; exact hle)]
          exact ⟨M4, G4, rfl, ⟨m, e, N, h5.below hq5.below, hNE, (by rw [← hkk]; exact hle), HMo.out⟩, KeepB.cut (hk4.trans (KeepB.of_below hq5.below)) hMn, hMn, hGn⟩
        have HEnd := Lib.hid hend
        have HDl : Hid (decide (kN ≤ mo) = true) := Lib.hid (decide_eq_true hle)
        clear hend hN h5 hk4 hMn hGn hNE hk hkk hk1 hk0 hle
        try dsimp only
        rename_i K hK
        refine hK _ _ ?_
        go_upto_region 7 with fail
        refine Go.Proofs.Ytgagkmlkoeceiaa.R.wp_region_due [] [0, 0, 0, 0, 0, 0, 0, 0, 0, 0] (by kernel_rfl) (fun _ _ u => EqD w4 u) (fun _ _ => True) (Put7 c m kN mo) (by rfl) (by kernel_rfl) (by kernel_rfl) (by kernel_rfl) (by kernel_rfl) ?hcong ?hOk ?hop ?hdone ?h0
        case hcong => exact fun k f f2 u hs hst => hst
        case hOk => intro i u w1 w2 h hr; unfold Put7 at h ⊢; split <;> first | exact True.intro | exact h
        case h0 => exact (EqD.refl w4).drew
        case hop =>
          refine ⟨?_, ?_, ?_, ?_, ?_, ?_, ?_, ?_, ?_, ?_, trivial⟩
          · intro k z v hk hst hag hdep
            refine .inl ⟨rfl, fun K hK => ?_⟩
            have d0 : z.tmps.getD 0 undef = .pointer (some ⟨c, 0, none⟩) := hag.2.2 0 (by kernel_rfl)
            have e0 := d0
            rw [Array.getD_eq_getD_getElem?] at e0
            have HSt := Lib.hid hst
            clear hdep hag hst
            go_simp
            exact hK _ _ trivial rfl HSt.out
          · intro k z v hk hst hag hdep
            refine .inl ⟨rfl, fun K hK => ?_⟩
            have d37 : z.tmps.getD 37 undef = .pointer (some ⟨c, 0, none⟩) := hdep { on := 0, ground := .data } (by simp) rfl _ _ rfl rfl
            have e37 := d37
            rw [Array.getD_eq_getD_getElem?] at e37
            have HSt := Lib.hid hst
            clear hdep hag hst
            go_simp
            exact hK _ _ trivial rfl HSt.out
          · intro k z v hk hst hag hdep
            refine .inl ⟨rfl, fun K hK => ?_⟩
            have d38 : z.tmps.getD 38 undef = .pointer (some ⟨c, 0, none⟩) := hdep { on := 1, ground := .data } (by simp) rfl _ _ rfl rfl
            have e38 := d38
            rw [Array.getD_eq_getD_getElem?] at e38
            have HSt := Lib.hid hst
            clear hdep hag hst
            go_simp
            exact hK _ _ trivial rfl HSt.out
          · intro k z v hk hst hag hdep
            refine .inl ⟨rfl, fun K hK => ?_⟩
            have d39 : z.tmps.getD 39 undef = .pointer (some ⟨c, 1, none⟩) := hdep { on := 2, ground := .data } (by simp) rfl _ _ rfl rfl
            have e39 := d39
            rw [Array.getD_eq_getD_getElem?] at e39
            have hq : EqD w4 v := hst
            have l0 := (hq.cell _).trans HC1.out
            clear hq
            have HSt := Lib.hid hst
            clear hdep hag hst
            go_simp
            exact hK _ _ trivial rfl HSt.out
          · intro k z v hk hst hag hdep
            refine .inl ⟨rfl, fun K hK => ?_⟩
            have d40 : z.tmps.getD 40 undef = .map (some m) := hdep { on := 3, ground := .data } (by simp) rfl _ _ rfl rfl
            have e40 := d40
            rw [Array.getD_eq_getD_getElem?] at e40
            have hq : EqD w4 v := hst
            have hrun := fun ty => (HMp4.out.of_block (hq.block m)).len ty
            rw [HK4.out] at hrun
            clear hq
            have HSt := Lib.hid hst
            clear hdep hag hst
            go_simp
            exact hK _ _ trivial rfl HSt.out
          · intro k z v hk hst hag hdep
            refine .inl ⟨rfl, fun K hK => ?_⟩
            have d0 : z.tmps.getD 0 undef = .pointer (some ⟨c, 0, none⟩) := hag.2.2 0 (by kernel_rfl)
            have e0 := d0
            rw [Array.getD_eq_getD_getElem?] at e0
            have HSt := Lib.hid hst
            clear hdep hag hst
            go_simp
            exact hK _ _ trivial rfl HSt.out
          · intro k z v hk hst hag hdep
            refine .inl ⟨rfl, fun K hK => ?_⟩
            have d42 : z.tmps.getD 42 undef = .pointer (some ⟨c, 0, none⟩) := hdep { on := 5, ground := .data } (by simp) rfl _ _ rfl rfl
            have e42 := d42
            rw [Array.getD_eq_getD_getElem?] at e42
            have HSt := Lib.hid hst
            clear hdep hag hst
            go_simp
            exact hK _ _ trivial rfl HSt.out
          · intro k z v hk hst hag hdep
            refine .inl ⟨rfl, fun K hK => ?_⟩
            have d43 : z.tmps.getD 43 undef = .pointer (some ⟨c, 0, none⟩) := hdep { on := 6, ground := .data } (by simp) rfl _ _ rfl rfl
            have e43 := d43
            rw [Array.getD_eq_getD_getElem?] at e43
            have HSt := Lib.hid hst
            clear hdep hag hst
            go_simp
            exact hK _ _ trivial rfl HSt.out
          · intro k z v hk hst hag hdep
            refine .inl ⟨rfl, fun K hK => ?_⟩
            have d44 : z.tmps.getD 44 undef = .pointer (some ⟨c, 0, none⟩) := hdep { on := 7, ground := .data } (by simp) rfl _ _ rfl rfl
            have e44 := d44
            rw [Array.getD_eq_getD_getElem?] at e44
            have hq : EqD w4 v := hst
            have l0 := (hq.cell _).trans HC0.out
            clear hq
            have HSt := Lib.hid hst
            clear hdep hag hst
            go_simp
            exact hK _ _ trivial rfl HSt.out
          · intro k z v hk hst hag hdep
            refine .inl ⟨rfl, fun K hK => ?_⟩
            have d41 : z.tmps.getD 41 undef = .int .i64 (kN : Int) := hdep { on := 4, ground := .data } (by simp) rfl _ _ rfl rfl
            have e41 := d41
            rw [Array.getD_eq_getD_getElem?] at e41
            have d45 : z.tmps.getD 45 undef = .int .i64 (mo : Int) := hdep { on := 8, ground := .data } (by simp) rfl _ _ rfl rfl
            have e45 := d45
            rw [Array.getD_eq_getD_getElem?] at e45
            have HSt := Lib.hid hst
            clear hdep hag hst
            go_simp
            exact hK _ _ trivial rfl HSt.out
        case hdone =>
          intro z w5 hst hag hok
          have hq5 : EqD w4 w5 := hst
          have d46 : z.tmps.getD 46 undef = .bool (decide (kN ≤ mo)) := hok 9 _ 46 rfl rfl
          rw [HDl.out] at d46
          have HQ5 := Lib.hid hq5
          clear hst hq5
          obtain ⟨uu, hu, hzz⟩ := Go.Proofs.Ytgagkmlkoeceiaa.R.agree_frame [37, 38, 39, 40, 41, 42, 43, 44, 45, 46] rfl hag
          have e46 := (hu 46).trans d46
          subst hzz
          simp only [List.foldl_cons, List.foldl_nil]
          rw [e46]
          clear e46 d46 hu hag hok
          try dsimp only [Exit.then]
          simp only [List.setIfInBounds_toArray, List.set_cons_succ, List.set_cons_zero]
          generalize uu 37 = u37', uu 38 = u38', uu 39 = u39', uu 40 = u40', uu 41 = u41', uu 42 = u42', uu 43 = u43', uu 44 = u44', uu 45 = u45'
          clear uu
          go_wp2_with fail
          exact HEnd.out _ HQ5.out
      · obtain ⟨y0, N', hy0⟩ : ∃ y0 N', N = y0 :: N' := by
          cases N with
          | nil => simp at hk; omega
          | cons y0 N' => exact ⟨y0, N', rfl⟩
        subst hy0
        have hend : ∀ w5 w6, EqD w4 w5 → ChAt c m e M4 G4 mo N' w6 → KeepB M4 w5 w6 → P (.returned (.tuple #[.int .i64 y0.i, .bool true])) w6 := fun w5 w6 hq5 h7 h8 => by
          rw [← HP.out]
          unfold PutPost putC
          have hi9 := HI.out
          have hno9 : ¬ (i < 0 ∨ 1152921504606846976 < i) := by omega
          rw [if_neg hno9, HX.out.1, HX.out.2, if_neg (by rw [← hkk]; exact hle), ← hNE]
          exact ⟨M4, G4, rfl, ⟨m, e, N', h7, rfl, (by simp at hk ⊢; omega), HMo.out⟩, KeepB.cut ((hk4.trans (KeepB.of_below hq5.below)).trans h8) hMn, hMn, hGn⟩
        have HEnd := Lib.hid hend
        have H5 := Lib.hid h5
        have HDl : Hid (decide (kN ≤ mo) = false) := Lib.hid (decide_eq_false hle)
        clear hend hN h5 hk4 hMn hGn hNE hk hkk hk1 hk0 hle
        try dsimp only
        rename_i K hK
        refine hK _ _ ?_
        go_upto_region 7 with fail
        refine Go.Proofs.Ytgagkmlkoeceiaa.R.wp_region_due [] [0, 0, 0, 0, 0, 0, 0, 0, 0, 0] (by kernel_rfl) (fun _ _ u => EqD w4 u) (fun _ _ => True) (Put7 c m kN mo) (by rfl) (by kernel_rfl) (by kernel_rfl) (by kernel_rfl) (by kernel_rfl) ?hcong ?hOk ?hop ?hdone ?h0
        case hcong => exact fun k f f2 u hs hst => hst
        case hOk => intro i u w1 w2 h hr; unfold Put7 at h ⊢; split <;> first | exact True.intro | exact h
        case h0 => exact (EqD.refl w4).drew
        case hop =>
          refine ⟨?_, ?_, ?_, ?_, ?_, ?_, ?_, ?_, ?_, ?_, trivial⟩
          · intro k z v hk hst hag hdep
            refine .inl ⟨rfl, fun K hK => ?_⟩
            have d0 : z.tmps.getD 0 undef = .pointer (some ⟨c, 0, none⟩) := hag.2.2 0 (by kernel_rfl)
            have e0 := d0
            rw [Array.getD_eq_getD_getElem?] at e0
            have HSt := Lib.hid hst
            clear hdep hag hst
            go_simp
            exact hK _ _ trivial rfl HSt.out
          · intro k z v hk hst hag hdep
            refine .inl ⟨rfl, fun K hK => ?_⟩
            have d37 : z.tmps.getD 37 undef = .pointer (some ⟨c, 0, none⟩) := hdep { on := 0, ground := .data } (by simp) rfl _ _ rfl rfl
            have e37 := d37
            rw [Array.getD_eq_getD_getElem?] at e37
            have HSt := Lib.hid hst
            clear hdep hag hst
            go_simp
            exact hK _ _ trivial rfl HSt.out
          · intro k z v hk hst hag hdep
            refine .inl ⟨rfl, fun K hK => ?_⟩
            have d38 : z.tmps.getD 38 undef = .pointer (some ⟨c, 0, none⟩) := hdep { on := 1, ground := .data } (by simp) rfl _ _ rfl rfl
            have e38 := d38
            rw [Array.getD_eq_getD_getElem?] at e38
            have HSt := Lib.hid hst
            clear hdep hag hst
            go_simp
            exact hK _ _ trivial rfl HSt.out
          · intro k z v hk hst hag hdep
            refine .inl ⟨rfl, fun K hK => ?_⟩
            have d39 : z.tmps.getD 39 undef = .pointer (some ⟨c, 1, none⟩) := hdep { on := 2, ground := .data } (by simp) rfl _ _ rfl rfl
            have e39 := d39
            rw [Array.getD_eq_getD_getElem?] at e39
            have hq : EqD w4 v := hst
            have l0 := (hq.cell _).trans HC1.out
            clear hq
            have HSt := Lib.hid hst
            clear hdep hag hst
            go_simp
            exact hK _ _ trivial rfl HSt.out
          · intro k z v hk hst hag hdep
            refine .inl ⟨rfl, fun K hK => ?_⟩
            have d40 : z.tmps.getD 40 undef = .map (some m) := hdep { on := 3, ground := .data } (by simp) rfl _ _ rfl rfl
            have e40 := d40
            rw [Array.getD_eq_getD_getElem?] at e40
            have hq : EqD w4 v := hst
            have hrun := fun ty => (HMp4.out.of_block (hq.block m)).len ty
            rw [HK4.out] at hrun
            clear hq
            have HSt := Lib.hid hst
            clear hdep hag hst
            go_simp
            exact hK _ _ trivial rfl HSt.out
          · intro k z v hk hst hag hdep
            refine .inl ⟨rfl, fun K hK => ?_⟩
            have d0 : z.tmps.getD 0 undef = .pointer (some ⟨c, 0, none⟩) := hag.2.2 0 (by kernel_rfl)
            have e0 := d0
            rw [Array.getD_eq_getD_getElem?] at e0
            have HSt := Lib.hid hst
            clear hdep hag hst
            go_simp
            exact hK _ _ trivial rfl HSt.out
          · intro k z v hk hst hag hdep
            refine .inl ⟨rfl, fun K hK => ?_⟩
            have d42 : z.tmps.getD 42 undef = .pointer (some ⟨c, 0, none⟩) := hdep { on := 5, ground := .data } (by simp) rfl _ _ rfl rfl
            have e42 := d42
            rw [Array.getD_eq_getD_getElem?] at e42
            have HSt := Lib.hid hst
            clear hdep hag hst
            go_simp
            exact hK _ _ trivial rfl HSt.out
          · intro k z v hk hst hag hdep
            refine .inl ⟨rfl, fun K hK => ?_⟩
            have d43 : z.tmps.getD 43 undef = .pointer (some ⟨c, 0, none⟩) := hdep { on := 6, ground := .data } (by simp) rfl _ _ rfl rfl
            have e43 := d43
            rw [Array.getD_eq_getD_getElem?] at e43
            have HSt := Lib.hid hst
            clear hdep hag hst
            go_simp
            exact hK _ _ trivial rfl HSt.out
          · intro k z v hk hst hag hdep
            refine .inl ⟨rfl, fun K hK => ?_⟩
            have d44 : z.tmps.getD 44 undef = .pointer (some ⟨c, 0, none⟩) := hdep { on := 7, ground := .data } (by simp) rfl _ _ rfl rfl
            have e44 := d44
            rw [Array.getD_eq_getD_getElem?] at e44
            have hq : EqD w4 v := hst
            have l0 := (hq.cell _).trans HC0.out
            clear hq
            have HSt := Lib.hid hst
            clear hdep hag hst
            go_simp
            exact hK _ _ trivial rfl HSt.out
          · intro k z v hk hst hag hdep
            refine .inl ⟨rfl, fun K hK => ?_⟩
            have d41 : z.tmps.getD 41 undef = .int .i64 (kN : Int) := hdep { on := 4, ground := .data } (by simp) rfl _ _ rfl rfl
            have e41 := d41
            rw [Array.getD_eq_getD_getElem?] at e41
            have d45 : z.tmps.getD 45 undef = .int .i64 (mo : Int) := hdep { on := 8, ground := .data } (by simp) rfl _ _ rfl rfl
            have e45 := d45
            rw [Array.getD_eq_getD_getElem?] at e45
            have HSt := Lib.hid hst
            clear hdep hag hst
            go_simp
            exact hK _ _ trivial rfl HSt.out
        case hdone =>
          intro z w5 hst hag hok
          have hq5 : EqD w4 w5 := hst
          have d46 : z.tmps.getD 46 undef = .bool (decide (kN ≤ mo)) := hok 9 _ 46 rfl rfl
          rw [HDl.out] at d46
          have HQ5 := Lib.hid hq5
          have h55 := H5.out.below hq5.below
          have c2 := h55.c2
          have n3 : w5.cell? ⟨e, 3, none⟩ = some (.pointer (some ⟨y0.b, 0, none⟩)) := Links.first h55.lk rfl
          have HLv := Lib.hid (leave_any (ls := []) (cs := N') y0 w5 h55)
          clear hst hq5 h55
          obtain ⟨uu, hu, hzz⟩ := Go.Proofs.Ytgagkmlkoeceiaa.R.agree_frame [37, 38, 39, 40, 41, 42, 43, 44, 45, 46] rfl hag
          have e46 := (hu 46).trans d46
          subst hzz
          simp only [List.foldl_cons, List.foldl_nil]
          rw [e46]
          clear e46 d46 hu hag hok
          try dsimp only [Exit.then]
          simp only [List.setIfInBounds_toArray, List.set_cons_succ, List.set_cons_zero]
          generalize uu 37 = u37', uu 38 = u38', uu 39 = u39', uu 40 = u40', uu 41 = u41', uu 42 = u42', uu 43 = u43', uu 44 = u44', uu 45 = u45'
          clear uu
          go_wp2_with fail
          refine HLv.out.mono ?_
          rintro r w6 ⟨rfl, h7, h8, h9⟩
          have n0 := h9.1.c0
          have hend := HEnd.out _ _ HQ5.out h7 h8
          have HE2 := Lib.hid hend
          clear h7 h8 h9 hend
          try dsimp only
          rename_i K2 hK2
          refine hK2 _ _ ?_
          go_wp2
          exact HE2.out

    · obtain ⟨y, hy, he⟩ := List.mem_map.1 hm
      injection he with he1 he2
      subst he1 he2
      obtain ⟨ls, cs, rfl⟩ := List.append_of_mem hy
      have HLv := Lib.hid (leave_any y w h)
      have hdf := drop_found h.num
      have HLa : Hid ((ls ++ cs).map toE = dropC L y.i) := Lib.hid (by rw [← hdf.1, ← h2])
      have HNo : Hid (∀ z ∈ ls ++ cs, z.i ≠ y.i) := Lib.hid hdf.2
      have HFi : Hid ((ls ++ cs).length ≤ mo) := Lib.hid (by simp at hnl9 ⊢; omega)
      clear h h2 hfit hnl9 hm hy hdf
      go_enter Try.func12, Try.ntmps12
      go_wp2_with fail
      refine HLv.out.mono ?_
      rintro r w0 ⟨rfl, h5, h6, -⟩
      have HCa := Lib.hid h5
      have HKa := Lib.hid h6
      have HGw : Hid (PairsIn .i32 a n cc g w0) := Lib.hid (PairsIn.blocks2 HG.out h6.size (fun hg b o ha hb => h6.block b hb (HGa.out hg b o ha)))
      clear h5 h6
      try dsimp only
      rename_i K0 hK0
      refine hK0 _ _ ?_
      go_upto_region 6 with fail
      go_wp2_with (refine wpList_append_q gluT rfl _ _ rfl rfl w0.heap.size _ [] a n cc g rfl rfl (OwnQ.nil _ _ _ _) HGw.out hl0 hglI (Nat.le_refl _) ?_)
      intro v1 w2 hgr
      have hq1 : OwnQ .i32 43 w0.heap.size v1 g w2 := by simpa using hgr.own
      have hb1 : Below w0.heap.size w0 w2 := (Below.refl _ _).grown hgr.grown (Nat.le_refl _) (fun q hq => by cases hq)
      obtain ⟨la, lc, rfl, -⟩ := hq1.shape
      obtain ⟨G2, hA, hO, hNm, hG2⟩ := new_line HCa.out HI.out hb1 hq1
      have HJ := Lib.hid (join_any _ _ hA hO hNm HNo.out (by have := HFi.out; have := HMo.out; omega))
      have HK3 : Hid (KeepB M w (w2.alloc (.cells #[.int .i64 y.i, .slice la g.length lc, .pointer none, .pointer none] 72))) := Lib.hid (HKa.out.trans ((KeepB.of_below hb1).trans (KeepB.of_below ((Below.refl _ _).alloc (Nat.le_refl _) _))))
      have HG2 := Lib.hid hG2
      have HS2 := Lib.hid hb1.size
      clear hgr hq1 hb1 hA hO hNm hG2
      go_wp2_with fail
      refine HJ.out.mono ?_
      rintro r w4 ⟨rfl, h5, h6⟩
      obtain ⟨N, hN⟩ : ∃ N, (ls ++ cs) ++ [(⟨w2.heap.size, y.i, la, g.length, lc, g⟩ : Nd)] = N := ⟨_, rfl⟩
      rw [hN] at h5
      obtain ⟨M4, hM4⟩ : ∃ M4, M ++ [w2.heap.size] = M4 := ⟨_, rfl⟩
      obtain ⟨G4, hG4⟩ : ∃ G4, G ++ G2 = G4 := ⟨_, rfl⟩
      rw [hM4, hG4] at h5
      rw [hM4] at h6
      have hs9 : w.heap.size ≤ w2.heap.size := Nat.le_trans HKa.out.size HS2.out
      have hMn : ∀ p ∈ M4, p ∈ M ∨ w.heap.size ≤ p := fun p hp => by
        rw [← hM4] at hp
        rcases List.mem_append.1 hp with h9 | h9
        · exact .inl h9
        · have : p = w2.heap.size := by simpa using h9
          exact .inr (by omega)
      have hGn : ∀ p ∈ G4, p ∈ G ∨ w.heap.size ≤ p := fun p hp => by
        rw [← hG4] at hp
        rcases List.mem_append.1 hp with h9 | h9
        · exact .inl h9
        · exact .inr (Nat.le_trans HKa.out.size (HG2.out p h9))
      have hk4 : KeepB M4 w w4 := (HK3.out.mono (fun p hp => by rw [← hM4]; exact List.mem_append_left _ hp)).trans h6
      have hNE : N.map toE = dropC L y.i ++ [(y.i, g)] := by rw [← hN, List.map_append, HLa.out]; rfl
      obtain ⟨kN, hk⟩ : ∃ k, N.length = k := ⟨_, rfl⟩
      have hkk : kN = (dropC L y.i ++ [(y.i, g)]).length := by rw [← hk, ← hNE]; simp
      have hk1 : kN ≤ mo + 1 := by rw [← hk, ← hN]; have := HFi.out; simp at this ⊢; omega
      have hk0 : 1 ≤ kN := by rw [← hk, ← hN, List.length_append]; exact Nat.le_add_left _ _
      have HC1 := Lib.hid h5.c1
      have HC0 := Lib.hid h5.c0
      have HMp4 := Lib.hid h5.mp
      have HK4 : Hid ((entN N).length = kN) := Lib.hid (by rw [← hk]; simp [entN])
      clear hM4 hG4 h6 hs9
      by_cases hle : kN ≤ mo
      · have hend : ∀ w5, EqD w4 w5 → P (.returned (.tuple #[.int .i64 0, .bool false])) w5 := fun w5 hq5 => by
          rw [← HP.out]
          unfold PutPost putC
          have hi9 := HI.out
          have hno9 : ¬ (y.i < 0 ∨ 1152921504606846976 < y.i) := by omega
          rw [if_neg hno9, HX.out.1, HX.out.2, if_pos (by rw [← hkk]; exact hle)]
          exact ⟨M4, G4, rfl, ⟨m, e, N, h5.below hq5.below, hNE, (by rw [← hkk]; exact hle), HMo.out⟩, KeepB.cut (hk4.trans (KeepB.of_below hq5.below)) hMn, hMn, hGn⟩
        have HEnd := Lib.hid hend
        have HDl : Hid (decide (kN ≤ mo) = true) := Lib.hid (decide_eq_true hle)
        clear hend hN h5 hk4 hMn hGn hNE hk hkk hk1 hk0 hle
        try dsimp only
        rename_i K hK
        refine hK _ _ ?_
        go_upto_region 7 with fail
        refine Go.Proofs.Ytgagkmlkoeceiaa.R.wp_region_due [] [0, 0, 0, 0, 0, 0, 0, 0, 0, 0] (by kernel_rfl) (fun _ _ u => EqD w4 u) (fun _ _ => True) (Put7 c m kN mo) (by rfl) (by kernel_rfl) (by kernel_rfl) (by kernel_rfl) (by kernel_rfl) ?hcong ?hOk ?hop ?hdone ?h0
        case hcong => exact fun k f f2 u hs hst => hst
        case hOk => intro i u w1 w2 h hr; unfold Put7 at h ⊢; split <;> first | exact True.intro | exact h
        case h0 => exact (EqD.refl w4).drew
        case hop =>
          refine ⟨?_, ?_, ?_, ?_, ?_, ?_, ?_, ?_, ?_, ?_, trivial⟩
          · intro k z v hk hst hag hdep
            refine .inl ⟨rfl, fun K hK => ?_⟩
            have d0 : z.tmps.getD 0 undef = .pointer (some ⟨c, 0, none⟩) := hag.2.2 0 (by kernel_rfl)
            have e0 := d0
            rw [Array.getD_eq_getD_getElem?] at e0
            have HSt := Lib.hid hst
            clear hdep hag hst
            go_simp
            exact hK _ _ trivial rfl HSt.out
          · intro k z v hk hst hag hdep
            refine .inl ⟨rfl, fun K hK => ?_⟩
            have d37 : z.tmps.getD 37 undef = .pointer (some ⟨c, 0, none⟩) := hdep { on := 0, ground := .data } (by simp) rfl _ _ rfl rfl
            have e37 := d37
            rw [Array.getD_eq_getD_getElem?] at e37
            have HSt := Lib.hid hst
            clear hdep hag hst
            go_simp
            exact hK _ _ trivial rfl HSt.out
          · intro k z v hk hst hag hdep
            refine .inl ⟨rfl, fun K hK => ?_⟩
            have d38 : z.tmps.getD 38 undef = .pointer (some ⟨c, 0, none⟩) := hdep { on := 1, ground := .data } (by simp) rfl _ _ rfl rfl
            have e38 := d38
            rw [Array.getD_eq_getD_getElem?] at e38
            have HSt := Lib.hid hst
            clear hdep hag hst
            go_simp
            exact hK _ _ trivial rfl HSt.out
          · intro k z v hk hst hag hdep
            refine .inl ⟨rfl, fun K hK => ?_⟩
            have d39 : z.tmps.getD 39 undef = .pointer (some ⟨c, 1, none⟩) := hdep { on := 2, ground := .data } (by simp) rfl _ _ rfl rfl
            have e39 := d39
            rw [Array.getD_eq_getD_getElem?] at e39
            have hq : EqD w4 v := hst
            have l0 := (hq.cell _).trans HC1.out
            clear hq
            have HSt := Lib.hid hst
            clear hdep hag hst
            go_simp
            exact hK _ _ trivial rfl HSt.out
          · intro k z v hk hst hag hdep
            refine .inl ⟨rfl, fun K hK => ?_⟩
            have d40 : z.tmps.getD 40 undef = .map (some m) := hdep { on := 3, ground := .data } (by simp) rfl _ _ rfl rfl
            have e40 := d40
            rw [Array.getD_eq_getD_getElem?] at e40
            have hq : EqD w4 v := hst
            have hrun := fun ty => (HMp4.out.of_block (hq.block m)).len ty
            rw [HK4.out] at hrun
            clear hq
            have HSt := Lib.hid hst
            clear hdep hag hst
            go_simp
            exact hK _ _ trivial rfl HSt.out
          · intro k z v hk hst hag hdep
            refine .inl ⟨rfl, fun K hK => ?_⟩
            have d0 : z.tmps.getD 0 undef = .pointer (some ⟨c, 0, none⟩) := hag.2.2 0 (by kernel_rfl)
            have e0 := d0
            rw [Array.getD_eq_getD_getElem?] at e0
            have HSt := Lib.hid hst
            clear hdep hag hst
            go_simp
            exact hK _ _ trivial rfl HSt.out
          · intro k z v hk hst hag hdep
            refine .inl ⟨rfl, fun K hK => ?_⟩
            have d42 : z.tmps.getD 42 undef = .pointer (some ⟨c, 0, none⟩) := hdep { on := 5, ground := .data } (by simp) rfl _ _ rfl rfl
            have e42 := d42
            rw [Array.getD_eq_getD_getElem?] at e42
            have HSt := Lib.hid hst
            clear hdep hag hst
            go_simp
            exact hK _ _ trivial rfl HSt.out
          · intro k z v hk hst hag hdep
            refine .inl ⟨rfl, fun K hK => ?_⟩
            have d43 : z.tmps.getD 43 undef = .pointer (some ⟨c, 0, none⟩) := hdep { on := 6, ground := .data } (by simp) rfl _ _ rfl rfl
            have e43 := d43
            rw [Array.getD_eq_getD_getElem?] at e43
            have HSt := Lib.hid hst
            clear hdep hag hst
            go_simp
            exact hK _ _ trivial rfl HSt.out
          · intro k z v hk hst hag hdep
            refine .inl ⟨rfl, fun K hK => ?_⟩
            have d44 : z.tmps.getD 44 undef = .pointer (some ⟨c, 0, none⟩) := hdep { on := 7, ground := .data } (by simp) rfl _ _ rfl rfl
            have e44 := d44
            rw [Array.getD_eq_getD_getElem?] at e44
            have hq : EqD w4 v := hst
            have l0 := (hq.cell _).trans HC0.out
            clear hq
            have HSt := Lib.hid hst
            clear hdep hag hst
            go_simp
            exact hK _ _ trivial rfl HSt.out
          · intro k z v hk hst hag hdep
            refine .inl ⟨rfl, fun K hK => ?_⟩
            have d41 : z.tmps.getD 41 undef = .int .i64 (kN : Int) := hdep { on := 4, ground := .data } (by simp) rfl _ _ rfl rfl
            have e41 := d41
            rw [Array.getD_eq_getD_getElem?] at e41
            have d45 : z.tmps.getD 45 undef = .int .i64 (mo : Int) := hdep { on := 8, ground := .data } (by simp) rfl _ _ rfl rfl
            have e45 := d45
            rw [Array.getD_eq_getD_getElem?] at e45
            have HSt := Lib.hid hst
            clear hdep hag hst
            go_simp
            exact hK _ _ trivial rfl HSt.out
        case hdone =>
          intro z w5 hst hag hok
          have hq5 : EqD w4 w5 := hst
          have d46 : z.tmps.getD 46 undef = .bool (decide (kN ≤ mo)) := hok 9 _ 46 rfl rfl
          rw [HDl.out] at d46
          have HQ5 := Lib.hid hq5
          clear hst hq5
          obtain ⟨uu, hu, hzz⟩ := Go.Proofs.Ytgagkmlkoeceiaa.R.agree_frame [37, 38, 39, 40, 41, 42, 43, 44, 45, 46] rfl hag
          have e46 := (hu 46).trans d46
          subst hzz
          simp only [List.foldl_cons, List.foldl_nil]
          rw [e46]
          clear e46 d46 hu hag hok
          try dsimp only [Exit.then]
          simp only [List.setIfInBounds_toArray, List.set_cons_succ, List.set_cons_zero]
          generalize uu 37 = u37', uu 38 = u38', uu 39 = u39', uu 40 = u40', uu 41 = u41', uu 42 = u42', uu 43 = u43', uu 44 = u44', uu 45 = u45'
          clear uu
          go_wp2_with fail
          exact HEnd.out _ HQ5.out
      · obtain ⟨y0, N', hy0⟩ : ∃ y0 N', N = y0 :: N' := by
          cases N with
          | nil => simp at hk; omega
          | cons y0 N' => exact ⟨y0, N', rfl⟩
        subst hy0
        have hend : ∀ w5 w6, EqD w4 w5 → ChAt c m e M4 G4 mo N' w6 → KeepB M4 w5 w6 → P (.returned (.tuple #[.int .i64 y0.i, .bool true])) w6 := fun w5 w6 hq5 h7 h8 => by
          rw [← HP.out]
          unfold PutPost putC
          have hi9 := HI.out
          have hno9 : ¬ (y.i < 0 ∨ 1152921504606846976 < y.i) := by omega
          rw [if_neg hno9, HX.out.1, HX.out.2, if_neg (by rw [← hkk]; exact hle), ← hNE]
          exact ⟨M4, G4, rfl, ⟨m, e, N', h7, rfl, (by simp at hk ⊢; omega), HMo.out⟩, KeepB.cut ((hk4.trans (KeepB.of_below hq5.below)).trans h8) hMn, hMn, hGn⟩
        have HEnd := Lib.hid hend
        have H5 := Lib.hid h5
        have HDl : Hid (decide (kN ≤ mo) = false) := Lib.hid (decide_eq_false hle)
        clear hend hN h5 hk4 hMn hGn hNE hk hkk hk1 hk0 hle
        try dsimp only
        rename_i K hK
        refine hK _ _ ?_
        go_upto_region 7 with fail
        refine Go.Proofs.Ytgagkmlkoeceiaa.R.wp_region_due [] [0, 0, 0, 0, 0, 0, 0, 0, 0, 0] (by kernel_rfl) (fun _ _ u => EqD w4 u) (fun _ _ => True) (Put7 c m kN mo) (by rfl) (by kernel_rfl) (by kernel_rfl) (by kernel_rfl) (by kernel_rfl) ?hcong ?hOk ?hop ?hdone ?h0
        case hcong => exact fun k f f2 u hs hst => hst
        case hOk => intro i u w1 w2 h hr; unfold Put7 at h ⊢; split <;> first | exact True.intro | exact h
        case h0 => exact (EqD.refl w4).drew
        case hop =>
          refine ⟨?_, ?_, ?_, ?_, ?_, ?_, ?_, ?_, ?_, ?_, trivial⟩
          · intro k z v hk hst hag hdep
            refine .inl ⟨rfl, fun K hK => ?_⟩
            have d0 : z.tmps.getD 0 undef = .pointer (some ⟨c, 0, none⟩) := hag.2.2 0 (by kernel_rfl)
            have e0 := d0
            rw [Array.getD_eq_getD_getElem?] at e0
            have HSt := Lib.hid hst
            clear hdep hag hst
            go_simp
            exact hK _ _ trivial rfl HSt.out
          · intro k z v hk hst hag hdep
            refine .inl ⟨rfl, fun K hK => ?_⟩
            have d37 : z.tmps.getD 37 undef = .pointer (some ⟨c, 0, none⟩) := hdep { on := 0, ground := .data } (by simp) rfl _ _ rfl rfl
            have e37 := d37
            rw [Array.getD_eq_getD_getElem?] at e37
            have HSt := Lib.hid hst
            clear hdep hag hst
            go_simp
            exact hK _ _ trivial rfl HSt.out
          · intro k z v hk hst hag hdep
            refine .inl ⟨rfl, fun K hK => ?_⟩
            have d38 : z.tmps.getD 38 undef = .pointer (some ⟨c, 0, none⟩) := hdep { on := 1, ground := .data } (by simp) rfl _ _ rfl rfl
            have e38 := d38
            rw [Array.getD_eq_getD_getElem?] at e38
            have HSt := Lib.hid hst
            clear hdep hag hst
            go_simp
            exact hK _ _ trivial rfl HSt.out
          · intro k z v hk hst hag hdep
            refine .inl ⟨rfl, fun K hK => ?_⟩
            have d39 : z.tmps.getD 39 undef = .pointer (some ⟨c, 1, none⟩) := hdep { on := 2, ground := .data } (by simp) rfl _ _ rfl rfl
            have e39 := d39
            rw [Array.getD_eq_getD_getElem?] at e39
            have hq : EqD w4 v := hst
            have l0 := (hq.cell _).trans HC1.out
            clear hq
            have HSt := Lib.hid hst
            clear hdep hag hst
            go_simp
            exact hK _ _ trivial rfl HSt.out
          · intro k z v hk hst hag hdep
            refine .inl ⟨rfl, fun K hK => ?_⟩
            have d40 : z.tmps.getD 40 undef = .map (some m) := hdep { on := 3, ground := .data } (by simp) rfl _ _ rfl rfl
            have e40 := d40
            rw [Array.getD_eq_getD_getElem?] at e40
            have hq : EqD w4 v := hst
            have hrun := fun ty => (HMp4.out.of_block (hq.block m)).len ty
            rw [HK4.out] at hrun
            clear hq
            have HSt := Lib.hid hst
            clear hdep hag hst
            go_simp
            exact hK _ _ trivial rfl HSt.out
          · intro k z v hk hst hag hdep
            refine .inl ⟨rfl, fun K hK => ?_⟩
            have d0 : z.tmps.getD 0 undef = .pointer (some ⟨c, 0, none⟩) := hag.2.2 0 (by kernel_rfl)
            have e0 := d0
            rw [Array.getD_eq_getD_getElem?] at e0
            have HSt := Lib.hid hst
            clear hdep hag hst
            go_simp
            exact hK _ _ trivial rfl HSt.out
          · intro k z v hk hst hag hdep
            refine .inl ⟨rfl, fun K hK => ?_⟩
            have d42 : z.tmps.getD 42 undef = .pointer (some ⟨c, 0, none⟩) := hdep { on := 5, ground := .data } (by simp) rfl _ _ rfl rfl
            have e42 := d42
            rw [Array.getD_eq_getD_getElem?] at e42
            have HSt := Lib.hid hst
            clear hdep hag hst
            go_simp
            exact hK _ _ trivial rfl HSt.out
          · intro k z v hk hst hag hdep
            refine .inl ⟨rfl, fun K hK => ?_⟩
            have d43 : z.tmps.getD 43 undef = .pointer (some ⟨c, 0, none⟩) := hdep { on := 6, ground := .data } (by simp) rfl _ _ rfl rfl
            have e43 := d43
            rw [Array.getD_eq_getD_getElem?] at e43
            have HSt := Lib.hid hst
            clear hdep hag hst
            go_simp
            exact hK _ _ trivial rfl HSt.out
          · intro k z v hk hst hag hdep
            refine .inl ⟨rfl, fun K hK => ?_⟩
            have d44 : z.tmps.getD 44 undef = .pointer (some ⟨c, 0, none⟩) := hdep { on := 7, ground := .data } (by simp) rfl _ _ rfl rfl
            have e44 := d44
            rw [Array.getD_eq_getD_getElem?] at e44
            have hq : EqD w4 v := hst
            have l0 := (hq.cell _).trans HC0.out
            clear hq
            have HSt := Lib.hid hst
            clear hdep hag hst
            go_simp
            exact hK _ _ trivial rfl HSt.out
          · intro k z v hk hst hag hdep
            refine .inl ⟨rfl, fun K hK => ?_⟩
            have d41 : z.tmps.getD 41 undef = .int .i64 (kN : Int) := hdep { on := 4, ground := .data } (by simp) rfl _ _ rfl rfl
            have e41 := d41
            rw [Array.getD_eq_getD_getElem?] at e41
            have d45 : z.tmps.getD 45 undef = .int .i64 (mo : Int) := hdep { on := 8, ground := .data } (by simp) rfl _ _ rfl rfl
            have e45 := d45
            rw [Array.getD_eq_getD_getElem?] at e45
            have HSt := Lib.hid hst
            clear hdep hag hst
            go_simp
            exact hK _ _ trivial rfl HSt.out
        case hdone =>
          intro z w5 hst hag hok
          have hq5 : EqD w4 w5 := hst
          have d46 : z.tmps.getD 46 undef = .bool (decide (kN ≤ mo)) := hok 9 _ 46 rfl rfl
          rw [HDl.out] at d46
          have HQ5 := Lib.hid hq5
          have h55 := H5.out.below hq5.below
          have c2 := h55.c2
          have n3 : w5.cell? ⟨e, 3, none⟩ = some (.pointer (some ⟨y0.b, 0, none⟩)) := Links.first h55.lk rfl
          have HLv := Lib.hid (leave_any (ls := []) (cs := N') y0 w5 h55)
          clear hst hq5 h55
          obtain ⟨uu, hu, hzz⟩ := Go.Proofs.Ytgagkmlkoeceiaa.R.agree_frame [37, 38, 39, 40, 41, 42, 43, 44, 45, 46] rfl hag
          have e46 := (hu 46).trans d46
          subst hzz
          simp only [List.foldl_cons, List.foldl_nil]
          rw [e46]
          clear e46 d46 hu hag hok
          try dsimp only [Exit.then]
          simp only [List.setIfInBounds_toArray, List.set_cons_succ, List.set_cons_zero]
          generalize uu 37 = u37', uu 38 = u38', uu 39 = u39', uu 40 = u40', uu 41 = u41', uu 42 = u42', uu 43 = u43', uu 44 = u44', uu 45 = u45'
          clear uu
          go_wp2_with fail
          refine HLv.out.mono ?_
          rintro r w6 ⟨rfl, h7, h8, h9⟩
          have n0 := h9.1.c0
          have hend := HEnd.out _ _ HQ5.out h7 h8
          have HE2 := Lib.hid hend
          clear h7 h8 h9 hend
          try dsimp only
          rename_i K2 hK2
          refine hK2 _ _ ?_
          go_wp2
          exact HE2.out

end Go.Proofs.Ytgagkmlkoeceiaa.C
