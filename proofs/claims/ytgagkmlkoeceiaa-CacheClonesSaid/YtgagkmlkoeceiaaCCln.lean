/- The contract of cache.Clone. -/
import Derived.Test.YtgagkmlkoeceiaaMerged4
import Derived.Test.YtgagkmlkoeceiaaMerged11
namespace Go.Proofs.Ytgagkmlkoeceiaa.C
open Go.RowKit Go.Maps Go.Proofs.Ytgagkmlkoeceiaa.H

/-- a line for the clone, in its box -/
structure ClnB (d m9 e9 : Nat) (Md G : List Nat) (most : Nat) (nD : List Nd) (i : Int) (ga : Option Addr) (gn gc : Nat) (g : List (Int × Int)) (wr : World) (nb : Nat) (u : World) : Prop where
  ch : ChAt d m9 e9 (Md ++ [nb]) G most nD u
  own : Own1 (Md ++ [nb]) G ⟨nb, i, ga, gn, gc, g⟩ u
  new : nb ∉ e9 :: blkN nD
  bel : Below wr.heap.size wr u
  le : wr.heap.size ≤ nb
def ClnS (d m9 e9 : Nat) (Md G : List Nat) (most : Nat) (nD : List Nd) (i : Int) (ga : Option Addr) (gn gc : Nat) (g : List (Int × Int)) (wr : World) : Nat → (Nat → Value) → World → Prop
  | 0, _, u => EqD wr u
  | 1, f, u => ∃ nb, f 37 = .pointer (some ⟨nb, 0, none⟩) ∧ ClnB d m9 e9 Md G most nD i ga gn gc g wr nb u
  | _, _, u => ∃ nb, ChAt d m9 e9 (Md ++ [nb]) G most (nD ++ [⟨nb, i, ga, gn, gc, g⟩]) u ∧ ∃ v, KeepB (Md ++ [nb]) v u ∧ ClnB d m9 e9 Md G most nD i ga gn gc g wr nb v
theorem ClnS.cong {d m9 e9 : Nat} {Md G : List Nat} {most : Nat} {nD : List Nd} {i : Int} {ga : Option Addr} {gn gc : Nat} {g : List (Int × Int)} {wr : World} {k : Nat} {f f2 : Nat → Value} {u : World} (e1 : k = 1 → f 37 = f2 37) (h : ClnS d m9 e9 Md G most nD i ga gn gc g wr k f u) : ClnS d m9 e9 Md G most nD i ga gn gc g wr k f2 u := by
  match k, h, e1 with
  | 0, h, _ => exact h
  | 1, ⟨nb, e, h⟩, e1 => exact ⟨nb, by rw [← e1 rfl]; exact e, h⟩
  | _ + 2, h, _ => exact h
theorem box_line {d m9 e9 : Nat} {Md G : List Nat} {most : Nat} {nD : List Nd} {i : Int} {ga : Option Addr} {gn gc : Nat} {g : List (Int × Int)} {wr v : World} (h : ChAt d m9 e9 Md G most nD wr) (hq : EqD wr v) (hp : PairsIn .i32 ga gn gc g wr) (hn : ga = none → gc = 0) (hw : 0 ≤ i ∧ i ≤ 1152921504606846976 ∧ g.length ≤ 1000000) (hG : ∀ p o, ga = some ⟨p, o, none⟩ → p ∈ G) :
    ClnB d m9 e9 Md G most nD i ga gn gc g wr v.heap.size (v.alloc (.cells #[.int .i64 i, .slice ga gn gc, .pointer none, .pointer none] 72)) := by
  have hnew := heap_alloc_new v (.cells #[.int .i64 i, .slice ga gn gc, .pointer none, .pointer none] 72)
  have hb3 : Below v.heap.size v (v.alloc (.cells #[.int .i64 i, .slice ga gn gc, .pointer none, .pointer none] 72)) := (Below.refl _ _).alloc (Nat.le_refl _) _
  have hs3 : (v.alloc (.cells #[.int .i64 i, .slice ga gn gc, .pointer none, .pointer none] 72)).heap.size = v.heap.size + 1 := World.size_alloc _ _
  generalize v.alloc (.cells #[.int .i64 i, .slice ga gn gc, .pointer none, .pointer none] 72) = w3 at hnew hb3 hs3 ⊢
  have hsv : v.heap.size = wr.heap.size := by rw [hq.heap]
  have hb : Below wr.heap.size wr w3 := hq.below.trans (hb3.mono (by omega))
  have h3 : ChAt d m9 e9 Md G most nD w3 := h.below hb
  have hm := h3.more (M2 := [v.heap.size]) (G2 := []) (fun p hp => by
    obtain rfl : p = v.heap.size := by simpa using hp
    exact ⟨fun hg => by have := (h.apart _ hg).2; omega, by simp, by omega⟩) (fun p hp => by cases hp)
  rw [List.append_nil] at hm
  refine ⟨hm, ⟨⟨by rw [cell_block hnew]; rfl, by rw [cell_block hnew]; rfl, hp.belowAll hb, hn⟩, ⟨_, hnew, rfl⟩, by simp, hw, hG⟩, fun h9 => ?_, hb, by omega⟩
  have := h.lt _ (h.lm _ h9)
  omega
def Cln5 (d lb : Nat) (i : Int) (ga : Option Addr) (gn gc : Nat) : Nat → Value → World → Prop
  | 0, u, _ => u = .pointer (some ⟨d, 0, none⟩)
  | 1, u, _ => u = .pointer (some ⟨lb, 0, none⟩)
  | 2, u, _ => u = .pointer (some ⟨lb, 0, none⟩)
  | 3, u, _ => u = .pointer (some ⟨lb, 0, none⟩)
  | 4, u, _ => u = .int .i64 i
  | 5, u, _ => u = .pointer (some ⟨lb, 0, none⟩)
  | 6, u, _ => u = .pointer (some ⟨lb, 0, none⟩)
  | 7, u, _ => u = .pointer (some ⟨lb, 1, none⟩)
  | 8, u, _ => u = .slice ga gn gc
  | 9, u, _ => u = .agg #[.int .i64 i, .slice ga gn gc, .pointer none, .pointer none]
  | 10, _, _ => True
  | 11, _, _ => True
  | _, _, _ => True
def ClonePost (M G : List Nat) (x : Ca) (w : World) (r : Ending) (w' : World) : Prop := ∃ d Md, r = .returned (.pointer (some ⟨d, 0, none⟩)) ∧ Ch d Md G x w' ∧ Below w.heap.size w w' ∧ ∀ p ∈ Md, w.heap.size ≤ p
def ptrB : Value → Nat
  | .pointer (some a) => a.block
  | _ => 0
theorem idx_at {R : List Nat} (hn : R.Nodup) {j b : Nat} (h : R[j]? = some b) : R.idxOf b = j := by
  obtain ⟨hj, he⟩ := List.getElem?_eq_some_iff.1 h
  rw [← he]
  exact hn.idxOf_getElem j hj
theorem ring_nodup {e : Nat} {bs : List Nat} (h : (e :: bs).Nodup) : (bs ++ [e]).Nodup := by
  have hp : (bs ++ [e]).Perm (e :: bs) := List.perm_append_comm (l₁ := bs) (l₂ := [e])
  exact hp.nodup_iff.2 h
/-- the clone behind j lines -/
def ClnI (d : Nat) (G : List Nat) (most : Nat) (ns : List Nd) (j : Nat) (w wr : World) : Prop := ∃ m9 e9 Md nD, ChAt d m9 e9 Md G most nD wr ∧ nD.map (fun y => (y.i, y.g)) = (ns.take j).map (fun y => (y.i, y.g)) ∧ Below w.heap.size w wr ∧ ∀ p ∈ Md, w.heap.size ≤ p
set_option maxRecDepth 100000 in
set_option maxHeartbeats 8000000 in
theorem clone_any {c : Nat} {M G : List Nat} {x : Ca} (w : World) (h : Ch c M G x w) : Calls Try.prog 11 #[.pointer (some ⟨c, 0, none⟩)] w (ClonePost M G x w) := by
  obtain ⟨P, hP⟩ : ∃ P, ClonePost M G x w = P := ⟨_, rfl⟩
  rw [hP]
  have HP := Lib.hid hP
  obtain ⟨m, e, ns, h, h2, hfit⟩ := h
  obtain ⟨most, hmo⟩ : ∃ mo, x.most = mo := ⟨_, rfl⟩
  rw [hmo] at h hfit
  have hms : mostN (most : Int) = most := by unfold mostN; omega
  have hc0 := h.c0
  have hc2 := h.c2
  have hcl : c < w.heap.size := (Array.getElem?_eq_some_iff.1 h.cb).1
  have hNw := new_any (most : Int) (by omega) w
  have HCh := Lib.hid h
  have H2 := Lib.hid h2
  have HFt := Lib.hid hfit
  have HMo := Lib.hid hmo
  have HMs := Lib.hid hms
  have HNw := Lib.hid hNw
  have hmI : (most : Int) ≤ 65536 := by omega
  clear hP h h2 hfit hmo hms hNw
  go_enter Try.func11, Try.ntmps11
  go_wp2_with fail
  refine HNw.out.mono ?_
  rintro r w1 ⟨d, Md, rfl, hd1, hb1, hMd⟩
  rw [HMs.out] at hd1
  have HI0 : Hid (ClnI d G most ns 0 w w1) := Lib.hid (by
    obtain ⟨m9, e9, nD, h9, h10, -⟩ := hd1
    have hn0 : nD = [] := List.map_eq_nil_iff.1 h10
    subst hn0
    exact ⟨m9, e9, Md, [], ⟨h9.cb, h9.mp, h9.ln, h9.lk, h9.nd, h9.num, h9.ct, h9.wf, h9.few, (fun x hx => by cases hx), fun p hp => ⟨fun hm => by have := hMd p hm; have := (HCh.out.apart p hp).2; omega, Nat.lt_of_lt_of_le (HCh.out.apart p hp).2 hb1.size⟩, h9.cm, h9.mm, h9.lm, h9.lt⟩, rfl, hb1, hMd⟩)
  have hc2' := (hb1.cell (p := ⟨c, 2, none⟩) hcl).trans hc2
  obtain ⟨b0, hb0⟩ : ∃ b0, (blkN ns ++ [e])[0]? = some b0 := ⟨_, List.getElem?_eq_getElem (by simp)⟩
  have hn0 : w.cell? ⟨e, 3, none⟩ = some (.pointer (some ⟨b0, 0, none⟩)) := Links.nextAt _ 0 e b0 HCh.out.lk (by simp) (by simpa using hb0)
  have hn0' := (hb1.cell (p := ⟨e, 3, none⟩) (HCh.out.ln e (by simp)).lt).trans hn0
  have HB0 := Lib.hid hb0
  clear hd1 hb1 hMd hn0 hb0 HNw
  go_wp2_with fail
  clear hn0' hc2'
  have hlen : ns.length ≤ 65537 := HCh.out.few
  go_loopw [4] (fun p wr => ∃ j b, p = .pointer (some ⟨b, 0, none⟩) ∧ (blkN ns ++ [e])[j]? = some b ∧ j ≤ ns.length ∧ Hid (ClnI d G most ns j w wr)) (fun p _ => ns.length - (blkN ns ++ [e]).idxOf (ptrB p))
  case atStart => exact ⟨0, b0, rfl, HB0.out, Nat.zero_le _, HI0⟩
  case round =>
    obtain ⟨j, b, rfl, hjb, hjl, HF⟩ := hrel
    obtain ⟨m9, e9, Md, nD, hD, hmap, hbel, hMd⟩ := HF.out
    have hb2 := (hbel.cell (p := ⟨c, 2, none⟩) hcl).trans hc2
    try simp only at hb2
    have hle : IsLine e wr := (HCh.out.ln e (by simp)).of_block (hbel.block _ (HCh.out.ln e (by simp)).lt)
    have hidx := idx_at (ring_nodup HCh.out.nd) hjb
    by_cases hlt : j < ns.length
    · obtain ⟨y, hy⟩ : ∃ y, ns[j]? = some y := ⟨_, List.getElem?_eq_getElem hlt⟩
      have hyb : y.b = b := by
        have h5 := hjb
        rw [List.getElem?_append_left (by simpa [blkN] using hlt)] at h5
        unfold blkN at h5
        rw [List.getElem?_map, hy] at h5
        simpa using h5
      have hym := List.mem_of_getElem? hy
      have hym2 : y.b ∈ blkN ns := List.mem_map.2 ⟨y, hym, rfl⟩
      have hln := HCh.out.ln y.b (List.mem_cons_of_mem _ hym2)
      have hlb : IsLine b wr := by rw [← hyb]; exact hln.of_block (hbel.block _ hln.lt)
      have hne : ¬ b = e := fun e8 => (List.nodup_cons.1 HCh.out.nd).1 (by rw [← e8, ← hyb]; exact hym2)
      have qn := ptr_neq hlb hle
      rw [show (!decide (b = e)) = true by simp [hne]] at qn
      have hct := HCh.out.ct y hym
      have hwf := HCh.out.wf y hym
      have hof := HCh.out.off y hym
      have hno : ∀ y' ∈ nD, y'.i ≠ y.i := fun y' hy' e8 => by
        have h5 : (y'.i, y'.g) ∈ nD.map (fun y => (y.i, y.g)) := List.mem_map.2 ⟨y', hy', rfl⟩
        rw [hmap] at h5
        obtain ⟨z, hz, he⟩ := List.mem_map.1 h5
        have hzi : z.i = y.i := by
          have := congrArg Prod.fst he
          exact (show z.i = y'.i from this).trans e8
        have h6 := HCh.out.num
        have hsp : ns = ns.take j ++ y :: ns.drop (j + 1) := by
          obtain ⟨hj9, he9⟩ := List.getElem?_eq_some_iff.1 hy
          rw [← he9, ← List.drop_eq_getElem_cons hj9, List.take_append_drop]
        rw [hsp, List.map_append, List.map_cons] at h6
        exact (List.nodup_append.1 h6).2.2 z.i (List.mem_map.2 ⟨z, hz, rfl⟩) y.i (by simp) hzi
      have hfw : nD.length ≤ 65536 := by
        have h5 := congrArg List.length hmap
        rw [List.length_map, List.length_map, List.length_take] at h5
        omega
      obtain ⟨b', hb'⟩ : ∃ b', (blkN ns ++ [e])[j + 1]? = some b' := ⟨_, List.getElem?_eq_getElem (by simp [blkN]; omega)⟩
      have hnx : NextIs w b b' := Links.nextAt _ (j + 1) b b' HCh.out.lk (by simpa using hjb) (by simpa using hb')
      have hbl : b < w.heap.size := by rw [← hyb]; exact hln.lt
      have hsn : (ns.take (j + 1)).map (fun y => (y.i, y.g)) = nD.map (fun y => (y.i, y.g)) ++ [(y.i, y.g)] := by
        obtain ⟨hj9, he9⟩ := List.getElem?_eq_some_iff.1 hy
        rw [List.take_succ_eq_append_getElem hj9, he9, List.map_append, hmap]
        rfl
      have hk0 := (hbel.cell (p := ⟨y.b, 0, none⟩) hln.lt).trans hct.c0
      have hk1 := (hbel.cell (p := ⟨y.b, 1, none⟩) hln.lt).trans hct.c1
      have hpr := PairsIn.blocks hct.pr hbel.size (fun b8 off _ hb8 => hbel.block b8 hb8)
      have hnl := hct.nl
      rw [hyb] at hk0 hk1
      obtain ⟨yb, i, ga, gn, gc, g⟩ := y
      simp only at hk0 hk1 hpr hnl hno hsn hwf hof
      obtain ⟨lb, hlb9⟩ : ∃ lb, lb = b := ⟨_, rfl⟩
      subst hlb9
      have HK0 : Hid (wr.cell? ⟨lb, 0, none⟩ = some (.int .i64 i)) := Lib.hid hk0
      have HK1 : Hid (wr.cell? ⟨lb, 1, none⟩ = some (.slice ga gn gc)) := Lib.hid hk1
      have HBox : Hid (∀ v, EqD wr v → ClnB d m9 e9 Md G most nD i ga gn gc g wr v.heap.size (v.alloc (.cells #[.int .i64 i, .slice ga gn gc, .pointer none, .pointer none] 72))) := Lib.hid (fun v hq => box_line hD hq hpr hnl hwf hof)
      have HNo := Lib.hid hno
      have HFw := Lib.hid hfw
      have HSn := Lib.hid hsn
      have HNx := Lib.hid hnx
      have HBl := Lib.hid hbl
      have HBel := Lib.hid hbel
      have HMd := Lib.hid hMd
      have HIx : Hid ((blkN ns ++ [e]).idxOf lb = j ∧ (blkN ns ++ [e])[j + 1]? = some b' ∧ j < ns.length) := Lib.hid ⟨hidx, hb', hlt⟩
      clear hjb hjl HF hD hmap hbel hMd hle hidx hlt hy hyb hym hym2 hln hlb hne hct hwf hof hno hfw hb' hnx hbl hsn hk0 hk1 hpr hnl
      go_upto_region 5 with fail
      refine Go.Proofs.Ytgagkmlkoeceiaa.R.wp_region_due [10, 11] [1, 0, 0, 0, 0, 0, 0, 0, 0, 0, 1, 2] (by kernel_rfl) (ClnS d m9 e9 Md G most nD i ga gn gc g wr) (fun _ _ => True) (Cln5 d lb i ga gn gc) (by rfl) (by kernel_rfl) (by kernel_rfl) (by kernel_rfl) (by kernel_rfl) ?hcong ?hOk ?hop ?hdone ?h0
      case hcong => exact fun k f f2 u hs hst => ClnS.cong (fun hk => hs 37 (Go.Proofs.Ytgagkmlkoeceiaa.R.mem_slots (by subst hk; kernel_rfl))) hst
      case hOk => intro i u w1 w2 h hr; unfold Cln5 at h ⊢; split <;> first | exact True.intro | exact h
      case h0 => exact (EqD.refl wr).drew
      case hop =>
        refine ⟨?_, ?_, ?_, ?_, ?_, ?_, ?_, ?_, ?_, ?_, ?_, ?_, trivial⟩
        · intro k z v hk hst hag hdep
          refine .inl ⟨rfl, fun K hK => ?_⟩
          have d3 : z.tmps.getD 3 undef = .pointer (some ⟨d, 0, none⟩) := hag.2.2 3 (by kernel_rfl)
          have e3 := d3
          rw [Array.getD_eq_getD_getElem?] at e3
          have HSt := Lib.hid hst
          clear hdep hag hst
          go_simp
          exact hK _ _ trivial rfl HSt.out
        · intro k z v hk hst hag hdep
          refine .inl ⟨rfl, fun K hK => ?_⟩
          have d4 : z.tmps.getD 4 undef = .pointer (some ⟨lb, 0, none⟩) := hag.2.2 4 (by kernel_rfl)
          have e4 := d4
          rw [Array.getD_eq_getD_getElem?] at e4
          have HSt := Lib.hid hst
          clear hdep hag hst
          go_simp
          exact hK _ _ trivial rfl HSt.out
        · intro k z v hk hst hag hdep
          refine .inl ⟨rfl, fun K hK => ?_⟩
          have d28 : z.tmps.getD 28 undef = .pointer (some ⟨lb, 0, none⟩) := hdep { on := 1, ground := .data } (by simp) rfl _ _ rfl rfl
          have e28 := d28
          rw [Array.getD_eq_getD_getElem?] at e28
          have HSt := Lib.hid hst
          clear hdep hag hst
          go_simp
          exact hK _ _ trivial rfl HSt.out
        · intro k z v hk hst hag hdep
          refine .inl ⟨rfl, fun K hK => ?_⟩
          have d29 : z.tmps.getD 29 undef = .pointer (some ⟨lb, 0, none⟩) := hdep { on := 2, ground := .data } (by simp) rfl _ _ rfl rfl
          have e29 := d29
          rw [Array.getD_eq_getD_getElem?] at e29
          have HSt := Lib.hid hst
          clear hdep hag hst
          go_simp
          exact hK _ _ trivial rfl HSt.out
        · intro k z v hk hst hag hdep
          refine .inl ⟨rfl, fun K hK => ?_⟩
          have d30 : z.tmps.getD 30 undef = .pointer (some ⟨lb, 0, none⟩) := hdep { on := 3, ground := .data } (by simp) rfl _ _ rfl rfl
          have e30 := d30
          rw [Array.getD_eq_getD_getElem?] at e30
          obtain rfl : k = 0 := by have : k ≤ 0 := hk; omega
          have hq : EqD wr v := hst
          have l0 := (hq.cell _).trans HK0.out
          clear hq
          have HSt := Lib.hid hst
          clear hdep hag hst
          go_simp
          exact hK _ _ trivial rfl HSt.out
        · intro k z v hk hst hag hdep
          refine .inl ⟨rfl, fun K hK => ?_⟩
          have d4 : z.tmps.getD 4 undef = .pointer (some ⟨lb, 0, none⟩) := hag.2.2 4 (by kernel_rfl)
          have e4 := d4
          rw [Array.getD_eq_getD_getElem?] at e4
          have HSt := Lib.hid hst
          clear hdep hag hst
          go_simp
          exact hK _ _ trivial rfl HSt.out
        · intro k z v hk hst hag hdep
          refine .inl ⟨rfl, fun K hK => ?_⟩
          have d32 : z.tmps.getD 32 undef = .pointer (some ⟨lb, 0, none⟩) := hdep { on := 5, ground := .data } (by simp) rfl _ _ rfl rfl
          have e32 := d32
          rw [Array.getD_eq_getD_getElem?] at e32
          have HSt := Lib.hid hst
          clear hdep hag hst
          go_simp
          exact hK _ _ trivial rfl HSt.out
        · intro k z v hk hst hag hdep
          refine .inl ⟨rfl, fun K hK => ?_⟩
          have d33 : z.tmps.getD 33 undef = .pointer (some ⟨lb, 0, none⟩) := hdep { on := 6, ground := .data } (by simp) rfl _ _ rfl rfl
          have e33 := d33
          rw [Array.getD_eq_getD_getElem?] at e33
          have HSt := Lib.hid hst
          clear hdep hag hst
          go_simp
          exact hK _ _ trivial rfl HSt.out
        · intro k z v hk hst hag hdep
          refine .inl ⟨rfl, fun K hK => ?_⟩
          have d34 : z.tmps.getD 34 undef = .pointer (some ⟨lb, 1, none⟩) := hdep { on := 7, ground := .data } (by simp) rfl _ _ rfl rfl
          have e34 := d34
          rw [Array.getD_eq_getD_getElem?] at e34
          obtain rfl : k = 0 := by have : k ≤ 0 := hk; omega
          have hq : EqD wr v := hst
          have l0 := (hq.cell _).trans HK1.out
          clear hq
          have HSt := Lib.hid hst
          clear hdep hag hst
          go_simp
          exact hK _ _ trivial rfl HSt.out
        · intro k z v hk hst hag hdep
          refine .inl ⟨rfl, fun K hK => ?_⟩
          have d31 : z.tmps.getD 31 undef = .int .i64 i := hdep { on := 4, ground := .data } (by simp) rfl _ _ rfl rfl
          have e31 := d31
          rw [Array.getD_eq_getD_getElem?] at e31
          have d35 : z.tmps.getD 35 undef = .slice ga gn gc := hdep { on := 8, ground := .data } (by simp) rfl _ _ rfl rfl
          have e35 := d35
          rw [Array.getD_eq_getD_getElem?] at e35
          have HSt := Lib.hid hst
          clear hdep hag hst
          go_simp
          exact hK _ _ trivial rfl HSt.out
        · intro z v hst hag hdep
          refine ⟨rfl, fun K hK => ?_⟩
          have d36 : z.tmps.getD 36 undef = .agg #[.int .i64 i, .slice ga gn gc, .pointer none, .pointer none] := hdep { on := 9, ground := .data } (by simp) rfl _ _ rfl rfl
          have e36 := d36
          rw [Array.getD_eq_getD_getElem?] at e36
          have hq : EqD wr v := hst
          have hsz : 37 < z.tmps.size := by rw [hag.2.1]; show 37 < 40; decide
          have HQ := Lib.hid hq
          clear hdep hag hst hq
          go_simp
          exact hK _ _ trivial trivial ⟨_, Go.Proofs.Ytgagkmlkoeceiaa.R.slot_same hsz, HBox.out v HQ.out⟩
        · intro z v hst hag hdep
          refine ⟨rfl, fun K hK => ?_⟩
          have d27 : z.tmps.getD 27 undef = .pointer (some ⟨d, 0, none⟩) := hdep { on := 0, ground := .data } (by simp) rfl _ _ rfl rfl
          have e27 := d27
          rw [Array.getD_eq_getD_getElem?] at e27
          obtain ⟨nb, f37, h37⟩ := hst
          have d37 : z.tmps.getD 37 undef = .pointer (some ⟨nb, 0, none⟩) := f37
          have e37 := d37
          rw [Array.getD_eq_getD_getElem?] at e37
          have HJ := Lib.hid (join_any _ v h37.ch h37.own h37.new HNo.out HFw.out)
          have H37 := Lib.hid h37
          clear hdep hag h37 f37
          go_simp
          refine HJ.out.mono ?_
          rintro e w' ⟨rfl, h8, h9⟩
          exact hK _ _ trivial trivial ⟨_, h8, v, h9, H37.out⟩
      case hdone =>
        intro z w5 hst hag hok
        obtain ⟨nb, hch5, v5, hk5, hB5⟩ : ∃ nb : Nat, ChAt d m9 e9 (Md ++ [nb]) G most (nD ++ [(⟨nb, i, ga, gn, gc, g⟩ : Nd)]) w5 ∧ ∃ v, KeepB (Md ++ [nb]) v w5 ∧ ClnB d m9 e9 Md G most nD i ga gn gc g wr nb v := hst
        have hMd5 : ∀ p ∈ Md ++ [nb], w.heap.size ≤ p := fun p hp => by
          rcases List.mem_append.1 hp with hp | hp
          · exact HMd.out p hp
          · rw [show p = nb by simpa using hp]
            exact Nat.le_trans HBel.out.size hB5.le
        have hb5 : Below w.heap.size w w5 := by
          have h9 := HBel.out.trans (hB5.bel.mono HBel.out.size)
          exact hk5.below hMd5 h9 h9.size
        have n3 : w5.cell? ⟨lb, 3, none⟩ = some (.pointer (some ⟨b', 0, none⟩)) := (hb5.cell (p := ⟨lb, 3, none⟩) HBl.out).trans HNx.out
        have HI5 : Hid (ClnI d G most ns (j + 1) w w5) := Lib.hid ⟨m9, e9, _, _, hch5, by rw [List.map_append, HSn.out]; rfl, hb5, hMd5⟩
        clear hch5 hk5 hB5 hMd5 hb5
        obtain ⟨uu, hu, hzz⟩ := Go.Proofs.Ytgagkmlkoeceiaa.R.agree_frame [27, 28, 29, 30, 31, 32, 33, 34, 35, 36, 37, 38] rfl hag

        subst hzz
        simp only [List.foldl_cons, List.foldl_nil]
        rw []
        clear  hu hag hok
        try dsimp only [Exit.then]
        simp only [List.setIfInBounds_toArray, List.set_cons_succ, List.set_cons_zero]
        generalize uu 27 = u27', uu 28 = u28', uu 29 = u29', uu 30 = u30', uu 31 = u31', uu 32 = u32', uu 33 = u33', uu 34 = u34', uu 35 = u35', uu 36 = u36', uu 37 = u37', uu 38 = u38'
        clear uu
        go_wp2_with fail
        go_roundw
        case rel => exact ⟨j + 1, b', rfl, HIx.out.2.1, HIx.out.2.2, HI5⟩
        case measure =>
          have h9 := idx_at (ring_nodup HCh.out.nd) HIx.out.2.1
          have h10 := HIx.out.1
          show ns.length - (blkN ns ++ [e]).idxOf b' < ns.length - (blkN ns ++ [e]).idxOf lb
          have h11 := HIx.out.2.2
          omega
    · have hj : j = ns.length := by omega
      have hbe : b = e := by
        have h5 := hjb
        rw [hj, List.getElem?_append_right (by simp [blkN])] at h5
        simpa [blkN] using h5.symm
      subst hbe
      have qn := ptr_neq hle hle
      rw [show (!decide (b = b)) = false by simp] at qn
      have hend : Hid (P (.returned (.pointer (some ⟨d, 0, none⟩))) wr) := Lib.hid (by
        rw [← HP.out]
        refine ⟨d, Md, rfl, ⟨m9, e9, nD, ?_, ?_, ?_⟩, hbel, hMd⟩
        · rw [HMo.out]; exact hD
        · rw [hmap, hj, List.take_length, H2.out]
        · rw [HMo.out]; exact HFt.out)
      clear HF hlt hj hle hD hmap hbel hMd hidx hjb
      go_wp2_with fail
      exact hend.out
end Go.Proofs.Ytgagkmlkoeceiaa.C
