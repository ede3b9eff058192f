/- Cut of a set, of one span. -/
import Derived.Test.YtgagkmlkoeceiaaHAdd
import Derived.Test.YtgagkmlkoeceiaaRelP
namespace Go.Proofs.Ytgagkmlkoeceiaa.H
open Go.RowKit Go.Shelf

attribute [local go_sem] Oper.semAt_some

/-- the states of a drawn region with two loud operations -/
def DuoS (C0 : World → Prop) (C2 : Value → World → Prop) (C3 : World → Prop) (s2 : Nat) : Nat → (Nat → Value) → World → Prop
  | 0, _, u => C0 u
  | 1, f, u => C2 (f s2) u
  | _, _, u => C3 u
theorem DuoS.cong {C0 : World → Prop} {C2 : Value → World → Prop} {C3 : World → Prop} {s2 k : Nat} {f f2 : Nat → Value} {u : World} (e2 : k = 1 → f s2 = f2 s2) (h : DuoS C0 C2 C3 s2 k f u) : DuoS C0 C2 C3 s2 k f2 u := by
  match k, h, e2 with
  | 0, h, _ => exact h
  | 1, h, e2 => show C2 (f2 s2) u; rw [← e2 rfl]; exact h
  | _ + 2, h, _ => exact h
theorem DuoS.base {w6 : World} {C2 : Value → World → Prop} {C3 : World → Prop} {s2 k : Nat} {f : Nat → Value} {u : World} (hk : k = 0) (h : DuoS (fun u => Below w6.heap.size w6 u) C2 C3 s2 k f u) : Below w6.heap.size w6 u := by
  subst hk
  exact h
/-- what stands when a span is cut -/
def CutE (b : Nat) (M : List Nat) (out : List Sp) (w : World) (D : Nat) (u : World) : Prop := (∃ M', St b M' out u ∧ KeepB M w u ∧ (∀ p ∈ M', p ∈ M ∨ w.heap.size ≤ p) ∧ ∀ p ∈ M', p ≠ D) ∧ u.heap[D]? = some (.deferred (some []))
theorem CutE.post {b : Nat} {M : List Nat} {out : List Sp} {w W : World} {D : Nat} (h : CutE b M out w D W) (hD : w.heap.size ≤ D) : ChPost b M out w (.returned (.tuple #[])) (W.putObj D (.deferred none)) := by
  obtain ⟨⟨M', ⟨vl, h1⟩, h2, h3, hne⟩, h4⟩ := h
  refine ⟨rfl, M', ⟨vl, h1.moved (by simp) (fun p hp => World.putObj_heap_other (hne p hp))⟩, ?_, h3⟩
  exact h2.two (L := [D]) ⟨rfl, rfl, rfl, by simp, fun i hi hn => World.putObj_heap_other (fun e => hn (by simp [e]))⟩ (fun p hp => .inr (by rw [show p = D by simpa using hp]; exact hD))
end Go.Proofs.Ytgagkmlkoeceiaa.H

/- Same: are spans alike, pair by pair? -/
namespace Go.Proofs.Ytgagkmlkoeceiaa.H
open Go.RowKit

def SamOk (g off n c g2 off2 c2 j : Nat) (x1 x2 : Int) : Nat → Value → World → Prop
  | 0, u, _ => u = .slice (some ⟨g, off, none⟩) n c
  | 1, u, _ => u = .int .i64 (j : Int)
  | 2, u, _ => u = .pointer (some ⟨g, off + j * 2, none⟩)
  | 3, u, _ => u = .agg #[.int .i64 x1, .int .i64 x2]
  | 4, u, _ => u = .slice (some ⟨g2, off2, none⟩) n c2
  | 5, u, _ => u = .int .i64 (j : Int)
  | 6, u, _ => u = .pointer (some ⟨g2, off2 + j * 2, none⟩)
  | 7, u, _ => u = .agg #[.int .i64 x1, .int .i64 x2]
  | 8, u, _ => u = .bool false
  | _, _, _ => True
set_option maxRecDepth 100000 in
set_option maxHeartbeats 4000000 in
theorem same_any (a : Option Addr) (c : Nat) (a2 : Option Addr) (c2 n : Nat) (l : List Sp) (w : World) (h : PairsIn .i64 a n c l w) (h2 : PairsIn .i64 a2 n c2 l w) (hl : (n : Int) ≤ 1000000) :
    Calls Try.prog 24 #[.slice a n c, .slice a2 n c2] w (BPost true w) := by
  obtain ⟨P, hP⟩ : ∃ P, BPost true w = P := ⟨_, rfl⟩
  rw [hP]
  have HP := Lib.hid hP
  have H1 := Lib.hid h
  have H2 := Lib.hid h2
  have q : ((n : Int) != (n : Int)) = false := by simp
  clear hP h h2
  go_enter Try.func24, Try.ntmps24
  go_wp2_with fail
  clear q
  go_loopw [13] (fun i wr => ∃ j : Nat, i = .int .i64 (j : Int) ∧ j ≤ n ∧ Hid (Below w.heap.size w wr)) (fun i _ => n - (intOf i).toNat)
  case atStart => exact ⟨0, rfl, by omega, Lib.hid (Below.refl _ _)⟩
  case round =>
    rename_i wr
    obtain ⟨j, rfl, hj, HB⟩ := hrel
    by_cases hlt : j < n
    · have hd : decide (j < n) = true := decide_eq_true hlt
      have hjI : (j : Int) < n := by omega
      obtain ⟨x, hx⟩ : ∃ x, l[j]? = some x := ⟨_, List.getElem?_eq_getElem (by rw [← H1.out.len]; exact hlt)⟩
      obtain ⟨g, off, rfl, hgl, hat⟩ := H1.out.at_.resolve_left (by intro e; rw [e] at hx; cases hx)
      obtain ⟨g2, off2, rfl, hgl2, hat2⟩ := H2.out.at_.resolve_left (by intro e; rw [e] at hx; cases hx)
      have L0 := Lib.hid (hat j x hx)
      have M0 := Lib.hid (hat2 j x hx)
      obtain ⟨x1, x2⟩ := x
      clear hat hat2 hx
      go_upto_region 6 with fail
      refine Go.Proofs.Ytgagkmlkoeceiaa.R.wp_region_prog [] (by kernel_rfl) (fun _ _ u => Below w.heap.size w u) (fun a b => Below a.heap.size a b) (SamOk g off n c g2 off2 c2 j x1 x2) (by rfl) (by kernel_rfl) (by kernel_rfl) (by kernel_rfl) ?hcong ?hOk ?hop ?hdone ?h0
      case hcong => intro k f f2 u hs hst; exact hst
      case hOk => intro i u w1 w2 h hr; unfold SamOk at h ⊢; split at h <;> exact h
      case h0 => exact HB.out.trans (((Below.refl _ _).drew).mono HB.out.size)
      case hop =>
        refine ⟨?_, ?_, ?_, ?_, ?_, ?_, ?_, ?_, ?_, trivial⟩
        · intro k z v hst hag hdep
          refine .inl ⟨rfl, fun K hK => ?_⟩
          have d0 : z.tmps.getD 0 undef = .slice (some ⟨g, off, none⟩) n c := hag.2.2 0 (by kernel_rfl)
          have e0 := d0
          rw [Array.getD_eq_getD_getElem?] at e0
          have HSt := Lib.hid hst
          clear hdep hag hst
          go_simp
          exact hK _ _ (Below.refl _ _) rfl HSt.out
        · intro k z v hst hag hdep
          refine .inl ⟨rfl, fun K hK => ?_⟩
          have d5 : z.tmps.getD 5 undef = .int .i64 (j : Int) := hag.2.2 5 (by kernel_rfl)
          have e5 := d5
          rw [Array.getD_eq_getD_getElem?] at e5
          have HSt := Lib.hid hst
          clear hdep hag hst
          go_simp
          exact hK _ _ (Below.refl _ _) rfl HSt.out
        · intro k z v hst hag hdep
          refine .inl ⟨rfl, fun K hK => ?_⟩
          have d16 : z.tmps.getD 16 undef = .slice (some ⟨g, off, none⟩) n c := hdep { on := 0, ground := .data } (by simp) rfl _ _ rfl rfl
          have e16 := d16
          rw [Array.getD_eq_getD_getElem?] at e16
          have d17 : z.tmps.getD 17 undef = .int .i64 (j : Int) := hdep { on := 1, ground := .data } (by simp) rfl _ _ rfl rfl
          have e17 := d17
          rw [Array.getD_eq_getD_getElem?] at e17
          have HSt := Lib.hid hst
          clear hdep hag hst
          go_simp
          exact hK _ _ (Below.refl _ _) rfl HSt.out
        · intro k z v hst hag hdep
          refine .inl ⟨rfl, fun K hK => ?_⟩
          have d18 : z.tmps.getD 18 undef = .pointer (some ⟨g, off + j * 2, none⟩) := hdep { on := 2, ground := .data } (by simp) rfl _ _ rfl rfl
          have e18 := d18
          rw [Array.getD_eq_getD_getElem?] at e18
          have hst : Below w.heap.size w v := hst
          have l0 := (hst.cell hgl).trans L0.out.1
          have l1 := (hst.cell hgl).trans L0.out.2
          have HSt := Lib.hid hst
          clear hdep hag hst
          go_simp
          exact hK _ _ (Below.refl _ _) rfl HSt.out
        · intro k z v hst hag hdep
          refine .inl ⟨rfl, fun K hK => ?_⟩
          have d1 : z.tmps.getD 1 undef = .slice (some ⟨g2, off2, none⟩) n c2 := hag.2.2 1 (by kernel_rfl)
          have e1 := d1
          rw [Array.getD_eq_getD_getElem?] at e1
          have HSt := Lib.hid hst
          clear hdep hag hst
          go_simp
          exact hK _ _ (Below.refl _ _) rfl HSt.out
        · intro k z v hst hag hdep
          refine .inl ⟨rfl, fun K hK => ?_⟩
          have d5 : z.tmps.getD 5 undef = .int .i64 (j : Int) := hag.2.2 5 (by kernel_rfl)
          have e5 := d5
          rw [Array.getD_eq_getD_getElem?] at e5
          have HSt := Lib.hid hst
          clear hdep hag hst
          go_simp
          exact hK _ _ (Below.refl _ _) rfl HSt.out
        · intro k z v hst hag hdep
          refine .inl ⟨rfl, fun K hK => ?_⟩
          have d20 : z.tmps.getD 20 undef = .slice (some ⟨g2, off2, none⟩) n c2 := hdep { on := 4, ground := .data } (by simp) rfl _ _ rfl rfl
          have e20 := d20
          rw [Array.getD_eq_getD_getElem?] at e20
          have d21 : z.tmps.getD 21 undef = .int .i64 (j : Int) := hdep { on := 5, ground := .data } (by simp) rfl _ _ rfl rfl
          have e21 := d21
          rw [Array.getD_eq_getD_getElem?] at e21
          have HSt := Lib.hid hst
          clear hdep hag hst
          go_simp
          exact hK _ _ (Below.refl _ _) rfl HSt.out
        · intro k z v hst hag hdep
          refine .inl ⟨rfl, fun K hK => ?_⟩
          have d22 : z.tmps.getD 22 undef = .pointer (some ⟨g2, off2 + j * 2, none⟩) := hdep { on := 6, ground := .data } (by simp) rfl _ _ rfl rfl
          have e22 := d22
          rw [Array.getD_eq_getD_getElem?] at e22
          have hst : Below w.heap.size w v := hst
          have l0 := (hst.cell hgl2).trans M0.out.1
          have l1 := (hst.cell hgl2).trans M0.out.2
          have HSt := Lib.hid hst
          clear hdep hag hst
          go_simp
          exact hK _ _ (Below.refl _ _) rfl HSt.out
        · intro k z v hst hag hdep
          refine .inl ⟨rfl, fun K hK => ?_⟩
          have d19 : z.tmps.getD 19 undef = .agg #[.int .i64 x1, .int .i64 x2] := hdep { on := 3, ground := .data } (by simp) rfl _ _ rfl rfl
          have e19 := d19
          rw [Array.getD_eq_getD_getElem?] at e19
          have d23 : z.tmps.getD 23 undef = .agg #[.int .i64 x1, .int .i64 x2] := hdep { on := 7, ground := .data } (by simp) rfl _ _ rfl rfl
          have e23 := d23
          rw [Array.getD_eq_getD_getElem?] at e23
          have HSt := Lib.hid hst
          clear hdep hag hst
          go_simp
          exact hK _ _ (Below.refl _ _) rfl HSt.out
      case hdone =>
        intro z v hst hag hok
        have hst : Below w.heap.size w v := hst
        have d24 : z.tmps.getD 24 undef = .bool false := hok 8 _ 24 rfl rfl
        have HI := Lib.hid hst
        clear hst HB
        obtain ⟨uu, hu, hzz⟩ := Go.Proofs.Ytgagkmlkoeceiaa.R.agree_frame [16, 17, 18, 19, 20, 21, 22, 23, 24] rfl hag
        have e24 := (hu 24).trans d24
        subst hzz
        simp only [List.foldl_cons, List.foldl_nil]
        rw [e24]
        clear e24 d24 hu hag hok
        try dsimp only [Exit.then]
        simp only [List.setIfInBounds_toArray, List.set_cons_succ, List.set_cons_zero]
        generalize uu 16 = u16', uu 17 = u17', uu 18 = u18', uu 19 = u19', uu 20 = u20', uu 21 = u21', uu 22 = u22', uu 23 = u23'
        clear uu
        rename_i K hK
        refine hK _ _ ?_
        go_wp2_with fail
        go_roundw
        case rel => exact ⟨j + 1, by go_num, by omega, HI⟩
        case measure => simp [intOf]; omega
    · have hd : decide (j < n) = false := decide_eq_false hlt
      have hend : Hid (P (.returned (.bool true)) wr) := Lib.hid (by rw [← HP.out]; exact ⟨rfl, HB.out⟩)
      clear HB
      go_wp2_with fail
      exact hend.out
end Go.Proofs.Ytgagkmlkoeceiaa.H
