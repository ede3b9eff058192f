/- GridRegions: rows outside a region stay as they are; what goes up and down again is there again: the walk. -/
import Derived.Test.YtkggmcnocpgnbaaDoorMerged22
namespace Go.Proofs.YtkggmcnocpgnbaaDoor.K
open Go.RowKit

def RgOk (g ab ao na ca j : Nat) (xj : Gd) (A : ActG) (a : Option Addr) (n c : Nat) : Nat → Value → World → Prop
  | 0, u, _ => u = .pointer (some ⟨g, 0, none⟩)
  | 1, u, _ => u = .agg #[.int .i64 (xj.W : Int), .slice a n c]
  | 2, u, _ => u = .slice (some ⟨ab, ao, none⟩) na ca
  | 3, u, _ => u = .int .i64 (j : Int)
  | 4, u, _ => u = .pointer (some ⟨ab, ao + j * 13, none⟩)
  | 5, u, _ => u = .agg (actC A)
  | 6, _, _ => True
  | 7, u, w => ∃ a, u = .tuple #[a, .bool true]
  | 8, _, _ => True
  | 9, u, _ => u = .bool true
  | 10, _, _ => True
  | _, _, _ => True
def RgOk11 (rb : Nat) (A0 : ActG) : Nat → Value → World → Prop
  | 0, u, _ => u = .pointer (some ⟨rb, 2, none⟩)
  | 1, u, _ => u = .int .i64 A0.top
  | 2, u, _ => u = .int .i64 (bits .and .i64 A0.top 7)
  | 3, u, _ => u = .pointer (some ⟨rb, 3, none⟩)
  | 4, u, _ => u = .int .i64 A0.bottom
  | 5, u, _ => u = .int .i64 (bits .and .i64 A0.bottom 7)
  | 6, u, _ => u = .int .i64 (bits .and .i64 A0.top 7)
  | 7, u, _ => u = .int .i64 (bits .and .i64 A0.bottom 7)
  | _, _, _ => True
def Rg28S (v0 : World) (rs : List Ro) : Nat → (Nat → Value) → World → Prop
  | 0, _, u => Below v0.heap.size v0 u
  | 1, f, u => Below v0.heap.size v0 u ∧ ∃ a n c, f 164 = .slice a n c ∧ RowsL .i32 [] a n c rs u
  | _, _, u => Below v0.heap.size v0 u
theorem Rg28S.b {v0 : World} {rs : List Ro} {k : Nat} {f : Nat → Value} {u : World} (h : Rg28S v0 rs k f u) : Below v0.heap.size v0 u := by
  match k, h with
  | 0, h => exact h
  | 1, h => exact h.1
  | _ + 2, h => exact h
theorem Rg28S.cong {v0 : World} {rs : List Ro} {k : Nat} {f f2 : Nat → Value} {u : World} (e1 : k = 1 → f 164 = f2 164) (h : Rg28S v0 rs k f u) : Rg28S v0 rs k f2 u := by
  match k, h, e1 with
  | 0, h, _ => exact h
  | 1, ⟨hb, a, n, c, e, h⟩, e1 => exact ⟨hb, a, n, c, by rw [← e1 rfl]; exact e, h⟩
  | _ + 2, h, _ => exact h
theorem rowsOf_any {g q : Nat} {x : Gd} {w : World} (h : Gr g q x w) : Calls Tryd.prog 38 #[.pointer (some ⟨g, 0, none⟩)] w (RowsA [] x.rs w) := by
  obtain ⟨us, cap, hga⟩ := h
  exact rows_any w hga (fun p hp => by cases hp)

def RgOk28 (g px bx ox c : Nat) : Nat → Value → World → Prop
  | 0, u, _ => u = .pointer (some ⟨g, 0, none⟩)
  | 1, _, _ => True
  | 2, u, _ => u = .pointer (some ⟨px, 1, none⟩)
  | 3, u, _ => u = .slice (some ⟨bx, ox, none⟩) 6 c
  | 4, u, _ => u = .bool true
  | 5, u, _ => u = .bool true
  | _, _, _ => True
set_option maxRecDepth 100000 in
set_option maxHeartbeats 16000000 in
theorem regions_walk (aa : Option Addr) (na ca : Nat) (la : List ActG) (A0 : ActG) (w : World) (hT : W.Tab w) (hA : GActsIn aa na ca la w) (hR0 : RngA A0.row) :
    Calls Tryd.prog 9 #[.slice aa na ca, .agg (actC A0)] w fun e w' => e = .returned (.bool true) ∧ Below w.heap.size w w' := by
  obtain ⟨rb, hrb⟩ : ∃ rb, w.heap.size = rb := ⟨_, rfl⟩
  rw [hrb]
  obtain ⟨P, hP⟩ : ∃ P : Ending → World → Prop, (fun e w' => e = .returned (.bool true) ∧ Below rb w w') = P := ⟨_, rfl⟩
  rw [hP]
  have HP := Lib.hid hP
  have HRb := Lib.hid hrb
  have HT0 := Lib.hid hT
  have HA0 := Lib.hid hA
  have HLn := Lib.hid hA.len
  have hfit : (na : Int) ≤ ca := by have := hA.fit; omega
  have htop := hA.top
  obtain ⟨wb, hwb⟩ : ∃ wb, w.alloc (.cells (actC A0) 77) = wb := ⟨_, rfl⟩
  have hbb : Below w.heap.size w wb := by rw [← hwb]; exact (Below.refl _ _).alloc (Nat.le_refl _) _
  have hab : ActB rb A0 wb := by rw [← hwb, ← hrb]; exact World.alloc_heap_new w _
  have HWb := Lib.hid hwb
  have HAb := Lib.hid hab
  have HBb : Hid (Below rb w wb) := Lib.hid (by rw [← hrb]; exact hbb)
  have HAw := Lib.hid (gawake_any wb (hT.belowAll hbb))
  clear hwb hab hbb
  clear hP hrb hT hA hR0
  go_enter Tryd.func9, Tryd.ntmps9
  go_upto_region 1 with fail
  try rw [HWb.out]
  try rw [HRb.out]
  go_upto_region 3 with (go_at_call 34; refine HAw.out.mono ?_; rintro e w1 ⟨rfl, hb1⟩)
  have HB1 : Hid (Below rb w w1) := Lib.hid (HBb.out.trans (hb1.mono (Nat.le_of_lt HAb.out.lt)))
  have HA1 : Hid (ActB rb A0 w1) := Lib.hid (HAb.out.kept (hb1.block rb HAb.out.lt))
  clear hb1 HAw HWb
  have HN := Lib.hid (gnew_any 4 6 w1)
  go_wp2_with fail
  refine HN.out.mono ?_
  rintro e w2 ⟨g, q, rfl, hg, hq, hG, hb2⟩
  have hs1 : rb ≤ w1.heap.size := Nat.le_of_lt HA1.out.lt
  have HGq : Hid (rb ≤ g ∧ rb ≤ q) := Lib.hid (by omega)
  have HG := Lib.hid hG
  have HA2 : Hid (ActB rb A0 w2) := Lib.hid (HA1.out.kept (hb2.block rb HA1.out.lt))
  have HB2 : Hid (Below rb w w2) := Lib.hid (HB1.out.trans (hb2.mono hs1))
  have HS2 : Hid (rb ≤ w2.heap.size) := Lib.hid (by have := hb2.size; omega)
  clear hg hq hG hb2 hs1 HN
  have HN := Lib.hid (refNew_any (L := [g, q]) 4 6 w2 (fun p hp => by
    have h2 : p = g ∨ p = q := by simpa using hp
    have := HG.out.lt
    omega))
  obtain ⟨x0, hx0⟩ : ∃ x0, newG 4 6 = x0 := ⟨_, rfl⟩
  rw [hx0] at HN HG
  have HX0 := Lib.hid hx0
  clear hx0
  go_wp2_with fail
  refine HN.out.mono ?_
  rintro e w3 ⟨v3, rfl, hR3, hb3⟩
  obtain ⟨a3, n3, c3, rfl, hl3⟩ := hR3
  unfold refV
  obtain ⟨px, hpx⟩ : ∃ p, w3.heap.size = p := ⟨_, rfl⟩
  obtain ⟨w4, hw4⟩ : ∃ w4, w3.alloc (.cells #[.int .i64 (x0.W : Int), .slice a3 n3 c3] 82) = w4 := ⟨_, rfl⟩
  have hS := SynQ.init (m := rb) (oa := some (rb, A0)) (w0 := w) (L := [g, q]) HGq.out.1 HGq.out.2 (fun p hp => by
    have h2 : p = g ∨ p = q := by simpa using hp
    have := HG.out.lt
    have := hb3.size
    omega) (HG.out.below hb3) ⟨a3, n3, c3, rfl, hl3⟩ (by simp) (by simp) (HB2.out.trans (hb3.mono HS2.out)) (Nat.le_trans HS2.out hb3.size) (fun p A' e => by cases e; exact HA2.out.kept (hb3.block rb HA2.out.lt))
  rw [hpx, hw4] at hS
  have HS := Lib.hid hS
  have HPx := Lib.hid hpx
  have HW4 := Lib.hid hw4
  clear hS hl3 hb3 hpx hw4 HG HN
  go_upto_region 4 with fail
  rw [HPx.out, HW4.out]
  go_wp2_with fail
  go_loopw [7] (fun i wr => ∃ j : Nat, i = .int .i64 (j : Int) ∧ j ≤ na ∧ Hid (∃ x a n c, x.rs.length = 6 ∧ SynQ rb g px (some (rb, A0)) x (refV x.W a n c) x.W (.slice a n c) w wr)) (fun i _ => na - (intOf i).toNat)
  case atStart => exact ⟨0, rfl, by omega, Lib.hid ⟨x0, a3, n3, c3, (by rw [← HX0.out]; rfl), HS.out⟩⟩
  case round =>
    obtain ⟨j, rfl, hj, HF⟩ := hrel
    clear HS
    obtain ⟨xj, a, n, c, hI, hS⟩ := HF.out
    have HI := Lib.hid hI
    clear hI
    have HB : Hid (Below rb w wr ∧ rb ≤ wr.heap.size) := Lib.hid ⟨hS.b, hS.m⟩
    by_cases hlt : j < na ∧ j < 12
    · have d1 : decide (j < na) = true := decide_eq_true hlt.1
      have d2 : decide ((j : Int) < 12) = true := decide_eq_true (by omega)
      have hjn : (j : Int) < na := by omega
      have hjl : j < la.length := by rw [← HLn.out]; exact hlt.1
      obtain ⟨ab, ao, rfl, hab, hAt⟩ := HA0.out.at_.resolve_left (by intro e; rw [e] at hjl; simp at hjl)
      have hat := hAt j la[j] (List.getElem?_eq_getElem hjl)
      have hrg := HA0.out.ok la[j] (List.getElem_mem hjl)
      obtain ⟨A, hAj⟩ : ∃ A, la[j] = A := ⟨_, rfl⟩
      rw [hAj] at hat hrg
      have HAl : Hid (ab < rb) := Lib.hid (by rw [← HRb.out]; exact hab)
      have hK := (hat.block (hS.b.block ab HAl.out)).c0
      obtain ⟨KD, hKD⟩ : ∃ k, A.kind = k := ⟨_, rfl⟩
      rw [hKD] at hK
      have HKD := Lib.hid hKD
      have HAt := Lib.hid hat
      have HRg := Lib.hid hrg
      clear hlt hAt hat hrg hAj hab hKD hjl
      by_cases h0 : 0 ≤ KD
      · have d3 : decide (0 ≤ KD) = true := decide_eq_true h0
        have d3' : decide (KD ≥ 0) = true := decide_eq_true h0
        by_cases h3 : KD < 3
        · have d4 : decide (KD < 3) = true := decide_eq_true h3
          obtain ⟨y, hy⟩ : ∃ y, stepG xj A = y := ⟨_, rfl⟩
          have HIy : Hid (y.rs.length = 6) := Lib.hid (by rw [← hy, stepG_len hS.ok (by rw [HKD.out]; exact h0) (by rw [HKD.out]; exact h3)]; exact HI.out)
          have HS := Lib.hid hS
          have HY := Lib.hid hy
          have hc0 := hS.xb.c0
          have hc1 := hS.xb.c1
          clear hy hS HF h0 h3
          go_upto_region 10 with fail
          clear d3 d3' d4 hK
          refine Go.Proofs.YtkggmcnocpgnbaaDoor.R.wp_region_prog [1, 6, 7, 8, 10] (by kernel_rfl) (StG rb g px (some (rb, A0)) xj y a n c w 51 44 52) (fun _ _ => True) (RgOk g ab ao na ca j xj A a n c) (by rfl) (by kernel_rfl) (by kernel_rfl) (by kernel_rfl) ?hcong ?hOk ?hop ?hdone ?h0
          case hcong => exact fun k f f2 u hs hst => StG.cong (fun hk => hs 51 (Go.Proofs.YtkggmcnocpgnbaaDoor.R.mem_slots (by subst hk; kernel_rfl))) (fun hk => hs 44 (Go.Proofs.YtkggmcnocpgnbaaDoor.R.mem_slots (by subst hk; kernel_rfl))) (fun hk => hs 52 (Go.Proofs.YtkggmcnocpgnbaaDoor.R.mem_slots (by subst hk; kernel_rfl))) hst
          case hOk => intro i u w1 w2 h hr; unfold RgOk at h ⊢; split <;> first | exact True.intro | exact h
          case h0 => exact SynQ.below HS.out ((Below.refl _ _).drew)
          case hop =>
            refine ⟨?_, ?_, ?_, ?_, ?_, ?_, ?_, ?_, ?_, ?_, ?_, trivial⟩
            · intro k z v hst hag hdep
              refine .inl ⟨rfl, fun K hK => ?_⟩
              have d5 : z.tmps.getD 5 undef = .pointer (some ⟨g, 0, none⟩) := hag.2.2 5 (by kernel_rfl)
              have e5 := d5
              rw [Array.getD_eq_getD_getElem?] at e5
              have HSt := Lib.hid hst
              clear hdep hag hst
              go_simp
              exact hK _ _ trivial rfl HSt.out
            · intro z v hst hag hdep
              refine ⟨rfl, fun K hK => ?_⟩
              have d6 : z.tmps.getD 6 undef = .pointer (some ⟨px, 0, none⟩) := hag.2.2 6 (by kernel_rfl)
              have e6 := d6
              rw [Array.getD_eq_getD_getElem?] at e6
              have l0 := (SynQ.xb hst).c0
              have l1 := (SynQ.xb hst).c1
              have HSt := Lib.hid hst
              clear hdep hag hst
              go_simp
              exact hK _ _ trivial rfl HSt.out
            · intro k z v hst hag hdep
              refine .inl ⟨rfl, fun K hK => ?_⟩
              have d0 : z.tmps.getD 0 undef = .slice (some ⟨ab, ao, none⟩) na ca := hag.2.2 0 (by kernel_rfl)
              have e0 := d0
              rw [Array.getD_eq_getD_getElem?] at e0
              have HSt := Lib.hid hst
              clear hdep hag hst
              go_simp
              exact hK _ _ trivial rfl HSt.out
            · intro k z v hst hag hdep
              refine .inl ⟨rfl, fun K hK => ?_⟩
              have d7 : z.tmps.getD 7 undef = .int .i64 (j : Int) := hag.2.2 7 (by kernel_rfl)
              have e7 := d7
              rw [Array.getD_eq_getD_getElem?] at e7
              have HSt := Lib.hid hst
              clear hdep hag hst
              go_simp
              exact hK _ _ trivial rfl HSt.out
            · intro k z v hst hag hdep
              refine .inl ⟨rfl, fun K hK => ?_⟩
              have d47 : z.tmps.getD 47 undef = .slice (some ⟨ab, ao, none⟩) na ca := hdep { on := 2, ground := .data } (by simp) rfl _ _ rfl rfl
              have e47 := d47
              rw [Array.getD_eq_getD_getElem?] at e47
              have d48 : z.tmps.getD 48 undef = .int .i64 (j : Int) := hdep { on := 3, ground := .data } (by simp) rfl _ _ rfl rfl
              have e48 := d48
              rw [Array.getD_eq_getD_getElem?] at e48
              have HSt := Lib.hid hst
              clear hdep hag hst
              go_simp
              exact hK _ _ trivial rfl HSt.out
            · intro k z v hst hag hdep
              refine .inl ⟨rfl, fun K hK => ?_⟩
              have d49 : z.tmps.getD 49 undef = .pointer (some ⟨ab, ao + j * 13, none⟩) := hdep { on := 4, ground := .data } (by simp) rfl _ _ rfl rfl
              have e49 := d49
              rw [Array.getD_eq_getD_getElem?] at e49
              have hA := HAt.out.block (hst.xb.1.block ab HAl.out)
              have l0 := hA.c0
              have l1 := hA.c1
              have l2 := hA.c2
              have l3 := hA.c3
              have l4 := hA.c4
              have l5 := hA.c5
              have l6 := hA.c6
              have l7 := hA.c7
              have l8 := hA.c8
              have l9 := hA.c9
              have l10 := hA.c10
              have l11 := hA.c11
              have l12 := hA.c12
              have HSt := Lib.hid hst
              clear hdep hag hst
              go_simp
              exact hK _ _ trivial rfl HSt.out
            · intro z v hst hag hdep
              refine ⟨rfl, fun K hK => ?_⟩
              have d45 : z.tmps.getD 45 undef = .pointer (some ⟨g, 0, none⟩) := hdep { on := 0, ground := .data } (by simp) rfl _ _ rfl rfl
              have e45 := d45
              rw [Array.getD_eq_getD_getElem?] at e45
              have d46 : z.tmps.getD 46 undef = .agg #[.int .i64 (xj.W : Int), .slice a n c] := hdep { on := 1, ground := .data } (by simp) rfl _ _ rfl rfl
              have e46 := d46
              rw [Array.getD_eq_getD_getElem?] at e46
              have d50 : z.tmps.getD 50 undef = .agg (actC A) := hdep { on := 5, ground := .data } (by simp) rfl _ _ rfl rfl
              have e50 := d50
              rw [Array.getD_eq_getD_getElem?] at e50
              have HC := Lib.hid (SynQ.call (A := A) hst (HT0.out.belowAll (by rw [HRb.out]; exact (SynQ.b hst))) HRg.out)
              rw [HY.out] at HC
              unfold refV actC at HC
              have hsz : 51 < z.tmps.size := by rw [hag.2.1]; show 51 < 168; decide
              clear hdep hag hst
              try unfold actC at e50
              go_simp
              refine HC.out.mono ?_
              rintro e w' ⟨v', rfl, hS⟩
              exact hK _ _ trivial True.intro ⟨v', Go.Proofs.YtkggmcnocpgnbaaDoor.R.slot_same hsz, hS⟩
            · intro z v hst hag hdep
              refine ⟨rfl, fun K hK => ?_⟩
              obtain ⟨v', f, hS⟩ := hst
              have d51 : z.tmps.getD 51 undef = .tuple #[v', .bool true] := f
              have e51 := d51
              rw [Array.getD_eq_getD_getElem?] at e51
              have hsz : 44 < z.tmps.size := by rw [hag.2.1]; show 44 < 168; decide
              clear hdep hag f
              go_simp
              exact hK _ _ trivial ⟨v', rfl⟩ ⟨v', Go.Proofs.YtkggmcnocpgnbaaDoor.R.slot_same hsz, hS⟩
            · intro z v hst hag hdep
              refine ⟨rfl, fun K hK => ?_⟩
              have d44' : RgOk g ab ao na ca j xj A a n c 7 (z.tmps.getD 44 undef) v := hdep { on := 7, ground := .data } (by simp) rfl _ _ rfl rfl
              simp only [RgOk] at d44'
              obtain ⟨t_, d44⟩ := d44'
              have e44 := d44
              rw [Array.getD_eq_getD_getElem?] at e44
              clear e44 d44
              obtain ⟨v', f, hS⟩ := hst
              have d44 : z.tmps.getD 44 undef = .tuple #[v', .bool true] := f
              have e44 := d44
              rw [Array.getD_eq_getD_getElem?] at e44
              have hsz : 52 < z.tmps.size := by rw [hag.2.1]; show 52 < 168; decide
              clear hdep hag f
              go_simp
              refine hK _ _ trivial True.intro ?_
              show SynQ _ _ _ _ _ (Go.Proofs.YtkggmcnocpgnbaaDoor.R.slot _ _) _ _ _ _
              rw [Go.Proofs.YtkggmcnocpgnbaaDoor.R.slot_same hsz]
              exact hS
            · intro k z v hst hag hdep
              refine .inl ⟨rfl, fun K hK => ?_⟩
              have d44' : RgOk g ab ao na ca j xj A a n c 7 (z.tmps.getD 44 undef) v := hdep { on := 7, ground := .data } (by simp) rfl _ _ rfl rfl
              simp only [RgOk] at d44'
              obtain ⟨t_, d44⟩ := d44'
              have e44 := d44
              rw [Array.getD_eq_getD_getElem?] at e44
              have HSt := Lib.hid hst
              clear hdep hag hst
              go_simp
              exact hK _ _ trivial rfl HSt.out
            · intro z v hst hag hdep
              refine ⟨rfl, fun K hK => ?_⟩
              have d6 : z.tmps.getD 6 undef = .pointer (some ⟨px, 0, none⟩) := hag.2.2 6 (by kernel_rfl)
              have e6 := d6
              rw [Array.getD_eq_getD_getElem?] at e6
              have hS : SynQ rb g px (some (rb, A0)) y (Go.Proofs.YtkggmcnocpgnbaaDoor.R.slot z 52) xj.W (.slice a n c) w v := hst
              obtain ⟨a2, n2, c2, he⟩ := hS.shape
              rw [he] at hS
              have d52 : z.tmps.getD 52 undef = refV y.W a2 n2 c2 := he
              have e52 := d52
              rw [Array.getD_eq_getD_getElem?] at e52
              unfold refV at e52 d52
              have l0 := hS.xb.c0
              have l1 := hS.xb.c1
              have f0 := hS.xb.fr 0
              have f1 := hS.xb.fr 1
              have HS2 := Lib.hid hS.store
              clear hdep hag hst hS he
              go_simp
              exact hK undef _ trivial True.intro ⟨a2, n2, c2, HS2.out⟩
          case hdone =>
            intro z v hst hag hok
            obtain ⟨a2, n2, c2, hS⟩ := hst
            have HS2 := Lib.hid hS
            clear hS HS hc0 hc1
            obtain ⟨uu, hu, hzz⟩ := Go.Proofs.YtkggmcnocpgnbaaDoor.R.agree_frame [45, 46, 47, 48, 49, 50, 51, 44, 52, 53] rfl hag

            subst hzz
            simp only [List.foldl_cons, List.foldl_nil]
            rw []
            clear  hu hag hok
            try dsimp only [Exit.then]
            simp only [List.setIfInBounds_toArray, List.set_cons_succ, List.set_cons_zero]
            generalize uu 45 = u45', uu 46 = u46', uu 47 = u47', uu 48 = u48', uu 49 = u49', uu 50 = u50', uu 51 = u51', uu 44 = u44', uu 52 = u52', uu 53 = u53'
            clear uu
            have HE : Hid (∃ x a n c, x.rs.length = 6 ∧ SynQ rb g px (some (rb, A0)) x (refV x.W a n c) x.W (.slice a n c) w v) := Lib.hid ⟨y, a2, n2, c2, HIy.out, HS2.out⟩
            rename_i K hK
            refine hK _ _ ?_
            go_wp2_with fail
            go_roundw
            case rel => exact ⟨j + 1, by go_num, by omega, HE⟩
            case measure => simp [intOf]; omega
        · have d4 : decide (KD < 3) = false := decide_eq_false h3
          have HE : Hid (∃ x a n c, x.rs.length = 6 ∧ SynQ rb g px (some (rb, A0)) x (refV x.W a n c) x.W (.slice a n c) w wr) := HF
          clear HF hS h0 h3
          go_wp2_with fail
          go_roundw
          case rel => exact ⟨j + 1, by go_num, by omega, HE⟩
          case measure => simp [intOf]; omega
      · have d3 : decide (0 ≤ KD) = false := decide_eq_false h0
        have d3' : decide (KD ≥ 0) = false := decide_eq_false h0
        have d4 : decide (KD < 3) = true := decide_eq_true (by omega)
        have HE : Hid (∃ x a n c, x.rs.length = 6 ∧ SynQ rb g px (some (rb, A0)) x (refV x.W a n c) x.W (.slice a n c) w wr) := HF
        clear HF hS h0
        go_wp2_with fail
        go_roundw
        case rel => exact ⟨j + 1, by go_num, by omega, HE⟩
        case measure => simp [intOf]; omega
    · have hway : (decide (j < na) = true ∧ decide ((j : Int) < 12) = false) ∨ decide (j < na) = false := by
        by_cases hj2 : j < na
        · exact .inl ⟨decide_eq_true hj2, decide_eq_false (by omega)⟩
        · exact .inr (decide_eq_false hj2)
      have HS := Lib.hid hS
      clear hlt HF hS
      rcases hway with ⟨d1, d2⟩ | d1
      all_goals
        obtain ⟨tt, htt, htl⟩ := and_small A0.top 7 (by decide)
        obtain ⟨bb, hbb, hbl⟩ := and_small A0.bottom 7 (by decide)
        have HTt : Hid (bits .and .i64 A0.top 7 = (tt : Int)) := Lib.hid htt
        have HBt : Hid (bits .and .i64 A0.bottom 7 = (bb : Int)) := Lib.hid hbb
        clear htt hbb
        go_upto_region 11 with fail
        refine Go.Proofs.YtkggmcnocpgnbaaDoor.R.wp_region_prog [] (by kernel_rfl) (fun _ _ u => SynQ rb g px (some (rb, A0)) xj (refV xj.W a n c) xj.W (.slice a n c) w u) (fun a b => Below a.heap.size a b) (RgOk11 rb A0) (by rfl) (by kernel_rfl) (by kernel_rfl) (by kernel_rfl) ?hcong ?hOk ?hop ?hdone ?h0
        case hcong => intro k f f2 u hs hst; exact hst
        case hOk => intro i u w1 w2 h hr; unfold RgOk11 at h ⊢; split at h <;> exact h
        case h0 => exact HS.out.below ((Below.refl _ _).drew)
        case hop =>
          refine ⟨?_, ?_, ?_, ?_, ?_, ?_, ?_, ?_, trivial⟩
          · intro k z v hst hag hdep
            refine .inl ⟨rfl, fun K hK => ?_⟩
            have d3 : z.tmps.getD 3 undef = .pointer (some ⟨rb, 0, none⟩) := hag.2.2 3 (by kernel_rfl)
            have e3 := d3
            rw [Array.getD_eq_getD_getElem?] at e3
            have HSt := Lib.hid hst
            clear hdep hag hst
            go_simp
            exact hK _ _ (Below.refl _ _) rfl HSt.out
          · intro k z v hst hag hdep
            refine .inl ⟨rfl, fun K hK => ?_⟩
            have d54 : z.tmps.getD 54 undef = .pointer (some ⟨rb, 2, none⟩) := hdep { on := 0, ground := .data } (by simp) rfl _ _ rfl rfl
            have e54 := d54
            rw [Array.getD_eq_getD_getElem?] at e54
            have hst : SynQ rb g px (some (rb, A0)) xj (refV xj.W a n c) xj.W (.slice a n c) w v := hst
            have l0 := (hst.oa rb A0 rfl).c2
            have HSt := Lib.hid hst
            clear hdep hag hst
            go_simp
            exact hK _ _ (Below.refl _ _) rfl HSt.out
          · intro k z v hst hag hdep
            refine .inl ⟨rfl, fun K hK => ?_⟩
            have d55 : z.tmps.getD 55 undef = .int .i64 A0.top := hdep { on := 1, ground := .data } (by simp) rfl _ _ rfl rfl
            have e55 := d55
            rw [Array.getD_eq_getD_getElem?] at e55
            have HSt := Lib.hid hst
            clear hdep hag hst
            go_simp
            exact hK _ _ (Below.refl _ _) rfl HSt.out
          · intro k z v hst hag hdep
            refine .inl ⟨rfl, fun K hK => ?_⟩
            have d3 : z.tmps.getD 3 undef = .pointer (some ⟨rb, 0, none⟩) := hag.2.2 3 (by kernel_rfl)
            have e3 := d3
            rw [Array.getD_eq_getD_getElem?] at e3
            have HSt := Lib.hid hst
            clear hdep hag hst
            go_simp
            exact hK _ _ (Below.refl _ _) rfl HSt.out
          · intro k z v hst hag hdep
            refine .inl ⟨rfl, fun K hK => ?_⟩
            have d57 : z.tmps.getD 57 undef = .pointer (some ⟨rb, 3, none⟩) := hdep { on := 3, ground := .data } (by simp) rfl _ _ rfl rfl
            have e57 := d57
            rw [Array.getD_eq_getD_getElem?] at e57
            have hst : SynQ rb g px (some (rb, A0)) xj (refV xj.W a n c) xj.W (.slice a n c) w v := hst
            have l0 := (hst.oa rb A0 rfl).c3
            have HSt := Lib.hid hst
            clear hdep hag hst
            go_simp
            exact hK _ _ (Below.refl _ _) rfl HSt.out
          · intro k z v hst hag hdep
            refine .inl ⟨rfl, fun K hK => ?_⟩
            have d58 : z.tmps.getD 58 undef = .int .i64 A0.bottom := hdep { on := 4, ground := .data } (by simp) rfl _ _ rfl rfl
            have e58 := d58
            rw [Array.getD_eq_getD_getElem?] at e58
            have HSt := Lib.hid hst
            clear hdep hag hst
            go_simp
            exact hK _ _ (Below.refl _ _) rfl HSt.out
          · intro k z v hst hag hdep
            refine .inl ⟨rfl, fun K hK => ?_⟩
            have d56 : z.tmps.getD 56 undef = .int .i64 (bits .and .i64 A0.top 7) := hdep { on := 2, ground := .data } (by simp) rfl _ _ rfl rfl
            have e56 := d56
            rw [Array.getD_eq_getD_getElem?] at e56
            have HSt := Lib.hid hst
            clear hdep hag hst
            go_simp
            exact hK _ _ (Below.refl _ _) rfl HSt.out
          · intro k z v hst hag hdep
            refine .inl ⟨rfl, fun K hK => ?_⟩
            have d59 : z.tmps.getD 59 undef = .int .i64 (bits .and .i64 A0.bottom 7) := hdep { on := 5, ground := .data } (by simp) rfl _ _ rfl rfl
            have e59 := d59
            rw [Array.getD_eq_getD_getElem?] at e59
            have HSt := Lib.hid hst
            clear hdep hag hst
            go_simp
            exact hK _ _ (Below.refl _ _) rfl HSt.out
        case hdone =>
          intro z v hst hag hok
          have hst : SynQ rb g px (some (rb, A0)) xj (refV xj.W a n c) xj.W (.slice a n c) w v := hst
          have d8 : z.tmps.getD 8 undef = .int .i64 (bits .and .i64 A0.top 7) := hok 6 _ 8 rfl rfl
          have d9 : z.tmps.getD 9 undef = .int .i64 (bits .and .i64 A0.bottom 7) := hok 7 _ 9 rfl rfl
          have HS2 := Lib.hid hst
          clear hst HS
          obtain ⟨uu, hu, hzz⟩ := Go.Proofs.YtkggmcnocpgnbaaDoor.R.agree_frame [54, 55, 56, 57, 58, 59, 8, 9] rfl hag
          have e8 := (hu 8).trans d8
          have e9 := (hu 9).trans d9
          subst hzz
          simp only [List.foldl_cons, List.foldl_nil]
          rw [e8, e9]
          clear e8 d8 e9 d9 hu hag hok
          try dsimp only [Exit.then]
          simp only [List.setIfInBounds_toArray, List.set_cons_succ, List.set_cons_zero]
          generalize uu 54 = u54', uu 55 = u55', uu 56 = u56', uu 57 = u57', uu 58 = u58', uu 59 = u59'
          clear uu
          rw [HTt.out, HBt.out]
          rename_i K hK
          refine hK _ _ ?_
          obtain ⟨q, L, hqm, hL, hgL, hqL, hpL, hgr, href⟩ := HS2.out.ex
          obtain ⟨ar, nr, cr, hre, hrl⟩ := href
          have hre' : #[Value.int .i64 (xj.W : Int), .slice a n c] = #[Value.int .i64 (xj.W : Int), .slice ar nr cr] := by unfold refV at hre; injection hre
          simp only [Array.mk.injEq, List.cons.injEq, Value.slice.injEq, and_true, true_and] at hre'
          obtain ⟨rfl, rfl, rfl⟩ := hre'
          clear hre
          have h6 : n = 6 := by rw [hrl.len]; exact HI.out
          subst h6
          have hmem : ∀ i, i ∈ [g, q] → i = g ∨ i = q := fun i hi => by simpa using hi
          have HM := Lib.hid hmem
          have HQm : Hid (rb ≤ g ∧ rb ≤ q) := Lib.hid ⟨HS2.out.g, hqm⟩
          have HBv : Hid (Below rb w v ∧ rb ≤ v.heap.size) := Lib.hid ⟨HS2.out.b, HS2.out.m⟩
          have HAc : Hid (ActB rb A0 v) := Lib.hid (HS2.out.oa rb A0 rfl)
          have HPx : Hid (GrB px xj.W (.slice a 6 c) v) := Lib.hid HS2.out.xb
          have HLg : Hid (∀ p ∈ [g, q], p ∈ L) := Lib.hid (fun p hp => by rcases hmem p hp with rfl | rfl <;> assumption)
          have HRl := Lib.hid hrl
          have HXo := Lib.hid hgr.ok
          have HGr := Lib.hid hgr
          have HC : Hid (Calls Tryd.prog 38 #[.pointer (some ⟨g, 0, none⟩)] v (RowsA [g, q] xj.rs v)) := Lib.hid (by
            have hlt := hgr.lt
            obtain ⟨us, cap, hga⟩ := hgr
            exact rows_any v hga (fun p hp => by have := hmem p hp; omega))
          clear HS2 hqm hL hgL hqL hpL hgr hrl hmem
          go_wp2_with fail
          refine HC.out.mono ?_
          rintro e w5 ⟨a5, n5, c5, us5, rfl, hR5, -, -, hb5⟩
          have h56 : n5 = 6 := by rw [hR5.len]; exact HI.out
          subst h56
          have HR5 := Lib.hid hR5
          have HB5 := Lib.hid hb5
          have ha5 := HAc.out.kept (hb5.block rb HAc.out.lt)
          have hg5 := HGr.out.below hb5
          have k5 := ha5.c5
          have HA5 := Lib.hid ha5
          have HG5 := Lib.hid hg5
          have HU := Lib.hid (gup_any (L := [g, q]) (tt : Int) (bb : Int) 1 A0.style w5 hg5 (fun p hp => by have := HM.out p hp; have := hg5.lt; omega))
          clear hR5 hb5 ha5 hg5 HC
          go_wp2_with fail
          refine HU.out.mono ?_
          rintro e w6 ⟨a6, n6, c6, rfl, hR6, hG6, hk6⟩
          have HR6 := Lib.hid hR6
          have HG6 := Lib.hid hG6
          have HK6 := Lib.hid hk6
          have HC : Hid (Calls Tryd.prog 38 #[.pointer (some ⟨g, 0, none⟩)] w6 (RowsA [g, q] (upG xj tt bb 1 A0.style).1.rs w6)) := Lib.hid (by
            have hlt := hG6.lt
            obtain ⟨us, cap, hga⟩ := hG6
            exact rows_any w6 hga (fun p hp => by have := HM.out p hp; omega))
          clear hR6 hG6 hk6 HU k5
          go_wp2_with fail
          refine HC.out.mono ?_
          rintro e w7 ⟨a7, n7, c7, us7, rfl, hR7, -, -, hb7⟩
          have h76 : n7 = 6 := by rw [hR7.len, upG_len HXo.out]; exact HI.out
          subst h76
          have HR7 := Lib.hid hR7
          have HB7 := Lib.hid hb7
          clear hR7 hb7 HC
          obtain ⟨t5, ht5⟩ : ∃ t, min tt 5 = t := ⟨_, rfl⟩
          obtain ⟨b5, hb5⟩ : ∃ t, min bb 5 = t := ⟨_, rfl⟩
          have et : min (tt : Int) 5 = (t5 : Int) := by omega
          have eb : min (bb : Int) 5 = (b5 : Int) := by omega
          have HT5 := Lib.hid ht5
          have HB5' := Lib.hid hb5
          clear ht5 hb5
          have h0x := HG5.out.ne (p := px) (HPx.out.belowAll HB5.out) (by decide) (by decide)
          have HPx7 : Hid (GrB px xj.W (.slice a 6 c) w7) := Lib.hid ((((HPx.out.belowAll HB5.out).kept (HK6.out.block px (HPx.out.belowAll HB5.out).lt (fun e => by
            rcases HM.out px e with h | h
            · exact h0x.1 h
            · exact h0x.2 h)))).belowAll HB7.out)
          have HL7 : Hid (RowsL .i64 L a 6 c xj.rs w7) := Lib.hid (((HRl.out.below HB5.out).keptB2 HK6.out HLg.out).below HB7.out)
          have HB7' : Hid (Below rb w w7 ∧ rb ≤ w7.heap.size) := Lib.hid (by
            have b5 : Below rb w w5 := HBv.out.1.trans (HB5.out.mono HBv.out.2)
            have s5 := Nat.le_trans HBv.out.2 HB5.out.size
            have b6 : Below rb w w6 := HK6.out.below (fun i hi => by rcases HM.out i hi with rfl | rfl; exact HQm.out.1; exact HQm.out.2) b5 s5
            have s6 := Nat.le_trans s5 HK6.out.size
            exact ⟨b6.trans (HB7.out.mono s6), Nat.le_trans s6 HB7.out.size⟩)
          have e6 : upG xj tt bb 1 A0.style = upG xj t5 b5 1 A0.style := by rw [upG_clip HI.out, HT5.out, HB5'.out]
          rw [e6] at HR6 HG6 HR7
          have k1 := HPx7.out.c1
          clear h0x e6 HPx HRl
          by_cases hbt : b5 < t5
          · have dbt : decide (b5 < t5) = true := decide_eq_true hbt
            have hup := upG_none HI.out hbt (by have := HT5.out; omega) A0.style
            have e60 : n6 = 0 := by rw [HR6.out.len, hup]; rfl
            subst e60
            have h7 : RowsL .i32 [g, q] a7 6 c7 xj.rs w7 := by have := HR7.out; rw [hup] at this; exact this
            have hlr := lawRows_any w7 h7 HL7.out HXo.out.rng (fun r hr => by rw [HXo.out.len r hr]; exact HXo.out.w2) (fun r hr => by rw [HXo.out.len r hr]; exact HXo.out.w2) (by decide) (by decide)
            rw [decide_eq_true rfl] at hlr
            have HLr := Lib.hid hlr
            clear hbt hup h7 hlr
            go_wp2_with fail
            refine HLr.out.mono ?_
            rintro e w8 ⟨rfl, hb8⟩
            have hend : Hid (P (.returned (.bool true)) w8) := Lib.hid (by rw [← HP.out]; exact ⟨rfl, HB7'.out.1.trans (hb8.mono HB7'.out.2)⟩)
            go_wp2_with fail
            exact hend.out
          · have dbt : decide (b5 < t5) = false := decide_eq_false hbt
            have htb : t5 ≤ b5 := by omega
            have hb5 : b5 < xj.rs.length := by rw [HI.out]; have := HB5'.out; omega
            have hgo := gone_one htb hb5 A0.style
            have ht5 : t5 < xj.rs.length := Nat.lt_of_le_of_lt htb hb5
            have e61 : n6 = 1 := by rw [HR6.out.len, hgo]; rfl
            subst e61
            obtain ⟨r0, hr0⟩ : ∃ r, xj.rs[t5] = r := ⟨_, rfl⟩
            rw [hr0] at hgo
            obtain ⟨usg, ig, vg, hogs⟩ := HR6.out.ex
            obtain ⟨usx, ix, vx, -⟩ := HL7.out.ex
            rw [hgo] at vg
            have hg1 : 0 < usg.length := by rw [vg.1]; simp
            obtain ⟨bg, og, rfl, hbg, hAg⟩ := ig.at_.resolve_left (by intro e; rw [e] at hg1; simp at hg1)
            have hx1 : t5 < usx.length := by rw [vx.1]; exact ht5
            obtain ⟨bx, ox, rfl, hbx, hAx⟩ := ix.at_.resolve_left (by intro e; rw [e] at hx1; simp at hx1)
            have hatg := hAg 0 usg[0] (List.getElem?_eq_getElem hg1)
            have hatx := hAx t5 usx[t5] (List.getElem?_eq_getElem hx1)
            have hrg := vg.2 0 usg[0] r0 (List.getElem?_eq_getElem hg1) rfl
            have hrx := vx.2 t5 usx[t5] r0 (List.getElem?_eq_getElem hx1) (by rw [List.getElem?_eq_getElem ht5, hr0])
            have hm0 : r0 ∈ xj.rs := by rw [← hr0]; exact List.getElem_mem ht5
            obtain ⟨⟨xg, yg, zg, gg⟩, hxg⟩ : ∃ u, usg[0] = u := ⟨_, rfl⟩
            obtain ⟨⟨xx, yx, zx, gx⟩, hxx⟩ : ∃ u, usx[t5] = u := ⟨_, rfl⟩
            have hog0 := hogs usg[0] (List.getElem_mem hg1)
            rw [hxg] at hatg hrg hog0
            have HOg := Lib.hid hog0
            rw [hxx] at hatx hrx
            have HRg := Lib.hid hrg
            have hrg7 := hrg.belowAll HB7.out
            rw [show og + 0 * 2 = og by omega] at hatg
            have p0 : w7.cell? ⟨bg, og, none⟩ = some (.slice xg yg zg) := (HB7.out.cell (p := ⟨bg, og, none⟩) hbg).trans hatg.1
            have p1 : w7.cell? ⟨bg, og + 1, none⟩ = some (.bool gg) := (HB7.out.cell (p := ⟨bg, og + 1, none⟩) hbg).trans hatg.2
            have p2 : w7.cell? ⟨bx, ox + t5 * 2, none⟩ = some (.slice xx yx zx) := hatx.1
            have p3 : w7.cell? ⟨bx, ox + t5 * 2 + 1, none⟩ = some (.bool gx) := hatx.2
            unfold Rv.val at hrg7 hrx
            simp only at hrg7 hrx
            have hrn : r0.l.length ≤ 1000 := by rw [HXo.out.len r0 hm0]; exact HXo.out.w2
            have hra := HXo.out.rng r0 hm0
            have cS : ∀ d os, Calls Tryd.prog 41 #[.agg #[.slice xg yg zg, .bool gg], .agg #[.slice xx yx zx, .bool gx]] (Go.Sort.grow (redrawn w7 d) os) fun en w'' => en = .returned (.bool true) ∧ ∃ p : Regrown, w'' = Go.Sort.grow (redrawn w7 p.d) p.os := fun d os => by
              have hb := below_regrown w7 d os
              have h := isRow_any (hrg7.belowAll hb) (hrx.belowAll hb) hra hrn hrn
              rw [decide_eq_true rfl] at h
              exact Calls.regrown_of h
            have z0 := fun d os => cell_regrown p0 d os
            have z1' := fun d os => cell_regrown p1 d os
            have z2' := fun d os => cell_regrown p2 d os
            have z3 := fun d os => cell_regrown p3 d os
            have z4 := fun d os => cell_regrown k1 d os
            have CS := Lib.hid cS
            have htI : (t5 : Int) < 6 := by have := HT5.out; omega
            have HRn : Hid (r0.l.length ≤ 1000 ∧ AllC Rng r0.l) := Lib.hid ⟨hrn, hra⟩
            have HTb : Hid (t5 ≤ b5 ∧ b5 < 6) := Lib.hid ⟨htb, by rw [HI.out] at hb5; exact hb5⟩
            have HR0 := Lib.hid (List.getElem?_eq_getElem ht5 ▸ congrArg some hr0 : xj.rs[t5]? = some r0)
            have HIg := Lib.hid hatg
            have HBg := Lib.hid hbg
            clear hogs hog0 hbt htb hb5 hgo hr0 ix vx hg1 hbx hAg hAx hatg hatx hrg hrx hm0 hrg7 hrn hra cS hx1 ht5 ig vg hxg hxx hbg p0 p1 p2 p3
            go_upto_region 18 with fail
            refine wp_region_quiet_below (by kernel_rfl) (by kernel_rfl) ?_
            repeat (go_big_quiet_step (first | exact CS.out _ _))
            refine wpQuiet_nil ?_
            intro _ hw'
            obtain ⟨⟨dq, osq⟩, hw''⟩ := hw'
            have hb8 : Below w7.heap.size w7 (Go.Sort.grow (redrawn w7 dq) osq) := below_regrown _ _ _
            rw [hw'']
            simp only
            obtain ⟨w8, hw8⟩ : ∃ w8, Go.Sort.grow (redrawn w7 dq) osq = w8 := ⟨_, rfl⟩
            rw [hw8] at hb8 ⊢
            have HB8 : Hid (Below w6.heap.size w6 w8) := Lib.hid (HB7.out.trans (hb8.mono HB7.out.size))
            have HRw : Hid (Below rb w w8 ∧ rb ≤ w8.heap.size) := Lib.hid ⟨HB7'.out.1.trans (hb8.mono HB7'.out.2), Nat.le_trans HB7'.out.2 hb8.size⟩
            have HR7w := HR7.out.below hb8
            have HR5w := ((HR5.out.keptB HK6.out).below HB7.out).below hb8
            have HX8 : Hid (GrB px xj.W (.slice (some ⟨bx, ox, none⟩) 6 c) w8) := Lib.hid (HPx7.out.belowAll hb8)
            have HL8 : Hid (RowsL .i64 L (some ⟨bx, ox, none⟩) 6 c xj.rs w8) := Lib.hid (HL7.out.below hb8)
            obtain ⟨us7', i7, v7, -⟩ := HR7w.ex
            obtain ⟨us5', i5, v5, -⟩ := HR5w.ex
            have hlu : (upG xj t5 b5 1 A0.style).1.rs.length = 6 := by rw [upG_len HXo.out]; exact HI.out
            have h7l : us7'.length = 6 := by rw [v7.1]; exact hlu
            have h5l : us5'.length = 6 := by rw [v5.1]; exact HI.out
            obtain ⟨p7, o7, rfl, hp7, hA7⟩ := i7.at_.resolve_left (by intro e; rw [e] at h7l; simp at h7l)
            obtain ⟨p5, o5, rfl, hp5, hA5⟩ := i5.at_.resolve_left (by intro e; rw [e] at h5l; simp at h5l)
            have HV7 := Lib.hid v7
            have HV5 := Lib.hid v5
            have HA7 := Lib.hid hA7
            have HA5' := Lib.hid hA5
            have H75 : Hid (us7'.length = 6 ∧ us5'.length = 6 ∧ p7 < w8.heap.size ∧ p5 < w8.heap.size ∧ (upG xj t5 b5 1 A0.style).1.rs.length = 6) := Lib.hid ⟨h7l, h5l, hp7, hp5, hlu⟩
            -- two rows that are alike
            have same : ∀ (wr : World) (k k2 : Nat), Below w8.heap.size w8 wr → k < 6 → k2 < 6 → (upG xj t5 b5 1 A0.style).1.rs[k]? = xj.rs[k2]? → ∃ x1 y1 z1 g1 x2 y2 z2 g2, wr.cell? ⟨p7, o7 + k * 2, none⟩ = some (.slice x1 y1 z1) ∧ wr.cell? ⟨p7, o7 + k * 2 + 1, none⟩ = some (.bool g1) ∧ wr.cell? ⟨p5, o5 + k2 * 2, none⟩ = some (.slice x2 y2 z2) ∧ wr.cell? ⟨p5, o5 + k2 * 2 + 1, none⟩ = some (.bool g2) ∧
                ∀ d os, Calls Tryd.prog 42 #[.agg #[.slice x1 y1 z1, .bool g1], .agg #[.slice x2 y2 z2, .bool g2]] (Go.Sort.grow (redrawn wr d) os) fun en w'' => en = .returned (.bool true) ∧ ∃ p : Regrown, w'' = Go.Sort.grow (redrawn wr p.d) p.os := by
              intro wr k k2 hbw hk hk2 he
              have hk7 : k < us7'.length := by have := H75.out; omega
              have hk5 : k2 < us5'.length := by have := H75.out; omega
              have hx2 : k2 < xj.rs.length := by rw [HI.out]; exact hk2
              rw [List.getElem?_eq_getElem hx2] at he
              have hat1 := HA7.out k us7'[k] (List.getElem?_eq_getElem hk7)
              have hat2 := HA5'.out k2 us5'[k2] (List.getElem?_eq_getElem hk5)
              have hr1 := (HV7.out.2 k us7'[k] xj.rs[k2] (List.getElem?_eq_getElem hk7) he).belowAll hbw
              have hr2 := (HV5.out.2 k2 us5'[k2] xj.rs[k2] (List.getElem?_eq_getElem hk5) (List.getElem?_eq_getElem hx2)).belowAll hbw
              refine ⟨_, _, _, _, _, _, _, _, (hbw.cell (p := ⟨p7, o7 + k * 2, none⟩) H75.out.2.2.1).trans hat1.1, (hbw.cell (p := ⟨p7, o7 + k * 2 + 1, none⟩) H75.out.2.2.1).trans hat1.2, (hbw.cell (p := ⟨p5, o5 + k2 * 2, none⟩) H75.out.2.2.2.1).trans hat2.1, (hbw.cell (p := ⟨p5, o5 + k2 * 2 + 1, none⟩) H75.out.2.2.2.1).trans hat2.2, fun d os => ?_⟩
              have hb := below_regrown wr d os
              exact Calls.regrown_of (rowSame_self (hr1.belowAll hb) (hr2.belowAll hb) (by rw [HXo.out.len _ (List.getElem_mem hx2)]; exact HXo.out.w2))
            have HSame := Lib.hid same
            clear hw'' hw8 z0 z1' z2' z3 z4 CS hb8 HR7w HR5w i7 i5 v7 v5 hlu h7l h5l hp7 hp5 hA7 hA5 same k1
            go_wp2_with fail
            go_loopw [106] (fun i wr => ∃ k : Nat, i = .int .i64 (k : Int) ∧ k ≤ 6 ∧ Hid (Below w8.heap.size w8 wr)) (fun i _ => 6 - (intOf i).toNat)
            case atStart => exact ⟨0, rfl, by omega, Lib.hid (Below.refl _ _)⟩
            case round =>
              obtain ⟨k, rfl, hk, HF⟩ := hrel
              by_cases hlt : k < 6
              · have hd : decide ((k : Int) < 6) = true := decide_eq_true (by omega)
                have hkI : (k : Int) < 6 := by omega
                have hway : (decide (k < t5) = true ∧ decide (k ≥ t5) = false ∧ decide (t5 ≤ k) = false ∧ (upG xj t5 b5 1 A0.style).1.rs[k]? = xj.rs[k]?) ∨
                    (decide (k < t5) = false ∧ decide (k > b5) = true ∧ decide (b5 < k) = true ∧ decide (k ≥ t5) = true ∧ decide (t5 ≤ k) = true ∧ decide (k < b5) = false ∧ (upG xj t5 b5 1 A0.style).1.rs[k]? = xj.rs[k]?) ∨
                    (decide (k < t5) = false ∧ decide (k > b5) = false ∧ decide (b5 < k) = false ∧ decide (k ≥ t5) = true ∧ decide (t5 ≤ k) = true ∧ decide (k < b5) = true ∧ (upG xj t5 b5 1 A0.style).1.rs[k]? = xj.rs[k + 1]? ∧ k + 1 < 6) ∨
                    (decide (k < t5) = false ∧ decide (k > b5) = false ∧ decide (b5 < k) = false ∧ decide (k ≥ t5) = true ∧ decide (t5 ≤ k) = true ∧ decide (k < b5) = false) := by
                  have htb := HTb.out
                  have hb6 : b5 < xj.rs.length := by rw [HI.out]; exact htb.2
                  by_cases q1 : k < t5
                  · exact .inl ⟨decide_eq_true q1, decide_eq_false (by omega), decide_eq_false (by omega), up_low htb.1 hb6 _ q1⟩
                  · by_cases q2 : b5 < k
                    · exact .inr (.inl ⟨decide_eq_false q1, decide_eq_true q2, decide_eq_true q2, decide_eq_true (by omega), decide_eq_true (by omega), decide_eq_false (by omega), up_high htb.1 hb6 _ q2⟩)
                    · by_cases q3 : k < b5
                      · exact .inr (.inr (.inl ⟨decide_eq_false q1, decide_eq_false q2, decide_eq_false q2, decide_eq_true (by omega), decide_eq_true (by omega), decide_eq_true q3, up_mid htb.1 hb6 _ (by omega) q3, by omega⟩))
                      · exact .inr (.inr (.inr ⟨decide_eq_false q1, decide_eq_false q2, decide_eq_false q2, decide_eq_true (by omega), decide_eq_true (by omega), decide_eq_false q3⟩))
                rcases hway with ⟨q1, q4, q4', he⟩ | ⟨q1, q2, q2', q4, q4', q5, he⟩ | ⟨q1, q2, q2', q4, q4', q5, he, hk6⟩ | ⟨q1, q2, q2', q4, q4', q5⟩
                · obtain ⟨x1, y1, z1, g1, x2, y2, z2, g2, c0, c1, c2, c3, cS⟩ := HSame.out _ _ _ HF.out hlt hlt he
                  have z0 := fun d os => cell_regrown c0 d os
                  have z1' := fun d os => cell_regrown c1 d os
                  have z2' := fun d os => cell_regrown c2 d os
                  have z3 := fun d os => cell_regrown c3 d os
                  have CS := Lib.hid cS
                  clear he c0 c1 c2 c3 cS
                  go_upto_region 23 with fail
                  refine wp_region_quiet_below (by kernel_rfl) (by kernel_rfl) ?_
                  repeat (go_big_quiet_step (first | exact CS.out _ _))
                  refine wpQuiet_nil ?_
                  intro _ hw'
                  obtain ⟨⟨dq, osq⟩, hw''⟩ := hw'
                  have HF3 : Hid (Below w8.heap.size w8 (Go.Sort.grow (redrawn wr dq) osq)) := Lib.hid (HF.out.trans ((below_regrown _ _ _).mono HF.out.size))
                  rw [hw'']
                  simp only
                  obtain ⟨w9, hw9⟩ : ∃ w9, Go.Sort.grow (redrawn wr dq) osq = w9 := ⟨_, rfl⟩
                  rw [hw9] at HF3 ⊢
                  clear hw'' hw9 z0 z1' z2' z3 CS
                  go_wp2
                  go_roundw
                  case rel => exact ⟨k + 1, by go_num, by omega, HF3⟩
                  case measure => simp [intOf]; omega
                · obtain ⟨x1, y1, z1, g1, x2, y2, z2, g2, c0, c1, c2, c3, cS⟩ := HSame.out _ _ _ HF.out hlt hlt he
                  have z0 := fun d os => cell_regrown c0 d os
                  have z1' := fun d os => cell_regrown c1 d os
                  have z2' := fun d os => cell_regrown c2 d os
                  have z3 := fun d os => cell_regrown c3 d os
                  have CS := Lib.hid cS
                  clear he c0 c1 c2 c3 cS
                  go_upto_region 23 with fail
                  refine wp_region_quiet_below (by kernel_rfl) (by kernel_rfl) ?_
                  repeat (go_big_quiet_step (first | exact CS.out _ _))
                  refine wpQuiet_nil ?_
                  intro _ hw'
                  obtain ⟨⟨dq, osq⟩, hw''⟩ := hw'
                  have HF3 : Hid (Below w8.heap.size w8 (Go.Sort.grow (redrawn wr dq) osq)) := Lib.hid (HF.out.trans ((below_regrown _ _ _).mono HF.out.size))
                  rw [hw'']
                  simp only
                  obtain ⟨w9, hw9⟩ : ∃ w9, Go.Sort.grow (redrawn wr dq) osq = w9 := ⟨_, rfl⟩
                  rw [hw9] at HF3 ⊢
                  clear hw'' hw9 z0 z1' z2' z3 CS
                  go_wp2
                  go_roundw
                  case rel => exact ⟨k + 1, by go_num, by omega, HF3⟩
                  case measure => simp [intOf]; omega
                · obtain ⟨x1, y1, z1, g1, x2, y2, z2, g2, c0, c1, c2, c3, cS⟩ := HSame.out _ _ _ HF.out hlt hk6 he
                  have z0 := fun d os => cell_regrown c0 d os
                  have z1' := fun d os => cell_regrown c1 d os
                  have z2' := fun d os => cell_regrown c2 d os
                  have z3 := fun d os => cell_regrown c3 d os
                  have CS := Lib.hid cS
                  clear he c0 c1 c2 c3 cS
                  go_upto_region 23 with fail
                  refine wp_region_quiet_below (by kernel_rfl) (by kernel_rfl) ?_
                  repeat (go_big_quiet_step (first | exact CS.out _ _))
                  refine wpQuiet_nil ?_
                  intro _ hw'
                  obtain ⟨⟨dq, osq⟩, hw''⟩ := hw'
                  have HF3 : Hid (Below w8.heap.size w8 (Go.Sort.grow (redrawn wr dq) osq)) := Lib.hid (HF.out.trans ((below_regrown _ _ _).mono HF.out.size))
                  rw [hw'']
                  simp only
                  obtain ⟨w9, hw9⟩ : ∃ w9, Go.Sort.grow (redrawn wr dq) osq = w9 := ⟨_, rfl⟩
                  rw [hw9] at HF3 ⊢
                  clear hw'' hw9 z0 z1' z2' z3 CS
                  go_wp2
                  go_roundw
                  case rel => exact ⟨k + 1, by go_num, by omega, HF3⟩
                  case measure => simp [intOf]; omega
                · go_upto_region 23 with fail
                  refine wp_region_quiet_below (by kernel_rfl) (by kernel_rfl) ?_
                  repeat (go_big_quiet_step (fail))
                  refine wpQuiet_nil ?_
                  intro _ hw'
                  obtain ⟨⟨dq, osq⟩, hw''⟩ := hw'
                  have HF3 : Hid (Below w8.heap.size w8 (Go.Sort.grow (redrawn wr dq) osq)) := Lib.hid (HF.out.trans ((below_regrown _ _ _).mono HF.out.size))
                  rw [hw'']
                  simp only
                  obtain ⟨w9, hw9⟩ : ∃ w9, Go.Sort.grow (redrawn wr dq) osq = w9 := ⟨_, rfl⟩
                  rw [hw9] at HF3 ⊢
                  clear hw'' hw9
                  go_wp2
                  go_roundw
                  case rel => exact ⟨k + 1, by go_num, by omega, HF3⟩
                  case measure => simp [intOf]; omega
              · obtain rfl : k = 6 := by omega
                have hd : decide (((6 : Nat) : Int) < 6) = false := by decide
                have HWr : Hid (Below w6.heap.size w6 wr) := Lib.hid (HB8.out.trans (HF.out.mono HB8.out.size))
                have HBr : Hid (Below rb w wr ∧ rb ≤ wr.heap.size) := Lib.hid ⟨HRw.out.1.trans (HF.out.mono HRw.out.2), Nat.le_trans HRw.out.2 HF.out.size⟩
                have hg9 := HG6.out.below HWr.out
                have HD := Lib.hid (gdown_any (L := []) (t5 : Int) (b5 : Int) 1 0 wr hg9 (fun p hp => by cases hp))
                have HG9 := Lib.hid hg9
                have HX9 : Hid (GrB px xj.W (.slice (some ⟨bx, ox, none⟩) 6 c) wr) := Lib.hid (HX8.out.belowAll HF.out)
                have HL9 : Hid (RowsL .i64 L (some ⟨bx, ox, none⟩) 6 c xj.rs wr) := Lib.hid (HL8.out.below HF.out)
                clear hg9 HSame
                go_wp2_with fail
                refine HD.out.mono ?_
                rintro e w9 ⟨a9, n9, c9, rfl, -, hGd, hk9⟩
                have hbg9 : w9.heap[bg]? = w6.heap[bg]? := (hk9.block bg (Nat.lt_of_lt_of_le HBg.out HWr.out.size) (HR6.out.off (by decide) bg og rfl)).trans (HWr.out.block bg HBg.out)
                have p0 : w9.cell? ⟨bg, og, none⟩ = some (.slice xg yg zg) := (World.cell?_of_block (a := ⟨bg, og, none⟩) hbg9).trans HIg.out.1
                have p1 : w9.cell? ⟨bg, og + 1, none⟩ = some (.bool gg) := (World.cell?_of_block (a := ⟨bg, og + 1, none⟩) hbg9).trans HIg.out.2
                have hr9 : RowV .i32 (Rv.val ⟨xg, yg, zg, gg⟩) r0 w9 := (HRg.out.belowAll HWr.out).keptB HOg.out hk9
                have HSt := Lib.hid (gset_any (t5 : Int) w9 hGd hr9 HRn.out.2 HRn.out.1)
                have HK9 := Lib.hid hk9
                clear hGd hk9 hbg9 hr9 HD
                go_wp2_with fail
                refine HSt.out.mono ?_
                rintro e w10 ⟨rfl, hGs, hk10⟩
                have hback : setG (downG (upG xj t5 b5 1 A0.style).1 t5 b5 1 0).1 (t5 : Int) r0 = xj := by
                  have ht : t5 < xj.rs.length := Nat.lt_of_le_of_lt HTb.out.1 (by rw [HI.out]; exact HTb.out.2)
                  have hr : r0 = xj.rs[t5] := by
                    have h := HR0.out
                    rw [List.getElem?_eq_getElem ht] at h
                    exact (Option.some.inj h).symm
                  rw [hr]
                  exact set_back HXo.out HTb.out.1 (by rw [HI.out]; exact HTb.out.2) A0.style
                rw [hback] at hGs
                have hk2 : KeepB [g, q] wr w10 := HK9.out.trans hk10
                have hnx := HG9.out.ne (p := px) HX9.out (by decide) (by decide)
                have HXe : Hid (GrB px xj.W (.slice (some ⟨bx, ox, none⟩) 6 c) w10) := Lib.hid (HX9.out.kept (hk2.block px HX9.out.lt (fun e => by
                  rcases HM.out px e with h | h
                  · exact hnx.1 h
                  · exact hnx.2 h)))
                have HLe : Hid (RowsL .i64 L (some ⟨bx, ox, none⟩) 6 c xj.rs w10) := Lib.hid (HL9.out.keptB2 hk2 HLg.out)
                have HBe : Hid (Below rb w w10 ∧ rb ≤ w10.heap.size) := Lib.hid ⟨hk2.below (fun i hi => by rcases HM.out i hi with rfl | rfl; exact HQm.out.1; exact HQm.out.2) HBr.out.1 HBr.out.2, Nat.le_trans HBr.out.2 hk2.size⟩
                have HGe := Lib.hid hGs
                clear hback hGs hk2 hnx hk10 HSt p0 p1
                go_upto_region 28 with fail
                refine Go.Proofs.YtkggmcnocpgnbaaDoor.R.wp_region_prog [1, 4] (by kernel_rfl) (Rg28S w10 xj.rs) (fun _ _ => True) (RgOk28 g px bx ox c) (by rfl) (by kernel_rfl) (by kernel_rfl) (by kernel_rfl) ?hcong ?hOk ?hop ?hdone ?h0
                case hcong => exact fun k f f2 u hs hst => Rg28S.cong (fun hk => hs 164 (Go.Proofs.YtkggmcnocpgnbaaDoor.R.mem_slots (by subst hk; kernel_rfl))) hst
                case hOk => intro i u w1 w2 h hr; unfold RgOk28 at h ⊢; split <;> first | exact True.intro | exact h
                case h0 => exact (Below.refl _ _).drew
                case hop =>
                  refine ⟨?_, ?_, ?_, ?_, ?_, ?_, trivial⟩
                  · intro k z v hst hag hdep
                    refine .inl ⟨rfl, fun K hK => ?_⟩
                    have d5 : z.tmps.getD 5 undef = .pointer (some ⟨g, 0, none⟩) := hag.2.2 5 (by kernel_rfl)
                    have e5 := d5
                    rw [Array.getD_eq_getD_getElem?] at e5
                    have HSt := Lib.hid hst
                    clear hdep hag hst
                    go_simp
                    exact hK _ _ trivial rfl HSt.out
                  · intro z v hst hag hdep
                    refine ⟨rfl, fun K hK => ?_⟩
                    have d163 : z.tmps.getD 163 undef = .pointer (some ⟨g, 0, none⟩) := hdep { on := 0, ground := .data } (by simp) rfl _ _ rfl rfl
                    have e163 := d163
                    rw [Array.getD_eq_getD_getElem?] at e163
                    have HC := Lib.hid (rowsOf_any (HGe.out.below hst))
                    have hsz : 164 < z.tmps.size := by rw [hag.2.1]; show 164 < 168; decide
                    have HBs := Lib.hid hst
                    clear hdep hag hst
                    go_simp
                    refine HC.out.mono ?_
                    rintro e w' ⟨a9, n9, c9, us9, rfl, hR9, -, -, hb9⟩
                    exact hK _ _ trivial True.intro ⟨HBs.out.trans (hb9.mono HBs.out.size), a9, n9, c9, Go.Proofs.YtkggmcnocpgnbaaDoor.R.slot_same hsz, hR9⟩
                  · intro k z v hst hag hdep
                    refine .inl ⟨rfl, fun K hK => ?_⟩
                    have d6 : z.tmps.getD 6 undef = .pointer (some ⟨px, 0, none⟩) := hag.2.2 6 (by kernel_rfl)
                    have e6 := d6
                    rw [Array.getD_eq_getD_getElem?] at e6
                    have HSt := Lib.hid hst
                    clear hdep hag hst
                    go_simp
                    exact hK _ _ trivial rfl HSt.out
                  · intro k z v hst hag hdep
                    refine .inl ⟨rfl, fun K hK => ?_⟩
                    have d165 : z.tmps.getD 165 undef = .pointer (some ⟨px, 1, none⟩) := hdep { on := 2, ground := .data } (by simp) rfl _ _ rfl rfl
                    have e165 := d165
                    rw [Array.getD_eq_getD_getElem?] at e165
                    have l0 := (HXe.out.belowAll (Rg28S.b hst)).c1
                    have HSt := Lib.hid hst
                    clear hdep hag hst
                    go_simp
                    exact hK _ _ trivial rfl HSt.out
                  · intro z v hst hag hdep
                    refine ⟨rfl, fun K hK => ?_⟩
                    have d166 : z.tmps.getD 166 undef = .slice (some ⟨bx, ox, none⟩) 6 c := hdep { on := 3, ground := .data } (by simp) rfl _ _ rfl rfl
                    have e166 := d166
                    rw [Array.getD_eq_getD_getElem?] at e166
                    obtain ⟨hb9, a9, n9, c9, f9, hR9⟩ := hst
                    have d164 : z.tmps.getD 164 undef = .slice a9 n9 c9 := f9
                    have e164 := d164
                    rw [Array.getD_eq_getD_getElem?] at e164
                    have h96 : n9 = 6 := by rw [hR9.len]; exact HI.out
                    have hlr := lawRows_any v hR9 (HLe.out.below hb9) HXo.out.rng (fun r hr => by rw [HXo.out.len r hr]; exact HXo.out.w2) (fun r hr => by rw [HXo.out.len r hr]; exact HXo.out.w2) (by rw [h96]; decide) (by decide)
                    rw [decide_eq_true rfl] at hlr
                    have HLr := Lib.hid hlr
                    have HBs := Lib.hid hb9
                    clear hdep hag hR9 hb9 f9 hlr h96
                    go_simp
                    refine HLr.out.mono ?_
                    rintro e w' ⟨rfl, hb⟩
                    exact hK _ _ trivial rfl (HBs.out.trans (hb.mono HBs.out.size))
                  · intro k z v hst hag hdep
                    refine .inl ⟨rfl, fun K hK => ?_⟩
                    have d167 : z.tmps.getD 167 undef = .bool true := hdep { on := 4, ground := .data } (by simp) rfl _ _ rfl rfl
                    have e167 := d167
                    rw [Array.getD_eq_getD_getElem?] at e167
                    have HSt := Lib.hid hst
                    clear hdep hag hst
                    go_simp
                    exact hK _ _ trivial rfl HSt.out
                case hdone =>
                  intro z v hst hag hok
                  have hbz : Below w10.heap.size w10 v := hst
                  have d4 : z.tmps.getD 4 undef = .bool true := hok 5 _ 4 rfl rfl
                  have hend : Hid (P (.returned (.bool true)) v) := Lib.hid (by rw [← HP.out]; exact ⟨rfl, HBe.out.1.trans (hbz.mono HBe.out.2)⟩)
                  clear hst hbz
                  obtain ⟨uu, hu, hzz⟩ := Go.Proofs.YtkggmcnocpgnbaaDoor.R.agree_frame [163, 164, 165, 166, 167, 4] rfl hag
                  have e4 := (hu 4).trans d4
                  subst hzz
                  simp only [List.foldl_cons, List.foldl_nil]
                  rw [e4]
                  clear e4 d4 hu hag hok
                  try dsimp only [Exit.then]
                  simp only [List.setIfInBounds_toArray, List.set_cons_succ, List.set_cons_zero]
                  generalize uu 163 = u163', uu 164 = u164', uu 165 = u165', uu 166 = u166', uu 167 = u167'
                  clear uu
                  rename_i K hK
                  refine hK _ _ ?_
                  go_wp2_with fail
                  exact hend.out
end Go.Proofs.YtkggmcnocpgnbaaDoor.K
