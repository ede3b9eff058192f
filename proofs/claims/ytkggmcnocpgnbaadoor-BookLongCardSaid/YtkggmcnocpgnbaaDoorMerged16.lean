/- The statements' Is: a book and the document's, where they are alike. -/
import Derived.Test.YtkggmcnocpgnbaaDoorBSl
import Derived.Test.YtkggmcnocpgnbaaDoorBGlu
import Derived.Test.YtkggmcnocpgnbaaDoorBLow
import Derived.Test.YtkggmcnocpgnbaaDoorRelD
import Derived.Test.YtkggmcnocpgnbaaDoorMerged1
import Derived.Test.YtkggmcnocpgnbaaDoorBAwk
namespace Go.Proofs.YtkggmcnocpgnbaaDoor.K
open Go.RowKit

/-- the region's state -/
def LIS (w1 : World) (G : List (Int × Int)) : Nat → (Nat → Value) → World → Prop
  | 0, _, u => Below w1.heap.size w1 u
  | 1, f, u => Below w1.heap.size w1 u ∧ ∃ a n c, f 21 = .slice a n c ∧ PairsIn .i32 a n c G u
  | _, _, u => Below w1.heap.size w1 u
theorem LIS.base {w1 : World} {G : List (Int × Int)} {k : Nat} {f : Nat → Value} {u : World} (h : LIS w1 G k f u) : Below w1.heap.size w1 u := by
  match k, h with
  | 0, h => exact h
  | 1, h => exact h.1
  | _ + 2, h => exact h
theorem LIS.cong {w1 : World} {G : List (Int × Int)} {k : Nat} {f f2 : Nat → Value} {u : World} (e1 : k = 1 → f 21 = f2 21) (h : LIS w1 G k f u) : LIS w1 G k f2 u := by
  match k, h, e1 with
  | 0, h, _ => exact h
  | 1, ⟨h, a, n, c, e, h2⟩, e1 => exact ⟨h, a, n, c, by rw [← e1 rfl]; exact e, h2⟩
  | _ + 2, h, _ => exact h
def LIOk (rb b nl : Nat) (la : Option Addr) (lc : Nat) (ga : Option Addr) (gn gc : Nat) : Nat → Value → World → Prop
  | 0, u, _ => u = .pointer (some ⟨b, 0, none⟩)
  | 1, u, _ => u = .int .i64 (nl : Int)
  | 2, u, _ => u = .pointer (some ⟨rb, 0, none⟩)
  | 3, u, _ => u = .slice la nl lc
  | 4, u, _ => u = .int .i64 (nl : Int)
  | 5, u, _ => u = .bool false
  | 6, u, _ => u = .bool false
  | 7, u, _ => u = .pointer (some ⟨b, 0, none⟩)
  | 8, _, _ => True
  | 9, u, _ => u = .pointer (some ⟨rb, 1, none⟩)
  | 10, u, _ => u = .slice ga gn gc
  | 11, u, _ => u = .bool true
  | 12, u, _ => u = .bool false
  | 13, u, _ => u = .bool false
  | _, _, _ => True
set_option maxRecDepth 100000 in
set_option maxHeartbeats 16000000 in
theorem lawIs12_any {b : Nat} {M N : List Nat} {x : Bk} (la : Option Addr) (ln lc : Nat) (ga : Option Addr) (gn gc : Nat) (w : World) (hBo : Bo b M N x w) (hL : LinR la ln lc x.L w) (hG : PairsIn .i64 ga gn gc x.G w) (hRg : RngG x.G) (hRl : ∀ l ∈ x.L, RngG l) (hGl : x.G.length ≤ 1000000) (hLl : x.L.length ≤ 1000000) (hl : ∀ l ∈ x.L, l.length ≤ 1000000) :
    Calls Tryd.prog 20 #[.pointer (some ⟨b, 0, none⟩), .agg #[.slice la ln lc, .slice ga gn gc]] w fun e w' => e = .returned (.bool true) ∧ Below w.heap.size w w' := by
  obtain ⟨rb, hrb⟩ : ∃ rb, w.heap.size = rb := ⟨_, rfl⟩
  rw [hrb]
  obtain ⟨P, hP⟩ : ∃ P : Ending → World → Prop, (fun e w' => e = .returned (.bool true) ∧ Below rb w w') = P := ⟨_, rfl⟩
  rw [hP]
  have HP := Lib.hid hP
  obtain ⟨nl, hnl⟩ : ∃ n, x.L.length = n := ⟨_, rfl⟩
  obtain rfl : ln = nl := by rw [hL.len, hnl]
  obtain ⟨w1, hw1⟩ : ∃ w1, w.alloc (.cells #[.slice la ln lc, .slice ga gn gc] 33) = w1 := ⟨_, rfl⟩
  have hb1 : Below rb w w1 := by rw [← hw1, ← hrb]; exact (Below.refl _ _).alloc (Nat.le_refl _) _
  have hs1 : w1.heap.size = rb + 1 := by rw [← hw1, World.size_alloc, hrb]
  have q2 : w1.heap[rb]? = some (.cells #[.slice la ln lc, .slice ga gn gc] 33 (0, 0)) := by
    rw [← hw1, ← hrb]
    exact heap_alloc_new w _
  have HC : Hid (w1.cell? ⟨rb, 0, none⟩ = some (.slice la ln lc) ∧ w1.cell? ⟨rb, 1, none⟩ = some (.slice ga gn gc)) := Lib.hid ⟨by rw [cell_block q2]; rfl, by rw [cell_block q2]; rfl⟩
  have HBo := Lib.hid (hBo.below (by rw [hrb]; exact hb1))
  have HG := Lib.hid (hG.belowAll (by rw [hrb]; exact hb1))
  have HL := Lib.hid (hL.belowAll (by rw [hrb]; exact hb1))
  have HS1 : Hid (rb < w1.heap.size) := Lib.hid (by omega)
  have HRg := Lib.hid hRg
  have HRl := Lib.hid hRl
  have HGl := Lib.hid hGl
  have HLl := Lib.hid hLl
  have HLe := Lib.hid hl
  have HB1 := Lib.hid hb1
  have HSz := Lib.hid hs1
  have HW1 := Lib.hid hw1
  have HRb := Lib.hid hrb
  have HNl := Lib.hid hnl
  have hnlI : (ln : Int) ≤ 1000000 := by omega
  clear hP hBo hL hG hRg hRl hGl hLl hl hw1 hb1 hs1 q2 hrb hnl
  go_enter Tryd.func20, Tryd.ntmps20
  go_upto_region 1 with fail
  rw [HW1.out, HRb.out]
  refine Go.Proofs.YtkggmcnocpgnbaaDoor.R.wp_region_due [8, 11] [0, 0, 0, 0, 0, 0, 0, 0, 1, 1, 1, 2, 2, 2] (by kernel_rfl) (LIS w1 x.G) (fun _ _ => True) (LIOk rb b ln la lc ga gn gc) (by rfl) (by kernel_rfl) (by kernel_rfl) (by kernel_rfl) (by kernel_rfl) ?hcong ?hOk ?hop ?hdone ?h0
  case hcong => exact fun k f f2 u hs hst => LIS.cong (fun hk => hs 21 (Go.Proofs.YtkggmcnocpgnbaaDoor.R.mem_slots (by subst hk; kernel_rfl))) hst
  case hOk => intro i u w1 w2 h hr; unfold LIOk at h ⊢; split <;> first | exact True.intro | exact h
  case h0 => exact (Below.refl _ _).drew
  case hop =>
    refine ⟨?_, ?_, ?_, ?_, ?_, ?_, ?_, ?_, ?_, ?_, ?_, ?_, ?_, ?_, trivial⟩
    · intro k z v hk hst hag hdep
      refine .inl ⟨rfl, fun K hK => ?_⟩
      have d0 : z.tmps.getD 0 undef = .pointer (some ⟨b, 0, none⟩) := hag.2.2 0 (by kernel_rfl)
      have e0 := d0
      rw [Array.getD_eq_getD_getElem?] at e0
      have HSt := Lib.hid hst
      clear hdep hag hst
      go_simp
      exact hK _ _ trivial rfl HSt.out
    · intro k z v hk hst hag hdep
      refine .inl ⟨rfl, fun K hK => ?_⟩
      have d13 : z.tmps.getD 13 undef = .pointer (some ⟨b, 0, none⟩) := hdep { on := 0, ground := .data } (by simp) rfl _ _ rfl rfl
      have e13 := d13
      rw [Array.getD_eq_getD_getElem?] at e13
      have h0 := LIS.base hst
      have HLn := Lib.hid (blen_any v (HBo.out.below h0))
      rw [HNl.out] at HLn
      have HSt := Lib.hid hst
      clear hdep hag hst h0
      go_simp
      refine HLn.out.mono ?_
      rintro e w' ⟨rfl, rfl⟩
      exact hK _ _ trivial rfl HSt.out
    · intro k z v hk hst hag hdep
      refine .inl ⟨rfl, fun K hK => ?_⟩
      have d3 : z.tmps.getD 3 undef = .pointer (some ⟨rb, 0, none⟩) := hag.2.2 3 (by kernel_rfl)
      have e3 := d3
      rw [Array.getD_eq_getD_getElem?] at e3
      have HSt := Lib.hid hst
      clear hdep hag hst
      go_simp
      exact hK _ _ trivial rfl HSt.out
    · intro k z v hk hst hag hdep
      refine .inl ⟨rfl, fun K hK => ?_⟩
      have d15 : z.tmps.getD 15 undef = .pointer (some ⟨rb, 0, none⟩) := hdep { on := 2, ground := .data } (by simp) rfl _ _ rfl rfl
      have e15 := d15
      rw [Array.getD_eq_getD_getElem?] at e15
      have h0 := LIS.base hst
      have l0 := (h0.cell (p := ⟨rb, 0, none⟩) HS1.out).trans HC.out.1
      have HSt := Lib.hid hst
      clear hdep hag hst
      go_simp
      exact hK _ _ trivial rfl HSt.out
    · intro k z v hk hst hag hdep
      refine .inl ⟨rfl, fun K hK => ?_⟩
      have d16 : z.tmps.getD 16 undef = .slice la ln lc := hdep { on := 3, ground := .data } (by simp) rfl _ _ rfl rfl
      have e16 := d16
      rw [Array.getD_eq_getD_getElem?] at e16
      have HSt := Lib.hid hst
      clear hdep hag hst
      go_simp
      exact hK _ _ trivial rfl HSt.out
    · intro k z v hk hst hag hdep
      refine .inl ⟨rfl, fun K hK => ?_⟩
      have d14 : z.tmps.getD 14 undef = .int .i64 (ln : Int) := hdep { on := 1, ground := .data } (by simp) rfl _ _ rfl rfl
      have e14 := d14
      rw [Array.getD_eq_getD_getElem?] at e14
      have d17 : z.tmps.getD 17 undef = .int .i64 (ln : Int) := hdep { on := 4, ground := .data } (by simp) rfl _ _ rfl rfl
      have e17 := d17
      rw [Array.getD_eq_getD_getElem?] at e17
      have HSt := Lib.hid hst
      clear hdep hag hst
      go_simp
      exact hK _ _ trivial rfl HSt.out
    · intro k z v hk hst hag hdep
      refine .inl ⟨rfl, fun K hK => ?_⟩
      have d18 : z.tmps.getD 18 undef = .bool false := hdep { on := 5, ground := .data } (by simp) rfl _ _ rfl rfl
      have e18 := d18
      rw [Array.getD_eq_getD_getElem?] at e18
      have HSt := Lib.hid hst
      clear hdep hag hst
      go_simp
      exact hK _ _ trivial rfl HSt.out
    · intro k z v hk hst hag hdep
      have dg : LIOk rb b ln la lc ga gn gc 6 (z.tmps.getD 19 undef) v := hdep { on := 6, ground := .guard } (by simp) rfl _ _ rfl rfl
      simp only [LIOk] at dg
      refine .inl ⟨Go.Proofs.YtkggmcnocpgnbaaDoor.R.wanted_of (j := 6) rfl rfl rfl dg (by rw [hag.2.1]; show 19 < 76; decide), fun K hK => ?_⟩
      have d0 : z.tmps.getD 0 undef = .pointer (some ⟨b, 0, none⟩) := hag.2.2 0 (by kernel_rfl)
      have e0 := d0
      rw [Array.getD_eq_getD_getElem?] at e0
      have HSt := Lib.hid hst
      clear hdep hag hst
      go_simp
      exact hK _ _ trivial rfl HSt.out
    · intro z v hst hag hdep
      have dg : LIOk rb b ln la lc ga gn gc 6 (z.tmps.getD 19 undef) v := hdep { on := 6, ground := .guard } (by simp) rfl _ _ rfl rfl
      simp only [LIOk] at dg
      refine ⟨Go.Proofs.YtkggmcnocpgnbaaDoor.R.wanted_of (j := 6) rfl rfl rfl dg (by rw [hag.2.1]; show 19 < 76; decide), fun K hK => ?_⟩
      have d20 : z.tmps.getD 20 undef = .pointer (some ⟨b, 0, none⟩) := hdep { on := 7, ground := .data } (by simp) rfl _ _ rfl rfl
      have e20 := d20
      rw [Array.getD_eq_getD_getElem?] at e20
      have h0 : Below w1.heap.size w1 v := hst
      have hsz : 21 < z.tmps.size := by rw [hag.2.1]; show 21 < 76; decide
      have HCl := Lib.hid (bbegun_any v (HBo.out.below h0) HGl.out)
      have HSt := Lib.hid h0
      clear hdep hag h0 hst
      go_simp
      refine HCl.out.mono ?_
      rintro e w' ⟨v2, rfl, hq, hb⟩
      obtain ⟨a2, c2, rfl, hp, -⟩ := hq.shape
      exact hK _ _ trivial True.intro ⟨HSt.out.trans (hb.mono HSt.out.size), a2, _, c2, Go.Proofs.YtkggmcnocpgnbaaDoor.R.slot_same hsz, hp⟩
    · intro k z v hk hst hag hdep
      have dg : LIOk rb b ln la lc ga gn gc 6 (z.tmps.getD 19 undef) v := hdep { on := 6, ground := .guard } (by simp) rfl _ _ rfl rfl
      simp only [LIOk] at dg
      refine .inl ⟨Go.Proofs.YtkggmcnocpgnbaaDoor.R.wanted_of (j := 6) rfl rfl rfl dg (by rw [hag.2.1]; show 19 < 76; decide), fun K hK => ?_⟩
      have d3 : z.tmps.getD 3 undef = .pointer (some ⟨rb, 0, none⟩) := hag.2.2 3 (by kernel_rfl)
      have e3 := d3
      rw [Array.getD_eq_getD_getElem?] at e3
      have HSt := Lib.hid hst
      clear hdep hag hst
      go_simp
      exact hK _ _ trivial rfl HSt.out
    · intro k z v hk hst hag hdep
      have dg : LIOk rb b ln la lc ga gn gc 6 (z.tmps.getD 19 undef) v := hdep { on := 6, ground := .guard } (by simp) rfl _ _ rfl rfl
      simp only [LIOk] at dg
      refine .inl ⟨Go.Proofs.YtkggmcnocpgnbaaDoor.R.wanted_of (j := 6) rfl rfl rfl dg (by rw [hag.2.1]; show 19 < 76; decide), fun K hK => ?_⟩
      have d22 : z.tmps.getD 22 undef = .pointer (some ⟨rb, 1, none⟩) := hdep { on := 9, ground := .data } (by simp) rfl _ _ rfl rfl
      have e22 := d22
      rw [Array.getD_eq_getD_getElem?] at e22
      have h0 := LIS.base hst
      have l0 := (h0.cell (p := ⟨rb, 1, none⟩) HS1.out).trans HC.out.2
      have HSt := Lib.hid hst
      clear hdep hag hst
      go_simp
      exact hK _ _ trivial rfl HSt.out
    · intro z v hst hag hdep
      have dg : LIOk rb b ln la lc ga gn gc 6 (z.tmps.getD 19 undef) v := hdep { on := 6, ground := .guard } (by simp) rfl _ _ rfl rfl
      simp only [LIOk] at dg
      refine ⟨Go.Proofs.YtkggmcnocpgnbaaDoor.R.wanted_of (j := 6) rfl rfl rfl dg (by rw [hag.2.1]; show 19 < 76; decide), fun K hK => ?_⟩
      have d23 : z.tmps.getD 23 undef = .slice ga gn gc := hdep { on := 10, ground := .data } (by simp) rfl _ _ rfl rfl
      have e23 := d23
      rw [Array.getD_eq_getD_getElem?] at e23
      obtain ⟨h0, a2, n2, c2, f21, h21⟩ := hst
      have d21 : z.tmps.getD 21 undef = .slice a2 n2 c2 := f21
      have e21 := d21
      rw [Array.getD_eq_getD_getElem?] at e21
      have HCl := Lib.hid (lawGlyphs_any a2 n2 c2 x.G ga gn gc x.G v h21 (HG.out.belowAll h0) HRg.out (by rw [h21.len]; exact HGl.out) (by rw [HG.out.len]; exact HGl.out))
      rw [decide_eq_true rfl] at HCl
      have HSt := Lib.hid h0
      clear hdep hag h0 h21 f21
      go_simp
      refine HCl.out.mono ?_
      rintro e w' ⟨rfl, hb⟩
      exact hK _ _ trivial rfl (HSt.out.trans (hb.mono HSt.out.size))
    · intro k z v hk hst hag hdep
      have dg : LIOk rb b ln la lc ga gn gc 6 (z.tmps.getD 19 undef) v := hdep { on := 6, ground := .guard } (by simp) rfl _ _ rfl rfl
      simp only [LIOk] at dg
      refine .inl ⟨Go.Proofs.YtkggmcnocpgnbaaDoor.R.wanted_of (j := 6) rfl rfl rfl dg (by rw [hag.2.1]; show 19 < 76; decide), fun K hK => ?_⟩
      have d24 : z.tmps.getD 24 undef = .bool true := hdep { on := 11, ground := .data } (by simp) rfl _ _ rfl rfl
      have e24 := d24
      rw [Array.getD_eq_getD_getElem?] at e24
      have HSt := Lib.hid hst
      clear hdep hag hst
      go_simp
      exact hK _ _ trivial rfl HSt.out
    · intro k z v hk hst hag hdep
      refine .inl ⟨rfl, fun K hK => ?_⟩
      have d19 : z.tmps.getD 19 undef = .bool false := hdep { on := 6, ground := .data } (by simp) rfl _ _ rfl rfl
      have e19 := d19
      rw [Array.getD_eq_getD_getElem?] at e19
      have d25 : z.tmps.getD 25 undef = .bool false := hdep { on := 12, ground := .data } (by simp) rfl _ _ rfl rfl
      have e25 := d25
      rw [Array.getD_eq_getD_getElem?] at e25
      have HSt := Lib.hid hst
      clear hdep hag hst
      go_simp
      exact hK _ _ trivial rfl HSt.out
  case hdone =>
    intro z v hst hag hok
    have hB : Below w1.heap.size w1 v := LIS.base hst
    have d26 : z.tmps.getD 26 undef = .bool false := hok 13 _ 26 rfl rfl
    have HB := Lib.hid hB
    clear hB hst
    obtain ⟨uu, hu, hzz⟩ := Go.Proofs.YtkggmcnocpgnbaaDoor.R.agree_frame [13, 14, 15, 16, 17, 18, 19, 20, 21, 22, 23, 24, 25, 26] rfl hag
    have e26 := (hu 26).trans d26
    subst hzz
    simp only [List.foldl_cons, List.foldl_nil]
    rw [e26]
    clear e26 d26 hu hag hok
    try dsimp only [Exit.then]
    simp only [List.setIfInBounds_toArray, List.set_cons_succ, List.set_cons_zero]
    generalize uu 13 = u13', uu 14 = u14', uu 15 = u15', uu 16 = u16', uu 17 = u17', uu 18 = u18', uu 19 = u19', uu 20 = u20', uu 21 = u21', uu 22 = u22', uu 23 = u23', uu 24 = u24', uu 25 = u25'
    clear uu
    rename_i K hK
    refine hK _ _ ?_
    have k0 : v.cell? ⟨rb, 0, none⟩ = some (.slice la ln lc) := (HB.out.cell (p := ⟨rb, 0, none⟩) HS1.out).trans HC.out.1
    go_wp2_with fail
    clear k0
    go_loopw [30] (fun i wr => ∃ k : Nat, i = .int .i64 (k : Int) ∧ k ≤ ln ∧ Hid (Below w1.heap.size w1 wr)) (fun i _ => ln - (intOf i).toNat)
    case atStart => exact ⟨0, rfl, Nat.zero_le _, HB⟩
    case round =>
      obtain ⟨k, rfl, hk, HF⟩ := hrel
      by_cases hlt : k < ln
      · have hd : decide (k < ln) = true := decide_eq_true hlt
        have hkI : (k : Int) < ln := by omega
        have hkx : k < x.L.length := by rw [HNl.out]; exact hlt
        obtain ⟨us, hus, huv⟩ := HL.out
        have hku : k < us.length := by rw [huv.1]; exact hkx
        obtain ⟨lb, lo, rfl, hlb, hAt⟩ := hus.at_.resolve_left (by intro e; rw [e] at hku; simp at hku)
        obtain ⟨lk, hlk⟩ : ∃ l, x.L[k]? = some l := ⟨_, List.getElem?_eq_getElem hkx⟩
        obtain ⟨⟨ua, un, uc⟩, huk⟩ : ∃ u, us[k]? = some u := ⟨_, List.getElem?_eq_getElem hku⟩
        have k0 : wr.cell? ⟨lb, lo + k, none⟩ = some (.slice ua un uc) := (HF.out.cell (p := ⟨lb, lo + k, none⟩) hlb).trans (hAt k _ huk)
        have hpk := (huv.2 k _ lk huk hlk).belowAll HF.out
        have hmem := List.mem_of_getElem? hlk
        have HL2 := Lib.hid (bline_any k lk wr (HBo.out.below HF.out) hlk (HLe.out lk hmem) HLl.out)
        have HPk := Lib.hid hpk
        have HMk : Hid (RngG lk ∧ lk.length ≤ 1000000) := Lib.hid ⟨HRl.out lk hmem, HLe.out lk hmem⟩
        clear hkx hku hus huv hAt hlk huk hpk hmem hlb
        go_wp2_with fail
        refine HL2.out.mono ?_
        rintro e w8 ⟨v8, rfl, hq8, hb8⟩
        obtain ⟨a8, c8, rfl, hp8, -⟩ := hq8.shape
        obtain ⟨n8, hn8⟩ : ∃ n, lk.length = n := ⟨_, rfl⟩
        rw [hn8] at hp8 ⊢
        have hg := lawGlyphs_any a8 n8 c8 lk ua un uc lk w8 hp8 (HPk.out.belowAll hb8) HMk.out.1 (by rw [← hn8]; exact HMk.out.2) (by rw [HPk.out.len]; exact HMk.out.2)
        rw [decide_eq_true rfl] at hg
        have HGg := Lib.hid hg
        have HB8 := Lib.hid (HF.out.trans (hb8.mono HF.out.size))
        clear hq8 hb8 hp8 hn8 hg HL2 HPk HMk HF k0
        go_wp2_with fail
        refine HGg.out.mono ?_
        rintro e w9 ⟨rfl, hb9⟩
        have HE : Hid (Below w1.heap.size w1 w9) := Lib.hid (HB8.out.trans (hb9.mono HB8.out.size))
        clear hb9 HGg HB8 hlt
        go_wp2_with fail
        go_roundw
        case rel => exact ⟨k + 1, by go_num, by omega, HE⟩
        case measure => simp [intOf]; omega
      · obtain rfl : k = ln := by omega
        have hd : decide (k < k) = false := by simp
        have HN1 := Lib.hid (bline_none (-1) wr (HBo.out.below HF.out) (.inl (by decide)))
        have hln := blen_any wr (HBo.out.below HF.out)
        rw [HNl.out] at hln
        have HLn := Lib.hid hln
        have HN2 := Lib.hid (bline_none (k : Int) wr (HBo.out.below HF.out) (.inr (by rw [HNl.out]; omega)))
        have hend : Hid (P (.returned (.bool true)) wr) := Lib.hid (by rw [← HP.out]; exact ⟨rfl, HB1.out.trans (HF.out.mono (by have := HSz.out; omega))⟩)
        clear hln HF hlt
        go_wp2_with fail
        refine HN1.out.mono ?_
        rintro e w8 ⟨rfl, rfl⟩
        go_wp2_with fail
        refine HLn.out.mono ?_
        rintro e w9 ⟨rfl, rfl⟩
        go_wp2_with fail
        refine HN2.out.mono ?_
        rintro e w10 ⟨rfl, rfl⟩
        go_wp2_with fail
        exact hend.out
end Go.Proofs.YtkggmcnocpgnbaaDoor.K

/- A mask of small numbers. -/
namespace Go.Proofs.YtkggmcnocpgnbaaDoor.K
open Go.RowKit

theorem and_small (n : Int) (m : Nat) (hm : m < 4294967296) : ∃ t : Nat, bits .and .i64 n (m : Int) = (t : Int) ∧ t ≤ m := by
  refine ⟨(BitVec.ofInt 64 n &&& BitVec.ofInt 64 (m : Int)).toNat, ?_, ?_⟩
  · show IntKind.i64.wrap ((BitVec.ofInt 64 n &&& BitVec.ofInt 64 (m : Int)).toNat : Int) = _
    have h2 : (BitVec.ofInt 64 (m : Int)).toNat = m := by
      rw [BitVec.ofInt_natCast, BitVec.toNat_ofNat]; exact Nat.mod_eq_of_lt (by omega)
    have h3 : (BitVec.ofInt 64 n &&& BitVec.ofInt 64 (m : Int)).toNat ≤ m := by
      rw [BitVec.toNat_and, h2]; exact Nat.and_le_right
    rw [IntKind.wrap_i64]
    omega
  · rw [BitVec.toNat_and, BitVec.ofInt_natCast, BitVec.toNat_ofNat, Nat.mod_eq_of_lt (by omega : m < 2 ^ 64)]
    exact Nat.and_le_right
end Go.Proofs.YtkggmcnocpgnbaaDoor.K

/- BookBlanks: rows of blanks are lines without glyphs: the walk. -/
namespace Go.Proofs.YtkggmcnocpgnbaaDoor.K
open Go.RowKit

/-- a slice of one row, just built -/
theorem rows_one {rk : IntKind} {M : List Nat} {a : Option Addr} {n c : Nat} {b : Bool} {r : Ro} {T : TypeId} (u : World) (h : RowV rk (.agg #[.slice a n c, .bool b]) r u) (ho : Off M ⟨a, n, c, b⟩) (hM : ∀ p ∈ M, p < u.heap.size) : RowsL rk M (some ⟨u.heap.size, 0, none⟩) 1 1 [r] (u.alloc (.cells #[.slice a n c, .bool b] T)) := by
  have hb : Below u.heap.size u (u.alloc (.cells #[.slice a n c, .bool b] T)) := (Below.refl _ _).alloc (Nat.le_refl _) _
  refine ⟨⟨[⟨a, n, c, b⟩], rvs_one u ⟨a, n, c, b⟩ T, ⟨rfl, fun i d q hd hq => ?_⟩, fun d hd => ?_⟩, (fun e => by cases e), fun _ b' o e hm => by cases e; have := hM _ hm; omega⟩
  · match i, hd, hq with
    | 0, hd, hq => cases hd; cases hq; exact h.belowAll hb
    | i + 1, hd, _ => simp at hd
  · rw [List.mem_singleton.1 hd]; exact ho
end Go.Proofs.YtkggmcnocpgnbaaDoor.K
