/- BookReads: of any bytes there is just the document's line: the walk. -/
import Derived.Test.YtkggmcnocpgnbaaDoorBAwk
import Derived.Test.YtkggmcnocpgnbaaDoorMerged15
import Derived.Test.YtkggmcnocpgnbaaDoorBRefR
import Derived.Test.YtkggmcnocpgnbaaDoorMerged16
namespace Go.Proofs.YtkggmcnocpgnbaaDoor.K
open Go.RowKit Go.Proofs.YtkggmcnocpgnbaaDoor.I

/-- what was read, of both -/
structure ReS (p px : Nat) (ga : Option Addr) (gn gc : Nat) (xa : Option Addr) (xn xc : Nat) (xs : ByteArray) (er : Nat) (R : Sta × List (Int × Int)) (w5 u : World) : Prop where
  b : Below w5.heap.size w5 u
  i : InSt p R.1.1 R.1.2 u
  g : PairsIn .i32 ga gn gc R.2 u
  x : PairsIn .i64 xa xn xc R.2 u
  h : u.heap[px]? = some (.cells #[.string xs, .int .i64 (er : Int)] 52 (0, 0))
section
variable {p px : Nat} {ga : Option Addr} {gn gc : Nat} {xa : Option Addr} {xn xc : Nat} {xs : ByteArray} {er : Nat} {R : Sta × List (Int × Int)} {w5 u u' : World}
theorem InSt.belowAll {p : Nat} {l : List UInt8} {e : Nat} {u u' : World} (h : InSt p l e u) (hb : Below u.heap.size u u') : InSt p l e u' := by
  obtain ⟨s, h1, h2, h3⟩ := h
  exact ⟨s, (hb.block p h1.lt).trans h1, h2, h3⟩
theorem ReS.below (h : ReS p px ga gn gc xa xn xc xs er R w5 u) (hb : Below u.heap.size u u') : ReS p px ga gn gc xa xn xc xs er R w5 u' :=
  ⟨h.b.trans (hb.mono h.b.size), InSt.belowAll h.i hb, h.g.belowAll hb, h.x.belowAll hb, (hb.block px (Array.getElem?_eq_some_iff.1 h.h).1).trans h.h⟩
theorem ReS.c0 (h : ReS p px ga gn gc xa xn xc xs er R w5 u) : u.cell? ⟨px, 0, none⟩ = some (.string xs) := by rw [cell_block h.h]; rfl
theorem ReS.c1 (h : ReS p px ga gn gc xa xn xc xs er R w5 u) : u.cell? ⟨px, 1, none⟩ = some (.int .i64 (er : Int)) := by rw [cell_block h.h]; rfl
end
def ReOk (p px : Nat) (ga : Option Addr) (gn gc : Nat) (xa : Option Addr) (xn xc : Nat) (xs : ByteArray) (er : Nat) : Nat → Value → World → Prop
  | 0, u, _ => u = .slice ga gn gc
  | 1, u, _ => u = .slice xa xn xc
  | 2, u, _ => u = .bool true
  | 3, u, _ => u = .bool false
  | 4, u, _ => u = .bool false
  | 5, u, _ => u = .pointer (some ⟨p, 0, none⟩)
  | 6, u, _ => u = .int .i64 (xs.size : Int)
  | 7, u, _ => u = .pointer (some ⟨px, 0, none⟩)
  | 8, u, _ => u = .string xs
  | 9, u, _ => u = .int .i64 (xs.size : Int)
  | 10, u, _ => u = .bool false
  | 11, u, _ => u = .bool false
  | 12, u, _ => u = .bool false
  | 13, u, _ => u = .pointer (some ⟨p, 0, none⟩)
  | 14, u, _ => u = .int .i64 (er : Int)
  | 15, u, _ => u = .pointer (some ⟨px, 1, none⟩)
  | 16, u, _ => u = .int .i64 (er : Int)
  | 17, u, _ => u = .bool false
  | 18, u, _ => u = .bool false
  | _, _, _ => True
def RfOk (px er : Nat) : Nat → Value → World → Prop
  | 0, u, _ => u = .pointer (some ⟨px, 1, none⟩)
  | 1, u, _ => u = .int .i64 (er : Int)
  | 2, u, _ => u = .bool true
  | 3, u, _ => u = .bool true
  | 4, _, _ => True
  | 5, _, _ => True
  | 6, _, _ => True
  | 7, _, _ => True
  | 8, _, _ => True
  | 9, _, _ => True
  | 10, _, _ => True
  | 11, _, _ => True
  | 12, _, _ => True
  | 13, _, _ => True
  | 14, _, _ => True
  | 15, u, _ => u = .bool true
  | 16, u, _ => u = .bool true
  | _, _, _ => True
def RgOk9 (px : Nat) (ga : Option Addr) (gn gc : Nat) (xs t pk : ByteArray) (er kk : Nat) : Nat → Value → World → Prop
  | 0, u, _ => u = .pointer (some ⟨px, 1, none⟩)
  | 1, u, _ => u = .int .i64 (er : Int)
  | 2, u, _ => u = .bool false
  | 3, u, _ => u = .bool false
  | 4, u, _ => u = .slice ga gn gc
  | 5, u, _ => u = .string pk
  | 6, u, _ => u = .string t
  | 7, u, _ => u = .string t
  | 8, u, _ => u = .int .i64 (t.size : Int)
  | 9, u, _ => u = .pointer (some ⟨px, 0, none⟩)
  | 10, u, _ => u = .string xs
  | 11, u, _ => u = .int .i64 (xs.size : Int)
  | 12, u, _ => u = .int .i64 (kk : Int)
  | 13, u, _ => u = .string (t.extract 0 kk)
  | 14, u, _ => u = .bool true
  | 15, u, _ => u = .bool true
  | 16, u, _ => u = .bool true
  | _, _, _ => True
set_option maxRecDepth 100000 in
set_option maxHeartbeats 16000000 in
theorem reads_walk (s0 : ByteArray) (hs0 : (s0.size : Int) ≤ 9223372036854775807) (w : World) (hW : W.Tab w) (hT : S.Tab w) : Calls Tryd.prog 4 #[.string s0] w fun e w' => e = .returned (.bool true) ∧ Below w.heap.size w w' := by
  obtain ⟨rb, hrb⟩ : ∃ rb, w.heap.size = rb := ⟨_, rfl⟩
  rw [hrb]
  obtain ⟨P, hP⟩ : ∃ P : Ending → World → Prop, (fun e w' => e = .returned (.bool true) ∧ Below rb w w') = P := ⟨_, rfl⟩
  rw [hP]
  have HP := Lib.hid hP
  have HRb := Lib.hid hrb
  have HAw := Lib.hid (bawake_any w hW hT)
  clear hP hrb hW hT
  go_enter Tryd.func4, Tryd.ntmps4
  go_upto_region 3 with (go_at_call 11; refine HAw.out.mono ?_; rintro e w1 ⟨rfl, hb1⟩)
  have HB1 : Hid (Below rb w w1 ∧ rb ≤ w1.heap.size) := Lib.hid ⟨by rw [← HRb.out]; exact hb1, by rw [← HRb.out]; exact hb1.size⟩
  have HCut := cut_any s0 120 hs0 (by decide) w1
  rw [show ((120 : Nat) : Int) = 120 from rfl] at HCut
  have HCut := Lib.hid HCut
  clear hb1 HAw hs0
  go_wp2_with fail
  refine HCut.out.mono ?_
  rintro e w2 ⟨⟨t, rfl, htz, -⟩, rfl⟩
  have HOf := Lib.hid (of_any t (by omega) w1)
  have HTz := Lib.hid htz
  clear htz HCut
  go_wp2_with fail
  refine HOf.out.mono ?_
  rintro e w2 ⟨rfl, hi2, hw2⟩
  obtain ⟨p, hp⟩ : ∃ p, w1.heap.size = p := ⟨_, rfl⟩
  rw [hp] at hi2 ⊢
  have hb2 : Below w1.heap.size w1 w2 := by rw [hw2]; exact (Below.refl _ _).alloc (Nat.le_refl _) _
  have HB2 : Hid (Below rb w w2 ∧ rb ≤ w2.heap.size) := Lib.hid ⟨HB1.out.1.trans (hb2.mono HB1.out.2), Nat.le_trans HB1.out.2 hb2.size⟩
  have HPr : Hid (rb ≤ p) := Lib.hid (by have := HB1.out.2; omega)
  obtain ⟨R, hR⟩ : ∃ R, readS (t.data.toList, 0) = R := ⟨_, rfl⟩
  have HRd := Lib.hid (bread_any p (t.data.toList, 0) w2 hi2)
  have HR := Lib.hid hR
  clear hi2 hw2 hp hb2 HOf hR
  go_wp2_with fail
  refine HRd.out.mono ?_
  rintro e w3 ⟨v3, rfl, ho3, hi3, hg3⟩
  rw [HR.out] at ho3 hi3
  obtain ⟨ga, gc, rfl, hga, -⟩ := ho3.shape
  have HB3 : Hid (Below rb w w3 ∧ rb ≤ w3.heap.size) := Lib.hid ⟨below_of_grown HB2.out.1 hg3 HB2.out.2 HPr.out, Nat.le_trans HB2.out.2 hg3.size⟩
  have HRf := Lib.hid (refRead_any t (by have := HTz.out; omega) w3)
  obtain ⟨gn, hgn⟩ : ∃ n, R.2.length = n := ⟨_, rfl⟩
  rw [hgn] at hga ⊢
  have HI3 := Lib.hid hi3
  have HG3 := Lib.hid hga
  have HGl := Lib.hid hgn
  clear ho3 hi3 hg3 hga hgn HRd
  go_upto_region 8 with fail
  go_wp2_with fail
  refine HRf.out.mono ?_
  rintro e w4 ⟨xs, v4, rfl, hx4, hz4, ho4, hb4⟩
  rw [HR.out] at hx4 ho4 ⊢
  obtain ⟨xa, xc, rfl, hxa, -⟩ := ho4.shape
  rw [HGl.out] at hxa ⊢
  obtain ⟨er, her⟩ : ∃ e, R.1.2 = e := ⟨_, rfl⟩
  rw [her]
  obtain ⟨px, hpx⟩ : ∃ p, w4.heap.size = p := ⟨_, rfl⟩
  obtain ⟨w5, hw5⟩ : ∃ w5, w4.alloc (.cells #[.string xs, .int .i64 (er : Int)] 52) = w5 := ⟨_, rfl⟩
  have hb5 : Below w4.heap.size w4 w5 := by rw [← hw5]; exact (Below.refl _ _).alloc (Nat.le_refl _) _
  have hb35 : Below w3.heap.size w3 w5 := hb4.trans (hb5.mono hb4.size)
  have h0 : ReS p px ga gn gc xa gn xc xs er R w5 w5 := ⟨Below.refl _ _, InSt.belowAll HI3.out hb35, HG3.out.belowAll hb35, hxa.belowAll hb5, by rw [← hw5, ← hpx]; exact heap_alloc_new w4 _⟩
  have HB5 : Hid (Below rb w w5) := Lib.hid (HB3.out.1.trans (hb35.mono HB3.out.2))
  have HR5 : Hid (rb ≤ w5.heap.size) := Lib.hid (Nat.le_trans HB3.out.2 hb35.size)
  have H0 := Lib.hid h0
  have HRg : Hid (RngG R.2) := Lib.hid (fun g hg => by have h := readS_rng (t.data.toList, 0) g (by rw [HR.out]; exact hg); omega)
  have HGn : Hid (gn ≤ 1000000) := Lib.hid (by have h := readS_len (t.data.toList, 0); rw [HR.out, HGl.out] at h; omega)
  have HXn := HGn
  have HG24 : Hid (gn ≤ 1024) := Lib.hid (by have h := readS_len (t.data.toList, 0); rw [HR.out, HGl.out] at h; omega)
  have HLn : Hid ((R.1.1.length : Int) = (xs.size : Int)) := Lib.hid (by rw [← hx4]; rfl)
  have HEr := Lib.hid her
  have HW5 := Lib.hid hw5
  have HPx := Lib.hid hpx
  have HXs := Lib.hid hx4
  clear ho4 hb4 hxa her hpx hw5 hb5 hb35 h0 hz4 hx4 HRf HI3 HG3
  go_upto_region 9 with fail
  rw [HW5.out, HPx.out]
  refine Go.Proofs.YtkggmcnocpgnbaaDoor.R.wp_region_prog [] (by kernel_rfl) (fun _ _ u => ReS p px ga gn gc xa gn xc xs er R w5 u) (fun _ _ => True) (ReOk p px ga gn gc xa gn xc xs er) (by rfl) (by kernel_rfl) (by kernel_rfl) (by kernel_rfl) ?hcong ?hOk ?hop ?hdone ?h0
  case hcong => exact fun k f f2 u hs hst => hst
  case hOk => intro i u w1 w2 h hr; unfold ReOk at h ⊢; split <;> first | exact True.intro | exact h
  case h0 => exact H0.out.below ((Below.refl _ _).drew)
  case hop =>
    refine ⟨?_, ?_, ?_, ?_, ?_, ?_, ?_, ?_, ?_, ?_, ?_, ?_, ?_, ?_, ?_, ?_, ?_, ?_, ?_, trivial⟩
    · intro k z v hst hag hdep
      refine .inl ⟨rfl, fun K hK => ?_⟩
      have d4 : z.tmps.getD 4 undef = .slice ga gn gc := hag.2.2 4 (by kernel_rfl)
      have e4 := d4
      rw [Array.getD_eq_getD_getElem?] at e4
      have HSt := Lib.hid hst
      clear hdep hag hst
      go_simp
      exact hK _ _ trivial rfl HSt.out
    · intro k z v hst hag hdep
      refine .inl ⟨rfl, fun K hK => ?_⟩
      have d6 : z.tmps.getD 6 undef = .slice xa gn xc := hag.2.2 6 (by kernel_rfl)
      have e6 := d6
      rw [Array.getD_eq_getD_getElem?] at e6
      have HSt := Lib.hid hst
      clear hdep hag hst
      go_simp
      exact hK _ _ trivial rfl HSt.out
    · intro k z v hst hag hdep
      refine .inl ⟨rfl, fun K hK => ?_⟩
      have d23 : z.tmps.getD 23 undef = .slice ga gn gc := hdep { on := 0, ground := .data } (by simp) rfl _ _ rfl rfl
      have e23 := d23
      rw [Array.getD_eq_getD_getElem?] at e23
      have d24 : z.tmps.getD 24 undef = .slice xa gn xc := hdep { on := 1, ground := .data } (by simp) rfl _ _ rfl rfl
      have e24 := d24
      rw [Array.getD_eq_getD_getElem?] at e24
      have hst : ReS p px ga gn gc xa gn xc xs er R w5 v := hst
      have HC := Lib.hid (lawGlyphs_any ga gn gc R.2 xa gn xc R.2 v hst.g hst.x HRg.out HGn.out HXn.out)
      rw [decide_eq_true rfl] at HC
      have HSt := Lib.hid hst
      clear hdep hag hst
      go_simp
      refine HC.out.mono ?_
      rintro e w' ⟨rfl, hb⟩
      exact hK _ _ trivial rfl (HSt.out.below hb)
    · intro k z v hst hag hdep
      refine .inl ⟨rfl, fun K hK => ?_⟩
      have d25 : z.tmps.getD 25 undef = .bool true := hdep { on := 2, ground := .data } (by simp) rfl _ _ rfl rfl
      have e25 := d25
      rw [Array.getD_eq_getD_getElem?] at e25
      have HSt := Lib.hid hst
      clear hdep hag hst
      go_simp
      exact hK _ _ trivial rfl HSt.out
    · intro k z v hst hag hdep
      refine .inl ⟨rfl, fun K hK => ?_⟩
      have d26 : z.tmps.getD 26 undef = .bool false := hdep { on := 3, ground := .data } (by simp) rfl _ _ rfl rfl
      have e26 := d26
      rw [Array.getD_eq_getD_getElem?] at e26
      have HSt := Lib.hid hst
      clear hdep hag hst
      go_simp
      exact hK _ _ trivial rfl HSt.out
    · intro k z v hst hag hdep
      have dg : ReOk p px ga gn gc xa gn xc xs er 4 (z.tmps.getD 27 undef) v := hdep { on := 4, ground := .guard } (by simp) rfl _ _ rfl rfl
      simp only [ReOk] at dg
      refine .inl ⟨Go.Proofs.YtkggmcnocpgnbaaDoor.R.wanted_of (j := 4) rfl rfl rfl dg (by rw [hag.2.1]; show 27 < 58; decide), fun K hK => ?_⟩
      have d3 : z.tmps.getD 3 undef = .pointer (some ⟨p, 0, none⟩) := hag.2.2 3 (by kernel_rfl)
      have e3 := d3
      rw [Array.getD_eq_getD_getElem?] at e3
      have HSt := Lib.hid hst
      clear hdep hag hst
      go_simp
      exact hK _ _ trivial rfl HSt.out
    · intro k z v hst hag hdep
      have dg : ReOk p px ga gn gc xa gn xc xs er 4 (z.tmps.getD 27 undef) v := hdep { on := 4, ground := .guard } (by simp) rfl _ _ rfl rfl
      simp only [ReOk] at dg
      refine .inl ⟨Go.Proofs.YtkggmcnocpgnbaaDoor.R.wanted_of (j := 4) rfl rfl rfl dg (by rw [hag.2.1]; show 27 < 58; decide), fun K hK => ?_⟩
      have d28 : z.tmps.getD 28 undef = .pointer (some ⟨p, 0, none⟩) := hdep { on := 5, ground := .data } (by simp) rfl _ _ rfl rfl
      have e28 := d28
      rw [Array.getD_eq_getD_getElem?] at e28
      have hst : ReS p px ga gn gc xa gn xc xs er R w5 v := hst
      have HC := Lib.hid (left_any p R.1.1 R.1.2 v hst.i)
      rw [HLn.out] at HC
      have HSt := Lib.hid hst
      clear hdep hag hst
      go_simp
      refine HC.out.mono ?_
      rintro e w' ⟨rfl, rfl⟩
      exact hK _ _ trivial rfl HSt.out
    · intro k z v hst hag hdep
      have dg : ReOk p px ga gn gc xa gn xc xs er 4 (z.tmps.getD 27 undef) v := hdep { on := 4, ground := .guard } (by simp) rfl _ _ rfl rfl
      simp only [ReOk] at dg
      refine .inl ⟨Go.Proofs.YtkggmcnocpgnbaaDoor.R.wanted_of (j := 4) rfl rfl rfl dg (by rw [hag.2.1]; show 27 < 58; decide), fun K hK => ?_⟩
      have d5 : z.tmps.getD 5 undef = .pointer (some ⟨px, 0, none⟩) := hag.2.2 5 (by kernel_rfl)
      have e5 := d5
      rw [Array.getD_eq_getD_getElem?] at e5
      have HSt := Lib.hid hst
      clear hdep hag hst
      go_simp
      exact hK _ _ trivial rfl HSt.out
    · intro k z v hst hag hdep
      have dg : ReOk p px ga gn gc xa gn xc xs er 4 (z.tmps.getD 27 undef) v := hdep { on := 4, ground := .guard } (by simp) rfl _ _ rfl rfl
      simp only [ReOk] at dg
      refine .inl ⟨Go.Proofs.YtkggmcnocpgnbaaDoor.R.wanted_of (j := 4) rfl rfl rfl dg (by rw [hag.2.1]; show 27 < 58; decide), fun K hK => ?_⟩
      have d30 : z.tmps.getD 30 undef = .pointer (some ⟨px, 0, none⟩) := hdep { on := 7, ground := .data } (by simp) rfl _ _ rfl rfl
      have e30 := d30
      rw [Array.getD_eq_getD_getElem?] at e30
      have hst : ReS p px ga gn gc xa gn xc xs er R w5 v := hst
      have l0 := hst.c0
      have HSt := Lib.hid hst
      clear hdep hag hst
      go_simp
      exact hK _ _ trivial rfl HSt.out
    · intro k z v hst hag hdep
      have dg : ReOk p px ga gn gc xa gn xc xs er 4 (z.tmps.getD 27 undef) v := hdep { on := 4, ground := .guard } (by simp) rfl _ _ rfl rfl
      simp only [ReOk] at dg
      refine .inl ⟨Go.Proofs.YtkggmcnocpgnbaaDoor.R.wanted_of (j := 4) rfl rfl rfl dg (by rw [hag.2.1]; show 27 < 58; decide), fun K hK => ?_⟩
      have d31 : z.tmps.getD 31 undef = .string xs := hdep { on := 8, ground := .data } (by simp) rfl _ _ rfl rfl
      have e31 := d31
      rw [Array.getD_eq_getD_getElem?] at e31
      have HSt := Lib.hid hst
      clear hdep hag hst
      go_simp
      exact hK _ _ trivial rfl HSt.out
    · intro k z v hst hag hdep
      have dg : ReOk p px ga gn gc xa gn xc xs er 4 (z.tmps.getD 27 undef) v := hdep { on := 4, ground := .guard } (by simp) rfl _ _ rfl rfl
      simp only [ReOk] at dg
      refine .inl ⟨Go.Proofs.YtkggmcnocpgnbaaDoor.R.wanted_of (j := 4) rfl rfl rfl dg (by rw [hag.2.1]; show 27 < 58; decide), fun K hK => ?_⟩
      have d29 : z.tmps.getD 29 undef = .int .i64 (xs.size : Int) := hdep { on := 6, ground := .data } (by simp) rfl _ _ rfl rfl
      have e29 := d29
      rw [Array.getD_eq_getD_getElem?] at e29
      have d32 : z.tmps.getD 32 undef = .int .i64 (xs.size : Int) := hdep { on := 9, ground := .data } (by simp) rfl _ _ rfl rfl
      have e32 := d32
      rw [Array.getD_eq_getD_getElem?] at e32
      have HSt := Lib.hid hst
      clear hdep hag hst
      go_simp
      exact hK _ _ trivial rfl HSt.out
    · intro k z v hst hag hdep
      refine .inl ⟨rfl, fun K hK => ?_⟩
      have d27 : z.tmps.getD 27 undef = .bool false := hdep { on := 4, ground := .data } (by simp) rfl _ _ rfl rfl
      have e27 := d27
      rw [Array.getD_eq_getD_getElem?] at e27
      have d33 : z.tmps.getD 33 undef = .bool false := hdep { on := 10, ground := .data } (by simp) rfl _ _ rfl rfl
      have e33 := d33
      rw [Array.getD_eq_getD_getElem?] at e33
      have HSt := Lib.hid hst
      clear hdep hag hst
      go_simp
      exact hK _ _ trivial rfl HSt.out
    · intro k z v hst hag hdep
      refine .inl ⟨rfl, fun K hK => ?_⟩
      have d34 : z.tmps.getD 34 undef = .bool false := hdep { on := 11, ground := .data } (by simp) rfl _ _ rfl rfl
      have e34 := d34
      rw [Array.getD_eq_getD_getElem?] at e34
      have HSt := Lib.hid hst
      clear hdep hag hst
      go_simp
      exact hK _ _ trivial rfl HSt.out
    · intro k z v hst hag hdep
      have dg : ReOk p px ga gn gc xa gn xc xs er 12 (z.tmps.getD 35 undef) v := hdep { on := 12, ground := .guard } (by simp) rfl _ _ rfl rfl
      simp only [ReOk] at dg
      refine .inl ⟨Go.Proofs.YtkggmcnocpgnbaaDoor.R.wanted_of (j := 12) rfl rfl rfl dg (by rw [hag.2.1]; show 35 < 58; decide), fun K hK => ?_⟩
      have d3 : z.tmps.getD 3 undef = .pointer (some ⟨p, 0, none⟩) := hag.2.2 3 (by kernel_rfl)
      have e3 := d3
      rw [Array.getD_eq_getD_getElem?] at e3
      have HSt := Lib.hid hst
      clear hdep hag hst
      go_simp
      exact hK _ _ trivial rfl HSt.out
    · intro k z v hst hag hdep
      have dg : ReOk p px ga gn gc xa gn xc xs er 12 (z.tmps.getD 35 undef) v := hdep { on := 12, ground := .guard } (by simp) rfl _ _ rfl rfl
      simp only [ReOk] at dg
      refine .inl ⟨Go.Proofs.YtkggmcnocpgnbaaDoor.R.wanted_of (j := 12) rfl rfl rfl dg (by rw [hag.2.1]; show 35 < 58; decide), fun K hK => ?_⟩
      have d36 : z.tmps.getD 36 undef = .pointer (some ⟨p, 0, none⟩) := hdep { on := 13, ground := .data } (by simp) rfl _ _ rfl rfl
      have e36 := d36
      rw [Array.getD_eq_getD_getElem?] at e36
      have hst : ReS p px ga gn gc xa gn xc xs er R w5 v := hst
      have HC := Lib.hid (err_any p R.1.1 R.1.2 v hst.i)
      rw [HEr.out] at HC
      have HSt := Lib.hid hst
      clear hdep hag hst
      go_simp
      refine HC.out.mono ?_
      rintro e w' ⟨rfl, rfl⟩
      exact hK _ _ trivial rfl HSt.out
    · intro k z v hst hag hdep
      have dg : ReOk p px ga gn gc xa gn xc xs er 12 (z.tmps.getD 35 undef) v := hdep { on := 12, ground := .guard } (by simp) rfl _ _ rfl rfl
      simp only [ReOk] at dg
      refine .inl ⟨Go.Proofs.YtkggmcnocpgnbaaDoor.R.wanted_of (j := 12) rfl rfl rfl dg (by rw [hag.2.1]; show 35 < 58; decide), fun K hK => ?_⟩
      have d5 : z.tmps.getD 5 undef = .pointer (some ⟨px, 0, none⟩) := hag.2.2 5 (by kernel_rfl)
      have e5 := d5
      rw [Array.getD_eq_getD_getElem?] at e5
      have HSt := Lib.hid hst
      clear hdep hag hst
      go_simp
      exact hK _ _ trivial rfl HSt.out
    · intro k z v hst hag hdep
      have dg : ReOk p px ga gn gc xa gn xc xs er 12 (z.tmps.getD 35 undef) v := hdep { on := 12, ground := .guard } (by simp) rfl _ _ rfl rfl
      simp only [ReOk] at dg
      refine .inl ⟨Go.Proofs.YtkggmcnocpgnbaaDoor.R.wanted_of (j := 12) rfl rfl rfl dg (by rw [hag.2.1]; show 35 < 58; decide), fun K hK => ?_⟩
      have d38 : z.tmps.getD 38 undef = .pointer (some ⟨px, 1, none⟩) := hdep { on := 15, ground := .data } (by simp) rfl _ _ rfl rfl
      have e38 := d38
      rw [Array.getD_eq_getD_getElem?] at e38
      have hst : ReS p px ga gn gc xa gn xc xs er R w5 v := hst
      have l1 := hst.c1
      have HSt := Lib.hid hst
      clear hdep hag hst
      go_simp
      exact hK _ _ trivial rfl HSt.out
    · intro k z v hst hag hdep
      have dg : ReOk p px ga gn gc xa gn xc xs er 12 (z.tmps.getD 35 undef) v := hdep { on := 12, ground := .guard } (by simp) rfl _ _ rfl rfl
      simp only [ReOk] at dg
      refine .inl ⟨Go.Proofs.YtkggmcnocpgnbaaDoor.R.wanted_of (j := 12) rfl rfl rfl dg (by rw [hag.2.1]; show 35 < 58; decide), fun K hK => ?_⟩
      have d37 : z.tmps.getD 37 undef = .int .i64 (er : Int) := hdep { on := 14, ground := .data } (by simp) rfl _ _ rfl rfl
      have e37 := d37
      rw [Array.getD_eq_getD_getElem?] at e37
      have d39 : z.tmps.getD 39 undef = .int .i64 (er : Int) := hdep { on := 16, ground := .data } (by simp) rfl _ _ rfl rfl
      have e39 := d39
      rw [Array.getD_eq_getD_getElem?] at e39
      have HSt := Lib.hid hst
      clear hdep hag hst
      go_simp
      exact hK _ _ trivial rfl HSt.out
    · intro k z v hst hag hdep
      refine .inl ⟨rfl, fun K hK => ?_⟩
      have d35 : z.tmps.getD 35 undef = .bool false := hdep { on := 12, ground := .data } (by simp) rfl _ _ rfl rfl
      have e35 := d35
      rw [Array.getD_eq_getD_getElem?] at e35
      have d40 : z.tmps.getD 40 undef = .bool false := hdep { on := 17, ground := .data } (by simp) rfl _ _ rfl rfl
      have e40 := d40
      rw [Array.getD_eq_getD_getElem?] at e40
      have HSt := Lib.hid hst
      clear hdep hag hst
      go_simp
      exact hK _ _ trivial rfl HSt.out
  case hdone =>
    intro z v hst hag hok
    have hst : ReS p px ga gn gc xa gn xc xs er R w5 v := hst
    have d41 : z.tmps.getD 41 undef = .bool false := hok 18 _ 41 rfl rfl
    have H1 := Lib.hid hst
    clear hst
    obtain ⟨uu, hu, hzz⟩ := Go.Proofs.YtkggmcnocpgnbaaDoor.R.agree_frame [23, 24, 25, 26, 27, 28, 29, 30, 31, 32, 33, 34, 35, 36, 37, 38, 39, 40, 41] rfl hag
    have e41 := (hu 41).trans d41
    subst hzz
    simp only [List.foldl_cons, List.foldl_nil]
    rw [e41]
    clear e41 d41 hu hag hok
    try dsimp only [Exit.then]
    simp only [List.setIfInBounds_toArray, List.set_cons_succ, List.set_cons_zero]
    generalize uu 23 = u23', uu 24 = u24', uu 25 = u25', uu 26 = u26', uu 27 = u27', uu 28 = u28', uu 29 = u29', uu 30 = u30', uu 31 = u31', uu 32 = u32', uu 33 = u33', uu 34 = u34', uu 35 = u35', uu 36 = u36', uu 37 = u37', uu 38 = u38', uu 39 = u39', uu 40 = u40'
    clear uu
    rename_i K hK
    refine hK _ _ ?_
    by_cases he : er = 0
    · have q2 : ((er : Int) != 0) = false := by rw [bne_eq_false_iff_eq]; omega
      have hz := readS_zero (st := (t.data.toList, 0)) (by rw [HR.out, HEr.out]; exact he)
      rw [HR.out] at hz
      have hcat : t.data.toList = packG R.2 ++ xs.data.toList := by rw [HXs.out]; exact hz.2
      obtain ⟨pk, hpk⟩ : ∃ pk : ByteArray, pk.data.toList = packG R.2 := ⟨⟨(packG R.2).toArray⟩, by simp⟩
      have hsz : t.size = pk.size + xs.size := by
        have e1 : t.size = t.data.toList.length := rfl
        have e2 : pk.size = pk.data.toList.length := rfl
        have e3 : xs.size = xs.data.toList.length := rfl
        rw [e1, e2, e3, hcat, hpk, List.length_append]
      obtain ⟨kk, hkk⟩ : ∃ kk, pk.size = kk := ⟨_, rfl⟩
      have hks : (t.size : Int) - (xs.size : Int) = (kk : Int) := by omega
      have hkt : (kk : Int) ≤ (t.size : Int) := by omega
      have htz : (t.size : Int) ≤ 120 := HTz.out
      have hwk : IntKind.i64.wrap (kk : Int) = (kk : Int) := by rw [IntKind.wrap_i64]; omega
      have heq : (pk.toList == (t.extract 0 kk).toList) = true := by
        refine beq_lists ?_
        rw [hpk]
        have hkl : kk = (packG R.2).length := by rw [← hkk, ← hpk]; rfl
        rw [show (t.extract 0 kk).data.toList = t.data.toList.take kk by simp, hcat, hkl, List.take_left' rfl]
      have HPk := Lib.hid hpk
      clear he hz hcat hpk hsz hkk
      go_upto_region 11 with fail
      refine Go.Proofs.YtkggmcnocpgnbaaDoor.R.wp_region_prog [] (by kernel_rfl) (fun _ _ u => ReS p px ga gn gc xa gn xc xs er R w5 u) (fun _ _ => True) (RgOk9 px ga gn gc xs t pk er kk) (by rfl) (by kernel_rfl) (by kernel_rfl) (by kernel_rfl) ?hcong ?hOk ?hop ?hdone ?h0
      case hcong => exact fun k f f2 u hs hst => hst
      case hOk => intro i u w1 w2 h hr; unfold RgOk9 at h ⊢; split <;> first | exact True.intro | exact h
      case h0 => exact H1.out.below ((Below.refl _ _).drew)
      case hop =>
        refine ⟨?_, ?_, ?_, ?_, ?_, ?_, ?_, ?_, ?_, ?_, ?_, ?_, ?_, ?_, ?_, ?_, ?_, trivial⟩
        · intro k z v hst hag hdep
          refine .inl ⟨rfl, fun K hK => ?_⟩
          have d5 : z.tmps.getD 5 undef = .pointer (some ⟨px, 0, none⟩) := hag.2.2 5 (by kernel_rfl)
          have e5 := d5
          rw [Array.getD_eq_getD_getElem?] at e5
          have HSt := Lib.hid hst
          clear hdep hag hst
          go_simp
          exact hK _ _ trivial rfl HSt.out
        · intro k z v hst hag hdep
          refine .inl ⟨rfl, fun K hK => ?_⟩
          have d42 : z.tmps.getD 42 undef = .pointer (some ⟨px, 1, none⟩) := hdep { on := 0, ground := .data } (by simp) rfl _ _ rfl rfl
          have e42 := d42
          rw [Array.getD_eq_getD_getElem?] at e42
          have hst : ReS p px ga gn gc xa gn xc xs er R w5 v := hst
          have l1 := hst.c1
          have HSt := Lib.hid hst
          clear hdep hag hst
          go_simp
          exact hK _ _ trivial rfl HSt.out
        · intro k z v hst hag hdep
          refine .inl ⟨rfl, fun K hK => ?_⟩
          have d43 : z.tmps.getD 43 undef = .int .i64 (er : Int) := hdep { on := 1, ground := .data } (by simp) rfl _ _ rfl rfl
          have e43 := d43
          rw [Array.getD_eq_getD_getElem?] at e43
          have HSt := Lib.hid hst
          clear hdep hag hst
          go_simp
          exact hK _ _ trivial rfl HSt.out
        · intro k z v hst hag hdep
          refine .inl ⟨rfl, fun K hK => ?_⟩
          have d44 : z.tmps.getD 44 undef = .bool false := hdep { on := 2, ground := .data } (by simp) rfl _ _ rfl rfl
          have e44 := d44
          rw [Array.getD_eq_getD_getElem?] at e44
          have HSt := Lib.hid hst
          clear hdep hag hst
          go_simp
          exact hK _ _ trivial rfl HSt.out
        · intro k z v hst hag hdep
          have dg : RgOk9 px ga gn gc xs t pk er kk 3 (z.tmps.getD 45 undef) v := hdep { on := 3, ground := .guard } (by simp) rfl _ _ rfl rfl
          simp only [RgOk9] at dg
          refine .inl ⟨Go.Proofs.YtkggmcnocpgnbaaDoor.R.wanted_of (j := 3) rfl rfl rfl dg (by rw [hag.2.1]; show 45 < 58; decide), fun K hK => ?_⟩
          have d4 : z.tmps.getD 4 undef = .slice ga gn gc := hag.2.2 4 (by kernel_rfl)
          have e4 := d4
          rw [Array.getD_eq_getD_getElem?] at e4
          have HSt := Lib.hid hst
          clear hdep hag hst
          go_simp
          exact hK _ _ trivial rfl HSt.out
        · intro k z v hst hag hdep
          have dg : RgOk9 px ga gn gc xs t pk er kk 3 (z.tmps.getD 45 undef) v := hdep { on := 3, ground := .guard } (by simp) rfl _ _ rfl rfl
          simp only [RgOk9] at dg
          refine .inl ⟨Go.Proofs.YtkggmcnocpgnbaaDoor.R.wanted_of (j := 3) rfl rfl rfl dg (by rw [hag.2.1]; show 45 < 58; decide), fun K hK => ?_⟩
          have d46 : z.tmps.getD 46 undef = .slice ga gn gc := hdep { on := 4, ground := .data } (by simp) rfl _ _ rfl rfl
          have e46 := d46
          rw [Array.getD_eq_getD_getElem?] at e46
          have hst : ReS p px ga gn gc xa gn xc xs er R w5 v := hst
          have HC := Lib.hid (pack_any ga gn gc R.2 v hst.g HRg.out HG24.out)
          have HSt := Lib.hid hst
          clear hdep hag hst
          go_simp
          refine HC.out.mono ?_
          rintro e w' ⟨u, rfl, hu, hb⟩
          obtain rfl : u = pk := bytes_eq (by rw [hu, HPk.out])
          exact hK _ _ trivial rfl (HSt.out.below hb)
        · intro k z v hst hag hdep
          have dg : RgOk9 px ga gn gc xs t pk er kk 3 (z.tmps.getD 45 undef) v := hdep { on := 3, ground := .guard } (by simp) rfl _ _ rfl rfl
          simp only [RgOk9] at dg
          refine .inl ⟨Go.Proofs.YtkggmcnocpgnbaaDoor.R.wanted_of (j := 3) rfl rfl rfl dg (by rw [hag.2.1]; show 45 < 58; decide), fun K hK => ?_⟩
          have d0 : z.tmps.getD 0 undef = .string t := hag.2.2 0 (by kernel_rfl)
          have e0 := d0
          rw [Array.getD_eq_getD_getElem?] at e0
          have HSt := Lib.hid hst
          clear hdep hag hst
          go_simp
          exact hK _ _ trivial rfl HSt.out
        · intro k z v hst hag hdep
          have dg : RgOk9 px ga gn gc xs t pk er kk 3 (z.tmps.getD 45 undef) v := hdep { on := 3, ground := .guard } (by simp) rfl _ _ rfl rfl
          simp only [RgOk9] at dg
          refine .inl ⟨Go.Proofs.YtkggmcnocpgnbaaDoor.R.wanted_of (j := 3) rfl rfl rfl dg (by rw [hag.2.1]; show 45 < 58; decide), fun K hK => ?_⟩
          have d0 : z.tmps.getD 0 undef = .string t := hag.2.2 0 (by kernel_rfl)
          have e0 := d0
          rw [Array.getD_eq_getD_getElem?] at e0
          have HSt := Lib.hid hst
          clear hdep hag hst
          go_simp
          exact hK _ _ trivial rfl HSt.out
        · intro k z v hst hag hdep
          have dg : RgOk9 px ga gn gc xs t pk er kk 3 (z.tmps.getD 45 undef) v := hdep { on := 3, ground := .guard } (by simp) rfl _ _ rfl rfl
          simp only [RgOk9] at dg
          refine .inl ⟨Go.Proofs.YtkggmcnocpgnbaaDoor.R.wanted_of (j := 3) rfl rfl rfl dg (by rw [hag.2.1]; show 45 < 58; decide), fun K hK => ?_⟩
          have d49 : z.tmps.getD 49 undef = .string t := hdep { on := 7, ground := .data } (by simp) rfl _ _ rfl rfl
          have e49 := d49
          rw [Array.getD_eq_getD_getElem?] at e49
          have HSt := Lib.hid hst
          clear hdep hag hst
          go_simp
          exact hK _ _ trivial rfl HSt.out
        · intro k z v hst hag hdep
          have dg : RgOk9 px ga gn gc xs t pk er kk 3 (z.tmps.getD 45 undef) v := hdep { on := 3, ground := .guard } (by simp) rfl _ _ rfl rfl
          simp only [RgOk9] at dg
          refine .inl ⟨Go.Proofs.YtkggmcnocpgnbaaDoor.R.wanted_of (j := 3) rfl rfl rfl dg (by rw [hag.2.1]; show 45 < 58; decide), fun K hK => ?_⟩
          have d5 : z.tmps.getD 5 undef = .pointer (some ⟨px, 0, none⟩) := hag.2.2 5 (by kernel_rfl)
          have e5 := d5
          rw [Array.getD_eq_getD_getElem?] at e5
          have HSt := Lib.hid hst
          clear hdep hag hst
          go_simp
          exact hK _ _ trivial rfl HSt.out
        · intro k z v hst hag hdep
          have dg : RgOk9 px ga gn gc xs t pk er kk 3 (z.tmps.getD 45 undef) v := hdep { on := 3, ground := .guard } (by simp) rfl _ _ rfl rfl
          simp only [RgOk9] at dg
          refine .inl ⟨Go.Proofs.YtkggmcnocpgnbaaDoor.R.wanted_of (j := 3) rfl rfl rfl dg (by rw [hag.2.1]; show 45 < 58; decide), fun K hK => ?_⟩
          have d51 : z.tmps.getD 51 undef = .pointer (some ⟨px, 0, none⟩) := hdep { on := 9, ground := .data } (by simp) rfl _ _ rfl rfl
          have e51 := d51
          rw [Array.getD_eq_getD_getElem?] at e51
          have hst : ReS p px ga gn gc xa gn xc xs er R w5 v := hst
          have l0 := hst.c0
          have HSt := Lib.hid hst
          clear hdep hag hst
          go_simp
          exact hK _ _ trivial rfl HSt.out
        · intro k z v hst hag hdep
          have dg : RgOk9 px ga gn gc xs t pk er kk 3 (z.tmps.getD 45 undef) v := hdep { on := 3, ground := .guard } (by simp) rfl _ _ rfl rfl
          simp only [RgOk9] at dg
          refine .inl ⟨Go.Proofs.YtkggmcnocpgnbaaDoor.R.wanted_of (j := 3) rfl rfl rfl dg (by rw [hag.2.1]; show 45 < 58; decide), fun K hK => ?_⟩
          have d52 : z.tmps.getD 52 undef = .string xs := hdep { on := 10, ground := .data } (by simp) rfl _ _ rfl rfl
          have e52 := d52
          rw [Array.getD_eq_getD_getElem?] at e52
          have HSt := Lib.hid hst
          clear hdep hag hst
          go_simp
          exact hK _ _ trivial rfl HSt.out
        · intro k z v hst hag hdep
          have dg : RgOk9 px ga gn gc xs t pk er kk 3 (z.tmps.getD 45 undef) v := hdep { on := 3, ground := .guard } (by simp) rfl _ _ rfl rfl
          simp only [RgOk9] at dg
          refine .inl ⟨Go.Proofs.YtkggmcnocpgnbaaDoor.R.wanted_of (j := 3) rfl rfl rfl dg (by rw [hag.2.1]; show 45 < 58; decide), fun K hK => ?_⟩
          have d50 : z.tmps.getD 50 undef = .int .i64 (t.size : Int) := hdep { on := 8, ground := .data } (by simp) rfl _ _ rfl rfl
          have e50 := d50
          rw [Array.getD_eq_getD_getElem?] at e50
          have d53 : z.tmps.getD 53 undef = .int .i64 (xs.size : Int) := hdep { on := 11, ground := .data } (by simp) rfl _ _ rfl rfl
          have e53 := d53
          rw [Array.getD_eq_getD_getElem?] at e53
          have HSt := Lib.hid hst
          clear hdep hag hst
          go_simp
          exact hK _ _ trivial rfl HSt.out
        · intro k z v hst hag hdep
          have dg : RgOk9 px ga gn gc xs t pk er kk 3 (z.tmps.getD 45 undef) v := hdep { on := 3, ground := .guard } (by simp) rfl _ _ rfl rfl
          simp only [RgOk9] at dg
          refine .inl ⟨Go.Proofs.YtkggmcnocpgnbaaDoor.R.wanted_of (j := 3) rfl rfl rfl dg (by rw [hag.2.1]; show 45 < 58; decide), fun K hK => ?_⟩
          have d48 : z.tmps.getD 48 undef = .string t := hdep { on := 6, ground := .data } (by simp) rfl _ _ rfl rfl
          have e48 := d48
          rw [Array.getD_eq_getD_getElem?] at e48
          have d54 : z.tmps.getD 54 undef = .int .i64 (kk : Int) := hdep { on := 12, ground := .data } (by simp) rfl _ _ rfl rfl
          have e54 := d54
          rw [Array.getD_eq_getD_getElem?] at e54
          have HSt := Lib.hid hst
          clear hdep hag hst
          go_simp
          exact hK _ _ trivial rfl HSt.out
        · intro k z v hst hag hdep
          have dg : RgOk9 px ga gn gc xs t pk er kk 3 (z.tmps.getD 45 undef) v := hdep { on := 3, ground := .guard } (by simp) rfl _ _ rfl rfl
          simp only [RgOk9] at dg
          refine .inl ⟨Go.Proofs.YtkggmcnocpgnbaaDoor.R.wanted_of (j := 3) rfl rfl rfl dg (by rw [hag.2.1]; show 45 < 58; decide), fun K hK => ?_⟩
          have d47 : z.tmps.getD 47 undef = .string pk := hdep { on := 5, ground := .data } (by simp) rfl _ _ rfl rfl
          have e47 := d47
          rw [Array.getD_eq_getD_getElem?] at e47
          have d55 : z.tmps.getD 55 undef = .string (t.extract 0 kk) := hdep { on := 13, ground := .data } (by simp) rfl _ _ rfl rfl
          have e55 := d55
          rw [Array.getD_eq_getD_getElem?] at e55
          have HSt := Lib.hid hst
          clear hdep hag hst
          go_simp
          exact hK _ _ trivial rfl HSt.out
        · intro k z v hst hag hdep
          refine .inl ⟨rfl, fun K hK => ?_⟩
          have d45 : z.tmps.getD 45 undef = .bool false := hdep { on := 3, ground := .data } (by simp) rfl _ _ rfl rfl
          have e45 := d45
          rw [Array.getD_eq_getD_getElem?] at e45
          have d56 : z.tmps.getD 56 undef = .bool true := hdep { on := 14, ground := .data } (by simp) rfl _ _ rfl rfl
          have e56 := d56
          rw [Array.getD_eq_getD_getElem?] at e56
          have HSt := Lib.hid hst
          clear hdep hag hst
          go_simp
          exact hK _ _ trivial rfl HSt.out
        · intro k z v hst hag hdep
          refine .inl ⟨rfl, fun K hK => ?_⟩
          have d57 : z.tmps.getD 57 undef = .bool true := hdep { on := 15, ground := .data } (by simp) rfl _ _ rfl rfl
          have e57 := d57
          rw [Array.getD_eq_getD_getElem?] at e57
          have HSt := Lib.hid hst
          clear hdep hag hst
          go_simp
          exact hK _ _ trivial rfl HSt.out
      case hdone =>
        intro z v hst hag hok
        have hst : ReS p px ga gn gc xa gn xc xs er R w5 v := hst
        have d2 : z.tmps.getD 2 undef = .bool true := hok 16 _ 2 rfl rfl
        have hend : Hid (P (.returned (.bool true)) v) := Lib.hid (by rw [← HP.out]; exact ⟨rfl, HB5.out.trans (hst.b.mono HR5.out)⟩)
        clear hst
        obtain ⟨uu, hu, hzz⟩ := Go.Proofs.YtkggmcnocpgnbaaDoor.R.agree_frame [42, 43, 44, 45, 46, 47, 48, 49, 50, 51, 52, 53, 54, 55, 56, 57, 2] rfl hag
        have e2 := (hu 2).trans d2
        subst hzz
        simp only [List.foldl_cons, List.foldl_nil]
        rw [e2]
        clear e2 d2 hu hag hok
        try dsimp only [Exit.then]
        simp only [List.setIfInBounds_toArray, List.set_cons_succ, List.set_cons_zero]
        generalize uu 42 = u42', uu 43 = u43', uu 44 = u44', uu 45 = u45', uu 46 = u46', uu 47 = u47', uu 48 = u48', uu 49 = u49', uu 50 = u50', uu 51 = u51', uu 52 = u52', uu 53 = u53', uu 54 = u54', uu 55 = u55', uu 56 = u56', uu 57 = u57'
        clear uu
        rename_i K hK
        refine hK _ _ ?_
        go_wp2_with fail
        exact hend.out
    · have q2 : ((er : Int) != 0) = true := by rw [bne_iff_ne]; omega
      clear he
      go_upto_region 11 with fail
      refine Go.Proofs.YtkggmcnocpgnbaaDoor.R.wp_region_prog [] (by kernel_rfl) (fun _ _ u => ReS p px ga gn gc xa gn xc xs er R w5 u) (fun _ _ => True) (RfOk px er) (by rfl) (by kernel_rfl) (by kernel_rfl) (by kernel_rfl) ?hcong ?hOk ?hop ?hdone ?h0
      case hcong => exact fun k f f2 u hs hst => hst
      case hOk => intro i u w1 w2 h hr; unfold RfOk at h ⊢; split <;> first | exact True.intro | exact h
      case h0 => exact H1.out.below ((Below.refl _ _).drew)
      case hop =>
        refine ⟨?_, ?_, ?_, ?_, ?_, ?_, ?_, ?_, ?_, ?_, ?_, ?_, ?_, ?_, ?_, ?_, ?_, trivial⟩
        · intro k z v hst hag hdep
          refine .inl ⟨rfl, fun K hK => ?_⟩
          have d5 : z.tmps.getD 5 undef = .pointer (some ⟨px, 0, none⟩) := hag.2.2 5 (by kernel_rfl)
          have e5 := d5
          rw [Array.getD_eq_getD_getElem?] at e5
          have HSt := Lib.hid hst
          clear hdep hag hst
          go_simp
          exact hK _ _ trivial rfl HSt.out
        · intro k z v hst hag hdep
          refine .inl ⟨rfl, fun K hK => ?_⟩
          have d42 : z.tmps.getD 42 undef = .pointer (some ⟨px, 1, none⟩) := hdep { on := 0, ground := .data } (by simp) rfl _ _ rfl rfl
          have e42 := d42
          rw [Array.getD_eq_getD_getElem?] at e42
          have hst : ReS p px ga gn gc xa gn xc xs er R w5 v := hst
          have l1 := hst.c1
          have HSt := Lib.hid hst
          clear hdep hag hst
          go_simp
          exact hK _ _ trivial rfl HSt.out
        · intro k z v hst hag hdep
          refine .inl ⟨rfl, fun K hK => ?_⟩
          have d43 : z.tmps.getD 43 undef = .int .i64 (er : Int) := hdep { on := 1, ground := .data } (by simp) rfl _ _ rfl rfl
          have e43 := d43
          rw [Array.getD_eq_getD_getElem?] at e43
          have HSt := Lib.hid hst
          clear hdep hag hst
          go_simp
          exact hK _ _ trivial rfl HSt.out
        · intro k z v hst hag hdep
          refine .inl ⟨rfl, fun K hK => ?_⟩
          have d44 : z.tmps.getD 44 undef = .bool true := hdep { on := 2, ground := .data } (by simp) rfl _ _ rfl rfl
          have e44 := d44
          rw [Array.getD_eq_getD_getElem?] at e44
          have HSt := Lib.hid hst
          clear hdep hag hst
          go_simp
          exact hK _ _ trivial rfl HSt.out
        · intro k z v hst hag hdep
          have dg : RfOk px er 3 (z.tmps.getD 45 undef) v := hdep { on := 3, ground := .guard } (by simp) rfl _ _ rfl rfl
          simp only [RfOk] at dg
          exact .inr ⟨Go.Proofs.YtkggmcnocpgnbaaDoor.R.unwanted_of (j := 3) rfl rfl rfl dg (by decide) (by rw [hag.2.1]; show 45 < 58; decide), trivial, True.intro⟩
        · intro k z v hst hag hdep
          have dg : RfOk px er 3 (z.tmps.getD 45 undef) v := hdep { on := 3, ground := .guard } (by simp) rfl _ _ rfl rfl
          simp only [RfOk] at dg
          exact .inr ⟨Go.Proofs.YtkggmcnocpgnbaaDoor.R.unwanted_of (j := 3) rfl rfl rfl dg (by decide) (by rw [hag.2.1]; show 45 < 58; decide), trivial, True.intro⟩
        · intro k z v hst hag hdep
          have dg : RfOk px er 3 (z.tmps.getD 45 undef) v := hdep { on := 3, ground := .guard } (by simp) rfl _ _ rfl rfl
          simp only [RfOk] at dg
          exact .inr ⟨Go.Proofs.YtkggmcnocpgnbaaDoor.R.unwanted_of (j := 3) rfl rfl rfl dg (by decide) (by rw [hag.2.1]; show 45 < 58; decide), trivial, True.intro⟩
        · intro k z v hst hag hdep
          have dg : RfOk px er 3 (z.tmps.getD 45 undef) v := hdep { on := 3, ground := .guard } (by simp) rfl _ _ rfl rfl
          simp only [RfOk] at dg
          exact .inr ⟨Go.Proofs.YtkggmcnocpgnbaaDoor.R.unwanted_of (j := 3) rfl rfl rfl dg (by decide) (by rw [hag.2.1]; show 45 < 58; decide), trivial, True.intro⟩
        · intro k z v hst hag hdep
          have dg : RfOk px er 3 (z.tmps.getD 45 undef) v := hdep { on := 3, ground := .guard } (by simp) rfl _ _ rfl rfl
          simp only [RfOk] at dg
          exact .inr ⟨Go.Proofs.YtkggmcnocpgnbaaDoor.R.unwanted_of (j := 3) rfl rfl rfl dg (by decide) (by rw [hag.2.1]; show 45 < 58; decide), trivial, True.intro⟩
        · intro k z v hst hag hdep
          have dg : RfOk px er 3 (z.tmps.getD 45 undef) v := hdep { on := 3, ground := .guard } (by simp) rfl _ _ rfl rfl
          simp only [RfOk] at dg
          exact .inr ⟨Go.Proofs.YtkggmcnocpgnbaaDoor.R.unwanted_of (j := 3) rfl rfl rfl dg (by decide) (by rw [hag.2.1]; show 45 < 58; decide), trivial, True.intro⟩
        · intro k z v hst hag hdep
          have dg : RfOk px er 3 (z.tmps.getD 45 undef) v := hdep { on := 3, ground := .guard } (by simp) rfl _ _ rfl rfl
          simp only [RfOk] at dg
          exact .inr ⟨Go.Proofs.YtkggmcnocpgnbaaDoor.R.unwanted_of (j := 3) rfl rfl rfl dg (by decide) (by rw [hag.2.1]; show 45 < 58; decide), trivial, True.intro⟩
        · intro k z v hst hag hdep
          have dg : RfOk px er 3 (z.tmps.getD 45 undef) v := hdep { on := 3, ground := .guard } (by simp) rfl _ _ rfl rfl
          simp only [RfOk] at dg
          exact .inr ⟨Go.Proofs.YtkggmcnocpgnbaaDoor.R.unwanted_of (j := 3) rfl rfl rfl dg (by decide) (by rw [hag.2.1]; show 45 < 58; decide), trivial, True.intro⟩
        · intro k z v hst hag hdep
          have dg : RfOk px er 3 (z.tmps.getD 45 undef) v := hdep { on := 3, ground := .guard } (by simp) rfl _ _ rfl rfl
          simp only [RfOk] at dg
          exact .inr ⟨Go.Proofs.YtkggmcnocpgnbaaDoor.R.unwanted_of (j := 3) rfl rfl rfl dg (by decide) (by rw [hag.2.1]; show 45 < 58; decide), trivial, True.intro⟩
        · intro k z v hst hag hdep
          have dg : RfOk px er 3 (z.tmps.getD 45 undef) v := hdep { on := 3, ground := .guard } (by simp) rfl _ _ rfl rfl
          simp only [RfOk] at dg
          exact .inr ⟨Go.Proofs.YtkggmcnocpgnbaaDoor.R.unwanted_of (j := 3) rfl rfl rfl dg (by decide) (by rw [hag.2.1]; show 45 < 58; decide), trivial, True.intro⟩
        · intro k z v hst hag hdep
          have dg : RfOk px er 3 (z.tmps.getD 45 undef) v := hdep { on := 3, ground := .guard } (by simp) rfl _ _ rfl rfl
          simp only [RfOk] at dg
          exact .inr ⟨Go.Proofs.YtkggmcnocpgnbaaDoor.R.unwanted_of (j := 3) rfl rfl rfl dg (by decide) (by rw [hag.2.1]; show 45 < 58; decide), trivial, True.intro⟩
        · intro k z v hst hag hdep
          refine .inl ⟨rfl, fun K hK => ?_⟩
          have d45 : z.tmps.getD 45 undef = .bool true := hdep { on := 3, ground := .data } (by simp) rfl _ _ rfl rfl
          have e45 := d45
          rw [Array.getD_eq_getD_getElem?] at e45
          have HSt := Lib.hid hst
          clear hdep hag hst
          go_simp
          exact hK _ _ trivial rfl HSt.out
        · intro k z v hst hag hdep
          refine .inl ⟨rfl, fun K hK => ?_⟩
          have d57 : z.tmps.getD 57 undef = .bool true := hdep { on := 15, ground := .data } (by simp) rfl _ _ rfl rfl
          have e57 := d57
          rw [Array.getD_eq_getD_getElem?] at e57
          have HSt := Lib.hid hst
          clear hdep hag hst
          go_simp
          exact hK _ _ trivial rfl HSt.out
      case hdone =>
        intro z v hst hag hok
        have hst : ReS p px ga gn gc xa gn xc xs er R w5 v := hst
        have d2 : z.tmps.getD 2 undef = .bool true := hok 16 _ 2 rfl rfl
        have hend : Hid (P (.returned (.bool true)) v) := Lib.hid (by rw [← HP.out]; exact ⟨rfl, HB5.out.trans (hst.b.mono HR5.out)⟩)
        clear hst
        obtain ⟨uu, hu, hzz⟩ := Go.Proofs.YtkggmcnocpgnbaaDoor.R.agree_frame [42, 43, 44, 45, 46, 47, 48, 49, 50, 51, 52, 53, 54, 55, 56, 57, 2] rfl hag
        have e2 := (hu 2).trans d2
        subst hzz
        simp only [List.foldl_cons, List.foldl_nil]
        rw [e2]
        clear e2 d2 hu hag hok
        try dsimp only [Exit.then]
        simp only [List.setIfInBounds_toArray, List.set_cons_succ, List.set_cons_zero]
        generalize uu 42 = u42', uu 43 = u43', uu 44 = u44', uu 45 = u45', uu 46 = u46', uu 47 = u47', uu 48 = u48', uu 49 = u49', uu 50 = u50', uu 51 = u51', uu 52 = u52', uu 53 = u53', uu 54 = u54', uu 55 = u55', uu 56 = u56', uu 57 = u57'
        clear uu
        rename_i K hK
        refine hK _ _ ?_
        go_wp2_with fail
        exact hend.out
end Go.Proofs.YtkggmcnocpgnbaaDoor.K
