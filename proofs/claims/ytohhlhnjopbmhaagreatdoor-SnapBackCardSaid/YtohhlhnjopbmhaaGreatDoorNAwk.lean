/- The statements' fixed fact. -/
import Derived.Test.YtohhlhnjopbmhaaGreatDoorMerged24
import Derived.Test.YtohhlhnjopbmhaaGreatDoorMerged23
import Derived.Test.YtohhlhnjopbmhaaGreatDoorMerged19
namespace Go.Proofs.YtohhlhnjopbmhaaGreatDoor.K
open Go.Proofs.YtohhlhnjopbmhaaGreatDoor.R (agree_frame wanted_of wp_region_due)
open Go.RowKit Go.Proofs.YtohhlhnjopbmhaaGreatDoor.I

def awS : Sn := ⟨1, 1, 1, 0, 0, ⟨#[]⟩, [⟨[⟨32, 0, 0⟩], false⟩], 0, 0, []⟩
theorem aw_of : ofN 1 (newS 1 1) ⟨[], []⟩ = awS := by decide +kernel
theorem aw_pack : packN awS = [1, 1, 1, 0, 0, 0, 0, 0, 0, 0, 1, 32, 0, 0] := by decide +kernel
theorem aw_may : MayN awS := by decide +kernel
theorem aw_b : SnB awS := by
  refine ⟨by decide, fun r hr => ?_, fun r hr => ?_, by decide, fun g hg => by cases hg⟩
  · rw [List.mem_singleton.1 hr]; decide
  · rw [List.mem_singleton.1 hr]; intro c hc; rw [List.mem_singleton.1 hc]; exact ⟨by decide, by decide⟩
theorem aw_parse : parseS [1, 1, 1, 0, 0, 0, 0, 0, 0, 0, 1, 32, 0, 0] = (awS, 0) := by rw [← aw_pack]; exact parse_back aw_may
theorem ownQ_in {base : Nat} {xa : Option Addr} {xn xc : Nat} {s : List (Int × Int)} {w : World} (h : OwnQ .i32 86 base (.slice xa xn xc) s w) : PairsIn .i32 xa xn xc s w ∧ (xa = none → xc = 0) := by
  obtain ⟨a, c, e, h3, h4, -⟩ := h.shape
  injection e with e1 e2 e3
  subst e1 e2 e3
  exact ⟨h3, h4⟩
def AwOkN (xa : Option Addr) (xn xc : Nat) (ya : Option Addr) (yn yc : Nat) (za : Option Addr) (zn zc : Nat) (va : Option Addr) (vn vc : Nat) : Nat → Value → World → Prop
  | 0, u, _ => u = .string ⟨#[1, 1, 1, 0, 0, 0, 0, 0, 0, 0, 1, 32, 0, 0]⟩
  | 1, u, _ => u = .bool true
  | 2, u, _ => u = .bool true
  | 3, u, _ => u = .int .i64 0
  | 4, u, _ => u = .bool true
  | 5, u, _ => u = .bool true
  | 6, u, _ => u = .bool true
  | 7, u, _ => u = .agg #[.int .i64 1, .int .i64 1, .int .i64 1, .int .i64 0, .int .i64 0, .string ⟨#[]⟩, .slice xa xn xc, .int .i64 0, .int .i64 0, .slice ya yn yc]
  | 8, u, _ => u = .agg #[.int .i64 1, .int .i64 1, .int .i64 1, .int .i64 0, .int .i64 0, .string ⟨#[]⟩, .slice za zn zc, .int .i64 0, .int .i64 0, .slice va vn vc]
  | 9, u, _ => u = .bool true
  | 10, u, _ => u = .bool true
  | 11, u, _ => u = .bool true
  | 12, u, _ => u = .agg #[.int .i64 1, .int .i64 1, .int .i64 1, .int .i64 0, .int .i64 0, .string ⟨#[]⟩, .slice za zn zc, .int .i64 0, .int .i64 0, .slice va vn vc]
  | 13, u, _ => u = .agg #[.int .i64 1, .int .i64 1, .int .i64 1, .int .i64 0, .int .i64 0, .string ⟨#[]⟩, .slice xa xn xc, .int .i64 0, .int .i64 0, .slice ya yn yc]
  | 14, u, w => ∃ a9 n9 c9 a8 n8 c8, u = .agg #[.int .i64 1, .int .i64 1, .int .i64 1, .int .i64 0, .int .i64 0, .string ⟨#[]⟩, .slice a9 n9 c9, .int .i64 0, .int .i64 0, .slice a8 n8 c8] ∧ SnIn .i32 a9 n9 c9 a8 n8 c8 awS w
  | 15, u, _ => u = .bool true
  | 16, u, _ => u = .bool true
  | 17, u, _ => u = .bool true
  | _, _, _ => True
set_option maxRecDepth 100000 in
set_option maxHeartbeats 16000000 in
theorem nawake_any (w : World) : Calls Tryz.prog 4 #[] w fun e w' => e = .returned (.bool true) ∧ Below w.heap.size w w' := by
  obtain ⟨P, hP⟩ : ∃ P : Ending → World → Prop, (fun e w' => e = .returned (.bool true) ∧ Below w.heap.size w w') = P := ⟨_, rfl⟩
  rw [hP]
  have HP := Lib.hid hP
  have H1 := Lib.hid (scnew_any 1 1 w)
  clear hP
  go_enter Tryz.func4, Tryz.ntmps4
  go_wp2_with fail
  refine H1.out.mono ?_
  rintro e w1 ⟨s, g, q, rfl, hs, hb1, -⟩
  have HS1 := Lib.hid hs
  have HB1 := Lib.hid hb1
  have H2 := Lib.hid (bnew_any w1)
  clear hs hb1 H1
  go_wp2_with fail
  refine H2.out.mono ?_
  rintro e w2 ⟨b, rfl, -, ho, hb2⟩
  have HO := Lib.hid ho
  have HS2 := Lib.hid (HS1.out.below hb2)
  have HB2 := Lib.hid (HB1.out.trans (hb2.mono HB1.out.size))
  have h3 := nof_any 1 w2 HS2.out ho (by decide) (by decide)
  rw [aw_of] at h3
  have H3 := Lib.hid h3
  clear ho hb2 H2 h3
  go_wp2_with fail
  refine H3.out.mono ?_
  rintro e w3 ⟨xa, xn, xc, ya, yn, yc, rfl, hin, hb3⟩
  obtain ⟨xb, hxb⟩ : ∃ xb, w3.heap.size = xb := ⟨_, rfl⟩
  obtain ⟨w4, hw4⟩ : ∃ w4, w3.alloc (.cells (snA awS xa xn xc ya yn yc) 25) = w4 := ⟨_, rfl⟩
  have hz4 : w4.heap[xb]? = some (.cells (snA awS xa xn xc ya yn yc) 25 (0, 0)) := by rw [← hw4, ← hxb]; exact heap_alloc_new w3 _
  have hb4 : Below w3.heap.size w3 w4 := by rw [← hw4]; exact (Below.refl _ _).alloc (Nat.le_refl _) _
  have HIn4 := Lib.hid (hin.belowAll hb4)
  have HB4 := Lib.hid (HB2.out.trans ((hb3.trans (hb4.mono hb3.size)).mono HB2.out.size))
  have HZ4 := Lib.hid hz4
  have HW4 := Lib.hid hw4
  have HXb := Lib.hid hxb
  have h5 := npack_any awS xa xn xc ya yn yc w4 HIn4.out aw_b
  rw [aw_pack] at h5
  obtain ⟨d0, d1, d2, d3, d4, d5, d6, d7, d8, d9⟩ := ten_cells hz4
  have H5 := Lib.hid h5
  clear hin hb3 hb4 hz4 hw4 hxb h5 H3
  unfold snA awS at HW4 H5 ⊢
  simp only [awS] at d0 d1 d2 d3 d4 d5 d6 d7 d8 d9
  go_upto_region 5 with fail
  rw [HW4.out, HXb.out]
  go_wp2_with fail
  refine H5.out.mono ?_
  rintro e w5 ⟨rfl, hb5⟩
  have hp6 : Calls Tryz.prog 16 #[.string ⟨#[1, 1, 1, 0, 0, 0, 0, 0, 0, 0, 1, 32, 0, 0]⟩] w5 fun e w' => ∃ za zn zc va vn vc, e = .returned (.tuple #[.agg #[.int .i64 1, .int .i64 1, .int .i64 1, .int .i64 0, .int .i64 0, .string ⟨#[]⟩, .slice za zn zc, .int .i64 0, .int .i64 0, .slice va vn vc], .int .i64 0]) ∧ GatR w5.heap.size (.slice za zn zc) awS.R w' ∧ OwnP .i32 86 w5.heap.size (.slice va vn vc) awS.B w' ∧ Below w5.heap.size w5 w' := by
    have h := nparse_any ⟨#[1, 1, 1, 0, 0, 0, 0, 0, 0, 0, 1, 32, 0, 0]⟩ (by decide) w5
    rw [show (⟨#[1, 1, 1, 0, 0, 0, 0, 0, 0, 0, 1, 32, 0, 0]⟩ : ByteArray).data.toList = [1, 1, 1, 0, 0, 0, 0, 0, 0, 0, 1, 32, 0, 0] from rfl, aw_parse] at h
    exact h
  have H6 := Lib.hid hp6
  have HB5 := Lib.hid (HB4.out.trans (hb5.mono HB4.out.size))
  have HIn5 := Lib.hid (HIn4.out.belowAll hb5)
  have HZ5 := Lib.hid ((hb5.block xb (Array.getElem?_eq_some_iff.1 HZ4.out).1).trans HZ4.out)
  clear hp6 hb5 H5 d0 d1 d2 d3 d4 d5 d6 d7 d8 d9
  go_wp2_with fail
  refine H6.out.mono ?_
  rintro e w6 ⟨za, zn, zc, va, vn, vc, rfl, hg6, ho6, hb6⟩
  obtain ⟨yb, hyb⟩ : ∃ yb, w6.heap.size = yb := ⟨_, rfl⟩
  obtain ⟨wg, hwg⟩ : ∃ wg, w6.alloc (.cells (snA awS za zn zc va vn vc) 25) = wg := ⟨_, rfl⟩
  have hzg : wg.heap[yb]? = some (.cells (snA awS za zn zc va vn vc) 25 (0, 0)) := by rw [← hwg, ← hyb]; exact heap_alloc_new w6 _
  have hbg : Below w6.heap.size w6 wg := by rw [← hwg]; exact (Below.refl _ _).alloc (Nat.le_refl _) _
  have hb56 := hb6.trans (hbg.mono hb6.size)
  have hiy : SnIn .i32 za zn zc va vn vc awS wg := (snIn_of hg6 ho6).belowAll hbg
  have hix := HIn5.out.belowAll hb56
  have hzx := (hb56.block xb (Array.getElem?_eq_some_iff.1 HZ5.out).1).trans HZ5.out
  have HBg := Lib.hid (HB5.out.trans (hb56.mono HB5.out.size))
  have HXc : Hid (∀ v, Below wg.heap.size wg v → v.heap[xb]? = some (.cells (snA awS xa xn xc ya yn yc) 25 (0, 0))) := Lib.hid (fun v hb => (hb.block xb (Array.getElem?_eq_some_iff.1 hzx).1).trans hzx)
  have HYc : Hid (∀ v, Below wg.heap.size wg v → v.heap[yb]? = some (.cells (snA awS za zn zc va vn vc) 25 (0, 0))) := Lib.hid (fun v hb => (hb.block yb (Array.getElem?_eq_some_iff.1 hzg).1).trans hzg)
  have HSame : Hid (∀ v, Below wg.heap.size wg v → Calls Tryz.prog 15 #[.agg #[.int .i64 1, .int .i64 1, .int .i64 1, .int .i64 0, .int .i64 0, .string ⟨#[]⟩, .slice xa xn xc, .int .i64 0, .int .i64 0, .slice ya yn yc], .agg #[.int .i64 1, .int .i64 1, .int .i64 1, .int .i64 0, .int .i64 0, .string ⟨#[]⟩, .slice za zn zc, .int .i64 0, .int .i64 0, .slice va vn vc]] v fun e w' => e = .returned (.bool true) ∧ Below v.heap.size v w') := Lib.hid (fun v hb => by
    have h := nsame_any awS awS xa xn xc ya yn yc za zn zc va vn vc v (hix.belowAll hb) (hiy.belowAll hb) aw_b aw_b
    rw [show decide (awS = awS) = true by simp] at h
    exact h)
  have HSame2 : Hid (∀ v, Below wg.heap.size wg v → ∀ a9 n9 c9 a8 n8 c8, SnIn .i32 a9 n9 c9 a8 n8 c8 awS v → Calls Tryz.prog 15 #[.agg #[.int .i64 1, .int .i64 1, .int .i64 1, .int .i64 0, .int .i64 0, .string ⟨#[]⟩, .slice za zn zc, .int .i64 0, .int .i64 0, .slice va vn vc], .agg #[.int .i64 1, .int .i64 1, .int .i64 1, .int .i64 0, .int .i64 0, .string ⟨#[]⟩, .slice a9 n9 c9, .int .i64 0, .int .i64 0, .slice a8 n8 c8]] v fun e w' => e = .returned (.bool true) ∧ Below v.heap.size v w') := Lib.hid (fun v hb a9 n9 c9 a8 n8 c8 h8 => by
    have h := nsame_any awS awS za zn zc va vn vc a9 n9 c9 a8 n8 c8 v (hiy.belowAll hb) h8 aw_b aw_b
    rw [show decide (awS = awS) = true by simp] at h
    exact h)
  have HClone : Hid (∀ v, Below wg.heap.size wg v → Calls Tryz.prog 14 #[.agg #[.int .i64 1, .int .i64 1, .int .i64 1, .int .i64 0, .int .i64 0, .string ⟨#[]⟩, .slice xa xn xc, .int .i64 0, .int .i64 0, .slice ya yn yc]] v fun e w' => ∃ a9 n9 c9 a8 n8 c8, e = .returned (.agg #[.int .i64 1, .int .i64 1, .int .i64 1, .int .i64 0, .int .i64 0, .string ⟨#[]⟩, .slice a9 n9 c9, .int .i64 0, .int .i64 0, .slice a8 n8 c8]) ∧ SnIn .i32 a9 n9 c9 a8 n8 c8 awS w' ∧ Below v.heap.size v w') := Lib.hid (fun v hb => by
    refine (nclone_any awS xa xn xc ya yn yc v (hix.belowAll hb) aw_b).mono ?_
    rintro e w' ⟨a9, n9, c9, a8, n8, c8, rfl, h1, h2, h3⟩
    obtain ⟨h4, h5⟩ := ownQ_in h2
    exact ⟨a9, n9, c9, a8, n8, c8, rfl, ⟨h1.rowsL (fun p hp => by cases hp), h4, h5⟩, h3⟩)
  have HWg := Lib.hid hwg
  have HYb := Lib.hid hyb
  have HE : Hid (∀ v, Below wg.heap.size wg v → P (.returned (.bool true)) v) := Lib.hid (fun v hb => by rw [← HP.out]; exact ⟨rfl, HBg.out.trans (hb.mono HBg.out.size)⟩)
  clear hg6 ho6 hb6 hyb hwg hzg hbg hb56 hiy hix hzx H6
  unfold snA awS at HWg
  go_upto_region 7 with fail
  rw [HWg.out, HYb.out]
  refine wp_region_due [] [0, 0, 0, 0, 0, 0, 0, 0, 0, 0, 0, 0, 0, 0, 0, 0, 0, 0] (by kernel_rfl) (fun _ _ u => Below wg.heap.size wg u) (fun u u2 => Below u.heap.size u u2) (AwOkN xa xn xc ya yn yc za zn zc va vn vc) (by rfl) (by kernel_rfl) (by kernel_rfl) (by kernel_rfl) (by kernel_rfl) ?hcong ?hOk ?hop ?hdone ?h0
  case hcong => exact fun k f f2 u hs hst => hst
  case hOk => intro i u w1 w2 h hr; unfold AwOkN at h ⊢; split at h <;> first | exact h | skip; obtain ⟨a9, n9, c9, a8, n8, c8, h1, h2⟩ := h; exact ⟨a9, n9, c9, a8, n8, c8, h1, h2.belowAll hr⟩
  case h0 => exact (Below.refl _ _).drew
  case hop =>
    refine ⟨?_, ?_, ?_, ?_, ?_, ?_, ?_, ?_, ?_, ?_, ?_, ?_, ?_, ?_, ?_, ?_, ?_, ?_, trivial⟩
    · intro k z v hk hst hag hdep
      refine .inl ⟨rfl, fun K hK => ?_⟩
      have d4 : z.tmps.getD 4 undef = .string ⟨#[1, 1, 1, 0, 0, 0, 0, 0, 0, 0, 1, 32, 0, 0]⟩ := hag.2.2 4 (by kernel_rfl)
      have e4 := d4
      rw [Array.getD_eq_getD_getElem?] at e4
      have HSt := Lib.hid hst
      clear hdep hag hst
      go_simp
      exact hK _ _ (Below.refl _ _) rfl HSt.out
    · intro k z v hk hst hag hdep
      refine .inl ⟨rfl, fun K hK => ?_⟩
      have d25 : z.tmps.getD 25 undef = .string ⟨#[1, 1, 1, 0, 0, 0, 0, 0, 0, 0, 1, 32, 0, 0]⟩ := hdep { on := 0, ground := .data } (by simp) rfl _ _ rfl rfl
      have e25 := d25
      rw [Array.getD_eq_getD_getElem?] at e25
      have HSt := Lib.hid hst
      clear hdep hag hst
      go_simp
      exact hK _ _ (Below.refl _ _) rfl HSt.out
    · intro k z v hk hst hag hdep
      refine .inl ⟨rfl, fun K hK => ?_⟩
      have d26 : z.tmps.getD 26 undef = .bool true := hdep { on := 1, ground := .data } (by simp) rfl _ _ rfl rfl
      have e26 := d26
      rw [Array.getD_eq_getD_getElem?] at e26
      have HSt := Lib.hid hst
      clear hdep hag hst
      go_simp
      exact hK _ _ (Below.refl _ _) rfl HSt.out
    · intro k z v hk hst hag hdep
      have dg : AwOkN xa xn xc ya yn yc za zn zc va vn vc 2 (z.tmps.getD 27 undef) v := hdep { on := 2, ground := .guard } (by simp) rfl _ _ rfl rfl
      simp only [AwOkN] at dg
      refine .inl ⟨wanted_of (j := 2) rfl rfl rfl dg (by rw [hag.2.1]; show 27 < 42; decide), fun K hK => ?_⟩
      have d6 : z.tmps.getD 6 undef = .int .i64 0 := hag.2.2 6 (by kernel_rfl)
      have e6 := d6
      rw [Array.getD_eq_getD_getElem?] at e6
      have HSt := Lib.hid hst
      clear hdep hag hst
      go_simp
      exact hK _ _ (Below.refl _ _) rfl HSt.out
    · intro k z v hk hst hag hdep
      have dg : AwOkN xa xn xc ya yn yc za zn zc va vn vc 2 (z.tmps.getD 27 undef) v := hdep { on := 2, ground := .guard } (by simp) rfl _ _ rfl rfl
      simp only [AwOkN] at dg
      refine .inl ⟨wanted_of (j := 2) rfl rfl rfl dg (by rw [hag.2.1]; show 27 < 42; decide), fun K hK => ?_⟩
      have d28 : z.tmps.getD 28 undef = .int .i64 0 := hdep { on := 3, ground := .data } (by simp) rfl _ _ rfl rfl
      have e28 := d28
      rw [Array.getD_eq_getD_getElem?] at e28
      have HSt := Lib.hid hst
      clear hdep hag hst
      go_simp
      exact hK _ _ (Below.refl _ _) rfl HSt.out
    · intro k z v hk hst hag hdep
      refine .inl ⟨rfl, fun K hK => ?_⟩
      have d27 : z.tmps.getD 27 undef = .bool true := hdep { on := 2, ground := .data } (by simp) rfl _ _ rfl rfl
      have e27 := d27
      rw [Array.getD_eq_getD_getElem?] at e27
      have d29 : z.tmps.getD 29 undef = .bool true := hdep { on := 4, ground := .data } (by simp) rfl _ _ rfl rfl
      have e29 := d29
      rw [Array.getD_eq_getD_getElem?] at e29
      have HSt := Lib.hid hst
      clear hdep hag hst
      go_simp
      exact hK _ _ (Below.refl _ _) rfl HSt.out
    · intro k z v hk hst hag hdep
      refine .inl ⟨rfl, fun K hK => ?_⟩
      have d30 : z.tmps.getD 30 undef = .bool true := hdep { on := 5, ground := .data } (by simp) rfl _ _ rfl rfl
      have e30 := d30
      rw [Array.getD_eq_getD_getElem?] at e30
      have HSt := Lib.hid hst
      clear hdep hag hst
      go_simp
      exact hK _ _ (Below.refl _ _) rfl HSt.out
    · intro k z v hk hst hag hdep
      have dg : AwOkN xa xn xc ya yn yc za zn zc va vn vc 6 (z.tmps.getD 31 undef) v := hdep { on := 6, ground := .guard } (by simp) rfl _ _ rfl rfl
      simp only [AwOkN] at dg
      refine .inl ⟨wanted_of (j := 6) rfl rfl rfl dg (by rw [hag.2.1]; show 31 < 42; decide), fun K hK => ?_⟩
      have d3 : z.tmps.getD 3 undef = .pointer (some ⟨xb, 0, none⟩) := hag.2.2 3 (by kernel_rfl)
      have e3 := d3
      rw [Array.getD_eq_getD_getElem?] at e3
      have hb : Below wg.heap.size wg v := hst
      obtain ⟨d0, d1, d2, d3, d4, d5, d6, d7, d8, d9⟩ := ten_cells (s := awS) (HXc.out v hb)
      simp only [awS] at d0 d1 d2 d3 d4 d5 d6 d7 d8 d9
      clear hb
      have HSt := Lib.hid hst
      clear hdep hag hst
      go_simp
      exact hK _ _ (Below.refl _ _) rfl HSt.out
    · intro k z v hk hst hag hdep
      have dg : AwOkN xa xn xc ya yn yc za zn zc va vn vc 6 (z.tmps.getD 31 undef) v := hdep { on := 6, ground := .guard } (by simp) rfl _ _ rfl rfl
      simp only [AwOkN] at dg
      refine .inl ⟨wanted_of (j := 6) rfl rfl rfl dg (by rw [hag.2.1]; show 31 < 42; decide), fun K hK => ?_⟩
      have d5 : z.tmps.getD 5 undef = .pointer (some ⟨yb, 0, none⟩) := hag.2.2 5 (by kernel_rfl)
      have e5 := d5
      rw [Array.getD_eq_getD_getElem?] at e5
      have hb : Below wg.heap.size wg v := hst
      obtain ⟨d0, d1, d2, d3, d4, d5, d6, d7, d8, d9⟩ := ten_cells (s := awS) (HYc.out v hb)
      simp only [awS] at d0 d1 d2 d3 d4 d5 d6 d7 d8 d9
      clear hb
      have HSt := Lib.hid hst
      clear hdep hag hst
      go_simp
      exact hK _ _ (Below.refl _ _) rfl HSt.out
    · intro k z v hk hst hag hdep
      have dg : AwOkN xa xn xc ya yn yc za zn zc va vn vc 6 (z.tmps.getD 31 undef) v := hdep { on := 6, ground := .guard } (by simp) rfl _ _ rfl rfl
      simp only [AwOkN] at dg
      refine .inl ⟨wanted_of (j := 6) rfl rfl rfl dg (by rw [hag.2.1]; show 31 < 42; decide), fun K hK => ?_⟩
      have d32 : z.tmps.getD 32 undef = .agg #[.int .i64 1, .int .i64 1, .int .i64 1, .int .i64 0, .int .i64 0, .string ⟨#[]⟩, .slice xa xn xc, .int .i64 0, .int .i64 0, .slice ya yn yc] := hdep { on := 7, ground := .data } (by simp) rfl _ _ rfl rfl
      have e32 := d32
      rw [Array.getD_eq_getD_getElem?] at e32
      have d33 : z.tmps.getD 33 undef = .agg #[.int .i64 1, .int .i64 1, .int .i64 1, .int .i64 0, .int .i64 0, .string ⟨#[]⟩, .slice za zn zc, .int .i64 0, .int .i64 0, .slice va vn vc] := hdep { on := 8, ground := .data } (by simp) rfl _ _ rfl rfl
      have e33 := d33
      rw [Array.getD_eq_getD_getElem?] at e33
      have hb : Below wg.heap.size wg v := hst
      have HSm := Lib.hid (HSame.out v hb)
      have HBv := Lib.hid hb
      clear hdep hag hst hb
      go_simp
      refine HSm.out.mono ?_
      rintro e w' ⟨rfl, h9⟩
      exact hK _ _ h9 rfl (HBv.out.trans (h9.mono HBv.out.size))
    · intro k z v hk hst hag hdep
      refine .inl ⟨rfl, fun K hK => ?_⟩
      have d31 : z.tmps.getD 31 undef = .bool true := hdep { on := 6, ground := .data } (by simp) rfl _ _ rfl rfl
      have e31 := d31
      rw [Array.getD_eq_getD_getElem?] at e31
      have d34 : z.tmps.getD 34 undef = .bool true := hdep { on := 9, ground := .data } (by simp) rfl _ _ rfl rfl
      have e34 := d34
      rw [Array.getD_eq_getD_getElem?] at e34
      have HSt := Lib.hid hst
      clear hdep hag hst
      go_simp
      exact hK _ _ (Below.refl _ _) rfl HSt.out
    · intro k z v hk hst hag hdep
      refine .inl ⟨rfl, fun K hK => ?_⟩
      have d35 : z.tmps.getD 35 undef = .bool true := hdep { on := 10, ground := .data } (by simp) rfl _ _ rfl rfl
      have e35 := d35
      rw [Array.getD_eq_getD_getElem?] at e35
      have HSt := Lib.hid hst
      clear hdep hag hst
      go_simp
      exact hK _ _ (Below.refl _ _) rfl HSt.out
    · intro k z v hk hst hag hdep
      have dg : AwOkN xa xn xc ya yn yc za zn zc va vn vc 11 (z.tmps.getD 36 undef) v := hdep { on := 11, ground := .guard } (by simp) rfl _ _ rfl rfl
      simp only [AwOkN] at dg
      refine .inl ⟨wanted_of (j := 11) rfl rfl rfl dg (by rw [hag.2.1]; show 36 < 42; decide), fun K hK => ?_⟩
      have d5 : z.tmps.getD 5 undef = .pointer (some ⟨yb, 0, none⟩) := hag.2.2 5 (by kernel_rfl)
      have e5 := d5
      rw [Array.getD_eq_getD_getElem?] at e5
      have hb : Below wg.heap.size wg v := hst
      obtain ⟨d0, d1, d2, d3, d4, d5, d6, d7, d8, d9⟩ := ten_cells (s := awS) (HYc.out v hb)
      simp only [awS] at d0 d1 d2 d3 d4 d5 d6 d7 d8 d9
      clear hb
      have HSt := Lib.hid hst
      clear hdep hag hst
      go_simp
      exact hK _ _ (Below.refl _ _) rfl HSt.out
    · intro k z v hk hst hag hdep
      have dg : AwOkN xa xn xc ya yn yc za zn zc va vn vc 11 (z.tmps.getD 36 undef) v := hdep { on := 11, ground := .guard } (by simp) rfl _ _ rfl rfl
      simp only [AwOkN] at dg
      refine .inl ⟨wanted_of (j := 11) rfl rfl rfl dg (by rw [hag.2.1]; show 36 < 42; decide), fun K hK => ?_⟩
      have d3 : z.tmps.getD 3 undef = .pointer (some ⟨xb, 0, none⟩) := hag.2.2 3 (by kernel_rfl)
      have e3 := d3
      rw [Array.getD_eq_getD_getElem?] at e3
      have hb : Below wg.heap.size wg v := hst
      obtain ⟨d0, d1, d2, d3, d4, d5, d6, d7, d8, d9⟩ := ten_cells (s := awS) (HXc.out v hb)
      simp only [awS] at d0 d1 d2 d3 d4 d5 d6 d7 d8 d9
      clear hb
      have HSt := Lib.hid hst
      clear hdep hag hst
      go_simp
      exact hK _ _ (Below.refl _ _) rfl HSt.out
    · intro k z v hk hst hag hdep
      have dg : AwOkN xa xn xc ya yn yc za zn zc va vn vc 11 (z.tmps.getD 36 undef) v := hdep { on := 11, ground := .guard } (by simp) rfl _ _ rfl rfl
      simp only [AwOkN] at dg
      refine .inl ⟨wanted_of (j := 11) rfl rfl rfl dg (by rw [hag.2.1]; show 36 < 42; decide), fun K hK => ?_⟩
      have d38 : z.tmps.getD 38 undef = .agg #[.int .i64 1, .int .i64 1, .int .i64 1, .int .i64 0, .int .i64 0, .string ⟨#[]⟩, .slice xa xn xc, .int .i64 0, .int .i64 0, .slice ya yn yc] := hdep { on := 13, ground := .data } (by simp) rfl _ _ rfl rfl
      have e38 := d38
      rw [Array.getD_eq_getD_getElem?] at e38
      have hb : Below wg.heap.size wg v := hst
      have HCl := Lib.hid (HClone.out v hb)
      have HBv := Lib.hid hb
      clear hdep hag hst hb
      go_simp
      refine HCl.out.mono ?_
      rintro e w' ⟨a9, n9, c9, a8, n8, c8, rfl, h8, h9⟩
      exact hK _ _ h9 ⟨a9, n9, c9, a8, n8, c8, rfl, h8⟩ (HBv.out.trans (h9.mono HBv.out.size))
    · intro k z v hk hst hag hdep
      have dg : AwOkN xa xn xc ya yn yc za zn zc va vn vc 11 (z.tmps.getD 36 undef) v := hdep { on := 11, ground := .guard } (by simp) rfl _ _ rfl rfl
      simp only [AwOkN] at dg
      refine .inl ⟨wanted_of (j := 11) rfl rfl rfl dg (by rw [hag.2.1]; show 36 < 42; decide), fun K hK => ?_⟩
      have d37 : z.tmps.getD 37 undef = .agg #[.int .i64 1, .int .i64 1, .int .i64 1, .int .i64 0, .int .i64 0, .string ⟨#[]⟩, .slice za zn zc, .int .i64 0, .int .i64 0, .slice va vn vc] := hdep { on := 12, ground := .data } (by simp) rfl _ _ rfl rfl
      have e37 := d37
      rw [Array.getD_eq_getD_getElem?] at e37
      have d39' : AwOkN xa xn xc ya yn yc za zn zc va vn vc 14 (z.tmps.getD 39 undef) v := hdep { on := 14, ground := .data } (by simp) rfl _ _ rfl rfl
      simp only [AwOkN] at d39'
      obtain ⟨a9, n9, c9, a8, n8, c8, d39, hp9⟩ := d39'
      have e39 := d39
      rw [Array.getD_eq_getD_getElem?] at e39
      have hb : Below wg.heap.size wg v := hst
      have HSm := Lib.hid (HSame2.out v hb _ _ _ _ _ _ hp9)
      have HBv := Lib.hid hb
      clear hdep hag hst hb hp9
      go_simp
      refine HSm.out.mono ?_
      rintro e w' ⟨rfl, h9⟩
      exact hK _ _ h9 rfl (HBv.out.trans (h9.mono HBv.out.size))
    · intro k z v hk hst hag hdep
      refine .inl ⟨rfl, fun K hK => ?_⟩
      have d36 : z.tmps.getD 36 undef = .bool true := hdep { on := 11, ground := .data } (by simp) rfl _ _ rfl rfl
      have e36 := d36
      rw [Array.getD_eq_getD_getElem?] at e36
      have d40 : z.tmps.getD 40 undef = .bool true := hdep { on := 15, ground := .data } (by simp) rfl _ _ rfl rfl
      have e40 := d40
      rw [Array.getD_eq_getD_getElem?] at e40
      have HSt := Lib.hid hst
      clear hdep hag hst
      go_simp
      exact hK _ _ (Below.refl _ _) rfl HSt.out
    · intro k z v hk hst hag hdep
      refine .inl ⟨rfl, fun K hK => ?_⟩
      have d41 : z.tmps.getD 41 undef = .bool true := hdep { on := 16, ground := .data } (by simp) rfl _ _ rfl rfl
      have e41 := d41
      rw [Array.getD_eq_getD_getElem?] at e41
      have HSt := Lib.hid hst
      clear hdep hag hst
      go_simp
      exact hK _ _ (Below.refl _ _) rfl HSt.out
  case hdone =>
    intro z v hst hag hok
    have hb : Below wg.heap.size wg v := hst
    have d0 : z.tmps.getD 0 undef = .bool true := hok 17 _ 0 rfl rfl
    have HEv := Lib.hid (HE.out v hb)
    clear hb hst
    obtain ⟨uu, hu, hzz⟩ := agree_frame [25, 26, 27, 28, 29, 30, 31, 32, 33, 34, 35, 36, 37, 38, 39, 40, 41, 0] rfl hag
    have e0 := (hu 0).trans d0
    subst hzz
    simp only [List.foldl_cons, List.foldl_nil]
    rw [e0]
    clear e0 d0 hu hag hok
    try dsimp only [Exit.then]
    simp only [List.setIfInBounds_toArray, List.set_cons_succ, List.set_cons_zero]
    generalize uu 25 = u25', uu 26 = u26', uu 27 = u27', uu 28 = u28', uu 29 = u29', uu 30 = u30', uu 31 = u31', uu 32 = u32', uu 33 = u33', uu 34 = u34', uu 35 = u35', uu 36 = u36', uu 37 = u37', uu 38 = u38', uu 39 = u39', uu 40 = u40', uu 41 = u41'
    clear uu
    go_wp2_with fail
    exact HEv.out
end Go.Proofs.YtohhlhnjopbmhaaGreatDoor.K
