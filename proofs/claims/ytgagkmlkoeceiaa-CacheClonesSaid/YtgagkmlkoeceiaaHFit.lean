/- The document's near and Fit. -/
import Derived.Test.YtgagkmlkoeceiaaMerged8
namespace Go.Proofs.Ytgagkmlkoeceiaa.H
open Go.RowKit

set_option maxRecDepth 100000 in
set_option maxHeartbeats 1000000 in
theorem near_ref (n : Int) (w : World) : Calls Try.prog 71 #[.int .i64 n] w (IPost (near n) w) := by
  obtain ⟨P, hP⟩ : ∃ P, IPost (near n) w = P := ⟨_, rfl⟩
  rw [hP]
  have HP := Lib.hid hP
  clear hP
  by_cases h1 : n < -1152921504606846976
  · have hd : decide (n < -1152921504606846976) = true := decide_eq_true h1
    have hE : Hid (near n = -1152921504606846976) := Lib.hid (by unfold near lo hi; omega)
    clear h1
    go_enter Try.func71, Try.ntmps71
    go_wp2_with fail
    rw [← HP.out]
    exact ⟨by rw [hE.out]; rfl, Below.refl _ _⟩
  · have hd : decide (n < -1152921504606846976) = false := decide_eq_false h1
    by_cases h2 : 1152921504606846976 < n
    · have hd2 : decide (1152921504606846976 < n) = true := decide_eq_true h2
      have hE : Hid (near n = 1152921504606846976) := Lib.hid (by unfold near lo hi; omega)
      clear h1 h2
      go_enter Try.func71, Try.ntmps71
      go_wp2_with fail
      rw [← HP.out]
      exact ⟨by rw [hE.out]; rfl, Below.refl _ _⟩
    · have hd2 : decide (1152921504606846976 < n) = false := decide_eq_false h2
      have hE : Hid (near n = n) := Lib.hid (by unfold near lo hi; omega)
      clear h1 h2
      go_enter Try.func71, Try.ntmps71
      go_wp2_with fail
      rw [← HP.out]
      exact ⟨by rw [hE.out]; rfl, Below.refl _ _⟩
def FitOk (p : Nat) (x1 x2 X1 X2 : Int) : Nat → Value → World → Prop
  | 0, u, _ => u = .pointer (some ⟨p, 0, none⟩)
  | 1, u, _ => u = .int .i64 x1
  | 2, u, _ => u = .int .i64 X1
  | 3, u, _ => u = .pointer (some ⟨p, 1, none⟩)
  | 4, u, _ => u = .int .i64 x2
  | 5, u, _ => u = .int .i64 X2
  | 6, u, _ => u = .agg #[.int .i64 X1, .int .i64 X2]
  | _, _, _ => True
set_option maxRecDepth 100000 in
set_option maxHeartbeats 4000000 in
theorem fit_any (x1 x2 : Int) (w : World) : Calls Try.prog 63 #[.agg #[.int .i64 x1, .int .i64 x2]] w (CntPost (x1, x2) w) := by
  obtain ⟨P, hP⟩ : ∃ P, CntPost (x1, x2) w = P := ⟨_, rfl⟩
  rw [hP]
  have HP := Lib.hid hP
  obtain ⟨X1, hX1⟩ : ∃ X, near x1 = X := ⟨_, rfl⟩
  obtain ⟨X2, hX2⟩ : ∃ X, near x2 = X := ⟨_, rfl⟩
  obtain ⟨p, hp⟩ : ∃ p, p = w.heap.size := ⟨_, rfl⟩
  obtain ⟨w1, hw1⟩ : ∃ w1, w1 = (w.alloc (.cells #[.int .i64 x1, .int .i64 x2] 80)).alloc (.cells #[.int .i64 0, .int .i64 0] 80) := ⟨_, rfl⟩
  have hb1 : Below w.heap.size w w1 := by rw [hw1]; exact (alloc_below w _).alloc (by simp) _
  have HX : Hid (w1.heap[p]? = some (.cells #[.int .i64 x1, .int .i64 x2] 80 (0, 0))) := Lib.hid (by rw [hw1, hp]; exact heap_moved (heap_alloc_new w _) (alloc_below _ _))
  have HR : Hid (w1.heap[p + 1]? = some (.cells #[.int .i64 0, .int .i64 0] 80 (0, 0))) := Lib.hid (by rw [hw1, hp]; have := heap_alloc_new (w.alloc (.cells #[.int .i64 x1, .int .i64 x2] 80)) (.cells #[.int .i64 0, .int .i64 0] 80); simpa using this)
  have HX1 := Lib.hid hX1
  have HX2 := Lib.hid hX2
  have HP2 := Lib.hid hp
  have HW := Lib.hid hw1
  have HB := Lib.hid hb1
  clear hP hX1 hX2 hp hw1 hb1
  go_enter Try.func63, Try.ntmps63
  go_upto_region 1 with fail
  rw [← HW.out, ← HP2.out]
  refine Go.Proofs.Ytgagkmlkoeceiaa.R.wp_region_tail 7 (by kernel_rfl) (fun u => Below w1.heap.size w1 u) (fun u v => Below u.heap.size u v) (FitOk p x1 x2 X1 X2) (by rfl) (by kernel_rfl) (by decide) (by kernel_rfl) (by kernel_rfl) (by kernel_rfl) ?hC ?hOk ?hop ?hdone ((Below.refl _ _).drew)
  case hC => exact fun u v h1 h2 => h1.trans (h2.mono h1.size)
  case hOk =>
    intro i u w1 w2 h hr
    unfold FitOk at h ⊢
    split <;> first | exact True.intro | exact h | (obtain ⟨g, e, h1⟩ := h; exact ⟨g, e, (hr.block _ (Array.getElem?_eq_some_iff.1 h1).1).trans h1⟩) | (obtain ⟨a2, n2, c2, e, h1, h2⟩ := h; exact ⟨a2, n2, c2, e, h1.belowAll hr, fun q hq => Nat.lt_of_lt_of_le (h2 q hq) hr.size⟩) | (obtain ⟨B1, B2, g, a2, n2, c2, e, h1⟩ := h; exact ⟨B1, B2, g, a2, n2, c2, e, h1.below hr⟩) | (obtain ⟨va, vc, e, h1⟩ := h; exact ⟨va, vc, e, h1.belowAll hr⟩)
  case hop =>
    refine ⟨?_, ?_, ?_, ?_, ?_, ?_, ?_, trivial⟩
    · intro z v hz hag hdep
      refine .inl ⟨rfl, fun K hK => ?_⟩
      have d1 : z.tmps.getD 1 undef = .pointer (some ⟨p, 0, none⟩) := hag.2.2 1 (by kernel_rfl)
      have e1 := d1
      rw [Array.getD_eq_getD_getElem?] at e1
      clear hdep hag 
      go_simp
      exact hK _ _ (Below.refl _ _) rfl
    · intro z v hz hag hdep
      refine .inl ⟨rfl, fun K hK => ?_⟩
      have d3 : z.tmps.getD 3 undef = .pointer (some ⟨p, 0, none⟩) := hdep { on := 0, ground := .data } (by simp) rfl _ _ rfl rfl
      have e3 := d3
      rw [Array.getD_eq_getD_getElem?] at e3
      have hpb := (hz.block p (Array.getElem?_eq_some_iff.1 HX.out).1).trans HX.out
      have l0 : v.cell? ⟨p, 0, none⟩ = some (.int .i64 x1) := by rw [cell_block hpb]; rfl
      have l1 : v.cell? ⟨p, 1, none⟩ = some (.int .i64 x2) := by rw [cell_block hpb]; rfl
      clear hdep hag 
      go_simp
      exact hK _ _ (Below.refl _ _) rfl
    · intro z v hz hag hdep
      refine .inl ⟨rfl, fun K hK => ?_⟩
      have d4 : z.tmps.getD 4 undef = .int .i64 x1 := hdep { on := 1, ground := .data } (by simp) rfl _ _ rfl rfl
      have e4 := d4
      rw [Array.getD_eq_getD_getElem?] at e4
      have HC := Lib.hid (near_ref x1 v)
      rw [HX1.out] at HC
      clear hdep hag hz
      go_simp
      refine HC.out.mono ?_
      rintro e w' ⟨rfl, hb⟩
      exact hK _ _ hb rfl
    · intro z v hz hag hdep
      refine .inl ⟨rfl, fun K hK => ?_⟩
      have d1 : z.tmps.getD 1 undef = .pointer (some ⟨p, 0, none⟩) := hag.2.2 1 (by kernel_rfl)
      have e1 := d1
      rw [Array.getD_eq_getD_getElem?] at e1
      clear hdep hag 
      go_simp
      exact hK _ _ (Below.refl _ _) rfl
    · intro z v hz hag hdep
      refine .inl ⟨rfl, fun K hK => ?_⟩
      have d6 : z.tmps.getD 6 undef = .pointer (some ⟨p, 1, none⟩) := hdep { on := 3, ground := .data } (by simp) rfl _ _ rfl rfl
      have e6 := d6
      rw [Array.getD_eq_getD_getElem?] at e6
      have hpb := (hz.block p (Array.getElem?_eq_some_iff.1 HX.out).1).trans HX.out
      have l0 : v.cell? ⟨p, 0, none⟩ = some (.int .i64 x1) := by rw [cell_block hpb]; rfl
      have l1 : v.cell? ⟨p, 1, none⟩ = some (.int .i64 x2) := by rw [cell_block hpb]; rfl
      clear hdep hag 
      go_simp
      exact hK _ _ (Below.refl _ _) rfl
    · intro z v hz hag hdep
      refine .inl ⟨rfl, fun K hK => ?_⟩
      have d7 : z.tmps.getD 7 undef = .int .i64 x2 := hdep { on := 4, ground := .data } (by simp) rfl _ _ rfl rfl
      have e7 := d7
      rw [Array.getD_eq_getD_getElem?] at e7
      have HC := Lib.hid (near_ref x2 v)
      rw [HX2.out] at HC
      clear hdep hag hz
      go_simp
      refine HC.out.mono ?_
      rintro e w' ⟨rfl, hb⟩
      exact hK _ _ hb rfl
    · intro z v hz hag hdep
      refine .inl ⟨rfl, fun K hK => ?_⟩
      have d5 : z.tmps.getD 5 undef = .int .i64 X1 := hdep { on := 2, ground := .data } (by simp) rfl _ _ rfl rfl
      have e5 := d5
      rw [Array.getD_eq_getD_getElem?] at e5
      have d8 : z.tmps.getD 8 undef = .int .i64 X2 := hdep { on := 5, ground := .data } (by simp) rfl _ _ rfl rfl
      have e8 := d8
      rw [Array.getD_eq_getD_getElem?] at e8
      clear hdep hag 
      go_simp
      exact hK _ _ (Below.refl _ _) rfl

  case hdone =>
    intro z v hz hag hok _
    have d9 : z.tmps.getD 9 undef = .agg #[.int .i64 X1, .int .i64 X2] := hok 6 _ 9 (by decide) rfl rfl
    obtain ⟨uu, hu, hzz⟩ := Go.Proofs.Ytgagkmlkoeceiaa.R.agree_frame [3, 4, 5, 6, 7, 8, 9] rfl hag
    have e9 := (hu 9).trans d9
    subst hzz
    have HZ := Lib.hid hz
    clear hz
    simp only [List.foldl_cons, List.foldl_nil]
    rw [e9]
    clear e9 d9 hu hag hok
    try dsimp only [Exit.then]
    try dsimp only [List.drop]
    simp only [List.setIfInBounds_toArray, List.set_cons_succ, List.set_cons_zero]
    generalize uu 3 = u3', uu 4 = u4', uu 5 = u5', uu 6 = u6', uu 7 = u7', uu 8 = u8'
    clear uu
    have hr := (HZ.out.block (p + 1) (Array.getElem?_eq_some_iff.1 HR.out).1).trans HR.out
    have f0 : v.frozen? ⟨p + 1, 0, none⟩ = false := frozen_block hr 0
    have f1 : v.frozen? ⟨p + 1, 1, none⟩ = false := frozen_block hr 1
    have c0 : v.cell? ⟨p + 1, 0, none⟩ = some (.int .i64 0) := by rw [cell_block hr]; rfl
    have c1 : v.cell? ⟨p + 1, 1, none⟩ = some (.int .i64 0) := by rw [cell_block hr]; rfl
    have HRV := Lib.hid hr
    clear hr
    go_wp2_with fail
    obtain ⟨w5, hw5⟩ : ∃ w5, w5 = (v.setCell ⟨p + 1, 0, none⟩ (.int .i64 X1)).setCell ⟨p + 1, 1, none⟩ (.int .i64 X2) := ⟨_, rfl⟩
    rw [← hw5]
    have hx5 : w5.heap[p + 1]? = some (.cells #[.int .i64 X1, .int .i64 X2] 80 (0, 0)) := by rw [hw5]; simp [World.setCell, Array.getElem?_modify, HRV.out]
    have g0 : w5.cell? ⟨p + 1, 0, none⟩ = some (.int .i64 X1) := by rw [cell_block hx5]; rfl
    have g1 : w5.cell? ⟨p + 1, 1, none⟩ = some (.int .i64 X2) := by rw [cell_block hx5]; rfl
    have hb5 : Below w.heap.size w w5 := by rw [hw5]; exact ((HB.out.trans (HZ.out.mono HB.out.size)).setCell (p := ⟨p + 1, 0, none⟩) (by rw [HP2.out]; exact Nat.le_succ _) _).setCell (p := ⟨p + 1, 1, none⟩) (by rw [HP2.out]; exact Nat.le_succ _) _
    refine bodyPost_ret (v := .agg #[.int .i64 X1, .int .i64 X2]) (by simp [results, Try.results63, go_sem, g0, g1]) rfl ?_
    rw [← HP.out]
    exact ⟨by simp only [HX1.out, HX2.out], hb5⟩
end Go.Proofs.Ytgagkmlkoeceiaa.H
