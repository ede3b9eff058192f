/- Rows of glyphs and the document's: the contract of the statements' Rows; the document's Text. -/
import Derived.Test.YtjlhinofglokoaaDoorFRc
import Derived.Test.YtjlhinofglokoaaDoorFText
namespace Go.Proofs.YtjlhinofglokoaaDoor.F
open Go.RowKit H
open Y (encS)

set_option maxRecDepth 100000 in
set_option maxHeartbeats 8000000 in
theorem lawRows_any (a1 : Option Addr) (c1 : Nat) (a2 : Option Addr) (c2 k : Nat) (L : List (List (Int × Int))) (w : World) (h1 : RowsIn .i32 a1 k c1 L w) (h2 : RowsIn .i64 a2 k c2 L w) (hr : ∀ r ∈ L, RngG r) (hl : ∀ r ∈ L, r.length ≤ 100000) (hk : k ≤ 100000) :
    Calls Tryd.prog 14 #[.slice a1 k c1, .slice a2 k c2] w fun e w' => e = .returned (.bool true) ∧ Below w.heap.size w w' := by
  obtain ⟨P, hP⟩ : ∃ P : Ending → World → Prop, (fun e w' => e = .returned (.bool true) ∧ Below w.heap.size w w') = P := ⟨_, rfl⟩
  rw [hP]
  have HP := Lib.hid hP
  have HKL : Hid (k = L.length) := Lib.hid h1.len
  have H1 := Lib.hid h1
  have H2 := Lib.hid h2
  have HR := Lib.hid hr
  have HL := Lib.hid hl
  have q0 : ((k : Int) != (k : Int)) = false := by simp
  clear hP h1 h2 hr hl
  go_enter Tryd.func14, Tryd.ntmps14
  go_wp2_with fail
  clear q0
  go_loopw [13] (fun i wr => ∃ j : Nat, i = .int .i64 (j : Int) ∧ j ≤ k ∧ Hid (Below w.heap.size w wr)) (fun i _ => k - (intOf i).toNat)
  case atStart => exact ⟨0, rfl, Nat.zero_le _, Lib.hid (Below.refl _ _)⟩
  case round =>
    obtain ⟨j, rfl, hj, HF⟩ := hrel
    by_cases hlt : j < k
    · have hd : decide (j < k) = true := decide_eq_true hlt
      have hjI : (j : Int) < k := by omega
      obtain ⟨us1, hs1, hv1⟩ := H1.out.belowAll HF.out
      obtain ⟨us2, hs2, hv2⟩ := H2.out.belowAll HF.out
      obtain ⟨r, hr⟩ : ∃ r, L[j]? = some r := ⟨_, List.getElem?_eq_getElem (by rw [← HKL.out]; exact hlt)⟩
      obtain ⟨u1, hu1⟩ : ∃ u, us1[j]? = some u := ⟨_, List.getElem?_eq_getElem (by rw [hv1.1, ← HKL.out]; exact hlt)⟩
      obtain ⟨u2, hu2⟩ : ∃ u, us2[j]? = some u := ⟨_, List.getElem?_eq_getElem (by rw [hv2.1, ← HKL.out]; exact hlt)⟩
      obtain ⟨b1, o1, rfl, hb1, hA1⟩ := hs1.at_.resolve_left (by rintro rfl; cases hu1)
      obtain ⟨b2, o2, rfl, hb2, hA2⟩ := hs2.at_.resolve_left (by rintro rfl; cases hu2)
      have k1 := hA1 j u1 hu1
      have k2 := hA2 j u2 hu2
      have p1 := (hv1.2 j u1 r hu1 hr).1
      have p2 := (hv2.2 j u2 r hu2 hr).1
      have hrm := List.mem_of_getElem? hr
      have hlr := HL.out r hrm
      obtain ⟨x1, n1, y1⟩ := u1
      obtain ⟨x2, n2, y2⟩ := u2
      simp only at k1 k2 p1 p2
      have hn1 := p1.len
      have hn2 := p2.len
      have cG : ∀ d os, Calls Tryd.prog 19 #[.slice x1 n1 y1, .slice x2 n2 y2] (Go.Sort.grow (redrawn wr d) os) fun en w'' => en = .returned (.bool true) ∧ ∃ p : Regrown, w'' = Go.Sort.grow (redrawn wr p.d) p.os := fun d os => by
        have h := lawGlyphs_any x1 n1 y1 r x2 n2 y2 r (Go.Sort.grow (redrawn wr d) os) (p1.belowAll (below_regrown _ _ _)) (p2.belowAll (below_regrown _ _ _)) (HR.out r hrm) (by omega) (by omega)
        rw [decide_eq_true rfl] at h
        exact Calls.regrown_of h
      have CG := Lib.hid cG
      have z1 := fun d os => cell_regrown k1 d os
      have z2 := fun d os => cell_regrown k2 d os
      clear cG hs1 hv1 hs2 hv2 hr hu1 hu2 hb1 hb2 hA1 hA2 k1 k2 p1 p2 hrm hlr hn1 hn2
      go_upto_region 6 with fail
      refine wp_region_quiet_below (by kernel_rfl) (by kernel_rfl) ?_
      repeat (go_big_quiet_step (exact CG.out _ _))
      refine wpQuiet_nil ?_
      intro _ hw'
      obtain ⟨⟨dq, osq⟩, hw''⟩ := hw'
      have HE2 : Hid (Below w.heap.size w (Go.Sort.grow (redrawn wr dq) osq)) := Lib.hid (HF.out.trans ((below_regrown _ _ _).mono HF.out.size))
      rw [hw'']
      simp only
      obtain ⟨w9, hw9⟩ : ∃ w9, Go.Sort.grow (redrawn wr dq) osq = w9 := ⟨_, rfl⟩
      rw [hw9] at HE2 ⊢
      clear hw'' hw9 z1 z2 CG
      go_wp2_with fail
      go_roundw
      case rel => exact ⟨j + 1, by go_num, by omega, HE2⟩
      case measure => simp [intOf]; omega
    · obtain rfl : j = k := by omega
      have hd : decide (j < j) = false := by simp
      have hend : Hid (P (.returned (.bool true)) wr) := Lib.hid (by rw [← HP.out]; exact ⟨rfl, HF.out⟩)
      clear HF hlt
      go_wp2_with fail
      exact hend.out
end Go.Proofs.YtjlhinofglokoaaDoor.F
