/- Rows of glyphs and the document's: the contract of the statements' Rows; the document's Text. -/
import Derived.Test.YtjlhinofglokoaaDoorFRc
import Derived.Test.YtjlhinofglokoaaDoorFText
namespace Go.Proofs.YtjlhinofglokoaaDoor.F
open Go.RowKit H
open Y (encS)

set_option maxRecDepth 100000 in
set_option maxHeartbeats 8000000 in
theorem lawRows_any (a1 : Option Addr) (c1 : Nat) (a2 : Option Addr) (c2 k : Nat) (L : List (List (Int × Int))) (w : World) (h1 : RowsIn .i32 a1 k c1 L w) (h2 : RowsIn .i64 a2 k c2 L w) (hr : ∀ r ∈ L, RngG r) (hl : ∀ r ∈ L, r.length ≤ 100000) (hk : k ≤ 100000) :
    Calls Tryd.prog 14 #[.slice a1 k c1, .slice a2 k c2] w fun e w' => e = .returned (.bool true) ∧ Below w.heap.size w w' := by
  obtain ⟨P, hP⟩ : ∃ P : Ending → World → Prop, (fun e w' => e = .returned (.bool true) ∧ Below w.heap.size w w') = P := ⟨_, rfl⟩
  rw [hP]
  have HP := Lib.hid hP
  have HKL : Hid (k = L.length) := Lib.hid h1.len
  have H1 := Lib.hid h1
  have H2 := Lib.hid h2
  have HR := Lib.hid hr
  have HL := Lib.hid hl
  have q0 : ((k : Int) != (k : Int)) = false := by simp
  clear hP h1 h2 hr hl
  go_enter Tryd.func14, Tryd.ntmps14
  go_wp2_with fail
  clear q0
  go_loopw [13] (fun i wr => ∃ j : Nat, i = .int .i64 (j : Int) ∧ j ≤ k ∧ Hid (Below w.heap.size w wr)) (fun i _ => k - (intOf i).toNat)
  case atStart => exact ⟨0, rfl, Nat.zero_le _, Lib.hid (Below.refl _ _)⟩
  case round =>
    obtain ⟨j, rfl, hj, HF⟩ := hrel
    by_cases hlt : j < k
    · have hd : decide (j < k) = true := decide_eq_true hlt
      have hjI : (j : Int) < k := by omega
      obtain ⟨us1, hs1, hv1⟩ := H1.out.belowAll HF.out
      obtain ⟨us2, hs2, hv2⟩ := H2.out.belowAll HF.out
      obtain ⟨r, hr⟩ : ∃ r, L[j]? = some r := ⟨_, List.getElem?_eq_getElem (by rw [← HKL.out]; exact hlt)⟩
      obtain ⟨u1, hu1⟩ : ∃ u, us1[j]? = some u := ⟨_, List.getElem?_eq_getElem (by rw [hv1.1, ← HKL.out]; exact hlt)⟩
      obtain ⟨u2, hu2⟩ : ∃ u, us2[j]? = some u := ⟨_, List.getElem?_eq_getElem (by rw [hv2.1, ← HKL.out]; exact hlt)⟩
      obtain ⟨b1, o1, rfl, hb1, hA1⟩ := hs1.at_.resolve_left (by rintro rfl; cases hu1)
      obtain ⟨b2, o2, rfl, hb2, hA2⟩ := hs2.at_.resolve_left (by rintro rfl; cases hu2)
      have k1 := hA1 j u1 hu1
      have k2 := hA2 j u2 hu2
      have p1 := (hv1.2 j u1 r hu1 hr).1
      have p2 := (hv2.2 j u2 r hu2 hr).1
      have hrm := List.mem_of_getElem? hr
      have hlr := HL.out r hrm
      obtain ⟨x1, n1, y1⟩ := u1
      obtain ⟨x2, n2, y2⟩ := u2
      simp only at k1 k2 p1 p2
      have hn1 := p1.len
      have hn2 := p2.len
      have cG : ∀ d os, Calls Tryd.prog 19 #[.slice x1 n1 y1, .slice x2 n2 y2] (Go.Sort.grow (redrawn wr d) os) fun en w'' => en = .returned (.bool true) ∧ ∃ p : Regrown, w'' = Go.Sort.grow (redrawn wr p.d) p.os := fun d os => by
        have h := lawGlyphs_any x1 n1 y1 r x2 n2 y2 r (Go.Sort.grow (redrawn wr d) os) (p1.belowAll (below_regrown _ _ _)) (p2.belowAll (below_regrown _ _ _)) (HR.out r hrm) (by omega) (by omega)
        rw [decide_eq_true rfl] at h
        exact Calls.regrown_of h
      have CG := Lib.hid cG
      have z1 := fun d os => cell_regrown k1 d os
      have z2 := fun d os => cell_regrown k2 d os
      clear cG hs1 hv1 hs2 hv2 hr hu1 hu2 hb1 hb2 hA1 hA2 k1 k2 p1 p2 hrm hlr hn1 hn2
      go_upto_region 6 with fail
      refine wp_region_quiet_below (by kernel_rfl) (by kernel_rfl) ?_
      repeat (go_big_quiet_step (exact CG.out _ _))
      refine wpQuiet_nil ?_
      intro _ hw'
      obtain ⟨⟨dq, osq⟩, hw''⟩ := hw'
      have HE2 : Hid (Below w.heap.size w (Go.Sort.grow (redrawn wr dq) osq)) := Lib.hid (HF.out.trans ((below_regrown _ _ _).mono HF.out.size))
      rw [hw'']
      simp only
      obtain ⟨w9, hw9⟩ : ∃ w9, Go.Sort.grow (redrawn wr dq) osq = w9 := ⟨_, rfl⟩
      rw [hw9] at HE2 ⊢
      clear hw'' hw9 z1 z2 CG
      go_wp2_with fail
      go_roundw
      case rel => exact ⟨j + 1, by go_num, by omega, HE2⟩
      case measure => simp [intOf]; omega
    · obtain rfl : j = k := by omega
      have hd : decide (j < j) = false := by simp
      have hend : Hid (P (.returned (.bool true)) wr) := Lib.hid (by rw [← HP.out]; exact ⟨rfl, HF.out⟩)
      clear HF hlt
      go_wp2_with fail
      exact hend.out
theorem encS_len (z : Int) : (encS z).length ≤ 4 := by
  unfold encS
  rw [List.length_map]
  unfold Y.encN
  split
  · simp
  split
  · simp
  split <;> simp
theorem bytes_eq {t : ByteArray} {zs : List Int} (h : t.data.toList = zs.flatMap encS) : t = runesBytes zs := by
  have h2 := (Y.runesBytes_enc zs).symm
  rw [← h] at h2
  have h3 : t.data = (runesBytes zs).data := Array.toList_inj.1 h2
  cases t
  cases hq : runesBytes zs
  rw [hq] at h3
  simp only at h3
  rw [h3]
set_option maxRecDepth 100000 in
set_option maxHeartbeats 4000000 in
theorem refText_any (a : Option Addr) (n c : Nat) (l : List (Int × Int)) (w : World) (h : PairsIn .i64 a n c l w) (hn : n ≤ 100000) :
    Calls Tryd.prog 18 #[.slice a n c] w fun e w' => e = .returned (.string (runesBytes (runesF l))) ∧ Below w.heap.size w w' := by
  obtain ⟨P, hP⟩ : ∃ P : Ending → World → Prop, (fun e w' => e = .returned (.string (runesBytes (runesF l))) ∧ Below w.heap.size w w') = P := ⟨_, rfl⟩
  rw [hP]
  have HP := Lib.hid hP
  have HL := Lib.hid h.len
  have H1 := Lib.hid h
  clear hP h
  go_enter Tryd.func18, Tryd.ntmps18
  go_wp2_with fail
  go_loopw [3, 8] (fun s i wr => ∃ (j : Nat) (t : ByteArray), i = .int .i64 (j : Int) ∧ s = .string t ∧ j ≤ n ∧ t.size ≤ 4 * j ∧ Hid (t.data.toList = (runesF (l.take j)).flatMap encS ∧ Below w.heap.size w wr)) (fun _ i _ => n - (intOf i).toNat)
  case atStart => exact ⟨0, ⟨#[]⟩, rfl, rfl, Nat.zero_le _, Nat.zero_le _, Lib.hid ⟨rfl, Below.refl _ _⟩⟩
  case round =>
    obtain ⟨j, t, rfl, rfl, hj, ht, HF⟩ := hrel
    by_cases hlt : j < n
    · have hd : decide (j < n) = true := decide_eq_true hlt
      have hjI : (j : Int) < n := by omega
      have hjl : j < l.length := by rw [← HL.out]; exact hlt
      obtain ⟨b, off, rfl, hb, hA⟩ := H1.out.at_.resolve_left (by intro e; rw [e] at hjl; simp at hjl)
      obtain ⟨⟨z, sty⟩, hg⟩ : ∃ g, l[j]? = some g := ⟨_, List.getElem?_eq_getElem hjl⟩
      have hk := hA j _ hg
      have hsn := runes_snoc l j z sty hg
      have k0 := (HF.out.2.cell (p := ⟨b, off + j * 2, none⟩) hb).trans hk.1
      have k1 := (HF.out.2.cell (p := ⟨b, off + j * 2 + 1, none⟩) hb).trans hk.2
      simp only at k0 k1
      have HSn := Lib.hid hsn
      have HEn := Lib.hid (Y.refEnc_any z (wr.alloc (.cells #[.int .i64 z, .int .i64 sty] 65)))
      clear hA hjl hg hk hsn hb
      go_wp2_with fail
      refine HEn.out.mono ?_
      rintro e w5 ⟨⟨s5, rfl, hs5⟩, hb5⟩
      have hls : s5.size ≤ 4 := by
        have h1 : s5.size = (encS z).length := by rw [← hs5]; rfl
        rw [h1]
        exact encS_len z
      have HS5 := Lib.hid hs5
      have HB5 := Lib.hid hb5
      clear hs5 hb5 HEn k0 k1
      have hsz2 : (t ++ s5).size = t.size + s5.size := ByteArray.size_append
      have hdat : (t ++ s5).data.toList = t.data.toList ++ s5.data.toList := by rw [ByteArray.data_append, Array.toList_append]
      obtain ⟨t6, ht6⟩ : ∃ t6, t6 = t ++ s5 := ⟨_, rfl⟩
      rw [← ht6] at hsz2 hdat
      have hle6 : t6.size ≤ 4 * (j + 1) := by omega
      have HE : Hid (t6.data.toList = (runesF (l.take (j + 1))).flatMap encS ∧ Below w.heap.size w w5) := Lib.hid ⟨by rw [hdat, HSn.out, List.flatMap_append, HF.out.1, HS5.out]; simp, HF.out.2.trans (((Below.refl _ _).alloc (Nat.le_refl _) (.cells #[.int .i64 z, .int .i64 sty] 65)).trans (HB5.out.mono (by simp)) |>.mono HF.out.2.size)⟩
      have HT6 := Lib.hid ht6
      have HLe := Lib.hid hle6
      clear hsz2 hdat ht6 hle6
      go_wp2_with fail
      rw [← HT6.out]
      go_roundw
      case rel => exact ⟨j + 1, t6, by go_num, by first | rfl | trivial, by omega, HLe.out, HE⟩
      case measure => simp [intOf]; omega
    · obtain rfl : j = n := by omega
      have hd : decide (j < j) = false := by simp
      have hend : Hid (P (.returned (.string t)) wr) := Lib.hid (by
        rw [← HP.out]
        have h := HF.out.1
        rw [List.take_of_length_le (by rw [← HL.out]; exact Nat.le_refl _)] at h
        exact ⟨by rw [bytes_eq h], HF.out.2⟩)
      clear HF hlt
      go_wp2_with fail
      exact hend.out
end Go.Proofs.YtjlhinofglokoaaDoor.F
