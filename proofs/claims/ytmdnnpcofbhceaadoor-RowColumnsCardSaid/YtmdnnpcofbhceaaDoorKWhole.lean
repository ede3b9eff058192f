/- The contract of the document's Whole. -/
import Derived.Test.YtmdnnpcofbhceaaDoorKFill
import Derived.Test.YtmdnnpcofbhceaaDoorRelU
namespace Go.Proofs.YtmdnnpcofbhceaaDoor.K
open Go.RowKit

def WholeOk (x s t x' s' t' j : Int) (rb : Nat) (a : Option Addr) (n c b o : Nat) (d : Bool) : Nat → Value → World → Prop
  | 0, u, _ => u = .agg #[.int .i64 x, .int .i64 s, .int .i64 t]
  | 1, u, _ => u = .pointer (some ⟨rb, 0, none⟩)
  | 2, u, _ => u = .slice a n c
  | 3, u, _ => u = .int .i64 j
  | 4, u, _ => u = .pointer (some ⟨b, o, none⟩)
  | 5, u, _ => u = .agg #[.int .i64 x', .int .i64 s', .int .i64 t']
  | 6, u, _ => u = .bool d
  | _, _, _ => True
theorem WholeOk.keeps {x s t x' s' t' j : Int} {rb : Nat} {a : Option Addr} {n c b o : Nat} {d : Bool} (i : Nat) (u : Value) (w w' : World) (h : WholeOk x s t x' s' t' j rb a n c b o d i u w) : WholeOk x s t x' s' t' j rb a n c b o d i u w' := by
  unfold WholeOk at h ⊢
  split <;> first | exact True.intro | exact h
theorem take_snoc {α : Type} (l : List α) (j : Nat) (h : j < l.length) : l.take (j + 1) = l.take j ++ [l[j]] := by
  rw [List.take_add_one, List.getElem?_eq_getElem h]; rfl
set_option maxRecDepth 100000 in
set_option maxHeartbeats 8000000 in
theorem refWhole_any (a : Option Addr) (n c : Nat) (wr0 : Bool) (l : List Cel) (w : World) (hI : CelsIn .i64 a n l w) (hn : (n : Int) ≤ 1000000) (hmax : (c : Int) ≤ 9223372036854775807) : Calls Tryd.prog 18 #[.agg #[.slice a n c, .bool wr0]] w fun e w' => e = .returned (.bool (decide (mend l = l))) ∧ Below w.heap.size w w' := by
  obtain ⟨rb, hrb⟩ : ∃ rb, w.heap.size = rb := ⟨_, rfl⟩
  rw [hrb]
  obtain ⟨D, hD⟩ : ∃ D, decide (mend l = l) = D := ⟨_, rfl⟩
  obtain ⟨P, hP⟩ : ∃ P : Ending → World → Prop, (fun e w' => e = .returned (.bool D) ∧ Below rb w w') = P := ⟨_, rfl⟩
  rw [hD, hP]
  have HP := Lib.hid hP
  have HD := Lib.hid hD
  have HLn := Lib.hid hI.len
  have HI0 := Lib.hid hI
  obtain ⟨w1, hw1⟩ : ∃ w1, w.alloc (.cells #[.slice a n c, .bool wr0] 30) = w1 := ⟨_, rfl⟩
  have hb1 : Below rb w w1 := by rw [← hw1, ← hrb]; exact (Below.refl _ _).alloc (Nat.le_refl _) _
  have hr1 : RoB 30 rb (.slice a n c) wr0 w1 := by rw [← hw1, ← hrb]; exact RoB.new _ _ _ _
  have hs1 : w1.heap.size = rb + 1 := by rw [← hw1, World.size_alloc, hrb]
  have c0 := hr1.c0
  have c1 := hr1.c1
  have hM := refMend_any a n c l w1 (hI.belowAll (by rw [hrb]; exact hb1)) hn
  rw [hs1] at hM
  have HM := Lib.hid hM
  have HB1 := Lib.hid hb1
  have HR1 := Lib.hid hr1
  have HS1 := Lib.hid hs1
  have HW1 := Lib.hid hw1
  have HRb := Lib.hid hrb
  clear hP hD hI hw1 hb1 hr1 hs1 hM hrb
  go_enter Tryd.func18, Tryd.ntmps18
  go_upto_region 1 with fail
  rw [HW1.out, HRb.out]
  go_wp2_with fail
  refine HM.out.mono ?_
  rintro e w2 ⟨v2, rfl, hO2, hb2⟩
  obtain ⟨a2, c2, he2, hin2, -, -, -, hmx2⟩ := hO2.shape
  rw [mend_length, ← HLn.out] at he2 hin2
  subst he2
  have HB2 : Hid (Below rb w w2) := Lib.hid (HB1.out.trans (hb2.mono (by omega)))
  have HR2 := Lib.hid (HR1.out.below hb2 (Nat.lt_succ_self rb))
  have HI2 := Lib.hid hin2
  have hsz2 : rb + 1 ≤ w2.heap.size := by rw [← HS1.out]; exact hb2.size
  have hfld := run_field_row w2 (.slice a2 n c2) false
  clear hO2 hb2 hin2 HM
  go_wp2_with fail
  go_loopw [10] (fun i wr => ∃ j : Nat, i = .int .i64 (j : Int) ∧ j ≤ n ∧ rb + 1 ≤ wr.heap.size ∧ Hid ((mend l).take j = l.take j ∧ Below w2.heap.size w2 wr)) (fun i _ => n - (intOf i).toNat)
  case atStart => exact ⟨0, rfl, by omega, hsz2, Lib.hid ⟨by simp, Below.refl _ _⟩⟩
  case round =>
    obtain ⟨j, rfl, hj, hlw, HF⟩ := hrel
    by_cases hlt : j < n
    · have hd : decide (j < n) = true := by simp; omega
      have hjl : j < l.length := by rw [← HLn.out]; exact hlt
      have hjm : j < (mend l).length := by rw [mend_length]; exact hjl
      obtain ⟨b, off, rfl, hbl, hAt⟩ := HI0.out.at_.resolve_left (by intro e; rw [e] at hjl; simp at hjl)
      rw [HRb.out] at hbl
      obtain ⟨b2, off2, rfl, hbl2, hAt2⟩ := HI2.out.at_.resolve_left (by intro e; rw [e] at hjm; simp at hjm)
      have hbw : Below rb w wr := HB2.out.trans (HF.out.2.mono (by omega))
      obtain ⟨cm, hcm⟩ : ∃ cm, (mend l)[j] = cm := ⟨_, rfl⟩
      obtain ⟨cl, hcl⟩ : ∃ cl, l[j] = cl := ⟨_, rfl⟩
      have hat := (hAt j l[j] (List.getElem?_eq_getElem hjl)).block (hbw.block b hbl)
      have hat2 := (hAt2 j (mend l)[j] (List.getElem?_eq_getElem hjm)).block (HF.out.2.block b2 hbl2)
      have hsm := take_snoc (mend l) j hjm
      have hsl := take_snoc l j hjl
      rw [hcm] at hat2 hsm
      rw [hcl] at hat hsl
      obtain ⟨x, s, t⟩ := cm
      obtain ⟨x', s', t'⟩ := cl
      have m0 := hat2.c0
      have m1 := hat2.c1
      have m2 := hat2.c2
      have n0 := hat.c0
      have n1 := hat.c1
      have n2 := hat.c2
      simp only at m0 m1 m2 n0 n1 n2
      obtain ⟨nb, hnb⟩ : ∃ nb, wr.heap.size = nb := ⟨_, rfl⟩
      obtain ⟨w5, hw5⟩ : ∃ w5, wr.alloc (.cells #[.int .i64 x, .int .i64 s, .int .i64 t] 87) = w5 := ⟨_, rfl⟩
      have hblk5 : w5.heap[nb]? = some (.cells #[.int .i64 x, .int .i64 s, .int .i64 t] 87 (0, 0)) := by rw [← hw5, ← hnb]; exact World.alloc_heap_new _ _
      have hb5 : Below wr.heap.size wr w5 := by rw [← hw5]; exact (Below.refl _ _).alloc (Nat.le_refl _) _
      have hz5 : w5.heap.size = nb + 1 := by rw [← hw5, World.size_alloc, hnb]
      have e0'' : w5.cell? ⟨nb, 0, none⟩ = some (.int .i64 x) := by simp [World.cell?, hblk5]
      have e1'' : w5.cell? ⟨nb, 1, none⟩ = some (.int .i64 s) := by simp [World.cell?, hblk5]
      have e2'' : w5.cell? ⟨nb, 2, none⟩ = some (.int .i64 t) := by simp [World.cell?, hblk5]
      have HC0 := Lib.hid ((hb5.cell (p := ⟨rb, 0, none⟩) (by show rb < _; omega)).trans ((HF.out.2.cell (p := ⟨rb, 0, none⟩) (by show rb < _; omega)).trans HR2.out.c0))
      have HX0 := Lib.hid ((hb5.cell (p := ⟨b, off + j * 3 + 0, none⟩) (by show b < _; omega)).trans n0)
      have HX1 := Lib.hid ((hb5.cell (p := ⟨b, off + j * 3 + 1, none⟩) (by show b < _; omega)).trans n1)
      have HX2 := Lib.hid ((hb5.cell (p := ⟨b, off + j * 3 + 2, none⟩) (by show b < _; omega)).trans n2)
      have HNl : Hid (nb < w5.heap.size) := Lib.hid (by omega)
      have HRl : Hid (rb < w5.heap.size) := Lib.hid (by omega)
      have HBl : Hid (b < w5.heap.size) := Lib.hid (by omega)
      have HF5 : Hid (Below w2.heap.size w2 w5) := Lib.hid (HF.out.2.trans (hb5.mono HF.out.2.size))
      have HSm := Lib.hid hsm
      have HSl := Lib.hid hsl
      have HCm := Lib.hid hcm
      have HCl := Lib.hid hcl
      have HW5 := Lib.hid hw5
      have HNb := Lib.hid hnb
      obtain ⟨dd, hdd⟩ : ∃ dd, (!(decide (x = x') && decide (s = s') && decide (t = t'))) = dd := ⟨_, rfl⟩
      have HDd := Lib.hid hdd
      clear hAt hAt2 hbw hat hat2 hsm hsl hcm hcl hblk5 hb5 hz5 n0 n1 n2 hw5 hnb hdd
      go_upto_region 4 with fail
      rw [HW5.out, HNb.out]
      refine Go.Proofs.YtmdnnpcofbhceaaDoor.R.wp_region_tail 7 (by kernel_rfl) (fun u => Below w5.heap.size w5 u) (fun u v => Below u.heap.size u v) (WholeOk x s t x' s' t' (j : Int) rb (some ⟨b, off, none⟩) n c b (off + j * 3) dd) (by rfl) (by kernel_rfl) (by decide) (by kernel_rfl) (by kernel_rfl) (by kernel_rfl) ?hC ?hOk ?hop ?hdone ((Below.refl _ _).drew)
      case hC => exact fun u v h1 h2 => h1.trans (h2.mono h1.size)
      case hOk => exact fun j u w w' h _ => WholeOk.keeps j u w w' h
      case hop =>
          refine ⟨?_, ?_, ?_, ?_, ?_, ?_, ?_, trivial⟩
          · intro z v hz hag hdep
            refine .inl ⟨rfl, fun K hK => ?_⟩
            have d4 : z.tmps.getD 4 undef = .pointer (some ⟨nb, 0, none⟩) := hag.2.2 4 (by kernel_rfl)
            have e4 := d4
            rw [Array.getD_eq_getD_getElem?] at e4
            have l0 : v.cell? ⟨nb, 0, none⟩ = some (.int .i64 x) := (hz.cell (p := ⟨nb, 0, none⟩) HNl.out).trans e0''
            have l1 : v.cell? ⟨nb, 1, none⟩ = some (.int .i64 s) := (hz.cell (p := ⟨nb, 1, none⟩) HNl.out).trans e1''
            have l2 : v.cell? ⟨nb, 2, none⟩ = some (.int .i64 t) := (hz.cell (p := ⟨nb, 2, none⟩) HNl.out).trans e2''
            clear hdep hag hz
            go_simp
            exact hK _ _ (Below.refl _ _) rfl
          · intro z v hz hag hdep
            refine .inl ⟨rfl, fun K hK => ?_⟩
            have d1 : z.tmps.getD 1 undef = .pointer (some ⟨rb, 0, none⟩) := hag.2.2 1 (by kernel_rfl)
            have e1 := d1
            rw [Array.getD_eq_getD_getElem?] at e1
            clear hdep hag hz
            go_simp
            exact hK _ _ (Below.refl _ _) rfl
          · intro z v hz hag hdep
            refine .inl ⟨rfl, fun K hK => ?_⟩
            have d16 : z.tmps.getD 16 undef = .pointer (some ⟨rb, 0, none⟩) := hdep { on := 1, ground := .data } (by simp) rfl _ _ rfl rfl
            have e16 := d16
            rw [Array.getD_eq_getD_getElem?] at e16
            have l0 : v.cell? ⟨rb, 0, none⟩ = some (.slice (some ⟨b, off, none⟩) n c) := (hz.cell (p := ⟨rb, 0, none⟩) HRl.out).trans HC0.out
            clear hdep hag hz
            go_simp
            exact hK _ _ (Below.refl _ _) rfl
          · intro z v hz hag hdep
            refine .inl ⟨rfl, fun K hK => ?_⟩
            have d3 : z.tmps.getD 3 undef = .int .i64 (j : Int) := hag.2.2 3 (by kernel_rfl)
            have e3 := d3
            rw [Array.getD_eq_getD_getElem?] at e3
            clear hdep hag hz
            go_simp
            exact hK _ _ (Below.refl _ _) rfl
          · intro z v hz hag hdep
            refine .inl ⟨rfl, fun K hK => ?_⟩
            have d17 : z.tmps.getD 17 undef = .slice (some ⟨b, off, none⟩) n c := hdep { on := 2, ground := .data } (by simp) rfl _ _ rfl rfl
            have e17 := d17
            rw [Array.getD_eq_getD_getElem?] at e17
            have d18 : z.tmps.getD 18 undef = .int .i64 (j : Int) := hdep { on := 3, ground := .data } (by simp) rfl _ _ rfl rfl
            have e18 := d18
            rw [Array.getD_eq_getD_getElem?] at e18
            clear hdep hag hz
            go_simp
            exact hK _ _ (Below.refl _ _) rfl
          · intro z v hz hag hdep
            refine .inl ⟨rfl, fun K hK => ?_⟩
            have d19 : z.tmps.getD 19 undef = .pointer (some ⟨b, off + j * 3, none⟩) := hdep { on := 4, ground := .data } (by simp) rfl _ _ rfl rfl
            have e19 := d19
            rw [Array.getD_eq_getD_getElem?] at e19
            have l0 : v.cell? ⟨b, off + j * 3, none⟩ = some (.int .i64 x') := (hz.cell (p := ⟨b, off + j * 3 + 0, none⟩) HBl.out).trans HX0.out
            have l1 : v.cell? ⟨b, off + j * 3 + 1, none⟩ = some (.int .i64 s') := (hz.cell (p := ⟨b, off + j * 3 + 1, none⟩) HBl.out).trans HX1.out
            have l2 : v.cell? ⟨b, off + j * 3 + 2, none⟩ = some (.int .i64 t') := (hz.cell (p := ⟨b, off + j * 3 + 2, none⟩) HBl.out).trans HX2.out
            clear hdep hag hz
            go_simp
            exact hK _ _ (Below.refl _ _) rfl
          · intro z v hz hag hdep
            refine .inl ⟨rfl, fun K hK => ?_⟩
            have d15 : z.tmps.getD 15 undef = .agg #[.int .i64 x, .int .i64 s, .int .i64 t] := hdep { on := 0, ground := .data } (by simp) rfl _ _ rfl rfl
            have e15 := d15
            rw [Array.getD_eq_getD_getElem?] at e15
            have d20 : z.tmps.getD 20 undef = .agg #[.int .i64 x', .int .i64 s', .int .i64 t'] := hdep { on := 5, ground := .data } (by simp) rfl _ _ rfl rfl
            have e20 := d20
            rw [Array.getD_eq_getD_getElem?] at e20
            clear hdep hag hz
            go_simp
            have hk := hK (.bool dd) v (Below.refl _ _) rfl
            have hdd := HDd.out
            by_cases hx : x = x'
            · rw [if_pos hx]
              by_cases hs : s = s'
              · rw [if_pos hs]
                by_cases ht : t = t'
                · rw [if_pos ht]; rw [show dd = false by rw [← hdd]; simp [hx, hs, ht]] at hk; exact hk
                · rw [if_neg ht]; rw [show dd = true by rw [← hdd]; simp [ht]] at hk; exact hk
              · rw [if_neg hs]; rw [show dd = true by rw [← hdd]; simp [hs]] at hk; exact hk
            · rw [if_neg hx]; rw [show dd = true by rw [← hdd]; simp [hx]] at hk; exact hk
      case hdone =>
        intro z v hz hag hok hno
        clear hno
        have d21 : z.tmps.getD 21 undef = .bool dd := hok 6 _ 21 (by decide) rfl rfl
        obtain ⟨uu, hu, hzz⟩ := Go.Proofs.YtmdnnpcofbhceaaDoor.R.agree_frame [15, 16, 17, 18, 19, 20, 21] rfl hag
        have e21 := (hu 21).trans d21
        subst hzz
        have HZ : Hid (Below w2.heap.size w2 v) := Lib.hid (HF5.out.trans (hz.mono (HF5.out.size)))
        have hlv : rb + 1 ≤ v.heap.size := Nat.le_trans hsz2 HZ.out.size
        clear d21 hu hag hok hz
        simp only [List.foldl_cons, List.foldl_nil]
        rw [e21]
        clear e21
        dsimp only [List.drop]
        simp only [wpList]
        dsimp only [Exit.then]
        simp only [List.setIfInBounds_toArray, List.set_cons_succ, List.set_cons_zero]
        generalize uu 15 = u15', uu 16 = u16', uu 17 = u17', uu 18 = u18', uu 19 = u19', uu 20 = u20'
        clear uu c1 c0 hfld e0'' e1'' e2'' m0 m1 m2 hmx2 hbl2 hbl HX0 HX1 HX2 HNb HW5 HF5 HI0 HI2 HR1 HR2 HW1 HB1 HC0 HNl HRl HBl hlw hd
        cases dd
        · rename_i KK aa
          apply aa
          go_upto_region 6 with fail
          go_wp2
          go_roundw
          case rel => exact ⟨j + 1, by go_num, by omega, hlv, Lib.hid ⟨by
              have h := HDd.out
              simp at h
              rw [HSm.out, HSl.out, HF.out.1, h.1.1, h.1.2, h.2], HZ.out⟩⟩
          case measure => simp [intOf]; omega
        · have hne : ¬ mend l = l := by
            intro e
            have h1 := HCm.out
            have h2 := HCl.out
            have h3 : (mend l)[j]? = l[j]? := by rw [e]
            rw [List.getElem?_eq_getElem hjm, List.getElem?_eq_getElem hjl, h1, h2] at h3
            have h := HDd.out
            cases h3
            simp at h
          obtain rfl : D = false := by rw [← HD.out]; simp [hne]
          clear hne
          rename_i KK aa
          apply aa
          go_wp2
          rw [← HP.out]
          exact ⟨rfl, HB2.out.trans (HZ.out.mono (by omega))⟩
    · obtain rfl : j = n := by omega
      have hd : decide ((j : Int) < (j : Int)) = false := by simp
      have hmn : (mend l).length = j := by rw [mend_length, HLn.out]
      have he : mend l = l := by
        have h := HF.out.1
        rw [List.take_of_length_le (Nat.le_of_eq hmn), List.take_of_length_le (Nat.le_of_eq HLn.out.symm)] at h
        exact h
      obtain rfl : D = true := by rw [← HD.out]; simp [he]
      clear he hmn
      go_wp2
      rw [← HP.out]
      exact ⟨rfl, HB2.out.trans (HF.out.2.mono (by omega))⟩
end Go.Proofs.YtmdnnpcofbhceaaDoor.K
