/- The contracts of slices.Equal at cells, and of the program's Same. -/
import Derived.Test.YtkggmcnocpgnbaaDoorMerged6
namespace Go.Proofs.YtkggmcnocpgnbaaDoor.K
open Go.RowKit

theorem take_one {α : Type} (l : List α) (j : Nat) (h : j < l.length) : l.take (j + 1) = l.take j ++ [l[j]] := by
  rw [List.take_add_one, List.getElem?_eq_getElem h]; rfl
def EqOk (x s t x' s' t' : Int) (b1 o1 b2 o2 n c1 c2 j : Nat) (d : Bool) : Nat → Value → World → Prop
  | 0, u, _ => u = .slice (some ⟨b1, o1, none⟩) n c1
  | 1, u, _ => u = .int .i64 (j : Int)
  | 2, u, _ => u = .pointer (some ⟨b1, o1 + j * 3, none⟩)
  | 3, u, _ => u = .agg #[.int .i32 x, .int .i64 s, .int .i64 t]
  | 4, u, _ => u = .slice (some ⟨b2, o2, none⟩) n c2
  | 5, u, _ => u = .int .i64 (j : Int)
  | 6, u, _ => u = .pointer (some ⟨b2, o2 + j * 3, none⟩)
  | 7, u, _ => u = (.agg #[.int .i32 x', .int .i64 s', .int .i64 t'])
  | 8, u, _ => u = .bool d
  | _, _, _ => True
set_option maxRecDepth 100000 in
set_option maxHeartbeats 8000000 in
theorem equal_any (a1 a2 : Option Addr) (n n2 c1 c2 : Nat) (l1 l2 : List Cel) (w : World) (h1 : CelsIn .i32 a1 n l1 w) (h2 : CelsIn .i32 a2 n2 l2 w) (hn : (n : Int) ≤ 1000000) (hn2 : (n2 : Int) ≤ 1000000) :
    Calls Tryd.prog 76 #[.slice a1 n c1, .slice a2 n2 c2] w fun e w' => e = .returned (.bool (decide (l1 = l2))) ∧ Below w.heap.size w w' := by
  obtain ⟨rb, hrb⟩ : ∃ rb, w.heap.size = rb := ⟨_, rfl⟩
  rw [hrb]
  obtain ⟨D, hD⟩ : ∃ D, decide (l1 = l2) = D := ⟨_, rfl⟩
  obtain ⟨P, hP⟩ : ∃ P : Ending → World → Prop, (fun e w' => e = .returned (.bool D) ∧ Below rb w w') = P := ⟨_, rfl⟩
  rw [hD, hP]
  have HP := Lib.hid hP
  have HD := Lib.hid hD
  have HL1 := Lib.hid h1.len
  have HL2 := Lib.hid h2.len
  have H1 := Lib.hid h1
  have H2 := Lib.hid h2
  have HRb := Lib.hid hrb
  by_cases hnn : n = n2
  · subst hnn
    have q1 : ((n : Int) != (n : Int)) = false := by simp
    clear hP hD h1 h2 hrb hn2
    go_enter Tryd.func76, Tryd.ntmps76
    go_wp2_with fail
    go_loopw [13] (fun i wr => ∃ j : Nat, i = .int .i64 (j : Int) ∧ j ≤ n ∧ Hid (l1.take j = l2.take j ∧ Below rb w wr)) (fun i _ => n - (intOf i).toNat)
    case atStart => exact ⟨0, rfl, by omega, Lib.hid ⟨by simp, Below.refl _ _⟩⟩
    case round =>
      obtain ⟨j, rfl, hj, HF⟩ := hrel
      by_cases hlt : j < n
      · have hd : decide (j < n) = true := by simp; omega
        have hj1 : j < l1.length := by rw [← HL1.out]; exact hlt
        have hj2 : j < l2.length := by rw [← HL2.out]; exact hlt
        obtain ⟨b1, o1, rfl, hb1, hA1⟩ := H1.out.at_.resolve_left (by intro e; rw [e] at hj1; simp at hj1)
        obtain ⟨b2, o2, rfl, hb2, hA2⟩ := H2.out.at_.resolve_left (by intro e; rw [e] at hj2; simp at hj2)
        have hat1 := (hA1 j l1[j] (List.getElem?_eq_getElem hj1)).block (HF.out.2.block b1 (by rw [← HRb.out]; exact hb1))
        have hat2 := (hA2 j l2[j] (List.getElem?_eq_getElem hj2)).block (HF.out.2.block b2 (by rw [← HRb.out]; exact hb2))
        have hs1 := take_one l1 j hj1
        have hs2 := take_one l2 j hj2
        obtain ⟨k1, hk1⟩ : ∃ k, l1[j] = k := ⟨_, rfl⟩
        obtain ⟨k2, hk2⟩ : ∃ k, l2[j] = k := ⟨_, rfl⟩
        rw [hk1] at hat1 hs1
        rw [hk2] at hat2 hs2
        obtain ⟨x, s, t⟩ := k1
        obtain ⟨x', s', t'⟩ := k2
        have HX0 := Lib.hid hat1.c0
        have HX1 := Lib.hid hat1.c1
        have HX2 := Lib.hid hat1.c2
        have HY0 := Lib.hid hat2.c0
        have HY1 := Lib.hid hat2.c1
        have HY2 := Lib.hid hat2.c2
        have hbw := HF.out.2.size
        have HX : Hid (b1 < wr.heap.size) := Lib.hid (by have := HF.out.2.size; omega)
        have HY : Hid (b2 < wr.heap.size) := Lib.hid (by have := HF.out.2.size; omega)
        have HS1 := Lib.hid hs1
        have HS2 := Lib.hid hs2
        have HK1 := Lib.hid hk1
        have HK2 := Lib.hid hk2
        obtain ⟨dd, hdd⟩ : ∃ dd, (!(decide (x = x') && decide (s = s') && decide (t = t'))) = dd := ⟨_, rfl⟩
        have HDd := Lib.hid hdd
        clear hA1 hA2 hat1 hat2 hs1 hs2 hk1 hk2 hdd hb1 hb2 hbw
        go_upto_region 6 with fail
        refine Go.Proofs.YtkggmcnocpgnbaaDoor.R.wp_region_tail 9 (by kernel_rfl) (fun u => Below wr.heap.size wr u) (fun u v => Below u.heap.size u v) (EqOk x s t x' s' t' b1 o1 b2 o2 n c1 c2 j dd) (by rfl) (by kernel_rfl) (by decide) (by kernel_rfl) (by kernel_rfl) (by kernel_rfl) ?hC ?hOk ?hop ?hdone ((Below.refl _ _).drew)
        case hC => exact fun u v h1 h2 => h1.trans (h2.mono h1.size)
        case hOk =>
          intro i u w w' h _
          unfold EqOk at h ⊢
          split <;> first | exact True.intro | exact h
        case hop =>
          refine ⟨?_, ?_, ?_, ?_, ?_, ?_, ?_, ?_, ?_, trivial⟩
          · intro z v hz hag hdep
            refine .inl ⟨rfl, fun K hK => ?_⟩
            have d0 : z.tmps.getD 0 undef = .slice (some ⟨b1, o1, none⟩) n c1 := hag.2.2 0 (by kernel_rfl)
            have e0 := d0
            rw [Array.getD_eq_getD_getElem?] at e0
            clear hdep hag 
            go_simp
            exact hK _ _ (Below.refl _ _) rfl
          · intro z v hz hag hdep
            refine .inl ⟨rfl, fun K hK => ?_⟩
            have d5 : z.tmps.getD 5 undef = .int .i64 (j : Int) := hag.2.2 5 (by kernel_rfl)
            have e5 := d5
            rw [Array.getD_eq_getD_getElem?] at e5
            clear hdep hag 
            go_simp
            exact hK _ _ (Below.refl _ _) rfl
          · intro z v hz hag hdep
            refine .inl ⟨rfl, fun K hK => ?_⟩
            have d16 : z.tmps.getD 16 undef = .slice (some ⟨b1, o1, none⟩) n c1 := hdep { on := 0, ground := .data } (by simp) rfl _ _ rfl rfl
            have e16 := d16
            rw [Array.getD_eq_getD_getElem?] at e16
            have d17 : z.tmps.getD 17 undef = .int .i64 (j : Int) := hdep { on := 1, ground := .data } (by simp) rfl _ _ rfl rfl
            have e17 := d17
            rw [Array.getD_eq_getD_getElem?] at e17
            clear hdep hag 
            go_simp
            exact hK _ _ (Below.refl _ _) rfl
          · intro z v hz hag hdep
            refine .inl ⟨rfl, fun K hK => ?_⟩
            have d18 : z.tmps.getD 18 undef = .pointer (some ⟨b1, o1 + j * 3, none⟩) := hdep { on := 2, ground := .data } (by simp) rfl _ _ rfl rfl
            have e18 := d18
            rw [Array.getD_eq_getD_getElem?] at e18
            have l0 : v.cell? ⟨b1, o1 + j * 3, none⟩ = some (.int .i32 x) := (hz.cell (p := ⟨b1, o1 + j * 3 + 0, none⟩) HX.out).trans HX0.out
            have l1 : v.cell? ⟨b1, o1 + j * 3 + 1, none⟩ = some (.int .i64 s) := (hz.cell (p := ⟨b1, o1 + j * 3 + 1, none⟩) HX.out).trans HX1.out
            have l2 : v.cell? ⟨b1, o1 + j * 3 + 2, none⟩ = some (.int .i64 t) := (hz.cell (p := ⟨b1, o1 + j * 3 + 2, none⟩) HX.out).trans HX2.out
            clear hdep hag 
            go_simp
            exact hK _ _ (Below.refl _ _) rfl
          · intro z v hz hag hdep
            refine .inl ⟨rfl, fun K hK => ?_⟩
            have d1 : z.tmps.getD 1 undef = .slice (some ⟨b2, o2, none⟩) n c2 := hag.2.2 1 (by kernel_rfl)
            have e1 := d1
            rw [Array.getD_eq_getD_getElem?] at e1
            clear hdep hag 
            go_simp
            exact hK _ _ (Below.refl _ _) rfl
          · intro z v hz hag hdep
            refine .inl ⟨rfl, fun K hK => ?_⟩
            have d5 : z.tmps.getD 5 undef = .int .i64 (j : Int) := hag.2.2 5 (by kernel_rfl)
            have e5 := d5
            rw [Array.getD_eq_getD_getElem?] at e5
            clear hdep hag 
            go_simp
            exact hK _ _ (Below.refl _ _) rfl
          · intro z v hz hag hdep
            refine .inl ⟨rfl, fun K hK => ?_⟩
            have d20 : z.tmps.getD 20 undef = .slice (some ⟨b2, o2, none⟩) n c2 := hdep { on := 4, ground := .data } (by simp) rfl _ _ rfl rfl
            have e20 := d20
            rw [Array.getD_eq_getD_getElem?] at e20
            have d21 : z.tmps.getD 21 undef = .int .i64 (j : Int) := hdep { on := 5, ground := .data } (by simp) rfl _ _ rfl rfl
            have e21 := d21
            rw [Array.getD_eq_getD_getElem?] at e21
            clear hdep hag 
            go_simp
            exact hK _ _ (Below.refl _ _) rfl
          · intro z v hz hag hdep
            refine .inl ⟨rfl, fun K hK => ?_⟩
            have d22 : z.tmps.getD 22 undef = .pointer (some ⟨b2, o2 + j * 3, none⟩) := hdep { on := 6, ground := .data } (by simp) rfl _ _ rfl rfl
            have e22 := d22
            rw [Array.getD_eq_getD_getElem?] at e22
            have l0 : v.cell? ⟨b2, o2 + j * 3, none⟩ = some (.int .i32 x') := (hz.cell (p := ⟨b2, o2 + j * 3 + 0, none⟩) HY.out).trans HY0.out
            have l1 : v.cell? ⟨b2, o2 + j * 3 + 1, none⟩ = some (.int .i64 s') := (hz.cell (p := ⟨b2, o2 + j * 3 + 1, none⟩) HY.out).trans HY1.out
            have l2 : v.cell? ⟨b2, o2 + j * 3 + 2, none⟩ = some (.int .i64 t') := (hz.cell (p := ⟨b2, o2 + j * 3 + 2, none⟩) HY.out).trans HY2.out
            clear hdep hag 
            go_simp
            exact hK _ _ (Below.refl _ _) rfl
          · intro z v hz hag hdep
            refine .inl ⟨rfl, fun K hK => ?_⟩
            have d19 : z.tmps.getD 19 undef = .agg #[.int .i32 x, .int .i64 s, .int .i64 t] := hdep { on := 3, ground := .data } (by simp) rfl _ _ rfl rfl
            have e19 := d19
            rw [Array.getD_eq_getD_getElem?] at e19
            have d23 : z.tmps.getD 23 undef = (.agg #[.int .i32 x', .int .i64 s', .int .i64 t']) := hdep { on := 7, ground := .data } (by simp) rfl _ _ rfl rfl
            have e23 := d23
            rw [Array.getD_eq_getD_getElem?] at e23
            clear hdep hag hz
            go_simp
            have hk := hK (.bool dd) v (Below.refl _ _) rfl
            have hdd := HDd.out
            by_cases hx : x = x'
            · rw [if_pos hx]
              by_cases hs : s = s'
              · rw [if_pos hs]
                by_cases ht : t = t'
                · rw [if_pos ht]; rw [show dd = false by rw [← hdd]; simp [hx, hs, ht]] at hk; exact hk
                · rw [if_neg ht]; rw [show dd = true by rw [← hdd]; simp [ht]] at hk; exact hk
              · rw [if_neg hs]; rw [show dd = true by rw [← hdd]; simp [hs]] at hk; exact hk
            · rw [if_neg hx]; rw [show dd = true by rw [← hdd]; simp [hx]] at hk; exact hk
        case hdone =>
          intro z v hz hag hok hno
          clear hno
          have d24 : z.tmps.getD 24 undef = .bool dd := hok 8 _ 24 (by decide) rfl rfl
          obtain ⟨uu, hu, hzz⟩ := Go.Proofs.YtkggmcnocpgnbaaDoor.R.agree_frame [16, 17, 18, 19, 20, 21, 22, 23, 24] rfl hag
          have e24 := (hu 24).trans d24
          subst hzz
          have HZ : Hid (Below rb w v) := Lib.hid (HF.out.2.trans (hz.mono (by have := HF.out.2.size; have := HRb.out; omega)))
          clear d24 hu hag hok hz
          simp only [List.foldl_cons, List.foldl_nil]
          rw [e24]
          clear e24
          dsimp only [List.drop]
          simp only [wpList]
          dsimp only [Exit.then]
          simp only [List.setIfInBounds_toArray, List.set_cons_succ, List.set_cons_zero]
          generalize uu 16 = u16', uu 17 = u17', uu 18 = u18', uu 19 = u19', uu 20 = u20', uu 21 = u21', uu 22 = u22', uu 23 = u23'
          clear uu HX0 HX1 HX2 HY0 HY1 HY2 HX HY hd
          cases dd
          · rename_i KK aa
            apply aa
            go_upto_region 8 with fail
            go_wp2
            go_roundw
            case rel => exact ⟨j + 1, by go_num, by omega, Lib.hid ⟨by
                have h := HDd.out
                simp at h
                rw [HS1.out, HS2.out, HF.out.1, h.1.1, h.1.2, h.2], HZ.out⟩⟩
            case measure => simp [intOf]; omega
          · have hne : ¬ l1 = l2 := by
              intro e
              have h1 := HK1.out
              have h2 := HK2.out
              have h3 : l1[j]? = l2[j]? := by rw [e]
              rw [List.getElem?_eq_getElem hj1, List.getElem?_eq_getElem hj2, h1, h2] at h3
              have h := HDd.out
              cases h3
              simp at h
            obtain rfl : D = false := by rw [← HD.out]; simp [hne]
            clear hne
            rename_i KK aa
            apply aa
            go_wp2
            rw [← HP.out]
            exact ⟨rfl, HZ.out⟩
      · obtain rfl : j = n := by omega
        have hd : decide ((j : Int) < (j : Int)) = false := by simp
        have he : l1 = l2 := by
          have h := HF.out.1
          rw [List.take_of_length_le (Nat.le_of_eq HL1.out.symm), List.take_of_length_le (Nat.le_of_eq HL2.out.symm)] at h
          exact h
        obtain rfl : D = true := by rw [← HD.out]; simp [he]
        clear he
        go_wp2
        rw [← HP.out]
        exact ⟨rfl, HF.out.2⟩
  · have hne : ¬ l1 = l2 := fun e => hnn (by rw [h1.len, h2.len, e])
    have q1 : ((n : Int) != (n2 : Int)) = true := by rw [bne_iff_ne]; omega
    obtain rfl : D = false := by rw [← hD]; simp [hne]
    clear hP hD h1 h2 hrb hnn hne
    go_enter Tryd.func76, Tryd.ntmps76
    go_wp2_with fail
    rw [← HP.out]
    exact ⟨rfl, Below.refl _ _⟩

set_option maxRecDepth 100000 in
set_option maxHeartbeats 8000000 in
theorem rowSame_any (a1 a2 : Option Addr) (n1 n2 c1 c2 : Nat) (r1 r2 : Bool) (l1 l2 : List Cel) (w : World) (h1 : CelsIn .i32 a1 n1 l1 w) (h2 : CelsIn .i32 a2 n2 l2 w) (hn : (n1 : Int) ≤ 1000000) (hn2 : (n2 : Int) ≤ 1000000) :
    Calls Tryd.prog 42 #[.agg #[.slice a1 n1 c1, .bool r1], .agg #[.slice a2 n2 c2, .bool r2]] w fun e w' => e = .returned (.bool (decide ((⟨l1, r1⟩ : Ro) = ⟨l2, r2⟩))) ∧ Below w.heap.size w w' := by
  obtain ⟨rb, hrb⟩ : ∃ rb, w.heap.size = rb := ⟨_, rfl⟩
  rw [hrb]
  obtain ⟨D, hD⟩ : ∃ D, decide ((⟨l1, r1⟩ : Ro) = ⟨l2, r2⟩) = D := ⟨_, rfl⟩
  rw [hD]
  obtain ⟨w2, hw2⟩ : ∃ w2, (w.alloc (.cells #[.slice a1 n1 c1, .bool r1] 27)).alloc (.cells #[.slice a2 n2 c2, .bool r2] 27) = w2 := ⟨_, rfl⟩
  have hb2 : Below rb w w2 := by rw [← hw2, ← hrb]; exact ((Below.refl _ _).alloc (Nat.le_refl _) _).alloc (by simp) _
  have hq1 : RoB 27 rb (.slice a1 n1 c1) r1 w2 := by rw [← hw2, ← hrb]; exact (RoB.new _ _ _ _).belowAll ((Below.refl _ _).alloc (Nat.le_refl _) _)
  have hq2 : RoB 27 (rb + 1) (.slice a2 n2 c2) r2 w2 := by
    have h := RoB.new 27 (w.alloc (.cells #[.slice a1 n1 c1, .bool r1] 27)) (.slice a2 n2 c2) r2
    rw [World.size_alloc, hrb, hw2] at h
    exact h
  have HE := Lib.hid (equal_any a1 a2 n1 n2 c1 c2 l1 l2 w2 (h1.belowAll (by rw [hrb]; exact hb2)) (h2.belowAll (by rw [hrb]; exact hb2)) hn hn2)
  have c0 := hq1.c0
  have c1' := hq1.c1
  have c2' := hq2.c0
  have c3 := hq2.c1
  have HSz : Hid (rb ≤ w2.heap.size) := Lib.hid (by have := hb2.size; omega)
  have HB2 := Lib.hid hb2
  have HW2 := Lib.hid hw2
  have HRb := Lib.hid hrb
  have HD := Lib.hid hD
  clear hb2 hq1 hq2 hw2 hrb hD h1 h2
  by_cases hr : r1 = r2
  · subst hr
    have hDe : decide (l1 = l2) = D := by rw [← HD.out]; simp
    rw [hDe] at HE
    clear hDe
    have q : (r1 == r1) = true := by simp
    go_enter Tryd.func42, Tryd.ntmps42
    go_upto_region 1 with fail
    rw [HW2.out, HRb.out]
    go_wp2_with (go_at_call 76; refine HE.out.mono ?_; rintro e w3 ⟨rfl, hb3⟩)
    go_ret
    exact ⟨rfl, HB2.out.trans (hb3.mono HSz.out)⟩
  · have hDe : D = false := by rw [← HD.out]; simp [hr]
    subst hDe
    have q : (r1 == r2) = false := by rw [beq_eq_false_iff_ne]; exact hr
    have hway : (r1 = true ∧ r2 = false) ∨ (r1 = false ∧ r2 = true) := by
      cases r1 <;> cases r2 <;> simp at hr ⊢
    clear hr HD
    rcases hway with ⟨rfl, rfl⟩ | ⟨rfl, rfl⟩
    all_goals
      go_enter Tryd.func42, Tryd.ntmps42
      go_upto_region 1 with fail
      rw [HW2.out, HRb.out]
      go_wp2_with fail
      go_ret
      exact ⟨rfl, HB2.out⟩
end Go.Proofs.YtkggmcnocpgnbaaDoor.K
