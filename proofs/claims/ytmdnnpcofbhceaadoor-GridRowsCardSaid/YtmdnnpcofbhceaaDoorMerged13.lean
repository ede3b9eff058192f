/- The contract of the statements' awake (layer 9). -/
import Derived.Test.YtmdnnpcofbhceaaDoorVDo
import Derived.Test.YtmdnnpcofbhceaaDoorVGly
import Derived.Test.YtmdnnpcofbhceaaDoorKFill
import Derived.Test.YtmdnnpcofbhceaaDoorMerged4
import Derived.Test.YtmdnnpcofbhceaaDoorMerged3
namespace Go.Proofs.YtmdnnpcofbhceaaDoor.K
open Go.RowKit

theorem awake_row : putS (W.ofS 97) (putS (W.ofS 20013) (blanks (nearN 3) 0) 0 20013 0) 1 97 0 = [⟨32, 0, 0⟩, ⟨97, 0, 0⟩, ⟨32, 0, 0⟩] := by decide
theorem awake_glyphs : (glyphs ⟨[⟨32, 0, 0⟩, ⟨97, 0, 0⟩, ⟨32, 0, 0⟩], false⟩).length = 2 := by decide
set_option maxRecDepth 100000 in
set_option maxHeartbeats 8000000 in
theorem awake_any (w : World) (hT : W.Tab w) : Calls Tryd.prog 13 #[] w fun e w' => e = .returned (.bool true) ∧ Below w.heap.size w w' := by
  obtain ⟨rb, hrb⟩ : ∃ rb, w.heap.size = rb := ⟨_, rfl⟩
  rw [hrb]
  have HRb := Lib.hid hrb
  have HT := Lib.hid hT
  have H1 := Lib.hid (rowBlank_any 3 0 w)
  clear hrb hT
  go_enter Tryd.func13, Tryd.ntmps13
  go_wp2_with fail
  refine H1.out.mono ?_
  rintro e w1 ⟨v1, rfl, hO1, hb1⟩
  obtain ⟨a1, c1, rfl, hi1, -, hn1, -⟩ := hO1.shape
  have hl1 : (blanks (nearN 3) 0).length = 3 := by decide
  rw [hl1] at hi1 ⊢
  have H2 := Lib.hid (rowPut_any a1 3 c1 false _ 0 20013 0 w1 (HT.out.belowAll hb1) hi1 hn1 (by decide))
  have HB1 := Lib.hid hb1
  clear hO1 hb1 hi1 hn1 hl1 H1
  go_wp2_with fail
  refine H2.out.mono ?_
  rintro e w2 ⟨v2, rfl, hO2, hb2⟩
  have HB2 := Lib.hid (HB1.out.trans (hb2.mono HB1.out.size))
  obtain ⟨a2, c2, rfl, hi2, -, hn2, -⟩ := hO2.shape
  have hl2 : (putS (W.ofS 20013) (blanks (nearN 3) 0) 0 20013 0).length = 3 := by rw [put_length]; decide
  rw [hl2] at hi2 ⊢
  have H3 := Lib.hid (rowPut_any a2 3 c2 false _ 1 97 0 w2 (HT.out.belowAll HB2.out) hi2 hn2 (by decide))
  rw [awake_row] at H3
  clear hO2 hb2 hi2 hn2 hl2 H2
  go_wp2_with fail
  refine H3.out.mono ?_
  rintro e w3 ⟨v3, rfl, hO3, hb3⟩
  have HB3 := Lib.hid (HB2.out.trans (hb3.mono HB2.out.size))
  obtain ⟨a3, c3, rfl, hi3, -, hn3, hc3, hx3⟩ := hO3.shape
  obtain ⟨b3, o3, rfl, hbl3, hA3⟩ := hi3.at_.resolve_left (by intro e; cases e)
  have k0 := hA3 0 _ rfl
  have k1 := hA3 1 _ rfl
  have k2 := hA3 2 _ rfl
  obtain ⟨w4, hw4⟩ : ∃ w4, w3.alloc (.cells #[.slice (some ⟨b3, o3, none⟩) 3 c3, .bool false] 26) = w4 := ⟨_, rfl⟩
  have hb4 : Below w3.heap.size w3 w4 := by rw [← hw4]; exact (Below.refl _ _).alloc (Nat.le_refl _) _
  have hR : RoB 26 w3.heap.size (.slice (some ⟨b3, o3, none⟩) 3 c3) false w4 := by rw [← hw4]; exact RoB.new _ _ _ _
  have z0 := hR.c0
  have z1 := hR.c1
  have k0' := k0.block (hb4.block b3 hbl3)
  have k1' := k1.block (hb4.block b3 hbl3)
  have k2' := k2.block (hb4.block b3 hbl3)
  have x0 : w4.cell? ⟨b3, o3, none⟩ = some (.int .i32 32) := k0'.c0
  have x1 : w4.cell? ⟨b3, o3 + 3, none⟩ = some (.int .i32 97) := k1'.c0
  have x2 : w4.cell? ⟨b3, o3 + 6, none⟩ = some (.int .i32 32) := k2'.c0
  have x3 : w4.cell? ⟨b3, o3 + 6 + 2, none⟩ = some (.int .i64 0) := k2'.c2
  have x4 : w4.cell? ⟨b3, o3 + 8, none⟩ = some (.int .i64 0) := k2'.c2
  have HG := Lib.hid (glyphs_any (some ⟨b3, o3, none⟩) 3 c3 false _ w4 (hi3.belowAll hb4) (by decide) (by simpa using hc3) hx3)
  have HB4 := Lib.hid (HB3.out.trans (hb4.mono HB3.out.size))
  obtain ⟨g, hg⟩ : ∃ g, w3.heap.size = g := ⟨_, rfl⟩
  rw [hg] at z0 z1
  have HW4 := Lib.hid hw4
  have HGg := Lib.hid hg
  have hc33 : (3 : Int) ≤ c3 := by simp at hc3; omega
  clear hO3 hb3 hi3 hn3 hA3 k0 k1 k2 k0' k1' k2' hb4 hR hw4 hg H3 hbl3
  go_upto_region 2 with fail
  have e3 : ([⟨32, 0, 0⟩, ⟨97, 0, 0⟩, ⟨32, 0, 0⟩] : List Cel).length = 3 := rfl
  first | rw [HW4.out, HGg.out] | (rw [e3, HW4.out, HGg.out])
  go_wp2_with fail
  refine HG.out.mono ?_
  rintro e w5 ⟨a5, n5, c5, rfl, hG, hb5⟩
  have hn5 := hG.len
  rw [awake_glyphs] at hn5
  subst hn5
  have HB5 := Lib.hid (HB4.out.trans (hb5.mono HB4.out.size))
  clear hG hb5 HG
  go_wp2_with fail
  go_ret
  exact ⟨rfl, by rw [← HRb.out]; exact HB5.out⟩
end Go.Proofs.YtmdnnpcofbhceaaDoor.K

/- The contract of the document's Whole. -/
namespace Go.Proofs.YtmdnnpcofbhceaaDoor.K
open Go.RowKit

def WholeOk (x s t x' s' t' j : Int) (rb : Nat) (a : Option Addr) (n c b o : Nat) (d : Bool) : Nat → Value → World → Prop
  | 0, u, _ => u = .agg #[.int .i64 x, .int .i64 s, .int .i64 t]
  | 1, u, _ => u = .pointer (some ⟨rb, 0, none⟩)
  | 2, u, _ => u = .slice a n c
  | 3, u, _ => u = .int .i64 j
  | 4, u, _ => u = .pointer (some ⟨b, o, none⟩)
  | 5, u, _ => u = .agg #[.int .i64 x', .int .i64 s', .int .i64 t']
  | 6, u, _ => u = .bool d
  | _, _, _ => True
theorem WholeOk.keeps {x s t x' s' t' j : Int} {rb : Nat} {a : Option Addr} {n c b o : Nat} {d : Bool} (i : Nat) (u : Value) (w w' : World) (h : WholeOk x s t x' s' t' j rb a n c b o d i u w) : WholeOk x s t x' s' t' j rb a n c b o d i u w' := by
  unfold WholeOk at h ⊢
  split <;> first | exact True.intro | exact h
theorem take_snoc {α : Type} (l : List α) (j : Nat) (h : j < l.length) : l.take (j + 1) = l.take j ++ [l[j]] := by
  rw [List.take_add_one, List.getElem?_eq_getElem h]; rfl
set_option maxRecDepth 100000 in
set_option maxHeartbeats 8000000 in
theorem refWhole_any (a : Option Addr) (n c : Nat) (wr0 : Bool) (l : List Cel) (w : World) (hI : CelsIn .i64 a n l w) (hn : (n : Int) ≤ 1000000) (hmax : (c : Int) ≤ 9223372036854775807) : Calls Tryd.prog 18 #[.agg #[.slice a n c, .bool wr0]] w fun e w' => e = .returned (.bool (decide (mend l = l))) ∧ Below w.heap.size w w' := by
  obtain ⟨rb, hrb⟩ : ∃ rb, w.heap.size = rb := ⟨_, rfl⟩
  rw [hrb]
  obtain ⟨D, hD⟩ : ∃ D, decide (mend l = l) = D := ⟨_, rfl⟩
  obtain ⟨P, hP⟩ : ∃ P : Ending → World → Prop, (fun e w' => e = .returned (.bool D) ∧ Below rb w w') = P := ⟨_, rfl⟩
  rw [hD, hP]
  have HP := Lib.hid hP
  have HD := Lib.hid hD
  have HLn := Lib.hid hI.len
  have HI0 := Lib.hid hI
  obtain ⟨w1, hw1⟩ : ∃ w1, w.alloc (.cells #[.slice a n c, .bool wr0] 30) = w1 := ⟨_, rfl⟩
  have hb1 : Below rb w w1 := by rw [← hw1, ← hrb]; exact (Below.refl _ _).alloc (Nat.le_refl _) _
  have hr1 : RoB 30 rb (.slice a n c) wr0 w1 := by rw [← hw1, ← hrb]; exact RoB.new _ _ _ _
  have hs1 : w1.heap.size = rb + 1 := by rw [← hw1, World.size_alloc, hrb]
  have c0 := hr1.c0
  have c1 := hr1.c1
  have hM := refMend_any a n c l w1 (hI.belowAll (by rw [hrb]; exact hb1)) hn
  rw [hs1] at hM
  have HM := Lib.hid hM
  have HB1 := Lib.hid hb1
  have HR1 := Lib.hid hr1
  have HS1 := Lib.hid hs1
  have HW1 := Lib.hid hw1
  have HRb := Lib.hid hrb
  clear hP hD hI hw1 hb1 hr1 hs1 hM hrb
  go_enter Tryd.func18, Tryd.ntmps18
  go_upto_region 1 with fail
  rw [HW1.out, HRb.out]
  go_wp2_with fail
  refine HM.out.mono ?_
  rintro e w2 ⟨v2, rfl, hO2, hb2⟩
  obtain ⟨a2, c2, he2, hin2, -, -, -, hmx2⟩ := hO2.shape
  rw [mend_length, ← HLn.out] at he2 hin2
  subst he2
  have HB2 : Hid (Below rb w w2) := Lib.hid (HB1.out.trans (hb2.mono (by omega)))
  have HR2 := Lib.hid (HR1.out.below hb2 (Nat.lt_succ_self rb))
  have HI2 := Lib.hid hin2
  have hsz2 : rb + 1 ≤ w2.heap.size := by rw [← HS1.out]; exact hb2.size
  have hfld := run_field_row w2 (.slice a2 n c2) false
  clear hO2 hb2 hin2 HM
  go_wp2_with fail
  go_loopw [10] (fun i wr => ∃ j : Nat, i = .int .i64 (j : Int) ∧ j ≤ n ∧ rb + 1 ≤ wr.heap.size ∧ Hid ((mend l).take j = l.take j ∧ Below w2.heap.size w2 wr)) (fun i _ => n - (intOf i).toNat)
  case atStart => exact ⟨0, rfl, by omega, hsz2, Lib.hid ⟨by simp, Below.refl _ _⟩⟩
  case round =>
    obtain ⟨j, rfl, hj, hlw, HF⟩ := hrel
    by_cases hlt : j < n
    · have hd : decide (j < n) = true := by simp; omega
      have hjl : j < l.length := by rw [← HLn.out]; exact hlt
      have hjm : j < (mend l).length := by rw [mend_length]; exact hjl
      obtain ⟨b, off, rfl, hbl, hAt⟩ := HI0.out.at_.resolve_left (by intro e; rw [e] at hjl; simp at hjl)
      rw [HRb.out] at hbl
      obtain ⟨b2, off2, rfl, hbl2, hAt2⟩ := HI2.out.at_.resolve_left (by intro e; rw [e] at hjm; simp at hjm)
      have hbw : Below rb w wr := HB2.out.trans (HF.out.2.mono (by omega))
      obtain ⟨cm, hcm⟩ : ∃ cm, (mend l)[j] = cm := ⟨_, rfl⟩
      obtain ⟨cl, hcl⟩ : ∃ cl, l[j] = cl := ⟨_, rfl⟩
      have hat := (hAt j l[j] (List.getElem?_eq_getElem hjl)).block (hbw.block b hbl)
      have hat2 := (hAt2 j (mend l)[j] (List.getElem?_eq_getElem hjm)).block (HF.out.2.block b2 hbl2)
      have hsm := take_snoc (mend l) j hjm
      have hsl := take_snoc l j hjl
      rw [hcm] at hat2 hsm
      rw [hcl] at hat hsl
      obtain ⟨x, s, t⟩ := cm
      obtain ⟨x', s', t'⟩ := cl
      have m0 := hat2.c0
      have m1 := hat2.c1
      have m2 := hat2.c2
      have n0 := hat.c0
      have n1 := hat.c1
      have n2 := hat.c2
      simp only at m0 m1 m2 n0 n1 n2
      obtain ⟨nb, hnb⟩ : ∃ nb, wr.heap.size = nb := ⟨_, rfl⟩
      obtain ⟨w5, hw5⟩ : ∃ w5, wr.alloc (.cells #[.int .i64 x, .int .i64 s, .int .i64 t] 87) = w5 := ⟨_, rfl⟩
      have hblk5 : w5.heap[nb]? = some (.cells #[.int .i64 x, .int .i64 s, .int .i64 t] 87 (0, 0)) := by rw [← hw5, ← hnb]; exact World.alloc_heap_new _ _
      have hb5 : Below wr.heap.size wr w5 := by rw [← hw5]; exact (Below.refl _ _).alloc (Nat.le_refl _) _
      have hz5 : w5.heap.size = nb + 1 := by rw [← hw5, World.size_alloc, hnb]
      have e0'' : w5.cell? ⟨nb, 0, none⟩ = some (.int .i64 x) := by simp [World.cell?, hblk5]
      have e1'' : w5.cell? ⟨nb, 1, none⟩ = some (.int .i64 s) := by simp [World.cell?, hblk5]
      have e2'' : w5.cell? ⟨nb, 2, none⟩ = some (.int .i64 t) := by simp [World.cell?, hblk5]
      have HC0 := Lib.hid ((hb5.cell (p := ⟨rb, 0, none⟩) (by show rb < _; omega)).trans ((HF.out.2.cell (p := ⟨rb, 0, none⟩) (by show rb < _; omega)).trans HR2.out.c0))
      have HX0 := Lib.hid ((hb5.cell (p := ⟨b, off + j * 3 + 0, none⟩) (by show b < _; omega)).trans n0)
      have HX1 := Lib.hid ((hb5.cell (p := ⟨b, off + j * 3 + 1, none⟩) (by show b < _; omega)).trans n1)
      have HX2 := Lib.hid ((hb5.cell (p := ⟨b, off + j * 3 + 2, none⟩) (by show b < _; omega)).trans n2)
      have HNl : Hid (nb < w5.heap.size) := Lib.hid (by omega)
      have HRl : Hid (rb < w5.heap.size) := Lib.hid (by omega)
      have HBl : Hid (b < w5.heap.size) := Lib.hid (by omega)
      have HF5 : Hid (Below w2.heap.size w2 w5) := Lib.hid (HF.out.2.trans (hb5.mono HF.out.2.size))
      have HSm := Lib.hid hsm
      have HSl := Lib.hid hsl
      have HCm := Lib.hid hcm
      have HCl := Lib.hid hcl
      have HW5 := Lib.hid hw5
      have HNb := Lib.hid hnb
      obtain ⟨dd, hdd⟩ : ∃ dd, (!(decide (x = x') && decide (s = s') && decide (t = t'))) = dd := ⟨_, rfl⟩
      have HDd := Lib.hid hdd
      clear hAt hAt2 hbw hat hat2 hsm hsl hcm hcl hblk5 hb5 hz5 n0 n1 n2 hw5 hnb hdd
      go_upto_region 4 with fail
      rw [HW5.out, HNb.out]
      refine Go.Proofs.YtmdnnpcofbhceaaDoor.R.wp_region_tail 7 (by kernel_rfl) (fun u => Below w5.heap.size w5 u) (fun u v => Below u.heap.size u v) (WholeOk x s t x' s' t' (j : Int) rb (some ⟨b, off, none⟩) n c b (off + j * 3) dd) (by rfl) (by kernel_rfl) (by decide) (by kernel_rfl) (by kernel_rfl) (by kernel_rfl) ?hC ?hOk ?hop ?hdone ((Below.refl _ _).drew)
      case hC => exact fun u v h1 h2 => h1.trans (h2.mono h1.size)
      case hOk => exact fun j u w w' h _ => WholeOk.keeps j u w w' h
      case hop =>
          refine ⟨?_, ?_, ?_, ?_, ?_, ?_, ?_, trivial⟩
          · intro z v hz hag hdep
            refine .inl ⟨rfl, fun K hK => ?_⟩
            have d4 : z.tmps.getD 4 undef = .pointer (some ⟨nb, 0, none⟩) := hag.2.2 4 (by kernel_rfl)
            have e4 := d4
            rw [Array.getD_eq_getD_getElem?] at e4
            have l0 : v.cell? ⟨nb, 0, none⟩ = some (.int .i64 x) := (hz.cell (p := ⟨nb, 0, none⟩) HNl.out).trans e0''
            have l1 : v.cell? ⟨nb, 1, none⟩ = some (.int .i64 s) := (hz.cell (p := ⟨nb, 1, none⟩) HNl.out).trans e1''
            have l2 : v.cell? ⟨nb, 2, none⟩ = some (.int .i64 t) := (hz.cell (p := ⟨nb, 2, none⟩) HNl.out).trans e2''
            clear hdep hag hz
            go_simp
            exact hK _ _ (Below.refl _ _) rfl
          · intro z v hz hag hdep
            refine .inl ⟨rfl, fun K hK => ?_⟩
            have d1 : z.tmps.getD 1 undef = .pointer (some ⟨rb, 0, none⟩) := hag.2.2 1 (by kernel_rfl)
            have e1 := d1
            rw [Array.getD_eq_getD_getElem?] at e1
            clear hdep hag hz
            go_simp
            exact hK _ _ (Below.refl _ _) rfl
          · intro z v hz hag hdep
            refine .inl ⟨rfl, fun K hK => ?_⟩
            have d16 : z.tmps.getD 16 undef = .pointer (some ⟨rb, 0, none⟩) := hdep { on := 1, ground := .data } (by simp) rfl _ _ rfl rfl
            have e16 := d16
            rw [Array.getD_eq_getD_getElem?] at e16
            have l0 : v.cell? ⟨rb, 0, none⟩ = some (.slice (some ⟨b, off, none⟩) n c) := (hz.cell (p := ⟨rb, 0, none⟩) HRl.out).trans HC0.out
            clear hdep hag hz
            go_simp
            exact hK _ _ (Below.refl _ _) rfl
          · intro z v hz hag hdep
            refine .inl ⟨rfl, fun K hK => ?_⟩
            have d3 : z.tmps.getD 3 undef = .int .i64 (j : Int) := hag.2.2 3 (by kernel_rfl)
            have e3 := d3
            rw [Array.getD_eq_getD_getElem?] at e3
            clear hdep hag hz
            go_simp
            exact hK _ _ (Below.refl _ _) rfl
          · intro z v hz hag hdep
            refine .inl ⟨rfl, fun K hK => ?_⟩
            have d17 : z.tmps.getD 17 undef = .slice (some ⟨b, off, none⟩) n c := hdep { on := 2, ground := .data } (by simp) rfl _ _ rfl rfl
            have e17 := d17
            rw [Array.getD_eq_getD_getElem?] at e17
            have d18 : z.tmps.getD 18 undef = .int .i64 (j : Int) := hdep { on := 3, ground := .data } (by simp) rfl _ _ rfl rfl
            have e18 := d18
            rw [Array.getD_eq_getD_getElem?] at e18
            clear hdep hag hz
            go_simp
            exact hK _ _ (Below.refl _ _) rfl
          · intro z v hz hag hdep
            refine .inl ⟨rfl, fun K hK => ?_⟩
            have d19 : z.tmps.getD 19 undef = .pointer (some ⟨b, off + j * 3, none⟩) := hdep { on := 4, ground := .data } (by simp) rfl _ _ rfl rfl
            have e19 := d19
            rw [Array.getD_eq_getD_getElem?] at e19
            have l0 : v.cell? ⟨b, off + j * 3, none⟩ = some (.int .i64 x') := (hz.cell (p := ⟨b, off + j * 3 + 0, none⟩) HBl.out).trans HX0.out
            have l1 : v.cell? ⟨b, off + j * 3 + 1, none⟩ = some (.int .i64 s') := (hz.cell (p := ⟨b, off + j * 3 + 1, none⟩) HBl.out).trans HX1.out
            have l2 : v.cell? ⟨b, off + j * 3 + 2, none⟩ = some (.int .i64 t') := (hz.cell (p := ⟨b, off + j * 3 + 2, none⟩) HBl.out).trans HX2.out
            clear hdep hag hz
            go_simp
            exact hK _ _ (Below.refl _ _) rfl
          · intro z v hz hag hdep
            refine .inl ⟨rfl, fun K hK => ?_⟩
            have d15 : z.tmps.getD 15 undef = .agg #[.int .i64 x, .int .i64 s, .int .i64 t] := hdep { on := 0, ground := .data } (by simp) rfl _ _ rfl rfl
            have e15 := d15
            rw [Array.getD_eq_getD_getElem?] at e15
            have d20 : z.tmps.getD 20 undef = .agg #[.int .i64 x', .int .i64 s', .int .i64 t'] := hdep { on := 5, ground := .data } (by simp) rfl _ _ rfl rfl
            have e20 := d20
            rw [Array.getD_eq_getD_getElem?] at e20
            clear hdep hag hz
            go_simp
            have hk := hK (.bool dd) v (Below.refl _ _) rfl
            have hdd := HDd.out
            by_cases hx : x = x'
            · rw [if_pos hx]
              by_cases hs : s = s'
              · rw [if_pos hs]
                by_cases ht : t = t'
                · rw [if_pos ht]; rw [show dd = false by rw [← hdd]; simp [hx, hs, ht]] at hk; exact hk
                · rw [if_neg ht]; rw [show dd = true by rw [← hdd]; simp [ht]] at hk; exact hk
              · rw [if_neg hs]; rw [show dd = true by rw [← hdd]; simp [hs]] at hk; exact hk
            · rw [if_neg hx]; rw [show dd = true by rw [← hdd]; simp [hx]] at hk; exact hk
      case hdone =>
        intro z v hz hag hok hno
        clear hno
        have d21 : z.tmps.getD 21 undef = .bool dd := hok 6 _ 21 (by decide) rfl rfl
        obtain ⟨uu, hu, hzz⟩ := Go.Proofs.YtmdnnpcofbhceaaDoor.R.agree_frame [15, 16, 17, 18, 19, 20, 21] rfl hag
        have e21 := (hu 21).trans d21
        subst hzz
        have HZ : Hid (Below w2.heap.size w2 v) := Lib.hid (HF5.out.trans (hz.mono (HF5.out.size)))
        have hlv : rb + 1 ≤ v.heap.size := Nat.le_trans hsz2 HZ.out.size
        clear d21 hu hag hok hz
        simp only [List.foldl_cons, List.foldl_nil]
        rw [e21]
        clear e21
        dsimp only [List.drop]
        simp only [wpList]
        dsimp only [Exit.then]
        simp only [List.setIfInBounds_toArray, List.set_cons_succ, List.set_cons_zero]
        generalize uu 15 = u15', uu 16 = u16', uu 17 = u17', uu 18 = u18', uu 19 = u19', uu 20 = u20'
        clear uu c1 c0 hfld e0'' e1'' e2'' m0 m1 m2 hmx2 hbl2 hbl HX0 HX1 HX2 HNb HW5 HF5 HI0 HI2 HR1 HR2 HW1 HB1 HC0 HNl HRl HBl hlw hd
        cases dd
        · rename_i KK aa
          apply aa
          go_upto_region 6 with fail
          go_wp2
          go_roundw
          case rel => exact ⟨j + 1, by go_num, by omega, hlv, Lib.hid ⟨by
              have h := HDd.out
              simp at h
              rw [HSm.out, HSl.out, HF.out.1, h.1.1, h.1.2, h.2], HZ.out⟩⟩
          case measure => simp [intOf]; omega
        · have hne : ¬ mend l = l := by
            intro e
            have h1 := HCm.out
            have h2 := HCl.out
            have h3 : (mend l)[j]? = l[j]? := by rw [e]
            rw [List.getElem?_eq_getElem hjm, List.getElem?_eq_getElem hjl, h1, h2] at h3
            have h := HDd.out
            cases h3
            simp at h
          obtain rfl : D = false := by rw [← HD.out]; simp [hne]
          clear hne
          rename_i KK aa
          apply aa
          go_wp2
          rw [← HP.out]
          exact ⟨rfl, HB2.out.trans (HZ.out.mono (by omega))⟩
    · obtain rfl : j = n := by omega
      have hd : decide ((j : Int) < (j : Int)) = false := by simp
      have hmn : (mend l).length = j := by rw [mend_length, HLn.out]
      have he : mend l = l := by
        have h := HF.out.1
        rw [List.take_of_length_le (Nat.le_of_eq hmn), List.take_of_length_le (Nat.le_of_eq HLn.out.symm)] at h
        exact h
      obtain rfl : D = true := by rw [← HD.out]; simp [he]
      clear he hmn
      go_wp2
      rw [← HP.out]
      exact ⟨rfl, HB2.out.trans (HF.out.2.mono (by omega))⟩
end Go.Proofs.YtmdnnpcofbhceaaDoor.K

/- A region that draws its order, where the condition hangs on which operations came up already. -/
namespace Go.Proofs.YtmdnnpcofbhceaaDoor.R
open Go

def upd (L : Nat → Bool) (i : Nat) : Nat → Bool := fun k => if k = i then true else L k
theorem updL (listed : Array Bool) (i : Nat) (h : i < listed.size) : (fun k => (listed.setIfInBounds i true).getD k false) = upd (fun k => listed.getD k false) i := by
  funext k
  unfold upd
  rw [Array.getD_eq_getD_getElem?, Array.getElem?_setIfInBounds]
  by_cases hki : i = k
  · subst hki; rw [if_pos rfl, if_pos h, if_pos rfl]; rfl
  · rw [if_neg hki, if_neg (Ne.symm hki), ← Array.getD_eq_getD_getElem?]
theorem noneL (n : Nat) : (fun k => (Array.replicate n false).getD k false) = fun _ => false := by
  funext k
  rw [Array.getD_eq_getD_getElem?]
  by_cases h : k < n
  · simp [h]
  · simp [h]
theorem allL {n : Nat} {listed : Array Bool} (hsz : listed.size = n) (h : ∀ i, i < n → listed.getD i false = true) : (fun k => listed.getD k false) = fun k => decide (k < n) := by
  funext k
  by_cases hk : k < n
  · rw [h k hk]; simp [hk]
  · rw [Array.getD_eq_getD_getElem?, Array.getElem?_eq_none (by omega)]; simp [hk]

section
variable {P : Program} {ops : Array Oper} {Q : Exit → Act → World → Prop}
/-- EACH OPERATION's OWN STEP; what came up ahead of it is told. -/
def OpStepL (P : Program) (ops : Array Oper) (Q : Exit → Act → World → Prop) (base : Act) (C : (Nat → Bool) → World → Prop) (R : World → World → Prop) (Ok : Nat → Value → World → Prop) (i : Nat) (o : Oper) : Prop :=
  ∀ (L : Nat → Bool) (a : Act) (w : World), L i = false → (∀ e ∈ o.after, Region.binds .any e = true → L e.on = true) → C L w → Agree ops base a → (∀ e ∈ o.after, Region.binds .any e = true → ∀ oj d, ops[e.on]? = some oj → oj.dst = some d → Ok e.on (a.tmps.getD d undef) w) →
    (Region.wanted o (yielded ops a.tmps) = true ∧ ∀ K : Act → World → Prop, (∀ v w', R w w' → Ok i v w' → C (upd L i) w' → K (a.put o.dst v) w') → o.wp P a w K Q) ∨
    (Region.wanted o (yielded ops a.tmps) = false ∧ R w w ∧ Ok i undef w ∧ C (upd L i) w)

theorem wp_region_relL {id : Nat} {base : Act} {w0 : World} (hm : P.follows .mixedOrders = true) (C : (Nat → Bool) → World → Prop) (R : World → World → Prop) (Ok : Nat → Value → World → Prop)
    (hin : (ops.toList.all fun o => match o.dst with | some d => decide (d < base.tmps.size) | none => true) = true)
    (hdis : distinctB ops = true) (hordB : orderedN ops ops.size = true)
    (hOk : ∀ i v w w', Ok i v w → R w w' → Ok i v w')
    (hop : EachOp (OpStepL P ops Q base C R Ok) 0 ops.toList)
    (hdone : ∀ a w, C (fun k => decide (k < ops.size)) w → Agree ops base a → (∀ (i : Nat) (o : Oper) (d : Nat), ops[i]? = some o → o.dst = some d → Ok i (a.tmps.getD d undef) w) → Q .normal a w)
    (h0 : C (fun _ => false) w0.drew) : (Code.region id ops true).wp P Q base w0 := by
  have hinj := fun i j o o' d => distinctB_spec (ops := ops) hdis i j o o' d
  have hord : ∀ (i : Nat) (o : Oper), ops[i]? = some o → ∀ e ∈ o.after, Region.binds .any e = true → e.on < i := fun i o hi e he hb => orderedN_spec hordB i o (Array.getElem?_eq_some_iff.1 hi).1 hi e he hb
  have hin' : ∀ (i : Nat) (o : Oper) (d : Nat), ops[i]? = some o → o.dst = some d → d < base.tmps.size := fun i o d hi hd => by
    have := List.all_eq_true.1 hin o (by have := Array.mem_of_getElem? hi; simpa using this)
    rw [hd] at this
    simpa using this
  have main : ∀ (fuel : Nat) (listed : Array Bool) (a : Act) (w : World), listed.size = ops.size → C (fun k => listed.getD k false) w → Agree ops base a → Held ops Ok listed a w →
      ((List.range ops.size).filter fun i => !listed.getD i true).length ≤ fuel → wpAny P .any ops Q fuel listed a w := by
    intro fuel
    induction fuel with
    | zero =>
      intro listed a w hsz hc ha hh hf
      have hall : ∀ i, i < ops.size → listed.getD i true = true := fun i hi => by
        have h1 : ((List.range ops.size).filter fun i => !listed.getD i true) = [] := List.length_eq_zero_iff.1 (by omega)
        have h2 := List.filter_eq_nil_iff.1 h1 i (List.mem_range.2 hi)
        simpa using h2
      refine ⟨?_, hdone a w (by rw [allL hsz (fun i hi => by have := hall i hi; rw [Array.getD_eq_getD_getElem?] at this ⊢; rw [Array.getElem?_eq_getElem (by omega)] at this ⊢; simpa using this)] at hc; exact hc) ha fun i o d hi hd => hh i o d hi hd ?_⟩
      · unfold Region.ready
        refine List.filter_eq_nil_iff.2 fun i hi => ?_
        rw [hall i (List.mem_range.1 hi)]
        simp
      · have hlt := (Array.getElem?_eq_some_iff.1 hi).1
        have := hall i hlt
        rw [Array.getD_eq_getD_getElem?] at this ⊢
        rw [Array.getElem?_eq_getElem (by omega)] at this ⊢
        simpa using this
    | succ fuel ih =>
      intro listed a w hsz hc ha hh hf
      refine ⟨fun hr => ?_, fun i hi => ?_⟩
      · -- nothing may come up: all have
        have hall : ∀ n i, i < n → i < ops.size → listed.getD i false = true := by
          intro n
          induction n with
          | zero => intro i hi _; omega
          | succ n ihn =>
            intro i hi hlt
            by_cases hin : i < n
            · exact ihn i hin hlt
            · obtain rfl : i = n := by omega
              cases hl : listed.getD i false with
              | true => rfl
              | false =>
                exfalso
                have hl' : listed.getD i true = false := by
                  rw [Array.getD_eq_getD_getElem?] at hl ⊢
                  rw [Array.getElem?_eq_getElem (by omega)] at hl ⊢
                  simpa using hl
                have hmem : i ∈ Region.ready .any ops listed := by
                  unfold Region.ready
                  refine List.mem_filter.2 ⟨List.mem_range.2 hlt, ?_⟩
                  rw [hl', Array.getElem?_eq_getElem hlt]
                  simp only [Bool.not_false, Bool.true_and, Option.map_some, Option.getD_some]
                  refine Array.all_eq_true_iff_forall_mem.2 fun e he => ?_
                  by_cases hb : Region.binds .any e = true
                  · have := ihn e.on (hord i _ (Array.getElem?_eq_getElem hlt) e he hb) (by have := hord i _ (Array.getElem?_eq_getElem hlt) e he hb; omega)
                    simp [this]
                  · simp [hb]
                rw [hr] at hmem
                cases hmem
        exact hdone a w (by rw [allL hsz (fun i hi => hall _ i (Nat.lt_succ_self i) hi)] at hc; exact hc) ha fun i o d hi hd => hh i o d hi hd (hall _ i (Nat.lt_succ_self i) (Array.getElem?_eq_some_iff.1 hi).1)
      · have hi' := hi
        unfold Region.ready at hi'
        obtain ⟨hlt, hcond⟩ := List.mem_filter.1 hi'
        have hlt := List.mem_range.1 hlt
        simp only [Bool.and_eq_true, Bool.not_eq_true'] at hcond
        obtain ⟨hun, hdeps⟩ := hcond
        obtain ⟨o, ho⟩ : ∃ o, ops[i]? = some o := ⟨_, Array.getElem?_eq_getElem hlt⟩
        rw [ho] at hdeps
        simp only [Option.map_some, Option.getD_some] at hdeps
        have hunL : listed.getD i false = false := by
          rw [Array.getD_eq_getD_getElem?] at hun ⊢
          rw [Array.getElem?_eq_getElem (by omega)] at hun ⊢
          simpa using hun
        have hstep := hop.at i o (by simpa using ho)
        rw [Nat.zero_add] at hstep
        have hd := hstep (fun k => listed.getD k false) a w hunL (fun e he hb => by
          have h1 := Array.all_eq_true_iff_forall_mem.1 hdeps e he
          rw [hb] at h1
          simp at h1
          rw [Array.getD_eq_getD_getElem?]
          exact h1) hc ha fun e he hb oj d hoj hdj => by
          have h1 := Array.all_eq_true_iff_forall_mem.1 hdeps e he
          rw [hb] at h1
          simp at h1
          refine hh e.on oj d hoj hdj ?_
          rw [Array.getD_eq_getD_getElem?]
          exact h1
        -- behind the operation
        have next : ∀ v w', R w w' → Ok i v w' → C (upd (fun k => listed.getD k false) i) w' → wpAny P .any ops Q fuel (listed.setIfInBounds i true) (a.put o.dst v) w' := by
          intro v w' hr hv hcc
          refine ih _ _ _ (by simpa using hsz) (by rw [updL listed i (by omega)]; exact hcc) ?_ ?_ ?_
          · obtain ⟨k1, k2, k3⟩ := ha
            cases hdst : o.dst with
            | none => exact ⟨k1, k2, k3⟩
            | some d =>
              have hds := hin' i o d ho hdst
              refine ⟨k1, by simpa [Act.put] using k2, fun t ht => ?_⟩
              rw [getD_put (by omega), if_neg ?_]
              · exact k3 t ht
              · intro e
                have := List.all_eq_true.1 ht o (by have := Array.mem_of_getElem? ho; simpa using this)
                rw [hdst, e] at this
                simp at this
          · intro j oj dj hj hdj hlj
            by_cases hji : j = i
            · subst hji
              rw [ho] at hj
              cases hj
              rw [hdj, getD_put (by have := hin' j o dj ho hdj; have := ha.2.1; omega), if_pos rfl]
              exact hv
            · have hlj' : listed.getD j false = true := by
                rw [Array.getD_eq_getD_getElem?, Array.getElem?_setIfInBounds, if_neg (Ne.symm hji), ← Array.getD_eq_getD_getElem?] at hlj
                exact hlj
              have hold := hOk _ _ _ _ (hh j oj dj hj hdj hlj') hr
              cases hdst : o.dst with
              | none => exact hold
              | some d =>
                rw [getD_put (by have := hin' i o d ho hdst; have := ha.2.1; omega), if_neg ?_]
                · exact hold
                · intro e
                  exact hji (hinj j i oj o dj hj ho hdj (by rw [hdst, e]))
          · have hcount : ((List.range ops.size).filter fun k => !(listed.setIfInBounds i true).getD k true).length < ((List.range ops.size).filter fun k => !listed.getD k true).length := by
              have hsub : ((List.range ops.size).filter fun k => !(listed.setIfInBounds i true).getD k true) = ((List.range ops.size).filter fun k => !listed.getD k true).filter fun k => k != i := by
                rw [List.filter_filter]
                refine List.filter_congr fun k hk => ?_
                rw [Array.getD_eq_getD_getElem?, Array.getElem?_setIfInBounds]
                by_cases hki : i = k
                · subst hki; rw [if_pos rfl, if_pos (by omega)]; simp
                · rw [if_neg hki, ← Array.getD_eq_getD_getElem?]
                  simp [Ne.symm hki]
              rw [hsub]
              refine List.length_filter_lt_length_iff_exists.2 ⟨i, List.mem_filter.2 ⟨List.mem_range.2 hlt, ?_⟩, ?_⟩
              · rw [Array.getD_eq_getD_getElem?]; simpa using hun
              · simp
            omega
        unfold wpOp
        rw [ho]
        simp only
        rcases hd with ⟨hw, hk⟩ | ⟨hw, hr, hv, hcc⟩
        · rw [if_pos hw]
          exact .inl (hk _ next)
        · rw [if_neg (by rw [hw]; decide)]
          exact next _ _ hr hv hcc
  refine wp_region_any hm (main ops.size (Array.replicate ops.size false) base w0.drew (by simp) (by rw [noneL]; exact h0) ⟨rfl, rfl, fun _ _ => rfl⟩ (fun i o d hi _ hl => ?_) ?_)
  · have hlt := (Array.getElem?_eq_some_iff.1 hi).1
    rw [Array.getD_eq_getD_getElem?] at hl
    simp [hlt] at hl
  · exact Nat.le_trans (List.length_filter_le _ _) (by simp)
end
end Go.Proofs.YtmdnnpcofbhceaaDoor.R
