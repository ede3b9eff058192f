/- Is: a slot and the document's slot that have the same message are alike. -/
import Derived.Test.YtghnkpfnpidncaaPRefAll2
import Derived.Test.YtghnkpfnpidncaaRel
import Derived.Test.YtghnkpfnpidncaaPAwake
namespace Go.Proofs.Ytghnkpfnpidncaa.P
open Go.RowKit Go.Shelf

theorem NumsAt.below {w w' : World} {v : Value} {ns : List Nat} (h : NumsAt w v ns) (hb : Below w.heap.size w w') : NumsAt w' v ns := SliceAt.below h hb
def IsOk (p B : Nat) (k : Int) (L : PL) (a1 : Option Addr) (c1 : Nat) (a2 : Option Addr) (c2 : Nat) (t1 : ByteArray) (N S : Nat) : Nat → Value → World → Prop
  | 0, u, _ => u = .pointer (some ⟨p, 0, none⟩)
  | 1, u, _ => u = .int .i64 k
  | 2, u, _ => u = .pointer (some ⟨B, 0, none⟩)
  | 3, u, _ => u = .int .i64 k
  | 4, u, _ => u = .bool true
  | 5, u, _ => u = .bool true
  | 6, u, _ => u = .pointer (some ⟨p, 0, none⟩)
  | 7, u, _ => u = .int .i64 (N : Int)
  | 8, u, _ => u = .pointer (some ⟨B, 1, none⟩)
  | 9, u, _ => u = .slice a1 N c1
  | 10, u, _ => u = .int .i64 (N : Int)
  | 11, u, _ => u = .bool true
  | 12, u, _ => u = .bool true
  | 13, u, _ => u = .bool true
  | 14, u, _ => u = .pointer (some ⟨p, 0, none⟩)
  | 15, u, w => NumsAt w u (whichS L true)
  | 16, u, _ => u = .agg #[.int .i64 k, .slice a1 N c1, .slice a2 N c2]
  | 17, u, w => NumsAt w u (whichS L true)
  | 18, u, _ => u = .bool true
  | 19, u, _ => u = .bool true
  | 20, u, _ => u = .bool true
  | 21, u, _ => u = .pointer (some ⟨p, 0, none⟩)
  | 22, u, w => NumsAt w u (whichS L false)
  | 23, u, _ => u = .agg #[.int .i64 k, .slice a1 N c1, .slice a2 N c2]
  | 24, u, w => NumsAt w u (whichS L false)
  | 25, u, _ => u = .bool true
  | 26, u, _ => u = .bool true
  | 27, u, _ => u = .bool true
  | 28, u, _ => u = .pointer (some ⟨p, 0, none⟩)
  | 29, u, _ => u = .int .i64 (S : Int)
  | 30, u, _ => u = .string t1
  | 31, u, _ => u = .int .i64 (S : Int)
  | 32, u, _ => u = .bool true
  | 33, u, _ => u = .bool true
  | 34, u, _ => u = .bool true
  | _, _, _ => True
set_option maxRecDepth 100000 in
set_option maxHeartbeats 8000000 in
theorem is_any (p : Nat) (mo : Option Nat) (k : Int) (L : PL) (x : Value) (w : World) (h : SlotAt p mo k L w) (hx : RSlot k L x w) (hf : Fits L) :
    Calls Try.prog 12 #[.pointer (some ⟨p, 0, none⟩), x] w fun e w' => e = .returned (.bool true) ∧ Below w.heap.size w w' := by
  have hsd := h.2.1
  have hlen := h.len_le
  have HS0 := Lib.hid h
  have HR0 := Lib.hid hx
  obtain ⟨hv, pv, rfl, ⟨a1, c1, rfl, _⟩, ⟨a2, c2, rfl, _⟩⟩ := hx
  rw [hsV_len, psV_len] at HR0 ⊢
  obtain ⟨N, hN⟩ : ∃ N, L.length = N := ⟨_, rfl⟩
  have HN := Lib.hid hN
  rw [hN] at HR0 ⊢
  have HFit := Lib.hid hf
  have HSd := Lib.hid hsd
  have hb1 : Below w.heap.size w (w.alloc (.cells #[.int .i64 k, .slice a1 N c1, .slice a2 N c2] 33)) := (Below.refl _ _).alloc (Nat.le_refl _) _
  have HB1 := Lib.hid hb1
  have HBox := Lib.hid (World.alloc_heap_new w (.cells #[.int .i64 k, .slice a1 N c1, .slice a2 N c2] 33))
  have HAll := Lib.hid (rall_any k L _ _ (HR0.out.below hb1) hsd hf)
  clear h hN hf hsd hb1
  go_enter Try.func12, Try.ntmps12
  go_wp2_with fail
  refine HAll.out.mono ?_
  rintro e w2 ⟨t1, rfl, ht1, hb2⟩
  have HT1 := Lib.hid ht1
  have HB2 := Lib.hid hb2
  have hs2 := hb2.size
  simp only [World.size_alloc] at hs2
  have HWh := Lib.hid (whole_any p mo k L w2 ((HS0.out.belowAll HB1.out).belowAll hb2) HFit.out)
  clear ht1 hb2 HAll
  go_wp2_with fail
  refine HWh.out.mono ?_
  rintro e w3 ⟨t2, rfl, ht2, hb3⟩
  have HB13 : Hid (Below w.heap.size w w3) := Lib.hid (HB1.out.trans ((HB2.out.mono (by simp)).trans (hb3.mono (by omega))))
  have hs3 := hb3.size
  have hbox3 : w3.heap[w.heap.size]? = some (.cells #[.int .i64 k, .slice a1 N c1, .slice a2 N c2] 33 (0, 0)) := (hb3.block _ (by omega)).trans ((HB2.out.block _ (by simp)).trans HBox.out)
  have HBx0 : Hid (w3.cell? ⟨w.heap.size, 0, none⟩ = some (.int .i64 k)) := Lib.hid (by rw [Lib.cell_of_heap hbox3]; rfl)
  have HBx1 : Hid (w3.cell? ⟨w.heap.size, 1, none⟩ = some (.slice a1 N c1)) := Lib.hid (by rw [Lib.cell_of_heap hbox3]; rfl)
  have HBx2 : Hid (w3.cell? ⟨w.heap.size, 2, none⟩ = some (.slice a2 N c2)) := Lib.hid (by rw [Lib.cell_of_heap hbox3]; rfl)
  have HS := Lib.hid (HS0.out.belowAll HB13.out)
  have HR := Lib.hid (HR0.out.below HB13.out)
  have HBl : Hid (w.heap.size < w3.heap.size) := Lib.hid (by omega)
  have HT2 := Lib.hid ht2
  obtain ⟨S, hSS⟩ : ∃ S, bytesS L = S := ⟨_, rfl⟩
  have HSum := Lib.hid hSS
  have HTs : Hid (t1.size = S) := Lib.hid (by rw [← hSS, bytes_cat, ← HT1.out]; rfl)
  obtain ⟨B, hB⟩ : ∃ B, w.heap.size = B := ⟨_, rfl⟩
  have HBe := Lib.hid hB
  rw [hB] at HB13 HBx0 HBx1 HBx2 HBl ⊢
  clear hb3 ht2 hbox3 hSS hB hs2 hs3 HB1 HB2 HBox HS0 HR0 HWh
  have hcase : (fullS L = true ∧ t2 = t1) ∨ (fullS L = false ∧ t2 = ⟨#[]⟩) := by
    cases hfu : fullS L with
    | true =>
      have h := HT2.out
      unfold wholeS at h
      rw [hfu] at h
      exact .inl ⟨rfl, by rw [ba_eq (h.trans HT1.out.symm), ← ba_eq (u := t1) rfl]⟩
    | false =>
      have h := HT2.out
      unfold wholeS at h
      rw [hfu] at h
      exact .inr ⟨rfl, ba_eq h⟩
  obtain ⟨fl, hfl⟩ : ∃ fl, fullS L = fl := ⟨_, rfl⟩
  rw [hfl] at hcase ⊢
  clear hfl
  go_upto_region 3 with fail
  go_cut [37] (fun s37 wx => s37 = .bool false ∧ wx = w3)
  case first =>
    have hte : (t1.toList == t1.toList) = true := by simp
    rcases hcase with ⟨rfl, rfl⟩ | ⟨rfl, rfl⟩
    · go_wp2_with fail
      go_meet
      exact ⟨rfl, rfl⟩
    · go_wp2_with fail
      go_meet
      exact ⟨rfl, rfl⟩
  case rest =>
    obtain ⟨rfl, rfl⟩ := hcut
    go_upto_region 5 with fail
    refine R.wp_region_rel (by kernel_rfl) (fun u => Below wc.heap.size wc u) (fun u v => Below u.heap.size u v) (IsOk p B k L a1 c1 a2 c2 t1 N S) (by rfl) (by kernel_rfl) (by kernel_rfl) ?hC ?hOk ?hop ?hdone ((Below.refl _ _).drew)
    case hC => exact fun u v hu huv => hu.trans (huv.mono hu.size)
    case hOk =>
      intro i v u u' hv huu
      unfold IsOk at hv ⊢
      split at hv <;> first | exact NumsAt.below hv huu | exact hv | trivial
    case hop =>
      refine ⟨?_, ?_, ?_, ?_, ?_, ?_, ?_, ?_, ?_, ?_, ?_, ?_, ?_, ?_, ?_, ?_, ?_, ?_, ?_, ?_, ?_, ?_, ?_, ?_, ?_, ?_, ?_, ?_, ?_, ?_, ?_, ?_, ?_, ?_, ?_, trivial⟩
      · intro z v hz hag hdep
        refine .inl ⟨rfl, fun K hK => ?_⟩
        have d0 : z.tmps.getD 0 undef = .pointer (some ⟨p, 0, none⟩) := hag.2.2 0 (by kernel_rfl)
        have e0 := d0
        rw [Array.getD_eq_getD_getElem?] at e0
        clear hdep hag
        go_simp
        exact hK _ _ (Below.refl _ _) rfl
      · intro z v hz hag hdep
        refine .inl ⟨rfl, fun K hK => ?_⟩
        have d38 : IsOk p B k L a1 c1 a2 c2 t1 N S 0 (z.tmps.getD 38 undef) v := hdep { on := 0, ground := .data } (by simp) rfl _ _ rfl rfl
        simp only [IsOk] at d38
        have e38 := d38
        rw [Array.getD_eq_getD_getElem?] at e38
        have hS := HS.out.belowAll hz
        have hR := HR.out.below hz
        clear hdep hag
        have HC := Lib.hid (key_any p mo k L v hS)
        clear hS hR
        go_simp
        refine HC.out.mono ?_
        rintro e w' ⟨rfl, rfl⟩
        exact hK _ _ (Below.refl _ _) rfl
      · intro z v hz hag hdep
        refine .inl ⟨rfl, fun K hK => ?_⟩
        have d3 : z.tmps.getD 3 undef = .pointer (some ⟨B, 0, none⟩) := hag.2.2 3 (by kernel_rfl)
        have e3 := d3
        rw [Array.getD_eq_getD_getElem?] at e3
        clear hdep hag
        go_simp
        exact hK _ _ (Below.refl _ _) rfl
      · intro z v hz hag hdep
        refine .inl ⟨rfl, fun K hK => ?_⟩
        have d40 : IsOk p B k L a1 c1 a2 c2 t1 N S 2 (z.tmps.getD 40 undef) v := hdep { on := 2, ground := .data } (by simp) rfl _ _ rfl rfl
        simp only [IsOk] at d40
        have e40 := d40
        rw [Array.getD_eq_getD_getElem?] at e40
        have hb0 := (hz.cell (p := ⟨B, 0, none⟩) HBl.out).trans HBx0.out
        have hb1 := (hz.cell (p := ⟨B, 1, none⟩) HBl.out).trans HBx1.out
        have hb2 := (hz.cell (p := ⟨B, 2, none⟩) HBl.out).trans HBx2.out
        clear hdep hag
        go_simp
        exact hK _ _ (Below.refl _ _) rfl
      · intro z v hz hag hdep
        refine .inl ⟨rfl, fun K hK => ?_⟩
        have d39 : IsOk p B k L a1 c1 a2 c2 t1 N S 1 (z.tmps.getD 39 undef) v := hdep { on := 1, ground := .data } (by simp) rfl _ _ rfl rfl
        simp only [IsOk] at d39
        have e39 := d39
        rw [Array.getD_eq_getD_getElem?] at e39
        have d41 : IsOk p B k L a1 c1 a2 c2 t1 N S 3 (z.tmps.getD 41 undef) v := hdep { on := 3, ground := .data } (by simp) rfl _ _ rfl rfl
        simp only [IsOk] at d41
        have e41 := d41
        rw [Array.getD_eq_getD_getElem?] at e41
        clear hdep hag
        go_simp
        exact hK _ _ (Below.refl _ _) rfl
      · intro z v hz hag hdep
        refine .inl ⟨rfl, fun K hK => ?_⟩
        have d42 : IsOk p B k L a1 c1 a2 c2 t1 N S 4 (z.tmps.getD 42 undef) v := hdep { on := 4, ground := .data } (by simp) rfl _ _ rfl rfl
        simp only [IsOk] at d42
        have e42 := d42
        rw [Array.getD_eq_getD_getElem?] at e42
        clear hdep hag
        go_simp
        exact hK _ _ (Below.refl _ _) rfl
      · intro z v hz hag hdep
        have dg : IsOk p B k L a1 c1 a2 c2 t1 N S 5 (z.tmps.getD 43 undef) v := hdep { on := 5, ground := .guard } (by simp) rfl _ _ rfl rfl
        simp only [IsOk] at dg
        refine .inl ⟨R.wanted_of (j := 5) rfl rfl rfl dg (by rw [hag.2.1]; show 43 < 72; decide), fun K hK => ?_⟩
        have d0 : z.tmps.getD 0 undef = .pointer (some ⟨p, 0, none⟩) := hag.2.2 0 (by kernel_rfl)
        have e0 := d0
        rw [Array.getD_eq_getD_getElem?] at e0
        clear hdep hag
        go_simp
        exact hK _ _ (Below.refl _ _) rfl
      · intro z v hz hag hdep
        have dg : IsOk p B k L a1 c1 a2 c2 t1 N S 5 (z.tmps.getD 43 undef) v := hdep { on := 5, ground := .guard } (by simp) rfl _ _ rfl rfl
        simp only [IsOk] at dg
        refine .inl ⟨R.wanted_of (j := 5) rfl rfl rfl dg (by rw [hag.2.1]; show 43 < 72; decide), fun K hK => ?_⟩
        have d44 : IsOk p B k L a1 c1 a2 c2 t1 N S 6 (z.tmps.getD 44 undef) v := hdep { on := 6, ground := .data } (by simp) rfl _ _ rfl rfl
        simp only [IsOk] at d44
        have e44 := d44
        rw [Array.getD_eq_getD_getElem?] at e44
        have hS := HS.out.belowAll hz
        have hR := HR.out.below hz
        clear hdep hag
        have HC := Lib.hid (count_any p mo k L v hS)
        clear hS hR
        go_simp
        refine HC.out.mono ?_
        rintro e w' ⟨rfl, rfl⟩
        exact hK _ _ (Below.refl _ _) (by show Value.int .i64 (L.length : Int) = _; rw [HN.out])
      · intro z v hz hag hdep
        have dg : IsOk p B k L a1 c1 a2 c2 t1 N S 5 (z.tmps.getD 43 undef) v := hdep { on := 5, ground := .guard } (by simp) rfl _ _ rfl rfl
        simp only [IsOk] at dg
        refine .inl ⟨R.wanted_of (j := 5) rfl rfl rfl dg (by rw [hag.2.1]; show 43 < 72; decide), fun K hK => ?_⟩
        have d3 : z.tmps.getD 3 undef = .pointer (some ⟨B, 0, none⟩) := hag.2.2 3 (by kernel_rfl)
        have e3 := d3
        rw [Array.getD_eq_getD_getElem?] at e3
        clear hdep hag
        go_simp
        exact hK _ _ (Below.refl _ _) rfl
      · intro z v hz hag hdep
        have dg : IsOk p B k L a1 c1 a2 c2 t1 N S 5 (z.tmps.getD 43 undef) v := hdep { on := 5, ground := .guard } (by simp) rfl _ _ rfl rfl
        simp only [IsOk] at dg
        refine .inl ⟨R.wanted_of (j := 5) rfl rfl rfl dg (by rw [hag.2.1]; show 43 < 72; decide), fun K hK => ?_⟩
        have d46 : IsOk p B k L a1 c1 a2 c2 t1 N S 8 (z.tmps.getD 46 undef) v := hdep { on := 8, ground := .data } (by simp) rfl _ _ rfl rfl
        simp only [IsOk] at d46
        have e46 := d46
        rw [Array.getD_eq_getD_getElem?] at e46
        have hb0 := (hz.cell (p := ⟨B, 0, none⟩) HBl.out).trans HBx0.out
        have hb1 := (hz.cell (p := ⟨B, 1, none⟩) HBl.out).trans HBx1.out
        have hb2 := (hz.cell (p := ⟨B, 2, none⟩) HBl.out).trans HBx2.out
        clear hdep hag
        go_simp
        exact hK _ _ (Below.refl _ _) rfl
      · intro z v hz hag hdep
        have dg : IsOk p B k L a1 c1 a2 c2 t1 N S 5 (z.tmps.getD 43 undef) v := hdep { on := 5, ground := .guard } (by simp) rfl _ _ rfl rfl
        simp only [IsOk] at dg
        refine .inl ⟨R.wanted_of (j := 5) rfl rfl rfl dg (by rw [hag.2.1]; show 43 < 72; decide), fun K hK => ?_⟩
        have d47 : IsOk p B k L a1 c1 a2 c2 t1 N S 9 (z.tmps.getD 47 undef) v := hdep { on := 9, ground := .data } (by simp) rfl _ _ rfl rfl
        simp only [IsOk] at d47
        have e47 := d47
        rw [Array.getD_eq_getD_getElem?] at e47
        clear hdep hag
        go_simp
        exact hK _ _ (Below.refl _ _) rfl
      · intro z v hz hag hdep
        have dg : IsOk p B k L a1 c1 a2 c2 t1 N S 5 (z.tmps.getD 43 undef) v := hdep { on := 5, ground := .guard } (by simp) rfl _ _ rfl rfl
        simp only [IsOk] at dg
        refine .inl ⟨R.wanted_of (j := 5) rfl rfl rfl dg (by rw [hag.2.1]; show 43 < 72; decide), fun K hK => ?_⟩
        have d45 : IsOk p B k L a1 c1 a2 c2 t1 N S 7 (z.tmps.getD 45 undef) v := hdep { on := 7, ground := .data } (by simp) rfl _ _ rfl rfl
        simp only [IsOk] at d45
        have e45 := d45
        rw [Array.getD_eq_getD_getElem?] at e45
        have d48 : IsOk p B k L a1 c1 a2 c2 t1 N S 10 (z.tmps.getD 48 undef) v := hdep { on := 10, ground := .data } (by simp) rfl _ _ rfl rfl
        simp only [IsOk] at d48
        have e48 := d48
        rw [Array.getD_eq_getD_getElem?] at e48
        clear hdep hag
        go_simp
        exact hK _ _ (Below.refl _ _) rfl
      · intro z v hz hag hdep
        refine .inl ⟨rfl, fun K hK => ?_⟩
        have d43 : IsOk p B k L a1 c1 a2 c2 t1 N S 5 (z.tmps.getD 43 undef) v := hdep { on := 5, ground := .data } (by simp) rfl _ _ rfl rfl
        simp only [IsOk] at d43
        have e43 := d43
        rw [Array.getD_eq_getD_getElem?] at e43
        have d49 : IsOk p B k L a1 c1 a2 c2 t1 N S 11 (z.tmps.getD 49 undef) v := hdep { on := 11, ground := .data } (by simp) rfl _ _ rfl rfl
        simp only [IsOk] at d49
        have e49 := d49
        rw [Array.getD_eq_getD_getElem?] at e49
        clear hdep hag
        go_simp
        exact hK _ _ (Below.refl _ _) rfl
      · intro z v hz hag hdep
        refine .inl ⟨rfl, fun K hK => ?_⟩
        have d50 : IsOk p B k L a1 c1 a2 c2 t1 N S 12 (z.tmps.getD 50 undef) v := hdep { on := 12, ground := .data } (by simp) rfl _ _ rfl rfl
        simp only [IsOk] at d50
        have e50 := d50
        rw [Array.getD_eq_getD_getElem?] at e50
        clear hdep hag
        go_simp
        exact hK _ _ (Below.refl _ _) rfl
      · intro z v hz hag hdep
        have dg : IsOk p B k L a1 c1 a2 c2 t1 N S 13 (z.tmps.getD 51 undef) v := hdep { on := 13, ground := .guard } (by simp) rfl _ _ rfl rfl
        simp only [IsOk] at dg
        refine .inl ⟨R.wanted_of (j := 13) rfl rfl rfl dg (by rw [hag.2.1]; show 51 < 72; decide), fun K hK => ?_⟩
        have d0 : z.tmps.getD 0 undef = .pointer (some ⟨p, 0, none⟩) := hag.2.2 0 (by kernel_rfl)
        have e0 := d0
        rw [Array.getD_eq_getD_getElem?] at e0
        clear hdep hag
        go_simp
        exact hK _ _ (Below.refl _ _) rfl
      · intro z v hz hag hdep
        have dg : IsOk p B k L a1 c1 a2 c2 t1 N S 13 (z.tmps.getD 51 undef) v := hdep { on := 13, ground := .guard } (by simp) rfl _ _ rfl rfl
        simp only [IsOk] at dg
        refine .inl ⟨R.wanted_of (j := 13) rfl rfl rfl dg (by rw [hag.2.1]; show 51 < 72; decide), fun K hK => ?_⟩
        have d52 : IsOk p B k L a1 c1 a2 c2 t1 N S 14 (z.tmps.getD 52 undef) v := hdep { on := 14, ground := .data } (by simp) rfl _ _ rfl rfl
        simp only [IsOk] at d52
        have e52 := d52
        rw [Array.getD_eq_getD_getElem?] at e52
        have hS := HS.out.belowAll hz
        have hR := HR.out.below hz
        clear hdep hag
        have HC := Lib.hid (have_any p mo k L v hS)
        clear hS hR
        go_simp
        refine HC.out.mono ?_
        rintro e w' ⟨v', rfl, hrow, hb⟩
        exact hK _ _ hb (nums_of_row hrow)
      · intro z v hz hag hdep
        have dg : IsOk p B k L a1 c1 a2 c2 t1 N S 13 (z.tmps.getD 51 undef) v := hdep { on := 13, ground := .guard } (by simp) rfl _ _ rfl rfl
        simp only [IsOk] at dg
        refine .inl ⟨R.wanted_of (j := 13) rfl rfl rfl dg (by rw [hag.2.1]; show 51 < 72; decide), fun K hK => ?_⟩
        have d3 : z.tmps.getD 3 undef = .pointer (some ⟨B, 0, none⟩) := hag.2.2 3 (by kernel_rfl)
        have e3 := d3
        rw [Array.getD_eq_getD_getElem?] at e3
        have hb0 := (hz.cell (p := ⟨B, 0, none⟩) HBl.out).trans HBx0.out
        have hb1 := (hz.cell (p := ⟨B, 1, none⟩) HBl.out).trans HBx1.out
        have hb2 := (hz.cell (p := ⟨B, 2, none⟩) HBl.out).trans HBx2.out
        clear hdep hag
        go_simp
        exact hK _ _ (Below.refl _ _) rfl
      · intro z v hz hag hdep
        have dg : IsOk p B k L a1 c1 a2 c2 t1 N S 13 (z.tmps.getD 51 undef) v := hdep { on := 13, ground := .guard } (by simp) rfl _ _ rfl rfl
        simp only [IsOk] at dg
        refine .inl ⟨R.wanted_of (j := 13) rfl rfl rfl dg (by rw [hag.2.1]; show 51 < 72; decide), fun K hK => ?_⟩
        have d54 : IsOk p B k L a1 c1 a2 c2 t1 N S 16 (z.tmps.getD 54 undef) v := hdep { on := 16, ground := .data } (by simp) rfl _ _ rfl rfl
        simp only [IsOk] at d54
        have e54 := d54
        rw [Array.getD_eq_getD_getElem?] at e54
        have hS := HS.out.belowAll hz
        have hR := HR.out.below hz
        clear hdep hag
        have HC := Lib.hid (rwhich_any k L _ true v hR hlen)
        clear hS hR
        go_simp
        refine HC.out.mono ?_
        rintro e w' ⟨v', rfl, hrow, hb⟩
        exact hK _ _ hb (nums_of_row hrow)
      · intro z v hz hag hdep
        have dg : IsOk p B k L a1 c1 a2 c2 t1 N S 13 (z.tmps.getD 51 undef) v := hdep { on := 13, ground := .guard } (by simp) rfl _ _ rfl rfl
        simp only [IsOk] at dg
        refine .inl ⟨R.wanted_of (j := 13) rfl rfl rfl dg (by rw [hag.2.1]; show 51 < 72; decide), fun K hK => ?_⟩
        have d53 : IsOk p B k L a1 c1 a2 c2 t1 N S 15 (z.tmps.getD 53 undef) v := hdep { on := 15, ground := .data } (by simp) rfl _ _ rfl rfl
        simp only [IsOk] at d53
        obtain ⟨x53, e53⟩ : ∃ x, z.tmps.getD 53 undef = x := ⟨_, rfl⟩
        rw [e53] at d53
        rw [Array.getD_eq_getD_getElem?] at e53
        have d55 : IsOk p B k L a1 c1 a2 c2 t1 N S 17 (z.tmps.getD 55 undef) v := hdep { on := 17, ground := .data } (by simp) rfl _ _ rfl rfl
        simp only [IsOk] at d55
        obtain ⟨x55, e55⟩ : ∃ x, z.tmps.getD 55 undef = x := ⟨_, rfl⟩
        rw [e55] at d55
        rw [Array.getD_eq_getD_getElem?] at e55
        have hS := HS.out.belowAll hz
        have hR := HR.out.below hz
        clear hdep hag
        have HC := Lib.hid (same_any x53 x55 _ v d53 d55 (Nat.le_trans (whichTo_len L true L.length) hlen))
        clear hS hR
        go_simp
        refine HC.out.mono ?_
        rintro e w' ⟨rfl, hb⟩
        exact hK _ _ hb rfl
      · intro z v hz hag hdep
        refine .inl ⟨rfl, fun K hK => ?_⟩
        have d51 : IsOk p B k L a1 c1 a2 c2 t1 N S 13 (z.tmps.getD 51 undef) v := hdep { on := 13, ground := .data } (by simp) rfl _ _ rfl rfl
        simp only [IsOk] at d51
        have e51 := d51
        rw [Array.getD_eq_getD_getElem?] at e51
        have d56 : IsOk p B k L a1 c1 a2 c2 t1 N S 18 (z.tmps.getD 56 undef) v := hdep { on := 18, ground := .data } (by simp) rfl _ _ rfl rfl
        simp only [IsOk] at d56
        have e56 := d56
        rw [Array.getD_eq_getD_getElem?] at e56
        clear hdep hag
        go_simp
        exact hK _ _ (Below.refl _ _) rfl
      · intro z v hz hag hdep
        refine .inl ⟨rfl, fun K hK => ?_⟩
        have d57 : IsOk p B k L a1 c1 a2 c2 t1 N S 19 (z.tmps.getD 57 undef) v := hdep { on := 19, ground := .data } (by simp) rfl _ _ rfl rfl
        simp only [IsOk] at d57
        have e57 := d57
        rw [Array.getD_eq_getD_getElem?] at e57
        clear hdep hag
        go_simp
        exact hK _ _ (Below.refl _ _) rfl
      · intro z v hz hag hdep
        have dg : IsOk p B k L a1 c1 a2 c2 t1 N S 20 (z.tmps.getD 58 undef) v := hdep { on := 20, ground := .guard } (by simp) rfl _ _ rfl rfl
        simp only [IsOk] at dg
        refine .inl ⟨R.wanted_of (j := 20) rfl rfl rfl dg (by rw [hag.2.1]; show 58 < 72; decide), fun K hK => ?_⟩
        have d0 : z.tmps.getD 0 undef = .pointer (some ⟨p, 0, none⟩) := hag.2.2 0 (by kernel_rfl)
        have e0 := d0
        rw [Array.getD_eq_getD_getElem?] at e0
        clear hdep hag
        go_simp
        exact hK _ _ (Below.refl _ _) rfl
      · intro z v hz hag hdep
        have dg : IsOk p B k L a1 c1 a2 c2 t1 N S 20 (z.tmps.getD 58 undef) v := hdep { on := 20, ground := .guard } (by simp) rfl _ _ rfl rfl
        simp only [IsOk] at dg
        refine .inl ⟨R.wanted_of (j := 20) rfl rfl rfl dg (by rw [hag.2.1]; show 58 < 72; decide), fun K hK => ?_⟩
        have d59 : IsOk p B k L a1 c1 a2 c2 t1 N S 21 (z.tmps.getD 59 undef) v := hdep { on := 21, ground := .data } (by simp) rfl _ _ rfl rfl
        simp only [IsOk] at d59
        have e59 := d59
        rw [Array.getD_eq_getD_getElem?] at e59
        have hS := HS.out.belowAll hz
        have hR := HR.out.below hz
        clear hdep hag
        have HC := Lib.hid (lacks_any p mo k L v hS)
        clear hS hR
        go_simp
        refine HC.out.mono ?_
        rintro e w' ⟨v', rfl, hrow, hb⟩
        exact hK _ _ hb (nums_of_row hrow)
      · intro z v hz hag hdep
        have dg : IsOk p B k L a1 c1 a2 c2 t1 N S 20 (z.tmps.getD 58 undef) v := hdep { on := 20, ground := .guard } (by simp) rfl _ _ rfl rfl
        simp only [IsOk] at dg
        refine .inl ⟨R.wanted_of (j := 20) rfl rfl rfl dg (by rw [hag.2.1]; show 58 < 72; decide), fun K hK => ?_⟩
        have d3 : z.tmps.getD 3 undef = .pointer (some ⟨B, 0, none⟩) := hag.2.2 3 (by kernel_rfl)
        have e3 := d3
        rw [Array.getD_eq_getD_getElem?] at e3
        have hb0 := (hz.cell (p := ⟨B, 0, none⟩) HBl.out).trans HBx0.out
        have hb1 := (hz.cell (p := ⟨B, 1, none⟩) HBl.out).trans HBx1.out
        have hb2 := (hz.cell (p := ⟨B, 2, none⟩) HBl.out).trans HBx2.out
        clear hdep hag
        go_simp
        exact hK _ _ (Below.refl _ _) rfl
      · intro z v hz hag hdep
        have dg : IsOk p B k L a1 c1 a2 c2 t1 N S 20 (z.tmps.getD 58 undef) v := hdep { on := 20, ground := .guard } (by simp) rfl _ _ rfl rfl
        simp only [IsOk] at dg
        refine .inl ⟨R.wanted_of (j := 20) rfl rfl rfl dg (by rw [hag.2.1]; show 58 < 72; decide), fun K hK => ?_⟩
        have d61 : IsOk p B k L a1 c1 a2 c2 t1 N S 23 (z.tmps.getD 61 undef) v := hdep { on := 23, ground := .data } (by simp) rfl _ _ rfl rfl
        simp only [IsOk] at d61
        have e61 := d61
        rw [Array.getD_eq_getD_getElem?] at e61
        have hS := HS.out.belowAll hz
        have hR := HR.out.below hz
        clear hdep hag
        have HC := Lib.hid (rwhich_any k L _ false v hR hlen)
        clear hS hR
        go_simp
        refine HC.out.mono ?_
        rintro e w' ⟨v', rfl, hrow, hb⟩
        exact hK _ _ hb (nums_of_row hrow)
      · intro z v hz hag hdep
        have dg : IsOk p B k L a1 c1 a2 c2 t1 N S 20 (z.tmps.getD 58 undef) v := hdep { on := 20, ground := .guard } (by simp) rfl _ _ rfl rfl
        simp only [IsOk] at dg
        refine .inl ⟨R.wanted_of (j := 20) rfl rfl rfl dg (by rw [hag.2.1]; show 58 < 72; decide), fun K hK => ?_⟩
        have d60 : IsOk p B k L a1 c1 a2 c2 t1 N S 22 (z.tmps.getD 60 undef) v := hdep { on := 22, ground := .data } (by simp) rfl _ _ rfl rfl
        simp only [IsOk] at d60
        obtain ⟨x60, e60⟩ : ∃ x, z.tmps.getD 60 undef = x := ⟨_, rfl⟩
        rw [e60] at d60
        rw [Array.getD_eq_getD_getElem?] at e60
        have d62 : IsOk p B k L a1 c1 a2 c2 t1 N S 24 (z.tmps.getD 62 undef) v := hdep { on := 24, ground := .data } (by simp) rfl _ _ rfl rfl
        simp only [IsOk] at d62
        obtain ⟨x62, e62⟩ : ∃ x, z.tmps.getD 62 undef = x := ⟨_, rfl⟩
        rw [e62] at d62
        rw [Array.getD_eq_getD_getElem?] at e62
        have hS := HS.out.belowAll hz
        have hR := HR.out.below hz
        clear hdep hag
        have HC := Lib.hid (same_any x60 x62 _ v d60 d62 (Nat.le_trans (whichTo_len L false L.length) hlen))
        clear hS hR
        go_simp
        refine HC.out.mono ?_
        rintro e w' ⟨rfl, hb⟩
        exact hK _ _ hb rfl
      · intro z v hz hag hdep
        refine .inl ⟨rfl, fun K hK => ?_⟩
        have d58 : IsOk p B k L a1 c1 a2 c2 t1 N S 20 (z.tmps.getD 58 undef) v := hdep { on := 20, ground := .data } (by simp) rfl _ _ rfl rfl
        simp only [IsOk] at d58
        have e58 := d58
        rw [Array.getD_eq_getD_getElem?] at e58
        have d63 : IsOk p B k L a1 c1 a2 c2 t1 N S 25 (z.tmps.getD 63 undef) v := hdep { on := 25, ground := .data } (by simp) rfl _ _ rfl rfl
        simp only [IsOk] at d63
        have e63 := d63
        rw [Array.getD_eq_getD_getElem?] at e63
        clear hdep hag
        go_simp
        exact hK _ _ (Below.refl _ _) rfl
      · intro z v hz hag hdep
        refine .inl ⟨rfl, fun K hK => ?_⟩
        have d64 : IsOk p B k L a1 c1 a2 c2 t1 N S 26 (z.tmps.getD 64 undef) v := hdep { on := 26, ground := .data } (by simp) rfl _ _ rfl rfl
        simp only [IsOk] at d64
        have e64 := d64
        rw [Array.getD_eq_getD_getElem?] at e64
        clear hdep hag
        go_simp
        exact hK _ _ (Below.refl _ _) rfl
      · intro z v hz hag hdep
        have dg : IsOk p B k L a1 c1 a2 c2 t1 N S 27 (z.tmps.getD 65 undef) v := hdep { on := 27, ground := .guard } (by simp) rfl _ _ rfl rfl
        simp only [IsOk] at dg
        refine .inl ⟨R.wanted_of (j := 27) rfl rfl rfl dg (by rw [hag.2.1]; show 65 < 72; decide), fun K hK => ?_⟩
        have d0 : z.tmps.getD 0 undef = .pointer (some ⟨p, 0, none⟩) := hag.2.2 0 (by kernel_rfl)
        have e0 := d0
        rw [Array.getD_eq_getD_getElem?] at e0
        clear hdep hag
        go_simp
        exact hK _ _ (Below.refl _ _) rfl
      · intro z v hz hag hdep
        have dg : IsOk p B k L a1 c1 a2 c2 t1 N S 27 (z.tmps.getD 65 undef) v := hdep { on := 27, ground := .guard } (by simp) rfl _ _ rfl rfl
        simp only [IsOk] at dg
        refine .inl ⟨R.wanted_of (j := 27) rfl rfl rfl dg (by rw [hag.2.1]; show 65 < 72; decide), fun K hK => ?_⟩
        have d66 : IsOk p B k L a1 c1 a2 c2 t1 N S 28 (z.tmps.getD 66 undef) v := hdep { on := 28, ground := .data } (by simp) rfl _ _ rfl rfl
        simp only [IsOk] at d66
        have e66 := d66
        rw [Array.getD_eq_getD_getElem?] at e66
        have hS := HS.out.belowAll hz
        have hR := HR.out.below hz
        clear hdep hag
        have HC := Lib.hid (bytes_any p mo k L v hS HFit.out)
        clear hS hR
        go_simp
        refine HC.out.mono ?_
        rintro e w' ⟨rfl, hb⟩
        exact hK _ _ hb (by show Value.int .i64 (bytesS L : Int) = _; rw [HSum.out])
      · intro z v hz hag hdep
        have dg : IsOk p B k L a1 c1 a2 c2 t1 N S 27 (z.tmps.getD 65 undef) v := hdep { on := 27, ground := .guard } (by simp) rfl _ _ rfl rfl
        simp only [IsOk] at dg
        refine .inl ⟨R.wanted_of (j := 27) rfl rfl rfl dg (by rw [hag.2.1]; show 65 < 72; decide), fun K hK => ?_⟩
        have d5 : z.tmps.getD 5 undef = .string t1 := hag.2.2 5 (by kernel_rfl)
        have e5 := d5
        rw [Array.getD_eq_getD_getElem?] at e5
        clear hdep hag
        go_simp
        exact hK _ _ (Below.refl _ _) rfl
      · intro z v hz hag hdep
        have dg : IsOk p B k L a1 c1 a2 c2 t1 N S 27 (z.tmps.getD 65 undef) v := hdep { on := 27, ground := .guard } (by simp) rfl _ _ rfl rfl
        simp only [IsOk] at dg
        refine .inl ⟨R.wanted_of (j := 27) rfl rfl rfl dg (by rw [hag.2.1]; show 65 < 72; decide), fun K hK => ?_⟩
        have d68 : IsOk p B k L a1 c1 a2 c2 t1 N S 30 (z.tmps.getD 68 undef) v := hdep { on := 30, ground := .data } (by simp) rfl _ _ rfl rfl
        simp only [IsOk] at d68
        have e68 := d68
        rw [Array.getD_eq_getD_getElem?] at e68
        have hS := HS.out.belowAll hz
        have hR := HR.out.below hz
        clear hdep hag
        clear hS hR
        go_simp
        exact hK _ _ (Below.refl _ _) (by show Value.int .i64 (t1.size : Int) = _; rw [HTs.out])
      · intro z v hz hag hdep
        have dg : IsOk p B k L a1 c1 a2 c2 t1 N S 27 (z.tmps.getD 65 undef) v := hdep { on := 27, ground := .guard } (by simp) rfl _ _ rfl rfl
        simp only [IsOk] at dg
        refine .inl ⟨R.wanted_of (j := 27) rfl rfl rfl dg (by rw [hag.2.1]; show 65 < 72; decide), fun K hK => ?_⟩
        have d67 : IsOk p B k L a1 c1 a2 c2 t1 N S 29 (z.tmps.getD 67 undef) v := hdep { on := 29, ground := .data } (by simp) rfl _ _ rfl rfl
        simp only [IsOk] at d67
        have e67 := d67
        rw [Array.getD_eq_getD_getElem?] at e67
        have d69 : IsOk p B k L a1 c1 a2 c2 t1 N S 31 (z.tmps.getD 69 undef) v := hdep { on := 31, ground := .data } (by simp) rfl _ _ rfl rfl
        simp only [IsOk] at d69
        have e69 := d69
        rw [Array.getD_eq_getD_getElem?] at e69
        clear hdep hag
        go_simp
        exact hK _ _ (Below.refl _ _) rfl
      · intro z v hz hag hdep
        refine .inl ⟨rfl, fun K hK => ?_⟩
        have d65 : IsOk p B k L a1 c1 a2 c2 t1 N S 27 (z.tmps.getD 65 undef) v := hdep { on := 27, ground := .data } (by simp) rfl _ _ rfl rfl
        simp only [IsOk] at d65
        have e65 := d65
        rw [Array.getD_eq_getD_getElem?] at e65
        have d70 : IsOk p B k L a1 c1 a2 c2 t1 N S 32 (z.tmps.getD 70 undef) v := hdep { on := 32, ground := .data } (by simp) rfl _ _ rfl rfl
        simp only [IsOk] at d70
        have e70 := d70
        rw [Array.getD_eq_getD_getElem?] at e70
        clear hdep hag
        go_simp
        exact hK _ _ (Below.refl _ _) rfl
      · intro z v hz hag hdep
        refine .inl ⟨rfl, fun K hK => ?_⟩
        have d71 : IsOk p B k L a1 c1 a2 c2 t1 N S 33 (z.tmps.getD 71 undef) v := hdep { on := 33, ground := .data } (by simp) rfl _ _ rfl rfl
        simp only [IsOk] at d71
        have e71 := d71
        rw [Array.getD_eq_getD_getElem?] at e71
        clear hdep hag
        go_simp
        exact hK _ _ (Below.refl _ _) rfl
    case hdone =>
      intro z v hz hag hall
      have d4 : IsOk p B k L a1 c1 a2 c2 t1 N S 34 (z.tmps.getD 4 undef) v := hall 34 _ 4 rfl rfl
      simp only [IsOk] at d4
      have hdef := hag.1
      go_wp2
      exact bodyPost_ret (results_tmp rfl _ _ _) hdef ⟨congrArg Ending.returned d4, by rw [HBe.out]; exact HB13.out.trans (hz.mono (Nat.le_of_lt HBl.out))⟩
end Go.Proofs.Ytghnkpfnpidncaa.P
