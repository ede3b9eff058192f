/- The program's grid: its size, another one like it, a row that is put. -/
import Derived.Test.YtohhlhnjopbmhaaGreatDoorMerged14
import Derived.Test.YtohhlhnjopbmhaaGreatDoorMerged8
namespace Go.Proofs.YtohhlhnjopbmhaaGreatDoor.K
open Go.Proofs.YtohhlhnjopbmhaaGreatDoor.R (agree_frame)
open Go.RowKit

/-! ## a row that is stored -/
/-! ## slices.Clone of rows -/
set_option maxRecDepth 100000 in
set_option maxHeartbeats 4000000 in
theorem cloneRows_any {q n cap : Nat} {us : List Rv} (w : World) (h : RvsIn (some ⟨q, 0, none⟩) n cap us w) (hn : 1 ≤ n) (hn2 : n ≤ 1000) :
    Calls Tryz.prog 96 #[.slice (some ⟨q, 0, none⟩) n cap] w fun e w' => ∃ q2 c2, e = .returned (.slice (some ⟨q2, 0, none⟩) us.length c2) ∧ OwnV 54 w.heap.size (.slice (some ⟨q2, 0, none⟩) us.length c2) us w' ∧ Below w.heap.size w w' := by
  obtain ⟨P, hP⟩ : ∃ P : Ending → World → Prop, (fun e w' => ∃ q2 c2, e = .returned (.slice (some ⟨q2, 0, none⟩) us.length c2) ∧ OwnV 54 w.heap.size (.slice (some ⟨q2, 0, none⟩) us.length c2) us w' ∧ Below w.heap.size w w') = P := ⟨_, rfl⟩
  rw [hP]
  have HP := Lib.hid hP
  have HL := Lib.hid h.len
  have hb1 : Below w.heap.size w (w.alloc (.cells #[] 54)) := (Below.refl _ _).alloc (Nat.le_refl _) _
  have HO1 := Lib.hid (OwnV.lit 54 w w.heap.size (Nat.le_refl _))
  have HR1 := Lib.hid (h.belowAll hb1)
  have HS1 := Lib.hid hb1.size
  have HB1 := Lib.hid hb1
  have HLn : Hid ((us.length : Int) ≤ 1000000) := Lib.hid (by have := HL.out; omega)
  have qn : ∀ (w : World), (binOp .eql 22 (.slice (some ⟨q, 0, none⟩) n cap) (.slice none 0 0)).run Tryz.prog w = .ok (.bool false) w := fun w => Lib.run_eql_slice_nil w _ _ (some ⟨q, 0, none⟩) n cap 0 0 Tryz.underlying22
  clear hP hb1 h
  go_enter Tryz.func96, Tryz.ntmps96
  go_wp2_with (refine wpList_append_rows rowsT rfl _ _ rfl rfl w.heap.size _ [] (some ⟨q, 0, none⟩) n cap us rfl rfl HO1.out HR1.out (fun e => by cases e) (by simp) HLn.out HS1.out ?_)
  intro v' w2 ho hg
  try rw [List.nil_append] at ho
  have hl := HL.out
  have hb2 : Below w.heap.size w w2 := HB1.out.grown hg HS1.out (fun k hk => (HO1.out.ownBlock k hk).1)
  obtain ⟨a2, c2, rfl, h2, -, h4⟩ := ho.shape
  obtain ⟨b, off, rfl, -, -⟩ := h2.at_.resolve_left (by intro e; rw [e] at hl; simp at hl; omega)
  have hoff : off = 0 := by
    rcases ho.2 with ⟨h0, _⟩ | ⟨g', cap', cur, he, _⟩
    · cases h0
    · cases he; rfl
  subst hoff
  have HF : Hid (OwnV 54 w.heap.size (.slice (some ⟨b, 0, none⟩) us.length c2) us w2 ∧ Below w.heap.size w w2) := Lib.hid ⟨ho, hb2⟩
  obtain ⟨m, hm⟩ : ∃ m, us.length = m := ⟨_, rfl⟩
  rw [hm]
  have HM := Lib.hid hm
  clear ho hb2 hg h2 h4 hm hl
  go_wp2_with fail
  rw [← HP.out]
  exact ⟨b, c2, by rw [HM.out]; rfl, HF.out.1, HF.out.2⟩
def SizOk (g q n cap W : Nat) : Nat → Value → World → Prop
  | 0, u, _ => u = .pointer (some ⟨g, 0, none⟩)
  | 1, u, _ => u = .pointer (some ⟨g, 0, none⟩)
  | 2, u, _ => u = .pointer (some ⟨g, 0, none⟩)
  | 3, u, _ => u = .int .i64 (W : Int)
  | 4, u, _ => u = .pointer (some ⟨g, 0, none⟩)
  | 5, u, _ => u = .pointer (some ⟨g, 0, none⟩)
  | 6, u, _ => u = .pointer (some ⟨g, 1, none⟩)
  | 7, u, _ => u = .slice (some ⟨q, 0, none⟩) n cap
  | 8, u, _ => u = .int .i64 (n : Int)
  | 9, u, _ => u = .int .i64 (W : Int)
  | 10, u, _ => u = .int .i64 (n : Int)
  | _, _, _ => True
def CloOk (g q n cap W rb : Nat) (us : List Rv) : Nat → Value → World → Prop
  | 0, u, _ => u = .pointer (some ⟨g, 0, none⟩)
  | 1, u, _ => u = .pointer (some ⟨g, 0, none⟩)
  | 2, u, _ => u = .pointer (some ⟨g, 0, none⟩)
  | 3, u, _ => u = .int .i64 (W : Int)
  | 4, u, _ => u = .pointer (some ⟨g, 0, none⟩)
  | 5, u, _ => u = .pointer (some ⟨g, 0, none⟩)
  | 6, u, _ => u = .pointer (some ⟨g, 1, none⟩)
  | 7, u, _ => u = .slice (some ⟨q, 0, none⟩) n cap
  | 8, u, w => ∃ q2 c2, u = .slice (some ⟨q2, 0, none⟩) n c2 ∧ OwnV 54 rb (.slice (some ⟨q2, 0, none⟩) n c2) us w
  | 9, u, w => ∃ q2 c2, u = .agg #[.int .i64 (W : Int), .slice (some ⟨q2, 0, none⟩) n c2] ∧ OwnV 54 rb (.slice (some ⟨q2, 0, none⟩) n c2) us w
  | 10, u, w => ∃ g2 q2 c2, u = .pointer (some ⟨g2, 0, none⟩) ∧ rb ≤ g2 ∧ w.heap[g2]? = some (.cells #[.int .i64 (W : Int), .slice (some ⟨q2, 0, none⟩) n c2] 137 (0, 0)) ∧ OwnV 54 rb (.slice (some ⟨q2, 0, none⟩) n c2) us w
  | 11, u, w => ∃ g2 q2 c2, u = .pointer (some ⟨g2, 0, none⟩) ∧ rb ≤ g2 ∧ w.heap[g2]? = some (.cells #[.int .i64 (W : Int), .slice (some ⟨q2, 0, none⟩) n c2] 137 (0, 0)) ∧ OwnV 54 rb (.slice (some ⟨q2, 0, none⟩) n c2) us w
  | _, _, _ => True
set_option maxRecDepth 100000 in
set_option maxHeartbeats 4000000 in
theorem size_any {g q : Nat} {x : Gd} {us : List Rv} {cap : Nat} (w : World) (h : GridAt g q x us cap w) :
    Calls Tryz.prog 55 #[.pointer (some ⟨g, 0, none⟩)] w fun e w' => e = .returned (.tuple #[.int .i64 (x.W : Int), .int .i64 (x.rs.length : Int)]) ∧ Below w.heap.size w w' := by
  rw [← h.ulen]
  obtain ⟨n, hn⟩ : ∃ n, us.length = n := ⟨_, rfl⟩
  obtain ⟨W, hW⟩ : ∃ W, x.W = W := ⟨_, rfl⟩
  have HC0 := Lib.hid h.c0
  have HC1 := Lib.hid h.c1
  have HGl := Lib.hid h.lt.1
  rw [hn] at HC1 ⊢
  rw [hW] at HC0 ⊢
  clear hn hW h
  go_enter Tryz.func55, Tryz.ntmps55
  go_upto_region 1 with fail
  refine Go.Proofs.YtohhlhnjopbmhaaGreatDoor.R.wp_region_rel (by kernel_rfl) (fun u => Below w.heap.size w u) (fun u v => Below u.heap.size u v) (SizOk g q n cap W) (by rfl) (by kernel_rfl) (by kernel_rfl) ?hC ?hOk ?hop ?hdone ((Below.refl _ _).drew)
  case hC => exact fun u v h1 h2 => h1.trans (h2.mono h1.size)
  case hOk =>
    intro i u w1 w2 h hr
    unfold SizOk at h ⊢
    split <;> first | exact True.intro | exact h | (obtain ⟨x, y, e, h1⟩ := h; exact ⟨x, y, e, h1.belowAll hr⟩) | (obtain ⟨x, y, c, e, h0, h1, h2⟩ := h; exact ⟨x, y, c, e, h0, (hr.block _ (Array.getElem?_eq_some_iff.1 h1).1).trans h1, h2.belowAll hr⟩)
  case hop =>
    refine ⟨?_, ?_, ?_, ?_, ?_, ?_, ?_, ?_, ?_, ?_, ?_, trivial⟩
    · intro z v hz hag hdep
      refine .inl ⟨rfl, fun K hK => ?_⟩
      have d0 : z.tmps.getD 0 undef = .pointer (some ⟨g, 0, none⟩) := hag.2.2 0 (by kernel_rfl)
      have e0 := d0
      rw [Array.getD_eq_getD_getElem?] at e0
      clear hdep hag 
      go_simp
      exact hK _ _ (Below.refl _ _) rfl
    · intro z v hz hag hdep
      refine .inl ⟨rfl, fun K hK => ?_⟩
      have d4 : z.tmps.getD 4 undef = .pointer (some ⟨g, 0, none⟩) := hdep { on := 0, ground := .data } (by simp) rfl _ _ rfl rfl
      have e4 := d4
      rw [Array.getD_eq_getD_getElem?] at e4
      clear hdep hag 
      go_simp
      exact hK _ _ (Below.refl _ _) rfl
    · intro z v hz hag hdep
      refine .inl ⟨rfl, fun K hK => ?_⟩
      have d5 : z.tmps.getD 5 undef = .pointer (some ⟨g, 0, none⟩) := hdep { on := 1, ground := .data } (by simp) rfl _ _ rfl rfl
      have e5 := d5
      rw [Array.getD_eq_getD_getElem?] at e5
      clear hdep hag 
      go_simp
      exact hK _ _ (Below.refl _ _) rfl
    · intro z v hz hag hdep
      refine .inl ⟨rfl, fun K hK => ?_⟩
      have d6 : z.tmps.getD 6 undef = .pointer (some ⟨g, 0, none⟩) := hdep { on := 2, ground := .data } (by simp) rfl _ _ rfl rfl
      have e6 := d6
      rw [Array.getD_eq_getD_getElem?] at e6
      have l0 := (hz.cell (p := ⟨g, 0, none⟩) HGl.out).trans HC0.out
      clear hz
      clear hdep hag 
      go_simp
      exact hK _ _ (Below.refl _ _) rfl
    · intro z v hz hag hdep
      refine .inl ⟨rfl, fun K hK => ?_⟩
      have d0 : z.tmps.getD 0 undef = .pointer (some ⟨g, 0, none⟩) := hag.2.2 0 (by kernel_rfl)
      have e0 := d0
      rw [Array.getD_eq_getD_getElem?] at e0
      clear hdep hag 
      go_simp
      exact hK _ _ (Below.refl _ _) rfl
    · intro z v hz hag hdep
      refine .inl ⟨rfl, fun K hK => ?_⟩
      have d8 : z.tmps.getD 8 undef = .pointer (some ⟨g, 0, none⟩) := hdep { on := 4, ground := .data } (by simp) rfl _ _ rfl rfl
      have e8 := d8
      rw [Array.getD_eq_getD_getElem?] at e8
      clear hdep hag 
      go_simp
      exact hK _ _ (Below.refl _ _) rfl
    · intro z v hz hag hdep
      refine .inl ⟨rfl, fun K hK => ?_⟩
      have d9 : z.tmps.getD 9 undef = .pointer (some ⟨g, 0, none⟩) := hdep { on := 5, ground := .data } (by simp) rfl _ _ rfl rfl
      have e9 := d9
      rw [Array.getD_eq_getD_getElem?] at e9
      clear hdep hag 
      go_simp
      exact hK _ _ (Below.refl _ _) rfl
    · intro z v hz hag hdep
      refine .inl ⟨rfl, fun K hK => ?_⟩
      have d10 : z.tmps.getD 10 undef = .pointer (some ⟨g, 1, none⟩) := hdep { on := 6, ground := .data } (by simp) rfl _ _ rfl rfl
      have e10 := d10
      rw [Array.getD_eq_getD_getElem?] at e10
      have l0 := (hz.cell (p := ⟨g, 1, none⟩) HGl.out).trans HC1.out
      clear hz
      clear hdep hag 
      go_simp
      exact hK _ _ (Below.refl _ _) rfl
    · intro z v hz hag hdep
      refine .inl ⟨rfl, fun K hK => ?_⟩
      have d11 : z.tmps.getD 11 undef = .slice (some ⟨q, 0, none⟩) n cap := hdep { on := 7, ground := .data } (by simp) rfl _ _ rfl rfl
      have e11 := d11
      rw [Array.getD_eq_getD_getElem?] at e11
      clear hdep hag 
      go_simp
      exact hK _ _ (Below.refl _ _) rfl
    · intro z v hz hag hdep
      refine .inl ⟨rfl, fun K hK => ?_⟩
      have d7 : z.tmps.getD 7 undef = .int .i64 (W : Int) := hdep { on := 3, ground := .data } (by simp) rfl _ _ rfl rfl
      have e7 := d7
      rw [Array.getD_eq_getD_getElem?] at e7
      clear hdep hag 
      go_simp
      exact hK _ _ (Below.refl _ _) rfl
    · intro z v hz hag hdep
      refine .inl ⟨rfl, fun K hK => ?_⟩
      have d12 : z.tmps.getD 12 undef = .int .i64 (n : Int) := hdep { on := 8, ground := .data } (by simp) rfl _ _ rfl rfl
      have e12 := d12
      rw [Array.getD_eq_getD_getElem?] at e12
      clear hdep hag 
      go_simp
      exact hK _ _ (Below.refl _ _) rfl
  case hdone =>
    intro z v hz hag hok
    have d2 : z.tmps.getD 2 undef = .int .i64 (W : Int) := hok 9 _ 2 rfl rfl
    have d3 : z.tmps.getD 3 undef = .int .i64 (n : Int) := hok 10 _ 3 rfl rfl
    obtain ⟨uu, hu, hzz⟩ := agree_frame [4, 5, 6, 7, 8, 9, 10, 11, 12, 2, 3] rfl hag
    have e2 := (hu 2).trans d2
    have e3 := (hu 3).trans d3
    subst hzz
    have HZ := Lib.hid hz
    clear hz
    simp only [List.foldl_cons, List.foldl_nil]
    rw [e2, e3]
    clear e2 d2 e3 d3 hu hag hok
    try dsimp only [Exit.then]
    try dsimp only [List.drop]
    simp only [List.setIfInBounds_toArray, List.set_cons_succ, List.set_cons_zero]
    generalize uu 4 = u4', uu 5 = u5', uu 6 = u6', uu 7 = u7', uu 8 = u8', uu 9 = u9', uu 10 = u10', uu 11 = u11', uu 12 = u12'
    clear uu
    go_wp2
    exact bodyPost_ret (results_tmp2 rfl _ _ _) rfl ⟨rfl, HZ.out⟩
set_option maxRecDepth 100000 in
set_option maxHeartbeats 4000000 in
theorem gclone_any {g q : Nat} {x : Gd} {us : List Rv} {cap : Nat} (w : World) (h : GridAt g q x us cap w) :
    Calls Tryz.prog 78 #[.pointer (some ⟨g, 0, none⟩)] w fun e w' => ∃ g2 q2, e = .returned (.pointer (some ⟨g2, 0, none⟩)) ∧ w.heap.size ≤ g2 ∧ w.heap.size ≤ q2 ∧ Gr g2 q2 x w' ∧ Below w.heap.size w w' := by
  obtain ⟨n, hn⟩ : ∃ n, us.length = n := ⟨_, rfl⟩
  obtain ⟨W, hW⟩ : ∃ W, x.W = W := ⟨_, rfl⟩
  obtain ⟨rb, hrb⟩ : ∃ rb, w.heap.size = rb := ⟨_, rfl⟩
  have HC0 := Lib.hid h.c0
  have HC1 := Lib.hid h.c1
  have HGl := Lib.hid h.lt.1
  have HRi := Lib.hid h.rin
  have HFew := Lib.hid h.few
  have HRb : Hid (rb ≤ w.heap.size) := Lib.hid (by omega)
  have HN := Lib.hid hn
  have HW := Lib.hid hW
  have HGr := Lib.hid h
  rw [hn] at HC1 HRi HFew
  rw [hW] at HC0
  rw [hrb]
  have HRe := Lib.hid hrb
  clear hn hW h hrb
  go_enter Tryz.func78, Tryz.ntmps78
  go_upto_region 1 with fail
  refine Go.Proofs.YtohhlhnjopbmhaaGreatDoor.R.wp_region_rel (by kernel_rfl) (fun u => Below w.heap.size w u) (fun u v => Below u.heap.size u v) (CloOk g q n cap W rb us) (by rfl) (by kernel_rfl) (by kernel_rfl) ?hC ?hOk ?hop ?hdone ((Below.refl _ _).drew)
  case hC => exact fun u v h1 h2 => h1.trans (h2.mono h1.size)
  case hOk =>
    intro i u w1 w2 h hr
    unfold CloOk at h ⊢
    split <;> first | exact True.intro | exact h | (obtain ⟨x, y, e, h1⟩ := h; exact ⟨x, y, e, h1.belowAll hr⟩) | (obtain ⟨x, y, c, e, h0, h1, h2⟩ := h; exact ⟨x, y, c, e, h0, (hr.block _ (Array.getElem?_eq_some_iff.1 h1).1).trans h1, h2.belowAll hr⟩)
  case hop =>
    refine ⟨?_, ?_, ?_, ?_, ?_, ?_, ?_, ?_, ?_, ?_, ?_, ?_, trivial⟩
    · intro z v hz hag hdep
      refine .inl ⟨rfl, fun K hK => ?_⟩
      have d0 : z.tmps.getD 0 undef = .pointer (some ⟨g, 0, none⟩) := hag.2.2 0 (by kernel_rfl)
      have e0 := d0
      rw [Array.getD_eq_getD_getElem?] at e0
      clear hdep hag 
      go_simp
      exact hK _ _ (Below.refl _ _) rfl
    · intro z v hz hag hdep
      refine .inl ⟨rfl, fun K hK => ?_⟩
      have d3 : z.tmps.getD 3 undef = .pointer (some ⟨g, 0, none⟩) := hdep { on := 0, ground := .data } (by simp) rfl _ _ rfl rfl
      have e3 := d3
      rw [Array.getD_eq_getD_getElem?] at e3
      clear hdep hag 
      go_simp
      exact hK _ _ (Below.refl _ _) rfl
    · intro z v hz hag hdep
      refine .inl ⟨rfl, fun K hK => ?_⟩
      have d4 : z.tmps.getD 4 undef = .pointer (some ⟨g, 0, none⟩) := hdep { on := 1, ground := .data } (by simp) rfl _ _ rfl rfl
      have e4 := d4
      rw [Array.getD_eq_getD_getElem?] at e4
      clear hdep hag 
      go_simp
      exact hK _ _ (Below.refl _ _) rfl
    · intro z v hz hag hdep
      refine .inl ⟨rfl, fun K hK => ?_⟩
      have d5 : z.tmps.getD 5 undef = .pointer (some ⟨g, 0, none⟩) := hdep { on := 2, ground := .data } (by simp) rfl _ _ rfl rfl
      have e5 := d5
      rw [Array.getD_eq_getD_getElem?] at e5
      have l0 := (hz.cell (p := ⟨g, 0, none⟩) HGl.out).trans HC0.out
      clear hz
      clear hdep hag 
      go_simp
      exact hK _ _ (Below.refl _ _) rfl
    · intro z v hz hag hdep
      refine .inl ⟨rfl, fun K hK => ?_⟩
      have d0 : z.tmps.getD 0 undef = .pointer (some ⟨g, 0, none⟩) := hag.2.2 0 (by kernel_rfl)
      have e0 := d0
      rw [Array.getD_eq_getD_getElem?] at e0
      clear hdep hag 
      go_simp
      exact hK _ _ (Below.refl _ _) rfl
    · intro z v hz hag hdep
      refine .inl ⟨rfl, fun K hK => ?_⟩
      have d7 : z.tmps.getD 7 undef = .pointer (some ⟨g, 0, none⟩) := hdep { on := 4, ground := .data } (by simp) rfl _ _ rfl rfl
      have e7 := d7
      rw [Array.getD_eq_getD_getElem?] at e7
      clear hdep hag 
      go_simp
      exact hK _ _ (Below.refl _ _) rfl
    · intro z v hz hag hdep
      refine .inl ⟨rfl, fun K hK => ?_⟩
      have d8 : z.tmps.getD 8 undef = .pointer (some ⟨g, 0, none⟩) := hdep { on := 5, ground := .data } (by simp) rfl _ _ rfl rfl
      have e8 := d8
      rw [Array.getD_eq_getD_getElem?] at e8
      clear hdep hag 
      go_simp
      exact hK _ _ (Below.refl _ _) rfl
    · intro z v hz hag hdep
      refine .inl ⟨rfl, fun K hK => ?_⟩
      have d9 : z.tmps.getD 9 undef = .pointer (some ⟨g, 1, none⟩) := hdep { on := 6, ground := .data } (by simp) rfl _ _ rfl rfl
      have e9 := d9
      rw [Array.getD_eq_getD_getElem?] at e9
      have l0 := (hz.cell (p := ⟨g, 1, none⟩) HGl.out).trans HC1.out
      clear hz
      clear hdep hag 
      go_simp
      exact hK _ _ (Below.refl _ _) rfl
    · intro z v hz hag hdep
      refine .inl ⟨rfl, fun K hK => ?_⟩
      have d10 : z.tmps.getD 10 undef = .slice (some ⟨q, 0, none⟩) n cap := hdep { on := 7, ground := .data } (by simp) rfl _ _ rfl rfl
      have e10 := d10
      rw [Array.getD_eq_getD_getElem?] at e10
      have HC := Lib.hid (cloneRows_any v (HRi.out.belowAll hz) HFew.out.1 HFew.out.2)
      have HZs := Lib.hid hz.size
      clear hdep hag hz
      go_simp
      refine HC.out.mono ?_
      rintro e w' ⟨q2, c2, rfl, h1, h2⟩
      rw [HN.out] at h1 ⊢
      exact hK _ _ h2 ⟨q2, c2, rfl, h1.weaken (Nat.le_trans HRb.out HZs.out)⟩
    · intro z v hz hag hdep
      refine .inl ⟨rfl, fun K hK => ?_⟩
      have d6 : z.tmps.getD 6 undef = .int .i64 (W : Int) := hdep { on := 3, ground := .data } (by simp) rfl _ _ rfl rfl
      have e6 := d6
      rw [Array.getD_eq_getD_getElem?] at e6
      have d11' : CloOk g q n cap W rb us 8 (z.tmps.getD 11 undef) v := hdep { on := 8, ground := .data } (by simp) rfl _ _ rfl rfl
      simp only [CloOk] at d11'
      obtain ⟨q2, c2, d11, hO⟩ := d11'
      have e11 := d11
      rw [Array.getD_eq_getD_getElem?] at e11
      clear hdep hag hz
      go_simp
      exact hK _ _ (Below.refl _ _) ⟨q2, c2, rfl, hO⟩
    · intro z v hz hag hdep
      refine .inl ⟨rfl, fun K hK => ?_⟩
      have d12' : CloOk g q n cap W rb us 9 (z.tmps.getD 12 undef) v := hdep { on := 9, ground := .data } (by simp) rfl _ _ rfl rfl
      simp only [CloOk] at d12'
      obtain ⟨q2, c2, d12, hO⟩ := d12'
      have e12 := d12
      rw [Array.getD_eq_getD_getElem?] at e12
      have hzs := hz.size
      have HO := Lib.hid hO
      clear hdep hag hz hO
      go_simp
      exact hK _ _ ((Below.refl _ _).alloc (Nat.le_refl _) _) ⟨v.heap.size, q2, c2, rfl, Nat.le_trans HRb.out hzs, World.alloc_heap_new _ _, HO.out.alloc _⟩
    · intro z v hz hag hdep
      refine .inl ⟨rfl, fun K hK => ?_⟩
      have d13' : CloOk g q n cap W rb us 10 (z.tmps.getD 13 undef) v := hdep { on := 10, ground := .data } (by simp) rfl _ _ rfl rfl
      simp only [CloOk] at d13'
      obtain ⟨g2, q2, c2, d13, hg2, hgb, hO⟩ := d13'
      have e13 := d13
      rw [Array.getD_eq_getD_getElem?] at e13
      have HO := Lib.hid hO
      have HGb := Lib.hid hgb
      clear hdep hag hz hO hgb
      go_simp
      exact hK _ _ (Below.refl _ _) ⟨g2, q2, c2, rfl, hg2, HGb.out, HO.out⟩
  case hdone =>
    intro z v hz hag hok
    obtain ⟨g2, q2, c2, d2, hg2, hgb, hO⟩ : ∃ g2 q2 c2, z.tmps.getD 2 undef = .pointer (some ⟨g2, 0, none⟩) ∧ rb ≤ g2 ∧ v.heap[g2]? = some (.cells #[.int .i64 (W : Int), .slice (some ⟨q2, 0, none⟩) n c2] 137 (0, 0)) ∧ OwnV 54 rb (.slice (some ⟨q2, 0, none⟩) n c2) us v := hok 11 _ 2 rfl rfl
    obtain ⟨uu, hu, hzz⟩ := agree_frame [3, 4, 5, 6, 7, 8, 9, 10, 11, 12, 13, 2] rfl hag
    have e2 := (hu 2).trans d2
    subst hzz
    have HZ := Lib.hid hz
    have HGb := Lib.hid hgb
    have HO := Lib.hid hO
    clear hz hgb hO
    simp only [List.foldl_cons, List.foldl_nil]
    rw [e2]
    clear e2 d2 hu hag hok
    try dsimp only [Exit.then]
    try dsimp only [List.drop]
    simp only [List.setIfInBounds_toArray, List.set_cons_succ, List.set_cons_zero]
    generalize uu 3 = u3', uu 4 = u4', uu 5 = u5', uu 6 = u6', uu 7 = u7', uu 8 = u8', uu 9 = u9', uu 10 = u10', uu 11 = u11', uu 12 = u12', uu 13 = u13'
    clear uu
    go_wp2
    go_ret
    refine ⟨g2, q2, rfl, hg2, (HO.out.ownBlock q2 rfl).1, ⟨us, c2, HGr.out.ok, by rw [HW.out, HN.out]; exact HGb.out, by rw [HN.out]; exact HO.out.weaken (Nat.zero_le _), HGr.out.rv.belowAll HZ.out, fun u hu => (HGr.out.ty u hu).moved (fun b _ _ hl => HZ.out.block b hl)⟩, by rw [← HRe.out]; exact HZ.out⟩
theorem GridAt.set {g q : Nat} {x : Gd} {us : List Rv} {cap : Nat} {w w1 w2 : World} (h : GridAt g q x us cap w) (hb : Below w.heap.size w w1) {k : Nat} {u : Rv} {r : Ro} (hk : k < us.length) (hr : RowV .i32 u.val (resizeS r x.W) w1) (ht : TyC 0 u w1) (hrg : AllC Rng r.l)
    (ho : OwnV 54 0 (.slice (some ⟨q, 0, none⟩) us.length cap) (us.set k u) w2) (hg : w1.grownBy w2 (some q)) : GridAt g q (setG x k r) (us.set k u) cap w2 ∧ KeepB [g, q] w w2 := by
  have hkx : (k : Int) < x.rs.length := by rw [← h.ulen]; omega
  have hset : setG x k r = ⟨x.W, x.rs.set k (resizeS r x.W)⟩ := by unfold setG; rw [if_pos ⟨by omega, hkx⟩]; rfl
  have h1 := h.below hb
  obtain ⟨cs, hq⟩ := h1.qb
  have hne : ∀ v : Rv, TyC 0 v w1 → ∀ b off, v.a = some ⟨b, off, none⟩ → b < w1.heap.size → w2.heap[b]? = w1.heap[b]? := fun v hv b off e hl => hg.block b hl (fun e' => by
    cases e'
    exact hv.ne hq (by decide) _ off e rfl)
  have hgq := h.gq
  have hok := setG_ok h.ok k hrg
  rw [hset] at hok ⊢
  have hty : ∀ v ∈ us.set k u, TyC 0 v w1 := fun v hv => by
    rcases List.mem_or_eq_of_mem_set hv with hv | rfl
    · exact h1.ty v hv
    · exact ht
  refine ⟨⟨hok, ?_, by rw [List.length_set]; exact ho, (h1.rv.set hr k).moved hg.size (fun v hv => hne v (hty v hv)), fun v hv => (hty v hv).moved (hne v (hty v hv))⟩, (KeepB.of_below hb).trans ((KeepB.of_grown hg).mono (fun i hi => by rw [List.mem_singleton.1 hi]; simp))⟩
  rw [List.length_set]
  exact (hg.block g h1.lt.1 (fun e => hgq (by cases e; rfl))).trans h1.gb
end Go.Proofs.YtohhlhnjopbmhaaGreatDoor.K
