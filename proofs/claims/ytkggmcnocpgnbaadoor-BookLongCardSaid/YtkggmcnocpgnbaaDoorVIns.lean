/- The contracts of the program's Insert and Delete. -/
import Derived.Test.YtkggmcnocpgnbaaDoorMerged6
namespace Go.Proofs.YtkggmcnocpgnbaaDoor.K
open Go.RowKit

theorem insert_some (l : List Cel) (at_ k s : Int) : mend (l.take (someS l.length at_ k).1 ++ blanks (someS l.length at_ k).2 s ++ (l.take (l.length - (someS l.length at_ k).2)).drop (someS l.length at_ k).1) = insertS l at_ k s := by
  unfold insertS someS
  by_cases h : at_ < 0 ∨ (l.length : Int) ≤ at_
  · rw [if_pos h, if_pos (by omega)]
    simp [blanks]
  · rw [if_neg h]
    by_cases hk : k ≤ 0
    · rw [if_pos (by omega)]
      have : (nearS k ((l.length : Int) - at_)).toNat = 0 := by unfold nearS; omega
      simp only [this]
      simp [blanks]
    · rw [if_neg (by omega)]
      have : (nearS k ((l.length : Int) - at_)).toNat = min k.toNat (l.length - at_.toNat) := by unfold nearS; omega
      simp only [this]
theorem delete_some (l : List Cel) (at_ k s : Int) : mend (l.take (someS l.length at_ k).1 ++ l.drop ((someS l.length at_ k).1 + (someS l.length at_ k).2) ++ blanks (someS l.length at_ k).2 s) = deleteS l at_ k s := by
  unfold deleteS someS
  by_cases h : at_ < 0 ∨ (l.length : Int) ≤ at_
  · rw [if_pos h, if_pos (by omega)]
    simp [blanks]
  · rw [if_neg h]
    by_cases hk : k ≤ 0
    · rw [if_pos (by omega)]
      have : (nearS k ((l.length : Int) - at_)).toNat = 0 := by unfold nearS; omega
      simp only [this]
      simp [blanks]
    · rw [if_neg (by omega)]
      have : (nearS k ((l.length : Int) - at_)).toNat = min k.toNat (l.length - at_.toNat) := by unfold nearS; omega
      simp only [this]

def OkInsert (rb : Nat) (a : Option Addr) (n c A J M : Nat) (l : List Cel) (s : Int) : Nat → Value → World → Prop
  | 0, u, _ => u = .pointer (some ⟨rb, 0, none⟩)
  | 1, u, _ => u = .slice a n c
  | 2, u, _ => u = .int .i64 (A : Int)
  | 3, u, w => SegAt u (l.take A) w
  | 4, u, _ => u = .int .i64 (J : Int)
  | 5, u, _ => u = .int .i64 s
  | 6, u, w => SegAt u (blanks J s) w
  | 7, u, _ => u = .pointer (some ⟨rb, 0, none⟩)
  | 8, u, _ => u = .slice a n c
  | 9, u, _ => u = .int .i64 (A : Int)
  | 10, u, _ => u = .pointer (some ⟨rb, 0, none⟩)
  | 11, u, _ => u = .slice a n c
  | 12, u, _ => u = .int .i64 (n : Int)
  | 13, u, _ => u = .int .i64 (J : Int)
  | 14, u, _ => u = .int .i64 (M : Int)
  | 15, u, w => SegAt u ((l.take M).drop A) w
  | _, _, _ => True
set_option maxRecDepth 100000 in
set_option maxHeartbeats 8000000 in
theorem rowInsert_any (a : Option Addr) (n c : Nat) (wr0 : Bool) (l : List Cel) (at_ k s : Int) (w : World) (hI : CelsIn .i32 a n l w) (hnil : a = none → c = 0) (hcap : n ≤ c) (hmx : (c : Int) ≤ 9223372036854775807) (hn : (n : Int) ≤ 100000) :
    Calls Tryd.prog 97 #[.agg #[.slice a n c, .bool wr0], .int .i64 at_, .int .i64 k, .int .i64 s] w (RowPost .i32 105 w.heap.size (insertS l at_ k s) false w) := by
  obtain ⟨rb, hrb⟩ : ∃ rb, w.heap.size = rb := ⟨_, rfl⟩
  rw [hrb]
  obtain ⟨P, hP⟩ : ∃ P, RowPost .i32 105 rb (insertS l at_ k s) false w = P := ⟨_, rfl⟩
  rw [hP]
  have HP := Lib.hid hP
  have hln := hI.len
  have heq := insert_some l at_ k s
  rw [← hln] at heq
  have hle := someS_le n at_ k
  have HSo := Lib.hid (fun (v : World) => some_any a n c wr0 at_ k v (by omega))
  obtain ⟨A, hA⟩ : ∃ A, (someS n at_ k).1 = A := ⟨_, rfl⟩
  obtain ⟨J, hJ⟩ : ∃ J, (someS n at_ k).2 = J := ⟨_, rfl⟩
  rw [hA, hJ] at heq hle HSo
  have hAn : A ≤ n := by omega
  have hAc : (A : Int) ≤ c := by omega
  have hJn : (J : Int) ≤ 100000 := by omega
  obtain ⟨M, hM⟩ : ∃ M : Nat, n - J = M := ⟨_, rfl⟩
  rw [hM] at heq
  have hMi : (n : Int) - (J : Int) = (M : Int) := by omega
  have hMn : M ≤ n := by omega
  have hAM : A ≤ M := by omega
  have hMc : (M : Int) ≤ c := by omega
  have HTot : Hid ((((l.take A).length + (blanks J s).length + ((l.take M).drop A).length : Nat) : Int) ≤ 1000000) := Lib.hid (by
    rw [blanks_length, List.length_take, List.length_drop, List.length_take]; omega)
  have HTotL : Hid (((l.take A ++ blanks J s ++ (l.take M).drop A).length : Int) ≤ 1000000) := Lib.hid (by rw [List.length_append, List.length_append]; exact HTot.out)
  clear hM
  have hst := St0.start 27 27 w (.slice a n c) wr0
  obtain ⟨w2, hw2⟩ : ∃ w2, (w.alloc (.cells #[.slice a n c, .bool wr0] 27)).alloc (.cells #[.slice none 0 0, .bool false] 27) = w2 := ⟨_, rfl⟩
  rw [hw2, hrb] at hst
  have c0 := hst.r.c0
  have c1 := hst.r.c1
  have hsz2 : rb + 2 ≤ w2.heap.size := hst.size
  have HSt := Lib.hid hst
  have HI2 : Hid (CelsIn .i32 a n l w2) := Lib.hid (hI.belowAll (by rw [hrb]; exact hst.below))
  have HW2 := Lib.hid hw2
  have HRb := Lib.hid hrb
  have HLn := Lib.hid hln
  have HEq := Lib.hid heq
  have HNil := Lib.hid hnil
  have HCap := Lib.hid hcap
  clear hP hst hI hnil hw2 hrb hln heq hA hJ hcap
  go_enter Tryd.func97, Tryd.ntmps97
  go_upto_region 1 with fail
  rw [HW2.out, HRb.out]
  go_upto_region 2 with (go_at_call 118; refine (HSo.out _).mono ?_; rintro e w3 ⟨rfl, hb3⟩)
  have HSt3 := Lib.hid (HSt.out.more (hb3.mono hsz2))
  have HI3 := Lib.hid (HI2.out.belowAll hb3)
  have HC0 := Lib.hid HSt3.out.r.c0
  have HRl : Hid (rb < w3.heap.size) := Lib.hid (by have := HSt3.out.size; omega)
  clear c0 c1 hb3 hsz2
  refine Go.Proofs.YtkggmcnocpgnbaaDoor.R.wp_region_tailV 16 (by kernel_rfl) (fun u => Below w3.heap.size w3 u) (fun u v => Below u.heap.size u v) (OkInsert rb a n c A J M l s) (by rfl) (by kernel_rfl) (by decide) (by kernel_rfl) (by kernel_rfl) (by kernel_rfl) ?hC ?hOk ?hop ?hdone ((Below.refl _ _).drew)
  case hC => exact fun u v hu huv => hu.trans (huv.mono hu.size)
  case hOk =>
    intro i x u u' hv huu
    unfold OkInsert at hv ⊢
    split at hv
    all_goals first | exact hv | exact SegAt.belowAll hv huu | trivial
  case hop =>
    refine ⟨?_, ?_, ?_, ?_, ?_, ?_, ?_, ?_, ?_, ?_, ?_, ?_, ?_, ?_, ?_, ?_, trivial⟩
    · intro z v hz hag hdep
      refine .inl ⟨rfl, fun K hK => ?_⟩
      have d4 : z.tmps.getD 4 undef = .pointer (some ⟨rb, 0, none⟩) := hag.2.2 4 (by kernel_rfl)
      have e4 := d4
      rw [Array.getD_eq_getD_getElem?] at e4
      clear hdep hag 
      go_simp
      exact hK _ _ (Below.refl _ _) rfl
    · intro z v hz hag hdep
      refine .inl ⟨rfl, fun K hK => ?_⟩
      have d16 : z.tmps.getD 16 undef = .pointer (some ⟨rb, 0, none⟩) := hdep { on := 0, ground := .data } (by simp) rfl _ _ rfl rfl
      have e16 := d16
      rw [Array.getD_eq_getD_getElem?] at e16
      have l0 := (hz.cell (p := ⟨rb, 0, none⟩) HRl.out).trans HC0.out
      clear hdep hag 
      go_simp
      exact hK _ _ (Below.refl _ _) rfl
    · intro z v hz hag hdep
      refine .inl ⟨rfl, fun K hK => ?_⟩
      have d1 : z.tmps.getD 1 undef = .int .i64 (A : Int) := hag.2.2 1 (by kernel_rfl)
      have e1 := d1
      rw [Array.getD_eq_getD_getElem?] at e1
      clear hdep hag 
      go_simp
      exact hK _ _ (Below.refl _ _) rfl
    · intro z v hz hag hdep
      refine .inl ⟨rfl, fun K hK => ?_⟩
      have d17 : z.tmps.getD 17 undef = .slice a n c := hdep { on := 1, ground := .data } (by simp) rfl _ _ rfl rfl
      have e17 := d17
      rw [Array.getD_eq_getD_getElem?] at e17
      have d18 : z.tmps.getD 18 undef = .int .i64 (A : Int) := hdep { on := 2, ground := .data } (by simp) rfl _ _ rfl rfl
      have e18 := d18
      rw [Array.getD_eq_getD_getElem?] at e18
      have hs := SegAt.front (HI3.out.belowAll hz) HNil.out HCap.out hAn
      clear hdep hag hz
      go_simp
      exact hK _ _ (Below.refl _ _) hs
    · intro z v hz hag hdep
      refine .inl ⟨rfl, fun K hK => ?_⟩
      have d2 : z.tmps.getD 2 undef = .int .i64 (J : Int) := hag.2.2 2 (by kernel_rfl)
      have e2 := d2
      rw [Array.getD_eq_getD_getElem?] at e2
      clear hdep hag 
      go_simp
      exact hK _ _ (Below.refl _ _) rfl
    · intro z v hz hag hdep
      refine .inl ⟨rfl, fun K hK => ?_⟩
      have d3 : z.tmps.getD 3 undef = .int .i64 s := hag.2.2 3 (by kernel_rfl)
      have e3 := d3
      rw [Array.getD_eq_getD_getElem?] at e3
      clear hdep hag 
      go_simp
      exact hK _ _ (Below.refl _ _) rfl
    · intro z v hz hag hdep
      refine .inl ⟨rfl, fun K hK => ?_⟩
      have d20 : z.tmps.getD 20 undef = .int .i64 (J : Int) := hdep { on := 4, ground := .data } (by simp) rfl _ _ rfl rfl
      have e20 := d20
      rw [Array.getD_eq_getD_getElem?] at e20
      have d21 : z.tmps.getD 21 undef = .int .i64 s := hdep { on := 5, ground := .data } (by simp) rfl _ _ rfl rfl
      have e21 := d21
      rw [Array.getD_eq_getD_getElem?] at e21
      have HBk := Lib.hid (blanks_any J s (by omega) v)
      clear hdep hag hz
      go_simp
      refine HBk.out.mono ?_
      rintro e w' ⟨v', rfl, h1, h2⟩
      exact hK _ _ h2 h1.seg
    · intro z v hz hag hdep
      refine .inl ⟨rfl, fun K hK => ?_⟩
      have d4 : z.tmps.getD 4 undef = .pointer (some ⟨rb, 0, none⟩) := hag.2.2 4 (by kernel_rfl)
      have e4 := d4
      rw [Array.getD_eq_getD_getElem?] at e4
      clear hdep hag 
      go_simp
      exact hK _ _ (Below.refl _ _) rfl
    · intro z v hz hag hdep
      refine .inl ⟨rfl, fun K hK => ?_⟩
      have d23 : z.tmps.getD 23 undef = .pointer (some ⟨rb, 0, none⟩) := hdep { on := 7, ground := .data } (by simp) rfl _ _ rfl rfl
      have e23 := d23
      rw [Array.getD_eq_getD_getElem?] at e23
      have l0 := (hz.cell (p := ⟨rb, 0, none⟩) HRl.out).trans HC0.out
      clear hdep hag 
      go_simp
      exact hK _ _ (Below.refl _ _) rfl
    · intro z v hz hag hdep
      refine .inl ⟨rfl, fun K hK => ?_⟩
      have d1 : z.tmps.getD 1 undef = .int .i64 (A : Int) := hag.2.2 1 (by kernel_rfl)
      have e1 := d1
      rw [Array.getD_eq_getD_getElem?] at e1
      clear hdep hag 
      go_simp
      exact hK _ _ (Below.refl _ _) rfl
    · intro z v hz hag hdep
      refine .inl ⟨rfl, fun K hK => ?_⟩
      have d4 : z.tmps.getD 4 undef = .pointer (some ⟨rb, 0, none⟩) := hag.2.2 4 (by kernel_rfl)
      have e4 := d4
      rw [Array.getD_eq_getD_getElem?] at e4
      clear hdep hag 
      go_simp
      exact hK _ _ (Below.refl _ _) rfl
    · intro z v hz hag hdep
      refine .inl ⟨rfl, fun K hK => ?_⟩
      have d26 : z.tmps.getD 26 undef = .pointer (some ⟨rb, 0, none⟩) := hdep { on := 10, ground := .data } (by simp) rfl _ _ rfl rfl
      have e26 := d26
      rw [Array.getD_eq_getD_getElem?] at e26
      have l0 := (hz.cell (p := ⟨rb, 0, none⟩) HRl.out).trans HC0.out
      clear hdep hag 
      go_simp
      exact hK _ _ (Below.refl _ _) rfl
    · intro z v hz hag hdep
      refine .inl ⟨rfl, fun K hK => ?_⟩
      have d27 : z.tmps.getD 27 undef = .slice a n c := hdep { on := 11, ground := .data } (by simp) rfl _ _ rfl rfl
      have e27 := d27
      rw [Array.getD_eq_getD_getElem?] at e27
      clear hdep hag 
      go_simp
      exact hK _ _ (Below.refl _ _) rfl
    · intro z v hz hag hdep
      refine .inl ⟨rfl, fun K hK => ?_⟩
      have d2 : z.tmps.getD 2 undef = .int .i64 (J : Int) := hag.2.2 2 (by kernel_rfl)
      have e2 := d2
      rw [Array.getD_eq_getD_getElem?] at e2
      clear hdep hag 
      go_simp
      exact hK _ _ (Below.refl _ _) rfl
    · intro z v hz hag hdep
      refine .inl ⟨rfl, fun K hK => ?_⟩
      have d28 : z.tmps.getD 28 undef = .int .i64 (n : Int) := hdep { on := 12, ground := .data } (by simp) rfl _ _ rfl rfl
      have e28 := d28
      rw [Array.getD_eq_getD_getElem?] at e28
      have d29 : z.tmps.getD 29 undef = .int .i64 (J : Int) := hdep { on := 13, ground := .data } (by simp) rfl _ _ rfl rfl
      have e29 := d29
      rw [Array.getD_eq_getD_getElem?] at e29
      have hwr : IntKind.i64.wrap (M : Int) = (M : Int) := by rw [IntKind.wrap_i64]; omega
      clear hdep hag 
      go_simp
      exact hK _ _ (Below.refl _ _) rfl
    · intro z v hz hag hdep
      refine .inl ⟨rfl, fun K hK => ?_⟩
      have d24 : z.tmps.getD 24 undef = .slice a n c := hdep { on := 8, ground := .data } (by simp) rfl _ _ rfl rfl
      have e24 := d24
      rw [Array.getD_eq_getD_getElem?] at e24
      have d25 : z.tmps.getD 25 undef = .int .i64 (A : Int) := hdep { on := 9, ground := .data } (by simp) rfl _ _ rfl rfl
      have e25 := d25
      rw [Array.getD_eq_getD_getElem?] at e25
      have d30 : z.tmps.getD 30 undef = .int .i64 (M : Int) := hdep { on := 14, ground := .data } (by simp) rfl _ _ rfl rfl
      have e30 := d30
      rw [Array.getD_eq_getD_getElem?] at e30
      have hs := SegAt.cut (HI3.out.belowAll hz) HNil.out HCap.out hAM hMn
      clear hdep hag hz
      go_simp
      exact hK _ _ (Below.refl _ _) hs
  case hdone =>
    intro z u hu hag hok hno
    clear hno
    have d19 : SegAt (z.tmps.getD 19 undef) (l.take A) u := hok 3 _ 19 (by decide) rfl rfl
    obtain ⟨v0, hv0⟩ : ∃ v, z.tmps.getD 19 undef = v := ⟨_, rfl⟩
    rw [hv0] at d19
    have d22 : SegAt (z.tmps.getD 22 undef) (blanks J s) u := hok 6 _ 22 (by decide) rfl rfl
    obtain ⟨v1, hv1⟩ : ∃ v, z.tmps.getD 22 undef = v := ⟨_, rfl⟩
    rw [hv1] at d22
    have d31 : SegAt (z.tmps.getD 31 undef) ((l.take M).drop A) u := hok 15 _ 31 (by decide) rfl rfl
    obtain ⟨v2, hv2⟩ : ∃ v, z.tmps.getD 31 undef = v := ⟨_, rfl⟩
    rw [hv2] at d31
    obtain ⟨uu, huu, hzz⟩ := Go.Proofs.YtkggmcnocpgnbaaDoor.R.agree_frame [16, 17, 18, 19, 20, 21, 22, 23, 24, 25, 26, 27, 28, 29, 30, 31] rfl hag
    have e19 := (huu 19).trans hv0
    have e22 := (huu 22).trans hv1
    have e31 := (huu 31).trans hv2
    subst hzz
    have HStu := Lib.hid (HSt3.out.more (hu.mono HSt3.out.size))
    have HCat := Lib.hid (concat3 v0 v1 v2 (l.take A) (blanks J s) ((l.take M).drop A) u 25 d19 d22 d31 HTot.out)
    obtain ⟨x0, n0', c0', rfl, -, -, -⟩ := d19
    obtain ⟨x1, n1', c1', rfl, -, -, -⟩ := d22
    obtain ⟨x2, n2', c2', rfl, -, -, -⟩ := d31
    obtain ⟨gb, hgb⟩ : ∃ gb, u.heap.size = gb := ⟨_, rfl⟩
    obtain ⟨w7, hw7⟩ : ∃ w7, u.alloc (.cells #[.slice x0 n0' c0', .slice x1 n1' c1', .slice x2 n2' c2'] 25) = w7 := ⟨_, rfl⟩
    rw [hw7, hgb] at HCat
    have HSt7 : Hid (St0 27 27 rb (.slice a n c) wr0 w w7) := Lib.hid (by rw [← hw7]; exact HStu.out.more ((Below.refl _ _).alloc HStu.out.size _))
    have hgb2 : rb + 2 ≤ gb := by rw [← hgb]; exact HStu.out.size
    have HW7 := Lib.hid hw7
    have HGb := Lib.hid hgb
    have HGb2 := Lib.hid hgb2
    clear hu hag hok huu hw7 hgb hgb2 hv0 hv1 hv2 HStu
    simp only [List.foldl_cons, List.foldl_nil]
    rw [e19, e22, e31]
    clear e19 e22 e31
    dsimp only [List.drop]
    simp only [List.setIfInBounds_toArray, List.set_cons_succ, List.set_cons_zero]
    generalize uu 16 = u16', uu 17 = u17', uu 18 = u18', uu 20 = u20', uu 21 = u21', uu 23 = u23', uu 24 = u24', uu 25 = u25', uu 26 = u26', uu 27 = u27', uu 28 = u28', uu 29 = u29', uu 30 = u30'
    clear uu
    go_wp2_with (go_at_call 107; rw [HW7.out, HGb.out]; refine HCat.out.mono ?_; rintro e w8 ⟨v8, rfl, hO8, hb8⟩)
    have HM8 := Lib.hid (mended_any (rb + 2) v8 _ w8 (hO8.weaken (Nat.le_succ_of_le HGb2.out)) (Nat.le_trans HSt7.out.size hb8.size) (by exact HTotL.out))
    rw [HEq.out] at HM8
    have HSt8 := Lib.hid (HSt7.out.more (hb8.mono (Nat.le_succ_of_le HGb2.out)))
    obtain ⟨a8, c8, rfl, -⟩ := hO8.shape
    clear hO8 hb8 HCat
    go_wp2_with (go_at_call 84; refine HM8.out.mono ?_; rintro e w9 ⟨v9, rfl, hO9, hb9⟩)
    have HSt9 := Lib.hid (HSt8.out.more hb9)
    obtain ⟨a9, c9, he9, -⟩ := hO9.shape
    obtain ⟨n9, hn9⟩ : ∃ n9, (insertS l at_ k s).length = n9 := ⟨_, rfl⟩
    rw [hn9] at he9
    subst he9
    have HO9 := Lib.hid hO9
    have x0 := HSt9.out.q.c0
    have x1 := HSt9.out.q.c1
    have f0 := HSt9.out.q.fr 0
    have f1 := HSt9.out.q.fr 1
    clear hO9 hb9 hn9 HM8
    have hst : (store ⟨rb + 1, 0, none⟩ (.slice a9 n9 c9)).run Tryd.prog w9 = .ok () (w9.setCell ⟨rb + 1, 0, none⟩ (.slice a9 n9 c9)) := by
      rw [run_store Tryd.prog w9 _ _ _ rfl, x0, f0]
      rfl
    go_simp
    rename_i KK aa
    apply aa
    go_wp2_with fail
    refine bodyPost_ret (v := .agg #[.slice a9 n9 c9, .bool false]) (by rw [results_cell (fn := Tryd.f97) rfl]; go_simp <;> rfl) rfl ?_
    rw [← HP.out]
    exact ⟨_, rfl, (HO9.out.set2 (Nat.lt_succ_self (rb + 1)) _ _).weaken (by omega), below_set2 HSt9.out.below (by omega)⟩


def OkDelete (rb : Nat) (a : Option Addr) (n c A J M : Nat) (l : List Cel) (s : Int) : Nat → Value → World → Prop
  | 0, u, _ => u = .pointer (some ⟨rb, 0, none⟩)
  | 1, u, _ => u = .slice a n c
  | 2, u, _ => u = .int .i64 (A : Int)
  | 3, u, w => SegAt u (l.take A) w
  | 4, u, _ => u = .pointer (some ⟨rb, 0, none⟩)
  | 5, u, _ => u = .slice a n c
  | 6, u, _ => u = .int .i64 (A : Int)
  | 7, u, _ => u = .int .i64 (J : Int)
  | 8, u, _ => u = .int .i64 (M : Int)
  | 9, u, w => SegAt u (l.drop M) w
  | 10, u, _ => u = .int .i64 (J : Int)
  | 11, u, _ => u = .int .i64 s
  | 12, u, w => SegAt u (blanks J s) w
  | _, _, _ => True
set_option maxRecDepth 100000 in
set_option maxHeartbeats 8000000 in
theorem rowDelete_any (a : Option Addr) (n c : Nat) (wr0 : Bool) (l : List Cel) (at_ k s : Int) (w : World) (hI : CelsIn .i32 a n l w) (hnil : a = none → c = 0) (hcap : n ≤ c) (hmx : (c : Int) ≤ 9223372036854775807) (hn : (n : Int) ≤ 100000) :
    Calls Tryd.prog 99 #[.agg #[.slice a n c, .bool wr0], .int .i64 at_, .int .i64 k, .int .i64 s] w (RowPost .i32 105 w.heap.size (deleteS l at_ k s) false w) := by
  obtain ⟨rb, hrb⟩ : ∃ rb, w.heap.size = rb := ⟨_, rfl⟩
  rw [hrb]
  obtain ⟨P, hP⟩ : ∃ P, RowPost .i32 105 rb (deleteS l at_ k s) false w = P := ⟨_, rfl⟩
  rw [hP]
  have HP := Lib.hid hP
  have hln := hI.len
  have heq := delete_some l at_ k s
  rw [← hln] at heq
  have hle := someS_le n at_ k
  have HSo := Lib.hid (fun (v : World) => some_any a n c wr0 at_ k v (by omega))
  obtain ⟨A, hA⟩ : ∃ A, (someS n at_ k).1 = A := ⟨_, rfl⟩
  obtain ⟨J, hJ⟩ : ∃ J, (someS n at_ k).2 = J := ⟨_, rfl⟩
  rw [hA, hJ] at heq hle HSo
  have hAn : A ≤ n := by omega
  have hAc : (A : Int) ≤ c := by omega
  have hJn : (J : Int) ≤ 100000 := by omega
  obtain ⟨M, hM⟩ : ∃ M : Nat, A + J = M := ⟨_, rfl⟩
  have hMi : (A : Int) + (J : Int) = (M : Int) := by omega
  have hMn : M ≤ n := by omega
  have hMc : (M : Int) ≤ n := by omega
  rw [hM] at heq
  have HTot : Hid ((((l.take A).length + (l.drop M).length + (blanks J s).length : Nat) : Int) ≤ 1000000) := Lib.hid (by
    rw [blanks_length, List.length_take, List.length_drop]; omega)
  have HTotL : Hid (((l.take A ++ l.drop M ++ blanks J s).length : Int) ≤ 1000000) := Lib.hid (by rw [List.length_append, List.length_append]; exact HTot.out)
  clear hM
  have hst := St0.start 27 27 w (.slice a n c) wr0
  obtain ⟨w2, hw2⟩ : ∃ w2, (w.alloc (.cells #[.slice a n c, .bool wr0] 27)).alloc (.cells #[.slice none 0 0, .bool false] 27) = w2 := ⟨_, rfl⟩
  rw [hw2, hrb] at hst
  have c0 := hst.r.c0
  have c1 := hst.r.c1
  have hsz2 : rb + 2 ≤ w2.heap.size := hst.size
  have HSt := Lib.hid hst
  have HI2 : Hid (CelsIn .i32 a n l w2) := Lib.hid (hI.belowAll (by rw [hrb]; exact hst.below))
  have HW2 := Lib.hid hw2
  have HRb := Lib.hid hrb
  have HLn := Lib.hid hln
  have HEq := Lib.hid heq
  have HNil := Lib.hid hnil
  have HCap := Lib.hid hcap
  clear hP hst hI hnil hw2 hrb hln heq hA hJ hcap
  go_enter Tryd.func99, Tryd.ntmps99
  go_upto_region 1 with fail
  rw [HW2.out, HRb.out]
  go_upto_region 2 with (go_at_call 118; refine (HSo.out _).mono ?_; rintro e w3 ⟨rfl, hb3⟩)
  have HSt3 := Lib.hid (HSt.out.more (hb3.mono hsz2))
  have HI3 := Lib.hid (HI2.out.belowAll hb3)
  have HC0 := Lib.hid HSt3.out.r.c0
  have HRl : Hid (rb < w3.heap.size) := Lib.hid (by have := HSt3.out.size; omega)
  clear c0 c1 hb3 hsz2
  refine Go.Proofs.YtkggmcnocpgnbaaDoor.R.wp_region_tailV 13 (by kernel_rfl) (fun u => Below w3.heap.size w3 u) (fun u v => Below u.heap.size u v) (OkDelete rb a n c A J M l s) (by rfl) (by kernel_rfl) (by decide) (by kernel_rfl) (by kernel_rfl) (by kernel_rfl) ?hC ?hOk ?hop ?hdone ((Below.refl _ _).drew)
  case hC => exact fun u v hu huv => hu.trans (huv.mono hu.size)
  case hOk =>
    intro i x u u' hv huu
    unfold OkDelete at hv ⊢
    split at hv
    all_goals first | exact hv | exact SegAt.belowAll hv huu | trivial
  case hop =>
    refine ⟨?_, ?_, ?_, ?_, ?_, ?_, ?_, ?_, ?_, ?_, ?_, ?_, ?_, trivial⟩
    · intro z v hz hag hdep
      refine .inl ⟨rfl, fun K hK => ?_⟩
      have d4 : z.tmps.getD 4 undef = .pointer (some ⟨rb, 0, none⟩) := hag.2.2 4 (by kernel_rfl)
      have e4 := d4
      rw [Array.getD_eq_getD_getElem?] at e4
      clear hdep hag 
      go_simp
      exact hK _ _ (Below.refl _ _) rfl
    · intro z v hz hag hdep
      refine .inl ⟨rfl, fun K hK => ?_⟩
      have d16 : z.tmps.getD 16 undef = .pointer (some ⟨rb, 0, none⟩) := hdep { on := 0, ground := .data } (by simp) rfl _ _ rfl rfl
      have e16 := d16
      rw [Array.getD_eq_getD_getElem?] at e16
      have l0 := (hz.cell (p := ⟨rb, 0, none⟩) HRl.out).trans HC0.out
      clear hdep hag 
      go_simp
      exact hK _ _ (Below.refl _ _) rfl
    · intro z v hz hag hdep
      refine .inl ⟨rfl, fun K hK => ?_⟩
      have d1 : z.tmps.getD 1 undef = .int .i64 (A : Int) := hag.2.2 1 (by kernel_rfl)
      have e1 := d1
      rw [Array.getD_eq_getD_getElem?] at e1
      clear hdep hag 
      go_simp
      exact hK _ _ (Below.refl _ _) rfl
    · intro z v hz hag hdep
      refine .inl ⟨rfl, fun K hK => ?_⟩
      have d17 : z.tmps.getD 17 undef = .slice a n c := hdep { on := 1, ground := .data } (by simp) rfl _ _ rfl rfl
      have e17 := d17
      rw [Array.getD_eq_getD_getElem?] at e17
      have d18 : z.tmps.getD 18 undef = .int .i64 (A : Int) := hdep { on := 2, ground := .data } (by simp) rfl _ _ rfl rfl
      have e18 := d18
      rw [Array.getD_eq_getD_getElem?] at e18
      have hs := SegAt.front (HI3.out.belowAll hz) HNil.out HCap.out hAn
      clear hdep hag hz
      go_simp
      exact hK _ _ (Below.refl _ _) hs
    · intro z v hz hag hdep
      refine .inl ⟨rfl, fun K hK => ?_⟩
      have d4 : z.tmps.getD 4 undef = .pointer (some ⟨rb, 0, none⟩) := hag.2.2 4 (by kernel_rfl)
      have e4 := d4
      rw [Array.getD_eq_getD_getElem?] at e4
      clear hdep hag 
      go_simp
      exact hK _ _ (Below.refl _ _) rfl
    · intro z v hz hag hdep
      refine .inl ⟨rfl, fun K hK => ?_⟩
      have d20 : z.tmps.getD 20 undef = .pointer (some ⟨rb, 0, none⟩) := hdep { on := 4, ground := .data } (by simp) rfl _ _ rfl rfl
      have e20 := d20
      rw [Array.getD_eq_getD_getElem?] at e20
      have l0 := (hz.cell (p := ⟨rb, 0, none⟩) HRl.out).trans HC0.out
      clear hdep hag 
      go_simp
      exact hK _ _ (Below.refl _ _) rfl
    · intro z v hz hag hdep
      refine .inl ⟨rfl, fun K hK => ?_⟩
      have d1 : z.tmps.getD 1 undef = .int .i64 (A : Int) := hag.2.2 1 (by kernel_rfl)
      have e1 := d1
      rw [Array.getD_eq_getD_getElem?] at e1
      clear hdep hag 
      go_simp
      exact hK _ _ (Below.refl _ _) rfl
    · intro z v hz hag hdep
      refine .inl ⟨rfl, fun K hK => ?_⟩
      have d2 : z.tmps.getD 2 undef = .int .i64 (J : Int) := hag.2.2 2 (by kernel_rfl)
      have e2 := d2
      rw [Array.getD_eq_getD_getElem?] at e2
      clear hdep hag 
      go_simp
      exact hK _ _ (Below.refl _ _) rfl
    · intro z v hz hag hdep
      refine .inl ⟨rfl, fun K hK => ?_⟩
      have d22 : z.tmps.getD 22 undef = .int .i64 (A : Int) := hdep { on := 6, ground := .data } (by simp) rfl _ _ rfl rfl
      have e22 := d22
      rw [Array.getD_eq_getD_getElem?] at e22
      have d23 : z.tmps.getD 23 undef = .int .i64 (J : Int) := hdep { on := 7, ground := .data } (by simp) rfl _ _ rfl rfl
      have e23 := d23
      rw [Array.getD_eq_getD_getElem?] at e23
      have hwr : IntKind.i64.wrap (M : Int) = (M : Int) := by rw [IntKind.wrap_i64]; omega
      clear hdep hag 
      go_simp
      exact hK _ _ (Below.refl _ _) rfl
    · intro z v hz hag hdep
      refine .inl ⟨rfl, fun K hK => ?_⟩
      have d21 : z.tmps.getD 21 undef = .slice a n c := hdep { on := 5, ground := .data } (by simp) rfl _ _ rfl rfl
      have e21 := d21
      rw [Array.getD_eq_getD_getElem?] at e21
      have d24 : z.tmps.getD 24 undef = .int .i64 (M : Int) := hdep { on := 8, ground := .data } (by simp) rfl _ _ rfl rfl
      have e24 := d24
      rw [Array.getD_eq_getD_getElem?] at e24
      have hs := SegAt.back (HI3.out.belowAll hz) HNil.out HCap.out hMn
      clear hdep hag hz
      go_simp
      exact hK _ _ (Below.refl _ _) hs
    · intro z v hz hag hdep
      refine .inl ⟨rfl, fun K hK => ?_⟩
      have d2 : z.tmps.getD 2 undef = .int .i64 (J : Int) := hag.2.2 2 (by kernel_rfl)
      have e2 := d2
      rw [Array.getD_eq_getD_getElem?] at e2
      clear hdep hag 
      go_simp
      exact hK _ _ (Below.refl _ _) rfl
    · intro z v hz hag hdep
      refine .inl ⟨rfl, fun K hK => ?_⟩
      have d3 : z.tmps.getD 3 undef = .int .i64 s := hag.2.2 3 (by kernel_rfl)
      have e3 := d3
      rw [Array.getD_eq_getD_getElem?] at e3
      clear hdep hag 
      go_simp
      exact hK _ _ (Below.refl _ _) rfl
    · intro z v hz hag hdep
      refine .inl ⟨rfl, fun K hK => ?_⟩
      have d26 : z.tmps.getD 26 undef = .int .i64 (J : Int) := hdep { on := 10, ground := .data } (by simp) rfl _ _ rfl rfl
      have e26 := d26
      rw [Array.getD_eq_getD_getElem?] at e26
      have d27 : z.tmps.getD 27 undef = .int .i64 s := hdep { on := 11, ground := .data } (by simp) rfl _ _ rfl rfl
      have e27 := d27
      rw [Array.getD_eq_getD_getElem?] at e27
      have HBk := Lib.hid (blanks_any J s (by omega) v)
      clear hdep hag hz
      go_simp
      refine HBk.out.mono ?_
      rintro e w' ⟨v', rfl, h1, h2⟩
      exact hK _ _ h2 h1.seg
  case hdone =>
    intro z u hu hag hok hno
    clear hno
    have d19 : SegAt (z.tmps.getD 19 undef) (l.take A) u := hok 3 _ 19 (by decide) rfl rfl
    obtain ⟨v0, hv0⟩ : ∃ v, z.tmps.getD 19 undef = v := ⟨_, rfl⟩
    rw [hv0] at d19
    have d25 : SegAt (z.tmps.getD 25 undef) (l.drop M) u := hok 9 _ 25 (by decide) rfl rfl
    obtain ⟨v1, hv1⟩ : ∃ v, z.tmps.getD 25 undef = v := ⟨_, rfl⟩
    rw [hv1] at d25
    have d28 : SegAt (z.tmps.getD 28 undef) (blanks J s) u := hok 12 _ 28 (by decide) rfl rfl
    obtain ⟨v2, hv2⟩ : ∃ v, z.tmps.getD 28 undef = v := ⟨_, rfl⟩
    rw [hv2] at d28
    obtain ⟨uu, huu, hzz⟩ := Go.Proofs.YtkggmcnocpgnbaaDoor.R.agree_frame [16, 17, 18, 19, 20, 21, 22, 23, 24, 25, 26, 27, 28] rfl hag
    have e19 := (huu 19).trans hv0
    have e25 := (huu 25).trans hv1
    have e28 := (huu 28).trans hv2
    subst hzz
    have HStu := Lib.hid (HSt3.out.more (hu.mono HSt3.out.size))
    have HCat := Lib.hid (concat3 v0 v1 v2 (l.take A) (l.drop M) (blanks J s) u 25 d19 d25 d28 HTot.out)
    obtain ⟨x0, n0', c0', rfl, -, -, -⟩ := d19
    obtain ⟨x1, n1', c1', rfl, -, -, -⟩ := d25
    obtain ⟨x2, n2', c2', rfl, -, -, -⟩ := d28
    obtain ⟨gb, hgb⟩ : ∃ gb, u.heap.size = gb := ⟨_, rfl⟩
    obtain ⟨w7, hw7⟩ : ∃ w7, u.alloc (.cells #[.slice x0 n0' c0', .slice x1 n1' c1', .slice x2 n2' c2'] 25) = w7 := ⟨_, rfl⟩
    rw [hw7, hgb] at HCat
    have HSt7 : Hid (St0 27 27 rb (.slice a n c) wr0 w w7) := Lib.hid (by rw [← hw7]; exact HStu.out.more ((Below.refl _ _).alloc HStu.out.size _))
    have hgb2 : rb + 2 ≤ gb := by rw [← hgb]; exact HStu.out.size
    have HW7 := Lib.hid hw7
    have HGb := Lib.hid hgb
    have HGb2 := Lib.hid hgb2
    clear hu hag hok huu hw7 hgb hgb2 hv0 hv1 hv2 HStu
    simp only [List.foldl_cons, List.foldl_nil]
    rw [e19, e25, e28]
    clear e19 e25 e28
    dsimp only [List.drop]
    simp only [List.setIfInBounds_toArray, List.set_cons_succ, List.set_cons_zero]
    generalize uu 16 = u16', uu 17 = u17', uu 18 = u18', uu 20 = u20', uu 21 = u21', uu 22 = u22', uu 23 = u23', uu 24 = u24', uu 26 = u26', uu 27 = u27'
    clear uu
    go_wp2_with (go_at_call 107; rw [HW7.out, HGb.out]; refine HCat.out.mono ?_; rintro e w8 ⟨v8, rfl, hO8, hb8⟩)
    have HM8 := Lib.hid (mended_any (rb + 2) v8 _ w8 (hO8.weaken (Nat.le_succ_of_le HGb2.out)) (Nat.le_trans HSt7.out.size hb8.size) (by exact HTotL.out))
    rw [HEq.out] at HM8
    have HSt8 := Lib.hid (HSt7.out.more (hb8.mono (Nat.le_succ_of_le HGb2.out)))
    obtain ⟨a8, c8, rfl, -⟩ := hO8.shape
    clear hO8 hb8 HCat
    go_wp2_with (go_at_call 84; refine HM8.out.mono ?_; rintro e w9 ⟨v9, rfl, hO9, hb9⟩)
    have HSt9 := Lib.hid (HSt8.out.more hb9)
    obtain ⟨a9, c9, he9, -⟩ := hO9.shape
    obtain ⟨n9, hn9⟩ : ∃ n9, (deleteS l at_ k s).length = n9 := ⟨_, rfl⟩
    rw [hn9] at he9
    subst he9
    have HO9 := Lib.hid hO9
    have x0 := HSt9.out.q.c0
    have x1 := HSt9.out.q.c1
    have f0 := HSt9.out.q.fr 0
    have f1 := HSt9.out.q.fr 1
    clear hO9 hb9 hn9 HM8
    have hst : (store ⟨rb + 1, 0, none⟩ (.slice a9 n9 c9)).run Tryd.prog w9 = .ok () (w9.setCell ⟨rb + 1, 0, none⟩ (.slice a9 n9 c9)) := by
      rw [run_store Tryd.prog w9 _ _ _ rfl, x0, f0]
      rfl
    go_simp
    rename_i KK aa
    apply aa
    go_wp2_with fail
    refine bodyPost_ret (v := .agg #[.slice a9 n9 c9, .bool false]) (by rw [results_cell (fn := Tryd.f99) rfl]; go_simp <;> rfl) rfl ?_
    rw [← HP.out]
    exact ⟨_, rfl, (HO9.out.set2 (Nat.lt_succ_self (rb + 1)) _ _).weaken (by omega), below_set2 HSt9.out.below (by omega)⟩

end Go.Proofs.YtkggmcnocpgnbaaDoor.K
