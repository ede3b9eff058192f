/- The contract of the program's Fill. -/
import Derived.Test.YtkggmcnocpgnbaaDoorMerged4
import Derived.Test.YtkggmcnocpgnbaaDoorMerged6
namespace Go.Proofs.YtkggmcnocpgnbaaDoor.K
open Go.RowKit

def fil (s : Int) : Cel := ⟨32, s, 3⟩
theorem fill_set (l : List Cel) (s : Int) (h : 0 < l.length) : mend (l.set (l.length - 1) (fil s)) = fillS l s := by
  unfold fillS
  rw [if_neg (by intro e; rw [e] at h; simp at h), put_one (by omega), show l.length - 1 + 1 = l.length by omega, List.drop_length, List.append_nil]
  rfl
theorem fill_nil (s : Int) : mend [] = fillS [] s := rfl

set_option maxRecDepth 100000 in
set_option maxHeartbeats 8000000 in
theorem rowFill_any (a : Option Addr) (n c : Nat) (wr0 : Bool) (l : List Cel) (s : Int) (w : World) (hI : CelsIn .i32 a n l w) (hnil : a = none → c = 0) (hn : (n : Int) ≤ 1000000) :
    Calls Tryd.prog 101 #[.agg #[.slice a n c, .bool wr0], .int .i64 s] w (RowPost .i32 105 w.heap.size (fillS l s) true w) := by
  obtain ⟨rb, hrb⟩ : ∃ rb, w.heap.size = rb := ⟨_, rfl⟩
  rw [hrb]
  obtain ⟨P, hP⟩ : ∃ P, RowPost .i32 105 rb (fillS l s) true w = P := ⟨_, rfl⟩
  rw [hP]
  have HP := Lib.hid hP
  have hln := hI.len
  have hst := St0.start 27 27 w (.slice a n c) wr0
  obtain ⟨w2, hw2⟩ : ∃ w2, (w.alloc (.cells #[.slice a n c, .bool wr0] 27)).alloc (.cells #[.slice none 0 0, .bool false] 27) = w2 := ⟨_, rfl⟩
  rw [hw2, hrb] at hst
  have c0 := hst.r.c0
  have hsz2 : rb + 2 ≤ w2.heap.size := hst.size
  have hrb2 : rb < w2.heap.size := by omega
  have HSt := Lib.hid hst
  have hI2 : CelsIn .i32 a n l w2 := hI.belowAll (by rw [hrb]; exact hst.below)
  have HCl := Lib.hid (clone_any a n c l w2 hI2 hnil hn)
  have HW2 := Lib.hid hw2
  have HRb := Lib.hid hrb
  have HLn := Lib.hid hln
  clear hP hst hI hI2 hnil hw2 hrb hln
  go_enter Tryd.func101, Tryd.ntmps101
  go_upto_region 1 with fail
  rw [HW2.out, HRb.out]
  go_upto_region 2 with (go_at_call 82; refine HCl.out.mono ?_; rintro e w3 ⟨v3, rfl, hO3, hb3⟩)
  obtain ⟨a3, c3, rfl, hin3, hblk3, -, -, hmx3⟩ := hO3.shape
  have HSt3 := Lib.hid (HSt.out.more (hb3.mono hsz2))
  rw [← HLn.out] at hin3 ⊢
  have HO3 : Hid (OwnC .i32 105 (rb + 2) (.slice a3 n c3) l w3) := Lib.hid (by
    have h := hO3.weaken hsz2
    rw [← HLn.out] at h
    exact h)
  have HBk : Hid (∀ b off, a3 = some ⟨b, off, none⟩ → rb + 2 ≤ b ∧ off = 0) := Lib.hid (fun b off e => by have := hblk3 b off e; exact ⟨Nat.le_trans hsz2 this.1, this.2.2⟩)
  have HIn3 := Lib.hid hin3
  clear hO3 hb3 hin3 hblk3 HCl c0
  have hway : (n = 0 ∧ decide (0 < n) = false) ∨ (0 < n ∧ decide (0 < n) = true) := by
    rcases Nat.eq_zero_or_pos n with h | h
    · left; exact ⟨h, by simp [h]⟩
    · right; exact ⟨h, by simp [h]⟩
  rcases hway with ⟨h0, hd⟩ | ⟨h0, hd⟩
  case' inl =>
    obtain ⟨m, hm⟩ : ∃ m, m = l := ⟨_, rfl⟩
    have HE : Hid (mend m = fillS l s ∧ m.length = n) := Lib.hid (by
      rw [hm]
      have : l = [] := List.eq_nil_of_length_eq_zero (by rw [← HLn.out]; exact h0)
      exact ⟨by rw [this]; exact fill_nil s, HLn.out.symm⟩)
    have HO4 : Hid (OwnC .i32 105 (rb + 2) (.slice a3 n c3) m w3) := Lib.hid (by rw [hm]; exact HO3.out)
    clear hm h0
    obtain ⟨w4, HSt4⟩ : ∃ w4, Hid (St0 27 27 rb (.slice a n c) wr0 w w4 ∧ w4 = w3) := ⟨w3, Lib.hid ⟨HSt3.out, rfl⟩⟩
    rw [← HSt4.out.2]
    rw [← HSt4.out.2] at HO4
    go_upto_region 5 with fail
  case' inr =>
    obtain ⟨m, hm⟩ : ∃ m, m = l.set (n - 1) (fil s) := ⟨_, rfl⟩
    have HE : Hid (mend m = fillS l s ∧ m.length = n) := Lib.hid (by
      rw [hm]
      exact ⟨by rw [HLn.out]; exact fill_set l s (by rw [← HLn.out]; exact h0), by rw [List.length_set]; exact HLn.out.symm⟩)
    have hln : 0 < l.length := by rw [← HLn.out]; exact h0
    obtain ⟨b3, o3, rfl, hb3, -⟩ := HIn3.out.at_.resolve_left (by intro e; rw [e] at hln; simp at hln)
    obtain ⟨hbb, rfl⟩ := HBk.out b3 o3 rfl
    obtain ⟨q, hq⟩ : ∃ q : Nat, n - 1 = q := ⟨_, rfl⟩
    have hq1 : (n : Int) - 1 = (q : Int) := by omega
    have hqn : (q : Int) < n := by omega
    have hqn' : q < n := by omega
    rw [hq] at hm
    have HM := Lib.hid hm
    clear hm hln hb3 hq h0
    go_upto_region 5 with (refine wpList_store_cel rowT rfl rfl _ _ rfl (rb + 2) b3 n c3 l q (fil s) rfl rfl HO3.out hqn' HLn.out.symm ?_; intro w4 h4 hg4)
    have HO4 : Hid (OwnC .i32 105 (rb + 2) (.slice (some ⟨b3, 0, none⟩) n c3) m w4) := Lib.hid (by rw [HM.out]; exact h4)
    have HSt4 : Hid (St0 27 27 rb (.slice a n c) wr0 w w4 ∧ w4 = w4) := Lib.hid ⟨HSt3.out.more (below_grown (Below.refl _ _) hg4 hbb HSt3.out.size), rfl⟩
    clear h4 hg4
  all_goals
    have HMm := Lib.hid (mended_any (rb + 2) _ m w4 HO4.out HSt4.out.1.size (by rw [HE.out.2]; exact hn))
    rw [HE.out.1] at HMm
    go_upto_region 6 with (go_at_call 84; refine HMm.out.mono ?_; rintro e w5 ⟨v5, rfl, hO5, hb5⟩; obtain ⟨a5, c5, he5, -⟩ := hO5.shape; obtain ⟨n5, hn5⟩ : ∃ n5, (fillS l s).length = n5 := ⟨_, rfl⟩; rw [hn5] at he5; subst he5)
    go_upto_region 7 with fail
    obtain ⟨w6, hw6⟩ : ∃ w6, w5.alloc (.cells #[.slice a5 n5 c5, .bool true] 27) = w6 := ⟨_, rfl⟩
    obtain ⟨g, hg⟩ : ∃ g, w5.heap.size = g := ⟨_, rfl⟩
    have hR : RoB 27 g (.slice a5 n5 c5) true w6 := by rw [← hw6, ← hg]; exact RoB.new _ _ _ _
    have hbb6 : Below (rb + 2) w4 w6 := by rw [← hw6]; exact hb5.alloc (Nat.le_trans HSt4.out.1.size hb5.size) _
    have HO6 : Hid (OwnC .i32 105 (rb + 2) (.slice a5 n5 c5) (fillS l s) w6) := Lib.hid (by rw [← hw6]; exact hO5.alloc _)
    have HSt6 := Lib.hid (HSt4.out.1.more hbb6)
    rw [hw6, hg]
    have c0 := hR.c0
    have c1 := hR.c1
    have x0 := HSt6.out.q.c0
    have x1 := HSt6.out.q.c1
    have f0 := HSt6.out.q.fr 0
    have f1 := HSt6.out.q.fr 1
    clear hw6 hg hR hbb6 hO5 hb5 hn5 HMm
    go_wp2_with fail
    refine bodyPost_ret (v := .agg #[.slice a5 n5 c5, .bool true]) (by rw [results_cell (fn := Tryd.f101) rfl]; go_simp <;> rfl) rfl ?_
    rw [← HP.out]
    exact ⟨_, rfl, (HO6.out.set2 (Nat.lt_succ_self (rb + 1)) _ _).weaken (by omega), below_set2 HSt6.out.below (by omega)⟩
end Go.Proofs.YtkggmcnocpgnbaaDoor.K

/- The contract of the program's Resize. -/
namespace Go.Proofs.YtkggmcnocpgnbaaDoor.K
open Go.RowKit

def OkSame (rb b0 : Nat) (a : Option Addr) (n c : Nat) (wr0 : Bool) (l : List Cel) : Nat → Value → World → Prop
  | 0, u, _ => u = .pointer (some ⟨rb, 0, none⟩)
  | 1, u, _ => u = .slice a n c
  | 2, u, w => OwnC .i32 105 b0 u l w
  | 3, u, _ => u = .pointer (some ⟨rb, 1, none⟩)
  | 4, u, _ => u = .bool wr0
  | _, _, _ => True
def OkSize (rb : Nat) (a : Option Addr) (n c W m q : Nat) (D : Int) (l : List Cel) : Nat → Value → World → Prop
  | 0, u, _ => u = .pointer (some ⟨rb, 0, none⟩)
  | 1, u, _ => u = .slice a n c
  | 2, u, _ => u = .int .i64 (W : Int)
  | 3, u, _ => u = .int .i64 (n : Int)
  | 4, u, _ => u = .int .i64 (m : Int)
  | 5, u, w => SegAt u (l.take m) w
  | 6, u, _ => u = .int .i64 (W : Int)
  | 7, u, _ => u = .int .i64 (n : Int)
  | 8, u, _ => u = .int .i64 D
  | 9, u, _ => u = .int .i64 (q : Int)
  | 10, u, w => SegAt u (blanks q 0) w
  | _, _, _ => True
set_option maxRecDepth 100000 in
set_option maxHeartbeats 8000000 in
theorem rowResize_any (a : Option Addr) (n c : Nat) (wr0 : Bool) (l : List Cel) (at_ : Int) (w : World) (hI : CelsIn .i32 a n l w) (hnil : a = none → c = 0) (hcap : n ≤ c) (hmx : (c : Int) ≤ 9223372036854775807) (hn : (n : Int) ≤ 100000) :
    Calls Tryd.prog 79 #[.agg #[.slice a n c, .bool wr0], .int .i64 at_] w (RowPost .i32 105 w.heap.size (resizeS ⟨l, wr0⟩ at_).l (resizeS ⟨l, wr0⟩ at_).wrapped w) := by
  obtain ⟨rb, hrb⟩ : ∃ rb, w.heap.size = rb := ⟨_, rfl⟩
  rw [hrb]
  obtain ⟨P, hP⟩ : ∃ P, RowPost .i32 105 rb (resizeS ⟨l, wr0⟩ at_).l (resizeS ⟨l, wr0⟩ at_).wrapped w = P := ⟨_, rfl⟩
  rw [hP]
  have HP := Lib.hid hP
  have hln := hI.len
  obtain ⟨W, hW⟩ : ∃ W, nearN at_ = W := ⟨_, rfl⟩
  have hW1 : W ≤ 1000 := by rw [← hW]; exact nearN_le at_
  have HNe := Lib.hid (fun (v : World) => nearest_any at_ 1000 v)
  rw [nearS_N, hW] at HNe
  have hst := St0.start 27 27 w (.slice a n c) wr0
  obtain ⟨w3, hw2⟩ : ∃ w3, (w.alloc (.cells #[.slice a n c, .bool wr0] 27)).alloc (.cells #[.slice none 0 0, .bool false] 27) = w3 := ⟨_, rfl⟩
  rw [hw2, hrb] at hst
  have c0 := hst.r.c0
  have HSt3 := Lib.hid hst
  have HI3 : Hid (CelsIn .i32 a n l w3) := Lib.hid (hI.belowAll (by rw [hrb]; exact hst.below))
  have HC0 := Lib.hid HSt3.out.r.c0
  have HC1 := Lib.hid HSt3.out.r.c1
  have HRl : Hid (rb < w3.heap.size) := Lib.hid (by have := HSt3.out.size; omega)
  have HW2 := Lib.hid hw2
  have HRb := Lib.hid hrb
  have HLn := Lib.hid hln
  have HNil := Lib.hid hnil
  have HCap := Lib.hid hcap
  have HW := Lib.hid hW
  clear hP hst hI hnil hw2 hrb hln hcap hW
  go_enter Tryd.func79, Tryd.ntmps79
  go_upto_region 1 with fail
  rw [HW2.out, HRb.out]
  go_upto_region 3 with (go_at_call 49; refine (HNe.out _).mono ?_; rintro e w' ⟨rfl, rfl⟩)
  by_cases hWn : W = n
  · have hWn' := hWn.symm
    subst hWn'
    have hE : resizeS ⟨l, wr0⟩ at_ = ⟨l, wr0⟩ := by unfold resizeS; rw [if_pos (by rw [HW.out]; exact HLn.out)]
    rw [hE] at HP
    clear hE c0 hW1
    have q1 : ((n : Int) == (n : Int)) = true := by simp
    go_upto_region 4 with fail
    refine Go.Proofs.YtkggmcnocpgnbaaDoor.R.wp_region_tailV 5 (by kernel_rfl) (fun u => Below w3.heap.size w3 u) (fun u v => Below u.heap.size u v) (OkSame rb (rb + 2) a n c wr0 l) (by rfl) (by kernel_rfl) (by decide) (by kernel_rfl) (by kernel_rfl) (by kernel_rfl) ?hC ?hOk ?hop ?hdone ((Below.refl _ _).drew)
    case hC => exact fun u v hu huv => hu.trans (huv.mono hu.size)
    case hOk =>
      intro i x u u' hv huu
      unfold OkSame at hv ⊢
      split at hv
      all_goals first | exact hv | exact OwnC.belowAll hv huu | trivial
    case hop =>
      refine ⟨?_, ?_, ?_, ?_, ?_, trivial⟩
      · intro z v hz hag hdep
        refine .inl ⟨rfl, fun K hK => ?_⟩
        have d2 : z.tmps.getD 2 undef = .pointer (some ⟨rb, 0, none⟩) := hag.2.2 2 (by kernel_rfl)
        have e2 := d2
        rw [Array.getD_eq_getD_getElem?] at e2
        clear hdep hag 
        go_simp
        exact hK _ _ (Below.refl _ _) rfl
      · intro z v hz hag hdep
        refine .inl ⟨rfl, fun K hK => ?_⟩
        have d14 : z.tmps.getD 14 undef = .pointer (some ⟨rb, 0, none⟩) := hdep { on := 0, ground := .data } (by simp) rfl _ _ rfl rfl
        have e14 := d14
        rw [Array.getD_eq_getD_getElem?] at e14
        have l0 := (hz.cell (p := ⟨rb, 0, none⟩) HRl.out).trans HC0.out
        clear hdep hag 
        go_simp
        exact hK _ _ (Below.refl _ _) rfl
      · intro z v hz hag hdep
        refine .inl ⟨rfl, fun K hK => ?_⟩
        have d15 : z.tmps.getD 15 undef = .slice a n c := hdep { on := 1, ground := .data } (by simp) rfl _ _ rfl rfl
        have e15 := d15
        rw [Array.getD_eq_getD_getElem?] at e15
        have HCl := Lib.hid (clone_any a n c l v (HI3.out.belowAll hz) HNil.out (by omega))
        have HZs := Lib.hid hz.size
        clear hdep hag hz
        go_simp
        refine HCl.out.mono ?_
        rintro e w' ⟨v', rfl, h1, h2⟩
        exact hK _ _ h2 (h1.weaken (Nat.le_trans HSt3.out.size HZs.out))
      · intro z v hz hag hdep
        refine .inl ⟨rfl, fun K hK => ?_⟩
        have d2 : z.tmps.getD 2 undef = .pointer (some ⟨rb, 0, none⟩) := hag.2.2 2 (by kernel_rfl)
        have e2 := d2
        rw [Array.getD_eq_getD_getElem?] at e2
        clear hdep hag 
        go_simp
        exact hK _ _ (Below.refl _ _) rfl
      · intro z v hz hag hdep
        refine .inl ⟨rfl, fun K hK => ?_⟩
        have d17 : z.tmps.getD 17 undef = .pointer (some ⟨rb, 1, none⟩) := hdep { on := 3, ground := .data } (by simp) rfl _ _ rfl rfl
        have e17 := d17
        rw [Array.getD_eq_getD_getElem?] at e17
        have l1 := (hz.cell (p := ⟨rb, 1, none⟩) HRl.out).trans HC1.out
        clear hdep hag 
        go_simp
        exact hK _ _ (Below.refl _ _) rfl
    case hdone =>
      intro z u hu hag hok hno
      clear hno
      have d16 : OwnC .i32 105 (rb + 2) (z.tmps.getD 16 undef) l u := hok 2 _ 16 (by decide) rfl rfl
      have d18 : z.tmps.getD 18 undef = .bool wr0 := hok 4 _ 18 (by decide) rfl rfl
      obtain ⟨v5, hv5⟩ : ∃ v, z.tmps.getD 16 undef = v := ⟨_, rfl⟩
      rw [hv5] at d16
      obtain ⟨uu, huu, hzz⟩ := Go.Proofs.YtkggmcnocpgnbaaDoor.R.agree_frame [14, 15, 16, 17, 18] rfl hag
      have e16 := (huu 16).trans hv5
      have e18 := (huu 18).trans d18
      subst hzz
      have HStu := Lib.hid (HSt3.out.more (hu.mono HSt3.out.size))
      obtain ⟨a9, c9, he9, -⟩ := d16.shape
      obtain ⟨n9, hn9⟩ : ∃ n9, l.length = n9 := ⟨_, rfl⟩
      rw [hn9] at he9
      subst he9
      have HO9 := Lib.hid d16
      have x0 := HStu.out.q.c0
      have x1 := HStu.out.q.c1
      have f0 := HStu.out.q.fr 0
      have f1 := HStu.out.q.fr 1
      clear hu hag hok huu d18 hv5 d16 hn9
      simp only [List.foldl_cons, List.foldl_nil]
      rw [e16, e18]
      clear e16 e18
      dsimp only [List.drop]
      simp only [List.setIfInBounds_toArray, List.set_cons_succ, List.set_cons_zero]
      generalize uu 14 = u14', uu 15 = u15', uu 17 = u17'
      clear uu
      have hst : (store ⟨rb + 1, 0, none⟩ (.slice a9 n9 c9)).run Tryd.prog u = .ok () (u.setCell ⟨rb + 1, 0, none⟩ (.slice a9 n9 c9)) := by
        rw [run_store Tryd.prog u _ _ _ rfl, x0, f0]
        rfl
      go_wp2_with fail
      refine bodyPost_ret (v := .agg #[.slice a9 n9 c9, .bool wr0]) (by rw [results_cell (fn := Tryd.f79) rfl]; go_simp <;> rfl) rfl ?_
      rw [← HP.out]
      exact ⟨_, rfl, (HO9.out.set2 (Nat.lt_succ_self (rb + 1)) _ _).weaken (by omega), below_set2 HStu.out.below (by omega)⟩
  · obtain ⟨m, hm⟩ : ∃ m, min W n = m := ⟨_, rfl⟩
    obtain ⟨q, hq⟩ : ∃ q, W - m = q := ⟨_, rfl⟩
    obtain ⟨M5, hM5⟩ : ∃ M5, mend (l.take m ++ blanks q 0) = M5 := ⟨_, rfl⟩
    have hE : resizeS ⟨l, wr0⟩ at_ = ⟨M5, false⟩ := by
      unfold resizeS
      rw [if_neg (by rw [HW.out]; show ¬ W = l.length; rw [← HLn.out]; exact hWn)]
      show (⟨mend (l.take (min (nearN at_) l.length) ++ blanks (nearN at_ - min (nearN at_) l.length) 0), false⟩ : Ro) = _
      rw [HW.out, ← HLn.out, hm, hq, hM5]
    rw [hE] at HP
    obtain ⟨D, hD⟩ : ∃ D, (W : Int) - (n : Int) = D := ⟨_, rfl⟩
    have hmn : m ≤ n := by omega
    have hmc : (m : Int) ≤ c := by have := HCap.out; omega
    have hmi : min (W : Int) (n : Int) = (m : Int) := by omega
    have hqi : max D 0 = (q : Int) := by omega
    have hD1 : -100000 ≤ D := by omega
    have hD2 : D ≤ 1000 := by omega
    have hqn : (q : Int) ≤ 1000 := by omega
    have HTot : Hid ((((l.take m).length + (blanks q 0).length : Nat) : Int) ≤ 1000000) := Lib.hid (by
      rw [blanks_length, List.length_take]; omega)
    have HTotL : Hid (((l.take m ++ blanks q 0).length : Int) ≤ 1000000) := Lib.hid (by rw [List.length_append]; exact HTot.out)
    have HEq := Lib.hid hM5
    have q1 : ((W : Int) == (n : Int)) = false := by rw [beq_eq_false_iff_ne]; omega
    clear hE hm hq hM5 hWn c0
    go_upto_region 5 with fail
    refine Go.Proofs.YtkggmcnocpgnbaaDoor.R.wp_region_tailV 11 (by kernel_rfl) (fun u => Below w3.heap.size w3 u) (fun u v => Below u.heap.size u v) (OkSize rb a n c W m q D l) (by rfl) (by kernel_rfl) (by decide) (by kernel_rfl) (by kernel_rfl) (by kernel_rfl) ?hC ?hOk ?hop ?hdone ((Below.refl _ _).drew)
    case hC => exact fun u v hu huv => hu.trans (huv.mono hu.size)
    case hOk =>
      intro i x u u' hv huu
      unfold OkSize at hv ⊢
      split at hv
      all_goals first | exact hv | exact SegAt.belowAll hv huu | trivial
    case hop =>
      refine ⟨?_, ?_, ?_, ?_, ?_, ?_, ?_, ?_, ?_, ?_, ?_, trivial⟩
      · intro z v hz hag hdep
        refine .inl ⟨rfl, fun K hK => ?_⟩
        have d2 : z.tmps.getD 2 undef = .pointer (some ⟨rb, 0, none⟩) := hag.2.2 2 (by kernel_rfl)
        have e2 := d2
        rw [Array.getD_eq_getD_getElem?] at e2
        clear hdep hag 
        go_simp
        exact hK _ _ (Below.refl _ _) rfl
      · intro z v hz hag hdep
        refine .inl ⟨rfl, fun K hK => ?_⟩
        have d20 : z.tmps.getD 20 undef = .pointer (some ⟨rb, 0, none⟩) := hdep { on := 0, ground := .data } (by simp) rfl _ _ rfl rfl
        have e20 := d20
        rw [Array.getD_eq_getD_getElem?] at e20
        have l0 := (hz.cell (p := ⟨rb, 0, none⟩) HRl.out).trans HC0.out
        clear hdep hag 
        go_simp
        exact hK _ _ (Below.refl _ _) rfl
      · intro z v hz hag hdep
        refine .inl ⟨rfl, fun K hK => ?_⟩
        have d1 : z.tmps.getD 1 undef = .int .i64 (W : Int) := hag.2.2 1 (by kernel_rfl)
        have e1 := d1
        rw [Array.getD_eq_getD_getElem?] at e1
        clear hdep hag 
        go_simp
        exact hK _ _ (Below.refl _ _) rfl
      · intro z v hz hag hdep
        refine .inl ⟨rfl, fun K hK => ?_⟩
        have d5 : z.tmps.getD 5 undef = .int .i64 (n : Int) := hag.2.2 5 (by kernel_rfl)
        have e5 := d5
        rw [Array.getD_eq_getD_getElem?] at e5
        clear hdep hag 
        go_simp
        exact hK _ _ (Below.refl _ _) rfl
      · intro z v hz hag hdep
        refine .inl ⟨rfl, fun K hK => ?_⟩
        have d22 : z.tmps.getD 22 undef = .int .i64 (W : Int) := hdep { on := 2, ground := .data } (by simp) rfl _ _ rfl rfl
        have e22 := d22
        rw [Array.getD_eq_getD_getElem?] at e22
        have d23 : z.tmps.getD 23 undef = .int .i64 (n : Int) := hdep { on := 3, ground := .data } (by simp) rfl _ _ rfl rfl
        have e23 := d23
        rw [Array.getD_eq_getD_getElem?] at e23
        clear hdep hag 
        go_simp
        exact hK _ _ (Below.refl _ _) rfl
      · intro z v hz hag hdep
        refine .inl ⟨rfl, fun K hK => ?_⟩
        have d21 : z.tmps.getD 21 undef = .slice a n c := hdep { on := 1, ground := .data } (by simp) rfl _ _ rfl rfl
        have e21 := d21
        rw [Array.getD_eq_getD_getElem?] at e21
        have d24 : z.tmps.getD 24 undef = .int .i64 (m : Int) := hdep { on := 4, ground := .data } (by simp) rfl _ _ rfl rfl
        have e24 := d24
        rw [Array.getD_eq_getD_getElem?] at e24
        have hs := SegAt.front (HI3.out.belowAll hz) HNil.out HCap.out hmn
        clear hdep hag hz
        go_simp
        exact hK _ _ (Below.refl _ _) hs
      · intro z v hz hag hdep
        refine .inl ⟨rfl, fun K hK => ?_⟩
        have d1 : z.tmps.getD 1 undef = .int .i64 (W : Int) := hag.2.2 1 (by kernel_rfl)
        have e1 := d1
        rw [Array.getD_eq_getD_getElem?] at e1
        clear hdep hag 
        go_simp
        exact hK _ _ (Below.refl _ _) rfl
      · intro z v hz hag hdep
        refine .inl ⟨rfl, fun K hK => ?_⟩
        have d5 : z.tmps.getD 5 undef = .int .i64 (n : Int) := hag.2.2 5 (by kernel_rfl)
        have e5 := d5
        rw [Array.getD_eq_getD_getElem?] at e5
        clear hdep hag 
        go_simp
        exact hK _ _ (Below.refl _ _) rfl
      · intro z v hz hag hdep
        refine .inl ⟨rfl, fun K hK => ?_⟩
        have d26 : z.tmps.getD 26 undef = .int .i64 (W : Int) := hdep { on := 6, ground := .data } (by simp) rfl _ _ rfl rfl
        have e26 := d26
        rw [Array.getD_eq_getD_getElem?] at e26
        have d27 : z.tmps.getD 27 undef = .int .i64 (n : Int) := hdep { on := 7, ground := .data } (by simp) rfl _ _ rfl rfl
        have e27 := d27
        rw [Array.getD_eq_getD_getElem?] at e27
        have hwr : IntKind.i64.wrap D = D := by rw [IntKind.wrap_i64]; omega
        clear hdep hag 
        go_simp
        exact hK _ _ (Below.refl _ _) rfl
      · intro z v hz hag hdep
        refine .inl ⟨rfl, fun K hK => ?_⟩
        have d28 : z.tmps.getD 28 undef = .int .i64 D := hdep { on := 8, ground := .data } (by simp) rfl _ _ rfl rfl
        have e28 := d28
        rw [Array.getD_eq_getD_getElem?] at e28
        clear hdep hag 
        go_simp
        exact hK _ _ (Below.refl _ _) rfl
      · intro z v hz hag hdep
        refine .inl ⟨rfl, fun K hK => ?_⟩
        have d29 : z.tmps.getD 29 undef = .int .i64 (q : Int) := hdep { on := 9, ground := .data } (by simp) rfl _ _ rfl rfl
        have e29 := d29
        rw [Array.getD_eq_getD_getElem?] at e29
        have HBk := Lib.hid (blanks_any q 0 (by omega) v)
        clear hdep hag hz
        go_simp
        refine HBk.out.mono ?_
        rintro e w' ⟨v', rfl, h1, h2⟩
        exact hK _ _ h2 h1.seg
    case hdone =>
      intro z u hu hag hok hno
      clear hno
      have d25 : SegAt (z.tmps.getD 25 undef) (l.take m) u := hok 5 _ 25 (by decide) rfl rfl
      obtain ⟨v0, hv0⟩ : ∃ v, z.tmps.getD 25 undef = v := ⟨_, rfl⟩
      rw [hv0] at d25
      have d30 : SegAt (z.tmps.getD 30 undef) (blanks q 0) u := hok 10 _ 30 (by decide) rfl rfl
      obtain ⟨v1, hv1⟩ : ∃ v, z.tmps.getD 30 undef = v := ⟨_, rfl⟩
      rw [hv1] at d30
      obtain ⟨uu, huu, hzz⟩ := Go.Proofs.YtkggmcnocpgnbaaDoor.R.agree_frame [20, 21, 22, 23, 24, 25, 26, 27, 28, 29, 30] rfl hag
      have e25 := (huu 25).trans hv0
      have e30 := (huu 30).trans hv1
      subst hzz
      have HStu := Lib.hid (HSt3.out.more (hu.mono HSt3.out.size))
      have HCat := Lib.hid (concat2 v0 v1 (l.take m) (blanks q 0) u 25 d25 d30 HTot.out)
      obtain ⟨x0, n0', c0', rfl, -, -, -⟩ := d25
      obtain ⟨x1, n1', c1', rfl, -, -, -⟩ := d30
      obtain ⟨gb, hgb⟩ : ∃ gb, u.heap.size = gb := ⟨_, rfl⟩
      obtain ⟨w7, hw7⟩ : ∃ w7, u.alloc (.cells #[.slice x0 n0' c0', .slice x1 n1' c1'] 25) = w7 := ⟨_, rfl⟩
      rw [hw7, hgb] at HCat
      have HSt7 : Hid (St0 27 27 rb (.slice a n c) wr0 w w7) := Lib.hid (by rw [← hw7]; exact HStu.out.more ((Below.refl _ _).alloc HStu.out.size _))
      have hgb2 : rb + 2 ≤ gb := by rw [← hgb]; exact HStu.out.size
      have HW7 := Lib.hid hw7
      have HGb := Lib.hid hgb
      have HGb2 := Lib.hid hgb2
      clear hu hag hok huu hw7 hgb hgb2 hv0 hv1 HStu
      simp only [List.foldl_cons, List.foldl_nil]
      rw [e25, e30]
      clear e25 e30
      dsimp only [List.drop]
      simp only [List.setIfInBounds_toArray, List.set_cons_succ, List.set_cons_zero]
      generalize uu 20 = u20', uu 21 = u21', uu 22 = u22', uu 23 = u23', uu 24 = u24', uu 26 = u26', uu 27 = u27', uu 28 = u28', uu 29 = u29'
      clear uu
      go_wp2_with (go_at_call 107; rw [HW7.out, HGb.out]; refine HCat.out.mono ?_; rintro e w8 ⟨v8, rfl, hO8, hb8⟩)
      have HM8 := Lib.hid (mended_any (rb + 2) v8 _ w8 (hO8.weaken (Nat.le_succ_of_le HGb2.out)) (Nat.le_trans HSt7.out.size hb8.size) (by exact HTotL.out))
      rw [HEq.out] at HM8
      have HSt8 := Lib.hid (HSt7.out.more (hb8.mono (Nat.le_succ_of_le HGb2.out)))
      obtain ⟨a8, c8, rfl, -⟩ := hO8.shape
      clear hO8 hb8 HCat
      go_wp2_with (go_at_call 84; refine HM8.out.mono ?_; rintro e w9 ⟨v9, rfl, hO9, hb9⟩)
      have HSt9 := Lib.hid (HSt8.out.more hb9)
      obtain ⟨a9, c9, he9, -⟩ := hO9.shape
      obtain ⟨n9, hn9⟩ : ∃ n9, (M5).length = n9 := ⟨_, rfl⟩
      rw [hn9] at he9
      subst he9
      have HO9 := Lib.hid hO9
      have x0 := HSt9.out.q.c0
      have x1 := HSt9.out.q.c1
      have f0 := HSt9.out.q.fr 0
      have f1 := HSt9.out.q.fr 1
      clear hO9 hb9 hn9 HM8
      have hst : (store ⟨rb + 1, 0, none⟩ (.slice a9 n9 c9)).run Tryd.prog w9 = .ok () (w9.setCell ⟨rb + 1, 0, none⟩ (.slice a9 n9 c9)) := by
        rw [run_store Tryd.prog w9 _ _ _ rfl, x0, f0]
        rfl
      go_simp
      rename_i KK aa
      apply aa
      go_wp2_with fail
      refine bodyPost_ret (v := .agg #[.slice a9 n9 c9, .bool false]) (by rw [results_cell (fn := Tryd.f79) rfl]; go_simp <;> rfl) rfl ?_
      rw [← HP.out]
      exact ⟨_, rfl, (HO9.out.set2 (Nat.lt_succ_self (rb + 1)) _ _).weaken (by omega), below_set2 HSt9.out.below (by omega)⟩

end Go.Proofs.YtkggmcnocpgnbaaDoor.K
