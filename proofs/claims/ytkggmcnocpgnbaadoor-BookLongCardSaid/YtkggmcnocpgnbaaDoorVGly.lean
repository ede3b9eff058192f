/- The contracts of the program's shown and Glyphs. -/
import Derived.Test.YtkggmcnocpgnbaaDoorMerged6
import Derived.Test.YtkggmcnocpgnbaaDoorMerged1
import Derived.Test.YtkggmcnocpgnbaaDoorMerged9
namespace Go.Proofs.YtkggmcnocpgnbaaDoor.R
theorem unwanted_of {ops : Array Oper} {a : Act} {o oj : Oper} {j d : Nat} {b c : Bool} (ho : o.guard = some (j, b)) (hj : ops[j]? = some oj) (hd : oj.dst = some d) (hv : a.tmps.getD d undef = .bool c) (hne : c ≠ b) (hs : d < a.tmps.size) : Region.wanted o (yielded ops a.tmps) = false := by
  have h1 : a.tmps[d]? = some (.bool c) := by
    rw [Array.getD_eq_getD_getElem?, Array.getElem?_eq_getElem hs] at hv
    rw [Array.getElem?_eq_getElem hs]
    simpa using hv
  simp [Region.wanted, ho, yielded, hj, hd, h1, hne]
end Go.Proofs.YtkggmcnocpgnbaaDoor.R
namespace Go.Proofs.YtkggmcnocpgnbaaDoor.K
open Go.RowKit

def Sh1 (rb : Nat) : Nat → Value → World → Prop
  | 0, u, _ => u = .pointer (some ⟨rb, 1, none⟩)
  | 1, u, _ => u = .bool true
  | 2, u, _ => u = .bool false
  | 3, u, _ => u = .bool false
  | 4, _, _ => True
  | 5, _, _ => True
  | 6, u, _ => u = .bool false
  | 7, u, _ => u = .bool false
  | 8, _, _ => True
  | 9, _, _ => True
  | 10, _, _ => True
  | 11, _, _ => True
  | 12, _, _ => True
  | 13, _, _ => True
  | 14, _, _ => True
  | 15, _, _ => True
  | 16, u, _ => u = .bool false
  | _, _, _ => True
def Sh2 (rb : Nat) : Nat → Value → World → Prop
  | 0, u, _ => u = .pointer (some ⟨rb, 1, none⟩)
  | 1, u, _ => u = .bool false
  | 2, u, _ => u = .bool true
  | 3, u, _ => u = .bool true
  | 4, u, _ => u = .int .i64 (0 : Int)
  | 5, u, _ => u = .bool false
  | 6, u, _ => u = .bool false
  | 7, u, _ => u = .bool false
  | 8, _, _ => True
  | 9, _, _ => True
  | 10, _, _ => True
  | 11, _, _ => True
  | 12, _, _ => True
  | 13, _, _ => True
  | 14, _, _ => True
  | 15, _, _ => True
  | 16, u, _ => u = .bool false
  | _, _, _ => True
def Sh3 (rb b off n c k : Nat) (x s t : Int) (dd : Bool) : Nat → Value → World → Prop
  | 0, u, _ => u = .pointer (some ⟨rb, 1, none⟩)
  | 1, u, _ => u = .bool false
  | 2, u, _ => u = .bool true
  | 3, u, _ => u = .bool true
  | 4, u, _ => u = .int .i64 ((k + 1 : Nat) : Int)
  | 5, u, _ => u = .bool true
  | 6, u, _ => u = .bool true
  | 7, u, _ => u = .bool true
  | 8, u, _ => u = .pointer (some ⟨rb, 0, none⟩)
  | 9, u, _ => u = .slice (some ⟨b, off, none⟩) n c
  | 10, u, _ => u = .int .i64 ((k + 1 : Nat) : Int)
  | 11, u, _ => u = .int .i64 (k : Int)
  | 12, u, _ => u = .pointer (some ⟨b, off + k * 3, none⟩)
  | 13, u, _ => u = .agg #[.int .i32 x, .int .i64 s, .int .i64 t]
  | 14, u, _ => u = .agg #[.int .i32 32, .int .i64 0, .int .i64 0]
  | 15, u, _ => u = .bool dd
  | 16, u, _ => u = .bool dd
  | _, _, _ => True
/-- what shown answers -/
def ShPost (base : Nat) (a : Option Addr) (n c : Nat) (l : List Cel) (b : Bool) (w : World) (e : Ending) (w' : World) : Prop := ∃ m, e = .returned (.slice a m c) ∧ m ≤ n ∧ l.take m = trimS ⟨l, b⟩ ∧ Below base w w'
set_option maxRecDepth 100000 in
set_option maxHeartbeats 8000000 in
theorem shown_any (a : Option Addr) (n c : Nat) (wr0 : Bool) (l : List Cel) (w : World) (hI : CelsIn .i32 a n l w) (hn : (n : Int) ≤ 1000000) (hfit : n ≤ c) (hmx : (c : Int) ≤ 9223372036854775807) :
    Calls Tryd.prog 59 #[.agg #[.slice a n c, .bool wr0]] w (ShPost w.heap.size a n c l wr0 w) := by
  obtain ⟨rb, hrb⟩ : ∃ rb, w.heap.size = rb := ⟨_, rfl⟩
  rw [hrb]
  obtain ⟨P, hP⟩ : ∃ P, ShPost rb a n c l wr0 w = P := ⟨_, rfl⟩
  rw [hP]
  have HP := Lib.hid hP
  have HLn := Lib.hid hI.len
  have HI0 := Lib.hid hI
  obtain ⟨w1, hw1⟩ : ∃ w1, (w.alloc (.cells #[.slice a n c, .bool wr0] 27)) = w1 := ⟨_, rfl⟩
  have hb1 : Below rb w w1 := by rw [← hw1, ← hrb]; exact (Below.refl _ _).alloc (Nat.le_refl _) _
  have hr1 : RoB 27 rb (.slice a n c) wr0 w1 := by rw [← hw1, ← hrb]; exact RoB.new _ _ _ _
  have hs1 : rb + 1 ≤ w1.heap.size := by rw [← hw1, World.size_alloc, hrb]; exact Nat.le_refl _
  have c0 := hr1.c0
  have HB1 := Lib.hid hb1
  have HR1 := Lib.hid hr1
  have HS1 := Lib.hid hs1
  have HW1 := Lib.hid hw1
  have HRb := Lib.hid hrb
  clear hP hI hw1 hb1 hr1 hs1 hrb
  go_enter Tryd.func59, Tryd.ntmps59
  go_upto_region 1 with fail
  rw [HW1.out, HRb.out]
  go_wp2_with fail
  go_loopw [3] (fun i wr => ∃ j : Nat, i = .int .i64 (j : Int) ∧ j ≤ n ∧ Hid (trimS ⟨l.take j, wr0⟩ = trimS ⟨l, wr0⟩ ∧ Below (rb + 1) w1 wr)) (fun i _ => (intOf i).toNat)
  case atStart => exact ⟨n, rfl, Nat.le_refl _, Lib.hid ⟨by rw [HLn.out, List.take_length], Below.refl _ _⟩⟩
  case round =>
    obtain ⟨j, rfl, hj, HF⟩ := hrel
    have hr2 := HR1.out.below HF.out.2 (Nat.lt_succ_self rb)
    have HC0 := Lib.hid hr2.c0
    have HC1 := Lib.hid hr2.c1
    have HSz : Hid (rb + 1 ≤ wr.heap.size) := Lib.hid (Nat.le_trans HS1.out HF.out.2.size)
    have HRl : Hid (rb < wr.heap.size) := Lib.hid HSz.out
    clear hr2 c0
    by_cases hw : wr0 = true
    · subst hw
      have HFin : Hid (l.take j = trimS ⟨l, true⟩) := Lib.hid (by rw [← HF.out.1]; exact (trimS_wrapped _).symm)
      go_upto_region 2 with fail
      refine Go.Proofs.YtkggmcnocpgnbaaDoor.R.wp_region_rel (by kernel_rfl) (fun u => Below wr.heap.size wr u) (fun u v => Below u.heap.size u v) (Sh1 rb) (by rfl) (by kernel_rfl) (by kernel_rfl) ?hC ?hOk ?hop ?hdone ((Below.refl _ _).drew)
      case hC => exact fun u v h1 h2 => h1.trans (h2.mono h1.size)
      case hOk =>
        intro i u w w' h _
        unfold Sh1 at h ⊢
        split <;> first | exact True.intro | exact h
      case hop =>
        refine ⟨?_, ?_, ?_, ?_, ?_, ?_, ?_, ?_, ?_, ?_, ?_, ?_, ?_, ?_, ?_, ?_, ?_, trivial⟩
        · intro z v hz hag hdep
          refine .inl ⟨rfl, fun K hK => ?_⟩
          have d1 : z.tmps.getD 1 undef = .pointer (some ⟨rb, 0, none⟩) := hag.2.2 1 (by kernel_rfl)
          have e1 := d1
          rw [Array.getD_eq_getD_getElem?] at e1
          clear hdep hag 
          go_simp
          exact hK _ _ (Below.refl _ _) rfl
        · intro z v hz hag hdep
          refine .inl ⟨rfl, fun K hK => ?_⟩
          have d7 : z.tmps.getD 7 undef = .pointer (some ⟨rb, 1, none⟩) := hdep { on := 0, ground := .data } (by simp) rfl _ _ rfl rfl
          have e7 := d7
          rw [Array.getD_eq_getD_getElem?] at e7
          have l1 := (hz.cell (p := ⟨rb, 1, none⟩) HRl.out).trans HC1.out
          clear hz
          clear hdep hag 
          go_simp
          exact hK _ _ (Below.refl _ _) rfl
        · intro z v hz hag hdep
          refine .inl ⟨rfl, fun K hK => ?_⟩
          have d8 : z.tmps.getD 8 undef = .bool true := hdep { on := 1, ground := .data } (by simp) rfl _ _ rfl rfl
          have e8 := d8
          rw [Array.getD_eq_getD_getElem?] at e8
          clear hdep hag 
          go_simp
          exact hK _ _ (Below.refl _ _) rfl
        · intro z v hz hag hdep
          refine .inl ⟨rfl, fun K hK => ?_⟩
          have d9 : z.tmps.getD 9 undef = .bool false := hdep { on := 2, ground := .data } (by simp) rfl _ _ rfl rfl
          have e9 := d9
          rw [Array.getD_eq_getD_getElem?] at e9
          clear hdep hag 
          go_simp
          exact hK _ _ (Below.refl _ _) rfl
        · intro z v hz hag hdep
          have dg : Sh1 rb 3 (z.tmps.getD 10 undef) v := hdep { on := 3, ground := .guard } (by simp) rfl _ _ rfl rfl
          simp only [Sh1] at dg
          exact .inr ⟨Go.Proofs.YtkggmcnocpgnbaaDoor.R.unwanted_of (j := 3) rfl rfl rfl dg (by decide) (by rw [hag.2.1]; show 10 < 30; decide), Below.refl _ _, True.intro⟩
        · intro z v hz hag hdep
          have dg : Sh1 rb 3 (z.tmps.getD 10 undef) v := hdep { on := 3, ground := .guard } (by simp) rfl _ _ rfl rfl
          simp only [Sh1] at dg
          exact .inr ⟨Go.Proofs.YtkggmcnocpgnbaaDoor.R.unwanted_of (j := 3) rfl rfl rfl dg (by decide) (by rw [hag.2.1]; show 10 < 30; decide), Below.refl _ _, True.intro⟩
        · intro z v hz hag hdep
          refine .inl ⟨rfl, fun K hK => ?_⟩
          have d10 : z.tmps.getD 10 undef = .bool false := hdep { on := 3, ground := .data } (by simp) rfl _ _ rfl rfl
          have e10 := d10
          rw [Array.getD_eq_getD_getElem?] at e10
          clear hdep hag 
          go_simp
          exact hK _ _ (Below.refl _ _) rfl
        · intro z v hz hag hdep
          refine .inl ⟨rfl, fun K hK => ?_⟩
          have d13 : z.tmps.getD 13 undef = .bool false := hdep { on := 6, ground := .data } (by simp) rfl _ _ rfl rfl
          have e13 := d13
          rw [Array.getD_eq_getD_getElem?] at e13
          clear hdep hag 
          go_simp
          exact hK _ _ (Below.refl _ _) rfl
        · intro z v hz hag hdep
          have dg : Sh1 rb 7 (z.tmps.getD 14 undef) v := hdep { on := 7, ground := .guard } (by simp) rfl _ _ rfl rfl
          simp only [Sh1] at dg
          exact .inr ⟨Go.Proofs.YtkggmcnocpgnbaaDoor.R.unwanted_of (j := 7) rfl rfl rfl dg (by decide) (by rw [hag.2.1]; show 14 < 30; decide), Below.refl _ _, True.intro⟩
        · intro z v hz hag hdep
          have dg : Sh1 rb 7 (z.tmps.getD 14 undef) v := hdep { on := 7, ground := .guard } (by simp) rfl _ _ rfl rfl
          simp only [Sh1] at dg
          exact .inr ⟨Go.Proofs.YtkggmcnocpgnbaaDoor.R.unwanted_of (j := 7) rfl rfl rfl dg (by decide) (by rw [hag.2.1]; show 14 < 30; decide), Below.refl _ _, True.intro⟩
        · intro z v hz hag hdep
          have dg : Sh1 rb 7 (z.tmps.getD 14 undef) v := hdep { on := 7, ground := .guard } (by simp) rfl _ _ rfl rfl
          simp only [Sh1] at dg
          exact .inr ⟨Go.Proofs.YtkggmcnocpgnbaaDoor.R.unwanted_of (j := 7) rfl rfl rfl dg (by decide) (by rw [hag.2.1]; show 14 < 30; decide), Below.refl _ _, True.intro⟩
        · intro z v hz hag hdep
          have dg : Sh1 rb 7 (z.tmps.getD 14 undef) v := hdep { on := 7, ground := .guard } (by simp) rfl _ _ rfl rfl
          simp only [Sh1] at dg
          exact .inr ⟨Go.Proofs.YtkggmcnocpgnbaaDoor.R.unwanted_of (j := 7) rfl rfl rfl dg (by decide) (by rw [hag.2.1]; show 14 < 30; decide), Below.refl _ _, True.intro⟩
        · intro z v hz hag hdep
          have dg : Sh1 rb 7 (z.tmps.getD 14 undef) v := hdep { on := 7, ground := .guard } (by simp) rfl _ _ rfl rfl
          simp only [Sh1] at dg
          exact .inr ⟨Go.Proofs.YtkggmcnocpgnbaaDoor.R.unwanted_of (j := 7) rfl rfl rfl dg (by decide) (by rw [hag.2.1]; show 14 < 30; decide), Below.refl _ _, True.intro⟩
        · intro z v hz hag hdep
          have dg : Sh1 rb 7 (z.tmps.getD 14 undef) v := hdep { on := 7, ground := .guard } (by simp) rfl _ _ rfl rfl
          simp only [Sh1] at dg
          exact .inr ⟨Go.Proofs.YtkggmcnocpgnbaaDoor.R.unwanted_of (j := 7) rfl rfl rfl dg (by decide) (by rw [hag.2.1]; show 14 < 30; decide), Below.refl _ _, True.intro⟩
        · intro z v hz hag hdep
          have dg : Sh1 rb 7 (z.tmps.getD 14 undef) v := hdep { on := 7, ground := .guard } (by simp) rfl _ _ rfl rfl
          simp only [Sh1] at dg
          exact .inr ⟨Go.Proofs.YtkggmcnocpgnbaaDoor.R.unwanted_of (j := 7) rfl rfl rfl dg (by decide) (by rw [hag.2.1]; show 14 < 30; decide), Below.refl _ _, True.intro⟩
        · intro z v hz hag hdep
          have dg : Sh1 rb 7 (z.tmps.getD 14 undef) v := hdep { on := 7, ground := .guard } (by simp) rfl _ _ rfl rfl
          simp only [Sh1] at dg
          exact .inr ⟨Go.Proofs.YtkggmcnocpgnbaaDoor.R.unwanted_of (j := 7) rfl rfl rfl dg (by decide) (by rw [hag.2.1]; show 14 < 30; decide), Below.refl _ _, True.intro⟩
        · intro z v hz hag hdep
          refine .inl ⟨rfl, fun K hK => ?_⟩
          have d14 : z.tmps.getD 14 undef = .bool false := hdep { on := 7, ground := .data } (by simp) rfl _ _ rfl rfl
          have e14 := d14
          rw [Array.getD_eq_getD_getElem?] at e14
          clear hdep hag 
          go_simp
          exact hK _ _ (Below.refl _ _) rfl
      case hdone =>
        intro z v hz hag hok
        have d23 : z.tmps.getD 23 undef = .bool false := hok 16 _ 23 rfl rfl
        obtain ⟨uu, hu, hzz⟩ := Go.Proofs.YtkggmcnocpgnbaaDoor.R.agree_frame [7, 8, 9, 10, 11, 12, 13, 14, 15, 16, 17, 18, 19, 20, 21, 22, 23] rfl hag
        have e23 := (hu 23).trans d23
        subst hzz
        have HZ : Hid (Below (rb + 1) w1 v) := Lib.hid (HF.out.2.trans (hz.mono HSz.out))
        have hzs : rb + 1 ≤ v.heap.size := Nat.le_trans HSz.out hz.size
        have y0 := (HZ.out.cell (p := ⟨rb, 0, none⟩) (Nat.lt_succ_self rb)).trans HR1.out.c0
        clear d23 hu hag hok hz
        simp only [List.foldl_cons, List.foldl_nil]
        rw [e23]
        clear e23
        dsimp only [Exit.then]
        simp only [List.setIfInBounds_toArray, List.set_cons_succ, List.set_cons_zero]
        generalize uu 7 = u7', uu 8 = u8', uu 9 = u9', uu 10 = u10', uu 11 = u11', uu 12 = u12', uu 13 = u13', uu 14 = u14', uu 15 = u15', uu 16 = u16', uu 17 = u17', uu 18 = u18', uu 19 = u19', uu 20 = u20', uu 21 = u21', uu 22 = u22'
        clear uu
        rename_i KK aa
        apply aa
        have hjc : j ≤ c := by omega
        go_wp2_with fail
        first | (refine bodyPost_ret (v := .slice a j c) (by first | rfl | (go_simp <;> rfl)) rfl ?_) | skip
        rw [← HP.out]
        exact ⟨j, rfl, hj, HFin.out, HB1.out.trans (HZ.out.mono (by omega))⟩
    · obtain rfl : wr0 = false := by simpa using hw
      clear hw
      by_cases hj0 : j = 0
      · subst hj0
        have HFin : Hid (l.take 0 = trimS ⟨l, false⟩) := Lib.hid (by rw [← HF.out.1]; exact (trimS_nil _).symm)
        go_upto_region 2 with fail
        refine Go.Proofs.YtkggmcnocpgnbaaDoor.R.wp_region_rel (by kernel_rfl) (fun u => Below wr.heap.size wr u) (fun u v => Below u.heap.size u v) (Sh2 rb) (by rfl) (by kernel_rfl) (by kernel_rfl) ?hC ?hOk ?hop ?hdone ((Below.refl _ _).drew)
        case hC => exact fun u v h1 h2 => h1.trans (h2.mono h1.size)
        case hOk =>
          intro i u w w' h _
          unfold Sh2 at h ⊢
          split <;> first | exact True.intro | exact h
        case hop =>
          refine ⟨?_, ?_, ?_, ?_, ?_, ?_, ?_, ?_, ?_, ?_, ?_, ?_, ?_, ?_, ?_, ?_, ?_, trivial⟩
          · intro z v hz hag hdep
            refine .inl ⟨rfl, fun K hK => ?_⟩
            have d1 : z.tmps.getD 1 undef = .pointer (some ⟨rb, 0, none⟩) := hag.2.2 1 (by kernel_rfl)
            have e1 := d1
            rw [Array.getD_eq_getD_getElem?] at e1
            clear hdep hag 
            go_simp
            exact hK _ _ (Below.refl _ _) rfl
          · intro z v hz hag hdep
            refine .inl ⟨rfl, fun K hK => ?_⟩
            have d7 : z.tmps.getD 7 undef = .pointer (some ⟨rb, 1, none⟩) := hdep { on := 0, ground := .data } (by simp) rfl _ _ rfl rfl
            have e7 := d7
            rw [Array.getD_eq_getD_getElem?] at e7
            have l1 := (hz.cell (p := ⟨rb, 1, none⟩) HRl.out).trans HC1.out
            clear hz
            clear hdep hag 
            go_simp
            exact hK _ _ (Below.refl _ _) rfl
          · intro z v hz hag hdep
            refine .inl ⟨rfl, fun K hK => ?_⟩
            have d8 : z.tmps.getD 8 undef = .bool false := hdep { on := 1, ground := .data } (by simp) rfl _ _ rfl rfl
            have e8 := d8
            rw [Array.getD_eq_getD_getElem?] at e8
            clear hdep hag 
            go_simp
            exact hK _ _ (Below.refl _ _) rfl
          · intro z v hz hag hdep
            refine .inl ⟨rfl, fun K hK => ?_⟩
            have d9 : z.tmps.getD 9 undef = .bool true := hdep { on := 2, ground := .data } (by simp) rfl _ _ rfl rfl
            have e9 := d9
            rw [Array.getD_eq_getD_getElem?] at e9
            clear hdep hag 
            go_simp
            exact hK _ _ (Below.refl _ _) rfl
          · intro z v hz hag hdep
            have dg : Sh2 rb 3 (z.tmps.getD 10 undef) v := hdep { on := 3, ground := .guard } (by simp) rfl _ _ rfl rfl
            simp only [Sh2] at dg
            refine .inl ⟨Go.Proofs.YtkggmcnocpgnbaaDoor.R.wanted_of (j := 3) rfl rfl rfl dg (by rw [hag.2.1]; show 10 < 30; decide), fun K hK => ?_⟩
            have d3 : z.tmps.getD 3 undef = .int .i64 (0 : Int) := hag.2.2 3 (by kernel_rfl)
            have e3 := d3
            rw [Array.getD_eq_getD_getElem?] at e3
            clear hdep hag 
            go_simp
            exact hK _ _ (Below.refl _ _) rfl
          · intro z v hz hag hdep
            have dg : Sh2 rb 3 (z.tmps.getD 10 undef) v := hdep { on := 3, ground := .guard } (by simp) rfl _ _ rfl rfl
            simp only [Sh2] at dg
            refine .inl ⟨Go.Proofs.YtkggmcnocpgnbaaDoor.R.wanted_of (j := 3) rfl rfl rfl dg (by rw [hag.2.1]; show 10 < 30; decide), fun K hK => ?_⟩
            have d11 : z.tmps.getD 11 undef = .int .i64 (0 : Int) := hdep { on := 4, ground := .data } (by simp) rfl _ _ rfl rfl
            have e11 := d11
            rw [Array.getD_eq_getD_getElem?] at e11
            clear hdep hag 
            go_simp
            exact hK _ _ (Below.refl _ _) rfl
          · intro z v hz hag hdep
            refine .inl ⟨rfl, fun K hK => ?_⟩
            have d10 : z.tmps.getD 10 undef = .bool true := hdep { on := 3, ground := .data } (by simp) rfl _ _ rfl rfl
            have e10 := d10
            rw [Array.getD_eq_getD_getElem?] at e10
            have d12 : z.tmps.getD 12 undef = .bool false := hdep { on := 5, ground := .data } (by simp) rfl _ _ rfl rfl
            have e12 := d12
            rw [Array.getD_eq_getD_getElem?] at e12
            clear hdep hag 
            go_simp
            exact hK _ _ (Below.refl _ _) rfl
          · intro z v hz hag hdep
            refine .inl ⟨rfl, fun K hK => ?_⟩
            have d13 : z.tmps.getD 13 undef = .bool false := hdep { on := 6, ground := .data } (by simp) rfl _ _ rfl rfl
            have e13 := d13
            rw [Array.getD_eq_getD_getElem?] at e13
            clear hdep hag 
            go_simp
            exact hK _ _ (Below.refl _ _) rfl
          · intro z v hz hag hdep
            have dg : Sh2 rb 7 (z.tmps.getD 14 undef) v := hdep { on := 7, ground := .guard } (by simp) rfl _ _ rfl rfl
            simp only [Sh2] at dg
            exact .inr ⟨Go.Proofs.YtkggmcnocpgnbaaDoor.R.unwanted_of (j := 7) rfl rfl rfl dg (by decide) (by rw [hag.2.1]; show 14 < 30; decide), Below.refl _ _, True.intro⟩
          · intro z v hz hag hdep
            have dg : Sh2 rb 7 (z.tmps.getD 14 undef) v := hdep { on := 7, ground := .guard } (by simp) rfl _ _ rfl rfl
            simp only [Sh2] at dg
            exact .inr ⟨Go.Proofs.YtkggmcnocpgnbaaDoor.R.unwanted_of (j := 7) rfl rfl rfl dg (by decide) (by rw [hag.2.1]; show 14 < 30; decide), Below.refl _ _, True.intro⟩
          · intro z v hz hag hdep
            have dg : Sh2 rb 7 (z.tmps.getD 14 undef) v := hdep { on := 7, ground := .guard } (by simp) rfl _ _ rfl rfl
            simp only [Sh2] at dg
            exact .inr ⟨Go.Proofs.YtkggmcnocpgnbaaDoor.R.unwanted_of (j := 7) rfl rfl rfl dg (by decide) (by rw [hag.2.1]; show 14 < 30; decide), Below.refl _ _, True.intro⟩
          · intro z v hz hag hdep
            have dg : Sh2 rb 7 (z.tmps.getD 14 undef) v := hdep { on := 7, ground := .guard } (by simp) rfl _ _ rfl rfl
            simp only [Sh2] at dg
            exact .inr ⟨Go.Proofs.YtkggmcnocpgnbaaDoor.R.unwanted_of (j := 7) rfl rfl rfl dg (by decide) (by rw [hag.2.1]; show 14 < 30; decide), Below.refl _ _, True.intro⟩
          · intro z v hz hag hdep
            have dg : Sh2 rb 7 (z.tmps.getD 14 undef) v := hdep { on := 7, ground := .guard } (by simp) rfl _ _ rfl rfl
            simp only [Sh2] at dg
            exact .inr ⟨Go.Proofs.YtkggmcnocpgnbaaDoor.R.unwanted_of (j := 7) rfl rfl rfl dg (by decide) (by rw [hag.2.1]; show 14 < 30; decide), Below.refl _ _, True.intro⟩
          · intro z v hz hag hdep
            have dg : Sh2 rb 7 (z.tmps.getD 14 undef) v := hdep { on := 7, ground := .guard } (by simp) rfl _ _ rfl rfl
            simp only [Sh2] at dg
            exact .inr ⟨Go.Proofs.YtkggmcnocpgnbaaDoor.R.unwanted_of (j := 7) rfl rfl rfl dg (by decide) (by rw [hag.2.1]; show 14 < 30; decide), Below.refl _ _, True.intro⟩
          · intro z v hz hag hdep
            have dg : Sh2 rb 7 (z.tmps.getD 14 undef) v := hdep { on := 7, ground := .guard } (by simp) rfl _ _ rfl rfl
            simp only [Sh2] at dg
            exact .inr ⟨Go.Proofs.YtkggmcnocpgnbaaDoor.R.unwanted_of (j := 7) rfl rfl rfl dg (by decide) (by rw [hag.2.1]; show 14 < 30; decide), Below.refl _ _, True.intro⟩
          · intro z v hz hag hdep
            have dg : Sh2 rb 7 (z.tmps.getD 14 undef) v := hdep { on := 7, ground := .guard } (by simp) rfl _ _ rfl rfl
            simp only [Sh2] at dg
            exact .inr ⟨Go.Proofs.YtkggmcnocpgnbaaDoor.R.unwanted_of (j := 7) rfl rfl rfl dg (by decide) (by rw [hag.2.1]; show 14 < 30; decide), Below.refl _ _, True.intro⟩
          · intro z v hz hag hdep
            refine .inl ⟨rfl, fun K hK => ?_⟩
            have d14 : z.tmps.getD 14 undef = .bool false := hdep { on := 7, ground := .data } (by simp) rfl _ _ rfl rfl
            have e14 := d14
            rw [Array.getD_eq_getD_getElem?] at e14
            clear hdep hag 
            go_simp
            exact hK _ _ (Below.refl _ _) rfl
        case hdone =>
          intro z v hz hag hok
          have d23 : z.tmps.getD 23 undef = .bool false := hok 16 _ 23 rfl rfl
          obtain ⟨uu, hu, hzz⟩ := Go.Proofs.YtkggmcnocpgnbaaDoor.R.agree_frame [7, 8, 9, 10, 11, 12, 13, 14, 15, 16, 17, 18, 19, 20, 21, 22, 23] rfl hag
          have e23 := (hu 23).trans d23
          subst hzz
          have HZ : Hid (Below (rb + 1) w1 v) := Lib.hid (HF.out.2.trans (hz.mono HSz.out))
          have hzs : rb + 1 ≤ v.heap.size := Nat.le_trans HSz.out hz.size
          have y0 := (HZ.out.cell (p := ⟨rb, 0, none⟩) (Nat.lt_succ_self rb)).trans HR1.out.c0
          clear d23 hu hag hok hz
          simp only [List.foldl_cons, List.foldl_nil]
          rw [e23]
          clear e23
          dsimp only [Exit.then]
          simp only [List.setIfInBounds_toArray, List.set_cons_succ, List.set_cons_zero]
          generalize uu 7 = u7', uu 8 = u8', uu 9 = u9', uu 10 = u10', uu 11 = u11', uu 12 = u12', uu 13 = u13', uu 14 = u14', uu 15 = u15', uu 16 = u16', uu 17 = u17', uu 18 = u18', uu 19 = u19', uu 20 = u20', uu 21 = u21', uu 22 = u22'
          clear uu
          rename_i KK aa
          apply aa
          go_wp2_with fail
          first | (refine bodyPost_ret (v := .slice a 0 c) (by first | rfl | (go_simp <;> rfl)) rfl ?_) | skip
          rw [← HP.out]
          exact ⟨0, rfl, hj, HFin.out, HB1.out.trans (HZ.out.mono (by omega))⟩
      · obtain ⟨k, rfl⟩ : ∃ k, j = k + 1 := ⟨j - 1, by omega⟩
        have hkl : k < l.length := by rw [← HLn.out]; omega
        obtain ⟨b, off, rfl, hbl, hAt⟩ := HI0.out.at_.resolve_left (by intro e; rw [e] at hkl; simp at hkl)
        rw [HRb.out] at hbl
        have hat := ((hAt k _ (List.getElem?_eq_getElem hkl)).block (HB1.out.block b hbl)).block (HF.out.2.block b (by omega))
        have hs := take_last l k hkl
        obtain ⟨cl, hcl⟩ : ∃ cl, l[k] = cl := ⟨_, rfl⟩
        rw [hcl] at hat hs
        have HFs : Hid (trimS ⟨l.take k ++ [cl], false⟩ = trimS ⟨l, false⟩) := Lib.hid (by rw [← hs]; exact HF.out.1)
        have HTk := Lib.hid hs
        obtain ⟨x, s, t⟩ := cl
        have HX0 := Lib.hid hat.c0
        have HX1 := Lib.hid hat.c1
        have HX2 := Lib.hid hat.c2
        have HBl : Hid (b < wr.heap.size) := Lib.hid (by have := HSz.out; omega)
        have HKn : Hid ((k : Int) < n) := Lib.hid (by omega)
        obtain ⟨dd, hdd⟩ : ∃ dd, (decide (x = 32) && decide (s = 0) && decide (t = 0)) = dd := ⟨_, rfl⟩
        have HDd := Lib.hid hdd
        clear hAt hat hs hcl hdd hbl hj0
        go_upto_region 2 with fail
        refine Go.Proofs.YtkggmcnocpgnbaaDoor.R.wp_region_rel (by kernel_rfl) (fun u => Below wr.heap.size wr u) (fun u v => Below u.heap.size u v) (Sh3 rb b off n c k x s t dd) (by rfl) (by kernel_rfl) (by kernel_rfl) ?hC ?hOk ?hop ?hdone ((Below.refl _ _).drew)
        case hC => exact fun u v h1 h2 => h1.trans (h2.mono h1.size)
        case hOk =>
          intro i u w w' h _
          unfold Sh3 at h ⊢
          split <;> first | exact True.intro | exact h
        case hop =>
          refine ⟨?_, ?_, ?_, ?_, ?_, ?_, ?_, ?_, ?_, ?_, ?_, ?_, ?_, ?_, ?_, ?_, ?_, trivial⟩
          · intro z v hz hag hdep
            refine .inl ⟨rfl, fun K hK => ?_⟩
            have d1 : z.tmps.getD 1 undef = .pointer (some ⟨rb, 0, none⟩) := hag.2.2 1 (by kernel_rfl)
            have e1 := d1
            rw [Array.getD_eq_getD_getElem?] at e1
            clear hdep hag 
            go_simp
            exact hK _ _ (Below.refl _ _) rfl
          · intro z v hz hag hdep
            refine .inl ⟨rfl, fun K hK => ?_⟩
            have d7 : z.tmps.getD 7 undef = .pointer (some ⟨rb, 1, none⟩) := hdep { on := 0, ground := .data } (by simp) rfl _ _ rfl rfl
            have e7 := d7
            rw [Array.getD_eq_getD_getElem?] at e7
            have l1 := (hz.cell (p := ⟨rb, 1, none⟩) HRl.out).trans HC1.out
            clear hz
            clear hdep hag 
            go_simp
            exact hK _ _ (Below.refl _ _) rfl
          · intro z v hz hag hdep
            refine .inl ⟨rfl, fun K hK => ?_⟩
            have d8 : z.tmps.getD 8 undef = .bool false := hdep { on := 1, ground := .data } (by simp) rfl _ _ rfl rfl
            have e8 := d8
            rw [Array.getD_eq_getD_getElem?] at e8
            clear hdep hag 
            go_simp
            exact hK _ _ (Below.refl _ _) rfl
          · intro z v hz hag hdep
            refine .inl ⟨rfl, fun K hK => ?_⟩
            have d9 : z.tmps.getD 9 undef = .bool true := hdep { on := 2, ground := .data } (by simp) rfl _ _ rfl rfl
            have e9 := d9
            rw [Array.getD_eq_getD_getElem?] at e9
            clear hdep hag 
            go_simp
            exact hK _ _ (Below.refl _ _) rfl
          · intro z v hz hag hdep
            have dg : Sh3 rb b off n c k x s t dd 3 (z.tmps.getD 10 undef) v := hdep { on := 3, ground := .guard } (by simp) rfl _ _ rfl rfl
            simp only [Sh3] at dg
            refine .inl ⟨Go.Proofs.YtkggmcnocpgnbaaDoor.R.wanted_of (j := 3) rfl rfl rfl dg (by rw [hag.2.1]; show 10 < 30; decide), fun K hK => ?_⟩
            have d3 : z.tmps.getD 3 undef = .int .i64 ((k + 1 : Nat) : Int) := hag.2.2 3 (by kernel_rfl)
            have e3 := d3
            rw [Array.getD_eq_getD_getElem?] at e3
            clear hdep hag 
            go_simp
            exact hK _ _ (Below.refl _ _) rfl
          · intro z v hz hag hdep
            have dg : Sh3 rb b off n c k x s t dd 3 (z.tmps.getD 10 undef) v := hdep { on := 3, ground := .guard } (by simp) rfl _ _ rfl rfl
            simp only [Sh3] at dg
            refine .inl ⟨Go.Proofs.YtkggmcnocpgnbaaDoor.R.wanted_of (j := 3) rfl rfl rfl dg (by rw [hag.2.1]; show 10 < 30; decide), fun K hK => ?_⟩
            have d11 : z.tmps.getD 11 undef = .int .i64 ((k + 1 : Nat) : Int) := hdep { on := 4, ground := .data } (by simp) rfl _ _ rfl rfl
            have e11 := d11
            rw [Array.getD_eq_getD_getElem?] at e11
            have hd0 : decide (0 < k + 1) = true := by simp
            clear hz
            clear hdep hag 
            go_simp
            exact hK _ _ (Below.refl _ _) rfl
          · intro z v hz hag hdep
            refine .inl ⟨rfl, fun K hK => ?_⟩
            have d10 : z.tmps.getD 10 undef = .bool true := hdep { on := 3, ground := .data } (by simp) rfl _ _ rfl rfl
            have e10 := d10
            rw [Array.getD_eq_getD_getElem?] at e10
            have d12 : z.tmps.getD 12 undef = .bool true := hdep { on := 5, ground := .data } (by simp) rfl _ _ rfl rfl
            have e12 := d12
            rw [Array.getD_eq_getD_getElem?] at e12
            clear hdep hag 
            go_simp
            exact hK _ _ (Below.refl _ _) rfl
          · intro z v hz hag hdep
            refine .inl ⟨rfl, fun K hK => ?_⟩
            have d13 : z.tmps.getD 13 undef = .bool true := hdep { on := 6, ground := .data } (by simp) rfl _ _ rfl rfl
            have e13 := d13
            rw [Array.getD_eq_getD_getElem?] at e13
            clear hdep hag 
            go_simp
            exact hK _ _ (Below.refl _ _) rfl
          · intro z v hz hag hdep
            have dg : Sh3 rb b off n c k x s t dd 7 (z.tmps.getD 14 undef) v := hdep { on := 7, ground := .guard } (by simp) rfl _ _ rfl rfl
            simp only [Sh3] at dg
            refine .inl ⟨Go.Proofs.YtkggmcnocpgnbaaDoor.R.wanted_of (j := 7) rfl rfl rfl dg (by rw [hag.2.1]; show 14 < 30; decide), fun K hK => ?_⟩
            have d1 : z.tmps.getD 1 undef = .pointer (some ⟨rb, 0, none⟩) := hag.2.2 1 (by kernel_rfl)
            have e1 := d1
            rw [Array.getD_eq_getD_getElem?] at e1
            clear hdep hag 
            go_simp
            exact hK _ _ (Below.refl _ _) rfl
          · intro z v hz hag hdep
            have dg : Sh3 rb b off n c k x s t dd 7 (z.tmps.getD 14 undef) v := hdep { on := 7, ground := .guard } (by simp) rfl _ _ rfl rfl
            simp only [Sh3] at dg
            refine .inl ⟨Go.Proofs.YtkggmcnocpgnbaaDoor.R.wanted_of (j := 7) rfl rfl rfl dg (by rw [hag.2.1]; show 14 < 30; decide), fun K hK => ?_⟩
            have d15 : z.tmps.getD 15 undef = .pointer (some ⟨rb, 0, none⟩) := hdep { on := 8, ground := .data } (by simp) rfl _ _ rfl rfl
            have e15 := d15
            rw [Array.getD_eq_getD_getElem?] at e15
            have l1 := (hz.cell (p := ⟨rb, 0, none⟩) HRl.out).trans HC0.out
            clear hz
            clear hdep hag 
            go_simp
            exact hK _ _ (Below.refl _ _) rfl
          · intro z v hz hag hdep
            have dg : Sh3 rb b off n c k x s t dd 7 (z.tmps.getD 14 undef) v := hdep { on := 7, ground := .guard } (by simp) rfl _ _ rfl rfl
            simp only [Sh3] at dg
            refine .inl ⟨Go.Proofs.YtkggmcnocpgnbaaDoor.R.wanted_of (j := 7) rfl rfl rfl dg (by rw [hag.2.1]; show 14 < 30; decide), fun K hK => ?_⟩
            have d3 : z.tmps.getD 3 undef = .int .i64 ((k + 1 : Nat) : Int) := hag.2.2 3 (by kernel_rfl)
            have e3 := d3
            rw [Array.getD_eq_getD_getElem?] at e3
            clear hdep hag 
            go_simp
            exact hK _ _ (Below.refl _ _) rfl
          · intro z v hz hag hdep
            have dg : Sh3 rb b off n c k x s t dd 7 (z.tmps.getD 14 undef) v := hdep { on := 7, ground := .guard } (by simp) rfl _ _ rfl rfl
            simp only [Sh3] at dg
            refine .inl ⟨Go.Proofs.YtkggmcnocpgnbaaDoor.R.wanted_of (j := 7) rfl rfl rfl dg (by rw [hag.2.1]; show 14 < 30; decide), fun K hK => ?_⟩
            have d17 : z.tmps.getD 17 undef = .int .i64 ((k + 1 : Nat) : Int) := hdep { on := 10, ground := .data } (by simp) rfl _ _ rfl rfl
            have e17 := d17
            rw [Array.getD_eq_getD_getElem?] at e17
            have hsub : ((k + 1 : Nat) : Int) - 1 = (k : Int) := by omega
            have hkm : (k : Int) ≤ 1000000 := by have := HKn.out; omega
            clear hdep hag hz
            go_simp
            exact hK _ _ (Below.refl _ _) (congrArg (Value.int .i64) (by rw [IntKind.wrap_i64]; omega))
          · intro z v hz hag hdep
            have dg : Sh3 rb b off n c k x s t dd 7 (z.tmps.getD 14 undef) v := hdep { on := 7, ground := .guard } (by simp) rfl _ _ rfl rfl
            simp only [Sh3] at dg
            refine .inl ⟨Go.Proofs.YtkggmcnocpgnbaaDoor.R.wanted_of (j := 7) rfl rfl rfl dg (by rw [hag.2.1]; show 14 < 30; decide), fun K hK => ?_⟩
            have d16 : z.tmps.getD 16 undef = .slice (some ⟨b, off, none⟩) n c := hdep { on := 9, ground := .data } (by simp) rfl _ _ rfl rfl
            have e16 := d16
            rw [Array.getD_eq_getD_getElem?] at e16
            have d18 : z.tmps.getD 18 undef = .int .i64 (k : Int) := hdep { on := 11, ground := .data } (by simp) rfl _ _ rfl rfl
            have e18 := d18
            rw [Array.getD_eq_getD_getElem?] at e18
            have hkn := HKn.out
            clear hz
            clear hdep hag 
            go_simp
            exact hK _ _ (Below.refl _ _) rfl
          · intro z v hz hag hdep
            have dg : Sh3 rb b off n c k x s t dd 7 (z.tmps.getD 14 undef) v := hdep { on := 7, ground := .guard } (by simp) rfl _ _ rfl rfl
            simp only [Sh3] at dg
            refine .inl ⟨Go.Proofs.YtkggmcnocpgnbaaDoor.R.wanted_of (j := 7) rfl rfl rfl dg (by rw [hag.2.1]; show 14 < 30; decide), fun K hK => ?_⟩
            have d19 : z.tmps.getD 19 undef = .pointer (some ⟨b, off + k * 3, none⟩) := hdep { on := 12, ground := .data } (by simp) rfl _ _ rfl rfl
            have e19 := d19
            rw [Array.getD_eq_getD_getElem?] at e19
            have l0 : v.cell? ⟨b, off + k * 3, none⟩ = some (.int .i32 x) := (hz.cell (p := ⟨b, off + k * 3, none⟩) HBl.out).trans HX0.out
            have l1 : v.cell? ⟨b, off + k * 3 + 1, none⟩ = some (.int .i64 s) := (hz.cell (p := ⟨b, off + k * 3 + 1, none⟩) HBl.out).trans HX1.out
            have l2 : v.cell? ⟨b, off + k * 3 + 2, none⟩ = some (.int .i64 t) := (hz.cell (p := ⟨b, off + k * 3 + 2, none⟩) HBl.out).trans HX2.out
            clear hz
            clear hdep hag 
            go_simp
            exact hK _ _ (Below.refl _ _) rfl
          · intro z v hz hag hdep
            have dg : Sh3 rb b off n c k x s t dd 7 (z.tmps.getD 14 undef) v := hdep { on := 7, ground := .guard } (by simp) rfl _ _ rfl rfl
            simp only [Sh3] at dg
            refine .inl ⟨Go.Proofs.YtkggmcnocpgnbaaDoor.R.wanted_of (j := 7) rfl rfl rfl dg (by rw [hag.2.1]; show 14 < 30; decide), fun K hK => ?_⟩
            clear hdep hag hz
            go_simp
            refine (blank_any 0 v).mono ?_
            rintro e w' ⟨rfl, h1⟩
            exact hK _ _ h1 rfl
          · intro z v hz hag hdep
            have dg : Sh3 rb b off n c k x s t dd 7 (z.tmps.getD 14 undef) v := hdep { on := 7, ground := .guard } (by simp) rfl _ _ rfl rfl
            simp only [Sh3] at dg
            refine .inl ⟨Go.Proofs.YtkggmcnocpgnbaaDoor.R.wanted_of (j := 7) rfl rfl rfl dg (by rw [hag.2.1]; show 14 < 30; decide), fun K hK => ?_⟩
            have d20 : z.tmps.getD 20 undef = .agg #[.int .i32 x, .int .i64 s, .int .i64 t] := hdep { on := 13, ground := .data } (by simp) rfl _ _ rfl rfl
            have e20 := d20
            rw [Array.getD_eq_getD_getElem?] at e20
            have d21 : z.tmps.getD 21 undef = .agg #[.int .i32 32, .int .i64 0, .int .i64 0] := hdep { on := 14, ground := .data } (by simp) rfl _ _ rfl rfl
            have e21 := d21
            rw [Array.getD_eq_getD_getElem?] at e21
            clear hdep hag hz
            go_simp
            have hk := hK (.bool dd) v (Below.refl _ _) rfl
            have hdd := HDd.out
            by_cases hx : x = 32
            · rw [if_pos hx]
              by_cases hs : s = 0
              · rw [if_pos hs]
                by_cases ht : t = 0
                · rw [if_pos ht]; rw [show dd = true by rw [← hdd]; simp [hx, hs, ht]] at hk; exact hk
                · rw [if_neg ht]; rw [show dd = false by rw [← hdd]; simp [ht]] at hk; exact hk
              · rw [if_neg hs]; rw [show dd = false by rw [← hdd]; simp [hs]] at hk; exact hk
            · rw [if_neg hx]; rw [show dd = false by rw [← hdd]; simp [hx]] at hk; exact hk
          · intro z v hz hag hdep
            refine .inl ⟨rfl, fun K hK => ?_⟩
            have d14 : z.tmps.getD 14 undef = .bool true := hdep { on := 7, ground := .data } (by simp) rfl _ _ rfl rfl
            have e14 := d14
            rw [Array.getD_eq_getD_getElem?] at e14
            have d22 : z.tmps.getD 22 undef = .bool dd := hdep { on := 15, ground := .data } (by simp) rfl _ _ rfl rfl
            have e22 := d22
            rw [Array.getD_eq_getD_getElem?] at e22
            clear hdep hag 
            go_simp
            exact hK _ _ (Below.refl _ _) rfl
        case hdone =>
          intro z v hz hag hok
          have d23 : z.tmps.getD 23 undef = .bool dd := hok 16 _ 23 rfl rfl
          obtain ⟨uu, hu, hzz⟩ := Go.Proofs.YtkggmcnocpgnbaaDoor.R.agree_frame [7, 8, 9, 10, 11, 12, 13, 14, 15, 16, 17, 18, 19, 20, 21, 22, 23] rfl hag
          have e23 := (hu 23).trans d23
          subst hzz
          have HZ : Hid (Below (rb + 1) w1 v) := Lib.hid (HF.out.2.trans (hz.mono HSz.out))
          have hzs : rb + 1 ≤ v.heap.size := Nat.le_trans HSz.out hz.size
          have y0 := (HZ.out.cell (p := ⟨rb, 0, none⟩) (Nat.lt_succ_self rb)).trans HR1.out.c0
          clear d23 hu hag hok hz
          simp only [List.foldl_cons, List.foldl_nil]
          rw [e23]
          clear e23
          dsimp only [Exit.then]
          simp only [List.setIfInBounds_toArray, List.set_cons_succ, List.set_cons_zero]
          generalize uu 7 = u7', uu 8 = u8', uu 9 = u9', uu 10 = u10', uu 11 = u11', uu 12 = u12', uu 13 = u13', uu 14 = u14', uu 15 = u15', uu 16 = u16', uu 17 = u17', uu 18 = u18', uu 19 = u19', uu 20 = u20', uu 21 = u21', uu 22 = u22'
          clear uu
          have hjc : k + 1 ≤ c := by omega
          have hsub : ((k + 1 : Nat) : Int) - 1 = (k : Int) := by omega
          cases dd
          · have HFin : Hid (l.take (k + 1) = trimS ⟨l, false⟩) := Lib.hid (by
              rw [HTk.out, ← HFs.out]
              refine (trimS_stop _ _ (fun e => ?_)).symm
              have h := HDd.out
              injection e with e1 e2 e3
              rw [e1, e2, e3] at h
              simp at h)
            rename_i KK aa
            apply aa
            go_wp2_with fail
            first | (refine bodyPost_ret (v := .slice (some ⟨b, off, none⟩) (k + 1) c) (by first | rfl | (go_simp <;> rfl)) rfl ?_) | skip
            rw [← HP.out]
            exact ⟨k + 1, rfl, hj, HFin.out, HB1.out.trans (HZ.out.mono (by omega))⟩
          · have HFin : Hid (trimS ⟨l.take k, false⟩ = trimS ⟨l, false⟩) := Lib.hid (by
              have h := HDd.out
              simp at h
              rw [← HFs.out, h.1.1, h.1.2, h.2]
              exact (trimS_blank _).symm)
            rename_i KK aa
            apply aa
            go_wp2_with fail
            go_roundw
            case rel => exact ⟨k, by go_num, by omega, Lib.hid ⟨HFin.out, HZ.out⟩⟩
            case measure => simp [intOf]

/-- what Glyphs answers -/
def GlyPost (base : Nat) (gs : List (Int × Int)) (w : World) (e : Ending) (w' : World) : Prop := ∃ a n c, e = .returned (.slice a n c) ∧ PairsIn .i32 a n c gs w' ∧ Below base w w'
set_option maxRecDepth 100000 in
set_option maxHeartbeats 8000000 in
theorem glyphs_any (a : Option Addr) (n c : Nat) (wr0 : Bool) (l : List Cel) (w : World) (hI : CelsIn .i32 a n l w) (hn : (n : Int) ≤ 1000000) (hfit : n ≤ c) (hmx : (c : Int) ≤ 9223372036854775807) :
    Calls Tryd.prog 32 #[.agg #[.slice a n c, .bool wr0]] w (GlyPost w.heap.size (glyphs ⟨l, wr0⟩) w) := by
  obtain ⟨rb, hrb⟩ : ∃ rb, w.heap.size = rb := ⟨_, rfl⟩
  rw [hrb]
  obtain ⟨P, hP⟩ : ∃ P, GlyPost rb (glyphs ⟨l, wr0⟩) w = P := ⟨_, rfl⟩
  rw [hP]
  have HP := Lib.hid hP
  have HLn := Lib.hid hI.len
  obtain ⟨w1, hw1⟩ : ∃ w1, w.alloc (.cells #[.slice a n c, .bool wr0] 27) = w1 := ⟨_, rfl⟩
  have hb1 : Below rb w w1 := by rw [← hw1, ← hrb]; exact (Below.refl _ _).alloc (Nat.le_refl _) _
  have hr1 : RoB 27 rb (.slice a n c) wr0 w1 := by rw [← hw1, ← hrb]; exact RoB.new _ _ _ _
  have hs1 : w1.heap.size = rb + 1 := by rw [← hw1, World.size_alloc, hrb]
  have c0 := hr1.c0
  have c1 := hr1.c1
  have HI0 := Lib.hid hI
  have HSh := Lib.hid (shown_any a n c wr0 l w1 (hI.belowAll (by rw [hrb]; exact hb1)) hn hfit hmx)
  have HB1 := Lib.hid hb1
  have HR1 := Lib.hid hr1
  have HS1 := Lib.hid hs1
  have HW1 := Lib.hid hw1
  have HRb := Lib.hid hrb
  clear hP hI hw1 hb1 hr1 hs1 hrb
  go_enter Tryd.func32, Tryd.ntmps32
  go_upto_region 1 with fail
  rw [HW1.out, HRb.out]
  go_wp2_with (go_at_call 59; refine HSh.out.mono ?_; rintro e w2 ⟨j, rfl, hj, htr, hb2⟩; have HTr := Lib.hid htr; have HB2 := Lib.hid hb2; have HG : Hid (glyphs ⟨l, wr0⟩ = glF (l.take j)) := Lib.hid (by rw [glyphs_glF, HTr.out]); clear hb2 htr c0 c1)
  have hlw2 : rb + 1 ≤ w2.heap.size := by have := HB2.out.size; have := HS1.out; omega
  have HB2' : Hid (Below (rb + 1) w1 w2) := Lib.hid (HB2.out.mono (by rw [HS1.out]; exact Nat.le_refl _))
  go_loopw [3, 9] (fun o i wq => ∃ k : Nat, i = .int .i64 (k : Int) ∧ k ≤ j ∧ rb + 1 ≤ wq.heap.size ∧ Hid (OwnP .i32 61 (rb + 1) o (glF (l.take k)) wq ∧ Below (rb + 1) w1 wq)) (fun _ i _ => j - (intOf i).toNat)
  case atStart => exact ⟨0, rfl, by omega, hlw2, Lib.hid ⟨OwnP.nil _ _ _ _, HB2'.out⟩⟩
  case round =>
    obtain ⟨k, rfl, hk, hlw, HQ⟩ := hrel
    by_cases hlt : k < j
    · have hd9 : decide (k < j) = true := decide_eq_true hlt
      have hkl : k < l.length := by rw [← HLn.out]; omega
      obtain ⟨b9, o9, rfl, hbl9, hAt9⟩ := HI0.out.at_.resolve_left (by intro e; rw [e] at hkl; simp at hkl)
      rw [HRb.out] at hbl9
      have hat9 := ((hAt9 k _ (List.getElem?_eq_getElem hkl)).block (HB1.out.block b9 hbl9)).block (HQ.out.2.block b9 (by omega))
      have hsn := take_last l k hkl
      obtain ⟨cl, hcl⟩ : ∃ cl, l[k] = cl := ⟨_, rfl⟩
      rw [hcl] at hat9 hsn
      have HSn : Hid (glF (l.take (k + 1)) = glF (l.take k) ++ glF [cl]) := Lib.hid (by rw [hsn, glF_append])
      have HLe : Hid (((glF (l.take k)).length : Int) ≤ 1000000) := Lib.hid (by have := glF_length (l.take k); rw [List.length_take] at this; omega)
      obtain ⟨x9, s9, t9⟩ := cl
      have m0 := hat9.c0
      have m1 := hat9.c1
      have m2 := hat9.c2
      simp only at m0 m1 m2
      obtain ⟨nb, hnb⟩ : ∃ nb, wr.heap.size = nb := ⟨_, rfl⟩
      obtain ⟨w5, hw5⟩ : ∃ w5, wr.alloc (.cells #[.int .i32 x9, .int .i64 s9, .int .i64 t9] 105) = w5 := ⟨_, rfl⟩
      have hblk5 : w5.heap[nb]? = some (.cells #[.int .i32 x9, .int .i64 s9, .int .i64 t9] 105 (0, 0)) := by rw [← hw5, ← hnb]; exact World.alloc_heap_new _ _
      have hb5 : Below (rb + 1) w1 w5 := by rw [← hw5]; exact HQ.out.2.alloc hlw _
      have hO5 := HQ.out.1.alloc (.cells #[.int .i32 x9, .int .i64 s9, .int .i64 t9] 105)
      rw [hw5] at hO5
      have hz5 : w5.heap.size = nb + 1 := by rw [← hw5, World.size_alloc, hnb]
      have e0'' : w5.cell? ⟨nb, 0, none⟩ = some (.int .i32 x9) := by simp [World.cell?, hblk5]
      have e1'' : w5.cell? ⟨nb, 1, none⟩ = some (.int .i64 s9) := by simp [World.cell?, hblk5]
      have e2'' : w5.cell? ⟨nb, 2, none⟩ = some (.int .i64 t9) := by simp [World.cell?, hblk5]
      have HW5 := Lib.hid hw5
      have HNb := Lib.hid hnb
      have HO5 := Lib.hid hO5
      have HB5 := Lib.hid hb5
      have hlw5 : rb + 1 ≤ w5.heap.size := by omega
      clear hAt9 hat9 hsn hcl hblk5 hb5 hO5 hz5 hw5 hnb
      by_cases hp : t9 = 0 ∨ t9 = 1
      · have HSy : Hid (glF (l.take (k + 1)) = glF (l.take k) ++ [(x9, s9)]) := Lib.hid (by rw [HSn.out, glF_yes _ hp])
        rcases hp with rfl | rfl
        all_goals
          go_upto_region 5 with fail
          rw [HW5.out, HNb.out]
          clear m0 m1 m2
          go_wp2_with (at_builtin; refine wpList_append_pair gluT rfl _ _ rfl rfl (rb + 1) _ (glF (l.take k)) (x9, s9) w5.heap.size rfl rfl (HO5.out.alloc _) (by rw [World.cell?_alloc_new]; rfl) (by rw [World.cell?_alloc_new]; rfl) HLe.out (by rw [World.size_alloc]; omega) ?_)
          intro v' w' hown hgr
          have hbel := (HB5.out.alloc hlw5 _).grown hgr (by rw [World.size_alloc]; omega) (fun q hq => (HO5.out.ownBlock q hq).1)
          have hlw' : rb + 1 ≤ w'.heap.size := by have := hgr.size; rw [World.size_alloc] at this; omega
          rw [← HSy.out] at hown
          have HI' : Hid (OwnP .i32 61 (rb + 1) v' (glF (l.take (k + 1))) w' ∧ Below (rb + 1) w1 w') := Lib.hid ⟨hown, hbel⟩
          clear hown hbel hgr
          go_wp2
          go_roundw
          case rel => exact ⟨k + 1, by go_num, by omega, hlw', HI'⟩
          case measure => simp [intOf]; omega
      · have HI' : Hid (OwnP .i32 61 (rb + 1) u3 (glF (l.take (k + 1))) w5 ∧ Below (rb + 1) w1 w5) := Lib.hid ⟨by rw [HSn.out, glF_no _ hp, List.append_nil]; exact HO5.out, HB5.out⟩
        have p0 : (t9 == 0) = false := by simp; exact fun e => hp (.inl e)
        have p1 : (t9 == 1) = false := by simp; exact fun e => hp (.inr e)
        clear hp
        go_upto_region 5 with fail
        rw [HW5.out, HNb.out]
        clear m0 m1 m2 HW5 HNb
        go_wp2_with fail
        go_roundw
        case rel => exact ⟨k + 1, by go_num, by omega, hlw5, HI'⟩
        case measure => simp [intOf]; omega
    · obtain rfl : k = j := by omega
      have hd9 : decide ((k : Int) < (k : Int)) = false := by simp
      have hd8 : decide (k < k) = false := by simp
      obtain ⟨a5, c5, he5, hP5, -⟩ := HQ.out.1.shape
      obtain ⟨n5, hn5⟩ : ∃ n5, (glF (l.take k)).length = n5 := ⟨_, rfl⟩
      rw [hn5] at he5 hP5
      subst he5
      have HFin : Hid (PairsIn .i32 a5 n5 c5 (glF (l.take k)) wr ∧ Below rb w wr) := Lib.hid ⟨hP5, HB1.out.trans (HQ.out.2.mono (by omega))⟩
      clear hP5 hn5 HQ
      go_wp2_with fail
      rw [← HP.out, HG.out]
      exact ⟨a5, n5, c5, rfl, HFin.out.1, HFin.out.2⟩

end Go.Proofs.YtkggmcnocpgnbaaDoor.K
