/- The contract of the program's Fill. -/
import Derived.Test.YtkggmcnocpgnbaaDoorMerged5
namespace Go.Proofs.YtkggmcnocpgnbaaDoor.K
open Go.RowKit

def fil (s : Int) : Cel := ⟨32, s, 3⟩
theorem fill_set (l : List Cel) (s : Int) (h : 0 < l.length) : mend (l.set (l.length - 1) (fil s)) = fillS l s := by
  unfold fillS
  rw [if_neg (by intro e; rw [e] at h; simp at h), put_one (by omega), show l.length - 1 + 1 = l.length by omega, List.drop_length, List.append_nil]
  rfl
theorem fill_nil (s : Int) : mend [] = fillS [] s := rfl

set_option maxRecDepth 100000 in
set_option maxHeartbeats 8000000 in
theorem rowFill_any (a : Option Addr) (n c : Nat) (wr0 : Bool) (l : List Cel) (s : Int) (w : World) (hI : CelsIn .i32 a n l w) (hnil : a = none → c = 0) (hn : (n : Int) ≤ 1000000) :
    Calls Tryd.prog 101 #[.agg #[.slice a n c, .bool wr0], .int .i64 s] w (RowPost .i32 105 w.heap.size (fillS l s) true w) := by
  obtain ⟨rb, hrb⟩ : ∃ rb, w.heap.size = rb := ⟨_, rfl⟩
  rw [hrb]
  obtain ⟨P, hP⟩ : ∃ P, RowPost .i32 105 rb (fillS l s) true w = P := ⟨_, rfl⟩
  rw [hP]
  have HP := Lib.hid hP
  have hln := hI.len
  have hst := St0.start 27 27 w (.slice a n c) wr0
  obtain ⟨w2, hw2⟩ : ∃ w2, (w.alloc (.cells #[.slice a n c, .bool wr0] 27)).alloc (.cells #[.slice none 0 0, .bool false] 27) = w2 := ⟨_, rfl⟩
  rw [hw2, hrb] at hst
  have c0 := hst.r.c0
  have hsz2 : rb + 2 ≤ w2.heap.size := hst.size
  have hrb2 : rb < w2.heap.size := by omega
  have HSt := Lib.hid hst
  have hI2 : CelsIn .i32 a n l w2 := hI.belowAll (by rw [hrb]; exact hst.below)
  have HCl := Lib.hid (clone_any a n c l w2 hI2 hnil hn)
  have HW2 := Lib.hid hw2
  have HRb := Lib.hid hrb
  have HLn := Lib.hid hln
  clear hP hst hI hI2 hnil hw2 hrb hln
  go_enter Tryd.func101, Tryd.ntmps101
  go_upto_region 1 with fail
  rw [HW2.out, HRb.out]
  go_upto_region 2 with (go_at_call 82; refine HCl.out.mono ?_; rintro e w3 ⟨v3, rfl, hO3, hb3⟩)
  obtain ⟨a3, c3, rfl, hin3, hblk3, -, -, hmx3⟩ := hO3.shape
  have HSt3 := Lib.hid (HSt.out.more (hb3.mono hsz2))
  rw [← HLn.out] at hin3 ⊢
  have HO3 : Hid (OwnC .i32 105 (rb + 2) (.slice a3 n c3) l w3) := Lib.hid (by
    have h := hO3.weaken hsz2
    rw [← HLn.out] at h
    exact h)
  have HBk : Hid (∀ b off, a3 = some ⟨b, off, none⟩ → rb + 2 ≤ b ∧ off = 0) := Lib.hid (fun b off e => by have := hblk3 b off e; exact ⟨Nat.le_trans hsz2 this.1, this.2.2⟩)
  have HIn3 := Lib.hid hin3
  clear hO3 hb3 hin3 hblk3 HCl c0
  have hway : (n = 0 ∧ decide (0 < n) = false) ∨ (0 < n ∧ decide (0 < n) = true) := by
    rcases Nat.eq_zero_or_pos n with h | h
    · left; exact ⟨h, by simp [h]⟩
    · right; exact ⟨h, by simp [h]⟩
  rcases hway with ⟨h0, hd⟩ | ⟨h0, hd⟩
  case' inl =>
    obtain ⟨m, hm⟩ : ∃ m, m = l := ⟨_, rfl⟩
    have HE : Hid (mend m = fillS l s ∧ m.length = n) := Lib.hid (by
      rw [hm]
      have : l = [] := List.eq_nil_of_length_eq_zero (by rw [← HLn.out]; exact h0)
      exact ⟨by rw [this]; exact fill_nil s, HLn.out.symm⟩)
    have HO4 : Hid (OwnC .i32 105 (rb + 2) (.slice a3 n c3) m w3) := Lib.hid (by rw [hm]; exact HO3.out)
    clear hm h0
    obtain ⟨w4, HSt4⟩ : ∃ w4, Hid (St0 27 27 rb (.slice a n c) wr0 w w4 ∧ w4 = w3) := ⟨w3, Lib.hid ⟨HSt3.out, rfl⟩⟩
    rw [← HSt4.out.2]
    rw [← HSt4.out.2] at HO4
    go_upto_region 5 with fail
  case' inr =>
    obtain ⟨m, hm⟩ : ∃ m, m = l.set (n - 1) (fil s) := ⟨_, rfl⟩
    have HE : Hid (mend m = fillS l s ∧ m.length = n) := Lib.hid (by
      rw [hm]
      exact ⟨by rw [HLn.out]; exact fill_set l s (by rw [← HLn.out]; exact h0), by rw [List.length_set]; exact HLn.out.symm⟩)
    have hln : 0 < l.length := by rw [← HLn.out]; exact h0
    obtain ⟨b3, o3, rfl, hb3, -⟩ := HIn3.out.at_.resolve_left (by intro e; rw [e] at hln; simp at hln)
    obtain ⟨hbb, rfl⟩ := HBk.out b3 o3 rfl
    obtain ⟨q, hq⟩ : ∃ q : Nat, n - 1 = q := ⟨_, rfl⟩
    have hq1 : (n : Int) - 1 = (q : Int) := by omega
    have hqn : (q : Int) < n := by omega
    have hqn' : q < n := by omega
    rw [hq] at hm
    have HM := Lib.hid hm
    clear hm hln hb3 hq h0
    go_upto_region 5 with (refine wpList_store_cel rowT rfl rfl _ _ rfl (rb + 2) b3 n c3 l q (fil s) rfl rfl HO3.out hqn' HLn.out.symm ?_; intro w4 h4 hg4)
    have HO4 : Hid (OwnC .i32 105 (rb + 2) (.slice (some ⟨b3, 0, none⟩) n c3) m w4) := Lib.hid (by rw [HM.out]; exact h4)
    have HSt4 : Hid (St0 27 27 rb (.slice a n c) wr0 w w4 ∧ w4 = w4) := Lib.hid ⟨HSt3.out.more (below_grown (Below.refl _ _) hg4 hbb HSt3.out.size), rfl⟩
    clear h4 hg4
  all_goals
    have HMm := Lib.hid (mended_any (rb + 2) _ m w4 HO4.out HSt4.out.1.size (by rw [HE.out.2]; exact hn))
    rw [HE.out.1] at HMm
    go_upto_region 6 with (go_at_call 84; refine HMm.out.mono ?_; rintro e w5 ⟨v5, rfl, hO5, hb5⟩; obtain ⟨a5, c5, he5, -⟩ := hO5.shape; obtain ⟨n5, hn5⟩ : ∃ n5, (fillS l s).length = n5 := ⟨_, rfl⟩; rw [hn5] at he5; subst he5)
    go_upto_region 7 with fail
    obtain ⟨w6, hw6⟩ : ∃ w6, w5.alloc (.cells #[.slice a5 n5 c5, .bool true] 27) = w6 := ⟨_, rfl⟩
    obtain ⟨g, hg⟩ : ∃ g, w5.heap.size = g := ⟨_, rfl⟩
    have hR : RoB 27 g (.slice a5 n5 c5) true w6 := by rw [← hw6, ← hg]; exact RoB.new _ _ _ _
    have hbb6 : Below (rb + 2) w4 w6 := by rw [← hw6]; exact hb5.alloc (Nat.le_trans HSt4.out.1.size hb5.size) _
    have HO6 : Hid (OwnC .i32 105 (rb + 2) (.slice a5 n5 c5) (fillS l s) w6) := Lib.hid (by rw [← hw6]; exact hO5.alloc _)
    have HSt6 := Lib.hid (HSt4.out.1.more hbb6)
    rw [hw6, hg]
    have c0 := hR.c0
    have c1 := hR.c1
    have x0 := HSt6.out.q.c0
    have x1 := HSt6.out.q.c1
    have f0 := HSt6.out.q.fr 0
    have f1 := HSt6.out.q.fr 1
    clear hw6 hg hR hbb6 hO5 hb5 hn5 HMm
    go_wp2_with fail
    refine bodyPost_ret (v := .agg #[.slice a5 n5 c5, .bool true]) (by rw [results_cell (fn := Tryd.f101) rfl]; go_simp <;> rfl) rfl ?_
    rw [← HP.out]
    exact ⟨_, rfl, (HO6.out.set2 (Nat.lt_succ_self (rb + 1)) _ _).weaken (by omega), below_set2 HSt6.out.below (by omega)⟩
end Go.Proofs.YtkggmcnocpgnbaaDoor.K
